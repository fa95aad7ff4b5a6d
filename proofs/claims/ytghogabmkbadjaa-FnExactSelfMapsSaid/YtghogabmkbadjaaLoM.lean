/- What lines have in common, as plain mathematics. No program. -/
import Derived.Test.YtghogabmkbadjaaRkAt
import Derived.Test.YtghogabmkbadjaaGc
set_option linter.unusedVariables false
set_option linter.unusedSimpArgs false
namespace Go.Proofs.Ytghogabmkbadjaa

/-- The set of the items below k of which p holds. -/
def setP (p : Nat → Bool) : Nat → Int
  | 0 => 0
  | k + 1 => if p k then orI (setP p k) (powI (k : Int)) else setP p k
theorem setP_bd (p : Nat → Bool) : ∀ k : Nat, 0 ≤ setP p k ∧ setP p k < powI k
  | 0 => ⟨Int.le_refl _, powI_pos _⟩
  | k + 1 => by
    have h := setP_bd p k
    have h2 : powI ((k + 1 : Nat) : Int) = 2 * powI k := by rw [show ((k + 1 : Nat) : Int) = (k : Int) + 1 by omega]; exact powI_succ (by omega)
    have h3 := powI_pos (k : Int)
    unfold setP
    split
    · have h4 : powI ((k : Int) + 1) = 2 * powI k := powI_succ (by omega)
      have h5 := orI_bd (a := setP p k) (b := powI (k : Int)) (n := (k : Int) + 1) h.1 (by omega) (by omega) (by omega)
      rw [h4] at h5; rw [h2]; exact h5
    · omega
theorem setP_bit (p : Nat → Bool) (j : Nat) : ∀ k : Nat, bitB (setP p k) j = (decide (j < k) && p j)
  | 0 => by simp [setP, bitB_zero]
  | k + 1 => by
    have ih := setP_bit p j k
    unfold setP
    by_cases hj : j = k
    · subst hj
      cases hp : p j
      · simp [hp, ih]
      · simp [hp, bitB_or, bitB_pow]
    · have e : decide (j < k + 1) = decide (j < k) := by rw [decide_eq_decide]; omega
      rw [e]
      cases hp : p k
      · simpa using ih
      · rw [if_pos rfl, bitB_or, bitB_pow, ih, decide_eq_false (show ¬ k = j from fun e => hj e.symm)]; simp
theorem setP_congr {p q : Nat → Bool} : ∀ k : Nat, (∀ j, j < k → p j = q j) → setP p k = setP q k
  | 0, _ => rfl
  | k + 1, h => by unfold setP; rw [setP_congr k fun j hj => h j (by omega), h k (by omega)]

/-- Whether b is behind a in all lists. -/
def behB (rs : List (List Int)) (a b : Nat) : Bool := !(a == b) && rs.all fun r => decide (atI r a < atI r b)
def meL (n : Nat) (rs : List (List Int)) : List Int := (List.range n).map fun a => setP (behB rs a) n
theorem meL_len (n : Nat) (rs : List (List Int)) : (meL n rs).length = n := by simp [meL]
theorem meL_get {n : Nat} (rs : List (List Int)) {a : Nat} (ha : a < n) : (meL n rs)[a]?.getD 0 = setP (behB rs a) n := by
  simp [meL, List.getElem?_map, List.getElem?_range, ha]
theorem meL_bd (n : Nat) (rs : List (List Int)) (a : Nat) : 0 ≤ (meL n rs)[a]?.getD 0 ∧ (meL n rs)[a]?.getD 0 < powI n := by
  rcases Nat.lt_or_ge a n with h | h
  · rw [meL_get rs h]; exact setP_bd _ _
  · rw [List.getElem?_eq_none (by rw [meL_len]; exact h)]; exact ⟨Int.le_refl _, powI_pos _⟩

/-- All items, none of which is above another one. -/
def zr (n : Nat) : List Int := List.replicate n 0
theorem zr_len (n : Nat) : (zr n).length = n := by simp [zr]
theorem zr_fin : ∀ n : Fin 7, VoP (zr n.val) ∧ du (zr n.val) = zr n.val := by decide +kernel
theorem zr_vo {n : Nat} (h : n ≤ 6) : VoP (zr n) := (zr_fin ⟨n, by omega⟩).1
theorem zr_du {n : Nat} (h : n ≤ 6) : du (zr n) = zr n := (zr_fin ⟨n, by omega⟩).2

section
variable {n : Nat} {r : List Int}
theorem zr_steps (h : lineB (zr n) r = true) : r.length = n ∧ ∀ k, k < n → stepOk (zr n) r k = true := by
  have := line_steps h
  rwa [zr_len] at this
theorem done_of {k : Nat} (hs : ∀ i, i < k → stepOk (zr n) r i = true) (j : Nat) : bitB (doneTo r k) j = true ↔ ∃ i, i < k ∧ itN r i = j := by
  induction k with
  | zero => unfold doneTo; rw [bitB_zero]; simp
  | succ k ih =>
    have h1 := (it_is (hs k (by omega))).1
    unfold doneTo
    rw [h1, bitB_or, bitB_pow, Bool.or_eq_true, ih fun i hi => hs i (by omega), decide_eq_true_eq]
    constructor
    · rintro (⟨i, hi, e⟩ | e)
      · exact ⟨i, by omega, e⟩
      · exact ⟨k, by omega, e⟩
    · rintro ⟨i, hi, e⟩
      rcases Nat.lt_or_ge i k with h | h
      · exact .inl ⟨i, h, e⟩
      · obtain rfl : i = k := by omega
        exact .inr e
theorem it_new (h : lineB (zr n) r = true) {k i : Nat} (hk : k < n) (hi : i < k) : itN r i ≠ itN r k := fun e => by
  have hs := (zr_steps h).2
  have h1 := (done_of (n := n) (k := k) (fun i hi => hs i (by omega)) (itN r k)).2 ⟨i, hi, e⟩
  have h2 := stepOk_new (hs k hk)
  rw [(it_is (hs k hk)).1] at h2
  rw [h2] at h1; cases h1
theorem it_lt (h : lineB (zr n) r = true) {k : Nat} (hk : k < n) : r[k]?.getD 0 = (itN r k : Int) ∧ itN r k < n := by
  have := it_is ((zr_steps h).2 k hk)
  rwa [zr_len] at this
theorem at_it (h : lineB (zr n) r = true) {k : Nat} (hk : k < n) : atI r (itN r k : Int) = (k : Int) := by
  refine atI_hit (fun j hj e => ?_) (by rw [(zr_steps h).1]; exact hk) (it_lt h hk).1
  rw [(it_lt h (show j < n by omega)).1] at e
  exact it_new h hk hj (by omega)
theorem it_all (hn : n ≤ 6) (h : lineB (zr n) r = true) {a : Nat} (ha : a < n) : ∃ k, k < n ∧ itN r k = a := by
  have hs := (zr_steps h).2
  have hf := line_full (zs := zr n) (ls := r) (zr_vo hn) (by rw [zr_len]; exact hs)
  rw [zr_len] at hf
  have hb := (d_is (zs := zr n) (ls := r) (k := n) hs)
  rw [zr_len] at hb
  refine (done_of (n := n) hs a).1 ?_
  rw [hb.1]
  have e : dN r n = 2 ^ n - 1 := by omega
  rw [e]
  have hp : powI (n : Int) - 1 = ((2 ^ n - 1 : Nat) : Int) := by
    have := Nat.two_pow_pos n
    unfold powI
    rw [Int.toNat_natCast]
    rw [Int.natCast_sub (by omega)]
    norm_cast
  rw [← hp, all_bits]
  simpa using ha
theorem at_of (hn : n ≤ 6) (h : lineB (zr n) r = true) {a : Nat} (ha : a < n) : ∃ k, k < n ∧ itN r k = a ∧ atI r (a : Int) = (k : Int) := by
  obtain ⟨k, hk, e⟩ := it_all hn h ha
  exact ⟨k, hk, e, by rw [← e]; exact at_it h hk⟩
theorem left_at (hn : n ≤ 6) (h : lineB (zr n) r = true) {k : Nat} (hk : k < n) (j : Nat) (hj : j < n) : bitB (leftTo n r (k + 1)) j = decide ((k : Int) < atI r (j : Int)) := by
  have hs := (zr_steps h).2
  have h1 := leftTo_bit (zs := zr n) (ls := r) j (k + 1) (fun i hi => hs i (by omega))
  rw [zr_len] at h1
  obtain ⟨q, hq, e, ea⟩ := at_of hn h hj
  rw [h1, ea, decide_eq_true hj, Bool.true_and]
  have h2 := done_of (n := n) (k := k + 1) (r := r) (fun i hi => hs i (by omega)) j
  rw [Bool.eq_iff_iff, Bool.not_eq_true', decide_eq_true_eq, ← Bool.not_eq_true, h2]
  constructor
  · intro hno
    rcases Nat.lt_or_ge k q with h3 | h3
    · omega
    · exact absurd ⟨q, by omega, e⟩ hno
  · rintro hlt ⟨i, hi, ei⟩
    have := at_it h (show i < n by omega)
    rw [ei, ea] at this
    omega

/-- The order of a line, as far as it is read. -/
def lnL (n : Nat) (r : List Int) (k : Nat) : List Int := (List.range n).map fun a : Nat => if atI r (a : Int) < (k : Int) then setP (fun b => behB [r] a b) n else 0
theorem lnL_len (n : Nat) (r : List Int) (k : Nat) : (lnL n r k).length = n := by simp [lnL]
theorem lnL_zero (hn : n ≤ 6) (h : lineB (zr n) r = true) : lnL n r 0 = zr n := by
  refine List.ext_getElem? fun a => ?_
  by_cases ha : a < n
  · obtain ⟨q, hq, e, ea⟩ := at_of hn h ha
    simp only [lnL, zr, List.getElem?_map, List.getElem?_range ha, List.getElem?_replicate, ha, if_true, Option.map_some, ea]
    rw [if_neg (by omega)]
  · rw [List.getElem?_eq_none (by rw [lnL_len]; omega), List.getElem?_eq_none (by rw [zr_len]; omega)]
theorem lnL_all (hn : n ≤ 6) (h : lineB (zr n) r = true) : lnL n r n = meL n [r] := by
  unfold lnL meL
  refine List.map_congr_left fun a ha => ?_
  obtain ⟨q, hq, e, ea⟩ := at_of hn h (List.mem_range.1 ha)
  rw [ea, if_pos (by omega)]
theorem lnL_step (hn : n ≤ 6) (h : lineB (zr n) r = true) {k : Nat} (hk : k < n) : lnL n r (k + 1) = (lnL n r k).set (itN r k) (leftTo n r (k + 1)) := by
  have hx := (it_lt h hk).2
  have hax := at_it h hk
  refine List.ext_getElem? fun a => ?_
  by_cases ha : a < n
  · obtain ⟨q, hq, e, ea⟩ := at_of hn h ha
    rw [List.getElem?_set]
    by_cases hxa : itN r k = a
    · rw [if_pos hxa, if_pos (by rw [lnL_len]; omega)]
      simp only [lnL, List.getElem?_map, List.getElem?_range ha, Option.map_some]
      rw [hxa] at hax
      rw [hax, if_pos (by omega)]
      congr 1
      refine bitB_ext (setP_bd _ _).1 (leftTo_bd _).1 fun j => ?_
      rw [setP_bit]
      by_cases hj : j < n
      · rw [left_at hn h hk j hj, decide_eq_true hj, Bool.true_and]
        unfold behB
        simp only [List.all_cons, List.all_nil, Bool.and_true, hax]
        cases hc : decide ((k : Int) < atI r (j : Int))
        · simp
        · have hc' := of_decide_eq_true hc
          have : a ≠ j := fun e => by subst e; omega
          simp [this]
      · have hb := leftTo_bd (n := n) (ls := r) (k + 1)
        have : bitB (leftTo n r (k + 1)) j = false := by
          cases e2 : bitB (leftTo n r (k + 1)) j
          · rfl
          · exact absurd (bitB_lt hb.2 e2) hj
        rw [this, decide_eq_false hj]; rfl
    · rw [if_neg hxa]
      simp only [lnL, List.getElem?_map, List.getElem?_range ha, Option.map_some, ea]
      have hqk : q ≠ k := fun e2 => hxa (by rw [← e2]; exact e)
      by_cases h3 : (q : Int) < (k : Int)
      · rw [if_pos h3, if_pos (by omega)]
      · rw [if_neg h3, if_neg (by omega)]
  · rw [List.getElem?_eq_none (by rw [lnL_len]; omega), List.getElem?_eq_none (by rw [List.length_set, lnL_len]; omega)]
end

/-- Two lists of sets, the first k of them put together. -/
def opL (f : Int → Int → Int) (xs ys : List Int) (k : Nat) : List Int := (List.range xs.length).map fun a => if a < k then f (xs[a]?.getD 0) (ys[a]?.getD 0) else xs[a]?.getD 0
theorem opL_len (f : Int → Int → Int) (xs ys : List Int) (k : Nat) : (opL f xs ys k).length = xs.length := by simp [opL]
theorem opL_zero (f : Int → Int → Int) (xs ys : List Int) : opL f xs ys 0 = xs := by
  refine List.ext_getElem? fun a => ?_
  by_cases ha : a < xs.length
  · simp [opL, List.getElem?_range, ha]
  · rw [List.getElem?_eq_none (by rw [opL_len]; omega), List.getElem?_eq_none (by omega)]
theorem opL_get (f : Int → Int → Int) (xs ys : List Int) (k : Nat) {a : Nat} (ha : a < xs.length) : (opL f xs ys k)[a]?.getD 0 = if a < k then f (xs[a]?.getD 0) (ys[a]?.getD 0) else xs[a]?.getD 0 := by
  simp [opL, List.getElem?_range, ha]
theorem opL_step (f : Int → Int → Int) (xs ys : List Int) {k : Nat} (hk : k < xs.length) : (opL f xs ys k).set k (f ((opL f xs ys k)[k]?.getD 0) (ys[k]?.getD 0)) = opL f xs ys (k + 1) := by
  refine List.ext_getElem? fun a => ?_
  by_cases ha : a < xs.length
  · rw [opL_get f xs ys k hk, if_neg (by omega), List.getElem?_set]
    by_cases hka : k = a
    · subst hka
      rw [if_pos rfl, if_pos (by rw [opL_len]; omega)]
      simp [opL, List.getElem?_range, hk]
    · rw [if_neg hka]
      simp only [opL, List.getElem?_map, List.getElem?_range ha, Option.map_some]
      by_cases h3 : a < k
      · rw [if_pos h3, if_pos (by omega)]
      · rw [if_neg h3, if_neg (by omega)]
  · rw [List.getElem?_eq_none (by rw [List.length_set, opL_len]; omega), List.getElem?_eq_none (by rw [opL_len]; omega)]
theorem behB_snoc (rs : List (List Int)) (r : List Int) (a b : Nat) : behB (rs ++ [r]) a b = (behB rs a b && behB [r] a b) := by
  unfold behB
  rw [List.all_append]
  cases (a == b) <;> simp
theorem meL_snoc (n : Nat) (rs : List (List Int)) (r : List Int) : opL andI (meL n rs) (meL n [r]) n = meL n (rs ++ [r]) := by
  refine List.ext_getElem? fun a => ?_
  by_cases ha : a < n
  · have e1 := meL_get rs ha
    have e2 := meL_get [r] ha
    simp only [opL, List.getElem?_map, List.getElem?_range (show a < (meL n rs).length by rw [meL_len]; exact ha), Option.map_some, e1, e2, if_pos ha]
    simp only [meL, List.getElem?_map, List.getElem?_range ha, Option.map_some]
    congr 1
    refine bitB_ext (andI_bd _ _).1 (setP_bd _ _).1 fun j => ?_
    rw [bitB_and, setP_bit, setP_bit, setP_bit, behB_snoc]
    cases decide (j < n) <;> simp
  · rw [List.getElem?_eq_none (by rw [opL_len, meL_len]; omega), List.getElem?_eq_none (by rw [meL_len]; omega)]

/-- Lists that are lines of all items. -/
def lnOk (n : Int) (rs : List (List Int)) : Bool := inB n 0 6 && (rs.all (lineB (zr n.toNat)) && decide (0 < rs.length))
def lnR (n : Int) (rs : List (List Int)) : List Int := if lnOk n rs then meL n.toNat rs else []
theorem lnOk_no {n : Int} {rs : List (List Int)} {k : Nat} (hk : k < rs.length) (h : lineB (zr n.toNat) (rs[k]?.getD []) = false) : lnOk n rs = false := by
  unfold lnOk
  rw [List.getElem?_eq_getElem hk, Option.getD_some] at h
  have : rs.all (lineB (zr n.toNat)) = false := by
    rw [Bool.eq_false_iff]
    intro ha
    rw [List.all_eq_true.1 ha _ (List.getElem_mem hk)] at h
    cases h
  rw [this]; simp
end Go.Proofs.Ytghogabmkbadjaa

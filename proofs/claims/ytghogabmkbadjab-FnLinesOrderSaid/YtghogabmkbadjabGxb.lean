/- Texts that several claims share, one behind the other. -/
import Derived.Test.YtghogabmkbadjabSdN
import Derived.Test.YtghogabmkbadjabGd
import Derived.Test.YtghogabmkbadjabGb
import Derived.Test.YtghogabmkbadjabGxc
import Derived.Test.YtghogabmkbadjabIsLineS
import Derived.Test.YtghogabmkbadjabGa
import Derived.Test.YtghogabmkbadjabGc
set_option linter.unusedVariables false
set_option linter.unusedSimpArgs false
/- Lines out of sides, as plain mathematics. No program. -/
namespace Go.Proofs.Ytghogabmkbadjab

def eitL (zs T : List Int) : List Int := opL orI zs T zs.length
section
variable {zs T : List Int}
theorem eitL_len : (eitL zs T).length = zs.length := opL_len _ _ _ _
theorem eitL_q (x y : Nat) (hl : T.length = zs.length) : qB (eitL zs T) x y ↔ qB zs x y ∨ qB T x y := by
  unfold qB eitL
  rcases Nat.lt_or_ge x zs.length with h | h
  · rw [opL_get _ _ _ _ h, if_pos h, bitB_or, Bool.or_eq_true]
  · rw [List.getElem?_eq_none (by rw [opL_len]; exact h), List.getElem?_eq_none h, List.getElem?_eq_none (by omega)]
    simp [bitB_zero]
/-- The order and its side make one line. -/
theorem eitL_vo (h : VoP zs) (hT : SideOf zs T) : VoP (eitL zs T) := by
  have hn6 := h.1
  have key : ∀ x y z, qB zs x y → qB T y z → qB zs x z ∨ qB T x z := fun x y z h1 h2 => by
    have hx := (q_lt2 h h1).1
    have hz := (q_lt2 hT.vo h2).2
    rw [hT.len] at hz
    have u2 := side_un hT h2
    by_cases hxz : x = z
    · subst hxz; exact absurd h1 u2.2.2
    · by_cases e1 : qB zs x z
      · exact .inl e1
      · by_cases e2 : qB zs z x
        · exact absurd (q_trans h e2 h1) u2.2.2
        · rcases (hT.iff x z hx hz).2 ⟨hxz, e1, e2⟩ with e3 | e3
          · exact .inr e3
          · exact absurd h1 (side_un hT (q_trans hT.vo h2 e3)).2.2
  have key2 : ∀ x y z, qB T x y → qB zs y z → qB zs x z ∨ qB T x z := fun x y z h1 h2 => by
    have hx := (q_lt2 hT.vo h1).1
    have hz := (q_lt2 h h2).2
    rw [hT.len] at hx
    have u1 := side_un hT h1
    by_cases hxz : x = z
    · subst hxz; exact absurd h2 u1.2.2
    · by_cases e1 : qB zs x z
      · exact .inl e1
      · by_cases e2 : qB zs z x
        · exact absurd (q_trans h h2 e2) u1.2.2
        · rcases (hT.iff x z hx hz).2 ⟨hxz, e1, e2⟩ with e3 | e3
          · exact .inr e3
          · exact absurd h2 (side_un hT (q_trans hT.vo e3 h1)).2.2
  refine vo_mk (by rw [eitL_len]; exact hn6) (fun a ha => ?_) (fun a e => ?_) (fun a b c h1 h2 => ?_)
  · rw [eitL_len] at ha ⊢
    unfold eitL
    rw [opL_get _ _ _ _ ha, if_pos ha]
    have h1 := h.sets.2 a ha
    have h2 := hT.vo.sets.2 a (by rw [hT.len]; exact ha)
    rw [hT.len] at h2
    exact orI_bd h1.1 h1.2 h2.1 h2.2
  · rcases (eitL_q a a hT.len).1 e with e | e
    · exact q_irr h e
    · exact q_irr hT.vo e
  · refine (eitL_q a c hT.len).2 ?_
    rcases (eitL_q a b hT.len).1 h1 with h1 | h1 <;> rcases (eitL_q b c hT.len).1 h2 with h2 | h2
    · exact .inl (q_trans h h1 h2)
    · exact key a b c h1 h2
    · exact key2 a b c h1 h2
    · exact .inr (q_trans hT.vo h1 h2)
theorem eitL_tot (hT : SideOf zs T) {x y : Nat} (hx : x < zs.length) (hy : y < zs.length) (hxy : x ≠ y) : qB (eitL zs T) x y ∨ qB (eitL zs T) y x := by
  rw [eitL_q x y hT.len, eitL_q y x hT.len]
  by_cases e1 : qB zs x y
  · exact .inl (.inl e1)
  · by_cases e2 : qB zs y x
    · exact .inr (.inl e2)
    · rcases (hT.iff x y hx hy).2 ⟨hxy, e1, e2⟩ with e3 | e3
      · exact .inl (.inr e3)
      · exact .inr (.inr e3)
theorem du_q (h : VoP T) (x y : Nat) : qB (du T) y x ↔ qB T x y := by unfold qB; rw [du_bit h.sets]
theorem side_du (hT : SideOf zs T) : SideOf zs (du T) := by
  refine ⟨du_vo hT.vo, by rw [du_len, hT.len], fun x y hx hy => ?_⟩
  rw [du_q hT.vo y x, du_q hT.vo x y]
  exact Or.comm.trans (hT.iff x y hx hy)
/-- An order is a side of its sides. -/
theorem side_back (h : VoP zs) (hT : SideOf zs T) : SideOf T zs := by
  refine ⟨h, hT.len.symm, fun x y hx hy => ?_⟩
  rw [hT.len] at hx hy
  have := hT.iff x y hx hy
  constructor
  · intro e
    have hne : x ≠ y := fun e2 => by subst e2; rcases e with e | e <;> exact q_irr h e
    refine ⟨hne, fun e2 => ?_, fun e2 => ?_⟩
    · have u := side_un hT e2
      exact e.elim (fun e => u.2.1 e) (fun e => u.2.2 e)
    · have u := side_un hT e2
      exact e.elim (fun e => u.2.2 e) (fun e => u.2.1 e)
  · rintro ⟨h1, h2, h3⟩
    by_cases e1 : qB zs x y
    · exact .inl e1
    · by_cases e2 : qB zs y x
      · exact .inr e2
      · exact absurd (this.2 ⟨h1, e1, e2⟩) (by rintro (e | e); exact h2 e; exact h3 e)
theorem sdF_of (h : VoP zs) (hT : SideOf zs T) : ∃ S, sdF zs = some S := by
  cases e : sdF zs with
  | none => exact absurd hT (sdF_none h e T)
  | some S => exact ⟨S, rfl⟩
end

/-! The lines of it. -/
def pl1 (zs T : List Int) : List Int := atL (eitL zs T) 0 zs.length
end Go.Proofs.Ytghogabmkbadjab

/- The two lines of a side tell the order; the model's lines are they. No program. -/
namespace Go.Proofs.Ytghogabmkbadjab

/-- One line, where each two items stand in order. -/
structure Tot (E : List Int) : Prop where
  vo : VoP E
  tot : ∀ x y, x < E.length → y < E.length → x ≠ y → qB E x y ∨ qB E y x
theorem eit_tot {zs T : List Int} (h : VoP zs) (hT : SideOf zs T) : Tot (eitL zs T) := ⟨eitL_vo h hT, fun x y hx hy hxy => by rw [eitL_len] at hx hy; exact eitL_tot hT hx hy hxy⟩
section
variable {E : List Int} {n : Nat}
def onL (E : List Int) : List Int := atL E 0 E.length
theorem on_line (h : VoP E) : lineB E (onL E) = true :=
  (rank_at h (cF_ge1 h _ _ (Nat.le_refl _) (by have := Nat.two_pow_pos E.length; omega))).1
theorem du_zr_get {n : Nat} (hn : n ≤ 6) (a : Nat) : (du (zr n))[a]?.getD 0 = 0 := by
  rw [zr_du hn]
  unfold zr
  rw [List.getElem?_replicate]
  split <;> rfl
theorem less_zero_left (s : Int) : lessI 0 s = 0 := by rw [lessI_none]; intro j hj; rw [bitB_zero] at hj; cases hj
/-- A line of an order is a line of each order that has less. -/
theorem line_less {zs r : List Int} (h : VoP E) (hz : VoP zs) (hl : zs.length = E.length) (hs : ∀ x y, qB zs x y → qB E x y) (hr : lineB E r = true) : lineB zs r = true := by
  obtain ⟨h1, h2⟩ := line_steps hr
  refine lineB_yes h1 hl.symm fun k hk => ?_
  have hk2 := h2 k hk
  unfold stepOk at hk2 ⊢
  rw [Bool.and_eq_true, Bool.and_eq_true] at hk2 ⊢
  rw [hl]
  refine ⟨hk2.1, hk2.2.1, ?_⟩
  have hd := beq_iff_eq.1 hk2.2.2
  rw [lessI_none] at hd
  rw [beq_iff_eq, lessI_none]
  intro j hj
  refine hd j ?_
  rw [du_bit hz.sets] at hj
  rw [du_bit h.sets]
  exact hs j _ hj
theorem line_zr {r : List Int} (h : VoP E) (hn : E.length = n) (hr : lineB E r = true) : lineB (zr n) r = true := by
  have hn6 : n ≤ 6 := by have := h.1; omega
  refine line_less h (zr_vo hn6) (by rw [zr_len, hn]) (fun x y hq => ?_) hr
  unfold qB zr at hq
  rw [List.getElem?_replicate] at hq
  split at hq <;> rw [show (Option.getD _ (0 : Int)) = 0 from rfl, bitB_zero] at hq <;> cases hq
/-- What is above is behind. -/
theorem line_behind {r : List Int} (h : VoP E) (hn : E.length = n) (hr : lineB E r = true) {x y : Nat} (hq : qB E x y) : atI r (x : Int) < atI r (y : Int) := by
  have hn6 : n ≤ 6 := by have := h.1; omega
  obtain ⟨hx, hy⟩ := q_lt2 h hq
  rw [hn] at hx hy
  have hz := line_zr h hn hr
  obtain ⟨k, hk, e1, e2⟩ := at_of hn6 hz hy
  have h2 := (line_steps hr).2 k (by rw [hn]; exact hk)
  unfold stepOk at h2
  rw [Bool.and_eq_true, Bool.and_eq_true] at h2
  have hd := beq_iff_eq.1 h2.2.2
  rw [lessI_none] at hd
  have hit := (it_lt hz hk).1
  rw [e1] at hit
  have := hd x (by rw [hit, Int.toNat_natCast, du_bit h.sets]; exact hq)
  have hs := (zr_steps hz).2
  obtain ⟨i, hi, e3⟩ := (done_of (n := n) (k := k) (fun i hi => hs i (by omega)) x).1 this
  have e4 := at_it hz (show i < n by omega)
  rw [e3] at e4
  rw [e2, e4]; omega
theorem tot_behind {r : List Int} (h : Tot E) (hn : E.length = n) (hr : lineB E r = true) {x y : Nat} (hx : x < n) (hy : y < n) : qB E x y ↔ atI r (x : Int) < atI r (y : Int) := by
  refine ⟨line_behind h.vo hn hr, fun hlt => ?_⟩
  have hxy : x ≠ y := fun e => by subst e; omega
  rcases h.tot x y (by omega) (by omega) hxy with e | e
  · exact e
  · have := line_behind h.vo hn hr e; omega
theorem pop_com_fin : ∀ n : Fin 7, ∀ s : Fin 64, s.val < 2 ^ n.val → popI ((2 ^ n.val - 1 - s.val : Nat) : Int) + popI (s.val : Int) = (n.val : Int) := by decide +kernel
/-- How many are above the item at place k. -/
theorem tot_pop {r : List Int} (h : Tot E) (hn : E.length = n) (hr : lineB E r = true) {k : Nat} (hk : k < n) : popI (E[itN r k]?.getD 0) = (n : Int) - 1 - k := by
  have hn6 : n ≤ 6 := by have := h.vo.1; omega
  have hz := line_zr h.vo hn hr
  have hx := (it_lt hz hk).2
  have hs := (zr_steps hz).2
  have e : E[itN r k]?.getD 0 = leftTo n r (k + 1) := by
    refine bitB_ext (h.vo.sets.2 _ (by omega)).1 (leftTo_bd _).1 fun j => ?_
    rcases Nat.lt_or_ge j n with hj | hj
    · rw [left_at hn6 hz hk j hj]
      have := tot_behind h hn hr hx hj
      rw [at_it hz hk] at this
      rw [Bool.eq_iff_iff, decide_eq_true_eq]; exact this
    · have b1 : bitB (E[itN r k]?.getD 0) (j : Int) = false := by
        cases e : bitB (E[itN r k]?.getD 0) (j : Int)
        · rfl
        · have := bitB_lt (h.vo.sets.2 _ (show itN r k < E.length by omega)).2 e; omega
      have b2 : bitB (leftTo n r (k + 1)) (j : Int) = false := by
        cases e : bitB (leftTo n r (k + 1)) (j : Int)
        · rfl
        · have := bitB_lt (leftTo_bd (n := n) (ls := r) (k + 1)).2 e; omega
      rw [b1, b2]
  have hs' : ∀ k, k < (zr n).length → stepOk (zr n) r k = true := by rw [zr_len]; exact hs
  have h1 := left_com (zs := zr n) (ls := r) (zr_vo hn6) (k + 1) (fun i hi => hs i (by omega))
  have h2 := line_pop (zs := zr n) (ls := r) (zr_vo hn6) hs' (k + 1) (by rw [zr_len]; omega)
  have h3 := (d_is (zs := zr n) (ls := r) (k := k + 1) (fun i hi => hs i (by omega))).2
  rw [zr_len] at h1 h3
  have hp64 : 2 ^ n ≤ 64 := Nat.pow_le_pow_right (n := 2) (by decide) hn6
  have h4 := pop_com_fin ⟨n, by omega⟩ ⟨dN r (k + 1), by omega⟩ h3
  simp only at h4
  rw [e, h1]
  omega
/-- The model's line: the items by how many are above them. -/
def mdL (E : List Int) (k : Nat) : List Int := (List.range k).map fun j : Nat => atI (E.map popI) ((E.length : Int) - 1 - j)
theorem mdL_succ (E : List Int) (k : Nat) : mdL E (k + 1) = mdL E k ++ [atI (E.map popI) ((E.length : Int) - 1 - k)] := by simp [mdL, List.range_succ]
theorem mdL_len (E : List Int) (k : Nat) : (mdL E k).length = k := by simp [mdL]
theorem md_on (h : Tot E) : mdL E E.length = onL E := by
  have hr := on_line h.vo
  have hz := line_zr h.vo rfl hr
  have hn6 := h.vo.1
  have hl := (line_steps hr).1
  refine List.ext_getElem? fun k => ?_
  rcases Nat.lt_or_ge k E.length with hk | hk
  · have hk2 : k < (onL E).length := by omega
    have e1 := (it_lt hz hk).1
    rw [List.getElem?_eq_getElem hk2, Option.getD_some] at e1
    rw [List.getElem?_eq_getElem hk2, e1]
    simp only [mdL, List.getElem?_map, List.getElem?_range hk, Option.map_some]
    congr 1
    have hget : ∀ j, j < E.length → (E.map popI)[j]?.getD 0 = popI (E[j]?.getD 0) := fun j hj => by
      rw [List.getElem?_map, List.getElem?_eq_getElem hj]; rfl
    refine atI_hit (fun j hj e => ?_) (by rw [List.length_map]; exact (it_lt hz hk).2) ?_
    · have hjn : j < E.length := by have := (it_lt hz hk).2; omega
      obtain ⟨i, hi, ei⟩ := it_all hn6 hz hjn
      rw [hget j hjn, ← ei, tot_pop h rfl hr hi] at e
      have : i = k := by omega
      subst this
      omega
    · rw [hget _ (it_lt hz hk).2, tot_pop h rfl hr hk]
  · rw [List.getElem?_eq_none (by rw [mdL_len]; exact hk), List.getElem?_eq_none (by omega)]
end

/-- What the two lines have in common is the order. -/
theorem two_lines {zs T : List Int} (h : VoP zs) (hT : SideOf zs T) : lnOk (zs.length : Int) [pl1 zs T, pl1 zs (du T)] = true ∧ meL zs.length [pl1 zs T, pl1 zs (du T)] = zs ∧ lineB zs (pl1 zs T) = true ∧ lineB zs (pl1 zs (du T)) = true := by
  have hn6 := h.1
  have t1 := eit_tot h hT
  have t2 := eit_tot h (side_du hT)
  have p1 : pl1 zs T = onL (eitL zs T) := by unfold pl1 onL; rw [eitL_len]
  have p2 : pl1 zs (du T) = onL (eitL zs (du T)) := by unfold pl1 onL; rw [eitL_len]
  have l1 := on_line t1.vo
  have l2 := on_line t2.vo
  rw [← p1] at l1
  rw [← p2] at l2
  have z1 := line_zr t1.vo eitL_len l1
  have z2 := line_zr t2.vo eitL_len l2
  have hdl := (side_du hT).len
  refine ⟨?_, ?_, ?_, ?_⟩
  · unfold lnOk
    rw [Int.toNat_natCast, show inB (zs.length : Int) 0 6 = true by simp [inB]; omega]
    simp [z1, z2]
  · refine q_eq (by rw [meL_len]) (fun j => (meL_bd _ _ _).1) (fun j => ?_) fun x y => ?_
    · rcases Nat.lt_or_ge j zs.length with hj | hj
      · exact (h.sets.2 j hj).1
      · rw [List.getElem?_eq_none hj]; exact Int.le_refl _
    · rcases Nat.lt_or_ge x zs.length with hx | hx
      · unfold qB
        rw [meL_get _ hx, setP_bit]
        rcases Nat.lt_or_ge y zs.length with hy | hy
        · have b1 := tot_behind t1 eitL_len l1 hx hy
          have b2 := tot_behind t2 eitL_len l2 hx hy
          rw [eitL_q x y hT.len] at b1
          rw [eitL_q x y hdl, du_q hT.vo y x] at b2
          unfold behB
          rw [decide_eq_true hy, Bool.true_and, Bool.and_eq_true]
          simp only [List.all_cons, List.all_nil, Bool.and_true, Bool.and_eq_true, decide_eq_true_eq, ← b1, ← b2]
          constructor
          · rintro ⟨_, e1, e2⟩
            rcases e1 with e1 | e1
            · exact e1
            · rcases e2 with e2 | e2
              · exact e2
              · exact absurd e2 fun e => side_asym hT.vo e1 e
          · intro e
            refine ⟨?_, .inl e, .inl e⟩
            have : x ≠ y := fun e2 => by subst e2; exact q_irr h e
            simpa using this
        · rw [decide_eq_false (by omega), Bool.false_and]
          constructor
          · intro e; cases e
          · intro e; have := (q_lt2 h e).2; omega
      · constructor
        · intro e; have := qB_lt (meL_len _ _) e; omega
        · intro e; have := (q_lt2 h e).1; omega
  · exact line_less t1.vo h (by rw [eitL_len]) (fun x y e => (eitL_q x y hT.len).2 (.inl e)) l1
  · exact line_less t2.vo h (by rw [eitL_len]) (fun x y e => (eitL_q x y hdl).2 (.inl e)) l2
end Go.Proofs.Ytghogabmkbadjab

/- Three lines tell each order of at most six items, and it is its lines that do. No program. -/
namespace Go.Proofs.Ytghogabmkbadjab

section
def tN (j : Nat) : Nat := j * (j - 1) / 2
theorem tN_step : ∀ j : Fin 6, tN (j.val + 1) = tN j.val + j.val := by decide
theorem dnC_bit (c j i : Nat) : (dnC c j).testBit i = (decide (i < j) && c.testBit (tN j + i)) := by
  have : dnC c j = (c >>> tN j) % 2 ^ j := rfl
  rw [this, Nat.testBit_mod_two_pow, Nat.testBit_shiftRight]
theorem tN_le {j n : Nat} (hj : j < n) (hn : n ≤ 6) : tN j + j ≤ tN n := by
  induction n with
  | zero => omega
  | succ n ih =>
    have e := tN_step ⟨n, by omega⟩
    simp only at e
    rcases Nat.lt_or_ge j n with h | h
    · have := ih h (by omega); omega
    · obtain rfl : j = n := by omega
      omega
/-- The bits of a relation below n. -/
theorem bits_of (p : Nat → Bool) : ∀ n : Nat, ∃ d, d < 2 ^ n ∧ ∀ i, d.testBit i = (decide (i < n) && p i)
  | 0 => ⟨0, by simp, fun i => by simp⟩
  | n + 1 => by
    obtain ⟨d, h1, h2⟩ := bits_of p n
    cases hp : p n
    · refine ⟨d, by rw [Nat.pow_succ]; omega, fun i => ?_⟩
      rw [h2]
      rcases Nat.lt_trichotomy i n with h | h | h
      · rw [decide_eq_true h, decide_eq_true (by omega)]
      · subst h; rw [hp]; simp
      · rw [decide_eq_false (by omega), decide_eq_false (by omega)]
    · refine ⟨d ||| 2 ^ n, Nat.or_lt_two_pow (by rw [Nat.pow_succ]; omega) (Nat.pow_lt_pow_right (by omega) (by omega)), fun i => ?_⟩
      rw [Nat.testBit_or, h2, Nat.testBit_two_pow]
      rcases Nat.lt_trichotomy i n with h | h | h
      · rw [decide_eq_true h, decide_eq_true (show i < n + 1 by omega), decide_eq_false (by omega)]; simp
      · subst h; rw [hp]; simp
      · rw [decide_eq_false (by omega), decide_eq_false (show ¬ i < n + 1 by omega), decide_eq_false (by omega)]; simp
theorem code_of (P : Nat → Nat → Bool) : ∀ n : Nat, n ≤ 6 → ∃ c, c < 2 ^ tN n ∧ ∀ j, j < n → ∀ i, (dnC c j).testBit i = (decide (i < j) && P i j)
  | 0, _ => ⟨0, Nat.two_pow_pos _, fun j hj => absurd hj (by omega)⟩
  | n + 1, hn => by
    obtain ⟨c, h1, h2⟩ := code_of P n (by omega)
    obtain ⟨d, d1, d2⟩ := bits_of (fun i => P i n) n
    have e := tN_step ⟨n, by omega⟩
    simp only at e
    refine ⟨c ||| d <<< tN n, ?_, fun j hj i => ?_⟩
    · refine Nat.or_lt_two_pow (Nat.lt_of_lt_of_le h1 (Nat.pow_le_pow_right (by omega) (by omega))) ?_
      rw [e, Nat.shiftLeft_eq, Nat.pow_add, Nat.mul_comm]
      exact Nat.mul_lt_mul_of_pos_left d1 (Nat.two_pow_pos _)
    · rw [dnC_bit]
      rcases Nat.lt_or_ge i j with hij | hij
      · rw [decide_eq_true hij, Bool.true_and, Bool.true_and, Nat.testBit_or, Nat.testBit_shiftLeft]
        rcases Nat.lt_or_ge j n with h | h
        · have h3 := tN_le h (by omega)
          rw [decide_eq_false (show ¬ tN n ≤ tN j + i by omega), Bool.false_and, Bool.or_false]
          have := h2 j h i
          rw [dnC_bit, decide_eq_true hij, Bool.true_and, Bool.true_and] at this
          exact this
        · obtain rfl : j = n := by omega
          rw [Nat.testBit_lt_two_pow (Nat.lt_of_lt_of_le h1 (Nat.pow_le_pow_right (by omega) (by omega))), decide_eq_true (show tN j ≤ tN j + i by omega), Bool.false_or, Bool.true_and, Nat.add_sub_cancel_left, d2, decide_eq_true hij, Bool.true_and]
      · rw [decide_eq_false (by omega), Bool.false_and, Bool.false_and]
theorem in_of {c d : Nat} : ∀ i : Nat, (∀ k, k < i → d.testBit k = true → dnC c k &&& d = dnC c k) → inC c d i = true
  | 0, _ => rfl
  | i + 1, h => by
    have ih := in_of i fun k hk => h k (by omega)
    rw [inC]
    cases h1 : Nat.beq (Nat.land (Nat.shiftRight d i) 1) 0
    · have ht : d.testBit i = true := by
        unfold Nat.testBit
        rw [Nat.and_comm]
        have : ¬ ((d >>> i) &&& 1) = 0 := fun e => by
          rw [show Nat.beq (Nat.land (Nat.shiftRight d i) 1) 0 = Nat.beq ((d >>> i) &&& 1) 0 from rfl, e] at h1
          cases h1
        simpa using this
      have h2 := h i (by omega) ht
      have h3 : Nat.beq (Nat.land (dnC c i) d) (dnC c i) = true := by
        rw [show Nat.land (dnC c i) d = dnC c i &&& d from rfl, h2]; exact Nat.beq_refl _
      rw [h3]; exact ih
    · exact ih
theorem tr_of {c : Nat} : ∀ n : Nat, (∀ j, j < n → ∀ k, k < j → (dnC c j).testBit k = true → dnC c k &&& dnC c j = dnC c k) → trC c n = true
  | 0, _ => rfl
  | n + 1, h => by
    rw [trC, tr_of n fun j hj => h j (by omega)]
    exact in_of n (h n (by omega))
theorem mem_of {x : Nat} : ∀ {l : List Nat}, memC x l = true → x ∈ l
  | [], h => by cases h
  | y :: ys, h => by
    rw [memC] at h
    cases h1 : Nat.beq y x
    · rw [h1] at h; exact List.mem_cons_of_mem _ (mem_of h)
    · rw [Nat.eq_of_beq_eq_true h1]; exact List.mem_cons_self
theorem mem_to {x : Nat} : ∀ {l : List Nat}, x ∈ l → memC x l = true
  | [], h => by cases h
  | y :: ys, h => by
    rw [memC]
    cases h1 : Nat.beq y x
    · rcases List.mem_cons.1 h with e | e
      · subst e; rw [Nat.beq_refl] at h1; cases h1
      · exact mem_to e
    · rfl
theorem lt_of {n : Nat} : ∀ {l : List Nat}, ltC n l = true → ∀ x, x ∈ l → x < n
  | [], _, x, hx => by cases hx
  | y :: ys, h, x, hx => by
    rw [ltC] at h
    cases h1 : Nat.blt y n
    · rw [h1] at h; cases h
    · rw [h1] at h
      rcases List.mem_cons.1 hx with e | e
      · rw [e]; exact Nat.blt_eq ▸ h1
      · exact lt_of h x e
theorem nd_of : ∀ {l : List Nat}, ndC l = true → ∀ k, k < l.length → l.idxOf (l[k]?.getD 0) = k
  | [], _, k, hk => absurd hk (by simp)
  | y :: ys, h, k, hk => by
    rw [ndC] at h
    cases h1 : memC y ys
    · rw [h1] at h
      cases k with
      | zero => simp
      | succ k =>
        have hk' : k < ys.length := by simpa using hk
        have ih := nd_of (l := ys) h k hk'
        rw [List.getElem?_cons_succ, List.idxOf_cons]
        have hm : ys[k]?.getD 0 ∈ ys := by rw [List.getElem?_eq_getElem hk', Option.getD_some]; exact List.getElem_mem hk'
        have hne : (y == ys[k]?.getD 0) = false := by
          rw [beq_eq_false_iff_ne]
          intro e
          rw [e, mem_to hm] at h1; cases h1
        rw [hne, ih]; rfl
    · rw [h1] at h; cases h
theorem pm_of {n : Nat} {l : List Nat} (h : pmC n l = true) : l.length = n ∧ (∀ x, x < n → x ∈ l) ∧ (∀ x, x ∈ l → x < n) ∧ ∀ k, k < l.length → l.idxOf (l[k]?.getD 0) = k := by
  have key : ∀ m, mmC l m = true → ∀ x, x < m → x ∈ l := fun m => by
    induction m with
    | zero => intro _ x hx; omega
    | succ m ih =>
      intro h x hx
      rw [mmC] at h
      cases h1 : memC m l
      · rw [h1] at h; cases h
      · rw [h1] at h
        rcases Nat.lt_or_ge x m with hlt | hge
        · exact ih h x hlt
        · obtain rfl : x = m := by omega
          exact mem_of h1
  unfold pmC at h
  cases h1 : Nat.beq l.length n
  · rw [h1] at h; cases h
  · cases h2 : ltC n l
    · rw [h1, h2] at h; cases h
    · cases h3 : ndC l
      · rw [h1, h2, h3] at h; cases h
      · rw [h1, h2, h3] at h
        exact ⟨Nat.eq_of_beq_eq_true h1, key n h, lt_of h2, nd_of h3⟩
/-- What stands ahead of x, told by where it stands. -/
theorem bf_of {x y : Nat} : ∀ {l : List Nat}, x ∈ l → ((bfC x l).testBit y = true ↔ l.idxOf y < l.idxOf x)
  | [], h => by cases h
  | z :: l, h => by
    rw [bfC]
    cases h1 : Nat.beq z x
    · have hzx : z ≠ x := fun e => by subst e; rw [Nat.beq_refl] at h1; cases h1
      have hx : x ∈ l := by
        rcases List.mem_cons.1 h with e | e
        · exact absurd e.symm hzx
        · exact e
      have ih := bf_of (y := y) hx
      show (2 ^ z ||| bfC x l).testBit y = true ↔ _
      rw [Nat.testBit_or, Nat.testBit_two_pow, Bool.or_eq_true, ih, decide_eq_true_eq, List.idxOf_cons, List.idxOf_cons]
      have e1 : (z == x) = false := by simpa using hzx
      rw [e1]
      by_cases hzy : z = y
      · subst hzy; simp
      · have e2 : (z == y) = false := by simpa using hzy
        rw [e2]
        simp [hzy]
    · have hzx : z = x := Nat.eq_of_beq_eq_true h1
      subst hzx
      show (0 : Nat).testBit y = true ↔ _
      rw [List.idxOf_cons]
      simp
end
end Go.Proofs.Ytghogabmkbadjab

/- Each order of at most six items is what three of its lines have in common. No program. -/
namespace Go.Proofs.Ytghogabmkbadjab

section
variable {zs : List Int} {n : Nat} {s : Nat → Nat} {a : List Nat}
theorem dn_of (ha : ∀ k, k < n → (a.map fun k => (s k : Int))[k]?.getD 0 = (s (a[k]?.getD 0) : Int)) : ∀ k : Nat, k ≤ n → ∀ j : Nat, bitB (doneTo (a.map fun k => (s k : Int)) k) j = true ↔ ∃ i, i < k ∧ s (a[i]?.getD 0) = j
  | 0, _, j => by unfold doneTo; rw [bitB_zero]; simp
  | k + 1, hk, j => by
    unfold doneTo
    rw [ha k (by omega), bitB_or, bitB_pow, Bool.or_eq_true, dn_of ha k (by omega) j, decide_eq_true_eq]
    constructor
    · rintro (⟨i, hi, e⟩ | e)
      · exact ⟨i, by omega, e⟩
      · exact ⟨k, by omega, e⟩
    · rintro ⟨i, hi, e⟩
      rcases Nat.lt_or_ge i k with h | h
      · exact .inl ⟨i, h, e⟩
      · obtain rfl : i = k := by omega
        exact .inr e
theorem perm_line (h : VoP zs) (hn : zs.length = n) (hs : ∀ k, k < n → s k < n) (hi : ∀ i j, i < n → j < n → s i = s j → i = j) (hsur : ∀ y, y < n → ∃ k, k < n ∧ s k = y) (hp : pmC n a = true)
    (hord : ∀ x y, x < n → y < n → qB zs (s x) (s y) → a.idxOf x < a.idxOf y) : lineB zs (a.map fun k => (s k : Int)) = true ∧ ∀ x, x < n → atI (a.map fun k => (s k : Int)) (s x : Int) = (a.idxOf x : Int) := by
  obtain ⟨hl, hm, hlt, hnd⟩ := pm_of hp
  have hml : (a.map fun k => (s k : Int)).length = n := by rw [List.length_map, hl]
  have hget : ∀ k, k < n → (a.map fun k => (s k : Int))[k]?.getD 0 = (s (a[k]?.getD 0) : Int) := fun k hk => by
    rw [List.getElem?_map, List.getElem?_eq_getElem (by omega)]; rfl
  have hal : ∀ k, k < n → a[k]?.getD 0 < n := fun k hk => hlt _ (by rw [List.getElem?_eq_getElem (by omega), Option.getD_some]; exact List.getElem_mem _)
  have hix : ∀ x, x < n → a.idxOf x < n ∧ a[a.idxOf x]?.getD 0 = x := fun x hx => by
    have h1 := List.idxOf_lt_length_iff.2 (hm x hx)
    refine ⟨by omega, ?_⟩
    rw [List.getElem?_eq_getElem h1, Option.getD_some]
    exact List.getElem_idxOf h1
  refine ⟨lineB_yes hml hn.symm fun k hk => ?_, fun x hx => ?_⟩
  · unfold stepOk
    rw [hget k hk, hn]
    have hx := hal k hk
    have hsx := hs _ hx
    have hidx := hnd k (by omega)
    have hd := dn_of hget k (by omega)
    generalize a[k]?.getD 0 = x at hx hsx hidx
    rw [Bool.and_eq_true, Bool.and_eq_true]
    refine ⟨by simp [inB]; omega, ?_, ?_⟩
    · cases e : bitB (doneTo (a.map fun k => (s k : Int)) k) (s x : Int)
      · rfl
      · obtain ⟨i, hik, e2⟩ := (hd (s x)).1 e
        have := hi _ _ (hal i (by omega)) hx e2
        have h3 := hnd i (by omega)
        rw [this] at h3
        omega
    · rw [beq_iff_eq, lessI_none, Int.toNat_natCast]
      intro j hj
      rw [du_bit h.sets] at hj
      obtain ⟨hj1, _⟩ := q_lt2 h hj
      rw [hn] at hj1
      obtain ⟨y, hy, rfl⟩ := hsur j hj1
      have h1 := hord y x hy hx hj
      exact (hd (s y)).2 ⟨a.idxOf y, by omega, by rw [(hix y hy).2]⟩
  · refine atI_hit (fun j hj e => ?_) (by rw [hml]; exact (hix x hx).1) (by rw [hget _ (hix x hx).1, (hix x hx).2])
    have hjn : j < n := by have := (hix x hx).1; omega
    rw [hget j hjn] at e
    have h1 := hi _ _ (hal j hjn) hx (by omega)
    have h2 := hnd j (by omega)
    rw [h1] at h2
    omega
end

theorem three_lines {zs : List Int} (h : VoP zs) : ∃ a b d, lineB zs a = true ∧ lineB zs b = true ∧ lineB zs d = true ∧ meL zs.length [a, b, d] = zs := by
  have hn6 := h.1
  have hr := on_line h
  have hz := line_zr h rfl hr
  have hbeh : ∀ {x y : Nat}, qB zs x y → atI (onL zs) (x : Int) < atI (onL zs) (y : Int) := fun hq => line_behind h rfl hr hq
  obtain ⟨n, hn⟩ : ∃ n, zs.length = n := ⟨_, rfl⟩
  rw [hn] at hz hn6
  rw [hn]
  generalize onL zs = r at hr hz hbeh
  have hit := fun k (hk : k < n) => (it_lt hz hk).2
  have hat := fun k (hk : k < n) => at_it hz hk
  have hall := fun y (hy : y < n) => it_all hn6 hz hy
  generalize itN r = s at hit hat hall
  have hinj : ∀ i j, i < n → j < n → s i = s j → i = j := fun i j hi hj e => by
    have h1 := hat i hi
    have h2 := hat j hj
    rw [e] at h1; omega
  have hlt : ∀ i j, i < n → j < n → qB zs (s i) (s j) → i < j := fun i j hi hj hq => by
    have h1 := hbeh hq
    rw [hat i hi, hat j hj] at h1; omega
  obtain ⟨c, hc, hcb⟩ := code_of (fun i j => bitB (zs[s i]?.getD 0) (s j : Int)) n hn6
  have hdn : ∀ i j, j < n → ((dnC c j).testBit i = true ↔ i < j ∧ qB zs (s i) (s j)) := fun i j hj => by
    rw [hcb j hj i, Bool.and_eq_true, decide_eq_true_eq]; rfl
  have htr : trC c n = true := tr_of n fun j hj k hk hb => by
    refine Nat.eq_of_testBit_eq fun i => ?_
    rw [Nat.testBit_and, Bool.eq_iff_iff, Bool.and_eq_true, hdn i k (by omega), hdn i j hj]
    have h1 := ((hdn k j hj).1 hb).2
    constructor
    · rintro ⟨e, _⟩; exact e
    · rintro ⟨e1, e2⟩; exact ⟨⟨e1, e2⟩, by omega, q_trans h e2 h1⟩
  obtain ⟨a, b, d, pa, pb, pd, hbf⟩ := three_of hn6 hc htr
  have hbit : ∀ i j, i < n → j < n → (qB zs (s i) (s j) ↔ a.idxOf i < a.idxOf j ∧ b.idxOf i < b.idxOf j ∧ d.idxOf i < d.idxOf j) := fun i j hi hj => by
    rw [← bf_of ((pm_of pa).2.1 j hj), ← bf_of ((pm_of pb).2.1 j hj), ← bf_of ((pm_of pd).2.1 j hj)]
    have h1 := hdn i j hj
    rw [← hbf j hj, Nat.testBit_and, Nat.testBit_and, Bool.and_eq_true, Bool.and_eq_true] at h1
    rw [h1]
    exact ⟨fun e => ⟨hlt i j hi hj e, e⟩, fun e => e.2⟩
  obtain ⟨la, ta⟩ := perm_line h hn hit hinj hall pa fun x y hx hy hq => ((hbit x y hx hy).1 hq).1
  obtain ⟨lb, tb⟩ := perm_line h hn hit hinj hall pb fun x y hx hy hq => ((hbit x y hx hy).1 hq).2.1
  obtain ⟨ld, td⟩ := perm_line h hn hit hinj hall pd fun x y hx hy hq => ((hbit x y hx hy).1 hq).2.2
  refine ⟨_, _, _, la, lb, ld, q_eq (by rw [meL_len, hn]) (fun j => (meL_bd _ _ _).1) (fun j => ?_) fun x y => ?_⟩
  · rcases Nat.lt_or_ge j zs.length with hj | hj
    · exact (h.sets.2 j hj).1
    · rw [List.getElem?_eq_none hj]; exact Int.le_refl _
  · rcases Nat.lt_or_ge x n with hx | hx
    · unfold qB
      rw [meL_get _ hx, setP_bit]
      rcases Nat.lt_or_ge y n with hy | hy
      · rw [decide_eq_true hy, Bool.true_and]
        obtain ⟨i, hi, rfl⟩ := hall x hx
        obtain ⟨j, hj, rfl⟩ := hall y hy
        unfold behB
        rw [Bool.and_eq_true]
        simp only [List.all_cons, List.all_nil, Bool.and_true, Bool.and_eq_true, decide_eq_true_eq, ta i hi, ta j hj, tb i hi, tb j hj, td i hi, td j hj, Int.ofNat_lt]
        refine Iff.trans ?_ (hbit i j hi hj).symm
        constructor
        · rintro ⟨_, e⟩; exact e
        · intro e
          refine ⟨?_, e⟩
          have : s i ≠ s j := fun e2 => by
            have := hinj i j hi hj e2
            subst this; omega
          simpa using this
      · rw [decide_eq_false (by omega), Bool.false_and]
        constructor
        · intro e; cases e
        · intro e; have := (q_lt2 h e).2; omega
    · constructor
      · intro e; have := qB_lt (meL_len _ _) e; omega
      · intro e; have := (q_lt2 h e).1; omega
end Go.Proofs.Ytghogabmkbadjab

/- Two lines that tell an order give it a side. No program. -/
namespace Go.Proofs.Ytghogabmkbadjab

section
variable {n : Nat} {a b : List Int}
theorem me2_q (x y : Nat) (hx : x < n) (hy : y < n) : qB (meL n [a, b]) x y ↔ atI a (x : Int) < atI a (y : Int) ∧ atI b (x : Int) < atI b (y : Int) := by
  unfold qB
  rw [meL_get _ hx, setP_bit]
  unfold behB
  rw [decide_eq_true hy, Bool.true_and, Bool.and_eq_true]
  simp only [List.all_cons, List.all_nil, Bool.and_true, Bool.and_eq_true, decide_eq_true_eq]
  constructor
  · rintro ⟨_, e⟩; exact e
  · intro e
    refine ⟨?_, e⟩
    have : x ≠ y := fun e2 => by subst e2; omega
    simpa using this
theorem me_lt {x y : Nat} {rs : List (List Int)} (h : qB (meL n rs) x y) : x < n ∧ y < n := by
  have hx : x < n := by have := qB_lt (meL_len n rs) h; omega
  refine ⟨hx, ?_⟩
  unfold qB at h
  rw [meL_get _ hx, setP_bit, Bool.and_eq_true, decide_eq_true_eq] at h
  exact h.1
theorem me2_vo (hn : n ≤ 6) : VoP (meL n [a, b]) := by
  refine vo_mk (by rw [meL_len]; exact hn) (fun x hx => ?_) (fun x e => ?_) (fun x y z h1 h2 => ?_)
  · rw [meL_len] at hx ⊢; exact meL_bd _ _ _
  · obtain ⟨hx, _⟩ := me_lt e
    have := (me2_q x x hx hx).1 e; omega
  · obtain ⟨hx, hy⟩ := me_lt h1
    obtain ⟨_, hz⟩ := me_lt h2
    have e1 := (me2_q x y hx hy).1 h1
    have e2 := (me2_q y z hy hz).1 h2
    exact (me2_q x z hx hz).2 ⟨by omega, by omega⟩
theorem at_ne (hn : n ≤ 6) (h : lineB (zr n) a = true) {x y : Nat} (hx : x < n) (hy : y < n) (hxy : x ≠ y) : atI a (x : Int) ≠ atI a (y : Int) := by
  obtain ⟨k, _, e1, e2⟩ := at_of hn h hx
  obtain ⟨j, _, e3, e4⟩ := at_of hn h hy
  intro e
  have : k = j := by omega
  subst this
  exact hxy (e1.symm.trans e3)
theorem zr_back (hn : n ≤ 6) (h : lineB (zr n) a = true) : lineB (zr n) a.reverse = true := by
  have := line_back (zr_vo hn) h
  rwa [zr_du hn] at this
theorem at_back (hn : n ≤ 6) (h : lineB (zr n) a = true) {x : Nat} (hx : x < n) : atI a.reverse (x : Int) = (n : Int) - 1 - atI a (x : Int) := by
  obtain ⟨k, hk, e1, e2⟩ := at_of hn h hx
  have hr := zr_back hn h
  have hl := (zr_steps h).1
  have hj : n - 1 - k < n := by omega
  have e3 := back_at (zs := zr n) (ls := a) (by rw [zr_len]; exact hl) (k := n - 1 - k) (by rw [zr_len]; exact hj)
  rw [zr_len, show n - 1 - (n - 1 - k) = k by omega] at e3
  have f1 := (it_lt hr hj).1
  have f2 := (it_lt h hk).1
  have e4 : itN a.reverse (n - 1 - k) = x := by rw [f1, f2, e1] at e3; omega
  have e5 := at_it hr hj
  rw [e4] at e5
  rw [e5, e2]; omega
/-- An order that two lines tell has a side. -/
theorem side_of_two (hn : n ≤ 6) (ha : lineB (zr n) a = true) (hb : lineB (zr n) b = true) : SideOf (meL n [a, b]) (meL n [a, b.reverse]) := by
  refine ⟨me2_vo hn, by rw [meL_len, meL_len], fun x y hx hy => ?_⟩
  rw [meL_len] at hx hy
  unfold un
  rw [me2_q x y hx hy, me2_q y x hy hx, me2_q x y hx hy, me2_q y x hy hx, at_back hn hb hx, at_back hn hb hy]
  by_cases hxy : x = y
  · subst hxy; simp
  · have h1 := at_ne hn ha hx hy hxy
    have h2 := at_ne hn hb hx hy hxy
    simp only [ne_eq, hxy, not_false_eq_true, true_and]
    omega
/-- Two lines tell it just where it has a side. -/
theorem two_iff {zs : List Int} (h : VoP zs) : (∃ a b, lineB zs a = true ∧ lineB zs b = true ∧ meL zs.length [a, b] = zs) ↔ (sdF zs).isSome = true := by
  constructor
  · rintro ⟨a, b, ha, hb, e⟩
    have hs := side_of_two h.1 (line_zr h rfl ha) (line_zr h rfl hb)
    rw [e] at hs
    obtain ⟨S, hS⟩ := sdF_of h hs
    rw [hS]; rfl
  · intro hs
    obtain ⟨T, hT⟩ := Option.isSome_iff_exists.1 hs
    obtain ⟨_, h2, h3, h4⟩ := two_lines h (sdF_some h hT).1
    exact ⟨_, _, h3, h4, h2⟩
end
end Go.Proofs.Ytghogabmkbadjab

/- One line tells an order just where there is no other one. No program. -/
namespace Go.Proofs.Ytghogabmkbadjab

section
variable {E a b : List Int} {n : Nat}
/-- Where each two items stand in order there is one line. -/
theorem tot_one (h : Tot E) (ha : lineB E a = true) (hb : lineB E b = true) : a = b := by
  have hn6 := h.vo.1
  have za := line_zr h.vo rfl ha
  have zb := line_zr h.vo rfl hb
  have l1 := (line_steps ha).1
  have l2 := (line_steps hb).1
  refine List.ext_getElem? fun k => ?_
  rcases Nat.lt_or_ge k E.length with hk | hk
  · have e1 := (it_lt za hk).1
    have e2 := (it_lt zb hk).1
    obtain ⟨j, hj, e3⟩ := it_all hn6 zb (it_lt za hk).2
    have p1 := tot_pop h rfl ha hk
    have p2 := tot_pop h rfl hb hj
    rw [e3, p1] at p2
    obtain rfl : j = k := by omega
    rw [List.getElem?_eq_getElem (by omega), Option.getD_some] at e1 e2
    rw [List.getElem?_eq_getElem (by omega), List.getElem?_eq_getElem (by omega), e1, e2, e3]
  · rw [List.getElem?_eq_none (by omega), List.getElem?_eq_none (by omega)]
theorem me1_q (x y : Nat) (hx : x < n) (hy : y < n) : qB (meL n [a]) x y ↔ atI a (x : Int) < atI a (y : Int) := by
  unfold qB
  rw [meL_get _ hx, setP_bit]
  unfold behB
  rw [decide_eq_true hy, Bool.true_and, Bool.and_eq_true]
  simp only [List.all_cons, List.all_nil, Bool.and_true, decide_eq_true_eq]
  constructor
  · rintro ⟨_, e⟩; exact e
  · intro e
    refine ⟨?_, e⟩
    have : x ≠ y := fun e2 => by subst e2; omega
    simpa using this
theorem told_tot (h : VoP E) (ha : lineB E a = true) (e : meL E.length [a] = E) : Tot E := by
  have za := line_zr h rfl ha
  refine ⟨h, fun x y hx hy hxy => ?_⟩
  have h1 := me1_q (a := a) x y hx hy
  have h2 := me1_q (a := a) y x hy hx
  rw [e] at h1 h2
  have := at_ne h.1 za hx hy hxy
  rw [h1, h2]; omega
theorem behB_same (a : List Int) (x y : Nat) : behB [a, a, a] x y = behB [a] x y := by simp [behB]
/-- One line tells an order just where there is no other one. -/
theorem one_iff (h : VoP E) (ha : lineB E a = true) : meL E.length [a] = E ↔ ∀ b, lineB E b = true → b = a := by
  constructor
  · intro e b hb
    exact tot_one (told_tot h ha e) hb ha
  · intro hall
    obtain ⟨x, y, z, hx, hy, hz, e⟩ := three_lines h
    rw [hall x hx, hall y hy, hall z hz] at e
    refine Eq.trans ?_ e
    unfold meL
    refine List.map_congr_left fun i _ => ?_
    exact setP_congr _ fun j _ => (behB_same a i j).symm
end
end Go.Proofs.Ytghogabmkbadjab

/- How few lines tell an order: one, two or three. No program. -/
namespace Go.Proofs.Ytghogabmkbadjab

theorem one_len {zs : List Int} (h : VoP zs) : (∃ a, lineB zs a = true ∧ meL zs.length [a] = zs) ↔ (alL zs).length = 1 := by
  constructor
  · rintro ⟨a, ha, e⟩
    have hall := (one_iff h ha).1 e
    have hn := alL_nodup zs
    have hm := alL_mem zs
    have ham := (hm a).2 ha
    generalize alL zs = L at hn hm ham
    match L, hn, hm, ham with
    | [], _, _, ham => cases ham
    | [x], _, _, _ => rfl
    | x :: y :: L, hn, hm, _ =>
      have e1 := hall x ((hm x).1 List.mem_cons_self)
      have e2 := hall y ((hm y).1 (List.mem_cons_of_mem _ List.mem_cons_self))
      have := (List.nodup_cons.1 hn).1
      rw [e1, e2] at this
      exact absurd List.mem_cons_self this
  · intro hl
    have hm := alL_mem zs
    obtain ⟨a, e⟩ := List.length_eq_one_iff.1 hl
    rw [e] at hm
    have ha := (hm a).1 List.mem_cons_self
    exact ⟨a, ha, (one_iff h ha).2 fun b hb => List.mem_singleton.1 ((hm b).2 hb)⟩
/-- The fewest lines that tell a valid order. -/
def fwN (zs : List Int) : Int := if (alL zs).length = 1 then 1 else if (sdF zs).isSome then 2 else 3
theorem fw_two {zs : List Int} (h : VoP zs) : (∃ a b, a ∈ alL zs ∧ b ∈ alL zs ∧ meL zs.length [a, b] = zs) ↔ (sdF zs).isSome = true := by
  rw [← two_iff h]
  constructor
  · rintro ⟨a, b, ha, hb, e⟩; exact ⟨a, b, (alL_mem zs a).1 ha, (alL_mem zs b).1 hb, e⟩
  · rintro ⟨a, b, ha, hb, e⟩; exact ⟨a, b, (alL_mem zs a).2 ha, (alL_mem zs b).2 hb, e⟩
theorem fw_three {zs : List Int} (h : VoP zs) : ∃ a b d, a ∈ alL zs ∧ b ∈ alL zs ∧ d ∈ alL zs ∧ meL zs.length [a, b, d] = zs := by
  obtain ⟨a, b, d, ha, hb, hd, e⟩ := three_lines h
  exact ⟨a, b, d, (alL_mem zs a).2 ha, (alL_mem zs b).2 hb, (alL_mem zs d).2 hd, e⟩
end Go.Proofs.Ytghogabmkbadjab

/- LinesOrder: the model's. -/
namespace Go.Proofs.Ytghogabmkbadjab
open Go.RowKit Go.Shelf
attribute [local go_sem] Oper.semAt_some

theorem behB_nil (a b : Nat) : behB [] a b = !(a == b) := by simp [behB]
theorem behB_next {rs : List (List Int)} {i : Nat} (hi : i < rs.length) (a b : Nat) : behB (rs.take (i + 1)) a b = (behB (rs.take i) a b && decide (atI (rs[i]?.getD []) a < atI (rs[i]?.getD []) b)) := by
  rw [List.take_succ_eq_append_getElem hi, List.getElem?_eq_getElem hi, Option.getD_some]
  unfold behB
  rw [List.all_append]
  cases (a == b) <;> simp
theorem quiet_zero {P : Program} {f : FuncId} {args : Array Value} {w : World} {n : Nat} {v : Value}
    (h : Calls P f args (w.drewN n) fun e w' => e = .returned v ∧ w.drewN n = w') :
    Calls P f args (w.drewN n) fun e w'' => e = .returned v ∧ ∃ m, w'' = w.drewN m :=
  h.mono fun _ _ ⟨he, hm⟩ => ⟨he, n, hm.symm⟩
/-- The model's order under way: the rows ahead of a are done, that of a as far as b. -/
def meA (n : Nat) (rs : List (List Int)) (a b : Nat) : List Int := (List.range n).map fun i => if i < a then setP (behB rs i) n else if i = a then setP (behB rs a) b else 0
theorem meA_len (n : Nat) (rs : List (List Int)) (a b : Nat) : (meA n rs a b).length = n := by simp [meA]
theorem meA_zero (n : Nat) (rs : List (List Int)) : meA n rs 0 0 = List.replicate n 0 := by
  refine List.ext_getElem? fun i => ?_
  by_cases hi : i < n
  · simp only [meA, List.getElem?_map, List.getElem?_range hi, Option.map_some, List.getElem?_replicate, if_pos hi]
    by_cases h0 : i = 0 <;> simp [h0, setP]
  · rw [List.getElem?_eq_none (by rw [meA_len]; omega), List.getElem?_eq_none (by simp; omega)]
theorem meA_row (n : Nat) (rs : List (List Int)) (a : Nat) : meA n rs a n = meA n rs (a + 1) 0 := by
  unfold meA
  refine List.map_congr_left fun i hi => ?_
  by_cases h1 : i < a
  · rw [if_pos h1, if_pos (by omega)]
  · by_cases h2 : i = a
    · subst h2; rw [if_neg h1, if_pos rfl, if_pos (by omega)]
    · rw [if_neg h1, if_neg h2, if_neg (by omega)]
      split
      · simp [setP]
      · rfl
theorem meA_all (n : Nat) (rs : List (List Int)) : meA n rs n 0 = meL n rs := by
  unfold meA meL
  refine List.map_congr_left fun i hi => ?_
  rw [if_pos (List.mem_range.1 hi)]
theorem meA_get {n : Nat} (rs : List (List Int)) {a : Nat} (ha : a < n) (b : Nat) : (meA n rs a b)[a]?.getD 0 = setP (behB rs a) b := by
  simp [meA, List.getElem?_range, ha]
theorem meA_yes {n : Nat} {rs : List (List Int)} {a b : Nat} (ha : a < n) (h : behB rs a b = true) : (meA n rs a b).set a (orI ((meA n rs a b)[a]?.getD 0) (powI b)) = meA n rs a (b + 1) := by
  rw [meA_get rs ha]
  refine List.ext_getElem? fun i => ?_
  by_cases hi : i < n
  · rw [List.getElem?_set]
    by_cases hai : a = i
    · subst hai
      rw [if_pos rfl, if_pos (by rw [meA_len]; omega)]
      simp [meA, List.getElem?_range, ha, setP, h]
    · rw [if_neg hai]
      simp only [meA, List.getElem?_map, List.getElem?_range hi, Option.map_some]
      rw [if_neg (show ¬ i = a from fun e => hai e.symm)]
      rw [if_neg (show ¬ i = a from fun e => hai e.symm)]
  · rw [List.getElem?_eq_none (by rw [List.length_set, meA_len]; omega), List.getElem?_eq_none (by rw [meA_len]; omega)]
theorem meA_no {n : Nat} {rs : List (List Int)} {a b : Nat} (h : behB rs a b = false) : meA n rs a (b + 1) = meA n rs a b := by
  unfold meA
  refine List.map_congr_left fun i hi => ?_
  have : setP (behB rs a) (b + 1) = setP (behB rs a) b := by simp [setP, h]
  rw [this]

set_option maxRecDepth 100000 in
set_option maxHeartbeats 4000000 in
theorem meetLines_any (n : Nat) (A : Option Addr) (m c : Nat) (rs : List (List Int)) (w : World) (h : IntsS w w.heap.size A m rs) (hn6 : n ≤ 6) (hm : m ≤ 1048576) (hr : ∀ r ∈ rs, r.length ≤ 1048576) :
    Calls Try.prog 75 #[.int .i64 (n : Int), .slice A m c] w fun e w' => e = .returned (.slice (some ⟨w.heap.size, 0, none⟩) n n) ∧ Arr w' w.heap.size 3 (meL n rs) ∧ Below w.heap.size w w' := by
  have hlen := Lib.hid h.len
  have hmk := run_make_row' (P := Try.prog) 22 3 (.int .i64 0) 8 Try.underlying22 infoInt rfl .i64 .i64 n (by omega) (by omega)
  go_enter Try.func75, Try.ntmps75
  go_wp2
  have hA1 := Arr.new w 3 n
  have hB1 : Below w.heap.size w (w.alloc (.cells (madeCells #[.int .i64 0] n) 3)) := (Below.refl _ _).alloc (Nat.le_refl _) _
  rw [← meA_zero n rs] at hA1
  obtain ⟨W1, hW1⟩ : ∃ W1, w.alloc (.cells (madeCells #[.int .i64 0] n) 3) = W1 := ⟨_, rfl⟩
  rw [hW1] at hA1 hB1 ⊢
  clear hW1 hmk
  go_loopw [6] (fun i wr => ∃ a : Nat, a ≤ n ∧ i = .int .i64 a ∧ Arr wr w.heap.size 3 (meA n rs a 0) ∧ Below w.heap.size w wr) (fun i _ => n - (intOf i).toNat)
  case atStart => exact ⟨0, by omega, rfl, hA1, hB1⟩
  case round =>
    clear hA1 hB1
    obtain ⟨a, ha, rfl, hAr, hB⟩ := hrel
    by_cases hak : a < n
    · go_wp2
      go_loopw [7] (fun i wr => ∃ b : Nat, b ≤ n ∧ i = .int .i64 b ∧ Arr wr w.heap.size 3 (meA n rs a b) ∧ Below w.heap.size w wr) (fun i _ => n - (intOf i).toNat)
      case atStart => exact ⟨0, by omega, rfl, hAr, hB⟩
      case round =>
        clear hAr hB
        obtain ⟨b, hb, rfl, hAr, hB⟩ := hrel
        by_cases hbk : b < n
        · rename World => wb
          go_wp2
          go_loopw [8, 9] (fun v i wr => ∃ k q : Nat, k ≤ m ∧ i = .int .i64 k ∧ v = .bool (behB (rs.take k) a b) ∧ wr = wb.drewN q) (fun _ i _ => m - (intOf i).toNat)
          case atStart => exact ⟨0, 0, by omega, rfl, by rw [List.take_zero, behB_nil]; congr 1; rw [Bool.eq_iff_iff]; simp; omega, rfl⟩
          case round =>
            obtain ⟨k, q, hk, rfl, rfl, rfl⟩ := hrel
            by_cases hlt : k < m
            · have hkl := Lib.hid (show k < rs.length by rw [hlen.out]; exact hlt)
              obtain ⟨b0, off, rfl, hb0, hc⟩ := ((h.below hB).drewN q).at_ hlt
              obtain ⟨A', c', hcell, hI⟩ := hc k hlt
              clear hc
              have Hs := Lib.hid (behB_next hkl.out a b)
              have hml : (rs[k]?.getD []).length ≤ 1048576 := by
                rw [List.getElem?_eq_getElem hkl.out]
                exact hr _ (List.getElem_mem _)
              cases hp : behB (rs.take k) a b
              · have Hn := Lib.hid (show behB (rs.take (k + 1)) a b = false by rw [Hs.out, hp]; rfl)
                clear hp Hs
                generalize rs[k]?.getD [] = r at *
                go_wp2
                go_quiet (fail)
                go_wp2
                go_roundw
                case rel => exact ⟨k + 1, _, by omega, by go_num, by rw [Hn.out], by first | rfl | exact World.drewN_drewN ..⟩
                case measure => simp [intOf]; omega
              · have Hn := Lib.hid (show behB (rs.take (k + 1)) a b = decide (atI (rs[k]?.getD []) a < atI (rs[k]?.getD []) b) by rw [Hs.out, hp, Bool.true_and])
                clear hp Hs
                generalize rs[k]?.getD [] = r at *
                obtain ⟨Wq, hWq⟩ : ∃ Wq, wb.drewN q = Wq := ⟨_, rfl⟩
                rw [hWq] at hcell hI ⊢
                have HW := Lib.hid hWq
                clear hWq
                have hax : ∀ nq, Calls Try.prog 105 #[.slice A' r.length c', .int .i64 (a : Int)] (Wq.drewN nq) fun e w'' => e = .returned (.int .i64 (atI r (a : Int))) ∧ ∃ m, w'' = Wq.drewN m := fun nq => quiet_zero ((at_any A' r.length c' w.heap.size r (a : Int) (Wq.drewN nq) (hI.drewN nq) (by omega)).mono fun e w' h => ⟨h.1, h.2.symm⟩)
                have hbx : ∀ nq, Calls Try.prog 105 #[.slice A' r.length c', .int .i64 (b : Int)] (Wq.drewN nq) fun e w'' => e = .returned (.int .i64 (atI r (b : Int))) ∧ ∃ m, w'' = Wq.drewN m := fun nq => quiet_zero ((at_any A' r.length c' w.heap.size r (b : Int) (Wq.drewN nq) (hI.drewN nq) (by omega)).mono fun e w' h => ⟨h.1, h.2.symm⟩)
                have Hax := Lib.hid hax
                have Hbx := Lib.hid hbx
                clear hax hbx
                generalize atI r (a : Int) = x at *
                generalize atI r (b : Int) = y at *
                go_wp2
                go_quiet ((go_at_call 105; first | with_reducible exact Hax.out _ | with_reducible exact Hbx.out _))
                go_wp2
                go_roundw
                case rel => exact ⟨k + 1, _, by omega, by go_num, by rw [Hn.out], by rw [← HW.out]; exact World.drewN_drewN ..⟩
                case measure => simp [intOf]; omega
            · obtain rfl : k = m := by omega
              have htk : rs.take k = rs := List.take_of_length_le (by rw [hlen.out]; exact Nat.le_refl _)
              rw [htk]
              clear htk
              have hArq := hAr.drewN q
              have hBq : Below w.heap.size w (wb.drewN q) := below_drewN hB q
              obtain ⟨W2, hW2⟩ : ∃ W2, wb.drewN q = W2 := ⟨_, rfl⟩
              rw [hW2] at hArq hBq ⊢
              clear hW2 hAr hB
              cases hp : behB rs a b
              · have Hn := Lib.hid (meA_no (n := n) hp)
                clear hp
                go_wp2
                go_roundw
                case rel => exact ⟨b + 1, by omega, by go_num, by rw [Hn.out]; exact hArq, hBq⟩
                case measure => simp [intOf]; omega
              · have Hn := Lib.hid (meA_yes hak hp)
                clear hp
                have hcs := hArq.cell (k := a) (by rw [meA_len]; exact hak)
                have hfs := hArq.frozen a
                have hbd := setP_bd (behB rs a) b
                rw [← meA_get rs hak] at hbd
                generalize hD : meA n rs a b = D at *
                have HD := Lib.hid hD
                clear hD
                have hpb := powI_le6 (n := (b : Int)) (by omega)
                have hpp := powI_pos (b : Int)
                have hor : bits .or .i64 (D[a]?.getD 0) (powI b) = orI (D[a]?.getD 0) (powI b) := bits_or (by omega) (by omega) (by omega) (by omega)
                go_wp2
                go_region_with ((go_at_call 96; refine (power_any _ _ (by omega) (by omega)).mono ?_; rintro e w' ⟨rfl, rfl⟩))
                all_goals
                  go_wp2
                  go_roundw
                  case rel => exact ⟨b + 1, by omega, by go_num, by rw [← Hn.out]; exact hArq.set _ _, (hBq.setCell (p := ⟨w.heap.size, a, none⟩) (Nat.le_refl _) _).drew⟩
                  case measure => simp [intOf]; omega
        · obtain rfl : b = n := by omega
          have Hn := Lib.hid (meA_row b rs a)
          go_wp2
          go_roundw
          case rel => exact ⟨a + 1, by omega, by go_num, by rw [← Hn.out]; exact hAr, hB⟩
          case measure => simp [intOf]; omega
    · obtain rfl : a = n := by omega
      have Hn := Lib.hid (meA_all a rs)
      go_wp2
      go_ret
      exact ⟨rfl, by rw [← Hn.out]; exact hAr, hB⟩
end Go.Proofs.Ytghogabmkbadjab

/- LongestChain: the program's. -/
namespace Go.Proofs.Ytghogabmkbadjab
open Go.RowKit

theorem LongestChain_any (A : Option Addr) (n c : Nat) (zs : List Int) (w : World) (h : Ints w w.heap.size A n zs) (hbig : n ≤ 1152921504606846976) :
    Calls Try.prog 23 #[.slice A n c] w fun e w' => e = .returned (.int .i64 (longR zs)) ∧ Below w.heap.size w w' := by
  have hlen := Lib.hid h.len
  cases hv : vo zs
  · have Ht := Lib.hid (show longR zs = -1 by unfold longR; rw [hv]; rfl)
    have Hv := Lib.hid hv
    clear hv
    go_enter Try.func23, Try.ntmps23
    go_wp2_with fail
    refine (readOrder_any _ _ _ zs _ h hbig).mono ?_
    rintro e w' ⟨hB, (⟨hv, b, rfl, _, _⟩ | ⟨_, rfl⟩)⟩
    · rw [Hv.out] at hv; cases hv
    · go_wp2_with fail
      go_ret
      exact ⟨ret_int Ht.out.symm, hB⟩
  · have hvo : VoP zs := by simpa [vo] using hv
    have Hv := Lib.hid hv
    clear hv
    have hn6 : n ≤ 6 := by have := hvo.1; rw [hlen.out] at this; exact this
    have Ht := Lib.hid (show longR zs = grTo (chB zs) (2 ^ n) by unfold longR; rw [Hv.out]; have := gr_long hvo; unfold setsN at this; rw [hlen.out] at this; rw [this]; rfl)
    go_enter Try.func23, Try.ntmps23
    go_wp2_with fail
    refine (readOrder_any _ _ _ zs _ h hbig).mono ?_
    rintro e w' ⟨hB, (⟨_, b, rfl, hb, hAr⟩ | ⟨hv, _⟩)⟩
    · go_wp2_with (go_at_call 79; refine (greatestOf_any 80 enters_chain _ _ _ zs (chB zs) hn6 _ (hAr.ints' hAr.lt hlen.out) (tests_chain _ _ _ zs hvo)).mono ?_; rintro e w2 ⟨rfl, hB2⟩)
      go_ret
      exact ⟨ret_int Ht.out.symm, hB.trans (hB2.mono hB.size)⟩
    · rw [Hv.out] at hv; cases hv
end Go.Proofs.Ytghogabmkbadjab

/- Two pairs apart, three items and one apart, zigzags: the model's. -/
namespace Go.Proofs.Ytghogabmkbadjab
open Go.RowKit

theorem quiet_add_some {P : Program} {f : FuncId} {args : Array Value} {w : World} {a n : Nat} {v : Value}
    (h : Calls P f args (w.drewN (a + n)) fun e w' => e = .returned v ∧ ∃ m, w' = (w.drewN (a + n)).drewN m) :
    Calls P f args (w.drewN (a + n)) fun e w'' => e = .returned v ∧ ∃ m, w'' = w.drewN (a + m) :=
  h.mono fun _ _ ⟨he, m, hm⟩ => ⟨he, n + m, by rw [hm, World.drewN_drewN, Nat.add_assoc]⟩
theorem ne_cast (a b : Nat) : (((a : Int)) != ((b : Int))) = !(a == b) := by
  rw [Bool.eq_iff_iff]; simp [bne]; omega
theorem bit_one (s j : Int) {v : Bool} (h : bitB s j = v) : (bitI s j == 1) = v := by rw [bitI_one, h]

set_option maxHeartbeats 1000000 in
theorem related_any (A : Option Addr) (n c B : Nat) (zs : List Int) (hv : Sets zs) (w : World) (h : Ints w B A n zs) (a b : Nat) (ha : a < n) (hb : b < n) :
    Calls Try.prog 64 #[.slice A n c, .int .i64 (a : Int), .int .i64 (b : Int)] w fun e w' => e = .returned (.bool (relB zs a b)) ∧ w = w' := by
  have hlen := Lib.hid h.len
  have za := hv.bd a (by rw [hlen.out]; exact ha)
  have zb := hv.bd b (by rw [hlen.out]; exact hb)
  have hn6 : n ≤ 6 := by have := hv.1; rw [hlen.out] at this; exact this
  obtain ⟨bk, off, rfl, -, hc⟩ := h.at_ ha
  have hca := hc a ha
  have hcb := hc b hb
  clear hc
  have Hr := Lib.hid (show relB zs a b = (bitB (zs[a]?.getD 0) b || bitB (zs[b]?.getD 0) a) from rfl)
  generalize zs[a]?.getD 0 = xa at *
  generalize zs[b]?.getD 0 = xb at *
  cases e1 : bitB xa b
  · have hi1 := bit_one _ _ e1
    cases e2 : bitB xb a
    · have hi2 := bit_one _ _ e2
      have Hf := Lib.hid (show relB zs a b = false by rw [Hr.out, e1, e2]; rfl)
      go_enter Try.func64, Try.ntmps64
      go_wp2_with (go_at_call 63; refine (bit_any _ _ _ (by omega) (by omega) (by omega) (by omega)).mono ?_; rintro e w' ⟨rfl, rfl⟩)
      go_ret
      exact ⟨ret_bool Hf.out.symm, rfl⟩
    · have hi2 := bit_one _ _ e2
      have Hf := Lib.hid (show relB zs a b = true by rw [Hr.out, e1, e2]; rfl)
      go_enter Try.func64, Try.ntmps64
      go_wp2_with (go_at_call 63; refine (bit_any _ _ _ (by omega) (by omega) (by omega) (by omega)).mono ?_; rintro e w' ⟨rfl, rfl⟩)
      go_ret
      exact ⟨ret_bool Hf.out.symm, rfl⟩
  · have hi1 := bit_one _ _ e1
    have Hf := Lib.hid (show relB zs a b = true by rw [Hr.out, e1]; rfl)
    go_enter Try.func64, Try.ntmps64
    go_wp2_with (go_at_call 63; refine (bit_any _ _ _ (by omega) (by omega) (by omega) (by omega)).mono ?_; rintro e w' ⟨rfl, rfl⟩)
    go_ret
    exact ⟨ret_bool Hf.out.symm, rfl⟩
end Go.Proofs.Ytghogabmkbadjab

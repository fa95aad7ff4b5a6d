/- Joins, what all of a set have above them, cuts, items with one next below, and orders of some items: as both sides tell them. No program. -/
import Derived.Test.YtghogabmkbadjabGc
import Derived.Test.YtghogabmkbadjabTopM
import Derived.Test.YtghogabmkbadjabGb
import Derived.Test.YtghogabmkbadjabInd
import Derived.Test.YtghogabmkbadjabGa
set_option linter.unusedVariables false
set_option linter.unusedSimpArgs false
namespace Go.Proofs.Ytghogabmkbadjab

/-- What is at or above an item. -/
def atUp (zs : List Int) (a : Nat) : Int := orI (zs[a]?.getD 0) (powI a)
theorem atUp_bd {zs : List Int} (h : Sets zs) {a : Nat} (ha : a < zs.length) : 0 ≤ atUp zs a ∧ atUp zs a < powI zs.length := by
  have hz := h.2 a ha
  exact orI_bd hz.1 hz.2 (Int.le_of_lt (powI_pos _)) (powI_lt ha)
theorem atUp_bit (zs : List Int) (a j : Nat) : bitB (atUp zs a) j = (bitB (zs[a]?.getD 0) j || decide (a = j)) := by unfold atUp; rw [bitB_or, bitB_pow]
/-- The items that are at or above all those of s less than k. -/
def comTo (zs : List Int) (s : Int) : Nat → Int
  | 0 => powI zs.length - 1
  | k + 1 => if bitB s k then andI (comTo zs s k) (atUp zs k) else comTo zs s k
theorem comTo_yes {zs : List Int} {s : Int} {k : Nat} (h : bitB s k = true) : comTo zs s (k + 1) = andI (comTo zs s k) (atUp zs k) := by simp [comTo, h]
theorem comTo_no {zs : List Int} {s : Int} {k : Nat} (h : bitB s k = false) : comTo zs s (k + 1) = comTo zs s k := by simp [comTo, h]
theorem comTo_bd (zs : List Int) (s : Int) : ∀ k : Nat, 0 ≤ comTo zs s k ∧ comTo zs s k < powI zs.length
  | 0 => by have := powI_pos (zs.length : Int); simp only [comTo]; omega
  | k + 1 => by
    have h := comTo_bd zs s k
    unfold comTo
    split
    · have := andI_bd (comTo zs s k) (atUp zs k); omega
    · exact h
theorem comTo_bit (zs : List Int) (s : Int) (j : Nat) : ∀ k : Nat, bitB (comTo zs s k) j = true ↔ j < zs.length ∧ ∀ a : Nat, a < k → bitB s a = true → bitB (atUp zs a) j = true
  | 0 => by
    unfold comTo
    rw [all_bits', decide_eq_true_eq]
    exact ⟨fun h => ⟨h, fun a ha => by omega⟩, fun h => h.1⟩
  | k + 1 => by
    cases hb : bitB s k
    · rw [comTo_no hb, comTo_bit zs s j k]
      refine ⟨fun h => ⟨h.1, fun a ha hs => ?_⟩, fun h => ⟨h.1, fun a ha hs => h.2 a (by omega) hs⟩⟩
      by_cases e : a = k
      · subst e; rw [hb] at hs; cases hs
      · exact h.2 a (by omega) hs
    · rw [comTo_yes hb, bitB_and, Bool.and_eq_true, comTo_bit zs s j k]
      refine ⟨fun h => ⟨h.1.1, fun a ha hs => ?_⟩, fun h => ⟨⟨h.1, fun a ha hs => h.2 a (by omega) hs⟩, h.2 k (by omega) hb⟩⟩
      by_cases e : a = k
      · subst e; exact h.2
      · exact h.1.2 a (by omega) hs
/-- The same, item by item of a list. -/
def comL (zs : List Int) (l : List Nat) : Int := l.foldl (fun (t : Int) (i : Nat) => andI t (atUp zs i)) (powI zs.length - 1)
theorem comL_snoc (zs : List Int) (l : List Nat) (i : Nat) : comL zs (l ++ [i]) = andI (comL zs l) (atUp zs i) := by simp [comL]
theorem comL_to (zs : List Int) (s : Int) : ∀ k : Nat, comL zs (itemsTo s k) = comTo zs s k
  | 0 => rfl
  | k + 1 => by
    have ih := comL_to zs s k
    cases hb : bitB s k
    · rw [itemsTo_no hb, comTo_no hb, ih]
    · rw [itemsTo_yes hb, comL_snoc, comTo_yes hb, ih]
theorem comTo_up {zs : List Int} {s : Int} {n : Nat} (h1 : s < powI n) : ∀ d : Nat, comTo zs s (n + d) = comTo zs s n
  | 0 => rfl
  | d + 1 => by
    have hb : bitB s ((n + d : Nat) : Int) = false := by
      cases h : bitB s ((n + d : Nat) : Int) with
      | false => rfl
      | true => have := bitB_lt h1 h; omega
    rw [← Nat.add_assoc, comTo_no hb, comTo_up h1 d]
theorem comL_all {zs : List Int} {s : Int} {n : Nat} (hn : n ≤ 6) (h1 : s < powI n) : comL zs (itemsL s) = comTo zs s n := by
  rw [itemsL, comL_to, show (6 : Nat) = n + (6 - n) from by omega, comTo_up h1]
/-- At or above both. -/
def upR (zs : List Int) (a b : Nat) : Int := andI (atUp zs a) (atUp zs b)
theorem upR_bd {zs : List Int} (h : Sets zs) {a b : Nat} (ha : a < zs.length) : 0 ≤ upR zs a b ∧ upR zs a b < powI zs.length := by
  have h1 := andI_bd (atUp zs a) (atUp zs b)
  have h2 := atUp_bd h ha
  unfold upR
  omega
/-- Two items as a set. -/
def twoS (a b : Nat) : Int := orI (orI 0 (powI a)) (powI b)
theorem twoS_bd {n a b : Nat} (ha : a < n) (hb : b < n) : 0 ≤ twoS a b ∧ twoS a b < powI n := by
  have h1 := orI_bd (a := 0) (b := powI a) (n := n) (Int.le_refl _) (powI_pos _) (Int.le_of_lt (powI_pos _)) (powI_lt ha)
  exact orI_bd h1.1 h1.2 (Int.le_of_lt (powI_pos _)) (powI_lt hb)
theorem twoS_bit (a b j : Nat) : bitB (twoS a b) j = (decide (a = j) || decide (b = j)) := by
  unfold twoS; rw [bitB_or, bitB_or, bitB_zero, bitB_pow, bitB_pow]; simp
theorem com_two {zs : List Int} (h : Sets zs) {a b : Nat} (ha : a < zs.length) (hb : b < zs.length) : comTo zs (twoS a b) zs.length = upR zs a b := by
  refine bitB_ext (comTo_bd _ _ _).1 (upR_bd h ha).1 fun j => ?_
  rw [Bool.eq_iff_iff, comTo_bit]
  unfold upR
  rw [bitB_and, Bool.and_eq_true]
  constructor
  · rintro ⟨hj, h2⟩
    exact ⟨h2 a ha (by rw [twoS_bit]; simp), h2 b hb (by rw [twoS_bit]; simp)⟩
  · rintro ⟨h1, h2⟩
    refine ⟨bitB_lt (atUp_bd h ha).2 h1, fun x _ hx => ?_⟩
    rw [twoS_bit, Bool.or_eq_true, decide_eq_true_eq, decide_eq_true_eq] at hx
    rcases hx with rfl | rfl
    · exact h1
    · exact h2
/-- An item of s that all of s are at or above. -/
def jnB (zs : List Int) (s : Int) (c : Nat) : Bool := bitB s c && lessI s (atUp zs c) == 0
theorem less_less (s p z : Int) : (lessI (lessI s p) z == 0) = (lessI s (orI z p) == 0) := by
  rw [Bool.eq_iff_iff, beq_iff_eq, beq_iff_eq, lessI_none, lessI_none]
  constructor
  · intro h j hj
    rw [bitB_or]
    cases hp : bitB p j
    · have := h j (by rw [bitB_less, hj, hp]; rfl)
      rw [this]; rfl
    · simp
  · intro h j hj
    rw [bitB_less, Bool.and_eq_true, Bool.not_eq_true'] at hj
    have := h j hj.1
    rw [bitB_or, hj.2, Bool.or_false] at this
    exact this
def jnI (zs : List Int) (s : Int) : Int := match (List.range zs.length).find? (jnB zs s) with | none => -1 | some c => (c : Int)
theorem jnI_at {zs : List Int} {s : Int} {c : Nat} (hc : c < zs.length) (hb : jnB zs s c = true) (hn : ∀ j, j < c → jnB zs s j = false) : jnI zs s = c := by
  have : (List.range zs.length).find? (jnB zs s) = some c := by
    rw [List.find?_range_eq_some]
    exact ⟨hb, by simpa using hc, fun j hj => by simpa using hn j hj⟩
  unfold jnI
  rw [this]
theorem jnI_none {zs : List Int} {s : Int} (hn : ∀ j, j < zs.length → jnB zs s j = false) : jnI zs s = -1 := by
  have : (List.range zs.length).find? (jnB zs s) = none := by
    rw [List.find?_eq_none]
    intro x hx
    rw [hn x (by simpa using hx)]
    simp
  unfold jnI
  rw [this]
theorem jnI_cases {zs : List Int} {s : Int} : (jnI zs s = -1 ∧ ∀ j, j < zs.length → jnB zs s j = false) ∨ ∃ c : Nat, jnI zs s = c ∧ c < zs.length ∧ jnB zs s c = true := by
  unfold jnI
  cases h : (List.range zs.length).find? (jnB zs s) with
  | none => exact .inl ⟨rfl, fun j hj => by
      have := List.find?_eq_none.1 h j (by simpa using hj)
      simpa using this⟩
  | some c => exact .inr ⟨c, rfl, by have := List.mem_of_find?_eq_some h; simpa using this, List.find?_some h⟩
theorem jnI_bd (zs : List Int) (s : Int) : -1 ≤ jnI zs s ∧ jnI zs s < zs.length := by
  rcases jnI_cases (zs := zs) (s := s) with h | ⟨c, h, hc, _⟩ <;> omega
/-- The join, -1 for none. -/
def joinI (zs : List Int) (a b : Nat) : Int := jnI zs (upR zs a b)
theorem joinI_bd (zs : List Int) (a b : Nat) : -1 ≤ joinI zs a b ∧ joinI zs a b < zs.length := jnI_bd _ _
def isIt (zs : List Int) (a : Int) : Bool := inB a 0 ((zs.length : Int) - 1)
def joinR (zs : List Int) (a b : Int) : Int := if vo zs && (isIt zs a && isIt zs b) then joinI zs a.toNat b.toNat else -1
def meetR (zs : List Int) (a b : Int) : Int := if vo zs && (isIt zs a && isIt zs b) then joinI (du zs) a.toNat b.toNat else -1

/-- The items with one item next below. -/
def snB (zs : List Int) (a : Nat) : Bool := popI (topsTo zs ((du zs)[a]?.getD 0) zs.length) == 1
def snTo (zs : List Int) : Nat → Int
  | 0 => 0
  | a + 1 => if snB zs a then orI (snTo zs a) (powI a) else snTo zs a
theorem snTo_yes {zs : List Int} {a : Nat} (h : snB zs a = true) : snTo zs (a + 1) = orI (snTo zs a) (powI a) := by simp [snTo, h]
theorem snTo_no {zs : List Int} {a : Nat} (h : snB zs a = false) : snTo zs (a + 1) = snTo zs a := by simp [snTo, h]
theorem snTo_bd (zs : List Int) : ∀ k : Nat, 0 ≤ snTo zs k ∧ snTo zs k < powI k
  | 0 => by simp [snTo, powI]
  | k + 1 => by
    have h := snTo_bd zs k
    have hp : powI (k : Int) < powI ((k + 1 : Nat) : Int) := powI_lt (by omega)
    unfold snTo
    split
    · exact orI_bd h.1 (by omega) (Int.le_of_lt (powI_pos _)) hp
    · omega
theorem snTo_bit (zs : List Int) (j : Nat) : ∀ k : Nat, bitB (snTo zs k) j = (decide (j < k) && snB zs j)
  | 0 => by simp [snTo, bitB_zero]
  | k + 1 => by
    have ih := snTo_bit zs j k
    cases hs : snB zs k
    · rw [snTo_no hs, ih]
      by_cases e : j = k
      · subst e; simp [hs]
      · have : (j < k + 1) ↔ (j < k) := by omega
        simp [this]
    · rw [snTo_yes hs, bitB_or, ih, bitB_pow]
      by_cases e : j = k
      · subst e; simp [hs]
      · have h1 : (j < k + 1) ↔ (j < k) := by omega
        have h2 : ¬ k = j := by omega
        simp [h1, h2]
def singlesR (zs : List Int) : Int := if vo zs then snTo zs zs.length else -1
/-- What is next below an item: as the model takes it, and the tops of all below it. -/
theorem next_below {zs : List Int} (h : VoP zs) {a : Nat} (ha : a < zs.length) : coverTo (du zs) a zs.length = topsTo zs ((du zs)[a]?.getD 0) zs.length := by
  have hd := du_sets h.sets
  have hb := coverTo_bd hd (a := a) (by rw [du_len]; exact ha) zs.length
  refine bitB_ext hb.1 (topsTo_bd _ _ _).1 fun j => ?_
  rw [Bool.eq_iff_iff, coverTo_bit, topsTo_bit, Bool.and_eq_true, List.all_eq_true, andI_zero]
  constructor
  · rintro ⟨h1, h2⟩
    refine ⟨by rw [du_bit h.sets] at h1; exact bit_none h1, h1, fun b hb => ?_⟩
    have hbn : b < zs.length := by rw [du_bit h.sets] at hb; exact bit_none hb
    have := h2 b (by simpa using hbn)
    rw [hb, du_bit h.sets] at this
    simpa using this
  · rintro ⟨h1, h2, h3⟩
    refine ⟨h2, fun y hy => ?_⟩
    cases hb : bitB ((du zs)[a]?.getD 0) y
    · rfl
    · have := h3 y hb
      rw [du_bit h.sets, this]
      rfl

/-- A set of just the items at or below all those at or above all of it. -/
def cutI (zs : List Int) (s : Int) : Int := comTo (du zs) (comTo zs s zs.length) zs.length
def cutB (zs : List Int) (s : Int) : Bool := cutI zs s == s
def cutsR (zs : List Int) : List Int := if vo zs then setsTo (cutB zs) (2 ^ zs.length) else []

/-- The place of an item of s. -/
def plN (s : Nat) (a : Nat) : Nat := (popI (andI (s : Int) (powI a - 1))).toNat
theorem plN_fin : ∀ s : Fin 64, ∀ a : Fin 7, (popI (andI (s.val : Int) (powI (a.val : Int) - 1))).toNat = ((List.range a.val).filter fun j => s.val.testBit j).length := by decide +kernel
theorem plN_is {s a : Nat} (hs : s < 64) (ha : a ≤ 6) : plN s a = (leftL a s).length := plN_fin ⟨s, hs⟩ ⟨a, by omega⟩
theorem leftL_split {n s a : Nat} (ha : a < n) (hb : s.testBit a = true) : ∃ t, leftL n s = leftL a s ++ a :: t := by
  refine ⟨((List.range (n - (a + 1))).map (fun x => a + 1 + x)).filter fun j => s.testBit j, ?_⟩
  unfold leftL
  have e : List.range n = List.range a ++ a :: (List.range (n - (a + 1))).map (fun x => a + 1 + x) := by
    have h1 : n = (a + 1) + (n - (a + 1)) := by omega
    conv => lhs; rw [h1, List.range_add, List.range_succ]
    simp
  rw [e, List.filter_append, List.filter_cons, if_pos hb]
theorem pl_at {n s a : Nat} (hs : s < 64) (hn : n ≤ 6) (ha : a < n) (hb : s.testBit a = true) : plN s a < (leftL n s).length ∧ (leftL n s)[plN s a]?.getD 0 = a := by
  obtain ⟨t, e⟩ := leftL_split ha hb
  rw [e, plN_is hs (by omega)]
  simp
theorem left_pop_fin : ∀ n : Fin 7, ∀ s : Fin 64, s.val < 2 ^ n.val → (popI (s.val : Int)).toNat = ((List.range n.val).filter fun j => s.val.testBit j).length := by decide +kernel
theorem left_pop {n s : Nat} (hn : n ≤ 6) (hs : s < 2 ^ n) : popI (s : Int) = (leftL n s).length := by
  have h64 := Nat.lt_of_lt_of_le hs (pow_le64 hn)
  have h1 := left_pop_fin ⟨n, by omega⟩ ⟨s, h64⟩ hs
  have h2 := (popI_bd (s := (s : Int)) (by omega) (by omega)).1
  simp only at h1
  unfold leftL
  omega
/-- The pairs of a list of which s has both. -/
def ptB (s : Int) (p : Nat × Nat) : Bool := bitB s p.1 && bitB s p.2
def ptP (s : Nat) (ps : List (Nat × Nat)) : List (Nat × Nat) := (ps.filter (ptB s)).map fun p => (plN s p.2, plN s p.1)
theorem ptP_yes {s : Nat} {ps : List (Nat × Nat)} {a b : Nat} (h1 : bitB s a = true) (h2 : bitB s b = true) : ptP s (ps ++ [(a, b)]) = ptP s ps ++ [(plN s b, plN s a)] := by
  simp [ptP, ptB, List.filter_append, h1, h2]
theorem ptP_no {s : Nat} {ps : List (Nat × Nat)} {a b : Nat} (h : bitB s a = false ∨ bitB s b = false) : ptP s (ps ++ [(a, b)]) = ptP s ps := by
  rcases h with h | h <;> simp [ptP, ptB, List.filter_append, h]
def partR (zs : List Int) (s : Int) : List Int := if vo zs && inB s 0 (powI zs.length - 1) then ind zs (leftL zs.length s.toNat) else []
theorem part_is {zs : List Int} (h : VoP zs) {s : Nat} (hs : s < 2 ^ zs.length) : downP (leftL zs.length s).length (ptP s (pairsL zs)) = ind zs (leftL zs.length s) := by
  have h6 := h.1
  have h64 := Nat.lt_of_lt_of_le hs (pow_le64 h6)
  have hi := leftL_inc zs s
  have hps : ∀ p ∈ ptP s (pairsL zs), p.1 < (leftL zs.length s).length ∧ p.2 < (leftL zs.length s).length := by
    intro p hp
    unfold ptP at hp
    rw [List.mem_map] at hp
    obtain ⟨⟨x, y⟩, hxy, rfl⟩ := hp
    rw [List.mem_filter] at hxy
    obtain ⟨h1, h2⟩ := hxy
    unfold ptB at h2
    rw [Bool.and_eq_true, bit_cast, bit_cast] at h2
    exact ⟨(pl_at h64 h6 (bit_lt hs h2.2) h2.2).1, (pl_at h64 h6 (bit_lt hs h2.1) h2.1).1⟩
  refine List.ext_getElem? fun i => ?_
  rcases Nat.lt_or_ge i (leftL zs.length s).length with hil | hil
  · have e1 : (downP (leftL zs.length s).length (ptP s (pairsL zs)))[i]? = some ((downP (leftL zs.length s).length (ptP s (pairsL zs)))[i]?.getD 0) := by
      rw [List.getElem?_eq_getElem (by rw [downP_len]; exact hil)]; rfl
    have e2 : (ind zs (leftL zs.length s))[i]? = some ((ind zs (leftL zs.length s))[i]?.getD 0) := by
      rw [List.getElem?_eq_getElem (by rw [ind_len]; exact hil)]; rfl
    rw [e1, e2]
    congr 1
    refine bitB_ext (downP_bd (fun p hp => (hps p hp).1) i).1 ?_ fun j => ?_
    · have := (ind_vo h hi).bd i (by rw [ind_len]; exact hil); exact this.1
    · rw [Bool.eq_iff_iff, downP_bit (fun p hp => (hps p hp).2), ind_bit hil]
      unfold ptP
      rw [List.mem_map]
      constructor
      · rintro ⟨⟨x, y⟩, hxy, e⟩
        rw [List.mem_filter] at hxy
        obtain ⟨h1, h2⟩ := hxy
        unfold ptB at h2
        rw [Bool.and_eq_true, bit_cast, bit_cast] at h2
        have hx := pl_at h64 h6 (bit_lt hs h2.1) h2.1
        have hy := pl_at h64 h6 (bit_lt hs h2.2) h2.2
        injection e with e3 e4
        rw [← e3, ← e4]
        exact ⟨hy.1, by rw [hx.2, hy.2]; exact (mem_pairsL.1 h1).2.2⟩
      · rintro ⟨hj, hb⟩
        have hx : s.testBit ((leftL zs.length s)[i]?.getD 0) = true ∧ (leftL zs.length s)[i]?.getD 0 < zs.length := by
          have := List.getElem_mem (l := leftL zs.length s) hil
          rw [List.getElem?_eq_getElem hil]
          unfold leftL at this ⊢
          rw [List.mem_filter] at this
          exact ⟨this.2, by simpa using this.1⟩
        have hy : s.testBit ((leftL zs.length s)[j]?.getD 0) = true ∧ (leftL zs.length s)[j]?.getD 0 < zs.length := by
          have := List.getElem_mem (l := leftL zs.length s) hj
          rw [List.getElem?_eq_getElem hj]
          unfold leftL at this ⊢
          rw [List.mem_filter] at this
          exact ⟨this.2, by simpa using this.1⟩
        refine ⟨((leftL zs.length s)[i]?.getD 0, (leftL zs.length s)[j]?.getD 0), ?_, ?_⟩
        · rw [List.mem_filter]
          refine ⟨mem_pairsL.2 ⟨hx.2, by omega, hb⟩, ?_⟩
          unfold ptB
          rw [Bool.and_eq_true, bit_cast, bit_cast]
          exact ⟨hx.1, hy.1⟩
        · have h1 := pl_at h64 h6 hx.2 hx.1
          have h2 := pl_at h64 h6 hy.2 hy.1
          have e1 := hi.at_inj h1.1 hil h1.2
          have e2 := hi.at_inj h2.1 hj h2.2
          simp only
          rw [e1, e2]
  · rw [List.getElem?_eq_none (by rw [downP_len]; exact hil), List.getElem?_eq_none (by rw [ind_len]; exact hil)]
end Go.Proofs.Ytghogabmkbadjab

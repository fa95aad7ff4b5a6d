/- Forests: the lines are counted at once, by how many items stand at or above each one. No program. -/
import Derived.Test.YthjmedbjdjkilaaGb
import Derived.Test.YthjmedbjdjkilaaGc
import Derived.Test.YthjmedbjdjkilaaForM
namespace Go.Proofs.Ythjmedbjdjkilaa

/-- How many items stand at or above x. -/
def hN (zs : List Int) (x : Nat) : Nat := ((List.range zs.length).map fun y => if decide (x = y) || bitB (zs[x]?.getD 0) y then 1 else 0).sum
/-- What is multiplied, over the items of s, of the first m. -/
def prB (zs : List Int) (s : Nat) : Nat → Nat
  | 0 => 1
  | m + 1 => prB zs s m * (if s.testBit m then hN zs m else 1)
/-- How many items of s are of the first m. -/
def szB (s m : Nat) : Nat := ((List.range m).map fun x => if s.testBit x then 1 else 0).sum
theorem szB_succ (s m : Nat) : szB s (m + 1) = szB s m + (if s.testBit m then 1 else 0) := by
  unfold szB; rw [List.range_succ, List.map_append, List.sum_append]; simp
def facN : Nat → Nat
  | 0 => 1
  | k + 1 => facN k * (k + 1)
section
variable {zs : List Int} {s a : Nat}
theorem sub_bit {j : Nat} (hs : s < 64) (ha : a < 6) (hb : s.testBit a = true) : (s - 2 ^ a).testBit j = (s.testBit j && !decide (a = j)) := by
  have hpa := Nat.two_pow_pos a
  rcases Nat.lt_or_ge j 6 with hj | hj
  · exact sub_bit_fin ⟨s, hs⟩ ⟨a, ha⟩ ⟨j, hj⟩ hb
  · have h6 : ∀ t : Nat, t < 64 → t.testBit j = false := fun t ht => Nat.testBit_lt_two_pow (Nat.lt_of_lt_of_le (show t < 2 ^ 6 by omega) (Nat.pow_le_pow_right (by decide) hj))
    rw [h6 _ (by omega), h6 _ hs]; rfl
theorem prB_less (hs : s < 64) (ha : a < 6) (hb : s.testBit a = true) : ∀ m : Nat, prB zs s m = prB zs (s - 2 ^ a) m * (if a < m then hN zs a else 1)
  | 0 => by simp [prB]
  | m + 1 => by
    have ih := prB_less hs ha hb m
    unfold prB
    rw [ih, sub_bit hs ha hb]
    by_cases e : a = m
    · subst e
      rw [hb, if_neg (Nat.lt_irrefl _), if_pos rfl, if_pos (Nat.lt_succ_self _)]
      simp
    · rw [decide_eq_false e]
      simp only [Bool.not_false, Bool.and_true]
      by_cases h : a < m
      · rw [if_pos h, if_pos (show a < m + 1 by omega), Nat.mul_assoc, Nat.mul_comm (hN zs a), ← Nat.mul_assoc]
      · rw [if_neg h, if_neg (show ¬ a < m + 1 by omega), Nat.mul_one, Nat.mul_one]
theorem szB_less (hs : s < 64) (ha : a < 6) (hb : s.testBit a = true) : ∀ m : Nat, szB s m = szB (s - 2 ^ a) m + (if a < m then 1 else 0)
  | 0 => by simp [szB]
  | m + 1 => by
    have ih := szB_less hs ha hb m
    rw [szB_succ, szB_succ, ih, sub_bit hs ha hb]
    by_cases e : a = m
    · subst e
      rw [hb, if_neg (Nat.lt_irrefl _), if_pos rfl, if_pos (Nat.lt_succ_self _)]
      simp
    · rw [decide_eq_false e]
      simp only [Bool.not_false, Bool.and_true]
      by_cases h : a < m
      · rw [if_pos h, if_pos (show a < m + 1 by omega)]; omega
      · rw [if_neg h, if_neg (show ¬ a < m + 1 by omega)]; omega
/-- With each item all above it are there. -/
def UpC (zs : List Int) (s : Nat) : Prop := ∀ a b : Nat, s.testBit a = true → bitB (zs[a]?.getD 0) b = true → s.testBit b = true
theorem eF_min (h : VoP zs) {a : Nat} : eF zs s a = true ↔ s.testBit a = true ∧ ∀ b : Nat, s.testBit b = true → bitB (zs[b]?.getD 0) a = false := eF_iff h
theorem upC_less (h : VoP zs) (hs : s < 64) (ha : a < 6) (hU : UpC zs s) (he : eF zs s a = true) : UpC zs (s - 2 ^ a) := by
  obtain ⟨h1, h2⟩ := (eF_min h).1 he
  intro x y hx hy
  rw [sub_bit hs ha h1, Bool.and_eq_true] at hx ⊢
  refine ⟨hU x y hx.1 hy, ?_⟩
  by_cases e : a = y
  · subst e; rw [h2 x hx.1] at hy; cases hy
  · simp [e]
theorem sum_one {p : Nat → Bool} {c : Nat} (N : Nat) (hc : c < N) (hp : p c = true) (hu : ∀ x, p x = true → x = c) : ((List.range N).map fun x => if p x then 1 else 0).sum = 1 := by
  rw [sum_pick (fun x => if p x then 1 else 0) c N hc]
  have : ((List.range N).map fun x => if x = c then 0 else if p x then 1 else 0).sum = 0 := by
    refine (sum_congr (g := fun _ => 0) fun x _ => ?_).trans (sum_map_zero _)
    by_cases e : x = c
    · rw [if_pos e]
    · rw [if_neg e]
      cases h : p x
      · rfl
      · exact absurd (hu x h) e
  simp only [this, hp, if_true]
theorem forest_pair (h : VoP zs) (hf : allCh zs = true) {a b y : Nat} (ha : bitB (zs[a]?.getD 0) y = true) (hb : bitB (zs[b]?.getD 0) y = true) : a = b ∨ bitB (zs[a]?.getD 0) b = true ∨ bitB (zs[b]?.getD 0) a = true := by
  have hy : y < zs.length := (du_small h (a := y) (j := a) (by rw [du_bit h.sets]; exact ha)).2
  unfold allCh at hf
  rw [List.all_eq_true] at hf
  have hc := hf y (List.mem_range.2 hy)
  unfold chB at hc
  have hc := of_decide_eq_true hc
  have hd := du_vo h
  have hbd := hd.bd y (by rw [du_len]; exact hy)
  have hp := powI_le6 (n := ((du zs).length : Int)) (by have := hd.1; omega)
  rw [ChP_iff (by omega)] at hc
  have ha2 : bitB ((du zs)[y]?.getD 0) a = true := by rw [du_bit h.sets]; exact ha
  have hb2 : bitB ((du zs)[y]?.getD 0) b = true := by rw [du_bit h.sets]; exact hb
  have key : ∀ u v : Nat, relB zs u v = true → bitB (zs[u]?.getD 0) v = true ∨ bitB (zs[v]?.getD 0) u = true := fun u v e => by
    unfold relB at e
    exact (Bool.or_eq_true _ _).mp e
  rcases Nat.lt_trichotomy a b with e | e | e
  · exact .inr (key a b (hc a b ha2 hb2 e))
  · exact .inl e
  · exact .inr ((key b a (hc b a hb2 ha2 e)).symm)
/-- Each item of s stands at or above just one of the lowest. -/
theorem lowest_one (h : VoP zs) (hf : allCh zs = true) (hs : s < 2 ^ zs.length) {y : Nat} (hy : s.testBit y = true) :
    ((List.range zs.length).map fun a => if eF zs s a && (decide (a = y) || bitB (zs[a]?.getD 0) y) then 1 else 0).sum = 1 := by
  have hpi : powI (zs.length : Int) = ((2 ^ zs.length : Nat) : Int) := by simp [powI]
  have hd := du_vo h
  obtain ⟨t, ht, hty⟩ := top_over (zs := du zs) hd (s := (s : Int)) (by rw [du_len, hpi]; omega) _ y (Nat.le_refl _) (by rw [bit_cast]; exact hy)
  obtain ⟨t1, t2, t3⟩ := (topsTo_bit _ _).1 ht
  rw [du_len] at t1
  rw [bit_cast] at t2
  have het : eF zs s t = true := by unfold eF; rw [t2, t3]; rfl
  have hor : y = t ∨ bitB (zs[t]?.getD 0) y = true := hty.imp id (fun e => (by rw [← du_bit h.sets]; exact e.2))
  have hpt : (eF zs s t && (decide (t = y) || bitB (zs[t]?.getD 0) y)) = true := by
    rw [het]
    rcases hor with e | e
    · simp [e]
    · simp [e]
  refine sum_one (p := fun a => eF zs s a && (decide (a = y) || bitB (zs[a]?.getD 0) y)) (c := t) _ t1 hpt fun x hx => ?_
  rw [Bool.and_eq_true, Bool.or_eq_true, decide_eq_true_eq] at hx
  obtain ⟨x1, x2⟩ := (eF_min h).1 hx.1
  obtain ⟨u1, u2⟩ := (eF_min h).1 het
  rcases hx.2 with e | e <;> rcases hor with e2 | e2
  · omega
  · subst e; rw [x2 t t2] at e2; cases e2
  · subst e2; rw [u2 x x1] at e; cases e
  · rcases forest_pair h hf e e2 with e3 | e3 | e3
    · exact e3
    · rw [u2 x x1] at e3; cases e3
    · rw [x2 t t2] at e3; cases e3
theorem lowest_none (h : VoP zs) (hU : UpC zs s) {y : Nat} (hy : s.testBit y = false) :
    ((List.range zs.length).map fun a => if eF zs s a && (decide (a = y) || bitB (zs[a]?.getD 0) y) then 1 else 0).sum = 0 := by
  refine (sum_congr (g := fun _ => 0) fun x _ => ?_).trans (sum_map_zero _)
  cases hx : eF zs s x && (decide (x = y) || bitB (zs[x]?.getD 0) y)
  · rfl
  · rw [Bool.and_eq_true, Bool.or_eq_true, decide_eq_true_eq] at hx
    obtain ⟨x1, _⟩ := (eF_min h).1 hx.1
    rcases hx.2 with e | e
    · subst e; rw [x1] at hy; cases hy
    · rw [hU x y x1 e] at hy; cases hy
theorem lowest_sum (h : VoP zs) (hf : allCh zs = true) (hs : s < 2 ^ zs.length) (hU : UpC zs s) : ((List.range zs.length).map fun a => if eF zs s a then hN zs a else 0).sum = szB s zs.length := by
  have e1 : ((List.range zs.length).map fun a => if eF zs s a then hN zs a else 0).sum = ((List.range zs.length).map fun a => ((List.range zs.length).map fun y => if eF zs s a && (decide (a = y) || bitB (zs[a]?.getD 0) y) then 1 else 0).sum).sum := by
    refine sum_congr fun a _ => ?_
    cases eF zs s a
    · simp only [Bool.false_and]; simpa using (sum_map_zero (List.range zs.length)).symm
    · rfl
  rw [e1, sum_swap]
  refine sum_congr fun y _ => ?_
  cases hy : s.testBit y
  · rw [lowest_none h hU hy]; rfl
  · rw [lowest_one h hf hs hy]; rfl
theorem hook (h : VoP zs) (hf : allCh zs = true) : ∀ (k s : Nat), s ≤ k → s < 2 ^ zs.length → UpC zs s → cF zs s * prB zs s zs.length = facN (szB s zs.length)
  | k, s, hk, hs, hU => by
    by_cases h0 : s = 0
    · subst h0
      have e1 : ∀ m, prB zs 0 m = 1 := fun m => by induction m with
        | zero => rfl
        | succ m ih => unfold prB; rw [ih, Nat.zero_testBit]; rfl
      have e2 : szB 0 zs.length = 0 := by
        unfold szB
        exact (sum_congr (g := fun _ => 0) fun x _ => by rw [Nat.zero_testBit]; rfl).trans (sum_map_zero _)
      rw [cF_zero, e1, e2]; rfl
    · cases k with
      | zero => omega
      | succ k =>
        have hn6 := h.1
        have hp64 := pow_le64 hn6
        have hsum := lowest_sum h hf hs hU
        obtain ⟨m, hm⟩ : ∃ m, szB s zs.length = m + 1 := by
          obtain ⟨j, hj⟩ := Nat.exists_testBit_of_ne_zero h0
          have hjn := bit_lt hs hj
          have h2 := szB_less (show s < 64 by omega) (show j < 6 by omega) hj zs.length
          rw [if_pos hjn] at h2
          exact ⟨_, h2⟩
        rw [hm] at hsum ⊢
        have e1 : cF zs s * prB zs s zs.length = ((List.range zs.length).map fun a => facN m * (if eF zs s a then hN zs a else 0)).sum := by
          rw [cF_pos h0, Nat.mul_comm, ← sum_mul]
          refine sum_congr fun a ha => ?_
          have han := List.mem_range.1 ha
          cases he : eF zs s a
          · simp
          · obtain ⟨ha1, _⟩ := (eF_min h).1 he
            have hlt := sub_lt (a := a) h0
            have ih := hook h hf k (s - 2 ^ a) (by omega) (by omega) (upC_less h (by omega) (by omega) hU he)
            have h1 := prB_less (zs := zs) (show s < 64 by omega) (show a < 6 by omega) ha1 zs.length
            have h2 := szB_less (show s < 64 by omega) (show a < 6 by omega) ha1 zs.length
            rw [if_pos han] at h1 h2
            rw [hm] at h2
            have h3 : szB (s - 2 ^ a) zs.length = m := by omega
            rw [h3] at ih
            rw [if_pos rfl, if_pos rfl, h1, ← ih, Nat.mul_comm (cF zs (s - 2 ^ a)), Nat.mul_assoc, Nat.mul_assoc, Nat.mul_comm (hN zs a)]
        rw [e1, sum_mul, hsum]; rfl
end
theorem pop_sum_fin : ∀ n : Fin 7, ∀ z : Fin 64, ∀ x : Fin 6, z.val < 2 ^ n.val → x.val < n.val → z.val.testBit x.val = false →
    ((((List.range n.val).map fun y => if decide (x.val = y) || z.val.testBit y then 1 else 0).sum : Nat) : Int) = popI (z.val : Int) + 1 := by decide +kernel
theorem full_sz_fin : ∀ n : Fin 7, szB (2 ^ n.val - 1) n.val = n.val := by decide +kernel
theorem hN_pop {zs : List Int} (h : VoP zs) {x : Nat} (hx : x < zs.length) : (hN zs x : Int) = popI (zs[x]?.getD 0) + 1 := by
  have hn6 := h.1
  have hp64 := pow_le64 hn6
  have hb := h.sets.2 x hx
  have hpi : powI (zs.length : Int) = ((2 ^ zs.length : Nat) : Int) := by simp [powI]
  have hir := h.irrB hx
  unfold hN
  obtain ⟨z, hz⟩ := Int.eq_ofNat_of_zero_le hb.1
  rw [hz] at hb hir ⊢
  rw [bit_cast] at hir
  have hz2 : z < 2 ^ zs.length := by rw [hpi] at hb; have := hb.2; omega
  have e : ((List.range zs.length).map fun y => if decide (x = y) || bitB (z : Int) y then 1 else 0) = ((List.range zs.length).map fun y => if decide (x = y) || z.testBit y then 1 else 0) :=
    List.map_congr_left fun y _ => by rw [bit_cast]
  rw [e]
  exact pop_sum_fin ⟨zs.length, by omega⟩ ⟨z, by omega⟩ ⟨x, by omega⟩ hz2 hx hir
theorem prB_div {zs : List Int} (h : VoP zs) : ∀ m : Nat, m ≤ zs.length → (prB zs (2 ^ zs.length - 1) m : Int) = divTo zs m
  | 0, _ => rfl
  | m + 1, hm => by
    have ih := prB_div h m (by omega)
    unfold prB divTo
    rw [Nat.testBit_two_pow_sub_one, decide_eq_true (show m < zs.length from hm), if_pos rfl, Int.natCast_mul, ih, hN_pop h hm]
theorem facN_I : ∀ k : Nat, (facN k : Int) = factI k
  | 0 => rfl
  | k + 1 => by
    unfold facN factI
    rw [Int.natCast_mul, facN_I k]; rfl
/-- Forests are counted at once. -/
theorem forest_lines {zs : List Int} (h : VoP zs) (hf : allCh zs = true) : linesR zs = forestR zs ∧ 0 ≤ forestR zs := by
  have hn6 := h.1
  have hpp := Nat.two_pow_pos zs.length
  have hv : vo zs = true := by simpa [vo] using h
  have h1 := hook h hf _ (2 ^ zs.length - 1) (Nat.le_refl _) (by omega) (fun a b _ hb => by
    have hb2 := (du_small h (a := b) (j := a) (by rw [du_bit h.sets]; exact hb)).2
    rw [Nat.testBit_two_pow_sub_one]; simpa using hb2)
  rw [full_sz_fin ⟨zs.length, by omega⟩] at h1
  have h2 := prB_div h zs.length (Nat.le_refl _)
  have h3 := (divTo_bd h.sets zs.length (Nat.le_refl _)).1
  have h4 : (cF zs (2 ^ zs.length - 1) : Int) * divTo zs zs.length = factI zs.length := by rw [← h2, ← facN_I, ← h1]; exact (Int.natCast_mul _ _).symm
  have e : forestR zs = (cF zs (2 ^ zs.length - 1) : Int) := by
    unfold forestR
    rw [hv, hf, Bool.and_self, if_pos rfl, ← h4, Int.mul_tdiv_cancel _ (by omega)]
  refine ⟨?_, by rw [e]; omega⟩
  rw [e]
  unfold linesR
  rw [hv, if_pos rfl, count_both h]
end Go.Proofs.Ythjmedbjdjkilaa

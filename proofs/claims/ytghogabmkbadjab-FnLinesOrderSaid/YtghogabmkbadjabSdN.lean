/- Sides as the model tries them, as plain mathematics: the best one is the first one. No program. -/
import Derived.Test.YtghogabmkbadjabGc
set_option linter.unusedVariables false
set_option linter.unusedSimpArgs false
namespace Go.Proofs.Ytghogabmkbadjab

theorem lexB_iff {a b : List Int} : lexB a b = true ↔ ∃ k, k < a.length ∧ (∀ j, j < k → a[j]?.getD 0 = b[j]?.getD 0) ∧ a[k]?.getD 0 < b[k]?.getD 0 := by
  unfold lexB
  cases e : (List.range a.length).find? (fun i => !(a[i]?.getD 0 == b[i]?.getD 0)) with
  | none =>
    rw [List.find?_eq_none] at e
    constructor
    · intro h; cases h
    · rintro ⟨k, hk, _, hlt⟩
      have := e k (List.mem_range.2 hk)
      simp at this
      omega
  | some i =>
    rw [List.find?_eq_some_iff_getElem] at e
    obtain ⟨hne, i', hi', ei, hbef⟩ := e
    simp only [List.getElem_range] at ei
    subst ei
    rw [List.length_range] at hi'
    have heq : ∀ j, j < i' → a[j]?.getD 0 = b[j]?.getD 0 := fun j hj => by simpa using hbef j hj
    have hne' : ¬ a[i']?.getD 0 = b[i']?.getD 0 := by simpa using hne
    simp only [decide_eq_true_eq]
    constructor
    · exact fun h => ⟨i', hi', heq, h⟩
    · rintro ⟨k, hk, h1, h2⟩
      rcases Nat.lt_trichotomy k i' with h | h | h
      · have := heq k h; omega
      · rw [← h]; exact h2
      · exact absurd (h1 i' h) hne'
theorem lexB_trans {a b c : List Int} (hl : b.length = a.length) (h1 : lexB a b = true) (h2 : lexB b c = true) : lexB a c = true := by
  obtain ⟨k, hk, e1, l1⟩ := lexB_iff.1 h1
  obtain ⟨m, hm, e2, l2⟩ := lexB_iff.1 h2
  refine lexB_iff.2 ?_
  rcases Nat.lt_trichotomy k m with h | h | h
  · exact ⟨k, hk, fun j hj => (e1 j hj).trans (e2 j (by omega)), by rw [← e2 k h]; exact l1⟩
  · subst h; exact ⟨k, hk, fun j hj => (e1 j hj).trans (e2 j hj), by omega⟩
  · exact ⟨m, by omega, fun j hj => (e1 j (by omega)).trans (e2 j hj), by rw [e1 m h]; exact l2⟩
theorem lexB_irr (a : List Int) : lexB a a = false := by
  cases e : lexB a a
  · rfl
  · obtain ⟨k, _, _, h⟩ := lexB_iff.1 e; omega
theorem lexB_eq {a b : List Int} (hl : a.length = b.length) (h1 : lexB a b = false) (h2 : lexB b a = false) : a = b := by
  have key : ∀ k : Nat, ∀ j, j < k → j < a.length → a[j]?.getD 0 = b[j]?.getD 0 := fun k => by
    induction k with
    | zero => intro j hj; omega
    | succ k ih =>
      intro j hj hja
      rcases Nat.lt_or_ge j k with h | h
      · exact ih j h hja
      · obtain rfl : j = k := by omega
        rcases Int.lt_trichotomy (a[j]?.getD 0) (b[j]?.getD 0) with e | e | e
        · rw [lexB_iff.2 ⟨j, hja, fun i hi => ih i hi (by omega), e⟩] at h1; cases h1
        · exact e
        · rw [lexB_iff.2 ⟨j, by omega, fun i hi => (ih i hi (by omega)).symm, e⟩] at h2; cases h2
  refine List.ext_getElem? fun i => ?_
  rcases Nat.lt_or_ge i a.length with h | h
  · have h2 : i < b.length := by omega
    have := key (i + 1) i (by omega) h
    rw [List.getElem?_eq_getElem h, List.getElem?_eq_getElem h2] at this ⊢
    simpa using this
  · rw [List.getElem?_eq_none h, List.getElem?_eq_none (by omega)]
theorem least_eq {zs S T : List Int} (hS : Least zs S) (hT : Least zs T) : S = T := lexB_eq (by rw [hS.1.len, hT.1.len]) (hT.2 S hS.1) (hS.2 T hT.1)

/-! The pairs, as the model has them. -/
def mPX (zs : List Int) (a b : Nat) : List (Nat × Nat) := ((List.range b).filter fun b => !relB zs a b).map fun b => (b, a)
def mPT (zs : List Int) (a : Nat) : List (Nat × Nat) := (List.range a).flatMap fun a => mPX zs a a
def mP (zs : List Int) : List (Nat × Nat) := mPT zs zs.length
theorem mPT_succ (zs : List Int) (a : Nat) : mPT zs (a + 1) = mPT zs a ++ mPX zs a a := by simp [mPT, List.range_succ]
theorem mPX_yes {zs : List Int} {a b : Nat} (h : relB zs a b = false) : mPX zs a (b + 1) = mPX zs a b ++ [(b, a)] := by simp [mPX, List.range_succ, h]
theorem mPX_no {zs : List Int} {a b : Nat} (h : relB zs a b = true) : mPX zs a (b + 1) = mPX zs a b := by simp [mPX, List.range_succ, h]
theorem mPX_len (zs : List Int) (a b : Nat) : (mPX zs a b).length ≤ b := by
  unfold mPX
  rw [List.length_map]
  exact Nat.le_trans (List.length_filter_le _ _) (by simp)
theorem mPT_len (zs : List Int) : ∀ a : Nat, (mPT zs a).length ≤ a * a
  | 0 => by simp [mPT]
  | a + 1 => by
    have h1 := mPT_len zs a
    have h2 := mPX_len zs a a
    rw [mPT_succ, List.length_append]
    have : (a + 1) * (a + 1) = a * a + a + a + 1 := by rw [Nat.add_mul, Nat.mul_add]; omega
    omega
theorem mP_len {zs : List Int} (h : VoP zs) : (mP zs).length ≤ 36 := by
  have h1 := mPT_len zs zs.length
  have h2 := h.1
  have : zs.length * zs.length ≤ 6 * 6 := Nat.mul_le_mul h2 h2
  unfold mP; omega
theorem un_rel {zs : List Int} {a b : Nat} (hab : a ≠ b) : relB zs a b = false ↔ un zs a b := by
  unfold un qB relB
  rw [Bool.or_eq_false_iff, ← Bool.not_eq_true, ← Bool.not_eq_true]
  exact ⟨fun h => ⟨hab, h.1, h.2⟩, fun h => ⟨h.2.1, h.2.2⟩⟩
theorem mem_mP {zs : List Int} {p : Nat × Nat} : p ∈ mP zs ↔ p.1 < p.2 ∧ p.2 < zs.length ∧ un zs p.1 p.2 := by
  unfold mP mPT mPX
  simp only [List.mem_flatMap, List.mem_range, List.mem_map, List.mem_filter, Bool.not_eq_true']
  constructor
  · rintro ⟨a, ha, b, ⟨hb, hr⟩, rfl⟩
    exact ⟨hb, ha, un_symm ((un_rel (by omega)).1 hr)⟩
  · rintro ⟨h1, h2, h3⟩
    exact ⟨p.2, h2, p.1, ⟨h1, (un_rel (by omega)).2 (un_symm h3)⟩, rfl⟩
def arcM (zs : List Int) (s i : Nat) : Nat × Nat := if s.testBit i then (((mP zs)[i]?.getD (0, 0)).2, ((mP zs)[i]?.getD (0, 0)).1) else (mP zs)[i]?.getD (0, 0)
def mS (zs : List Int) (s : Nat) : Nat → List Int
  | 0 => zr zs.length
  | i + 1 => putB (mS zs s i) (arcM zs s i).1 (arcM zs s i).2
section
variable {zs : List Int}
theorem mS_len (s : Nat) : ∀ i : Nat, (mS zs s i).length = zs.length
  | 0 => zr_len _
  | i + 1 => by unfold mS putB; rw [List.length_set]; exact mS_len s i
theorem arcM_ok {s i : Nat} (hi : i < (mP zs).length) : (arcM zs s i).1 < zs.length ∧ (arcM zs s i).2 < zs.length ∧ un zs (arcM zs s i).1 (arcM zs s i).2 := by
  have hm := mem_mP.1 (List.getElem_mem hi)
  unfold arcM
  rw [List.getElem?_eq_getElem hi, Option.getD_some]
  split
  · exact ⟨hm.2.1, by show (mP zs)[i].1 < _; omega, un_symm hm.2.2⟩
  · exact ⟨by omega, hm.2.1, hm.2.2⟩
theorem mS_fit {s : Nat} : ∀ {i : Nat}, i ≤ (mP zs).length → ∀ j : Nat, 0 ≤ (mS zs s i)[j]?.getD 0 ∧ (mS zs s i)[j]?.getD 0 < powI zs.length
  | 0, _, j => by
    have hp := powI_pos (zs.length : Int)
    unfold mS zr
    rw [List.getElem?_replicate]
    split <;> exact ⟨Int.le_refl _, hp⟩
  | i + 1, hi, j => by
    have ih := mS_fit (s := s) (i := i) (by omega)
    obtain ⟨h1, h2, _⟩ := arcM_ok (zs := zs) (s := s) (i := i) (by omega)
    unfold mS putB
    rw [List.getElem?_set]
    split
    · split
      · exact orI_bd (ih _).1 (ih _).2 (Int.le_of_lt (powI_pos _)) (powI_lt h2)
      · rename_i e _
        rw [mS_len] at *
        omega
    · exact ih j
theorem mS_q {s : Nat} : ∀ {i : Nat}, i ≤ (mP zs).length → ∀ x y, qB (mS zs s i) x y ↔ ∃ j, j < i ∧ arcM zs s j = (x, y)
  | 0, _, x, y => by
    unfold mS qB zr
    rw [List.getElem?_replicate]
    constructor
    · intro e
      split at e <;> rw [show (Option.getD _ (0 : Int)) = 0 from rfl, bitB_zero] at e <;> cases e
    · rintro ⟨j, hj, _⟩; omega
  | i + 1, hi, x, y => by
    have ih := mS_q (s := s) (i := i) (by omega) x y
    obtain ⟨h1, h2, _⟩ := arcM_ok (zs := zs) (s := s) (i := i) (by omega)
    unfold mS
    rw [putB_q (by rw [mS_len]; exact h1), ih]
    constructor
    · rintro (⟨j, hj, e⟩ | ⟨e1, e2⟩)
      · exact ⟨j, by omega, e⟩
      · exact ⟨i, by omega, by rw [e1, e2]⟩
    · rintro ⟨j, hj, e⟩
      rcases Nat.lt_or_ge j i with h | h
      · exact .inl ⟨j, h, e⟩
      · obtain rfl : j = i := by omega
        rw [e]; exact .inr ⟨rfl, rfl⟩
theorem mpair_at {x y : Nat} (hx : x < zs.length) (hy : y < zs.length) (hu : un zs x y) : ∃ i, i < (mP zs).length ∧ ((mP zs)[i]?.getD (0, 0) = (x, y) ∨ (mP zs)[i]?.getD (0, 0) = (y, x)) := by
  rcases Nat.lt_or_ge x y with e | e
  · obtain ⟨i, hi, e2⟩ := List.getElem_of_mem ((mem_mP (p := (x, y))).2 ⟨e, hy, hu⟩)
    exact ⟨i, hi, .inl (by rw [List.getElem?_eq_getElem hi, Option.getD_some, e2])⟩
  · have hne := hu.1
    obtain ⟨i, hi, e2⟩ := List.getElem_of_mem ((mem_mP (p := (y, x))).2 ⟨by show y < x; omega, hx, un_symm hu⟩)
    exact ⟨i, hi, .inr (by rw [List.getElem?_eq_getElem hi, Option.getD_some, e2])⟩
def mF (zs : List Int) (s : Nat) : List Int := mS zs s (mP zs).length
theorem mF_side {s : Nat} (hv : VoP (mF zs s)) : SideOf zs (mF zs s) := by
  refine ⟨hv, mS_len _ _, fun x y hx hy => ⟨?_, fun hu => ?_⟩⟩
  · rintro (e | e)
    · obtain ⟨j, hj, e2⟩ := (mS_q (Nat.le_refl _) x y).1 e
      have := (arcM_ok (zs := zs) (s := s) hj).2.2
      rw [e2] at this; exact this
    · obtain ⟨j, hj, e2⟩ := (mS_q (Nat.le_refl _) y x).1 e
      have := (arcM_ok (zs := zs) (s := s) hj).2.2
      rw [e2] at this; exact un_symm this
  · obtain ⟨i, hi, hp⟩ := mpair_at hx hy hu
    have harc : arcM zs s i = (x, y) ∨ arcM zs s i = (y, x) := by
      unfold arcM
      rcases hp with hp | hp <;> rw [hp] <;> split
      · exact .inr rfl
      · exact .inl rfl
      · exact .inl rfl
      · exact .inr rfl
    rcases harc with e | e
    · exact .inl ((mS_q (Nat.le_refl _) x y).2 ⟨i, hi, e⟩)
    · exact .inr ((mS_q (Nat.le_refl _) y x).2 ⟨i, hi, e⟩)
def chM (zs T : List Int) : Nat := mkC (fun i => bitB (T[((mP zs)[i]?.getD (0, 0)).2]?.getD 0) (((mP zs)[i]?.getD (0, 0)).1 : Int)) (mP zs).length
theorem chM_lt (zs T : List Int) : chM zs T < 2 ^ (mP zs).length := mkC_lt _ _
theorem chM_arc {T : List Int} (hT : SideOf zs T) {i : Nat} (hi : i < (mP zs).length) : qB T (arcM zs (chM zs T) i).1 (arcM zs (chM zs T) i).2 := by
  have hm := mem_mP.1 (List.getElem_mem hi)
  have hb : (chM zs T).testBit i = true ↔ qB T ((mP zs)[i]?.getD (0, 0)).2 ((mP zs)[i]?.getD (0, 0)).1 := by
    unfold chM
    rw [mkC_bit, decide_eq_true hi, Bool.true_and]; exact Iff.rfl
  unfold arcM
  rw [List.getElem?_eq_getElem hi, Option.getD_some] at hb ⊢
  split
  · rename_i hc; exact hb.1 hc
  · rename_i hc
    have hno : ¬ qB T (mP zs)[i].2 (mP zs)[i].1 := fun e => hc (hb.2 e)
    exact ((hT.iff _ _ (by omega) hm.2.1).2 hm.2.2).resolve_right hno
theorem q_eq {S T : List Int} (hl : S.length = T.length) (hS : ∀ j : Nat, 0 ≤ S[j]?.getD 0) (hT : ∀ j : Nat, 0 ≤ T[j]?.getD 0) (hq : ∀ x y, qB S x y ↔ qB T x y) : S = T := by
  refine List.ext_getElem? fun a => ?_
  rcases Nat.lt_or_ge a S.length with ha | ha
  · have a2 : a < T.length := by omega
    have b1 := hS a
    have b2 := hT a
    rw [List.getElem?_eq_getElem ha] at b1 ⊢
    rw [List.getElem?_eq_getElem a2] at b2 ⊢
    congr 1
    refine bitB_ext b1 b2 fun j => ?_
    have := hq a j
    unfold qB at this
    rw [List.getElem?_eq_getElem ha, List.getElem?_eq_getElem a2] at this
    rw [Bool.eq_iff_iff]; exact this
  · rw [List.getElem?_eq_none ha, List.getElem?_eq_none (by omega)]
theorem mF_of {T : List Int} (hT : SideOf zs T) : mF zs (chM zs T) = T := by
  refine q_eq (by unfold mF; rw [mS_len, hT.len]) (fun j => (mS_fit (Nat.le_refl _) j).1) (fun j => ?_) fun x y => ?_
  · rcases Nat.lt_or_ge j T.length with h | h
    · exact (hT.vo.sets.2 j h).1
    · rw [List.getElem?_eq_none h]; exact Int.le_refl _
  · unfold mF
    rw [mS_q (Nat.le_refl _)]
    constructor
    · rintro ⟨j, hj, e⟩
      have := chM_arc hT hj
      rw [e] at this; exact this
    · intro e
      obtain ⟨h1, h2⟩ := q_lt2 hT.vo e
      rw [hT.len] at h1 h2
      obtain ⟨i, hi, hp⟩ := mpair_at h1 h2 (side_un hT e)
      have harc := chM_arc hT hi
      have hor : arcM zs (chM zs T) i = (x, y) ∨ arcM zs (chM zs T) i = (y, x) := by
        unfold arcM
        rcases hp with hp | hp <;> rw [hp] <;> split
        · exact .inr rfl
        · exact .inl rfl
        · exact .inl rfl
        · exact .inr rfl
      rcases hor with e2 | e2
      · exact ⟨i, hi, e2⟩
      · rw [e2] at harc
        exact absurd harc fun h => side_asym hT.vo e h

/-- The best one so far. -/
def bestS (zs : List Int) : Nat → Option (List Int)
  | 0 => none
  | s + 1 => if vo (mF zs s) && (match bestS zs s with | none => true | some b => lexB (mF zs s) b) then some (mF zs s) else bestS zs s
theorem best_inv : ∀ s : Nat, (bestS zs s = none → ∀ s', s' < s → ¬ VoP (mF zs s')) ∧ ∀ T, bestS zs s = some T → (∃ s', s' < s ∧ T = mF zs s') ∧ VoP T ∧ ∀ s', s' < s → VoP (mF zs s') → lexB (mF zs s') T = false
  | 0 => ⟨fun _ s' h => by omega, fun T h => by cases h⟩
  | s + 1 => by
    have ih := best_inv s
    have hl : ∀ s1 s2, (mF zs s1).length = (mF zs s2).length := fun s1 s2 => by unfold mF; rw [mS_len, mS_len]
    unfold bestS
    cases hv : vo (mF zs s)
    · simp only [Bool.false_and, Bool.false_eq_true, if_false]
      have hn : ¬ VoP (mF zs s) := by simpa [vo] using hv
      refine ⟨fun h s' hs' => ?_, fun T h => ?_⟩
      · rcases Nat.lt_or_ge s' s with h2 | h2
        · exact ih.1 h s' h2
        · rw [show s' = s by omega]; exact hn
      · obtain ⟨⟨s0, h0, e0⟩, h1, h2⟩ := ih.2 T h
        refine ⟨⟨s0, by omega, e0⟩, h1, fun s' hs' hv' => ?_⟩
        rcases Nat.lt_or_ge s' s with h3 | h3
        · exact h2 s' h3 hv'
        · rw [show s' = s by omega] at hv'; exact absurd hv' hn
    · have hy : VoP (mF zs s) := by simpa [vo] using hv
      cases hb : bestS zs s with
      | none =>
        simp only [Bool.true_and, if_true]
        refine ⟨fun h => (by cases h), fun T h => ?_⟩
        cases h
        refine ⟨⟨s, by omega, rfl⟩, hy, fun s' hs' hv' => ?_⟩
        rcases Nat.lt_or_ge s' s with h3 | h3
        · exact absurd hv' (ih.1 hb s' h3)
        · rw [show s' = s by omega]; exact lexB_irr _
      | some B =>
        obtain ⟨⟨s0, h0, e0⟩, h1, h2⟩ := ih.2 B hb
        cases hx : lexB (mF zs s) B
        · simp only [hx, Bool.true_and, Bool.false_eq_true, if_false]
          refine ⟨fun h => (by cases h), fun T h => ?_⟩
          cases h
          refine ⟨⟨s0, by omega, e0⟩, h1, fun s' hs' hv' => ?_⟩
          rcases Nat.lt_or_ge s' s with h3 | h3
          · exact h2 s' h3 hv'
          · rw [show s' = s by omega]; exact hx
        · simp only [hx, Bool.true_and, if_true]
          refine ⟨fun h => (by cases h), fun T h => ?_⟩
          cases h
          refine ⟨⟨s, by omega, rfl⟩, hy, fun s' hs' hv' => ?_⟩
          rcases Nat.lt_or_ge s' s with h3 | h3
          · cases hz : lexB (mF zs s') (mF zs s)
            · rfl
            · have := lexB_trans (hl s s') hz hx
              rw [h2 s' h3 hv'] at this; cases this
          · rw [show s' = s by omega]; exact lexB_irr _
theorem best_is (h : VoP zs) : bestS zs (2 ^ (mP zs).length) = sdF zs := by
  have hb := best_inv (zs := zs) (2 ^ (mP zs).length)
  cases e : bestS zs (2 ^ (mP zs).length) with
  | none =>
    cases e2 : sdF zs with
    | none => rfl
    | some T =>
      have hT := (sdF_some h e2).1
      have := hb.1 e (chM zs T) (chM_lt zs T)
      rw [mF_of hT] at this
      exact absurd hT.vo this
  | some B =>
    obtain ⟨⟨s0, h0, e0⟩, h1, h2⟩ := hb.2 B e
    have hB : SideOf zs B := by rw [e0] at h1 ⊢; exact mF_side h1
    have hL : Least zs B := ⟨hB, fun T' hT' => by
      have := h2 (chM zs T') (chM_lt zs T')
      rw [mF_of hT'] at this
      exact this hT'.vo⟩
    cases e2 : sdF zs with
    | none => exact absurd hB (sdF_none h e2 B)
    | some T => rw [least_eq hL (sdF_some h e2)]
end

/-- What SideOrder tells. -/
def sdOk (zs : List Int) : Bool := vo zs && (sdF zs).isSome
def sdR (zs : List Int) : List Int := if sdOk zs then (sdF zs).getD [] else []
theorem sdR_len (zs : List Int) : (sdR zs).length ≤ 6 := by
  unfold sdR
  split
  · rename_i h
    unfold sdOk at h
    rw [Bool.and_eq_true] at h
    have hv : VoP zs := by simpa [vo] using h.1
    cases e : sdF zs with
    | none => simp
    | some T => rw [Option.getD_some, (sdF_some hv e).1.len]; exact hv.1
  · simp
end Go.Proofs.Ytghogabmkbadjab

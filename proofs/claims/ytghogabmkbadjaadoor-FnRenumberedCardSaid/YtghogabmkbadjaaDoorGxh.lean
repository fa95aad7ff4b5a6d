/- Texts that several claims share, one behind the other. -/
import Derived.Test.YtghogabmkbadjaaDoorGxg
import Derived.Test.YtghogabmkbadjaaDoorGc
import Derived.Test.YtghogabmkbadjaaDoorGa
import Derived.Test.YtghogabmkbadjaaDoorGxf
set_option linter.unusedVariables false
set_option linter.unusedSimpArgs false
/- Sides as the model tries them, as plain mathematics: the best one is the first one. No program. -/
namespace Go.Proofs.YtghogabmkbadjaaDoor

theorem lexB_iff {a b : List Int} : lexB a b = true ↔ ∃ k, k < a.length ∧ (∀ j, j < k → a[j]?.getD 0 = b[j]?.getD 0) ∧ a[k]?.getD 0 < b[k]?.getD 0 := by
  unfold lexB
  cases e : (List.range a.length).find? (fun i => !(a[i]?.getD 0 == b[i]?.getD 0)) with
  | none =>
    rw [List.find?_eq_none] at e
    constructor
    · intro h; cases h
    · rintro ⟨k, hk, _, hlt⟩
      have := e k (List.mem_range.2 hk)
      simp at this
      omega
  | some i =>
    rw [List.find?_eq_some_iff_getElem] at e
    obtain ⟨hne, i', hi', ei, hbef⟩ := e
    simp only [List.getElem_range] at ei
    subst ei
    rw [List.length_range] at hi'
    have heq : ∀ j, j < i' → a[j]?.getD 0 = b[j]?.getD 0 := fun j hj => by simpa using hbef j hj
    have hne' : ¬ a[i']?.getD 0 = b[i']?.getD 0 := by simpa using hne
    simp only [decide_eq_true_eq]
    constructor
    · exact fun h => ⟨i', hi', heq, h⟩
    · rintro ⟨k, hk, h1, h2⟩
      rcases Nat.lt_trichotomy k i' with h | h | h
      · have := heq k h; omega
      · rw [← h]; exact h2
      · exact absurd (h1 i' h) hne'
theorem lexB_trans {a b c : List Int} (hl : b.length = a.length) (h1 : lexB a b = true) (h2 : lexB b c = true) : lexB a c = true := by
  obtain ⟨k, hk, e1, l1⟩ := lexB_iff.1 h1
  obtain ⟨m, hm, e2, l2⟩ := lexB_iff.1 h2
  refine lexB_iff.2 ?_
  rcases Nat.lt_trichotomy k m with h | h | h
  · exact ⟨k, hk, fun j hj => (e1 j hj).trans (e2 j (by omega)), by rw [← e2 k h]; exact l1⟩
  · subst h; exact ⟨k, hk, fun j hj => (e1 j hj).trans (e2 j hj), by omega⟩
  · exact ⟨m, by omega, fun j hj => (e1 j (by omega)).trans (e2 j hj), by rw [e1 m h]; exact l2⟩
theorem lexB_irr (a : List Int) : lexB a a = false := by
  cases e : lexB a a
  · rfl
  · obtain ⟨k, _, _, h⟩ := lexB_iff.1 e; omega
theorem lexB_eq {a b : List Int} (hl : a.length = b.length) (h1 : lexB a b = false) (h2 : lexB b a = false) : a = b := by
  have key : ∀ k : Nat, ∀ j, j < k → j < a.length → a[j]?.getD 0 = b[j]?.getD 0 := fun k => by
    induction k with
    | zero => intro j hj; omega
    | succ k ih =>
      intro j hj hja
      rcases Nat.lt_or_ge j k with h | h
      · exact ih j h hja
      · obtain rfl : j = k := by omega
        rcases Int.lt_trichotomy (a[j]?.getD 0) (b[j]?.getD 0) with e | e | e
        · rw [lexB_iff.2 ⟨j, hja, fun i hi => ih i hi (by omega), e⟩] at h1; cases h1
        · exact e
        · rw [lexB_iff.2 ⟨j, by omega, fun i hi => (ih i hi (by omega)).symm, e⟩] at h2; cases h2
  refine List.ext_getElem? fun i => ?_
  rcases Nat.lt_or_ge i a.length with h | h
  · have h2 : i < b.length := by omega
    have := key (i + 1) i (by omega) h
    rw [List.getElem?_eq_getElem h, List.getElem?_eq_getElem h2] at this ⊢
    simpa using this
  · rw [List.getElem?_eq_none h, List.getElem?_eq_none (by omega)]
theorem least_eq {zs S T : List Int} (hS : Least zs S) (hT : Least zs T) : S = T := lexB_eq (by rw [hS.1.len, hT.1.len]) (hT.2 S hS.1) (hS.2 T hT.1)

/-! The pairs, as the model has them. -/
def mPX (zs : List Int) (a b : Nat) : List (Nat × Nat) := ((List.range b).filter fun b => !relB zs a b).map fun b => (b, a)
def mPT (zs : List Int) (a : Nat) : List (Nat × Nat) := (List.range a).flatMap fun a => mPX zs a a
def mP (zs : List Int) : List (Nat × Nat) := mPT zs zs.length
theorem mPT_succ (zs : List Int) (a : Nat) : mPT zs (a + 1) = mPT zs a ++ mPX zs a a := by simp [mPT, List.range_succ]
theorem mPX_yes {zs : List Int} {a b : Nat} (h : relB zs a b = false) : mPX zs a (b + 1) = mPX zs a b ++ [(b, a)] := by simp [mPX, List.range_succ, h]
theorem mPX_no {zs : List Int} {a b : Nat} (h : relB zs a b = true) : mPX zs a (b + 1) = mPX zs a b := by simp [mPX, List.range_succ, h]
theorem mPX_len (zs : List Int) (a b : Nat) : (mPX zs a b).length ≤ b := by
  unfold mPX
  rw [List.length_map]
  exact Nat.le_trans (List.length_filter_le _ _) (by simp)
theorem mPT_len (zs : List Int) : ∀ a : Nat, (mPT zs a).length ≤ a * a
  | 0 => by simp [mPT]
  | a + 1 => by
    have h1 := mPT_len zs a
    have h2 := mPX_len zs a a
    rw [mPT_succ, List.length_append]
    have : (a + 1) * (a + 1) = a * a + a + a + 1 := by rw [Nat.add_mul, Nat.mul_add]; omega
    omega
theorem mP_len {zs : List Int} (h : VoP zs) : (mP zs).length ≤ 36 := by
  have h1 := mPT_len zs zs.length
  have h2 := h.1
  have : zs.length * zs.length ≤ 6 * 6 := Nat.mul_le_mul h2 h2
  unfold mP; omega
theorem un_rel {zs : List Int} {a b : Nat} (hab : a ≠ b) : relB zs a b = false ↔ un zs a b := by
  unfold un qB relB
  rw [Bool.or_eq_false_iff, ← Bool.not_eq_true, ← Bool.not_eq_true]
  exact ⟨fun h => ⟨hab, h.1, h.2⟩, fun h => ⟨h.2.1, h.2.2⟩⟩
theorem mem_mP {zs : List Int} {p : Nat × Nat} : p ∈ mP zs ↔ p.1 < p.2 ∧ p.2 < zs.length ∧ un zs p.1 p.2 := by
  unfold mP mPT mPX
  simp only [List.mem_flatMap, List.mem_range, List.mem_map, List.mem_filter, Bool.not_eq_true']
  constructor
  · rintro ⟨a, ha, b, ⟨hb, hr⟩, rfl⟩
    exact ⟨hb, ha, un_symm ((un_rel (by omega)).1 hr)⟩
  · rintro ⟨h1, h2, h3⟩
    exact ⟨p.2, h2, p.1, ⟨h1, (un_rel (by omega)).2 (un_symm h3)⟩, rfl⟩
def arcM (zs : List Int) (s i : Nat) : Nat × Nat := if s.testBit i then (((mP zs)[i]?.getD (0, 0)).2, ((mP zs)[i]?.getD (0, 0)).1) else (mP zs)[i]?.getD (0, 0)
def mS (zs : List Int) (s : Nat) : Nat → List Int
  | 0 => zr zs.length
  | i + 1 => putB (mS zs s i) (arcM zs s i).1 (arcM zs s i).2
section
variable {zs : List Int}
theorem mS_len (s : Nat) : ∀ i : Nat, (mS zs s i).length = zs.length
  | 0 => zr_len _
  | i + 1 => by unfold mS putB; rw [List.length_set]; exact mS_len s i
theorem arcM_ok {s i : Nat} (hi : i < (mP zs).length) : (arcM zs s i).1 < zs.length ∧ (arcM zs s i).2 < zs.length ∧ un zs (arcM zs s i).1 (arcM zs s i).2 := by
  have hm := mem_mP.1 (List.getElem_mem hi)
  unfold arcM
  rw [List.getElem?_eq_getElem hi, Option.getD_some]
  split
  · exact ⟨hm.2.1, by show (mP zs)[i].1 < _; omega, un_symm hm.2.2⟩
  · exact ⟨by omega, hm.2.1, hm.2.2⟩
theorem mS_fit {s : Nat} : ∀ {i : Nat}, i ≤ (mP zs).length → ∀ j : Nat, 0 ≤ (mS zs s i)[j]?.getD 0 ∧ (mS zs s i)[j]?.getD 0 < powI zs.length
  | 0, _, j => by
    have hp := powI_pos (zs.length : Int)
    unfold mS zr
    rw [List.getElem?_replicate]
    split <;> exact ⟨Int.le_refl _, hp⟩
  | i + 1, hi, j => by
    have ih := mS_fit (s := s) (i := i) (by omega)
    obtain ⟨h1, h2, _⟩ := arcM_ok (zs := zs) (s := s) (i := i) (by omega)
    unfold mS putB
    rw [List.getElem?_set]
    split
    · split
      · exact orI_bd (ih _).1 (ih _).2 (Int.le_of_lt (powI_pos _)) (powI_lt h2)
      · rename_i e _
        rw [mS_len] at *
        omega
    · exact ih j
theorem mS_q {s : Nat} : ∀ {i : Nat}, i ≤ (mP zs).length → ∀ x y, qB (mS zs s i) x y ↔ ∃ j, j < i ∧ arcM zs s j = (x, y)
  | 0, _, x, y => by
    unfold mS qB zr
    rw [List.getElem?_replicate]
    constructor
    · intro e
      split at e <;> rw [show (Option.getD _ (0 : Int)) = 0 from rfl, bitB_zero] at e <;> cases e
    · rintro ⟨j, hj, _⟩; omega
  | i + 1, hi, x, y => by
    have ih := mS_q (s := s) (i := i) (by omega) x y
    obtain ⟨h1, h2, _⟩ := arcM_ok (zs := zs) (s := s) (i := i) (by omega)
    unfold mS
    rw [putB_q (by rw [mS_len]; exact h1), ih]
    constructor
    · rintro (⟨j, hj, e⟩ | ⟨e1, e2⟩)
      · exact ⟨j, by omega, e⟩
      · exact ⟨i, by omega, by rw [e1, e2]⟩
    · rintro ⟨j, hj, e⟩
      rcases Nat.lt_or_ge j i with h | h
      · exact .inl ⟨j, h, e⟩
      · obtain rfl : j = i := by omega
        rw [e]; exact .inr ⟨rfl, rfl⟩
theorem mpair_at {x y : Nat} (hx : x < zs.length) (hy : y < zs.length) (hu : un zs x y) : ∃ i, i < (mP zs).length ∧ ((mP zs)[i]?.getD (0, 0) = (x, y) ∨ (mP zs)[i]?.getD (0, 0) = (y, x)) := by
  rcases Nat.lt_or_ge x y with e | e
  · obtain ⟨i, hi, e2⟩ := List.getElem_of_mem ((mem_mP (p := (x, y))).2 ⟨e, hy, hu⟩)
    exact ⟨i, hi, .inl (by rw [List.getElem?_eq_getElem hi, Option.getD_some, e2])⟩
  · have hne := hu.1
    obtain ⟨i, hi, e2⟩ := List.getElem_of_mem ((mem_mP (p := (y, x))).2 ⟨by show y < x; omega, hx, un_symm hu⟩)
    exact ⟨i, hi, .inr (by rw [List.getElem?_eq_getElem hi, Option.getD_some, e2])⟩
def mF (zs : List Int) (s : Nat) : List Int := mS zs s (mP zs).length
theorem mF_side {s : Nat} (hv : VoP (mF zs s)) : SideOf zs (mF zs s) := by
  refine ⟨hv, mS_len _ _, fun x y hx hy => ⟨?_, fun hu => ?_⟩⟩
  · rintro (e | e)
    · obtain ⟨j, hj, e2⟩ := (mS_q (Nat.le_refl _) x y).1 e
      have := (arcM_ok (zs := zs) (s := s) hj).2.2
      rw [e2] at this; exact this
    · obtain ⟨j, hj, e2⟩ := (mS_q (Nat.le_refl _) y x).1 e
      have := (arcM_ok (zs := zs) (s := s) hj).2.2
      rw [e2] at this; exact un_symm this
  · obtain ⟨i, hi, hp⟩ := mpair_at hx hy hu
    have harc : arcM zs s i = (x, y) ∨ arcM zs s i = (y, x) := by
      unfold arcM
      rcases hp with hp | hp <;> rw [hp] <;> split
      · exact .inr rfl
      · exact .inl rfl
      · exact .inl rfl
      · exact .inr rfl
    rcases harc with e | e
    · exact .inl ((mS_q (Nat.le_refl _) x y).2 ⟨i, hi, e⟩)
    · exact .inr ((mS_q (Nat.le_refl _) y x).2 ⟨i, hi, e⟩)
def chM (zs T : List Int) : Nat := mkC (fun i => bitB (T[((mP zs)[i]?.getD (0, 0)).2]?.getD 0) (((mP zs)[i]?.getD (0, 0)).1 : Int)) (mP zs).length
theorem chM_lt (zs T : List Int) : chM zs T < 2 ^ (mP zs).length := mkC_lt _ _
theorem chM_arc {T : List Int} (hT : SideOf zs T) {i : Nat} (hi : i < (mP zs).length) : qB T (arcM zs (chM zs T) i).1 (arcM zs (chM zs T) i).2 := by
  have hm := mem_mP.1 (List.getElem_mem hi)
  have hb : (chM zs T).testBit i = true ↔ qB T ((mP zs)[i]?.getD (0, 0)).2 ((mP zs)[i]?.getD (0, 0)).1 := by
    unfold chM
    rw [mkC_bit, decide_eq_true hi, Bool.true_and]; exact Iff.rfl
  unfold arcM
  rw [List.getElem?_eq_getElem hi, Option.getD_some] at hb ⊢
  split
  · rename_i hc; exact hb.1 hc
  · rename_i hc
    have hno : ¬ qB T (mP zs)[i].2 (mP zs)[i].1 := fun e => hc (hb.2 e)
    exact ((hT.iff _ _ (by omega) hm.2.1).2 hm.2.2).resolve_right hno
theorem q_eq {S T : List Int} (hl : S.length = T.length) (hS : ∀ j : Nat, 0 ≤ S[j]?.getD 0) (hT : ∀ j : Nat, 0 ≤ T[j]?.getD 0) (hq : ∀ x y, qB S x y ↔ qB T x y) : S = T := by
  refine List.ext_getElem? fun a => ?_
  rcases Nat.lt_or_ge a S.length with ha | ha
  · have a2 : a < T.length := by omega
    have b1 := hS a
    have b2 := hT a
    rw [List.getElem?_eq_getElem ha] at b1 ⊢
    rw [List.getElem?_eq_getElem a2] at b2 ⊢
    congr 1
    refine bitB_ext b1 b2 fun j => ?_
    have := hq a j
    unfold qB at this
    rw [List.getElem?_eq_getElem ha, List.getElem?_eq_getElem a2] at this
    rw [Bool.eq_iff_iff]; exact this
  · rw [List.getElem?_eq_none ha, List.getElem?_eq_none (by omega)]
theorem mF_of {T : List Int} (hT : SideOf zs T) : mF zs (chM zs T) = T := by
  refine q_eq (by unfold mF; rw [mS_len, hT.len]) (fun j => (mS_fit (Nat.le_refl _) j).1) (fun j => ?_) fun x y => ?_
  · rcases Nat.lt_or_ge j T.length with h | h
    · exact (hT.vo.sets.2 j h).1
    · rw [List.getElem?_eq_none h]; exact Int.le_refl _
  · unfold mF
    rw [mS_q (Nat.le_refl _)]
    constructor
    · rintro ⟨j, hj, e⟩
      have := chM_arc hT hj
      rw [e] at this; exact this
    · intro e
      obtain ⟨h1, h2⟩ := q_lt2 hT.vo e
      rw [hT.len] at h1 h2
      obtain ⟨i, hi, hp⟩ := mpair_at h1 h2 (side_un hT e)
      have harc := chM_arc hT hi
      have hor : arcM zs (chM zs T) i = (x, y) ∨ arcM zs (chM zs T) i = (y, x) := by
        unfold arcM
        rcases hp with hp | hp <;> rw [hp] <;> split
        · exact .inr rfl
        · exact .inl rfl
        · exact .inl rfl
        · exact .inr rfl
      rcases hor with e2 | e2
      · exact ⟨i, hi, e2⟩
      · rw [e2] at harc
        exact absurd harc fun h => side_asym hT.vo e h

/-- The best one so far. -/
def bestS (zs : List Int) : Nat → Option (List Int)
  | 0 => none
  | s + 1 => if vo (mF zs s) && (match bestS zs s with | none => true | some b => lexB (mF zs s) b) then some (mF zs s) else bestS zs s
theorem best_inv : ∀ s : Nat, (bestS zs s = none → ∀ s', s' < s → ¬ VoP (mF zs s')) ∧ ∀ T, bestS zs s = some T → (∃ s', s' < s ∧ T = mF zs s') ∧ VoP T ∧ ∀ s', s' < s → VoP (mF zs s') → lexB (mF zs s') T = false
  | 0 => ⟨fun _ s' h => by omega, fun T h => by cases h⟩
  | s + 1 => by
    have ih := best_inv s
    have hl : ∀ s1 s2, (mF zs s1).length = (mF zs s2).length := fun s1 s2 => by unfold mF; rw [mS_len, mS_len]
    unfold bestS
    cases hv : vo (mF zs s)
    · simp only [Bool.false_and, Bool.false_eq_true, if_false]
      have hn : ¬ VoP (mF zs s) := by simpa [vo] using hv
      refine ⟨fun h s' hs' => ?_, fun T h => ?_⟩
      · rcases Nat.lt_or_ge s' s with h2 | h2
        · exact ih.1 h s' h2
        · rw [show s' = s by omega]; exact hn
      · obtain ⟨⟨s0, h0, e0⟩, h1, h2⟩ := ih.2 T h
        refine ⟨⟨s0, by omega, e0⟩, h1, fun s' hs' hv' => ?_⟩
        rcases Nat.lt_or_ge s' s with h3 | h3
        · exact h2 s' h3 hv'
        · rw [show s' = s by omega] at hv'; exact absurd hv' hn
    · have hy : VoP (mF zs s) := by simpa [vo] using hv
      cases hb : bestS zs s with
      | none =>
        simp only [Bool.true_and, if_true]
        refine ⟨fun h => (by cases h), fun T h => ?_⟩
        cases h
        refine ⟨⟨s, by omega, rfl⟩, hy, fun s' hs' hv' => ?_⟩
        rcases Nat.lt_or_ge s' s with h3 | h3
        · exact absurd hv' (ih.1 hb s' h3)
        · rw [show s' = s by omega]; exact lexB_irr _
      | some B =>
        obtain ⟨⟨s0, h0, e0⟩, h1, h2⟩ := ih.2 B hb
        cases hx : lexB (mF zs s) B
        · simp only [hx, Bool.true_and, Bool.false_eq_true, if_false]
          refine ⟨fun h => (by cases h), fun T h => ?_⟩
          cases h
          refine ⟨⟨s0, by omega, e0⟩, h1, fun s' hs' hv' => ?_⟩
          rcases Nat.lt_or_ge s' s with h3 | h3
          · exact h2 s' h3 hv'
          · rw [show s' = s by omega]; exact hx
        · simp only [hx, Bool.true_and, if_true]
          refine ⟨fun h => (by cases h), fun T h => ?_⟩
          cases h
          refine ⟨⟨s, by omega, rfl⟩, hy, fun s' hs' hv' => ?_⟩
          rcases Nat.lt_or_ge s' s with h3 | h3
          · cases hz : lexB (mF zs s') (mF zs s)
            · rfl
            · have := lexB_trans (hl s s') hz hx
              rw [h2 s' h3 hv'] at this; cases this
          · rw [show s' = s by omega]; exact lexB_irr _
theorem best_is (h : VoP zs) : bestS zs (2 ^ (mP zs).length) = sdF zs := by
  have hb := best_inv (zs := zs) (2 ^ (mP zs).length)
  cases e : bestS zs (2 ^ (mP zs).length) with
  | none =>
    cases e2 : sdF zs with
    | none => rfl
    | some T =>
      have hT := (sdF_some h e2).1
      have := hb.1 e (chM zs T) (chM_lt zs T)
      rw [mF_of hT] at this
      exact absurd hT.vo this
  | some B =>
    obtain ⟨⟨s0, h0, e0⟩, h1, h2⟩ := hb.2 B e
    have hB : SideOf zs B := by rw [e0] at h1 ⊢; exact mF_side h1
    have hL : Least zs B := ⟨hB, fun T' hT' => by
      have := h2 (chM zs T') (chM_lt zs T')
      rw [mF_of hT'] at this
      exact this hT'.vo⟩
    cases e2 : sdF zs with
    | none => exact absurd hB (sdF_none h e2 B)
    | some T => rw [least_eq hL (sdF_some h e2)]
end

/-- What SideOrder tells. -/
def sdOk (zs : List Int) : Bool := vo zs && (sdF zs).isSome
def sdR (zs : List Int) : List Int := if sdOk zs then (sdF zs).getD [] else []
theorem sdR_len (zs : List Int) : (sdR zs).length ≤ 6 := by
  unfold sdR
  split
  · rename_i h
    unfold sdOk at h
    rw [Bool.and_eq_true] at h
    have hv : VoP zs := by simpa [vo] using h.1
    cases e : sdF zs with
    | none => simp
    | some T => rw [Option.getD_some, (sdF_some hv e).1.len]; exact hv.1
  · simp
end Go.Proofs.YtghogabmkbadjaaDoor

/- Lines out of sides, as plain mathematics. No program. -/
namespace Go.Proofs.YtghogabmkbadjaaDoor

def eitL (zs T : List Int) : List Int := opL orI zs T zs.length
section
variable {zs T : List Int}
theorem eitL_len : (eitL zs T).length = zs.length := opL_len _ _ _ _
theorem eitL_q (x y : Nat) (hl : T.length = zs.length) : qB (eitL zs T) x y ↔ qB zs x y ∨ qB T x y := by
  unfold qB eitL
  rcases Nat.lt_or_ge x zs.length with h | h
  · rw [opL_get _ _ _ _ h, if_pos h, bitB_or, Bool.or_eq_true]
  · rw [List.getElem?_eq_none (by rw [opL_len]; exact h), List.getElem?_eq_none h, List.getElem?_eq_none (by omega)]
    simp [bitB_zero]
/-- The order and its side make one line. -/
theorem eitL_vo (h : VoP zs) (hT : SideOf zs T) : VoP (eitL zs T) := by
  have hn6 := h.1
  have key : ∀ x y z, qB zs x y → qB T y z → qB zs x z ∨ qB T x z := fun x y z h1 h2 => by
    have hx := (q_lt2 h h1).1
    have hz := (q_lt2 hT.vo h2).2
    rw [hT.len] at hz
    have u2 := side_un hT h2
    by_cases hxz : x = z
    · subst hxz; exact absurd h1 u2.2.2
    · by_cases e1 : qB zs x z
      · exact .inl e1
      · by_cases e2 : qB zs z x
        · exact absurd (q_trans h e2 h1) u2.2.2
        · rcases (hT.iff x z hx hz).2 ⟨hxz, e1, e2⟩ with e3 | e3
          · exact .inr e3
          · exact absurd h1 (side_un hT (q_trans hT.vo h2 e3)).2.2
  have key2 : ∀ x y z, qB T x y → qB zs y z → qB zs x z ∨ qB T x z := fun x y z h1 h2 => by
    have hx := (q_lt2 hT.vo h1).1
    have hz := (q_lt2 h h2).2
    rw [hT.len] at hx
    have u1 := side_un hT h1
    by_cases hxz : x = z
    · subst hxz; exact absurd h2 u1.2.2
    · by_cases e1 : qB zs x z
      · exact .inl e1
      · by_cases e2 : qB zs z x
        · exact absurd (q_trans h h2 e2) u1.2.2
        · rcases (hT.iff x z hx hz).2 ⟨hxz, e1, e2⟩ with e3 | e3
          · exact .inr e3
          · exact absurd h2 (side_un hT (q_trans hT.vo e3 h1)).2.2
  refine vo_mk (by rw [eitL_len]; exact hn6) (fun a ha => ?_) (fun a e => ?_) (fun a b c h1 h2 => ?_)
  · rw [eitL_len] at ha ⊢
    unfold eitL
    rw [opL_get _ _ _ _ ha, if_pos ha]
    have h1 := h.sets.2 a ha
    have h2 := hT.vo.sets.2 a (by rw [hT.len]; exact ha)
    rw [hT.len] at h2
    exact orI_bd h1.1 h1.2 h2.1 h2.2
  · rcases (eitL_q a a hT.len).1 e with e | e
    · exact q_irr h e
    · exact q_irr hT.vo e
  · refine (eitL_q a c hT.len).2 ?_
    rcases (eitL_q a b hT.len).1 h1 with h1 | h1 <;> rcases (eitL_q b c hT.len).1 h2 with h2 | h2
    · exact .inl (q_trans h h1 h2)
    · exact key a b c h1 h2
    · exact key2 a b c h1 h2
    · exact .inr (q_trans hT.vo h1 h2)
theorem eitL_tot (hT : SideOf zs T) {x y : Nat} (hx : x < zs.length) (hy : y < zs.length) (hxy : x ≠ y) : qB (eitL zs T) x y ∨ qB (eitL zs T) y x := by
  rw [eitL_q x y hT.len, eitL_q y x hT.len]
  by_cases e1 : qB zs x y
  · exact .inl (.inl e1)
  · by_cases e2 : qB zs y x
    · exact .inr (.inl e2)
    · rcases (hT.iff x y hx hy).2 ⟨hxy, e1, e2⟩ with e3 | e3
      · exact .inl (.inr e3)
      · exact .inr (.inr e3)
theorem du_q (h : VoP T) (x y : Nat) : qB (du T) y x ↔ qB T x y := by unfold qB; rw [du_bit h.sets]
theorem side_du (hT : SideOf zs T) : SideOf zs (du T) := by
  refine ⟨du_vo hT.vo, by rw [du_len, hT.len], fun x y hx hy => ?_⟩
  rw [du_q hT.vo y x, du_q hT.vo x y]
  exact Or.comm.trans (hT.iff x y hx hy)
/-- An order is a side of its sides. -/
theorem side_back (h : VoP zs) (hT : SideOf zs T) : SideOf T zs := by
  refine ⟨h, hT.len.symm, fun x y hx hy => ?_⟩
  rw [hT.len] at hx hy
  have := hT.iff x y hx hy
  constructor
  · intro e
    have hne : x ≠ y := fun e2 => by subst e2; rcases e with e | e <;> exact q_irr h e
    refine ⟨hne, fun e2 => ?_, fun e2 => ?_⟩
    · have u := side_un hT e2
      exact e.elim (fun e => u.2.1 e) (fun e => u.2.2 e)
    · have u := side_un hT e2
      exact e.elim (fun e => u.2.2 e) (fun e => u.2.1 e)
  · rintro ⟨h1, h2, h3⟩
    by_cases e1 : qB zs x y
    · exact .inl e1
    · by_cases e2 : qB zs y x
      · exact .inr e2
      · exact absurd (this.2 ⟨h1, e1, e2⟩) (by rintro (e | e); exact h2 e; exact h3 e)
theorem sdF_of (h : VoP zs) (hT : SideOf zs T) : ∃ S, sdF zs = some S := by
  cases e : sdF zs with
  | none => exact absurd hT (sdF_none h e T)
  | some S => exact ⟨S, rfl⟩
end

/-! The lines of it. -/
def pl1 (zs T : List Int) : List Int := atL (eitL zs T) 0 zs.length
end Go.Proofs.YtghogabmkbadjaaDoor

/- A line backwards is one of the order turned round, as plain mathematics. No program. -/
namespace Go.Proofs.YtghogabmkbadjaaDoor

section
variable {zs ls : List Int}
theorem add_bit {s a j : Nat} (hs : s < 64) (ha : a < 6) (hb : s.testBit a = false) (h64 : s + 2 ^ a < 64) : (s + 2 ^ a).testBit j = (s.testBit j || decide (a = j)) := by
  rcases Nat.lt_or_ge j 6 with hj | hj
  · exact add_bit_fin ⟨s, hs⟩ ⟨a, ha⟩ ⟨j, hj⟩ hb
  · have h6 : ∀ t : Nat, t < 64 → t.testBit j = false := fun t ht => Nat.testBit_lt_two_pow (Nat.lt_of_lt_of_le (show t < 2 ^ 6 by omega) (Nat.pow_le_pow_right (by decide) hj))
    rw [h6 _ h64, h6 _ hs, decide_eq_false (by omega)]; rfl
theorem line_add (hv : VoP zs) (hs : ∀ k, k < zs.length → stepOk zs ls k = true) {k : Nat} (hk : k < zs.length) (j : Nat) : (dN ls (k + 1)).testBit j = ((dN ls k).testBit j || decide (itN ls k = j)) := by
  have hn6 := hv.1
  have hp64 := pow_le64 hn6
  have hok : ∀ i, i < k → stepOk zs ls i = true := fun i hi => hs i (by omega)
  have h1 := (d_is hok).2
  have h2 := (d_is (zs := zs) (ls := ls) (k := k + 1) fun i hi => hs i (by omega)).2
  have h3 := (it_is (hs k hk)).2
  have e := d_succ hv hok (hs k hk)
  rw [e] at h2 ⊢
  exact add_bit (by omega) (by omega) (d_new hok (hs k hk)) (by omega)
theorem line_ideal (hv : VoP zs) (hs : ∀ k, k < zs.length → stepOk zs ls k = true) : ∀ k : Nat, k ≤ zs.length → Ideal zs (dN ls k)
  | 0, _ => fun a b hb _ => by
    have e : dN ls 0 = 0 := rfl
    rw [e, Nat.zero_testBit] at hb; cases hb
  | k + 1, hk => fun a b hb hd => by
    rw [line_add hv hs hk] at hb ⊢
    rcases Bool.or_eq_true _ _ ▸ hb with h | h
    · rw [line_ideal hv hs k (by omega) a b h hd]; rfl
    · have hx := of_decide_eq_true h
      subst hx
      have h2 := (nextE_new (line_next hv hs (show k < zs.length from hk))).2
      rw [beq_iff_eq, less_zero] at h2
      rw [h2 a hd]; rfl
theorem back_at (hl : ls.length = zs.length) {k : Nat} (hk : k < zs.length) : ls.reverse[k]?.getD 0 = ls[zs.length - 1 - k]?.getD 0 := by
  rw [List.getElem?_reverse (by omega), hl]
theorem back_done (hv : VoP zs) (hl : ls.length = zs.length) (hs : ∀ k, k < zs.length → stepOk zs ls k = true) : ∀ k : Nat, k ≤ zs.length → doneTo ls.reverse k = ((2 ^ zs.length - 1 - dN ls (zs.length - k) : Nat) : Int)
  | 0, _ => by rw [Nat.sub_zero, line_full hv hs]; rfl
  | k + 1, hk => by
    have hn6 := hv.1
    have hp64 := pow_le64 hn6
    have ih := back_done hv hl hs k (by omega)
    have hm : zs.length - 1 - k < zs.length := by omega
    have e1 : zs.length - k = zs.length - 1 - k + 1 := by omega
    have e2 : zs.length - (k + 1) = zs.length - 1 - k := by omega
    have hok : ∀ i, i < zs.length - 1 - k → stepOk zs ls i = true := fun i hi => hs i (by omega)
    have h2 := (d_is (zs := zs) (ls := ls) (k := zs.length - 1 - k + 1) fun i hi => hs i (by omega)).2
    have e3 := d_succ hv hok (hs _ hm)
    have h3 := it_is (hs _ hm)
    have hb : (2 ^ zs.length - 1 - dN ls (zs.length - 1 - k + 1)).testBit (itN ls (zs.length - 1 - k)) = false := by
      rw [com_bit hn6 h2 (by omega), line_add hv hs hm]; simp
    unfold doneTo
    rw [ih, e1, e2, back_at hl (show k < zs.length from hk), h3.1, or_is (by omega) (by omega) hb]
    have hpx := Nat.two_pow_pos (itN ls (zs.length - 1 - k))
    congr 1
    omega
theorem back_step (hv : VoP zs) (hl : ls.length = zs.length) (hs : ∀ k, k < zs.length → stepOk zs ls k = true) {k : Nat} (hk : k < zs.length) : stepOk (du zs) ls.reverse k = true := by
  have hn6 := hv.1
  have hp64 := pow_le64 hn6
  have hm : zs.length - 1 - k < zs.length := by omega
  have e1 : zs.length - k = zs.length - 1 - k + 1 := by omega
  have hok : ∀ i, i < zs.length - 1 - k → stepOk zs ls i = true := fun i hi => hs i (by omega)
  have h2 := (d_is (zs := zs) (ls := ls) (k := zs.length - 1 - k + 1) fun i hi => hs i (by omega)).2
  have h3 := it_is (hs _ hm)
  have hnw := d_new hok (hs _ hm)
  have hI := line_ideal hv hs (zs.length - 1 - k) (by omega)
  have hb : (2 ^ zs.length - 1 - dN ls (zs.length - 1 - k + 1)).testBit (itN ls (zs.length - 1 - k)) = false := by
    rw [com_bit hn6 h2 (by omega), line_add hv hs hm]; simp
  unfold stepOk
  rw [back_at hl hk, back_done hv hl hs k (by omega), e1, h3.1, Int.toNat_natCast, bit_cast, hb, du_len, du_du hv]
  have hless : (lessI (zs[itN ls (zs.length - 1 - k)]?.getD 0) ((2 ^ zs.length - 1 - dN ls (zs.length - 1 - k + 1) : Nat) : Int) == 0) = true := by
    rw [beq_iff_eq, less_zero]
    intro j hj
    have hj2 : j < zs.length := by
      have := du_small hv (a := j) (j := itN ls (zs.length - 1 - k)) (by rw [du_bit hv.sets]; exact hj)
      exact this.2
    rw [com_bit hn6 h2 (by omega), decide_eq_true hj2, Bool.true_and, line_add hv hs hm]
    have hne : itN ls (zs.length - 1 - k) ≠ j := fun e => by
      have := hv.irrB h3.2
      rw [e] at hj this
      rw [hj] at this; cases this
    rw [decide_eq_false hne, Bool.or_false]
    cases e : (dN ls (zs.length - 1 - k)).testBit j
    · rfl
    · have := hI (itN ls (zs.length - 1 - k)) j e (by rw [du_bit hv.sets]; exact hj)
      rw [hnw] at this; cases this
  rw [hless]
  simp [inB]; omega
/-- A line backwards is one of the order turned round. -/
theorem line_back (hv : VoP zs) (hl : lineB zs ls = true) : lineB (du zs) ls.reverse = true := by
  obtain ⟨h1, hs⟩ := line_steps hl
  exact lineB_yes (m := zs.length) (by simp [h1]) (by rw [du_len]) fun k hk => back_step hv h1 hs hk
end
end Go.Proofs.YtghogabmkbadjaaDoor

/- What the own laws of lines ask of the mathematics, put together. No program. -/
namespace Go.Proofs.YtghogabmkbadjaaDoor

theorem next_some {zs : List Int} (h : VoP zs) {s : Nat} (hs : s < 2 ^ zs.length) (h0 : s ≠ 0) : nextL zs s ≠ [] := by
  intro e
  have hn6 := h.1
  have hp64 := pow_le64 hn6
  have hpi : powI (zs.length : Int) = ((2 ^ zs.length : Nat) : Int) := by simp [powI]
  have hd := du_vo h
  have ht := tops_none (zs := du zs) (s := (s : Int)) hd (by omega) (by rw [du_len, hpi]; omega)
  rw [du_len] at ht
  have hT := topsTo_bd (du zs) (s : Int) zs.length
  have hz : topsTo (du zs) (s : Int) zs.length = 0 := by
    refine bitB_ext hT.1 (Int.le_refl _) fun j => ?_
    rw [bitB_zero]
    cases hb : bitB (topsTo (du zs) (s : Int) zs.length) j
    · rfl
    · have hj := bitB_lt hT.2 hb
      have : j ∈ nextL zs s := by
        rw [nextL_is h, List.mem_filter, List.mem_range]
        refine ⟨hj, ?_⟩
        rw [topsTo_bit] at hb
        obtain ⟨_, b1, b2⟩ := hb
        rw [bit_cast] at b1
        unfold eF
        rw [b1, b2]; rfl
      rw [e] at this; cases this
  rw [hz] at ht
  have h1 : ((s : Int) == 0) = false := by simpa using h0
  rw [h1] at ht
  cases ht
theorem cF_ge1 {zs : List Int} (h : VoP zs) : ∀ (k s : Nat), s ≤ k → s < 2 ^ zs.length → 1 ≤ cF zs s
  | 0, s, hk, _ => by
    obtain rfl : s = 0 := by omega
    rw [cF_zero]; exact Nat.le_refl _
  | k + 1, s, hk, hs => by
    by_cases h0 : s = 0
    · subst h0; rw [cF_zero]; exact Nat.le_refl _
    · rw [← accF_all h h0]
      have hne := next_some h hs h0
      unfold accF
      cases hL : nextL zs s with
      | nil => exact absurd hL hne
      | cons x l =>
        have hlt := sub_lt (a := x) h0
        have ih := cF_ge1 h k (s - 2 ^ x) (by omega) (by omega)
        rw [List.map_cons, List.sum_cons]
        omega
theorem lines_facts {zs : List Int} (h : VoP zs) : ∃ F : Nat, 1 ≤ F ∧ F ≤ 46656 ∧ linesR zs = (F : Int) ∧ linesR (du zs) = (F : Int) ∧ hasAt zs ((F : Int) - 1) = true ∧ hasAt zs (F : Int) = false := by
  have hp := Nat.two_pow_pos zs.length
  have hv : vo zs = true := by simpa [vo] using h
  have hv2 : vo (du zs) = true := by simpa [vo] using du_vo h
  have hF := cF_le h (s := 2 ^ zs.length - 1) (by omega)
  have h1 := cF_ge1 h _ (2 ^ zs.length - 1) (Nat.le_refl _) (by omega)
  have h2 := count_du h
  have h3 := count_both h
  have h4 := count_both (du_vo h)
  rw [du_len] at h4
  obtain ⟨F, hFF⟩ : ∃ F, cF zs (2 ^ zs.length - 1) = F := ⟨_, rfl⟩
  rw [hFF] at hF h1 h2 h3
  refine ⟨F, h1, hF, ?_, ?_, ?_, ?_⟩
  · unfold linesR; rw [hv, if_pos rfl, h3]
  · unfold linesR; rw [hv2, if_pos rfl, du_len, h4, h2]
  · unfold hasAt; rw [hv, hFF, decide_eq_true (show (0 : Int) ≤ (F : Int) - 1 by omega), decide_eq_true (show (F : Int) - 1 < (F : Int) by omega)]; rfl
  · unfold hasAt; rw [hFF, decide_eq_false (show ¬ (F : Int) < (F : Int) by omega)]; simp
theorem atR_few (zs : List Int) (r : Int) : (atR zs r).length ≤ 6 := by
  unfold atR
  cases hh : hasAt zs r
  · simp
  · unfold hasAt at hh
    rw [Bool.and_eq_true] at hh
    have hvo : VoP zs := by simpa [vo] using hh.1
    have := hvo.1
    rw [if_pos rfl, atL_len]; omega
theorem at_facts {zs : List Int} {r : Int} (hh : hasAt zs r = true) : isLineR zs (atR zs r) = true ∧ rankR zs (atR zs r) = r := by
  have hA : atR zs r = atL zs r.toNat zs.length := by unfold atR; rw [hh]; rfl
  unfold hasAt at hh
  rw [Bool.and_eq_true, Bool.and_eq_true, decide_eq_true_eq, decide_eq_true_eq] at hh
  have hvo : VoP zs := by simpa [vo] using hh.1
  obtain ⟨h1, h2⟩ := rank_at hvo (r := r.toNat) (by omega)
  have hI : isLineR zs (atR zs r) = true := by unfold isLineR; rw [hA, hh.1, h1]; rfl
  refine ⟨hI, ?_⟩
  unfold rankR
  rw [hI, if_pos rfl, hA, atL_len, h2]
  omega
theorem rank_facts {zs ls : List Int} (h : isLineR zs ls = true) : ∃ Q F : Nat, Q < F ∧ F ≤ 46656 ∧ rankR zs ls = (Q : Int) ∧ linesR zs = (F : Int) ∧ hasAt zs (Q : Int) = true ∧ atR zs (Q : Int) = ls ∧ ls.length ≤ 6 := by
  have h' := h
  unfold isLineR at h
  rw [Bool.and_eq_true] at h
  have hvo : VoP zs := by simpa [vo] using h.1
  have hp := Nat.two_pow_pos zs.length
  have hF := cF_le hvo (s := 2 ^ zs.length - 1) (by omega)
  obtain ⟨h1, h2⟩ := at_rank hvo h.2
  have hlen := (line_steps h.2).1
  have hn6 := hvo.1
  have hH : hasAt zs (rkUp zs ls zs.length : Int) = true := by
    unfold hasAt; rw [h.1, decide_eq_true (show (0 : Int) ≤ (rkUp zs ls zs.length : Int) by omega), decide_eq_true (show (rkUp zs ls zs.length : Int) < (cF zs (2 ^ zs.length - 1) : Int) by omega)]; rfl
  refine ⟨rkUp zs ls zs.length, cF zs (2 ^ zs.length - 1), h1, hF, ?_, ?_, hH, ?_, by omega⟩
  · unfold rankR; rw [h', if_pos rfl, hlen]
  · unfold linesR; rw [h.1, if_pos rfl, count_both hvo]
  · unfold atR; rw [hH, if_pos rfl, Int.toNat_natCast]; exact h2
theorem back_fact {zs ls : List Int} (h : isLineR zs ls = true) : isLineR (du zs) ls.reverse = true := by
  unfold isLineR at h ⊢
  rw [Bool.and_eq_true] at h
  have hvo : VoP zs := by simpa [vo] using h.1
  rw [line_back hvo h.2, show vo (du zs) = true by simpa [vo] using du_vo hvo]; rfl
theorem dual_fact {zs ls : List Int} (h : isLineR zs ls = true) : dualR zs = du zs := by
  unfold isLineR at h
  rw [Bool.and_eq_true] at h
  unfold dualR
  rw [h.1]; rfl
end Go.Proofs.YtghogabmkbadjaaDoor

/- The two lines of a side tell the order; the model's lines are they. No program. -/
namespace Go.Proofs.YtghogabmkbadjaaDoor

/-- One line, where each two items stand in order. -/
structure Tot (E : List Int) : Prop where
  vo : VoP E
  tot : ∀ x y, x < E.length → y < E.length → x ≠ y → qB E x y ∨ qB E y x
theorem eit_tot {zs T : List Int} (h : VoP zs) (hT : SideOf zs T) : Tot (eitL zs T) := ⟨eitL_vo h hT, fun x y hx hy hxy => by rw [eitL_len] at hx hy; exact eitL_tot hT hx hy hxy⟩
section
variable {E : List Int} {n : Nat}
def onL (E : List Int) : List Int := atL E 0 E.length
theorem on_line (h : VoP E) : lineB E (onL E) = true :=
  (rank_at h (cF_ge1 h _ _ (Nat.le_refl _) (by have := Nat.two_pow_pos E.length; omega))).1
theorem du_zr_get {n : Nat} (hn : n ≤ 6) (a : Nat) : (du (zr n))[a]?.getD 0 = 0 := by
  rw [zr_du hn]
  unfold zr
  rw [List.getElem?_replicate]
  split <;> rfl
theorem less_zero_left (s : Int) : lessI 0 s = 0 := by rw [lessI_none]; intro j hj; rw [bitB_zero] at hj; cases hj
/-- A line of an order is a line of each order that has less. -/
theorem line_less {zs r : List Int} (h : VoP E) (hz : VoP zs) (hl : zs.length = E.length) (hs : ∀ x y, qB zs x y → qB E x y) (hr : lineB E r = true) : lineB zs r = true := by
  obtain ⟨h1, h2⟩ := line_steps hr
  refine lineB_yes h1 hl.symm fun k hk => ?_
  have hk2 := h2 k hk
  unfold stepOk at hk2 ⊢
  rw [Bool.and_eq_true, Bool.and_eq_true] at hk2 ⊢
  rw [hl]
  refine ⟨hk2.1, hk2.2.1, ?_⟩
  have hd := beq_iff_eq.1 hk2.2.2
  rw [lessI_none] at hd
  rw [beq_iff_eq, lessI_none]
  intro j hj
  refine hd j ?_
  rw [du_bit hz.sets] at hj
  rw [du_bit h.sets]
  exact hs j _ hj
theorem line_zr {r : List Int} (h : VoP E) (hn : E.length = n) (hr : lineB E r = true) : lineB (zr n) r = true := by
  have hn6 : n ≤ 6 := by have := h.1; omega
  refine line_less h (zr_vo hn6) (by rw [zr_len, hn]) (fun x y hq => ?_) hr
  unfold qB zr at hq
  rw [List.getElem?_replicate] at hq
  split at hq <;> rw [show (Option.getD _ (0 : Int)) = 0 from rfl, bitB_zero] at hq <;> cases hq
/-- What is above is behind. -/
theorem line_behind {r : List Int} (h : VoP E) (hn : E.length = n) (hr : lineB E r = true) {x y : Nat} (hq : qB E x y) : atI r (x : Int) < atI r (y : Int) := by
  have hn6 : n ≤ 6 := by have := h.1; omega
  obtain ⟨hx, hy⟩ := q_lt2 h hq
  rw [hn] at hx hy
  have hz := line_zr h hn hr
  obtain ⟨k, hk, e1, e2⟩ := at_of hn6 hz hy
  have h2 := (line_steps hr).2 k (by rw [hn]; exact hk)
  unfold stepOk at h2
  rw [Bool.and_eq_true, Bool.and_eq_true] at h2
  have hd := beq_iff_eq.1 h2.2.2
  rw [lessI_none] at hd
  have hit := (it_lt hz hk).1
  rw [e1] at hit
  have := hd x (by rw [hit, Int.toNat_natCast, du_bit h.sets]; exact hq)
  have hs := (zr_steps hz).2
  obtain ⟨i, hi, e3⟩ := (done_of (n := n) (k := k) (fun i hi => hs i (by omega)) x).1 this
  have e4 := at_it hz (show i < n by omega)
  rw [e3] at e4
  rw [e2, e4]; omega
theorem tot_behind {r : List Int} (h : Tot E) (hn : E.length = n) (hr : lineB E r = true) {x y : Nat} (hx : x < n) (hy : y < n) : qB E x y ↔ atI r (x : Int) < atI r (y : Int) := by
  refine ⟨line_behind h.vo hn hr, fun hlt => ?_⟩
  have hxy : x ≠ y := fun e => by subst e; omega
  rcases h.tot x y (by omega) (by omega) hxy with e | e
  · exact e
  · have := line_behind h.vo hn hr e; omega
theorem pop_com_fin : ∀ n : Fin 7, ∀ s : Fin 64, s.val < 2 ^ n.val → popI ((2 ^ n.val - 1 - s.val : Nat) : Int) + popI (s.val : Int) = (n.val : Int) := by decide +kernel
/-- How many are above the item at place k. -/
theorem tot_pop {r : List Int} (h : Tot E) (hn : E.length = n) (hr : lineB E r = true) {k : Nat} (hk : k < n) : popI (E[itN r k]?.getD 0) = (n : Int) - 1 - k := by
  have hn6 : n ≤ 6 := by have := h.vo.1; omega
  have hz := line_zr h.vo hn hr
  have hx := (it_lt hz hk).2
  have hs := (zr_steps hz).2
  have e : E[itN r k]?.getD 0 = leftTo n r (k + 1) := by
    refine bitB_ext (h.vo.sets.2 _ (by omega)).1 (leftTo_bd _).1 fun j => ?_
    rcases Nat.lt_or_ge j n with hj | hj
    · rw [left_at hn6 hz hk j hj]
      have := tot_behind h hn hr hx hj
      rw [at_it hz hk] at this
      rw [Bool.eq_iff_iff, decide_eq_true_eq]; exact this
    · have b1 : bitB (E[itN r k]?.getD 0) (j : Int) = false := by
        cases e : bitB (E[itN r k]?.getD 0) (j : Int)
        · rfl
        · have := bitB_lt (h.vo.sets.2 _ (show itN r k < E.length by omega)).2 e; omega
      have b2 : bitB (leftTo n r (k + 1)) (j : Int) = false := by
        cases e : bitB (leftTo n r (k + 1)) (j : Int)
        · rfl
        · have := bitB_lt (leftTo_bd (n := n) (ls := r) (k + 1)).2 e; omega
      rw [b1, b2]
  have hs' : ∀ k, k < (zr n).length → stepOk (zr n) r k = true := by rw [zr_len]; exact hs
  have h1 := left_com (zs := zr n) (ls := r) (zr_vo hn6) (k + 1) (fun i hi => hs i (by omega))
  have h2 := line_pop (zs := zr n) (ls := r) (zr_vo hn6) hs' (k + 1) (by rw [zr_len]; omega)
  have h3 := (d_is (zs := zr n) (ls := r) (k := k + 1) (fun i hi => hs i (by omega))).2
  rw [zr_len] at h1 h3
  have hp64 : 2 ^ n ≤ 64 := Nat.pow_le_pow_right (n := 2) (by decide) hn6
  have h4 := pop_com_fin ⟨n, by omega⟩ ⟨dN r (k + 1), by omega⟩ h3
  simp only at h4
  rw [e, h1]
  omega
/-- The model's line: the items by how many are above them. -/
def mdL (E : List Int) (k : Nat) : List Int := (List.range k).map fun j : Nat => atI (E.map popI) ((E.length : Int) - 1 - j)
theorem mdL_succ (E : List Int) (k : Nat) : mdL E (k + 1) = mdL E k ++ [atI (E.map popI) ((E.length : Int) - 1 - k)] := by simp [mdL, List.range_succ]
theorem mdL_len (E : List Int) (k : Nat) : (mdL E k).length = k := by simp [mdL]
theorem md_on (h : Tot E) : mdL E E.length = onL E := by
  have hr := on_line h.vo
  have hz := line_zr h.vo rfl hr
  have hn6 := h.vo.1
  have hl := (line_steps hr).1
  refine List.ext_getElem? fun k => ?_
  rcases Nat.lt_or_ge k E.length with hk | hk
  · have hk2 : k < (onL E).length := by omega
    have e1 := (it_lt hz hk).1
    rw [List.getElem?_eq_getElem hk2, Option.getD_some] at e1
    rw [List.getElem?_eq_getElem hk2, e1]
    simp only [mdL, List.getElem?_map, List.getElem?_range hk, Option.map_some]
    congr 1
    have hget : ∀ j, j < E.length → (E.map popI)[j]?.getD 0 = popI (E[j]?.getD 0) := fun j hj => by
      rw [List.getElem?_map, List.getElem?_eq_getElem hj]; rfl
    refine atI_hit (fun j hj e => ?_) (by rw [List.length_map]; exact (it_lt hz hk).2) ?_
    · have hjn : j < E.length := by have := (it_lt hz hk).2; omega
      obtain ⟨i, hi, ei⟩ := it_all hn6 hz hjn
      rw [hget j hjn, ← ei, tot_pop h rfl hr hi] at e
      have : i = k := by omega
      subst this
      omega
    · rw [hget _ (it_lt hz hk).2, tot_pop h rfl hr hk]
  · rw [List.getElem?_eq_none (by rw [mdL_len]; exact hk), List.getElem?_eq_none (by omega)]
end

/-- What the two lines have in common is the order. -/
theorem two_lines {zs T : List Int} (h : VoP zs) (hT : SideOf zs T) : lnOk (zs.length : Int) [pl1 zs T, pl1 zs (du T)] = true ∧ meL zs.length [pl1 zs T, pl1 zs (du T)] = zs ∧ lineB zs (pl1 zs T) = true ∧ lineB zs (pl1 zs (du T)) = true := by
  have hn6 := h.1
  have t1 := eit_tot h hT
  have t2 := eit_tot h (side_du hT)
  have p1 : pl1 zs T = onL (eitL zs T) := by unfold pl1 onL; rw [eitL_len]
  have p2 : pl1 zs (du T) = onL (eitL zs (du T)) := by unfold pl1 onL; rw [eitL_len]
  have l1 := on_line t1.vo
  have l2 := on_line t2.vo
  rw [← p1] at l1
  rw [← p2] at l2
  have z1 := line_zr t1.vo eitL_len l1
  have z2 := line_zr t2.vo eitL_len l2
  have hdl := (side_du hT).len
  refine ⟨?_, ?_, ?_, ?_⟩
  · unfold lnOk
    rw [Int.toNat_natCast, show inB (zs.length : Int) 0 6 = true by simp [inB]; omega]
    simp [z1, z2]
  · refine q_eq (by rw [meL_len]) (fun j => (meL_bd _ _ _).1) (fun j => ?_) fun x y => ?_
    · rcases Nat.lt_or_ge j zs.length with hj | hj
      · exact (h.sets.2 j hj).1
      · rw [List.getElem?_eq_none hj]; exact Int.le_refl _
    · rcases Nat.lt_or_ge x zs.length with hx | hx
      · unfold qB
        rw [meL_get _ hx, setP_bit]
        rcases Nat.lt_or_ge y zs.length with hy | hy
        · have b1 := tot_behind t1 eitL_len l1 hx hy
          have b2 := tot_behind t2 eitL_len l2 hx hy
          rw [eitL_q x y hT.len] at b1
          rw [eitL_q x y hdl, du_q hT.vo y x] at b2
          unfold behB
          rw [decide_eq_true hy, Bool.true_and, Bool.and_eq_true]
          simp only [List.all_cons, List.all_nil, Bool.and_true, Bool.and_eq_true, decide_eq_true_eq, ← b1, ← b2]
          constructor
          · rintro ⟨_, e1, e2⟩
            rcases e1 with e1 | e1
            · exact e1
            · rcases e2 with e2 | e2
              · exact e2
              · exact absurd e2 fun e => side_asym hT.vo e1 e
          · intro e
            refine ⟨?_, .inl e, .inl e⟩
            have : x ≠ y := fun e2 => by subst e2; exact q_irr h e
            simpa using this
        · rw [decide_eq_false (by omega), Bool.false_and]
          constructor
          · intro e; cases e
          · intro e; have := (q_lt2 h e).2; omega
      · constructor
        · intro e; have := qB_lt (meL_len _ _) e; omega
        · intro e; have := (q_lt2 h e).1; omega
  · exact line_less t1.vo h (by rw [eitL_len]) (fun x y e => (eitL_q x y hT.len).2 (.inl e)) l1
  · exact line_less t2.vo h (by rw [eitL_len]) (fun x y e => (eitL_q x y hdl).2 (.inl e)) l2
end Go.Proofs.YtghogabmkbadjaaDoor

/- What LinesOf's own law asks: all lines stand by their ranks. No program. -/
namespace Go.Proofs.YtghogabmkbadjaaDoor

/-- One list stands ahead of another one: at the first place where they differ it has the lesser number. -/
def lexLt (x y : List Int) : Prop := ∃ (so : List Int) (a b : Int) (t u : List Int), x = so ++ a :: t ∧ y = so ++ b :: u ∧ a < b
theorem alG_lex (zs : List Int) : ∀ (k : Nat) (so : List Int) (s : Int), (alG zs k so s).Pairwise lexLt
  | 0, so, s => by rw [alG]; exact List.pairwise_singleton _ _
  | k + 1, so, s => by
    rw [alG]
    unfold List.flatMap
    refine List.pairwise_flatten.2 ⟨fun l hl => ?_, ?_⟩
    · obtain ⟨a, _, rfl⟩ := List.mem_map.1 hl
      split
      · exact alG_lex zs k _ _
      · exact List.Pairwise.nil
    · rw [List.pairwise_map]
      refine List.Pairwise.imp_of_mem (R := (· < ·)) ?_ (List.pairwise_lt_range)
      intro a b _ _ hab x hx y hy
      split at hx
      · split at hy
        · obtain ⟨t, _, e1, _⟩ := (alG_mem zs k _ _ _).1 hx
          obtain ⟨t', _, e2, _⟩ := (alG_mem zs k _ _ _).1 hy
          exact ⟨so, (a : Int), (b : Int), t, t', by rw [e1]; simp, by rw [e2]; simp, by omega⟩
        · cases hy
      · cases hx
theorem doneTo_head (so t u : List Int) : ∀ m : Nat, m ≤ so.length → doneTo (so ++ t) m = doneTo (so ++ u) m
  | 0, _ => rfl
  | m + 1, h => by
    unfold doneTo
    rw [doneTo_head so t u m (by omega), List.getElem?_append_left (by omega), List.getElem?_append_left (by omega)]
theorem rkUp_head (zs so t u : List Int) : ∀ m : Nat, m ≤ so.length → rkUp zs (so ++ t) m = rkUp zs (so ++ u) m
  | 0, _ => rfl
  | m + 1, h => by
    have hd := doneTo_head so t u m (by omega)
    have hi : (so ++ t)[m]?.getD 0 = (so ++ u)[m]?.getD 0 := by rw [List.getElem?_append_left (by omega), List.getElem?_append_left (by omega)]
    rw [rkUp_succ, rkUp_succ, rkUp_head zs so t u m (by omega)]
    unfold dN itN
    rw [hd, hi]
theorem rank_lex {zs x y : List Int} (hv : VoP zs) (hx : lineB zs x = true) (hy : lineB zs y = true) (h : lexLt x y) : rkUp zs x zs.length < rkUp zs y zs.length := by
  obtain ⟨so, a, b, t, u, rfl, rfl, hab⟩ := h
  obtain ⟨hlx, hsx⟩ := line_steps hx
  obtain ⟨hly, hsy⟩ := line_steps hy
  have hm : so.length < zs.length := by rw [List.length_append, List.length_cons] at hlx; omega
  have hax : (so ++ a :: t)[so.length]?.getD 0 = a := by simp
  have hby : (so ++ b :: u)[so.length]?.getD 0 = b := by simp
  have hix := it_is (hsx so.length hm)
  have hiy := it_is (hsy so.length hm)
  have hd : dN (so ++ a :: t) so.length = dN (so ++ b :: u) so.length := by unfold dN; rw [doneTo_head so (a :: t) (b :: u) so.length (Nat.le_refl _)]
  have h1 := line_lt hv hsx (zs.length - (so.length + 1)) (so.length + 1) (by omega)
  have h2 := rkIn_line hv hsx hm
  have h3 := rkUp_succ (zs := zs) (ls := so ++ a :: t) so.length
  have h4 := rkUp_succ (zs := zs) (ls := so ++ b :: u) so.length
  have h5 := rkUp_head zs so (a :: t) (b :: u) so.length (Nat.le_refl _)
  have hlt : itN (so ++ a :: t) so.length + 1 ≤ itN (so ++ b :: u) so.length := by
    have e1 := hix.1
    have e2 := hiy.1
    rw [hax] at e1
    rw [hby] at e2
    omega
  have h6 := rkIn_mono' (zs := zs) (D := dN (so ++ b :: u) so.length) hlt
  have h7 := rkUp_mono' (zs := zs) (ls := so ++ b :: u) (show so.length + 1 ≤ zs.length from hm)
  rw [hd] at h2 h3
  rw [← h5] at h4
  generalize rkIn zs (dN (so ++ b :: u) so.length) (itN (so ++ a :: t) so.length) = p at *
  generalize rkIn zs (dN (so ++ b :: u) so.length) (itN (so ++ b :: u) so.length) = q at *
  omega
/-- The ranks of all lines, in their order. -/
theorem ranks_all {zs : List Int} (hv : VoP zs) : (alL zs).map (fun l => rkUp zs l zs.length) = List.range (cF zs (2 ^ zs.length - 1)) := by
  refine inc_ext _ _ ?_ (range_inc _) fun r => ?_
  · rw [List.pairwise_map]
    refine List.Pairwise.imp_of_mem (R := lexLt) ?_ (alG_lex zs zs.length [] 0)
    intro x y hx hy hl
    exact rank_lex hv ((alL_mem zs x).1 hx) ((alL_mem zs y).1 hy) hl
  · rw [List.mem_map, List.mem_range]
    constructor
    · rintro ⟨l, hl, rfl⟩
      exact (at_rank hv ((alL_mem zs l).1 hl)).1
    · intro hr
      obtain ⟨h1, h2⟩ := rank_at hv hr
      exact ⟨_, (alL_mem zs _).2 h1, h2⟩
/-- Whether one row is less, as the law sees it. -/
def lessRB : List Int → List Int → Bool
  | x :: xs, y :: ys => if x = y then lessRB xs ys else decide (x < y)
  | _, _ => false
theorem lessRB_lex {x y : List Int} (h : lexLt x y) : lessRB x y = true := by
  obtain ⟨so, a, b, t, u, rfl, rfl, hab⟩ := h
  induction so with
  | nil =>
    show (if a = b then lessRB t u else decide (a < b)) = true
    rw [if_neg (by omega)]
    simpa using hab
  | cons c so ih =>
    show (if c = c then lessRB (so ++ a :: t) (so ++ b :: u) else decide (c < c)) = true
    rw [if_pos rfl]
    exact ih
/-- All that the law asks. -/
theorem lines_law {zs : List Int} (hv : VoP zs) : ((alL zs).length : Int) = linesR zs ∧ ∀ (i : Nat) (l : List Int), (alL zs)[i]? = some l → isLineR zs l = true ∧ rankR zs l = (i : Int) ∧ ∀ (j : Nat) (l' : List Int), i = j + 1 → (alL zs)[j]? = some l' → lessRB l' l = true := by
  have hr := ranks_all hv
  have hvb : vo zs = true := by unfold vo; exact decide_eq_true hv
  constructor
  · have h1 := congrArg List.length hr
    rw [List.length_map, List.length_range] at h1
    unfold linesR
    rw [hvb, if_pos rfl, count_both hv, h1]
  · intro i l hl
    have hm := (alL_mem zs l).1 (List.mem_of_getElem? hl)
    have hil := (List.getElem?_eq_some_iff.1 hl).1
    refine ⟨by unfold isLineR; rw [hvb, hm]; rfl, ?_, ?_⟩
    · have h1 := congrArg (fun z => z[i]?) hr
      simp only [List.getElem?_map, hl, Option.map_some] at h1
      have h2 := List.getElem?_eq_some_iff.1 h1.symm
      obtain ⟨h3, h4⟩ := h2
      rw [List.getElem_range] at h4
      unfold rankR isLineR
      rw [hvb, hm, (line_steps hm).1, ← h4]
      rfl
    · rintro j l' rfl hl'
      obtain ⟨hj, ej⟩ := List.getElem?_eq_some_iff.1 hl'
      obtain ⟨hi, ei⟩ := List.getElem?_eq_some_iff.1 hl
      have := List.pairwise_iff_getElem.1 (alG_lex zs zs.length [] 0) j (j + 1) hj hi (by omega)
      refine lessRB_lex ?_
      rw [← ej, ← ei]
      exact this
end Go.Proofs.YtghogabmkbadjaaDoor

/- Numberings one behind the other and turned back; the orders under all numberings: how many each is told by, the least one. No program. -/
namespace Go.Proofs.YtghogabmkbadjaaDoor

theorem zr_at (n j : Nat) : (zr n)[j]?.getD 0 = 0 := by
  by_cases h : j < n <;> simp [zr, h]
theorem lessI_nil (x : Int) : lessI 0 x = 0 := by unfold lessI; simp
/-- A list of n different items is a numbering. -/
theorem nb_intro {n : Nat} {r : List Int} (hn : n ≤ 6) (hl : r.length = n) (h : ∀ k, k < n → r[k]?.getD 0 = (itN r k : Int) ∧ itN r k < n) (hd : ∀ i k, i < k → k < n → itN r i ≠ itN r k) : lineB (zr n) r = true := by
  refine lineB_yes hl (zr_len n).symm fun k hk => ?_
  induction k using Nat.strongRecOn with
  | ind k ih =>
    have h1 := h k hk
    have hb : bitB (doneTo r k) (itN r k : Int) = false := by
      cases e : bitB (doneTo r k) (itN r k : Int) with
      | false => rfl
      | true =>
        obtain ⟨i, hi, e2⟩ := (done_of (n := n) (fun i hi => ih i hi (by omega)) (itN r k)).1 e
        exact absurd e2 (hd i k hi hk)
    unfold stepOk
    rw [zr_len, zr_du hn, zr_at, lessI_nil, h1.1, hb]
    have : inB (itN r k : Int) 0 ((n : Int) - 1) = true := by unfold inB; simp; omega
    rw [this]; rfl
section
variable {n : Nat} {p q r : List Int}
theorem nb_inj (h : lineB (zr n) r = true) {i j : Nat} (hi : i < n) (hj : j < n) (e : itN r i = itN r j) : i = j := by
  rcases Nat.lt_trichotomy i j with h1 | h1 | h1
  · exact absurd e (it_new h hj h1)
  · exact h1
  · exact absurd e.symm (it_new h hi h1)
theorem nb_ext (hp : lineB (zr n) p = true) (hq : lineB (zr n) q = true) (h : ∀ i, i < n → itN p i = itN q i) : p = q := by
  have l1 := (zr_steps hp).1
  have l2 := (zr_steps hq).1
  refine List.ext_getElem (by omega) fun j h1 h2 => ?_
  have e1 := (it_lt hp (show j < n by omega)).1
  have e2 := (it_lt hq (show j < n by omega)).1
  rw [List.getElem?_eq_getElem h1, Option.getD_some] at e1
  rw [List.getElem?_eq_getElem h2, Option.getD_some] at e2
  rw [e1, e2, h j (by omega)]

/-- A list that is told item by item. -/
def lsN (n : Nat) (f : Nat → Nat) : List Int := (List.range n).map fun i => (f i : Int)
theorem lsN_len (n : Nat) (f : Nat → Nat) : (lsN n f).length = n := by simp [lsN]
theorem lsN_get {f : Nat → Nat} {i : Nat} (h : i < n) : (lsN n f)[i]?.getD 0 = (f i : Int) := by simp [lsN, h]
theorem lsN_it {f : Nat → Nat} {i : Nat} (h : i < n) : itN (lsN n f) i = f i := by unfold itN; rw [lsN_get h]; simp
theorem lsN_nb (hn : n ≤ 6) {f : Nat → Nat} (h1 : ∀ i, i < n → f i < n) (h2 : ∀ i j, i < n → j < n → f i = f j → i = j) : lineB (zr n) (lsN n f) = true := by
  refine nb_intro hn (lsN_len n f) (fun k hk => ⟨by rw [lsN_get hk, lsN_it hk], by rw [lsN_it hk]; exact h1 k hk⟩) (fun i k hik hk e => ?_)
  rw [lsN_it (by omega), lsN_it hk] at e
  have := h2 i k (by omega) hk e
  omega

/-- One numbering behind the other; a numbering turned back; the one that leaves all as it is. -/
def cmP (n : Nat) (p q : List Int) : List Int := lsN n fun i => itN q (itN p i)
def bkL (n : Nat) (p : List Int) : List Int := lsN n fun a => (atI p (a : Int)).toNat
def idN (n : Nat) : List Int := lsN n fun i => i
theorem cm_it {i : Nat} (h : i < n) : itN (cmP n p q) i = itN q (itN p i) := lsN_it h
theorem id_it {i : Nat} (h : i < n) : itN (idN n) i = i := lsN_it h
theorem id_nb (hn : n ≤ 6) : lineB (zr n) (idN n) = true := lsN_nb hn (fun _ h => h) (fun _ _ _ _ h => h)
theorem cm_nb (hn : n ≤ 6) (hp : lineB (zr n) p = true) (hq : lineB (zr n) q = true) : lineB (zr n) (cmP n p q) = true :=
  lsN_nb hn (fun _ h => (it_lt hq (it_lt hp h).2).2) (fun _ _ hi hj e => nb_inj hp hi hj (nb_inj hq (it_lt hp hi).2 (it_lt hp hj).2 e))
theorem bk_it (hp : lineB (zr n) p = true) {k : Nat} (hk : k < n) : itN (bkL n p) (itN p k) = k := by
  unfold bkL
  rw [lsN_it (it_lt hp hk).2, at_it hp hk]
  simp
theorem bk_ti (hn : n ≤ 6) (hp : lineB (zr n) p = true) {a : Nat} (ha : a < n) : itN (bkL n p) a < n ∧ itN p (itN (bkL n p) a) = a := by
  obtain ⟨k, hk, rfl⟩ := it_all hn hp ha
  rw [bk_it hp hk]
  exact ⟨hk, rfl⟩
theorem bk_nb (hn : n ≤ 6) (hp : lineB (zr n) p = true) : lineB (zr n) (bkL n p) = true := by
  have h := fun a (ha : a < n) => bk_ti hn hp ha
  refine lsN_nb hn (fun i hi => ?_) (fun i j hi hj e => ?_)
  · have := (h i hi).1
    unfold bkL at this
    rwa [lsN_it hi] at this
  · have e1 := (h i hi).2
    have e2 := (h j hj).2
    unfold bkL at e1 e2
    rw [lsN_it hi] at e1
    rw [lsN_it hj] at e2
    rw [← e1, ← e2, e]
theorem cm_bk (hp : lineB (zr n) p = true) (hn : n ≤ 6) : cmP n p (bkL n p) = idN n :=
  nb_ext (cm_nb hn hp (bk_nb hn hp)) (id_nb hn) fun i hi => by rw [cm_it hi, bk_it hp hi, id_it hi]
theorem bk_cm (hp : lineB (zr n) p = true) (hn : n ≤ 6) : cmP n (bkL n p) p = idN n :=
  nb_ext (cm_nb hn (bk_nb hn hp) hp) (id_nb hn) fun i hi => by rw [cm_it hi, (bk_ti hn hp hi).2, id_it hi]
end

/-! The order under numberings. -/
theorem rows_ext {E F : List Int} (hE : Sets E) (hF : Sets F) (hl : E.length = F.length) (h : ∀ a b, a < E.length → b < E.length → bitB (E[a]?.getD 0) b = bitB (F[a]?.getD 0) b) : E = F := by
  refine List.ext_getElem hl fun j h1 h2 => ?_
  have e1 := hE.2 j h1
  have e2 := hF.2 j h2
  have hb : ∀ k : Nat, bitB (E[j]?.getD 0) k = bitB (F[j]?.getD 0) k := fun k => by
    by_cases hk : k < E.length
    · exact h j k h1 hk
    · have f1 : bitB (E[j]?.getD 0) k = false := by
        cases e : bitB (E[j]?.getD 0) k with
        | false => rfl
        | true => exact absurd (bitB_lt e1.2 e) hk
      have f2 : bitB (F[j]?.getD 0) k = false := by
        cases e : bitB (F[j]?.getD 0) k with
        | false => rfl
        | true => exact absurd (bitB_lt e2.2 e) (by omega)
      rw [f1, f2]
  have := bitB_ext e1.1 e2.1 hb
  rwa [List.getElem?_eq_getElem h1, List.getElem?_eq_getElem h2, Option.getD_some, Option.getD_some] at this

section
variable {zs : List Int} {p q : List Int}
theorem rn_cm (hz : Sets zs) (hp : lineB (zr zs.length) p = true) (hq : lineB (zr zs.length) q = true) : rnL (rnL zs p) q = rnL zs (cmP zs.length p q) := by
  have hn := hz.1
  have h1 := rnL_sets hz hp
  have l1 := rnL_len zs p
  have hq' : lineB (zr (rnL zs p).length) q = true := by rw [l1]; exact hq
  have hc := cm_nb hn hp hq
  have h2 := rnL_sets h1 hq'
  have l2 := rnL_len (rnL zs p) q
  refine rows_ext h2 (rnL_sets hz hc) (by rw [l2, l1, rnL_len]) fun a b ha hb => ?_
  rw [l2, l1] at ha hb
  obtain ⟨a, ha0, rfl⟩ := it_all hn hc ha
  obtain ⟨b, hb0, rfl⟩ := it_all hn hc hb
  rw [rnL_bit hz hc ha0 hb0, cm_it ha0, cm_it hb0, rnL_bit h1 hq' (by rw [l1]; exact (it_lt hp ha0).2) (by rw [l1]; exact (it_lt hp hb0).2), rnL_bit hz hp ha0 hb0]
theorem rn_id (hz : Sets zs) : rnL zs (idN zs.length) = zs := by
  have hn := hz.1
  have hi := id_nb hn
  refine rows_ext (rnL_sets hz hi) hz (rnL_len _ _) fun a b ha hb => ?_
  rw [rnL_len] at ha hb
  have := rnL_bit hz hi ha hb
  rwa [id_it ha, id_it hb] at this
theorem rn_back (hz : Sets zs) (hp : lineB (zr zs.length) p = true) : rnL (rnL zs p) (bkL zs.length p) = zs := by
  rw [rn_cm hz hp (bk_nb hz.1 hp), cm_bk hp hz.1, rn_id hz]
theorem rn_vo (h : VoP zs) (hp : lineB (zr zs.length) p = true) : VoP (rnL zs p) := by
  have hz := h.sets
  have l1 := rnL_len zs p
  have hs := rnL_sets hz hp
  have tell : ∀ a b, lt (rnL zs p) a b → ∃ x y, itN p x = a ∧ itN p y = b ∧ x < zs.length ∧ y < zs.length ∧ lt zs x y := fun a b hab => by
    obtain ⟨h1, h2⟩ := hab
    have hb := bitB_lt (hs.2 a h1).2 h2
    rw [l1] at h1 hb
    obtain ⟨x, hx, rfl⟩ := it_all hz.1 hp h1
    obtain ⟨y, hy, rfl⟩ := it_all hz.1 hp hb
    rw [rnL_bit hz hp hx hy] at h2
    exact ⟨x, y, rfl, rfl, hx, hy, hx, h2⟩
  refine vo_of_lt hs.1 hs.2 (fun a h1 => ?_) (fun a b c h1 h2 => ?_)
  · obtain ⟨x, y, e1, e2, hx, hy, hxy⟩ := tell a a h1
    rw [nb_inj hp hx hy (e1.trans e2.symm)] at hxy
    exact h.irr hxy
  · obtain ⟨x, y, rfl, rfl, hx, hy, hxy⟩ := tell _ _ h1
    obtain ⟨y', z, e1, rfl, hy', hz', hyz⟩ := tell _ _ h2
    rw [nb_inj hp hy' hy e1] at hyz
    have := h.trans hxy hyz
    exact ⟨by rw [l1]; exact (it_lt hp hx).2, by rw [rnL_bit hz hp hx hz']; exact this.2⟩
theorem rn_du (h : VoP zs) (hp : lineB (zr zs.length) p = true) : rnL (du zs) p = du (rnL zs p) := by
  have hz := h.sets
  have hd := du_sets hz
  have ld := du_len zs
  have hp' : lineB (zr (du zs).length) p = true := by rw [ld]; exact hp
  have hs := rnL_sets hz hp
  have l1 := rnL_len zs p
  have l2 := rnL_len (du zs) p
  refine rows_ext (rnL_sets hd hp') (du_sets hs) (by rw [l2, ld, du_len, l1]) fun a b ha hb => ?_
  rw [l2, ld] at ha hb
  obtain ⟨x, hx, rfl⟩ := it_all hz.1 hp ha
  obtain ⟨y, hy, rfl⟩ := it_all hz.1 hp hb
  rw [rnL_bit hd hp' (by rw [ld]; exact hx) (by rw [ld]; exact hy), du_bit hz, du_bit hs, rnL_bit hz hp hy hx]

/-! How many numberings tell the same order. -/
def numb (zs ys : List Int) : List (List Int) := (alL (zr zs.length)).filter fun t => decide (rnL zs t = ys)
theorem numb_mem {ys t : List Int} : t ∈ numb zs ys ↔ lineB (zr zs.length) t = true ∧ rnL zs t = ys := by
  unfold numb
  rw [List.mem_filter, alL_mem, decide_eq_true_eq]
theorem numb_nodup (zs ys : List Int) : (numb zs ys).Nodup := (alL_nodup _).filter _
theorem numb_same (hz : Sets zs) (hp : lineB (zr zs.length) p = true) : (numb zs (rnL zs p)).length = (numb zs zs).length := by
  have hn := hz.1
  have hbk := bk_nb hn hp
  refine Nat.le_antisymm (inj_len (fun t => cmP zs.length t (bkL zs.length p)) _ _ (numb_nodup _ _) (fun t ht => ?_) (fun t ht u hu e => ?_))
    (inj_len (fun t => cmP zs.length t p) _ _ (numb_nodup _ _) (fun t ht => ?_) (fun t ht u hu e => ?_))
  · obtain ⟨h1, h2⟩ := numb_mem.1 ht
    exact numb_mem.2 ⟨cm_nb hn h1 hbk, by rw [← rn_cm hz h1 hbk, h2, rn_back hz hp]⟩
  · obtain ⟨h1, _⟩ := numb_mem.1 ht
    obtain ⟨h2, _⟩ := numb_mem.1 hu
    refine nb_ext h1 h2 fun i hi => ?_
    have e3 : itN (cmP zs.length t (bkL zs.length p)) i = itN (cmP zs.length u (bkL zs.length p)) i := by rw [e]
    rw [cm_it hi, cm_it hi] at e3
    exact nb_inj hbk (it_lt h1 hi).2 (it_lt h2 hi).2 e3
  · obtain ⟨h1, h2⟩ := numb_mem.1 ht
    exact numb_mem.2 ⟨cm_nb hn h1 hp, by rw [← rn_cm hz h1 hp, h2]⟩
  · obtain ⟨h1, _⟩ := numb_mem.1 ht
    obtain ⟨h2, _⟩ := numb_mem.1 hu
    refine nb_ext h1 h2 fun i hi => ?_
    have e3 : itN (cmP zs.length t p) i = itN (cmP zs.length u p) i := by rw [e]
    rw [cm_it hi, cm_it hi] at e3
    exact nb_inj hp (it_lt h1 hi).2 (it_lt h2 hi).2 e3

theorem len_split {α : Type} (p : α → Bool) : ∀ l : List α, l.length = (l.filter p).length + (l.filter fun b => !p b).length
  | [] => rfl
  | a :: l => by
    have ih := len_split p l
    cases h : p a <;> simp [h] <;> omega
/-- What is parted into parts of c each is a multiple of c. -/
theorem parts_div {α β : Type} [DecidableEq β] (f : α → β) (c : Nat) : ∀ (m : Nat) (l : List α), l.length ≤ m → (∀ a ∈ l, (l.filter fun b => decide (f b = f a)).length = c) → c ∣ l.length
  | _, [], _, _ => ⟨0, by simp⟩
  | 0, a :: l, h, _ => by simp at h
  | m + 1, a :: l, h, hc => by
    have h1 := hc a (by simp)
    have h2 : (a :: l).length = ((a :: l).filter fun b => decide (f b = f a)).length + ((a :: l).filter fun b => !decide (f b = f a)).length := len_split _ _
    have h3 : 1 ≤ ((a :: l).filter fun b => decide (f b = f a)).length := by
      have h4 : a ∈ (a :: l).filter fun b => decide (f b = f a) := List.mem_filter.2 ⟨List.mem_cons_self, decide_eq_true rfl⟩
      exact List.length_pos_of_mem h4
    have ih := parts_div f c m ((a :: l).filter fun b => !decide (f b = f a)) (by simp only [List.length_cons] at h h2; omega) (fun x hx => by
      obtain ⟨hx1, hx2⟩ := List.mem_filter.1 hx
      have hx2 : ¬ f x = f a := by simpa using hx2
      rw [← hc x hx1, List.filter_filter]
      congr 1
      refine List.filter_congr fun b _ => ?_
      by_cases hb : f b = f x
      · simp [hb, hx2]
      · simp [hb])
    rw [h2, h1]
    exact Nat.dvd_add (Nat.dvd_refl c) ih
theorem self_div (hz : Sets zs) : (numb zs zs).length ∣ (alL (zr zs.length)).length :=
  parts_div (fun t => rnL zs t) _ _ _ (Nat.le_refl _) fun _ ht => numb_same hz ((alL_mem _ _).1 ht)
theorem self_one (hz : Sets zs) : 1 ≤ (numb zs zs).length := List.length_pos_of_mem (numb_mem.2 ⟨id_nb hz.1, rn_id hz⟩)
theorem self_du (h : VoP zs) : (numb (du zs) (du zs)).length = (numb zs zs).length := by
  have hz := h.sets
  unfold numb
  rw [du_len]
  congr 1
  refine List.filter_congr fun t ht => ?_
  have ht := (alL_mem _ _).1 ht
  rw [rn_du h ht, decide_eq_decide]
  constructor
  · intro e
    have := congrArg du e
    rwa [du_du (rn_vo h ht), du_du h] at this
  · intro e; rw [e]
/-- An order under a numbering has as many. -/
theorem self_rn (hz : Sets zs) (hp : lineB (zr zs.length) p = true) : (numb (rnL zs p) (rnL zs p)).length = (numb zs zs).length := by
  have hn := hz.1
  have l1 := rnL_len zs p
  have hs := rnL_sets hz hp
  have hbk := bk_nb hn hp
  rw [← numb_same hz hp]
  refine Nat.le_antisymm (inj_len (fun t => cmP zs.length p t) _ _ (numb_nodup _ _) (fun t ht => ?_) (fun t ht u hu e => ?_))
    (inj_len (fun t => cmP zs.length (bkL zs.length p) t) _ _ (numb_nodup _ _) (fun t ht => ?_) (fun t ht u hu e => ?_))
  · obtain ⟨h1, h2⟩ := numb_mem.1 ht
    rw [l1] at h1
    exact numb_mem.2 ⟨cm_nb hn hp h1, by rw [← rn_cm hz hp h1, h2]⟩
  · obtain ⟨h1, _⟩ := numb_mem.1 ht
    obtain ⟨h2, _⟩ := numb_mem.1 hu
    rw [l1] at h1 h2
    refine nb_ext h1 h2 fun i hi => ?_
    obtain ⟨k, hk, rfl⟩ := it_all hn hp hi
    have e3 : itN (cmP zs.length p t) k = itN (cmP zs.length p u) k := by rw [e]
    rwa [cm_it hk, cm_it hk] at e3
  · obtain ⟨h1, h2⟩ := numb_mem.1 ht
    refine numb_mem.2 ⟨by rw [l1]; exact cm_nb hn hbk h1, ?_⟩
    have e4 := rn_cm (zs := rnL zs p) hs (p := bkL zs.length p) (q := t) (by rw [l1]; exact hbk) (by rw [l1]; exact h1)
    rw [l1] at e4
    rw [← e4, rn_back hz hp, h2]
  · obtain ⟨h1, _⟩ := numb_mem.1 ht
    obtain ⟨h2, _⟩ := numb_mem.1 hu
    refine nb_ext h1 h2 fun i hi => ?_
    have hk := it_lt hp hi
    have e3 : itN (cmP zs.length (bkL zs.length p) t) (itN p i) = itN (cmP zs.length (bkL zs.length p) u) (itN p i) := by rw [e]
    rwa [cm_it hk.2, cm_it hk.2, bk_it hp hi] at e3
end
end Go.Proofs.YtghogabmkbadjaaDoor

/- Zigzags as the program asks for them: two pairs of four items within which there are three relations. No program. -/
namespace Go.Proofs.YtghogabmkbadjaaDoor
open Go.RowKit

def frI (a b c d : Nat) : Int := orI (orI (prI a b) (powI c)) (powI d)
def tstZg (zs : List Int) (p q : Nat × Nat) : Bool := popI (frI p.1 p.2 q.1 q.2) == 4 && (bitB (zs[q.1]?.getD 0) p.2 && (pwL zs (frI p.1 p.2 q.1 q.2) (itemsL (frI p.1 p.2 q.1 q.2)) == 3))
def inZg (zs : List Int) (p : Nat × Nat) (l : List (Nat × Nat)) : Bool := l.any (tstZg zs p)
def ouZg (zs : List Int) (l : List (Nat × Nat)) : Bool := l.any fun p => inZg zs p (pairsL zs)

set_option maxRecDepth 100000 in
theorem pop_four : ∀ a b c d : Fin 6, (popI (frI a.val b.val c.val d.val) == 4) = decide (a.val ≠ b.val ∧ a.val ≠ c.val ∧ a.val ≠ d.val ∧ b.val ≠ c.val ∧ b.val ≠ d.val ∧ c.val ≠ d.val) := by decide +kernel
set_option maxRecDepth 100000 in
theorem perm_four : ∀ a b c d : Fin 6, (!(popI (frI a.val b.val c.val d.val) == 4) || (itemsL (frI a.val b.val c.val d.val)).isPerm [a.val, b.val, c.val, d.val]) = true := by decide +kernel

theorem sum_permN {l m : List Nat} (h : l.Perm m) : l.sum = m.sum := by
  induction h with
  | nil => rfl
  | cons x _ ih => simp [ih]
  | swap x y l => simp; omega
  | trans _ _ ih1 ih2 => exact ih1.trans ih2
theorem cl_perm (r : Nat → Nat → Bool) {l m : List Nat} (h : l.Perm m) : cl r l l = cl r m m := by
  unfold cl
  rw [show (l.map fun a => (l.filter (r a)).length) = (l.map fun a => (m.filter (r a)).length) from List.map_congr_left fun a _ => (h.filter _).length_eq]
  exact sum_permN (h.map _)

theorem cl_four {r : Nat → Nat → Bool} {a b c d : Nat} (haa : r a a = false) (hbb : r b b = false) (hcc : r c c = false) (hdd : r d d = false) (hab : r a b = true) (hba : r b a = false) (hcb : r c b = true) (hbc : r b c = false) (hcd : r c d = true) (hdc : r d c = false) :
    cl r [a, b, c, d] [a, b, c, d] = 3 ↔ (r a c || r c a) = false ∧ (r b d || r d b) = false ∧ (r a d || r d a) = false := by
  unfold cl
  simp only [List.map_cons, List.map_nil, List.filter_cons, List.filter_nil, haa, hbb, hcc, hdd, hab, hba, hcb, hbc, hcd, hdc]
  cases r a c <;> cases r c a <;> cases r b d <;> cases r d b <;> cases r a d <;> cases r d a <;> simp

theorem frI_bd {n a b c d : Nat} (ha : a < n) (hb : b < n) (hc : c < n) (hd : d < n) : 0 ≤ frI a b c d ∧ frI a b c d < powI n := by
  have hq := prI_bd ha hb
  have h1 := powI_pos (c : Int)
  have h2 := powI_pos (d : Int)
  have h3 := orI_bd hq.1 hq.2 (by omega) (powI_lt hc)
  exact orI_bd h3.1 h3.2 (by omega) (powI_lt hd)

theorem zg_fwd {zs : List Int} (h : VoP zs) {a b c d : Nat} (ha : a < zs.length) (hb : b < zs.length) (hc : c < zs.length) (hd : d < zs.length) (hab : bitB (zs[a]?.getD 0) b = true) (hcd : bitB (zs[c]?.getD 0) d = true) :
    tstZg zs (a, b) (c, d) = tstZig zs a b c d := by
  have h6 := h.1
  have hp6 := powI_le6 (n := (zs.length : Int)) (by omega)
  have hf := frI_bd ha hb hc hd
  have e1 := pop_four ⟨a, by omega⟩ ⟨b, by omega⟩ ⟨c, by omega⟩ ⟨d, by omega⟩
  have e2 := perm_four ⟨a, by omega⟩ ⟨b, by omega⟩ ⟨c, by omega⟩ ⟨d, by omega⟩
  dsimp only at e1 e2
  have nab : a ≠ b := fun e => by rw [← e, h.irrB ha] at hab; cases hab
  have ncd : c ≠ d := fun e => by rw [← e, h.irrB hc] at hcd; cases hcd
  unfold tstZg tstZig
  dsimp only
  rw [e1, hab, hcd]
  rw [e1] at e2
  by_cases hdis : a ≠ b ∧ a ≠ c ∧ a ≠ d ∧ b ≠ c ∧ b ≠ d ∧ c ≠ d
  · rw [decide_eq_true hdis] at e2 ⊢
    have hperm := List.isPerm_iff.1 (by simpa using e2)
    obtain ⟨_, nac, nad, nbc, nbd, _⟩ := hdis
    rw [pwL_eq zs hf.1 (by omega), cl_perm _ hperm]
    cases hcb : bitB (zs[c]?.getD 0) b
    · rfl
    · have key := cl_four (r := fun x y => bitB (zs[x]?.getD 0) y) (h.irrB ha) (h.irrB hb) (h.irrB hc) (h.irrB hd) hab (h.asym ha hab) hcb (h.asym hc hcb) hcd (h.asym hc hcd)
      have e3 : (((cl (fun x y => bitB (zs[x]?.getD 0) y) [a, b, c, d] [a, b, c, d] : Nat) : Int) == 3) = true ↔ (bitB (zs[a]?.getD 0) c || bitB (zs[c]?.getD 0) a) = false ∧ (bitB (zs[b]?.getD 0) d || bitB (zs[d]?.getD 0) b) = false ∧ (bitB (zs[a]?.getD 0) d || bitB (zs[d]?.getD 0) a) = false := by
        rw [beq_iff_eq, ← key]; omega
      simp only [relB]
      rw [show (a == c) = false by simpa using nac, show (b == d) = false by simpa using nbd]
      rw [Bool.eq_iff_iff]
      simp only [Bool.true_and, Bool.and_eq_true, Bool.not_eq_true', Bool.not_false, e3]
  · rw [decide_eq_false hdis]
    cases hcb : bitB (zs[c]?.getD 0) b
    · rfl
    · have nbc : b ≠ c := fun e => by rw [← e, h.irrB hb] at hcb; cases hcb
      by_cases nac : a = c
      · simp [nac]
      · by_cases nbd : b = d
        · simp [nbd]
        · have nad : a = d := by
            refine Classical.byContradiction fun nad => hdis ⟨nab, nac, nad, nbc, nbd, ncd⟩
          subst nad
          have : relB zs b a = true := by unfold relB; rw [hab]; simp
          simp [this]

theorem two_zig {zs : List Int} (h : VoP zs) : ouZg zs (pairsL zs) = zigB zs := by
  have h6 := h.1
  rw [Bool.eq_iff_iff]
  unfold ouZg inZg zigB
  rw [any4_iff, List.any_eq_true]
  constructor
  · rintro ⟨⟨a, b⟩, hp, ht⟩
    obtain ⟨⟨c, d⟩, hq, ht⟩ := List.any_eq_true.1 ht
    obtain ⟨ha, hb, hab⟩ := h.sets.pair hp
    obtain ⟨hc, hd, hcd⟩ := h.sets.pair hq
    exact ⟨a, b, c, d, ha, hb, hc, hd, (zg_fwd h ha hb hc hd hab hcd).symm.trans ht⟩
  · rintro ⟨a, b, c, d, ha, hb, hc, hd, ht⟩
    have ht2 := ht
    simp only [tstZig, Bool.and_eq_true] at ht2
    have hab := ht2.1
    have hcd := ht2.2.2.1
    exact ⟨(a, b), mem_pairsL.2 ⟨ha, by omega, hab⟩, List.any_eq_true.2 ⟨(c, d), mem_pairsL.2 ⟨hc, by omega, hcd⟩, (zg_fwd h ha hb hc hd hab hcd).trans ht⟩⟩
end Go.Proofs.YtghogabmkbadjaaDoor

/- What Renumbered's own law asks: an order under new numbers has as many pairs, lines and ideals. No program. -/
namespace Go.Proofs.YtghogabmkbadjaaDoor

set_option maxRecDepth 100000 in
theorem perm_fin : ∀ n : Fin 7, (alL (zr n.val)).all (fun p => ((List.range n.val).map (itN p)).isPerm (List.range n.val)) = true := by decide +kernel
theorem perm_it {n : Nat} {p : List Int} (hn : n ≤ 6) (hp : lineB (zr n) p = true) : ((List.range n).map (itN p)).Perm (List.range n) := by
  have := perm_fin ⟨n, by omega⟩
  exact List.isPerm_iff.1 (List.all_eq_true.1 this p ((alL_mem _ _).2 hp))
theorem cl_map (r : Nat → Nat → Bool) (f : Nat → Nat) (l m : List Nat) : cl r (l.map f) (m.map f) = cl (fun a b => r (f a) (f b)) l m := by
  unfold cl
  rw [List.map_map]
  congr 1
  refine List.map_congr_left fun a _ => ?_
  simp only [Function.comp]
  rw [List.filter_map, List.length_map]
  rfl
theorem cl_congr {r s : Nat → Nat → Bool} {l : List Nat} (h : ∀ a ∈ l, ∀ b ∈ l, r a b = s a b) : cl r l l = cl s l l := by
  unfold cl
  congr 1
  refine List.map_congr_left fun a ha => ?_
  rw [List.filter_congr (fun b hb => h a ha b hb)]

section
variable {zs p : List Int}
theorem rn_prs (hz : Sets zs) (hp : lineB (zr zs.length) p = true) : popTo (rnL zs p) zs.length = popTo zs zs.length := by
  have hs := rnL_sets hz hp
  have l1 := rnL_len zs p
  have e1 := popTo_cl hs (rnL zs p).length (Nat.le_refl _)
  have e2 := popTo_cl hz zs.length (Nat.le_refl _)
  rw [l1] at e1
  rw [e1, e2, ← cl_perm _ (perm_it hz.1 hp), cl_map]
  congr 1
  refine cl_congr fun a ha b hb => ?_
  exact rnL_bit hz hp (List.mem_range.1 ha) (List.mem_range.1 hb)

theorem rnline_mk {n : Nat} {E r : List Int} (hn : n ≤ 6) (h : VoP E) (hl : E.length = n) (hr : lineB (zr n) r = true) (hq : ∀ x y, qB E x y → atI r (x : Int) < atI r (y : Int)) : lineB E r = true := by
  obtain ⟨h1, hs⟩ := zr_steps hr
  refine lineB_yes h1 hl.symm fun k hk => ?_
  have hk1 := hs k hk
  have hi := it_lt hr hk
  have hlow : (lessI ((du E)[(r[k]?.getD 0).toNat]?.getD 0) (doneTo r k) == 0) = true := by
    rw [beq_iff_eq, lessI_none]
    intro j hj
    change bitB ((du E)[itN r k]?.getD 0) j = true at hj
    rw [du_bit h.sets] at hj
    have hjE : j < n := by have := qB_lt hl (a := j) (b := itN r k) hj; omega
    obtain ⟨i, hin, e1, e2⟩ := at_of hn hr hjE
    have h3 := hq j (itN r k) hj
    rw [e2, at_it hr hk] at h3
    exact (done_of (n := n) (fun i hi => hs i (by omega)) j).2 ⟨i, by omega, e1⟩
  unfold stepOk at hk1 ⊢
  rw [Bool.and_eq_true, Bool.and_eq_true] at hk1
  rw [zr_len] at hk1
  rw [hl, hk1.1, hk1.2.1, hlow]
  rfl
/-- A line under new numbers is a line of the order under new numbers. -/
theorem rn_line (h : VoP zs) (hp : lineB (zr zs.length) p = true) {l : List Int} (hl : lineB zs l = true) : lineB (rnL zs p) (cmP zs.length l p) = true := by
  have hz := h.sets
  have hn := hz.1
  have l1 := rnL_len zs p
  have hnb := line_zr h rfl hl
  have hc := cm_nb hn hnb hp
  refine rnline_mk hn (rn_vo h hp) l1 hc fun x y hq => ?_
  have hx := qB_lt l1 hq
  have hy : y < zs.length := by have := bitB_lt ((rnL_sets hz hp).2 x (by rw [l1]; exact hx)).2 hq; rwa [l1] at this
  obtain ⟨a, ha, rfl⟩ := it_all hn hp hx
  obtain ⟨b, hb, rfl⟩ := it_all hn hp hy
  have hab : qB zs a b := by
    unfold qB at hq ⊢
    rwa [rnL_bit hz hp ha hb] at hq
  have h3 := line_behind h rfl hl hab
  obtain ⟨i, hi, rfl, ei⟩ := at_of hn hnb ha
  obtain ⟨j, hj, rfl, ej⟩ := at_of hn hnb hb
  have f1 := at_it hc hi
  have f2 := at_it hc hj
  rw [cm_it hi] at f1
  rw [cm_it hj] at f2
  rw [f1, f2]
  rwa [ei, ej] at h3
theorem rn_lines_le (h : VoP zs) (hp : lineB (zr zs.length) p = true) : (alL zs).length ≤ (alL (rnL zs p)).length := by
  refine inj_len (fun l => cmP zs.length l p) _ _ (alL_nodup _) (fun l hl => (alL_mem _ _).2 (rn_line h hp ((alL_mem _ _).1 hl))) (fun l hl l' hl' e => ?_)
  have h1 := line_zr h rfl ((alL_mem _ _).1 hl)
  have h2 := line_zr h rfl ((alL_mem _ _).1 hl')
  refine nb_ext h1 h2 fun i hi => ?_
  have e3 : itN (cmP zs.length l p) i = itN (cmP zs.length l' p) i := by rw [e]
  rw [cm_it hi, cm_it hi] at e3
  exact nb_inj hp (it_lt h1 hi).2 (it_lt h2 hi).2 e3

/-- A set under new numbers. -/
def imN (n : Nat) (p : List Int) (s : Nat) : Nat := (setP (fun j => s.testBit (itN (bkL n p) j)) n).toNat
theorem imN_bit (n : Nat) (p : List Int) (s j : Nat) : (imN n p s).testBit j = (decide (j < n) && s.testBit (itN (bkL n p) j)) := by
  have h0 := (setP_bd (fun j => s.testBit (itN (bkL n p) j)) n).1
  have h1 := setP_bit (fun j => s.testBit (itN (bkL n p) j)) j n
  rw [← h1]
  unfold imN bitB
  rfl
theorem imN_lt (n : Nat) (p : List Int) (s : Nat) : imN n p s < 2 ^ n := Nat.lt_pow_two_of_testBit _ fun i hi => by
  rw [imN_bit, decide_eq_false (by omega)]; rfl
theorem rn_ids_le (h : VoP zs) (hp : lineB (zr zs.length) p = true) : ciN zs (2 ^ zs.length - 1) ≤ ciN (rnL zs p) (2 ^ zs.length - 1) := by
  have hz := h.sets
  have hn := hz.1
  have l1 := rnL_len zs p
  have hv := rn_vo h hp
  rw [ciN_all h rfl, ciN_all hv l1]
  refine inj_len (fun s => imN zs.length p s) _ _ (ids_nodup _ _) (fun s hs => ?_) (fun s hs t ht e => ?_)
  · obtain ⟨h1, h2⟩ := (mem_idsA rfl h).1 hs
    refine (mem_idsA l1 hv).2 ⟨imN_lt _ _ _, fun x y hxy hb => ?_⟩
    obtain ⟨hx, hq⟩ := hxy
    have hy : y < zs.length := by have := bitB_lt (hv.sets.2 x hx).2 hq; rwa [l1] at this
    rw [l1] at hx
    rw [imN_bit, Bool.and_eq_true] at hb ⊢
    obtain ⟨a, ha, rfl⟩ := it_all hn hp hx
    obtain ⟨b, hb', rfl⟩ := it_all hn hp hy
    rw [bk_it hp hb'] at hb
    rw [bk_it hp ha]
    rw [rnL_bit hz hp ha hb'] at hq
    exact ⟨decide_eq_true hx, h2 a b ⟨ha, hq⟩ hb.2⟩
  · obtain ⟨h1, _⟩ := (mem_idsA rfl h).1 hs
    obtain ⟨h2, _⟩ := (mem_idsA rfl h).1 ht
    refine Nat.eq_of_testBit_eq fun i => ?_
    by_cases hi : i < zs.length
    · have e3 : (imN zs.length p s).testBit (itN p i) = (imN zs.length p t).testBit (itN p i) := by rw [show imN zs.length p s = imN zs.length p t from e]
      rw [imN_bit, imN_bit, bk_it hp hi, decide_eq_true (it_lt hp hi).2, Bool.true_and, Bool.true_and] at e3
      exact e3
    · rw [Nat.testBit_lt_two_pow (Nat.lt_of_lt_of_le h1 (Nat.pow_le_pow_right (by decide) (by omega))), Nat.testBit_lt_two_pow (Nat.lt_of_lt_of_le h2 (Nat.pow_le_pow_right (by decide) (by omega)))]
/-- The list of places under way. -/
def bkP (ts : List Int) (n : Nat) : Nat → List Int
  | 0 => List.replicate n 0
  | k + 1 => (bkP ts n k).set (itN ts k) (k : Int)
theorem bkP_len (ts : List Int) (n : Nat) : ∀ k : Nat, (bkP ts n k).length = n
  | 0 => by simp [bkP]
  | k + 1 => by rw [bkP, List.length_set]; exact bkP_len ts n k
theorem bkP_get {n : Nat} {ts : List Int} (hp : lineB (zr n) ts = true) : ∀ k : Nat, k ≤ n → ∀ j, j < k → (bkP ts n k)[itN ts j]?.getD 0 = (j : Int)
  | 0, _, j, hj => by omega
  | k + 1, hk, j, hj => by
    rw [bkP]
    by_cases e : j = k
    · subst e
      rw [List.getElem?_set_self (by rw [bkP_len]; exact (it_lt hp (by omega)).2), Option.getD_some]
    · rw [List.getElem?_set_ne (fun e2 => e (nb_inj hp (by omega) (by omega) e2.symm))]
      exact bkP_get hp k (by omega) j (by omega)
theorem bkP_all {n : Nat} {ts : List Int} (hn : n ≤ 6) (hp : lineB (zr n) ts = true) : bkP ts n n = bkL n ts := by
  refine List.ext_getElem (by rw [bkP_len]; unfold bkL; rw [lsN_len]) fun a h1 h2 => ?_
  have ha : a < n := by rw [bkP_len] at h1; exact h1
  obtain ⟨j, hj, rfl⟩ := it_all hn hp ha
  have e1 := bkP_get hp n (Nat.le_refl _) j hj
  have e2 : (bkL n ts)[itN ts j]?.getD 0 = (j : Int) := by
    unfold bkL
    rw [lsN_get ha, at_it hp hj]
    simp
  rw [List.getElem?_eq_getElem h1, Option.getD_some] at e1
  rw [List.getElem?_eq_getElem h2, Option.getD_some] at e2
  rw [e1, e2]
/-- What Renumbered's own law asks. -/
theorem rn_facts (h : rnOk zs p = true) : bkP p zs.length zs.length = bkL zs.length p ∧ vo (rnR zs p) = true ∧ rnR zs p = rnL zs p ∧ zs.length ≤ 6 ∧ p.length = zs.length ∧ (∀ i, i < zs.length → p[i]?.getD 0 = (itN p i : Int) ∧ itN p i < zs.length) ∧
    (rnOk (rnR zs p) (bkL zs.length p) = true ∧ rnR (rnR zs p) (bkL zs.length p) = zs) ∧ countR (rnR zs p) = countR zs ∧ linesR (rnR zs p) = linesR zs ∧ countIdealsR (rnR zs p) = countIdealsR zs := by
  have h0 := h
  unfold rnOk at h0
  rw [Bool.and_eq_true] at h0
  obtain ⟨hvb, hp⟩ := h0
  have hvo : VoP zs := by simpa [vo] using hvb
  have hz := hvo.sets
  have hn := hz.1
  have e : rnR zs p = rnL zs p := by unfold rnR; rw [h, if_pos rfl]
  have hv := rn_vo hvo hp
  have l1 := rnL_len zs p
  have hbk := bk_nb hn hp
  have hbk' : lineB (zr (rnL zs p).length) (bkL zs.length p) = true := by rw [l1]; exact hbk
  have hok : rnOk (rnL zs p) (bkL zs.length p) = true := by unfold rnOk; rw [vo_true hv, hbk']; rfl
  have hback := rn_back hz hp
  rw [e]
  refine ⟨bkP_all hn hp, vo_true hv, rfl, hn, (zr_steps hp).1, fun i hi => it_lt hp hi, ⟨hok, by unfold rnR; rw [hok, if_pos rfl, hback]⟩, ?_, ?_, ?_⟩
  · unfold countR
    rw [vo_true hv, hvb, if_pos rfl, if_pos rfl, l1, rn_prs hz hp]
  · rw [← (lines_law hv).1, ← (lines_law hvo).1]
    have g1 := rn_lines_le hvo hp
    have g2 := rn_lines_le hv hbk'
    rw [hback] at g2
    omega
  · unfold countIdealsR
    rw [vo_true hv, hvb, if_pos rfl, if_pos rfl, l1]
    have g1 := rn_ids_le hvo hp
    have g2 := rn_ids_le hv hbk'
    rw [hback, l1] at g2
    omega
end
end Go.Proofs.YtghogabmkbadjaaDoor

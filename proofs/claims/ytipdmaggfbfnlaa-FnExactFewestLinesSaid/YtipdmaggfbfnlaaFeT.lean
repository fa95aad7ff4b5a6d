/- FewestLines: the program's search as data, and what it finds. No program. -/
import Derived.Test.YtipdmaggfbfnlaaFeM
import Derived.Test.YtipdmaggfbfnlaaGb
set_option linter.unusedVariables false
set_option linter.unusedSimpArgs false
namespace Go.Proofs.Ytipdmaggfbfnlaa

/-- Each pair, and each item with itself. -/
def evL (n : Nat) : List Int := List.replicate n (powI (n : Int) - 1)
def cmL (n : Nat) (sf r : List Int) : List Int := opL andI sf (meL n [r]) n
def toldA (f : List Int → List (List Int) → Bool) (n : Nat) (sf : List Int) : List (List Int) → Bool
  | [] => false
  | r :: rs => f (cmL n sf r) rs || toldA f n sf rs
/-- Whether the pairs so far and at most k of the lines tell zs. -/
def toldL (n : Nat) (zs : List Int) : Nat → List Int → List (List Int) → Bool
  | 0, sf, _ => decide (sf = zs)
  | k + 1, sf, rs => decide (sf = zs) || toldA (toldL n zs k) n sf rs
/-- What the lines taken have in common. -/
def soL (n : Nat) (P : List (List Int)) : List Int := if P = [] then evL n else meL n P
theorem toldA_drop (f : List Int → List (List Int) → Bool) (n : Nat) (sf : List Int) (rs : List (List Int)) {i : Nat} (hi : i < rs.length) : toldA f n sf (rs.drop i) = (f (cmL n sf (rs[i]?.getD [])) (rs.drop (i + 1)) || toldA f n sf (rs.drop (i + 1))) := by
  rw [List.drop_eq_getElem_cons hi, List.getElem?_eq_getElem hi]
  rfl
theorem evL_len (n : Nat) : (evL n).length = n := by simp [evL]
theorem evL_get {n a : Nat} (ha : a < n) : (evL n)[a]?.getD 0 = powI (n : Int) - 1 := by simp [evL, ha]
theorem cm_so {n : Nat} (hn : n ≤ 6) (P : List (List Int)) (r : List Int) : cmL n (soL n P) r = soL n (P ++ [r]) := by
  have h1 : soL n (P ++ [r]) = meL n (P ++ [r]) := by unfold soL; rw [if_neg (by simp)]
  rw [h1]
  unfold cmL
  by_cases hp : P = []
  · subst hp
    unfold soL
    rw [if_pos rfl, List.nil_append]
    refine List.ext_getElem? fun a => ?_
    by_cases ha : a < n
    · have e1 := evL_get ha
      have e2 := meL_get [r] ha
      simp only [opL, List.getElem?_map, List.getElem?_range (show a < (evL n).length by rw [evL_len]; exact ha), Option.map_some, e1, e2, if_pos ha]
      simp only [meL, List.getElem?_map, List.getElem?_range ha, Option.map_some]
      congr 1
      refine bitB_ext (andI_bd _ _).1 (setP_bd _ _).1 fun j => ?_
      rw [bitB_and, setP_bit, all_bits]
      cases decide (j < n) <;> simp
    · rw [List.getElem?_eq_none (by rw [opL_len, evL_len]; omega), List.getElem?_eq_none (by rw [meL_len]; omega)]
  · unfold soL
    rw [if_neg hp]
    exact meL_snoc n P r
theorem toldA_iff {n : Nat} (hn : n ≤ 6) {zs : List Int} {k : Nat} (ih : ∀ P rs, toldL n zs k (soL n P) rs = true ↔ ∃ S, S.Sublist rs ∧ S.length ≤ k ∧ soL n (P ++ S) = zs) (P : List (List Int)) :
    ∀ rs, toldA (toldL n zs k) n (soL n P) rs = true ↔ ∃ r S, (r :: S).Sublist rs ∧ S.length ≤ k ∧ soL n (P ++ r :: S) = zs
  | [] => by simp [toldA]
  | r :: rs => by
    rw [toldA, Bool.or_eq_true, cm_so hn, ih, toldA_iff hn ih P rs]
    constructor
    · rintro (⟨S, h1, h2, h3⟩ | ⟨r', S, h1, h2, h3⟩)
      · exact ⟨r, S, h1.cons_cons r, h2, by rw [List.append_assoc] at h3; exact h3⟩
      · exact ⟨r', S, h1.cons r, h2, h3⟩
    · rintro ⟨r', S, h1, h2, h3⟩
      cases h1 with
      | cons _ h => exact .inr ⟨r', S, h, h2, h3⟩
      | cons_cons _ h => exact .inl ⟨S, h, h2, by rw [List.append_assoc]; exact h3⟩
theorem toldL_iff {n : Nat} (hn : n ≤ 6) {zs : List Int} : ∀ (k : Nat) (P : List (List Int)) (rs : List (List Int)), toldL n zs k (soL n P) rs = true ↔ ∃ S, S.Sublist rs ∧ S.length ≤ k ∧ soL n (P ++ S) = zs
  | 0, P, rs => by
    rw [toldL, decide_eq_true_eq]
    constructor
    · intro h; exact ⟨[], List.nil_sublist _, Nat.le_refl _, by rw [List.append_nil]; exact h⟩
    · rintro ⟨S, _, h2, h3⟩
      have hS : S = [] := List.eq_nil_of_length_eq_zero (by omega)
      rw [hS, List.append_nil] at h3
      exact h3
  | k + 1, P, rs => by
    rw [toldL, Bool.or_eq_true, decide_eq_true_eq, toldA_iff hn (fun P rs => toldL_iff hn k P rs)]
    constructor
    · rintro (h | ⟨r, S, h1, h2, h3⟩)
      · exact ⟨[], List.nil_sublist _, Nat.zero_le _, by rw [List.append_nil]; exact h⟩
      · exact ⟨r :: S, h1, by simpa using h2, h3⟩
    · rintro ⟨S, h1, h2, h3⟩
      cases S with
      | nil => rw [List.append_nil] at h3; exact .inl h3
      | cons r S => exact .inr ⟨r, S, h1, by simpa using h2, h3⟩
theorem len_sub {α : Type} [BEq α] [LawfulBEq α] : ∀ (S T : List α), T.Nodup → (∀ x ∈ T, x ∈ S) → T.length ≤ S.length
  | [], T, _, h => by
    cases T with
    | nil => simp
    | cons x T => exact absurd (h x (by simp)) (by simp)
  | s :: S, T, hn, h => by
    have h1 := len_sub S (T.erase s) (hn.erase s) (fun x hx => by
      rw [hn.mem_erase_iff] at hx
      rcases List.mem_cons.1 (h x hx.2) with e | e
      · exact absurd e hx.1
      · exact e)
    have h2 := List.length_erase (a := s) (l := T)
    split at h2
    · have : (s :: S).length = S.length + 1 := rfl
      omega
    · have : (s :: S).length = S.length + 1 := rfl
      omega
theorem meL_mem {n : Nat} {S T : List (List Int)} (h : ∀ x, x ∈ S ↔ x ∈ T) : meL n S = meL n T := by
  unfold meL
  refine List.map_congr_left fun x _ => setP_congr n fun j _ => ?_
  unfold behB
  congr 1
  rw [Bool.eq_iff_iff, List.all_eq_true, List.all_eq_true]
  exact ⟨fun g y hy => g y ((h y).2 hy), fun g y hy => g y ((h y).1 hy)⟩
/-- Lines that tell zs stand in the list of all lines one behind the other. -/
theorem sub_of {zs : List Int} {S : List (List Int)} (hS : ∀ x ∈ S, x ∈ alL zs) (hne : S ≠ []) : ∃ T, T.Sublist (alL zs) ∧ T.length ≤ S.length ∧ T ≠ [] ∧ meL zs.length T = meL zs.length S := by
  refine ⟨(alL zs).filter fun x => S.contains x, List.filter_sublist, ?_, ?_, ?_⟩
  · refine len_sub S _ ((alL_nodup zs).filter _) fun x hx => ?_
    have := (List.mem_filter.1 hx).2
    simpa using this
  · intro e
    cases S with
    | nil => exact hne rfl
    | cons s S =>
      have : s ∈ (alL zs).filter fun x => (s :: S).contains x := List.mem_filter.2 ⟨hS s (by simp), by simp⟩
      rw [e] at this
      cases this
  · refine meL_mem fun x => ?_
    rw [List.mem_filter]
    constructor
    · intro h; simpa using h.2
    · intro h; exact ⟨hS x h, by simpa using h⟩
/-- The program's search finds the fewest lines. -/
theorem told_fw {zs : List Int} (h : VoP zs) {k : Nat} (hk1 : 1 ≤ k) (hk3 : k ≤ 3) : toldL zs.length zs k (evL zs.length) (alL zs) = decide (fwN zs ≤ k) := by
  have hn := h.1
  have key := toldL_iff hn (zs := zs) k [] (alL zs)
  rw [show soL zs.length [] = evL zs.length from rfl] at key
  simp only [List.nil_append] at key
  have h3 := fw_three h
  have hval : fwN zs = 1 ∨ fwN zs = 2 ∨ fwN zs = 3 := by unfold fwN; split; exact .inl rfl; split; exact .inr (.inl rfl); exact .inr (.inr rfl)
  have h1v : (alL zs).length = 1 ↔ fwN zs = 1 := by
    unfold fwN
    constructor
    · intro e; rw [if_pos e]
    · intro e
      split at e
      · assumption
      · split at e <;> cases e
  have h2v : (sdF zs).isSome = true → fwN zs ≤ 2 := by
    intro e
    unfold fwN
    split
    · decide
    · first | (rw [if_pos e]; decide) | (simp [e]) | decide
  have mk : ∀ S : List (List Int), (∀ x ∈ S, x ∈ alL zs) → S ≠ [] → S.length ≤ k → meL zs.length S = zs → ∃ T, T.Sublist (alL zs) ∧ T.length ≤ k ∧ soL zs.length T = zs := fun S hS hne hl e => by
    obtain ⟨T, t1, t2, t3, t4⟩ := sub_of hS hne
    exact ⟨T, t1, Nat.le_trans t2 hl, by unfold soL; rw [if_neg t3, t4, e]⟩
  rw [Bool.eq_iff_iff, key, decide_eq_true_eq]
  constructor
  · rintro ⟨S, s1, s2, s3⟩
    by_cases hS : S = []
    · subst hS
      have hz : zs.length = 0 := by
        rcases Nat.eq_zero_or_pos zs.length with e | hpos
        · exact e
        · exfalso
          have e1 := h.irrB hpos
          have e2 : zs[0]?.getD 0 = powI (zs.length : Int) - 1 := by
            have e4 := evL_get hpos
            rw [← e4]
            exact congrArg (fun l : List Int => l[0]?.getD 0) s3.symm
          rw [e2] at e1
          have e3 := all_bits (n := zs.length) 0
          rw [show decide (0 < zs.length) = true by simpa using hpos] at e3
          simp at e1 e3
          rw [e3] at e1
          cases e1
      obtain ⟨a, _, _, ha, _⟩ := h3
      have : (alL zs).length = 1 := (one_len h).1 ⟨a, (alL_mem zs a).1 ha, by
        have e5 : (meL zs.length [a]).length = zs.length := meL_len _ _
        rw [List.eq_nil_of_length_eq_zero hz]
        exact List.eq_nil_of_length_eq_zero (by rw [meL_len]; rfl)⟩
      rw [h1v.1 this]
      omega
    · have e : meL zs.length S = zs := by unfold soL at s3; rwa [if_neg hS] at s3
      match S, hS, s1, s2, e with
      | [a], _, s1, _, e =>
        have ha := s1.subset (List.mem_singleton.2 rfl)
        rw [h1v.1 ((one_len h).1 ⟨a, (alL_mem zs a).1 ha, e⟩)]
        omega
      | [a, b], _, s1, s2, e =>
        have ha := s1.subset (show a ∈ [a, b] by simp)
        have hb := s1.subset (show b ∈ [a, b] by simp)
        have := h2v ((fw_two h).1 ⟨a, b, ha, hb, e⟩)
        simp at s2
        omega
      | a :: b :: c :: S, _, s1, s2, e =>
        simp at s2
        omega
  · intro hle
    rcases hval with e | e | e
    · obtain ⟨a, ha, e2⟩ := (one_len h).2 (h1v.2 e)
      exact mk [a] (by simpa using (alL_mem zs a).2 ha) (by simp) (by simpa using hk1) e2
    · have hs : (sdF zs).isSome = true := by
        unfold fwN at e
        split at e
        · cases e
        · split at e
          · assumption
          · cases e
      obtain ⟨a, b, ha, hb, e2⟩ := (fw_two h).2 hs
      exact mk [a, b] (by intro x hx; simp at hx; rcases hx with rfl | rfl <;> assumption) (by simp) (by simp; omega) e2
    · obtain ⟨a, b, d, ha, hb, hd, e2⟩ := h3
      exact mk [a, b, d] (by intro x hx; simp at hx; rcases hx with rfl | rfl | rfl <;> assumption) (by simp) (by simp; omega) e2
end Go.Proofs.Ytipdmaggfbfnlaa

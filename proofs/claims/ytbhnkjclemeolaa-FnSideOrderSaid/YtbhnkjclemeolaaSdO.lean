/- What the own law of SideOrder asks, as plain mathematics. No program. -/
import Derived.Test.YtbhnkjclemeolaaPlM
import Derived.Test.YtbhnkjclemeolaaGd
set_option linter.unusedVariables false
set_option linter.unusedSimpArgs false
namespace Go.Proofs.Ytbhnkjclemeolaa

theorem filter_add {p q r : Nat → Bool} : ∀ l : List Nat, (∀ a ∈ l, r a = (p a || q a) ∧ (p a && q a) = false) → (l.filter r).length = (l.filter p).length + (l.filter q).length
  | [], _ => rfl
  | x :: l, h => by
    have ih := filter_add l fun a ha => h a (by simp [ha])
    have hx := h x (by simp)
    rw [List.filter_cons, List.filter_cons, List.filter_cons, hx.1]
    cases hp : p x <;> cases hq : q x <;> simp [hp, hq] at hx ⊢ <;> omega
theorem cl_add {p q r : Nat → Nat → Bool} (m : List Nat) : ∀ l : List Nat, (∀ a ∈ l, ∀ b ∈ m, r a b = (p a b || q a b) ∧ (p a b && q a b) = false) → cl r l m = cl p l m + cl q l m
  | [], _ => rfl
  | x :: l, h => by
    have ih := cl_add m l fun a ha => h a (by simp [ha])
    have hx := filter_add m (h x (by simp))
    unfold cl at ih ⊢
    rw [List.map_cons, List.sum_cons, List.map_cons, List.sum_cons, List.map_cons, List.sum_cons, hx, ih]
    omega
theorem cl_tour {r : Nat → Nat → Bool} (hi : ∀ a, r a a = false) : ∀ n : Nat, (∀ a, a < n → ∀ b, b < n → a ≠ b → (r a b || r b a) = true ∧ (r a b && r b a) = false) → 2 * cl r (List.range n) (List.range n) + n = n * n
  | 0, _ => rfl
  | n + 1, h => by
    have ih := cl_tour hi n fun a ha b hb => h a (by omega) b (by omega)
    have hc := cl_range r n fun a _ => hi a
    have hf := filter_add (p := r n) (q := fun a => r a n) (r := fun _ => true) (List.range n) fun a ha => by
      have := h n (by omega) a (by have := List.mem_range.1 ha; omega) (by have := List.mem_range.1 ha; omega)
      exact ⟨this.1.symm, this.2⟩
    have e : (List.range n).filter (fun _ => true) = List.range n := List.filter_eq_self.2 fun _ _ => rfl
    rw [e, List.length_range] at hf
    rw [hc, hi n]
    have : (n + 1) * (n + 1) = n * n + n + n + 1 := by rw [Nat.add_mul, Nat.mul_add]; omega
    simp only [Bool.false_eq_true, if_false]
    omega
theorem side_prs {zs T : List Int} (h : VoP zs) (hT : SideOf zs T) : 2 * (prs zs + prs T) + zs.length = zs.length * zs.length := by
  have hE := eitL_vo h hT
  have h1 := cl_tour (r := upB (eitL zs T)) (fun a => by
    cases e : upB (eitL zs T) a a
    · rfl
    · exact absurd e (q_irr hE)) zs.length fun a ha b hb hab => by
    refine ⟨?_, ?_⟩
    · rw [Bool.or_eq_true]; exact eitL_tot hT ha hb hab
    · cases e1 : upB (eitL zs T) a b
      · rfl
      · cases e2 : upB (eitL zs T) b a
        · rfl
        · exact absurd (q_trans hE e1 e2) (q_irr hE)
  have h2 := cl_add (p := upB zs) (q := upB T) (r := upB (eitL zs T)) (List.range zs.length) (List.range zs.length) fun a ha b hb => by
    have hq := eitL_q (zs := zs) (T := T) a b hT.len
    refine ⟨by rw [Bool.eq_iff_iff, Bool.or_eq_true]; exact hq, ?_⟩
    cases e1 : upB zs a b
    · rfl
    · cases e2 : upB T a b
      · rfl
      · exact absurd e1 (side_un hT e2).2.1
  have e3 : prs T = cl (upB T) (List.range zs.length) (List.range zs.length) := by unfold prs; rw [hT.len]
  have e4 : prs zs = cl (upB zs) (List.range zs.length) (List.range zs.length) := rfl
  rw [h2, ← e3, ← e4] at h1
  omega
theorem side_and {zs T : List Int} (hT : SideOf zs T) (i : Nat) : andI (T[i]?.getD 0) (zs[i]?.getD 0) = 0 := by
  rw [andI_zero]
  intro b hb
  cases e : bitB (T[i]?.getD 0) (b : Int)
  · rfl
  · exact absurd hb (side_un hT e).2.1
/-- What the own law of SideOrder asks. -/
theorem side_facts {zs : List Int} (hok : sdOk zs = true) : ∃ T, sdR zs = T ∧ VoP zs ∧ VoP T ∧ T.length = zs.length ∧ (∀ i : Nat, andI (T[i]?.getD 0) (zs[i]?.getD 0) = 0) ∧ sdOk T = true ∧ ∃ p q : Nat, countR T = (p : Int) ∧ countR zs = (q : Int) ∧ 2 * (p + q) + zs.length = zs.length * zs.length ∧ p ≤ 18 ∧ q ≤ 18 := by
  have hk := hok
  unfold sdOk at hk
  rw [Bool.and_eq_true] at hk
  have hvo : VoP zs := by simpa [vo] using hk.1
  cases hT : sdF zs with
  | none => rw [hT] at hk; cases hk.2
  | some T =>
    have hS := (sdF_some hvo hT).1
    obtain ⟨S, hSS⟩ := sdF_of hS.vo (side_back hvo hS)
    have hc : ∀ ys : List Int, VoP ys → countR ys = (prs ys : Int) := fun ys hy => by unfold countR; rw [vo_true hy, if_pos rfl, popTo_prs hy.sets]
    have hp := side_prs hvo hS
    have hn6 := hvo.1
    have hnn : zs.length * zs.length ≤ 6 * 6 := Nat.mul_le_mul hn6 hn6
    exact ⟨T, by unfold sdR; rw [hok, hT]; rfl, hvo, hS.vo, hS.len, side_and hS, by unfold sdOk; rw [vo_true hS.vo, hSS]; rfl, prs T, prs zs, hc T hS.vo, hc zs hvo, by omega, by omega, by omega⟩
end Go.Proofs.Ytbhnkjclemeolaa

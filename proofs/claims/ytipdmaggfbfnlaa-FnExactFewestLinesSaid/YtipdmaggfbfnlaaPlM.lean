/- Lines out of sides, as plain mathematics. No program. -/
import Derived.Test.YtipdmaggfbfnlaaSdN
set_option linter.unusedVariables false
set_option linter.unusedSimpArgs false
namespace Go.Proofs.Ytipdmaggfbfnlaa

def eitL (zs T : List Int) : List Int := opL orI zs T zs.length
section
variable {zs T : List Int}
theorem eitL_len : (eitL zs T).length = zs.length := opL_len _ _ _ _
theorem eitL_q (x y : Nat) (hl : T.length = zs.length) : qB (eitL zs T) x y ↔ qB zs x y ∨ qB T x y := by
  unfold qB eitL
  rcases Nat.lt_or_ge x zs.length with h | h
  · rw [opL_get _ _ _ _ h, if_pos h, bitB_or, Bool.or_eq_true]
  · rw [List.getElem?_eq_none (by rw [opL_len]; exact h), List.getElem?_eq_none h, List.getElem?_eq_none (by omega)]
    simp [bitB_zero]
/-- The order and its side make one line. -/
theorem eitL_vo (h : VoP zs) (hT : SideOf zs T) : VoP (eitL zs T) := by
  have hn6 := h.1
  have key : ∀ x y z, qB zs x y → qB T y z → qB zs x z ∨ qB T x z := fun x y z h1 h2 => by
    have hx := (q_lt2 h h1).1
    have hz := (q_lt2 hT.vo h2).2
    rw [hT.len] at hz
    have u2 := side_un hT h2
    by_cases hxz : x = z
    · subst hxz; exact absurd h1 u2.2.2
    · by_cases e1 : qB zs x z
      · exact .inl e1
      · by_cases e2 : qB zs z x
        · exact absurd (q_trans h e2 h1) u2.2.2
        · rcases (hT.iff x z hx hz).2 ⟨hxz, e1, e2⟩ with e3 | e3
          · exact .inr e3
          · exact absurd h1 (side_un hT (q_trans hT.vo h2 e3)).2.2
  have key2 : ∀ x y z, qB T x y → qB zs y z → qB zs x z ∨ qB T x z := fun x y z h1 h2 => by
    have hx := (q_lt2 hT.vo h1).1
    have hz := (q_lt2 h h2).2
    rw [hT.len] at hx
    have u1 := side_un hT h1
    by_cases hxz : x = z
    · subst hxz; exact absurd h2 u1.2.2
    · by_cases e1 : qB zs x z
      · exact .inl e1
      · by_cases e2 : qB zs z x
        · exact absurd (q_trans h h2 e2) u1.2.2
        · rcases (hT.iff x z hx hz).2 ⟨hxz, e1, e2⟩ with e3 | e3
          · exact .inr e3
          · exact absurd h2 (side_un hT (q_trans hT.vo e3 h1)).2.2
  refine vo_mk (by rw [eitL_len]; exact hn6) (fun a ha => ?_) (fun a e => ?_) (fun a b c h1 h2 => ?_)
  · rw [eitL_len] at ha ⊢
    unfold eitL
    rw [opL_get _ _ _ _ ha, if_pos ha]
    have h1 := h.sets.2 a ha
    have h2 := hT.vo.sets.2 a (by rw [hT.len]; exact ha)
    rw [hT.len] at h2
    exact orI_bd h1.1 h1.2 h2.1 h2.2
  · rcases (eitL_q a a hT.len).1 e with e | e
    · exact q_irr h e
    · exact q_irr hT.vo e
  · refine (eitL_q a c hT.len).2 ?_
    rcases (eitL_q a b hT.len).1 h1 with h1 | h1 <;> rcases (eitL_q b c hT.len).1 h2 with h2 | h2
    · exact .inl (q_trans h h1 h2)
    · exact key a b c h1 h2
    · exact key2 a b c h1 h2
    · exact .inr (q_trans hT.vo h1 h2)
theorem eitL_tot (hT : SideOf zs T) {x y : Nat} (hx : x < zs.length) (hy : y < zs.length) (hxy : x ≠ y) : qB (eitL zs T) x y ∨ qB (eitL zs T) y x := by
  rw [eitL_q x y hT.len, eitL_q y x hT.len]
  by_cases e1 : qB zs x y
  · exact .inl (.inl e1)
  · by_cases e2 : qB zs y x
    · exact .inr (.inl e2)
    · rcases (hT.iff x y hx hy).2 ⟨hxy, e1, e2⟩ with e3 | e3
      · exact .inl (.inr e3)
      · exact .inr (.inr e3)
theorem du_q (h : VoP T) (x y : Nat) : qB (du T) y x ↔ qB T x y := by unfold qB; rw [du_bit h.sets]
theorem side_du (hT : SideOf zs T) : SideOf zs (du T) := by
  refine ⟨du_vo hT.vo, by rw [du_len, hT.len], fun x y hx hy => ?_⟩
  rw [du_q hT.vo y x, du_q hT.vo x y]
  exact Or.comm.trans (hT.iff x y hx hy)
/-- An order is a side of its sides. -/
theorem side_back (h : VoP zs) (hT : SideOf zs T) : SideOf T zs := by
  refine ⟨h, hT.len.symm, fun x y hx hy => ?_⟩
  rw [hT.len] at hx hy
  have := hT.iff x y hx hy
  constructor
  · intro e
    have hne : x ≠ y := fun e2 => by subst e2; rcases e with e | e <;> exact q_irr h e
    refine ⟨hne, fun e2 => ?_, fun e2 => ?_⟩
    · have u := side_un hT e2
      exact e.elim (fun e => u.2.1 e) (fun e => u.2.2 e)
    · have u := side_un hT e2
      exact e.elim (fun e => u.2.2 e) (fun e => u.2.1 e)
  · rintro ⟨h1, h2, h3⟩
    by_cases e1 : qB zs x y
    · exact .inl e1
    · by_cases e2 : qB zs y x
      · exact .inr e2
      · exact absurd (this.2 ⟨h1, e1, e2⟩) (by rintro (e | e); exact h2 e; exact h3 e)
theorem sdF_of (h : VoP zs) (hT : SideOf zs T) : ∃ S, sdF zs = some S := by
  cases e : sdF zs with
  | none => exact absurd hT (sdF_none h e T)
  | some S => exact ⟨S, rfl⟩
end

/-! The lines of it. -/
def pl1 (zs T : List Int) : List Int := atL (eitL zs T) 0 zs.length
end Go.Proofs.Ytipdmaggfbfnlaa

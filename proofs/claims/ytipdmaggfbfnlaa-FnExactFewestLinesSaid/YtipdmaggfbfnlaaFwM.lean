/- How few lines tell an order: one, two or three. No program. -/
import Derived.Test.YtipdmaggfbfnlaaD3F
import Derived.Test.YtipdmaggfbfnlaaGd
set_option linter.unusedVariables false
set_option linter.unusedSimpArgs false
namespace Go.Proofs.Ytipdmaggfbfnlaa

theorem one_len {zs : List Int} (h : VoP zs) : (∃ a, lineB zs a = true ∧ meL zs.length [a] = zs) ↔ (alL zs).length = 1 := by
  constructor
  · rintro ⟨a, ha, e⟩
    have hall := (one_iff h ha).1 e
    have hn := alL_nodup zs
    have hm := alL_mem zs
    have ham := (hm a).2 ha
    generalize alL zs = L at hn hm ham
    match L, hn, hm, ham with
    | [], _, _, ham => cases ham
    | [x], _, _, _ => rfl
    | x :: y :: L, hn, hm, _ =>
      have e1 := hall x ((hm x).1 List.mem_cons_self)
      have e2 := hall y ((hm y).1 (List.mem_cons_of_mem _ List.mem_cons_self))
      have := (List.nodup_cons.1 hn).1
      rw [e1, e2] at this
      exact absurd List.mem_cons_self this
  · intro hl
    have hm := alL_mem zs
    obtain ⟨a, e⟩ := List.length_eq_one_iff.1 hl
    rw [e] at hm
    have ha := (hm a).1 List.mem_cons_self
    exact ⟨a, ha, (one_iff h ha).2 fun b hb => List.mem_singleton.1 ((hm b).2 hb)⟩
/-- The fewest lines that tell a valid order. -/
def fwN (zs : List Int) : Int := if (alL zs).length = 1 then 1 else if (sdF zs).isSome then 2 else 3
theorem fw_two {zs : List Int} (h : VoP zs) : (∃ a b, a ∈ alL zs ∧ b ∈ alL zs ∧ meL zs.length [a, b] = zs) ↔ (sdF zs).isSome = true := by
  rw [← two_iff h]
  constructor
  · rintro ⟨a, b, ha, hb, e⟩; exact ⟨a, b, (alL_mem zs a).1 ha, (alL_mem zs b).1 hb, e⟩
  · rintro ⟨a, b, ha, hb, e⟩; exact ⟨a, b, (alL_mem zs a).2 ha, (alL_mem zs b).2 hb, e⟩
theorem fw_three {zs : List Int} (h : VoP zs) : ∃ a b d, a ∈ alL zs ∧ b ∈ alL zs ∧ d ∈ alL zs ∧ meL zs.length [a, b, d] = zs := by
  obtain ⟨a, b, d, ha, hb, hd, e⟩ := three_lines h
  exact ⟨a, b, d, (alL_mem zs a).2 ha, (alL_mem zs b).2 hb, (alL_mem zs d).2 hd, e⟩
end Go.Proofs.Ytipdmaggfbfnlaa

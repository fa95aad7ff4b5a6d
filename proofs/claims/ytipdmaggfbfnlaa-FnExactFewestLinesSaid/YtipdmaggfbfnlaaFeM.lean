/- FewestLines: its value, and what the model's search tells. No program but memory. -/
import Derived.Test.YtipdmaggfbfnlaaFwM
import Derived.Test.YtipdmaggfbfnlaaLoT
import Derived.Test.YtipdmaggfbfnlaaLoS
import Derived.Test.YtipdmaggfbfnlaaSaI
import Derived.Test.YtipdmaggfbfnlaaCntS
set_option linter.unusedVariables false
set_option linter.unusedSimpArgs false
namespace Go.Proofs.Ytipdmaggfbfnlaa
open Go.RowKit Go.Shelf
attribute [local go_sem] Oper.semAt_some

/-- The answer: -1 of a list that is no order, and of an order of more than sixty lines. -/
def fewLR (zs : List Int) : Int := if vo zs && decide (linesR zs ≤ 60) then fwN zs else -1
theorem two_rows {w : World} {A1 A2 : Option Addr} {c1 c2 : Nat} {t : TypeId} {r1 r2 : List Int} (h1 : Ints w w.heap.size A1 r1.length r1) (h2 : Ints w w.heap.size A2 r2.length r2) : IntsS (w.alloc (.cells #[.slice A1 r1.length c1, .slice A2 r2.length c2] t)) (w.alloc (.cells #[.slice A1 r1.length c1, .slice A2 r2.length c2] t)).heap.size (some ⟨w.heap.size, 0, none⟩) 2 [r1, r2] := by
  have hb : Below w.heap.size w (w.alloc (.cells #[.slice A1 r1.length c1, .slice A2 r2.length c2] t)) := (Below.refl _ _).alloc (Nat.le_refl _) _
  have hn := heap_alloc_new w (.cells #[.slice A1 r1.length c1, .slice A2 r2.length c2] t)
  have hz := World.size_alloc w (.cells #[.slice A1 r1.length c1, .slice A2 r2.length c2] t)
  have g1 := h1.to hb (Nat.le_refl _) hb.size
  have g2 := h2.to hb (Nat.le_refl _) hb.size
  refine ⟨rfl, fun _ => ⟨w.heap.size, 0, rfl, by omega, fun j hj => ?_⟩⟩
  rcases (by omega : j = 0 ∨ j = 1) with rfl | rfl
  · exact ⟨A1, c1, by rw [cell_of_row _ _ _ _ _ (0, 0) hn]; rfl, g1⟩
  · exact ⟨A2, c2, by rw [cell_of_row _ _ _ _ _ (0, 0) hn]; rfl, g2⟩
theorem meL_swap (n : Nat) (a b : List Int) : meL n [a, b] = meL n [b, a] := by
  unfold meL
  refine List.map_congr_left fun x _ => setP_congr n fun j _ => ?_
  unfold behB
  simp [Bool.and_comm]
theorem meL_same (n : Nat) (a : List Int) : meL n [a, a] = meL n [a] := by
  unfold meL
  refine List.map_congr_left fun x _ => setP_congr n fun j _ => ?_
  unfold behB
  simp
/-- No two of the lines tell it: three do. -/
theorem fw_none {zs : List Int} (h : VoP zs) (h1 : (alL zs).length ≠ 1) (hno : ∀ i, i < (alL zs).length → ∀ k, k < i → meL zs.length [(alL zs)[k]?.getD [], (alL zs)[i]?.getD []] ≠ zs) : fwN zs = 3 := by
  unfold fwN
  rw [if_neg h1, if_neg]
  intro hs
  obtain ⟨a, b, ha, hb, e⟩ := (fw_two h).2 hs
  obtain ⟨i, hi, rfl⟩ := List.mem_iff_getElem.1 ha
  obtain ⟨k, hk, rfl⟩ := List.mem_iff_getElem.1 hb
  have hne : i ≠ k := fun e2 => by
    subst e2
    rw [meL_same] at e
    exact h1 ((one_len h).1 ⟨_, (alL_mem zs _).1 ha, e⟩)
  rcases Nat.lt_or_gt_of_ne hne with hlt | hlt
  · exact hno k hk i hlt (by rw [List.getElem?_eq_getElem hi, List.getElem?_eq_getElem hk]; exact e)
  · exact hno i hi k hlt (by rw [List.getElem?_eq_getElem hi, List.getElem?_eq_getElem hk]; rw [meL_swap]; exact e)
theorem fw_some {zs : List Int} (h : VoP zs) (h1 : (alL zs).length ≠ 1) {i k : Nat} (hi : i < (alL zs).length) (hk : k < (alL zs).length) (e : meL zs.length [(alL zs)[k]?.getD [], (alL zs)[i]?.getD []] = zs) : fwN zs = 2 := by
  unfold fwN
  rw [if_neg h1, if_pos]
  refine (fw_two h).1 ⟨_, _, List.getElem_mem hk, List.getElem_mem hi, ?_⟩
  rw [List.getElem?_eq_getElem hi, List.getElem?_eq_getElem hk] at e
  exact e
end Go.Proofs.Ytipdmaggfbfnlaa

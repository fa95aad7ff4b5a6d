/- Numbers at the head of a block's cells: read, written. -/
import Derived.Test.YtipdmaggfbfnlaaRowV
set_option linter.unusedVariables false
set_option linter.unusedSimpArgs false
namespace Go.Proofs.Ytipdmaggfbfnlaa
open Go.RowKit

/-- The numbers d stand at the head of block b's cells. -/
def Cel (w : World) (b : Nat) (t : TypeId) (n : Nat) (d : List Int) : Prop := d.length = n ∧ ∃ cur : Array Value, w.heap[b]? = some (.cells cur t (0, 0)) ∧ cur.toList.take n = d.map (Value.int .i64)
section
variable {w w' : World} {b n : Nat} {t : TypeId} {d : List Int} {R : Nat → Prop}
theorem Cel.lt (h : Cel w b t n d) : b < w.heap.size := by
  obtain ⟨_, cur, hc, _⟩ := h
  exact (Array.getElem?_eq_some_iff.1 hc).1
theorem Cel.cell (h : Cel w b t n d) {k : Nat} (hk : k < n) : w.cell? ⟨b, k, none⟩ = some (.int .i64 (d[k]?.getD 0)) := by
  obtain ⟨hl, cur, hc, ht⟩ := h
  rw [cell_of_row w b k _ t (0, 0) hc, take_at ht hk, List.getElem?_map, List.getElem?_eq_getElem (by omega)]
  simp
theorem Cel.frozen (h : Cel w b t n d) (k : Nat) : w.frozen? ⟨b, k, none⟩ = false := by
  obtain ⟨_, cur, hc, _⟩ := h
  exact frozen_of_row _ _ k _ _ hc
theorem Cel.upd (h : Cel w b t n d) (hu : Upd R w w') (hr : ¬ R b) : Cel w' b t n d := by
  have hl := h.lt
  obtain ⟨h1, cur, hc, ht⟩ := h
  exact ⟨h1, cur, (hu.block b hl hr).trans hc, ht⟩
theorem Cel.set (h : Cel w b t n d) (k : Nat) (v : Int) : Cel (w.setCell ⟨b, k, none⟩ (.int .i64 v)) b t n (d.set k v) := by
  obtain ⟨h1, cur, hc, ht⟩ := h
  exact ⟨by simpa using h1, cur.setIfInBounds k (.int .i64 v), by simp [World.setCell, Array.getElem?_modify, hc], by rw [Array.toList_setIfInBounds, List.take_set, ht, ← List.map_set]⟩
theorem Cel.drew (h : Cel w b t n d) : Cel w.drew b t n d := h
theorem Cel.ints (h : Cel w b t n d) {B : Nat} (hB : b < B) : Ints w B (some ⟨b, 0, none⟩) n d :=
  ⟨h.1, fun _ => ⟨b, 0, rfl, hB, fun j hj => by rw [Nat.zero_add]; exact h.cell hj⟩⟩
end
end Go.Proofs.Ytipdmaggfbfnlaa

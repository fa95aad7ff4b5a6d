/- A row of numbers that a call has made: known whole. -/
import Derived.Test.YtipdmaggfbfnlaaRange
import Derived.Deep.OwnRows
namespace Go.Proofs.Ytipdmaggfbfnlaa
open Go.RowKit

/-- Block b is just the numbers zs, of element type t. -/
def Arr (w : World) (b : Nat) (t : TypeId) (zs : List Int) : Prop := w.heap[b]? = some (.cells (zs.map (Value.int .i64)).toArray t (0, 0))

section
variable {w w' : World} {b : Nat} {t : TypeId} {zs : List Int} {R : Nat → Prop}
theorem Arr.lt (h : Arr w b t zs) : b < w.heap.size := (Array.getElem?_eq_some_iff.1 h).1
theorem Arr.cell (h : Arr w b t zs) {k : Nat} (hk : k < zs.length) : w.cell? ⟨b, k, none⟩ = some (.int .i64 (zs[k]?.getD 0)) := by
  rw [cell_of_row w b k _ t (0, 0) h]
  simp [List.getElem?_eq_getElem hk]
theorem Arr.frozen (h : Arr w b t zs) (k : Nat) : w.frozen? ⟨b, k, none⟩ = false := by
  unfold Arr at h
  simp [World.frozen?, h]
theorem Arr.upd (h : Arr w b t zs) (hu : Upd R w w') (hr : ¬ R b) : Arr w' b t zs := (hu.block b h.lt hr).trans h
theorem Arr.below {B : Nat} (h : Arr w b t zs) (hu : Below B w w') (hr : b < B) : Arr w' b t zs := (hu.block b hr).trans h
theorem Arr.drewN (h : Arr w b t zs) (n : Nat) : Arr (w.drewN n) b t zs := h
theorem Arr.drew (h : Arr w b t zs) : Arr w.drew b t zs := h
theorem Arr.alloc (h : Arr w b t zs) (o : Obj) : Arr (w.alloc o) b t zs := (Below.heap_alloc w o b h.lt).trans h
theorem Arr.far (h : Arr w b t zs) {p : Addr} (hp : b ≠ p.block) (u : Value) : Arr (w.setCell p u) b t zs := (Below.heap_setCell w p u b hp).trans h
theorem Arr.set (h : Arr w b t zs) (k : Nat) (v : Int) : Arr (w.setCell ⟨b, k, none⟩ (.int .i64 v)) b t (zs.set k v) := by
  unfold Arr at h ⊢
  simp [World.setCell, Array.getElem?_modify, h, List.map_set]
theorem Arr.new (w : World) (t : TypeId) (n : Nat) : Arr (w.alloc (.cells (madeCells #[.int .i64 0] n) t)) w.heap.size t (List.replicate n 0) := by
  have h := heap_alloc_new w (.cells (madeCells #[Value.int .i64 0] n) t)
  unfold Arr
  rw [h]
  congr 2
  apply Array.ext
  · simp [madeCells]
  · intro i h1 h2
    simp [madeCells, Nat.mod_one]
theorem Arr.ints (h : Arr w b t zs) {B : Nat} (hB : b < B) : Ints w B (some ⟨b, 0, none⟩) zs.length zs :=
  ⟨rfl, fun _ => ⟨b, 0, rfl, hB, fun j hj => by rw [Nat.zero_add]; exact h.cell hj⟩⟩
theorem Arr.ints' (h : Arr w b t zs) {B n : Nat} (hB : b < B) (hn : zs.length = n) : Ints w B (some ⟨b, 0, none⟩) n zs := by
  subst hn; exact h.ints hB
end

/-- A store into the one row that may turn. -/
theorem only_setCell {a w : World} {g : Nat} (h : a.grownBy w (some g)) {p : Addr} (hp : p.block = g ∨ a.heap.size ≤ p.block) (u : Value) : a.grownBy (w.setCell p u) (some g) :=
  ⟨h.os, h.tape, h.output, by simpa [World.setCell] using h.size, fun i hi hne => (Below.heap_setCell w p u i (by
    rintro rfl
    rcases hp with hp | hp
    · exact hne (by rw [hp])
    · omega)).trans (h.block i hi hne)⟩
end Go.Proofs.Ytipdmaggfbfnlaa

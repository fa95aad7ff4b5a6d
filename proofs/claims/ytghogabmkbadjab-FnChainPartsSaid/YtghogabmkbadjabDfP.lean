/- slices.Sorted over an iterator of sets; the different sets of a list: the program's. -/
import Derived.Test.YtghogabmkbadjabDfI
set_option linter.unusedVariables false
set_option linter.unusedSimpArgs false
namespace Go.Proofs.Ytghogabmkbadjab
open Go.RowKit Go.Shelf
attribute [local go_sem] Oper.semAt_some
attribute [local go_sem, local simp] wide_fn

abbrev HoldsI (w : World) (g : Nat) (xs : List Int) : Prop := Sort.Holds (Value.int .i64) w g 0 xs.toArray
theorem holds_upd {R : Nat → Prop} {w w' : World} {g : Nat} {xs : List Int} (h : HoldsI w g xs) (hu : Upd R w w') (hr : ¬ R g) : HoldsI w' g xs := fun j hj => by
  obtain ⟨h1, h2⟩ := h j hj
  have hlt : g < w.heap.size := by
    obtain ⟨o, ho, _⟩ := cells_of_cell h1
    exact (Array.getElem?_eq_some_iff.1 ho).1
  exact ⟨hu.cell h1 hr, (hu.frozen hlt hr).trans h2⟩
theorem holds_pre {w : World} {g : Nat} {xs ys : List Int} (h : HoldsI w g (xs ++ ys)) : HoldsI w g xs := fun j hj => by
  have hj' : j < xs.length := by simpa using hj
  have := h j (by simp; omega)
  simpa [hj', List.getElem?_append_left hj', Nat.lt_add_right] using this
theorem holds_cell {w : World} {g : Nat} {xs : List Int} (h : HoldsI w g xs) {j : Nat} (hj : j < xs.length) : w.cell? ⟨g, j, none⟩ = some (.int .i64 (xs[j]?.getD 0)) ∧ w.frozen? ⟨g, j, none⟩ = false := by
  have := h j (by simpa using hj)
  rw [Nat.zero_add] at this
  refine ⟨?_, this.2⟩
  rw [this.1, List.getElem?_eq_getElem hj]
  simp [hj]
theorem cmp_len (xs : List Int) : (Lib.compact xs).length ≤ xs.length := by
  unfold Lib.compact Lib.compactUpTo
  rw [List.length_map]
  exact Nat.le_trans (List.length_filter_le _ _) (by simp)
def sortL (xs : List Int) : List Int := xs.mergeSort fun x y => decide (x ≤ y)
theorem sortL_len (xs : List Int) : (sortL xs).length = xs.length := List.length_mergeSort _
theorem difA_eq (zs : List Int) : difA zs = Lib.compact (sortL zs) := rfl

theorem lsort_any (g cap : Nat) (xs : List Int) (w : World) (hH : HoldsI w g xs) (hg : g < w.heap.size) (hs : xs.length < 4611686018427387904) :
    Calls Try.prog 95 #[.slice (some ⟨g, 0, none⟩) xs.length cap] w fun e w' => e = .returned (.tuple #[]) ∧ HoldsI w' g (sortL xs) ∧ Upd (fun k => k = g) w w' := by
  have h : Calls Try.prog 95 #[.slice (some ⟨g, 0, none⟩) xs.length cap] w _ := AnyM.slices_Sort_int Try.lsort g 0 cap xs w hH hg hs
  refine h.mono ?_
  rintro e w' ⟨rfl, n, os, rfl⟩
  have h1 : HoldsI (Sort.ahead w n) g xs := holds_upd hH (ahead_upd w n) (fun e => e)
  have h2 : HoldsI (Sort.putRow (Value.int .i64) (Sort.ahead w n) g 0 (sortL xs).toArray) g (sortL xs) := Sort.holds_putRow _ _ _ _ _ _ h1 (by simp [sortL_len])
  exact ⟨rfl, holds_upd h2 (grow_upd _ os) (fun e => e), (((ahead_upd w n).mono fun _ _ e => e.elim).trans' (putRow_upd _ g 0 _) (fun i hi e => e)).trans' (grow_upd _ os) (fun i hi e => e.elim)⟩
theorem lsort_none (cap : Nat) (p : Option Addr) (w : World) :
    Calls Try.prog 95 #[.slice p 0 cap] w fun e w' => e = .returned (.tuple #[]) ∧ w' = w := AnyM.slices_Sort_int_none Try.lsort p cap w
/-- A row that a call has made and sorted: empty ones may be nil. -/
def DifRow (W : World) (lo : Nat) (A : Option Addr) (m c : Nat) (xs : List Int) : Prop :=
  xs.length = m ∧ m ≤ c ∧ ((A = none ∧ m = 0) ∨ ∃ g, A = some ⟨g, 0, none⟩ ∧ lo ≤ g ∧ g < W.heap.size ∧ HoldsI W g xs)
theorem DifRow.upd {W W' : World} {lo m c : Nat} {A : Option Addr} {xs : List Int} {R : Nat → Prop} (h : DifRow W lo A m c xs) (hu : Upd R W W') (hr : ∀ k, lo ≤ k → k < W.heap.size → ¬ R k) : DifRow W' lo A m c xs := by
  obtain ⟨h1, h2, h3⟩ := h
  refine ⟨h1, h2, ?_⟩
  rcases h3 with h | ⟨g, e, hl, hg, hH⟩
  · exact .inl h
  · exact .inr ⟨g, e, hl, by have := hu.size; omega, holds_upd hH hu (hr g hl hg)⟩
theorem DifRow.ints {W : World} {lo m c B : Nat} {A : Option Addr} {xs : List Int} (h : DifRow W lo A m c xs) (hB : W.heap.size ≤ B) : Ints W B A m xs := by
  obtain ⟨h1, h2, h3⟩ := h
  refine ⟨h1, fun hm => ?_⟩
  rcases h3 with h | ⟨g, e, hl, hg, hH⟩
  · omega
  · exact ⟨g, 0, e, by omega, fun j hj => by rw [Nat.zero_add]; exact (holds_cell hH (by omega)).1⟩

end Go.Proofs.Ytghogabmkbadjab

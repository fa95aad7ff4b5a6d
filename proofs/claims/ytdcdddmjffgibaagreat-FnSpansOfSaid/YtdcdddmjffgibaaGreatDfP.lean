/- slices.Sorted over an iterator of sets; the different sets of a list: the program's. -/
import Derived.Test.YtdcdddmjffgibaaGreatDfI
set_option linter.unusedVariables false
set_option linter.unusedSimpArgs false
namespace Go.Proofs.YtdcdddmjffgibaaGreat
open Go.RowKit Go.Shelf
attribute [local go_sem] Oper.semAt_some
attribute [local go_sem, local simp] wide_fn

abbrev HoldsI (w : World) (g : Nat) (xs : List Int) : Prop := Sort.Holds (Value.int .i64) w g 0 xs.toArray
theorem holds_upd {R : Nat → Prop} {w w' : World} {g : Nat} {xs : List Int} (h : HoldsI w g xs) (hu : Upd R w w') (hr : ¬ R g) : HoldsI w' g xs := fun j hj => by
  obtain ⟨h1, h2⟩ := h j hj
  have hlt : g < w.heap.size := by
    obtain ⟨o, ho, _⟩ := cells_of_cell h1
    exact (Array.getElem?_eq_some_iff.1 ho).1
  exact ⟨hu.cell h1 hr, (hu.frozen hlt hr).trans h2⟩
theorem holds_pre {w : World} {g : Nat} {xs ys : List Int} (h : HoldsI w g (xs ++ ys)) : HoldsI w g xs := fun j hj => by
  have hj' : j < xs.length := by simpa using hj
  have := h j (by simp; omega)
  simpa [hj', List.getElem?_append_left hj', Nat.lt_add_right] using this
theorem holds_cell {w : World} {g : Nat} {xs : List Int} (h : HoldsI w g xs) {j : Nat} (hj : j < xs.length) : w.cell? ⟨g, j, none⟩ = some (.int .i64 (xs[j]?.getD 0)) ∧ w.frozen? ⟨g, j, none⟩ = false := by
  have := h j (by simpa using hj)
  rw [Nat.zero_add] at this
  refine ⟨?_, this.2⟩
  rw [this.1, List.getElem?_eq_getElem hj]
  simp [hj]
theorem cmp_len (xs : List Int) : (Lib.compact xs).length ≤ xs.length := by
  unfold Lib.compact Lib.compactUpTo
  rw [List.length_map]
  exact Nat.le_trans (List.length_filter_le _ _) (by simp)
def sortL (xs : List Int) : List Int := xs.mergeSort fun x y => decide (x ≤ y)
theorem sortL_len (xs : List Int) : (sortL xs).length = xs.length := List.length_mergeSort _
theorem difA_eq (zs : List Int) : difA zs = Lib.compact (sortL zs) := rfl

theorem lsort_any (g cap : Nat) (xs : List Int) (w : World) (hH : HoldsI w g xs) (hg : g < w.heap.size) (hs : xs.length < 4611686018427387904) :
    Calls Tryz.prog 73 #[.slice (some ⟨g, 0, none⟩) xs.length cap] w fun e w' => e = .returned (.tuple #[]) ∧ HoldsI w' g (sortL xs) ∧ Upd (fun k => k = g) w w' := by
  have h : Calls Tryz.prog 73 #[.slice (some ⟨g, 0, none⟩) xs.length cap] w _ := AnyM.slices_Sort_int Tryz.lsort g 0 cap xs w hH hg hs
  refine h.mono ?_
  rintro e w' ⟨rfl, n, os, rfl⟩
  have h1 : HoldsI (Sort.ahead w n) g xs := holds_upd hH (ahead_upd w n) (fun e => e)
  have h2 : HoldsI (Sort.putRow (Value.int .i64) (Sort.ahead w n) g 0 (sortL xs).toArray) g (sortL xs) := Sort.holds_putRow _ _ _ _ _ _ h1 (by simp [sortL_len])
  exact ⟨rfl, holds_upd h2 (grow_upd _ os) (fun e => e), (((ahead_upd w n).mono fun _ _ e => e.elim).trans' (putRow_upd _ g 0 _) (fun i hi e => e)).trans' (grow_upd _ os) (fun i hi e => e.elim)⟩
theorem lsort_none (cap : Nat) (p : Option Addr) (w : World) :
    Calls Tryz.prog 73 #[.slice p 0 cap] w fun e w' => e = .returned (.tuple #[]) ∧ w' = w := AnyM.slices_Sort_int_none Tryz.lsort p cap w
theorem lcompact_any (g cap : Nat) (xs : List Int) (w : World) (hH : HoldsI w g xs) (hs : xs.length ≤ 9223372036854775807) (hcap : xs.length ≤ cap) :
    Calls Tryz.prog 55 #[.slice (some ⟨g, 0, none⟩) xs.length cap] w fun e w' => e = .returned (.slice (some ⟨g, 0, none⟩) (Lib.compact xs).length cap) ∧ HoldsI w' g (Lib.compact xs) ∧ Upd (fun k => k = g) w w' := by
  have h : Calls Tryz.prog 55 #[.slice (some ⟨g, 0, none⟩) xs.length cap] w _ := AnyG.slices_Compact_int Tryz.lcompact g 0 cap xs w hH hs hcap
  refine h.mono ?_
  rintro e w' ⟨rfl, q, rfl⟩
  have hle := cmp_len xs
  have h1 : HoldsI (Sort.ahead w q) g xs := holds_upd hH (ahead_upd w q) (fun e => e)
  have h2 := Sort.holds_putRow (Value.int .i64) (Sort.ahead w q) g 0 xs.toArray (Lib.compact xs ++ List.replicate (xs.length - (Lib.compact xs).length) 0).toArray h1 (by simp; omega)
  exact ⟨rfl, holds_pre h2, ((ahead_upd w q).mono fun _ _ e => e.elim).trans' (putRow_upd _ g 0 _) (fun i hi e => e)⟩
theorem lcompact_none (cap : Nat) (p : Option Addr) (w : World) :
    Calls Tryz.prog 55 #[.slice p 0 cap] w fun e w' => e = .returned (.slice p 0 cap) ∧ w' = w := AnyG.slices_Compact_int_empty Tryz.lcompact p cap w

/-- A row that a call has made and sorted: empty ones may be nil. -/
def DifRow (W : World) (lo : Nat) (A : Option Addr) (m c : Nat) (xs : List Int) : Prop :=
  xs.length = m ∧ m ≤ c ∧ ((A = none ∧ m = 0) ∨ ∃ g, A = some ⟨g, 0, none⟩ ∧ lo ≤ g ∧ g < W.heap.size ∧ HoldsI W g xs)
theorem DifRow.upd {W W' : World} {lo m c : Nat} {A : Option Addr} {xs : List Int} {R : Nat → Prop} (h : DifRow W lo A m c xs) (hu : Upd R W W') (hr : ∀ k, lo ≤ k → k < W.heap.size → ¬ R k) : DifRow W' lo A m c xs := by
  obtain ⟨h1, h2, h3⟩ := h
  refine ⟨h1, h2, ?_⟩
  rcases h3 with h | ⟨g, e, hl, hg, hH⟩
  · exact .inl h
  · exact .inr ⟨g, e, hl, by have := hu.size; omega, holds_upd hH hu (hr g hl hg)⟩
theorem DifRow.ints {W : World} {lo m c B : Nat} {A : Option Addr} {xs : List Int} (h : DifRow W lo A m c xs) (hB : W.heap.size ≤ B) : Ints W B A m xs := by
  obtain ⟨h1, h2, h3⟩ := h
  refine ⟨h1, fun hm => ?_⟩
  rcases h3 with h | ⟨g, e, hl, hg, hH⟩
  · omega
  · exact ⟨g, 0, e, by omega, fun j hj => by rw [Nat.zero_add]; exact (holds_cell hH (by omega)).1⟩

set_option maxHeartbeats 1000000 in
theorem sorted_any {gf : Nat} (lb : Array Value) (L : List Nat) (hL : L.length ≤ 64) (w : World)
    (eg : ∀ args w, (callFunc gf args).run Tryz.prog w = .ok (.enter gf args) w)
    (hI : ∀ (W1 : World) (M' : Nat → Prop), Upd (fun _ => False) w W1 → (∀ k, M' k → w.heap.size ≤ k) → Iter Tryz.prog gf lb encS L M' W1) :
    Calls Tryz.prog 56 #[.func (.func gf) #[] lb] w fun e W' => ∃ A m c, e = .returned (.slice A m c) ∧ DifRow W' w.heap.size A m c (sortL (castL L)) ∧ Below w.heap.size w W' := by
  go_enter Tryz.func56, Tryz.ntmps56
  go_wp2_with fail
  refine (collect_any lb L hL w eg hI).mono ?_
  rintro e w1 ⟨v, rfl, hO, hB⟩
  have Hln := Lib.hid (castL_len L)
  have z1 := hB.size
  rcases hO.2.2 with ⟨rfl, e0⟩ | ⟨g, cap, cur, rfl, hg, hc, hcap, hrest⟩
  · have e1 : castL L = [] := by simpa using e0
    have E1 := Lib.hid e1
    clear e1 e0 hO
    go_wp2_with fail
    refine (lsort_none _ _ _).mono ?_
    rintro e w2 ⟨rfl, rfl⟩
    go_wp2_with fail
    go_ret
    exact ⟨none, 0, 0, rfl, by rw [E1.out]; exact ⟨sortL_len [], Nat.le_refl _, .inl ⟨rfl, rfl⟩⟩, hB⟩
  · obtain ⟨h1, h2, h3⟩ := own_cell hO.2
    have hH : HoldsI w1 g (castL L) := holds_of_cells h1 h2
    have hlt : (castL L).length < 4611686018427387904 := by rw [Hln.out]; omega
    have HS := Lib.hid (sortL_len (castL L))
    have hcp : (castL L).length ≤ cap := by simpa using hcap
    clear hO h1 h2 hrest hc
    obtain ⟨xs, hxs⟩ : ∃ xs, castL L = xs := ⟨_, rfl⟩
    have Hxs := Lib.hid hxs
    rw [hxs] at hH hlt HS hcp ⊢
    clear hxs
    go_wp2_with fail
    refine (lsort_any g cap xs w1 hH h3 hlt).mono ?_
    rintro e w2 ⟨rfl, hH2, hU⟩
    go_wp2_with fail
    go_ret
    have z2 := hU.size
    exact ⟨_, _, _, rfl, by rw [Hxs.out]; exact ⟨HS.out, hcp, .inr ⟨g, rfl, hg, by omega, hH2⟩⟩, ((Below.toUpd hB).trans' hU (fun i hi e => by omega)).toBelow (fun k e => e) (Nat.le_refl _)⟩

set_option maxHeartbeats 1000000 in
theorem odifferent_any (A : Option Addr) (n c : Nat) (zs : List Int) (w : World) (hA : Ints w w.heap.size A n zs) (hz : ∀ j, j < n → 0 ≤ zs[j]?.getD 0) (hn : n ≤ 64) (hAb : ∀ a, A = some a → a.block < w.heap.size) :
    Calls Tryz.prog 35 #[.slice A n c] w fun e W' => ∃ A' m c', e = .returned (.slice A' m c') ∧ DifRow W' w.heap.size A' m c' (difA zs) ∧ Below w.heap.size w W' := by
  have Hlen := Lib.hid hA.len
  obtain ⟨L, hL, hLl⟩ : ∃ L : List Nat, castL L = zs ∧ L.length = n := by
    refine ⟨zs.map Int.toNat, ?_, by rw [List.length_map, Hlen.out]⟩
    unfold castL
    rw [List.map_map]
    conv => rhs; rw [← List.map_id zs]
    refine List.map_congr_left fun x hx => ?_
    obtain ⟨j, hj, rfl⟩ := List.getElem_of_mem hx
    have := hz j (by rw [← Hlen.out]; exact hj)
    rw [List.getElem?_eq_getElem hj] at this
    simp at this ⊢
    omega
  have HL := Lib.hid hL
  have HLl := Lib.hid hLl
  clear hL hLl
  go_enter Tryz.func35, Tryz.ntmps35
  go_wp2_with fail
  refine (values_any _ _ _ _).mono ?_
  rintro e w1 ⟨rfl, hw1⟩
  have hB1 : Below w.heap.size w w1 := by rw [hw1]; exact (Below.refl _ _).alloc (Nat.le_refl _) _
  have hb1 : Boxed w1 w.heap.size 39 (.slice A n c) := by rw [hw1]; exact Boxed.new _ _ _
  have z1 : w1.heap.size = w.heap.size + 1 := by rw [hw1]; simp
  have Z1 := Lib.hid z1
  have hA1 : Ints w1 w.heap.size A n (castL L) := by rw [HL.out]; exact hA.below hB1
  clear hw1 z1
  go_wp2_with fail
  refine (sorted_any (gf := 74) #[.pointer (some ⟨w.heap.size, 0, none⟩)] L (by rw [HLl.out]; exact hn) w1 (enters_of Tryz.func74 (by kernel_rfl) rfl) (fun W1 M' hu hM => ?_)).mono ?_
  · have hM' : ¬ M' w.heap.size := fun e => by have := hM _ e; rw [Z1.out] at this; omega
    have hs := hu.size
    refine values_iter A n c L w.heap.size M' W1 (hu.boxed hb1 (fun e => e)) hM' ((hA1.keep (fun p hp => World.cell?_of_block (hu.block p.block (by rw [Z1.out]; omega) (fun e => e)))).more (by rw [Z1.out] at hs; omega)) (fun a ha e => ?_) (by omega)
    have h1 := hAb a ha
    have h2 := hM _ e
    rw [Z1.out] at h2
    omega
  rintro e w2 ⟨A2, m2, c2, rfl, hR, hB2⟩
  rw [HL.out] at hR
  have hB12 := hB1.trans (hB2.mono (by rw [Z1.out]; omega))
  obtain ⟨hr1, hr2, hr3⟩ := hR
  rcases hr3 with ⟨rfl, rfl⟩ | ⟨g, rfl, hg, hg2, hH⟩
  · have E1 := Lib.hid (List.eq_nil_of_length_eq_zero hr1)
    clear hr1
    go_wp2_with fail
    refine (lcompact_none _ _ _).mono ?_
    rintro e w3 ⟨rfl, rfl⟩
    go_wp2_with fail
    go_ret
    exact ⟨none, 0, _, rfl, by rw [difA_eq, E1.out]; exact ⟨Nat.le_antisymm (cmp_len []) (Nat.zero_le _), Nat.zero_le _, .inl ⟨rfl, rfl⟩⟩, hB12⟩
  · subst hr1
    have HS := Lib.hid (show (sortL zs).length ≤ 64 by rw [sortL_len, Hlen.out]; exact hn)
    have HD := Lib.hid (difA_eq zs)
    have HC := Lib.hid (cmp_len (sortL zs))
    generalize sortL zs = xs at *
    go_wp2_with fail
    refine (lcompact_any g c2 xs w2 hH (by have := HS.out; omega) hr2).mono ?_
    rintro e w3 ⟨rfl, hH3, hU3⟩
    have z3 := hU3.size
    go_wp2_with fail
    go_ret
    have hl := HC.out
    exact ⟨_, _, _, rfl, by rw [HD.out]; exact ⟨rfl, by omega, .inr ⟨g, rfl, by rw [Z1.out] at hg; omega, by omega, hH3⟩⟩, ((Below.toUpd hB12).trans' hU3 (fun i hi e => by rw [Z1.out] at hg; omega)).toBelow (fun k e => e) (Nat.le_refl _)⟩
end Go.Proofs.YtdcdddmjffgibaaGreat

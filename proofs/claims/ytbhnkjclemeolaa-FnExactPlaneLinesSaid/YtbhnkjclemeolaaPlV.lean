/- PlaneLines: the two lines where they lie, and marks on them. -/
import Derived.Test.YtbhnkjclemeolaaPlI
import Derived.Test.YtbhnkjclemeolaaPlS
import Derived.Test.YtbhnkjclemeolaaMarks
set_option linter.unusedVariables false
set_option linter.unusedSimpArgs false
namespace Go.Proofs.Ytbhnkjclemeolaa
open Go.RowKit Go.Shelf

/-- No rows, or two rows of n numbers that grew by append, told by a block behind them. -/
def Two (w : World) (lo hi : Nat) (A : Option Addr) (m n : Nat) (rs : List (List Int)) : Prop :=
  (A = none ∧ m = 0 ∧ rs = []) ∨ (m = 2 ∧ ∃ g A1 c1 A2 c2 mid r1 r2, A = some ⟨g, 0, none⟩ ∧ rs = [r1, r2] ∧ lo ≤ mid ∧ mid ≤ g ∧ g < hi ∧ w.heap[g]? = some (.cells #[.slice A1 n c1, .slice A2 n c2] 24 (0, 0)) ∧ RowV w lo mid A1 n r1 ∧ RowV w mid g A2 n r2)
section
variable {w w' : World} {lo hi m n : Nat} {A : Option Addr} {rs : List (List Int)} {R : Nat → Prop}
theorem Two.len (h : Two w lo hi A m n rs) : rs.length = m := by
  rcases h with ⟨_, rfl, rfl⟩ | ⟨rfl, g, A1, c1, A2, c2, mid, r1, r2, _, rfl, _⟩ <;> rfl
theorem Two.upd (h : Two w lo hi A m n rs) (hu : Upd R w w') (hr : ∀ j, R j → j < lo ∨ hi ≤ j) : Two w' lo hi A m n rs := by
  rcases h with h | ⟨e, g, A1, c1, A2, c2, mid, r1, r2, e1, e2, h1, h2, h3, h4, h5, h6⟩
  · exact .inl h
  · exact .inr ⟨e, g, A1, c1, A2, c2, mid, r1, r2, e1, e2, h1, h2, h3, (hu.block g (Array.getElem?_eq_some_iff.1 h4).1 (fun hr' => by have := hr g hr'; omega)).trans h4,
      h5.upd hu (fun j hj => by have := hr j hj; omega), h6.upd hu (fun j hj => by have := hr j hj; omega)⟩
theorem Two.below {B : Nat} (h : Two w lo hi A m n rs) (hu : Below B w w') (hB : hi ≤ B) : Two w' lo hi A m n rs := h.upd (Below.toUpd hu) (fun j hj => by omega)
theorem Two.ints (h : Two w lo hi A m n rs) {B : Nat} (hB : hi ≤ B) : IntsS w B A m rs := by
  rcases h with ⟨_, rfl, rfl⟩ | ⟨rfl, g, A1, c1, A2, c2, mid, r1, r2, rfl, rfl, h1, h2, h3, h4, h5, h6⟩
  · exact ⟨rfl, fun h => absurd h (by simp)⟩
  · refine ⟨rfl, fun _ => ⟨g, 0, rfl, by omega, fun j hj => ?_⟩⟩
    have e1 := h5.len
    have e2 := h6.len
    have i1 : Ints w B A1 n r1 := h5.ints (by omega)
    have i2 : Ints w B A2 n r2 := h6.ints (by omega)
    rw [Nat.zero_add, cell_of_row _ _ _ _ _ _ h4]
    rcases (show j = 0 ∨ j = 1 by omega) with rfl | rfl
    · exact ⟨A1, c1, by simp [e1], by simpa [e1] using i1⟩
    · exact ⟨A2, c2, by simp [e2], by simpa [e2] using i2⟩
end

theorem plR_bd (zs : List Int) : (plR zs).length ≤ 1048576 ∧ (∀ r ∈ plR zs, r.length ≤ 1048576) ∧ tot (plR zs) ≤ 1048576 := by
  unfold plR
  cases hok : sdOk zs
  · simp [tot]
  · unfold sdOk at hok
    rw [Bool.and_eq_true] at hok
    have hvo : VoP zs := by simpa [vo] using hok.1
    have h6 := hvo.1
    have hl : ∀ T, (pl1 zs T).length = zs.length := fun T => atL_len _ _ _
    simp only [if_true]
    refine ⟨by simp, fun r hr => ?_, by simp only [tot, hl]; omega⟩
    rcases List.mem_cons.1 hr with e | e
    · rw [e, hl]; omega
    · rw [List.mem_singleton.1 e, hl]; omega

theorem PlaneLines_two (A : Option Addr) (n c : Nat) (zs : List Int) (w : World) (h : Ints w w.heap.size A n zs) (hbig : n ≤ 1152921504606846976) :
    Calls Try.prog 24 #[.slice A n c] w fun e w' => ∃ A' m c', e = .returned (.tuple #[.slice A' m c', .bool (sdOk zs)]) ∧ Two w' w.heap.size w'.heap.size A' m n (plR zs) ∧ Below w.heap.size w w' := by
  refine (PlaneLines_any A n c zs w h hbig).mono ?_
  rintro e w' ⟨hB, (⟨hno, rfl⟩ | ⟨hyes, T, g, A1, c1, A2, c2, mid, hT, rfl, h1, h2, h3, h4, h5⟩)⟩
  · exact ⟨none, 0, 0, by rw [hno], .inl ⟨rfl, rfl, by unfold plR; rw [hno]; rfl⟩, hB⟩
  · exact ⟨_, 2, 2, by rw [hyes], .inr ⟨rfl, g, A1, c1, A2, c2, mid, _, _, rfl, by unfold plR; rw [hyes, hT]; rfl, h1, h2, (Array.getElem?_eq_some_iff.1 h3).1, h3, h4, h5⟩, hB⟩

set_option maxHeartbeats 1000000 in
theorem markTwo (A : Option Addr) (m c lo hi n : Nat) (rs : List (List Int)) (k : Int) (w : World) (h : Two w lo hi A m n rs) (hn : n ≤ 1048576) (hk0 : 0 ≤ k) (hk1 : k ≤ 1048576) :
    Calls Try.prog 17 #[.slice A m c, .int .i64 k] w fun e w' => e = .returned (.int .i64 (k + tot rs)) ∧ Two w' lo hi A m n (countedR k rs) ∧ Upd (fun j => lo ≤ j ∧ j < hi) w w' := by
  rcases h with ⟨rfl, rfl, rfl⟩ | ⟨rfl, g, A1, c1, A2, c2, mid, r1, r2, rfl, rfl, h1, h2, h3, h4, h5, h6⟩
  · go_enter Try.func17, Try.ntmps17
    go_wp2
    go_loop [1, 5] (fun v i => i = .int .i64 0 ∧ v = .int .i64 k) (fun _ _ => 0)
    case atStart => exact ⟨rfl, rfl⟩
    case round =>
      obtain ⟨rfl, rfl⟩ := hrel
      go_wp2
      go_ret
      exact ⟨ret_int (by simp [tot]), .inl ⟨rfl, rfl, rfl⟩, Upd.refl _ _⟩
  · have L1 := Lib.hid h5.len
    have L2 := Lib.hid h6.len
    have Ht := Lib.hid (show ((tot [r1, r2] : Nat) : Int) = (n : Int) + n by simp only [tot, L1.out, L2.out]; omega)
    have Hc := Lib.hid (show countedR k [r1, r2] = [counted k n, counted (k + n) n] by simp only [countedR, L1.out, L2.out])
    go_enter Try.func17, Try.ntmps17
    go_wp2
    go_loopw [1, 5] (fun v i wr => ∃ (j : Nat) (x : Int), v = .int .i64 x ∧ i = .int .i64 j ∧ wr.heap[g]? = some (.cells #[.slice A1 n c1, .slice A2 n c2] 24 (0, 0)) ∧ Upd (fun j => lo ≤ j ∧ j < hi) w wr ∧
      ((j = 0 ∧ x = k ∧ RowV wr lo mid A1 n r1 ∧ RowV wr mid g A2 n r2) ∨ (j = 1 ∧ x = k + n ∧ RowV wr lo mid A1 n (counted k n) ∧ RowV wr mid g A2 n r2) ∨ (j = 2 ∧ x = k + n + n ∧ RowV wr lo mid A1 n (counted k n) ∧ RowV wr mid g A2 n (counted (k + n) n)))) (fun _ i _ => 2 - (intOf i).toNat)
    case atStart => exact ⟨0, k, rfl, rfl, h4, Upd.refl _ _, .inl ⟨rfl, rfl, h5, h6⟩⟩
    case round =>
      clear h4 h5 h6
      obtain ⟨j, x, rfl, rfl, hG, hU, (⟨rfl, rfl, q1, q2⟩ | ⟨rfl, hx, q1, q2⟩ | ⟨rfl, hx, q1, q2⟩)⟩ := hrel
      · rename World => wr
        have hcell : wr.cell? ⟨g, 0, none⟩ = some (.slice A1 n c1) := (cell_of_row _ _ _ _ _ _ hG).trans rfl
        go_wp2_with fail
        refine (markIntS_rowV A1 n c1 lo mid r1 x wr q1 (by omega) (by omega) (by omega)).mono ?_
        rintro e w1 ⟨rfl, s1, hu⟩
        go_wp2
        go_roundw
        case rel => exact ⟨1, x + n, by go_num, by go_num, (hu.block g (Array.getElem?_eq_some_iff.1 hG).1 (by omega)).trans hG, hU.trans (hu.mono fun _ _ e => ⟨by omega, by omega⟩), .inr (.inl ⟨rfl, rfl, s1, q2.upd hu (fun j hj => by omega)⟩)⟩
        case measure => simp [intOf]
      · rename World => wr
        have hcell : wr.cell? ⟨g, 1, none⟩ = some (.slice A2 n c2) := (cell_of_row _ _ _ _ _ _ hG).trans rfl
        have hx0 : 0 ≤ x := by omega
        have hx1 : x ≤ 2097152 := by omega
        have Hx := Lib.hid hx
        clear hx
        go_wp2_with fail
        refine (markIntS_rowV A2 n c2 mid g r2 x wr q2 (by omega) (by omega) (by omega)).mono ?_
        rintro e w1 ⟨rfl, s2, hu⟩
        rw [Hx.out] at s2
        go_wp2
        go_roundw
        case rel => exact ⟨2, x + n, by go_num, by go_num, (hu.block g (Array.getElem?_eq_some_iff.1 hG).1 (by omega)).trans hG, hU.trans (hu.mono fun _ _ e => ⟨by omega, by omega⟩), .inr (.inr ⟨rfl, by rw [Hx.out], q1.upd hu (fun j hj => by omega), s2⟩)⟩
        case measure => simp [intOf]
      · have Hx := Lib.hid hx
        clear hx
        go_wp2
        go_ret
        exact ⟨ret_int (by rw [Ht.out, Hx.out]; omega), by rw [Hc.out]; exact .inr ⟨rfl, g, A1, c1, A2, c2, mid, _, _, rfl, rfl, h1, h2, h3, hG, q1, q2⟩, hU⟩
end Go.Proofs.Ytbhnkjclemeolaa

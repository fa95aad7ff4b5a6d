/- CountLines: the program's. -/
import Derived.Test.YtipdmaggfbfnlaaLCnt
set_option linter.unusedVariables false
set_option linter.unusedSimpArgs false
namespace Go.Proofs.Ytipdmaggfbfnlaa
open Go.RowKit Go.Shelf

theorem ocountLines_any (A : Option Addr) (n c : Nat) (zs : List Int) (hvo : VoP zs) (w : World) (hA : Ints w w.heap.size A n zs) :
    Calls Try.prog 79 #[.slice A n c] w fun e w' => e = .returned (.int .i64 (cF zs (2 ^ n - 1))) ∧ Below w.heap.size w w' := by
  have hlen := Lib.hid hA.len
  have hn6 : n ≤ 6 := by have := hvo.1; rw [hlen.out] at this; exact this
  have hp64 := pow_le64 hn6
  have hpp := Nat.two_pow_pos n
  have Hall := Lib.hid (show powI n - 1 = ((2 ^ n - 1 : Nat) : Int) by
    have : powI (n : Int) = ((2 ^ n : Nat) : Int) := by simp [powI]
    omega)
  have hwr := writes_le (show 2 ^ n - 1 < 64 by omega)
  go_enter Try.func79, Try.ntmps79
  go_wp2_with fail
  refine (lineup_any A n c zs hvo.sets w hA).mono ?_
  rintro e w1 ⟨b, m, rfl, hAr, hm, hb1, hm1, hbm, hB1⟩
  go_wp2_with fail
  refine (oall_any _ _ _ _ hn6).mono ?_
  rintro e w' ⟨rfl, rfl⟩
  rw [Hall.out]
  go_wp2_with fail
  refine (lcount_any zs hvo n hlen.out b m hbm _ (2 ^ n - 1) 0 w1 (Nat.le_refl _) (by omega) hAr (MapOk.new hm) (by omega)).mono ?_
  rintro e w2 ⟨rfl, -, hU⟩
  go_wp2_with fail
  go_ret
  exact ⟨rfl, hB1.trans (hU.toBelow (fun i e => by omega) hB1.size)⟩

theorem CountLines_any (A : Option Addr) (n c : Nat) (zs : List Int) (w : World) (h : Ints w w.heap.size A n zs) (hbig : n ≤ 1152921504606846976) :
    Calls Try.prog 34 #[.slice A n c] w fun e w' => e = .returned (.int .i64 (linesR zs)) ∧ Below w.heap.size w w' := by
  have hlen := Lib.hid h.len
  cases hv : vo zs
  · have Ht := Lib.hid (show linesR zs = -1 by unfold linesR; rw [hv]; rfl)
    have Hv := Lib.hid hv
    clear hv
    go_enter Try.func34, Try.ntmps34
    go_wp2_with fail
    refine (readOrder_any _ _ _ zs _ h hbig).mono ?_
    rintro e w' ⟨hB, (⟨hv, b, rfl, _, _⟩ | ⟨_, rfl⟩)⟩
    · rw [Hv.out] at hv; cases hv
    · go_wp2_with fail
      go_ret
      exact ⟨ret_int Ht.out.symm, hB⟩
  · have hvo : VoP zs := by simpa [vo] using hv
    have Hv := Lib.hid hv
    clear hv
    have Ht := Lib.hid (show linesR zs = (cF zs (2 ^ n - 1) : Int) by unfold linesR; rw [Hv.out, if_pos rfl, count_both hvo, hlen.out])
    go_enter Try.func34, Try.ntmps34
    go_wp2_with fail
    refine (readOrder_any _ _ _ zs _ h hbig).mono ?_
    rintro e w' ⟨hB, (⟨_, b, rfl, hb, hAr⟩ | ⟨hv, _⟩)⟩
    · go_wp2_with (go_at_call 79; refine (ocountLines_any _ _ _ zs hvo _ (hAr.ints' hAr.lt hlen.out)).mono ?_; rintro e w2 ⟨rfl, hB2⟩)
      go_ret
      exact ⟨ret_int Ht.out.symm, hB.trans (hB2.mono hB.size)⟩
    · rw [Hv.out] at hv; cases hv
end Go.Proofs.Ytipdmaggfbfnlaa

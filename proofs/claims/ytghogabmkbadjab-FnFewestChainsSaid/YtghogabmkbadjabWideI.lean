/- WidestApart: the program's. -/
import Derived.Test.YtghogabmkbadjabWide
set_option linter.unusedVariables false
set_option linter.unusedSimpArgs false
namespace Go.Proofs.Ytghogabmkbadjab
open Go.RowKit

theorem WidestApart_any (A : Option Addr) (n c : Nat) (zs : List Int) (w : World) (h : Ints w w.heap.size A n zs) (hbig : n ≤ 1152921504606846976) :
    Calls Try.prog 34 #[.slice A n c] w fun e w' => e = .returned (.int .i64 (wideR zs)) ∧ Below w.heap.size w w' := by
  have hlen := Lib.hid h.len
  cases hv : vo zs
  · have Ht := Lib.hid (show wideR zs = -1 by unfold wideR; rw [hv]; rfl)
    have Hv := Lib.hid hv
    clear hv
    go_enter Try.func34, Try.ntmps34
    go_wp2_with fail
    refine (readOrder_any _ _ _ zs _ h hbig).mono ?_
    rintro e w' ⟨hB, (⟨hv, b, rfl, _, _⟩ | ⟨_, rfl⟩)⟩
    · rw [Hv.out] at hv; cases hv
    · go_wp2_with fail
      go_ret
      exact ⟨ret_int Ht.out.symm, hB⟩
  · have hvo : VoP zs := by simpa [vo] using hv
    have Hv := Lib.hid hv
    clear hv
    have hn6 : n ≤ 6 := by have := hvo.1; rw [hlen.out] at this; exact this
    have Ht := Lib.hid (show wideR zs = grTo (apB zs) (2 ^ n) by unfold wideR; rw [Hv.out]; simp [setsN, hlen.out])
    go_enter Try.func34, Try.ntmps34
    go_wp2_with fail
    refine (readOrder_any _ _ _ zs _ h hbig).mono ?_
    rintro e w' ⟨hB, (⟨_, b, rfl, hb, hAr⟩ | ⟨hv, _⟩)⟩
    · go_wp2_with (go_at_call 79; refine (greatestOf_any 93 enters_apart _ _ _ zs (apB zs) hn6 _ (hAr.ints' hAr.lt hlen.out) (tests_apart _ _ _ zs hvo)).mono ?_; rintro e w2 ⟨rfl, hB2⟩)
      go_ret
      exact ⟨ret_int Ht.out.symm, hB.trans (hB2.mono hB.size)⟩
    · rw [Hv.out] at hv; cases hv
end Go.Proofs.Ytghogabmkbadjab

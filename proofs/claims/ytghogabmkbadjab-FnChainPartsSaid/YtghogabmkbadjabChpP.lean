/- ChainParts: the program's, whole. -/
import Derived.Test.YtghogabmkbadjabLkP
import Derived.Test.YtghogabmkbadjabChpS
set_option linter.unusedVariables false
set_option linter.unusedSimpArgs false
namespace Go.Proofs.Ytghogabmkbadjab
open Go.RowKit Go.Shelf

theorem ChainPartsF_any (A : Option Addr) (n c : Nat) (zs : List Int) (w : World) (h : Ints w w.heap.size A n zs) (hbig : n ≤ 1152921504606846976) :
    Calls Try.prog 35 #[.slice A n c] w (GivesRow w (chR zs)) := by
  have hlen := Lib.hid h.len
  cases hv : vo zs
  · have Ht := Lib.hid (show chR zs = [] by unfold chR; rw [hv]; rfl)
    have Hv := Lib.hid hv
    clear hv
    go_enter Try.func35, Try.ntmps35
    go_wp2_with fail
    refine (readOrder_any _ _ _ zs _ h hbig).mono ?_
    rintro e w' ⟨hB, (⟨hv, b, rfl, _, _⟩ | ⟨_, rfl⟩)⟩
    · rw [Hv.out] at hv; cases hv
    · go_wp2_with fail
      go_ret
      exact ⟨_, _, _, rfl, by rw [Ht.out]; exact Row.nil _ _ _ _, hB⟩
  · have hvo : VoP zs := by simpa [vo] using hv
    refine (ChainParts_any A n c zs hvo w h).mono ?_
    rintro e w' ⟨b, m, rfl, hm, hb, hA, hB⟩
    exact ⟨_, _, _, rfl, by unfold chR; rw [hv, if_pos rfl]; exact Row.of hA hm hb hA.lt, hB⟩
end Go.Proofs.Ytghogabmkbadjab

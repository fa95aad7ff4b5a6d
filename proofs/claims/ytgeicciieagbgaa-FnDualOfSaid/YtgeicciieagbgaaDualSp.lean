/- DualOf of the model. -/
import Derived.Test.YtgeicciieagbgaaDual
namespace Go.Proofs.Ytgeicciieagbgaa
open Go.RowKit Go.Shelf
attribute [local go_sem] Oper.semAt_some
attribute [local go_sem, local simp] wide_fn
theorem specDualOf_any (A : Option Addr) (n c : Nat) (zs : List Int) (w : World) (h : Ints w w.heap.size A n zs) (hbig : n ≤ 1152921504606846976) :
    Calls Try.prog 18 #[.slice A n c] w (GivesRow w (dualR zs)) := by
  have hlen := Lib.hid h.len
  cases hv : vo zs
  · have Ht := Lib.hid (show dualR zs = [] by unfold dualR; rw [hv]; rfl)
    go_enter Try.func18, Try.ntmps18
    go_wp2_with (go_at_call 68; refine (validOrder_any _ _ _ _ zs _ h hbig).mono ?_; rintro e w' ⟨rfl, m, rfl⟩)
    go_ret
    exact ⟨none, 0, 0, rfl, by rw [Ht.out]; exact Row.nil _ _ _ _, below_drewN (Below.refl _ _) _⟩
  · have hvo : VoP zs := by simpa [vo] using hv
    have hn6 : n ≤ 6 := by have := hvo.1; rw [hlen.out] at this; exact this
    have Ht := Lib.hid (show dualR zs = downP n (pairsL zs) by unfold dualR; rw [hv, hlen.out]; rfl)
    go_enter Try.func18, Try.ntmps18
    go_wp2_with fail
    refine (validOrder_any _ _ _ _ zs _ h hbig).mono ?_
    rintro e w1 ⟨rfl, m, hm⟩
    have hB : Below w.heap.size w w1 := by rw [hm]; exact below_drewN (Below.refl _ _) _
    have hI := h.below hB
    have hz1 := hB.size
    clear hm
    go_wp2_with fail
    refine (downOf_any _ _ _ zs _ (hI.more (by omega)) hvo.sets).mono ?_
    rintro e w2 ⟨rfl, hAr, hB2⟩
    go_wp2_with fail
    go_ret
    exact ⟨_, n, n, rfl, by rw [Ht.out]; exact Row.of hAr (downP_len _ _) (by omega) hAr.lt, hB.trans (hB2.mono (by omega))⟩
end Go.Proofs.Ytgeicciieagbgaa

/- LongestChain: the model's. -/
import Derived.Test.YtgeicciieagbgaaWide
namespace Go.Proofs.Ytgeicciieagbgaa
open Go.RowKit

theorem specLongestChainF_any (A : Option Addr) (n c : Nat) (zs : List Int) (w : World) (h : Ints w w.heap.size A n zs) (hbig : n ≤ 1152921504606846976) :
    Calls Try.prog 45 #[.slice A n c] w fun e w' => e = .returned (.int .i64 (longR zs)) ∧ Below w.heap.size w w' := by
  have hlen := Lib.hid h.len
  cases hv : vo zs
  · have Ht := Lib.hid (show longR zs = -1 by unfold longR; rw [hv]; rfl)
    go_enter Try.func45, Try.ntmps45
    go_wp2_with (go_at_call 68; refine (validOrder_any _ _ _ _ zs _ h hbig).mono ?_; rintro e w' ⟨rfl, m, rfl⟩)
    go_ret
    exact ⟨ret_int Ht.out.symm, below_drewN (Below.refl _ _) m⟩
  · have hvo : VoP zs := by simpa [vo] using hv
    have Ht := Lib.hid (show longR zs = longI zs by unfold longR; rw [hv]; rfl)
    go_enter Try.func45, Try.ntmps45
    go_wp2_with (first
      | (go_at_call 68; refine (validOrder_any _ _ _ _ zs _ h hbig).mono ?_; rintro e w' ⟨rfl, m, rfl⟩)
      | (go_at_call 94; refine (longest_any _ _ _ zs _ (h.drewN m) hvo).mono ?_; rintro e w' ⟨rfl, hB⟩))
    go_ret
    exact ⟨ret_int Ht.out.symm, (below_drewN (Below.refl _ _) m).trans hB⟩
end Go.Proofs.Ytgeicciieagbgaa

/- TopsOf: the model's. -/
import Derived.Test.YtidggolnhagfdaaGb
namespace Go.Proofs.Ytidggolnhagfdaa
open Go.RowKit Go.Shelf
attribute [local go_sem] Oper.semAt_some
attribute [local go_sem, local simp] wide_fn

theorem specTopsOf_any (A : Option Addr) (n c B : Nat) (zs : List Int) (s : Int) (w : World) (h : Ints w B A n zs) (hbig : n ≤ 1152921504606846976) :
    Calls Try.prog 28 #[.slice A n c, .int .i64 s] w fun e w' => e = .returned (.int .i64 (topsR zs s)) ∧ ∃ m, w' = w.drewN m := by
  have hlen := Lib.hid h.len
  cases hq : (vo zs && inB s 0 (powI n - 1))
  · have Ht := Lib.hid (show topsR zs s = -1 by unfold topsR; rw [hlen.out, hq]; rfl)
    go_enter Try.func28, Try.ntmps28
    go_wp2_with (go_at_call 41; refine (validSet_any _ _ _ _ zs s _ h hbig).mono ?_; rintro e w' ⟨rfl, m, rfl⟩)
    go_ret
    exact ⟨ret_int Ht.out.symm, m, rfl⟩
  · have Ht := Lib.hid (show topsR zs s = topsTo zs s n by unfold topsR; rw [hlen.out, hq]; rfl)
    have hv : VoP zs := by simp [vo] at hq; exact hq.1
    have hn6 : n ≤ 6 := by have := hv.1; rw [hlen.out] at this; exact this
    have hpk : powI n ≤ 64 := powI_le6 (by omega)
    have hs : 0 ≤ s ∧ s < 64 := by simp [inB] at hq; omega
    have Hq := Lib.hid hq
    clear hq
    go_enter Try.func28, Try.ntmps28
    go_wp2_with fail
    refine (validSet_any _ _ _ _ zs s _ h hbig).mono ?_
    rintro e w' ⟨rfl, m, rfl⟩
    rw [Hq.out]
    go_wp2_with (go_at_call 53; refine (specTops_any _ _ _ _ zs s _ (h.drewN m) hv.sets hs.1 hs.2).mono ?_; rintro e w' ⟨rfl, rfl⟩)
    go_ret
    exact ⟨ret_int Ht.out.symm, m, rfl⟩
end Go.Proofs.Ytidggolnhagfdaa

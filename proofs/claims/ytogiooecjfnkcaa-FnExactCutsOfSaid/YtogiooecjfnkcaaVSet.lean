/- The model's test of sets. -/
import Derived.Test.YtogiooecjfnkcaaHelp
import Derived.Test.YtogiooecjfnkcaaValid
namespace Go.Proofs.Ytogiooecjfnkcaa
open Go.RowKit Go.Shelf
attribute [local go_sem] Oper.semAt_some
attribute [local go_sem, local simp] wide_fn
theorem validSet_any (A : Option Addr) (n c B : Nat) (zs : List Int) (s : Int) (w : World) (h : Ints w B A n zs) (hbig : n ≤ 1152921504606846976) :
    Calls Try.prog 35 #[.slice A n c, .int .i64 s] w fun e w' => e = .returned (.bool (vo zs && inB s 0 (powI n - 1))) ∧ ∃ m, w' = w.drewN m := by
  have hlen := Lib.hid h.len
  cases hv : vo zs
  · go_enter Try.func35, Try.ntmps35
    go_wp2_with (go_at_call 31; refine (validOrder_any _ _ _ _ zs _ h hbig).mono ?_; rintro e w' ⟨rfl, m, rfl⟩)
    go_ret
    exact ⟨rfl, m, rfl⟩
  · have hn6 : n ≤ 6 := by
      have : VoP zs := by simpa [vo] using hv
      have := this.1; rw [hlen.out] at this; exact this
    have hpk : powI n ≤ 64 := powI_le6 (by omega)
    have hpp := powI_pos n
    go_enter Try.func35, Try.ntmps35
    go_wp2_with (first
      | (go_at_call 31; refine (validOrder_any _ _ _ _ zs _ h hbig).mono ?_; rintro e w' ⟨rfl, m, rfl⟩)
      | (go_at_call 41; refine (power_any _ _ (by omega) (by omega)).mono ?_; rintro e w' ⟨rfl, rfl⟩)
      | (go_at_call 53; refine (inRange_any _ _ _ _).mono ?_; rintro e w' ⟨rfl, rfl⟩))
    go_ret
    exact ⟨rfl, m, rfl⟩
end Go.Proofs.Ytogiooecjfnkcaa

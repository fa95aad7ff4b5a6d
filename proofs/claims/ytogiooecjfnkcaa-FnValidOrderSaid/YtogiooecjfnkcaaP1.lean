/- ValidOrder: both contracts, and the exact law's walk. -/
import Derived.Test.YtogiooecjfnkcaaGa
import Derived.Test.YtogiooecjfnkcaaVOrd
namespace Go.Proofs.Ytogiooecjfnkcaa
open Go.RowKit

theorem specValidOrder_any (A : Option Addr) (n c B : Nat) (zs : List Int) (w : World) (h : Ints w B A n zs) (hbig : n ≤ 1152921504606846976) :
    Calls Try.prog 21 #[.slice A n c] w fun e w' => e = .returned (.bool (vo zs)) ∧ ∃ m, w' = w.drewN m := by
  go_enter Try.func21, Try.ntmps21
  go_wp2_with (go_at_call 31; refine (validOrder_any _ _ _ _ zs _ h hbig).mono ?_; rintro e w' ⟨rfl, m, rfl⟩)
  go_ret
  exact ⟨rfl, m, rfl⟩
end Go.Proofs.Ytogiooecjfnkcaa

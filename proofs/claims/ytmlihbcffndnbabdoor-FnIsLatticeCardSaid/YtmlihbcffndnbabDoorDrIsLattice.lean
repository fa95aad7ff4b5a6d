/- The arguments of IsLattice, drawn. -/
import Derived.Test.YtmlihbcffndnbabDoorGxd
set_option linter.unusedVariables false
set_option linter.unusedSimpArgs false
namespace Go.Proofs.YtmlihbcffndnbabDoor
open Go.RowKit Go.Shelf

theorem drawIsLattice_any (A : Option Addr) (m c : Nat) (bs : List Int) (w : World) (h : Byts w w.heap.size A m bs) (hcap : m ≤ c) (hbig : m ≤ 1152921504606846976) :
    Calls Tryd.prog 25 #[.slice A m c] w (Drawn w) := by
  go_enter Tryd.func25, Tryd.ntmps25
  go_wp2_with fail
  refine (newReader_rd h hcap hbig).mono ?_
  rintro e w0 ⟨rfl, hR, hB, hz⟩
  go_wp2_with fail
  refine (someOrder_any _ 0 w0 hR (by omega)).mono ?_
  rintro e w1 ⟨A', n, c', zs, q, rfl, hn, r, -, -, hU⟩
  go_wp2
  go_ret
  exact ⟨A', n, c', zs, rfl, hn, r.ints (Nat.le_refl _), hB.trans (hU.toBelow (fun k e => by omega) (by omega))⟩
end Go.Proofs.YtmlihbcffndnbabDoor

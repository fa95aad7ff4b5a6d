/- The arguments of MeetOf, drawn. -/
import Derived.Test.YtmlihbcffndnbabDoorDrFirstChance
set_option linter.unusedVariables false
set_option linter.unusedSimpArgs false
namespace Go.Proofs.YtmlihbcffndnbabDoor
open Go.RowKit Go.Shelf

set_option maxHeartbeats 2000000 in
theorem drawMeetOf_any (A : Option Addr) (m c : Nat) (bs : List Int) (w : World) (h : Byts w w.heap.size A m bs) (hcap : m ≤ c) (hbig : m ≤ 1152921504606846976) :
    Calls Tryd.prog 24 #[.slice A m c] w fun e w' => ∃ A n c zs a b, e = .returned (.tuple #[.slice A n c, .int .i64 a, .int .i64 b]) ∧ n ≤ 7 ∧ Ints w' w'.heap.size A n zs ∧ Below w.heap.size w w' := by
  go_enter Tryd.func24, Tryd.ntmps24
  go_wp2_with fail
  refine (newReader_rd h hcap hbig).mono ?_
  rintro e w0 ⟨rfl, hR, hB, hz⟩
  go_wp2_with fail
  refine (someOrder_any _ 0 w0 hR (by omega)).mono ?_
  rintro e w1 ⟨A', n, c', zs, q, rfl, hn, r, hq, hR1, hU⟩
  have zU := hU.size
  have hB1 := hB.trans (hU.toBelow (fun k e => by omega) (by omega))
  clear hR hB hU
  go_wp2_with fail
  refine (anItem_any _ _ n w1 hR1 (by omega) hn).mono ?_
  rintro e w2 ⟨a, rfl, hR2, hU2⟩
  go_wp2_with fail
  refine (anItem_any _ _ n w2 hR2 (by omega) hn).mono ?_
  rintro e w3 ⟨b, rfl, hR3, hU3⟩
  have hUU := hU2.trans hU3
  have z3 := hUU.size
  have r3 := r.upd hUU (fun j e => by omega)
  have hB3 := hB1.trans (hUU.toBelow (fun k e => by omega) (by omega))
  go_wp2_with fail
  go_ret3
  exact ⟨A', n, c', zs, a, b, rfl, hn, r3.ints z3, hB3⟩
end Go.Proofs.YtmlihbcffndnbabDoor

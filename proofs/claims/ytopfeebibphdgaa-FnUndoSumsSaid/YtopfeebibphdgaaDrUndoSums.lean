/- The arguments of UndoSums, drawn. -/
import Derived.Test.YtopfeebibphdgaaVals
namespace Go.Proofs.Ytopfeebibphdgaa
open Go.RowKit Go.Shelf

set_option maxHeartbeats 1000000 in
theorem drawUndoSums_any (A : Option Addr) (m c : Nat) (bs : List Int) (w : World) (h : Byts w w.heap.size A m bs) (hcap : m ≤ c) (hbig : m ≤ 1152921504606846976) :
    Calls Try.prog 35 #[.slice A m c] w fun e w' => ∃ A n c zs A2 n2 c2 ls, e = .returned (.tuple #[.slice A n c, .slice A2 n2 c2]) ∧ n ≤ 7 ∧ n2 ≤ 8 ∧ Ints w' w'.heap.size A n zs ∧ Ints w' w'.heap.size A2 n2 ls ∧ Below w.heap.size w w' := by
  go_enter Try.func35, Try.ntmps35
  go_wp2_with fail
  refine (newReader_rd h hcap hbig).mono ?_
  rintro e w0 ⟨rfl, hR, hB, hz⟩
  go_wp2_with fail
  refine (someOrder_any _ 0 w0 hR (by omega)).mono ?_
  rintro e w1 ⟨A', n, c', zs, q, rfl, hn, r, hq, hR1, hU⟩
  have zU := hU.size
  have hB1 := hB.trans (hU.toBelow (fun k e => by omega) (by omega))
  clear hR hB hU
  go_wp2_with fail
  refine (someValues_any _ _ n w1 hR1 (by omega) hn).mono ?_
  rintro e w2 ⟨A2, n2, c2, ls, rfl, hn2, hV, hU2⟩
  have z2 := hU2.size
  have r2 := r.upd hU2 (fun j e => by omega)
  have hB2 := hB1.trans (hU2.toBelow (fun k e => by omega) (by omega))
  go_wp2_with fail
  go_ret2
  exact ⟨A', n, c', zs, A2, n2, c2, ls, rfl, hn, hn2, r2.ints z2, hV.ints (Nat.le_refl _), hB2⟩
end Go.Proofs.Ytopfeebibphdgaa

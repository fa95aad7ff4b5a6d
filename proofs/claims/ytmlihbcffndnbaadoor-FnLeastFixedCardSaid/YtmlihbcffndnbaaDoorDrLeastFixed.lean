/- The arguments of LeastFixed, drawn. -/
import Derived.Test.YtmlihbcffndnbaaDoorAMap
import Derived.Test.YtmlihbcffndnbaaDoorALat
set_option linter.unusedVariables false
set_option linter.unusedSimpArgs false
namespace Go.Proofs.YtmlihbcffndnbaaDoor
open Go.RowKit Go.Shelf

/-- Two lists that are drawn read as numbers, few of them, as many each. -/
def Drawn2L (w : World) (e : Ending) (w' : World) : Prop := ∃ A n c zs F cf fs, e = .returned (.tuple #[.slice A n c, .slice F n cf]) ∧ n ≤ 7 ∧ Ints w' w'.heap.size A n zs ∧ Ints w' w'.heap.size F n fs ∧ Below w.heap.size w w'
set_option maxRecDepth 100000 in
set_option maxHeartbeats 2000000 in
theorem drawLeastFixed_any (A : Option Addr) (m c : Nat) (bs : List Int) (w : World) (h : Byts w w.heap.size A m bs) (hcap : m ≤ c) (hbig : m ≤ 1152921504606846976) :
    Calls Tryd.prog 16 #[.slice A m c] w (Drawn2L w) := by
  go_enter Tryd.func16, Tryd.ntmps16
  go_wp2_with fail
  refine (newReader_rd h hcap hbig).mono ?_
  rintro e w0 ⟨rfl, hR, hB, hz⟩
  obtain ⟨R, hRe⟩ : ∃ R, w.heap.size = R := ⟨_, rfl⟩
  rw [hRe] at hR hz hB ⊢
  have hRl := hR.lt
  go_wp2_with fail
  refine (aLattice_any R 0 w0 hR (by omega)).mono ?_
  rintro e w1 ⟨A1, n1, c1, zs, q1, rfl, hn1, r1, hq1, hR1, hU1⟩
  have z1 := hU1.size
  have hB1 := hB.trans (hU1.toBelow (fun k e => by omega) (by omega))
  clear hR hB hU1
  go_wp2_with fail
  refine (aMap_any R _ A1 n1 c1 _ zs A1 n1 c1 _ zs w1 hR1 (by omega) r1 r1 (by omega) (by omega) hn1 hn1).mono ?_
  rintro e w3 ⟨A3, c3, fs, q3, rfl, r3, hq3, hR3, hU3⟩
  have z3 := hU3.size
  have r13 := r1.upd hU3 (fun j e => by omega)
  go_wp2
  go_ret2
  exact ⟨A1, n1, c1, zs, A3, c3, fs, rfl, hn1, r13.ints (by omega), r3.ints (Nat.le_refl _), by rw [hRe]; exact hB1.trans (hU3.toBelow (fun k e => by omega) (by omega))⟩
end Go.Proofs.YtmlihbcffndnbaaDoor

/- The arguments of IsRising, drawn. -/
import Derived.Test.YtmlihbcffndnbaaAMap
set_option linter.unusedVariables false
set_option linter.unusedSimpArgs false
namespace Go.Proofs.Ytmlihbcffndnbaa
open Go.RowKit Go.Shelf

/-- Three lists that are drawn read as numbers, few of them; the third has as many as the first. -/
def Drawn3 (w : World) (e : Ending) (w' : World) : Prop := ∃ A n c zs A' m c' ys F cf fs, e = .returned (.tuple #[.slice A n c, .slice A' m c', .slice F n cf]) ∧ n ≤ 7 ∧ m ≤ 7 ∧ Ints w' w'.heap.size A n zs ∧ Ints w' w'.heap.size A' m ys ∧ Ints w' w'.heap.size F n fs ∧ Below w.heap.size w w'
set_option maxRecDepth 100000 in
set_option maxHeartbeats 2000000 in
theorem drawIsRising_any (A : Option Addr) (m c : Nat) (bs : List Int) (w : World) (h : Byts w w.heap.size A m bs) (hcap : m ≤ c) (hbig : m ≤ 1152921504606846976) :
    Calls Try.prog 26 #[.slice A m c] w (Drawn3 w) := by
  go_enter Try.func26, Try.ntmps26
  go_wp2_with fail
  refine (newReader_rd h hcap hbig).mono ?_
  rintro e w0 ⟨rfl, hR, hB, hz⟩
  obtain ⟨R, hRe⟩ : ∃ R, w.heap.size = R := ⟨_, rfl⟩
  rw [hRe] at hR hz hB ⊢
  have hRl := hR.lt
  go_wp2_with fail
  refine (someOrderM_any R 0 5 (by omega) w0 hR (by omega)).mono ?_
  rintro e w1 ⟨A1, n1, c1, zs, q1, rfl, hn1, r1, hq1, hR1, hU1⟩
  have z1 := hU1.size
  have hB1 := hB.trans (hU1.toBelow (fun k e => by omega) (by omega))
  clear hR hB hU1
  go_wp2_with fail
  refine (someOrderM_any R _ 5 (by omega) w1 hR1 (by omega)).mono ?_
  rintro e w2 ⟨A2, n2, c2, ys, q2, rfl, hn2, r2, hq2, hR2, hU2⟩
  have z2 := hU2.size
  have r12 := (r1.upd hU2 (fun j e => by omega)).more (Nat.le_refl _) z2
  have hB2 := hB1.trans (hU2.toBelow (fun k e => by omega) (by omega))
  clear hR1 hB1 hU2 r1
  go_wp2_with fail
  refine (aMap_any R _ A1 n1 c1 _ zs A2 n2 c2 _ ys w2 hR2 (by omega) r12 r2 (by omega) (by omega) hn1 hn2).mono ?_
  rintro e w3 ⟨A3, c3, fs, q3, rfl, r3, hq3, hR3, hU3⟩
  have z3 := hU3.size
  have r13 := r12.upd hU3 (fun j e => by omega)
  have r23 := r2.upd hU3 (fun j e => by omega)
  go_wp2
  go_ret3
  exact ⟨A1, n1, c1, zs, A2, n2, c2, ys, A3, c3, fs, rfl, hn1, hn2, r13.ints (by omega), r23.ints (by omega), r3.ints (Nat.le_refl _), by rw [hRe]; exact hB2.trans (hU3.toBelow (fun k e => by omega) (by omega))⟩
end Go.Proofs.Ytmlihbcffndnbaa

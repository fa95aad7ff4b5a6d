/- The arguments of PartOf, drawn. -/
import Derived.Test.YtogiooecjfnkcaaGb
import Derived.Test.YtogiooecjfnkcaaASet
namespace Go.Proofs.Ytogiooecjfnkcaa
open Go.RowKit Go.Shelf

set_option maxRecDepth 100000 in
set_option maxHeartbeats 4000000 in
theorem drawPartOf_any (A : Option Addr) (m c : Nat) (bs : List Int) (w : World) (h : Byts w w.heap.size A m bs) (hcap : m ≤ c) (hbig : m ≤ 1152921504606846976) :
    Calls Try.prog 27 #[.slice A m c] w fun e w' => ∃ A n c zs s, e = .returned (.tuple #[.slice A n c, .int .i64 s]) ∧ n ≤ 7 ∧ Ints w' w'.heap.size A n zs ∧ Below w.heap.size w w' := by
  go_enter Try.func27, Try.ntmps27
  go_wp2_with fail
  refine (newReader_rd h hcap hbig).mono ?_
  rintro e w0 ⟨rfl, hR, hB, hz⟩
  go_wp2_with fail
  refine (someOrder_any _ 0 w0 hR (by omega)).mono ?_
  rintro e w1 ⟨A', n, c', zs, q, rfl, hn, r, hq, hR1, hU⟩
  have zU := hU.size
  have hB1 := hB.trans (hU.toBelow (fun k e => by omega) (by omega))
  clear hR hB hU
  go_wp2_with fail
  refine (aSet_any _ _ n w1 hR1 (by omega) hn).mono ?_
  rintro e w2 ⟨s, q2, rfl, hq2, hR2, hU2⟩
  have z2 := hU2.size
  have r2 := r.upd hU2 (fun j e => by omega)
  have i2 := r2.ints (B := w2.heap.size) z2
  have hB2 := hB1.trans (hU2.toBelow (fun k e => by omega) (by omega))
  have hlen := Lib.hid i2.len
  clear r hB1 hR1 hU2
  cases hv : (vo zs && inB s 0 (powI n - 1))
  · go_wp2_with fail
    refine (validSet_any A' n c' _ zs s w2 i2 (by omega)).mono ?_
    rw [hv]
    rintro e w3 ⟨rfl, q3, rfl⟩
    clear hv
    go_wp2_with fail
    go_ret2
    exact ⟨A', n, c', zs, s, rfl, hn, (i2.drewN q3).more (by simp), below_drewN hB2 q3⟩
  · have Hv := Lib.hid hv
    have hvo : VoP zs := by rw [Bool.and_eq_true] at hv; simpa [vo] using hv.1
    have hn6 : n ≤ 6 := by have := hvo.1; rw [hlen.out] at this; exact this
    have hs : 0 ≤ s ∧ s ≤ powI n - 1 := by rw [Bool.and_eq_true] at hv; simpa [inB] using hv.2
    have hp := powI_le6 (n := (n : Int)) (by omega)
    clear hv
    go_wp2_with fail
    refine (validSet_any A' n c' _ zs s w2 i2 (by omega)).mono ?_
    rw [Hv.out]
    rintro e w3 ⟨rfl, q3, rfl⟩
    go_wp2_with fail
    refine (pick_any _ _ 3 (w2.drewN q3) (show Rd (w2.drewN q3) _ _ from hR2) (by omega)).mono ?_
    rintro e w4 ⟨y, rfl, -, -, hU4⟩
    have z4 : w2.heap.size ≤ w4.heap.size := hU4.size
    have r3 : Row (w2.drewN q3) w0.heap.size w1.heap.size A' n zs := r2
    have i4 := (r3.upd hU4 (fun j e => by omega)).ints (B := w4.heap.size) (by omega)
    have hB4 := (below_drewN hB2 q3).trans (hU4.toBelow (fun k e => by omega) (by simp; omega))
    by_cases y0 : y = 0
    · subst y0
      go_wp2_with fail
      refine (specTops_any A' n c' _ zs s w4 i4 hvo.sets hs.1 (by omega)).mono ?_
      rintro e w5 ⟨rfl, rfl⟩
      go_wp2_with fail
      go_ret2
      exact ⟨A', n, c', zs, _, rfl, hn, i4, hB4⟩
    · go_wp2_with fail
      go_ret2
      exact ⟨A', n, c', zs, s, rfl, hn, i4, hB4⟩
end Go.Proofs.Ytogiooecjfnkcaa

/- BelowOf's own law: all below a set has it, is an ideal, and has the same tops. -/
import Derived.Test.YtidggolnhagfdaaDrBelowOf
import Derived.Test.YtidggolnhagfdaaGc
import Derived.Test.YtidggolnhagfdaaIdlW
import Derived.Test.YtidggolnhagfdaaTopsI
namespace Go.Proofs.Ytidggolnhagfdaa
open Go.RowKit Go.Shelf

set_option maxRecDepth 100000 in
set_option maxHeartbeats 8000000 in
theorem fnBelowOf_walk (A : Option Addr) (m c : Nat) (bs : List Int) (w : World) (h : Byts w w.heap.size A m bs) (hcap : m ≤ c) :
    Calls Try.prog 9 #[.slice A m c] w fun e w' => e = .returned (.bool true) ∧ Below w.heap.size w w' := by
  by_cases hs : m ≤ 1048576
  · go_enter Try.func9, Try.ntmps9
    go_wp2_with fail
    refine (drawBelowOf_any A m c bs w h hcap (by omega)).mono ?_
    rintro e w1 ⟨A1, n, c1, zs, s, rfl, hn7, hI1, C1⟩
    have hlen := Lib.hid hI1.len
    cases hv : (vo zs && inB s 0 (powI zs.length - 1))
    · have HL := Lib.hid (show belowR zs s = -1 by unfold belowR; rw [hv]; rfl)
      clear hv
      go_wp2_with fail
      refine (BelowOf_any A1 n c1 zs s w1 hI1 (by omega)).mono ?_
      rw [HL.out]
      rintro e w2 ⟨rfl, hB2⟩
      have z2 := hB2.size
      have C2 := C1.trans (hB2.mono C1.size)
      have hI2 := hI1.to hB2 (Nat.le_refl _) z2
      clear hI1 hB2 C1
      go_wp2_with fail
      refine (specBelowOfF_any A1 n c1 zs s w2 hI2 (by omega)).mono ?_
      rw [HL.out]
      rintro e w3 ⟨rfl, hB3⟩
      have z3 := hB3.size
      have C3 := C2.trans (hB3.mono C2.size)
      have hI3 := hI2.to hB3 (Nat.le_refl _) z3
      clear hI2 hB3 C2
      go_wp2_with fail
      refine (specBelowOfF_any A1 n c1 zs s w3 hI3 (by omega)).mono ?_
      rw [HL.out]
      rintro e w4 ⟨rfl, hB4⟩
      have z4 := hB4.size
      have C4 := C3.trans (hB4.mono C3.size)
      have hI4 := hI3.to hB4 (Nat.le_refl _) z4
      clear hI3 hB4 C3
      go_wp2_with fail
      go_ret
      exact ⟨rfl, C4⟩
    · obtain ⟨hvo, hs0, hs1⟩ := set_parts hv
      clear hv
      have hn6 : n ≤ 6 := by have := hvo.1; rw [hlen.out] at this; exact this
      have hp64 := powI_le6 (n := (zs.length : Int)) (by have := hvo.1; omega)
      have hpp := powI_pos (zs.length : Int)
      have HD := Lib.hid (show dualR zs = du zs by unfold dualR; rw [vo_true hvo]; rfl)
      have HDN := Lib.hid (du_len zs)
      have hBb := belI_bd hvo.sets hs0 hs1
      have HL := Lib.hid (belowR_in hvo hs0 hs1)
      have HI := Lib.hid (show isIdealR zs (belI zs s) = true by rw [isIdealR_in hvo hBb.1 hBb.2]; exact bel_ideal hvo hs0 hs1)
      have HT2 := Lib.hid (show topsR zs (belI zs s) = topsTo zs s zs.length by rw [topsR_in hvo hBb.1 hBb.2, tops_bel hvo hs0 hs1])
      have HT := Lib.hid (topsR_in hvo hs0 hs1)
      have hin := bits_less (a := s) (b := belI zs s) hs0 (by omega) hBb.1 (by omega)
      rw [in_bel hvo.sets hs1] at hin
      have hB0 : 0 ≤ belI zs s := hBb.1
      generalize topsTo zs s zs.length = T at *
      generalize belI zs s = B at *
      go_wp2_with fail
      refine (BelowOf_any A1 n c1 zs s w1 hI1 (by omega)).mono ?_
      rw [HL.out]
      rintro e w2 ⟨rfl, hB2⟩
      have z2 := hB2.size
      have C2 := C1.trans (hB2.mono C1.size)
      have hI2 := hI1.to hB2 (Nat.le_refl _) z2
      clear hI1 hB2 C1
      go_wp2_with fail
      refine (specBelowOfF_any A1 n c1 zs s w2 hI2 (by omega)).mono ?_
      rw [HL.out]
      rintro e w3 ⟨rfl, hB3⟩
      have z3 := hB3.size
      have C3 := C2.trans (hB3.mono C2.size)
      have hI3 := hI2.to hB3 (Nat.le_refl _) z3
      clear hI2 hB3 C2
      go_wp2_with fail
      refine (IsIdeal_any A1 n c1 zs B w3 hI3 (by omega)).mono ?_
      rw [HI.out]
      rintro e w4 ⟨rfl, hB4⟩
      have z4 := hB4.size
      have C4 := C3.trans (hB4.mono C3.size)
      have hI4 := hI3.to hB4 (Nat.le_refl _) z4
      clear hI3 hB4 C3
      go_wp2_with fail
      refine (TopsOf_any A1 n c1 zs B w4 hI4 (by omega)).mono ?_
      rw [HT2.out]
      rintro e w5 ⟨rfl, hB5⟩
      have z5 := hB5.size
      have C5 := C4.trans (hB5.mono C4.size)
      have hI5 := hI4.to hB5 (Nat.le_refl _) z5
      clear hI4 hB5 C4
      go_wp2_with fail
      refine (TopsOf_any A1 n c1 zs s w5 hI5 (by omega)).mono ?_
      rw [HT.out]
      rintro e w6 ⟨rfl, hB6⟩
      have z6 := hB6.size
      have C6 := C5.trans (hB6.mono C5.size)
      have hI6 := hI5.to hB6 (Nat.le_refl _) z6
      clear hI5 hB6 C5
      go_wp2_with fail
      go_ret
      exact ⟨rfl, C6⟩
  · go_enter Try.func9, Try.ntmps9
    go_wp2
    go_ret
    exact ⟨rfl, Below.refl _ _⟩
end Go.Proofs.Ytidggolnhagfdaa

/- TopsOf's own law: tops are of the set, apart, and stand for all below. -/
import Derived.Test.YtidggolnhagfdaaDrTopsOf
import Derived.Test.YtidggolnhagfdaaGc
import Derived.Test.YtidggolnhagfdaaGb
import Derived.Test.YtidggolnhagfdaaTopsI
import Derived.Test.YtidggolnhagfdaaTopsS
namespace Go.Proofs.Ytidggolnhagfdaa
open Go.RowKit Go.Shelf

set_option maxRecDepth 100000 in
set_option maxHeartbeats 8000000 in
theorem fnTopsOf_walk (A : Option Addr) (m c : Nat) (bs : List Int) (w : World) (h : Byts w w.heap.size A m bs) (hcap : m ≤ c) :
    Calls Try.prog 7 #[.slice A m c] w fun e w' => e = .returned (.bool true) ∧ Below w.heap.size w w' := by
  by_cases hs : m ≤ 1048576
  · go_enter Try.func7, Try.ntmps7
    go_wp2_with fail
    refine (drawTopsOf_any A m c bs w h hcap (by omega)).mono ?_
    rintro e w1 ⟨A1, n, c1, zs, s, rfl, hn7, hI1, C1⟩
    have hlen := Lib.hid hI1.len
    cases hv : (vo zs && inB s 0 (powI zs.length - 1))
    · have HL := Lib.hid (show topsR zs s = -1 by unfold topsR; rw [hv]; rfl)
      clear hv
      go_wp2_with fail
      refine (TopsOf_any A1 n c1 zs s w1 hI1 (by omega)).mono ?_
      rw [HL.out]
      rintro e w2 ⟨rfl, hB2⟩
      have z2 := hB2.size
      have C2 := C1.trans (hB2.mono C1.size)
      have hI2 := hI1.to hB2 (Nat.le_refl _) z2
      clear hI1 hB2 C1
      go_wp2_with fail
      refine (below_quiet (specTopsOf_any A1 n c1 _ zs s w2 hI2 (by omega))).mono ?_
      rw [HL.out]
      rintro e w3 ⟨rfl, hB3⟩
      have z3 := hB3.size
      have C3 := C2.trans (hB3.mono C2.size)
      have hI3 := hI2.to hB3 (Nat.le_refl _) z3
      clear hI2 hB3 C2
      go_wp2_with fail
      refine (below_quiet (specTopsOf_any A1 n c1 _ zs s w3 hI3 (by omega))).mono ?_
      rw [HL.out]
      rintro e w4 ⟨rfl, hB4⟩
      have z4 := hB4.size
      have C4 := C3.trans (hB4.mono C3.size)
      have hI4 := hI3.to hB4 (Nat.le_refl _) z4
      clear hI3 hB4 C3
      go_wp2_with fail
      go_ret
      exact ⟨rfl, C4⟩
    · obtain ⟨hvo, hs0, hs1⟩ := set_parts hv
      clear hv
      have hn6 : n ≤ 6 := by have := hvo.1; rw [hlen.out] at this; exact this
      have hp64 := powI_le6 (n := (zs.length : Int)) (by have := hvo.1; omega)
      have hpp := powI_pos (zs.length : Int)
      have HD := Lib.hid (show dualR zs = du zs by unfold dualR; rw [vo_true hvo]; rfl)
      have HDN := Lib.hid (du_len zs)
      have hTb := topsTo_bd zs s zs.length
      have hBb := belI_bd hvo.sets hs0 hs1
      have hTz := tops_none hvo hs0 hs1
      have HA := Lib.hid (show isApartR zs (topsTo zs s zs.length) = true by rw [isApart_is hvo hTb.1 hTb.2]; exact tops_ap hvo)
      have HL := Lib.hid (topsR_in hvo hs0 hs1)
      have HB := Lib.hid (belowR_in hvo hs0 hs1)
      have HT2 := Lib.hid (show topsR zs (belI zs s) = topsTo zs s zs.length by rw [topsR_in hvo hBb.1 hBb.2, tops_bel hvo hs0 hs1])
      have HB2 := Lib.hid (show belowR zs (topsTo zs s zs.length) = belI zs s by rw [belowR_in hvo hTb.1 hTb.2, bel_tops hvo hs0 hs1])
      have hin := bits_less (a := topsTo zs s zs.length) (b := s) hTb.1 (by omega) hs0 (by omega)
      rw [tops_in] at hin
      have hT0 : 0 ≤ topsTo zs s zs.length := hTb.1
      generalize topsTo zs s zs.length = T at *
      generalize belI zs s = B at *
      go_wp2_with fail
      refine (TopsOf_any A1 n c1 zs s w1 hI1 (by omega)).mono ?_
      rw [HL.out]
      rintro e w2 ⟨rfl, hB2⟩
      have z2 := hB2.size
      have C2 := C1.trans (hB2.mono C1.size)
      have hI2 := hI1.to hB2 (Nat.le_refl _) z2
      clear hI1 hB2 C1
      go_wp2_with fail
      refine (below_quiet (specTopsOf_any A1 n c1 _ zs s w2 hI2 (by omega))).mono ?_
      rw [HL.out]
      rintro e w3 ⟨rfl, hB3⟩
      have z3 := hB3.size
      have C3 := C2.trans (hB3.mono C2.size)
      have hI3 := hI2.to hB3 (Nat.le_refl _) z3
      clear hI2 hB3 C2
      go_wp2_with fail
      refine (BelowOf_any A1 n c1 zs s w3 hI3 (by omega)).mono ?_
      rw [HB.out]
      rintro e w4 ⟨rfl, hB4⟩
      have z4 := hB4.size
      have C4 := C3.trans (hB4.mono C3.size)
      have hI4 := hI3.to hB4 (Nat.le_refl _) z4
      clear hI3 hB4 C3
      go_wp2_with fail
      refine (IsApart_any A1 n c1 zs T w4 hI4 (by omega)).mono ?_
      rw [HA.out]
      rintro e w5 ⟨rfl, hB5⟩
      have z5 := hB5.size
      have C5 := C4.trans (hB5.mono C4.size)
      have hI5 := hI4.to hB5 (Nat.le_refl _) z5
      clear hI4 hB5 C4
      cases hsz : (s == 0)
      all_goals
        rw [hsz] at hTz
        go_wp2_with fail
        refine (TopsOf_any A1 n c1 zs B w5 hI5 (by omega)).mono ?_
        rw [HT2.out]
        rintro e w6 ⟨rfl, hB6⟩
        have z6 := hB6.size
        have C6 := C5.trans (hB6.mono C5.size)
        have hI6 := hI5.to hB6 (Nat.le_refl _) z6
        clear hI5 hB6 C5
        go_wp2_with fail
        refine (BelowOf_any A1 n c1 zs T w6 hI6 (by omega)).mono ?_
        rw [HB2.out]
        rintro e w7 ⟨rfl, hB7⟩
        have z7 := hB7.size
        have C7 := C6.trans (hB7.mono C6.size)
        have hI7 := hI6.to hB7 (Nat.le_refl _) z7
        clear hI6 hB7 C6
        go_wp2_with fail
        go_ret
        exact ⟨rfl, C7⟩
  · go_enter Try.func7, Try.ntmps7
    go_wp2
    go_ret
    exact ⟨rfl, Below.refl _ _⟩
end Go.Proofs.Ytidggolnhagfdaa

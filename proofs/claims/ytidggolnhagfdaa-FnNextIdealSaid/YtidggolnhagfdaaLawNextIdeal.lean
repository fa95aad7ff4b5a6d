/- NextIdeal's own law: it is an ideal, and its tops are the lowest items that the one ahead lacks. -/
import Derived.Test.YtidggolnhagfdaaDrNextIdeal
import Derived.Test.YtidggolnhagfdaaGc
import Derived.Test.YtidggolnhagfdaaIdlW
import Derived.Test.YtidggolnhagfdaaTopsI
import Derived.Test.YtidggolnhagfdaaGb
import Derived.Test.YtidggolnhagfdaaGa
namespace Go.Proofs.Ytidggolnhagfdaa
open Go.RowKit Go.Shelf

set_option maxRecDepth 100000 in
set_option maxHeartbeats 8000000 in
theorem fnNextIdeal_walk (A : Option Addr) (m c : Nat) (bs : List Int) (w : World) (h : Byts w w.heap.size A m bs) (hcap : m ≤ c) :
    Calls Try.prog 10 #[.slice A m c] w fun e w' => e = .returned (.bool true) ∧ Below w.heap.size w w' := by
  by_cases hs : m ≤ 1048576
  · go_enter Try.func10, Try.ntmps10
    go_wp2_with fail
    refine (drawNextIdeal_any A m c bs w h hcap (by omega)).mono ?_
    rintro e w1 ⟨A1, n, c1, zs, s, rfl, hn7, hI1, C1⟩
    have hlen := Lib.hid hI1.len
    cases hv : isIdealR zs s
    · have HL := Lib.hid (show nextR zs s = -1 by unfold nextR; rw [hv]; rfl)
      clear hv
      go_wp2_with fail
      refine (NextIdeal_any A1 n c1 zs s w1 hI1 (by omega)).mono ?_
      rw [HL.out]
      rintro e w2 ⟨rfl, hB2⟩
      have z2 := hB2.size
      have C2 := C1.trans (hB2.mono C1.size)
      have hI2 := hI1.to hB2 (Nat.le_refl _) z2
      clear hI1 hB2 C1
      go_wp2_with fail
      refine (specNextIdealF_any A1 n c1 zs s w2 hI2 (by omega)).mono ?_
      rw [HL.out]
      rintro e w3 ⟨rfl, hB3⟩
      have z3 := hB3.size
      have C3 := C2.trans (hB3.mono C2.size)
      have hI3 := hI2.to hB3 (Nat.le_refl _) z3
      clear hI2 hB3 C2
      go_wp2_with fail
      refine (specNextIdealF_any A1 n c1 zs s w3 hI3 (by omega)).mono ?_
      rw [HL.out]
      rintro e w4 ⟨rfl, hB4⟩
      have z4 := hB4.size
      have C4 := C3.trans (hB4.mono C3.size)
      have hI4 := hI3.to hB4 (Nat.le_refl _) z4
      clear hI3 hB4 C3
      go_wp2_with fail
      go_ret
      exact ⟨rfl, C4⟩
    · obtain ⟨hvo, hs0, hs1⟩ := set_parts (zs := zs) (s := s) (by unfold isIdealR at hv; rw [Bool.and_eq_true] at hv; exact hv.1)
      have HL := Lib.hid (show nextR zs s = nextI zs s by unfold nextR; rw [hv]; rfl)
      clear hv
      have hn6 : n ≤ 6 := by have := hvo.1; rw [hlen.out] at this; exact this
      have hp64 := powI_le6 (n := (zs.length : Int)) (by have := hvo.1; omega)
      have hpp := powI_pos (zs.length : Int)
      have HD := Lib.hid (show dualR zs = du zs by unfold dualR; rw [vo_true hvo]; rfl)
      have HDN := Lib.hid (du_len zs)
      have hXb := topsTo_bd (du zs) (powI zs.length - 1 - s) zs.length
      have hNb : 0 ≤ nextI zs s ∧ nextI zs s < powI zs.length := belI_bd hvo.sets hXb.1 hXb.2
      have HI := Lib.hid (show isIdealR zs (nextI zs s) = true by rw [isIdealR_in hvo hNb.1 hNb.2]; exact bel_ideal hvo hXb.1 hXb.2)
      have HT := Lib.hid (show topsR zs (nextI zs s) = topsTo (du zs) (powI zs.length - 1 - s) zs.length by rw [topsR_in hvo hNb.1 hNb.2, next_tops hvo hs0 hs1])
      have hin := (bits_less (a := powI zs.length - 1) (b := s) (by omega) (by omega) hs0 (by omega)).trans (left_is hvo.1 hs0 hs1)
      have HT2 := Lib.hid (show topsR (du zs) (powI zs.length - 1 - s) = topsTo (du zs) (powI zs.length - 1 - s) zs.length by rw [topsR_in (du_vo hvo) (by omega) (by rw [du_len]; omega), du_len])
      obtain ⟨L, hL⟩ : ∃ L, powI zs.length - 1 - s = L := ⟨_, rfl⟩
      rw [hL] at hin HT HT2
      rw [hlen.out] at hin
      have Hin := Lib.hid hin
      clear hin hL hXb
      have hN0 : 0 ≤ nextI zs s := hNb.1
      generalize topsTo (du zs) L zs.length = T at *
      generalize nextI zs s = N at *
      go_wp2_with fail
      refine (NextIdeal_any A1 n c1 zs s w1 hI1 (by omega)).mono ?_
      rw [HL.out]
      rintro e w2 ⟨rfl, hB2⟩
      have z2 := hB2.size
      have C2 := C1.trans (hB2.mono C1.size)
      have hI2 := hI1.to hB2 (Nat.le_refl _) z2
      clear hI1 hB2 C1
      go_wp2_with fail
      refine (specNextIdealF_any A1 n c1 zs s w2 hI2 (by omega)).mono ?_
      rw [HL.out]
      rintro e w3 ⟨rfl, hB3⟩
      have z3 := hB3.size
      have C3 := C2.trans (hB3.mono C2.size)
      have hI3 := hI2.to hB3 (Nat.le_refl _) z3
      clear hI2 hB3 C2
      go_wp2_with fail
      refine (IsIdeal_any A1 n c1 zs N w3 hI3 (by omega)).mono ?_
      rw [HI.out]
      rintro e w4 ⟨rfl, hB4⟩
      have z4 := hB4.size
      have C4 := C3.trans (hB4.mono C3.size)
      have hI4 := hI3.to hB4 (Nat.le_refl _) z4
      clear hI3 hB4 C3
      go_wp2_with fail
      refine (TopsOf_any A1 n c1 zs N w4 hI4 (by omega)).mono ?_
      rw [HT.out]
      rintro e w5 ⟨rfl, hB5⟩
      have z5 := hB5.size
      have C5 := C4.trans (hB5.mono C4.size)
      have hI5 := hI4.to hB5 (Nat.le_refl _) z5
      clear hI4 hB5 C4
      go_wp2_with fail
      refine (DualOf_any A1 n c1 zs w5 hI5 (by omega)).mono ?_
      rintro e w6 ⟨A6, m6, c6, rfl, r6, hB6⟩
      have z6 := hB6.size
      have C6 := C5.trans (hB6.mono C5.size)
      have hI6 := hI5.to hB6 (Nat.le_refl _) z6
      have hd6 := r6.ints (B := w6.heap.size) (Nat.le_refl _)
      have e6 := r6.len
      clear hI5 hB6 C5 r6
      rw [HD.out] at hd6 e6
      rw [HDN.out, hlen.out] at e6
      subst e6
      go_wp2_with fail
      refine (lall_any _ _ hn6).mono ?_
      rintro e wq ⟨rfl, rfl⟩
      go_wp2_with fail
      rw [Hin.out]
      refine (TopsOf_any A6 _ c6 (du zs) L w6 hd6 (by omega)).mono ?_
      rw [HT2.out]
      rintro e w7 ⟨rfl, hB7⟩
      have z7 := hB7.size
      have C7 := C6.trans (hB7.mono C6.size)
      have hI7 := hI6.to hB7 (Nat.le_refl _) z7
      have hd7 := hd6.to hB7 (Nat.le_refl _) z7
      clear hI6 hd6 hB7 C6
      go_wp2_with fail
      go_ret
      exact ⟨rfl, C7⟩
  · go_enter Try.func10, Try.ntmps10
    go_wp2
    go_ret
    exact ⟨rfl, Below.refl _ _⟩
end Go.Proofs.Ytidggolnhagfdaa

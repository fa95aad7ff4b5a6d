/- IsIdeal's own law: an ideal is BelowOf itself, and what it leaves is one turned round. -/
import Derived.Test.YtidggolnhagfdaaDrIsIdeal
import Derived.Test.YtidggolnhagfdaaGc
import Derived.Test.YtidggolnhagfdaaIdlW
import Derived.Test.YtidggolnhagfdaaGb
import Derived.Test.YtidggolnhagfdaaGa
namespace Go.Proofs.Ytidggolnhagfdaa
open Go.RowKit Go.Shelf

set_option maxRecDepth 100000 in
set_option maxHeartbeats 8000000 in
theorem fnIsIdeal_walk (A : Option Addr) (m c : Nat) (bs : List Int) (w : World) (h : Byts w w.heap.size A m bs) (hcap : m ≤ c) :
    Calls Try.prog 8 #[.slice A m c] w fun e w' => e = .returned (.bool true) ∧ Below w.heap.size w w' := by
  by_cases hs : m ≤ 1048576
  · go_enter Try.func8, Try.ntmps8
    go_wp2_with fail
    refine (drawIsIdeal_any A m c bs w h hcap (by omega)).mono ?_
    rintro e w1 ⟨A1, n, c1, zs, s, rfl, hn7, hI1, C1⟩
    have hlen := Lib.hid hI1.len
    cases hv : isIdealR zs s
    · have HL := Lib.hid (show isIdealR zs s = false by exact hv)
      clear hv
      go_wp2_with fail
      refine (IsIdeal_any A1 n c1 zs s w1 hI1 (by omega)).mono ?_
      rw [HL.out]
      rintro e w2 ⟨rfl, hB2⟩
      have z2 := hB2.size
      have C2 := C1.trans (hB2.mono C1.size)
      have hI2 := hI1.to hB2 (Nat.le_refl _) z2
      clear hI1 hB2 C1
      go_wp2_with fail
      refine (specIsIdealF_any A1 n c1 zs s w2 hI2 (by omega)).mono ?_
      rw [HL.out]
      rintro e w3 ⟨rfl, hB3⟩
      have z3 := hB3.size
      have C3 := C2.trans (hB3.mono C2.size)
      have hI3 := hI2.to hB3 (Nat.le_refl _) z3
      clear hI2 hB3 C2
      go_wp2_with fail
      refine (specIsIdealF_any A1 n c1 zs s w3 hI3 (by omega)).mono ?_
      rw [HL.out]
      rintro e w4 ⟨rfl, hB4⟩
      have z4 := hB4.size
      have C4 := C3.trans (hB4.mono C3.size)
      have hI4 := hI3.to hB4 (Nat.le_refl _) z4
      clear hI3 hB4 C3
      go_wp2_with fail
      go_ret
      exact ⟨rfl, C4⟩
    · obtain ⟨hvo, hs0, hs1⟩ := set_parts (zs := zs) (s := s) (by unfold isIdealR at hv; rw [Bool.and_eq_true] at hv; exact hv.1)
      have HL := Lib.hid hv
      have hid : idB zs s = true := by rw [isIdealR_in hvo hs0 hs1] at hv; exact hv
      clear hv
      have hn6 : n ≤ 6 := by have := hvo.1; rw [hlen.out] at this; exact this
      have hp64 := powI_le6 (n := (zs.length : Int)) (by have := hvo.1; omega)
      have hpp := powI_pos (zs.length : Int)
      have HD := Lib.hid (show dualR zs = du zs by unfold dualR; rw [vo_true hvo]; rfl)
      have HDN := Lib.hid (du_len zs)
      have HB := Lib.hid (show belowR zs s = s by rw [belowR_in hvo hs0 hs1, bel_self hid])
      obtain ⟨L, hL⟩ : ∃ L, powI zs.length - 1 - s = L := ⟨_, rfl⟩
      have hin := (bits_less (a := powI zs.length - 1) (b := s) (by omega) (by omega) hs0 (by omega)).trans (left_is hvo.1 hs0 hs1)
      have HLI := Lib.hid (show isIdealR (du zs) L = true by rw [← hL, isIdealR_in (du_vo hvo) (by omega) (by rw [du_len]; omega)]; exact left_ideal hvo hs0 hs1 hid)
      rw [hL, hlen.out] at hin
      have Hin := Lib.hid hin
      clear hin hL hid
      go_wp2_with fail
      refine (IsIdeal_any A1 n c1 zs s w1 hI1 (by omega)).mono ?_
      rw [HL.out]
      rintro e w2 ⟨rfl, hB2⟩
      have z2 := hB2.size
      have C2 := C1.trans (hB2.mono C1.size)
      have hI2 := hI1.to hB2 (Nat.le_refl _) z2
      clear hI1 hB2 C1
      go_wp2_with fail
      refine (specIsIdealF_any A1 n c1 zs s w2 hI2 (by omega)).mono ?_
      rw [HL.out]
      rintro e w3 ⟨rfl, hB3⟩
      have z3 := hB3.size
      have C3 := C2.trans (hB3.mono C2.size)
      have hI3 := hI2.to hB3 (Nat.le_refl _) z3
      clear hI2 hB3 C2
      go_wp2_with fail
      refine (BelowOf_any A1 n c1 zs s w3 hI3 (by omega)).mono ?_
      rw [HB.out]
      rintro e w4 ⟨rfl, hB4⟩
      have z4 := hB4.size
      have C4 := C3.trans (hB4.mono C3.size)
      have hI4 := hI3.to hB4 (Nat.le_refl _) z4
      clear hI3 hB4 C3
      go_wp2_with fail
      refine (DualOf_any A1 n c1 zs w4 hI4 (by omega)).mono ?_
      rintro e w5 ⟨A5, m5, c5, rfl, r5, hB5⟩
      have z5 := hB5.size
      have C5 := C4.trans (hB5.mono C4.size)
      have hI5 := hI4.to hB5 (Nat.le_refl _) z5
      have hd5 := r5.ints (B := w5.heap.size) (Nat.le_refl _)
      have e5 := r5.len
      clear hI4 hB5 C4 r5
      rw [HD.out] at hd5 e5
      rw [HDN.out, hlen.out] at e5
      subst e5
      go_wp2_with fail
      refine (lall_any _ _ hn6).mono ?_
      rintro e wq ⟨rfl, rfl⟩
      go_wp2_with fail
      rw [Hin.out]
      refine (IsIdeal_any A5 _ c5 (du zs) L w5 hd5 (by omega)).mono ?_
      rw [HLI.out]
      rintro e w6 ⟨rfl, hB6⟩
      have z6 := hB6.size
      have C6 := C5.trans (hB6.mono C5.size)
      have hI6 := hI5.to hB6 (Nat.le_refl _) z6
      have hd6 := hd5.to hB6 (Nat.le_refl _) z6
      clear hI5 hd5 hB6 C5
      go_wp2_with fail
      go_ret
      exact ⟨rfl, C6⟩
  · go_enter Try.func8, Try.ntmps8
    go_wp2
    go_ret
    exact ⟨rfl, Below.refl _ _⟩
end Go.Proofs.Ytidggolnhagfdaa

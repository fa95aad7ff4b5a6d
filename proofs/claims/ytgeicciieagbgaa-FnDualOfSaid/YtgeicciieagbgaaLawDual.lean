/- DualOf's own law: turned round twice is as before, with as many pairs, and as great a longest chain and widest set apart. -/
import Derived.Test.YtgeicciieagbgaaDrDualOf
import Derived.Test.YtgeicciieagbgaaLongI
import Derived.Test.YtgeicciieagbgaaWideI
import Derived.Test.YtgeicciieagbgaaCount
import Derived.Test.YtgeicciieagbgaaDual
import Derived.Test.YtgeicciieagbgaaDualSp
import Derived.Test.YtgeicciieagbgaaDualM
import Derived.Test.YtgeicciieagbgaaEqI
namespace Go.Proofs.Ytgeicciieagbgaa
open Go.RowKit Go.Shelf

set_option maxRecDepth 100000 in
set_option maxHeartbeats 8000000 in
theorem fnDualOf_walk (A : Option Addr) (m c : Nat) (bs : List Int) (w : World) (h : Byts w w.heap.size A m bs) (hcap : m ≤ c) :
    Calls Try.prog 3 #[.slice A m c] w fun e w' => e = .returned (.bool true) ∧ Below w.heap.size w w' := by
  by_cases hs : m ≤ 1048576
  · go_enter Try.func3, Try.ntmps3
    go_wp2_with fail
    refine (drawDualOf_any A m c bs w h hcap (by omega)).mono ?_
    rintro e w1 ⟨A1, n, c1, zs, rfl, hn7, hI1, C1⟩
    have hlen := Lib.hid hI1.len
    cases hv : vo zs
    · have HL := Lib.hid (show dualR zs = [] by unfold dualR; rw [hv]; rfl)
      clear hv
      go_wp2_with fail
      refine (DualOf_any A1 _ c1 zs w1 hI1 (by omega)).mono ?_
      rintro e w2 ⟨A2, m2, c2, rfl, r2, hB2⟩
      have z2 := hB2.size
      have C2 := C1.trans (hB2.mono C1.size)
      have hI2 := hI1.to hB2 (Nat.le_refl _) z2
      have ha2 := r2.ints (B := w2.heap.size) (Nat.le_refl _)
      have e2 := r2.len
      clear hI1 hB2 C1 r2
      rw [HL.out] at ha2 e2
      simp only [List.length_nil] at e2
      subst e2
      go_wp2_with fail
      refine (specDualOf_any A1 _ c1 zs w2 hI2 (by omega)).mono ?_
      rintro e w3 ⟨A3, m3, c3, rfl, r3, hB3⟩
      have z3 := hB3.size
      have C3 := C2.trans (hB3.mono C2.size)
      have hI3 := hI2.to hB3 (Nat.le_refl _) z3
      have ha3 := ha2.to hB3 (Nat.le_refl _) z3
      have hb3 := r3.ints (B := w3.heap.size) (Nat.le_refl _)
      have e3 := r3.len
      clear hI2 ha2 hB3 C2 r3
      rw [HL.out] at hb3 e3
      simp only [List.length_nil] at e3
      subst e3
      go_wp2_with fail
      refine (equalSame_any _ _ _ _ _ _ _ _ _ _ ha3 hb3 (by omega) (by omega)).mono ?_
      rintro e w4 ⟨rfl, hB4⟩
      have z4 := hB4.size
      have C4 := C3.trans (hB4.mono C3.size)
      have hI4 := hI3.to hB4 (Nat.le_refl _) z4
      have ha4 := ha3.to hB4 (Nat.le_refl _) z4
      have hb4 := hb3.to hB4 (Nat.le_refl _) z4
      clear hI3 ha3 hb3 hB4 C3
      go_wp2_with fail
      refine (specDualOf_any A1 _ c1 zs w4 hI4 (by omega)).mono ?_
      rintro e w5 ⟨A5, m5, c5, rfl, r5, hB5⟩
      have z5 := hB5.size
      have C5 := C4.trans (hB5.mono C4.size)
      have hI5 := hI4.to hB5 (Nat.le_refl _) z5
      have ha5 := ha4.to hB5 (Nat.le_refl _) z5
      have hb5 := hb4.to hB5 (Nat.le_refl _) z5
      have hx5 := r5.ints (B := w5.heap.size) (Nat.le_refl _)
      have e5 := r5.len
      clear hI4 ha4 hb4 hB5 C4 r5
      rw [HL.out] at hx5 e5
      simp only [List.length_nil] at e5
      subst e5
      go_wp2_with fail
      refine (equalSame_any _ _ _ _ _ _ _ _ _ _ ha5 hx5 (by omega) (by omega)).mono ?_
      rintro e w6 ⟨rfl, hB6⟩
      have z6 := hB6.size
      have C6 := C5.trans (hB6.mono C5.size)
      have hI6 := hI5.to hB6 (Nat.le_refl _) z6
      have ha6 := ha5.to hB6 (Nat.le_refl _) z6
      have hb6 := hb5.to hB6 (Nat.le_refl _) z6
      have hx6 := hx5.to hB6 (Nat.le_refl _) z6
      clear hI5 ha5 hb5 hx5 hB6 C5
      go_wp2_with fail
      go_ret
      exact ⟨rfl, C6⟩
    · have hvo : VoP zs := by simpa [vo] using hv
      clear hv
      obtain ⟨K, hK⟩ := Int.eq_ofNat_of_zero_le (longI_nn zs)
      have hn6 : n ≤ 6 := by have := hvo.1; rw [hlen.out] at this; exact this
      have hK6 : K ≤ n := by have h1 := longI_bd hvo; rw [hlen.out] at h1; omega
      have Hpos := Lib.hid (show n ≠ 0 → 1 ≤ K by intro e; have := long_pos (zs := zs) (by rw [hlen.out]; exact e); omega)
      have HLo := Lib.hid (show longR zs = (K : Int) by unfold longR; rw [vo_true hvo, ← hK]; rfl)
      have HD := Lib.hid (show dualR zs = du zs by unfold dualR; rw [vo_true hvo]; rfl)
      have HDL := Lib.hid (show longR (du zs) = (K : Int) by unfold longR; rw [vo_true (du_vo hvo), du_long hvo, ← hK]; rfl)
      have HDN := Lib.hid (du_len zs)
      have HV := Lib.hid (show (du zs).length = n by rw [du_len, hlen.out])
      have HDD := Lib.hid (show dualR (du zs) = zs by unfold dualR; rw [vo_true (du_vo hvo)]; exact du_du hvo)
      have HDP := Lib.hid (show countR (du zs) = countR zs by unfold countR; rw [vo_true (du_vo hvo), vo_true hvo]; simp only [if_true]; rw [popTo_prs hvo.sets, popTo_prs (du_vo hvo).sets, du_prs hvo])
      have HDW := Lib.hid (show wideR (du zs) = wideR zs by unfold wideR; rw [vo_true (du_vo hvo), vo_true hvo, du_setsN, du_wide hvo])
      clear hK
      go_wp2_with fail
      refine (DualOf_any A1 _ c1 zs w1 hI1 (by omega)).mono ?_
      rintro e w2 ⟨A2, m2, c2, rfl, r2, hB2⟩
      have z2 := hB2.size
      have C2 := C1.trans (hB2.mono C1.size)
      have hI2 := hI1.to hB2 (Nat.le_refl _) z2
      have ha2 := r2.ints (B := w2.heap.size) (Nat.le_refl _)
      have e2 := r2.len
      clear hI1 hB2 C1 r2
      rw [HD.out] at ha2 e2
      rw [HV.out] at e2
      subst e2
      go_wp2_with fail
      refine (specDualOf_any A1 _ c1 zs w2 hI2 (by omega)).mono ?_
      rintro e w3 ⟨A3, m3, c3, rfl, r3, hB3⟩
      have z3 := hB3.size
      have C3 := C2.trans (hB3.mono C2.size)
      have hI3 := hI2.to hB3 (Nat.le_refl _) z3
      have ha3 := ha2.to hB3 (Nat.le_refl _) z3
      have hb3 := r3.ints (B := w3.heap.size) (Nat.le_refl _)
      have e3 := r3.len
      clear hI2 ha2 hB3 C2 r3
      rw [HD.out] at hb3 e3
      rw [HV.out] at e3
      subst e3
      go_wp2_with fail
      refine (equalSame_any _ _ _ _ _ _ _ _ _ _ ha3 hb3 (by omega) (by omega)).mono ?_
      rintro e w4 ⟨rfl, hB4⟩
      have z4 := hB4.size
      have C4 := C3.trans (hB4.mono C3.size)
      have hI4 := hI3.to hB4 (Nat.le_refl _) z4
      have ha4 := ha3.to hB4 (Nat.le_refl _) z4
      have hb4 := hb3.to hB4 (Nat.le_refl _) z4
      clear hI3 ha3 hb3 hB4 C3
      by_cases hn0 : n = 0
      · subst hn0
        have hV0 : (du zs).length = 0 := HV.out
        go_wp2_with fail
        refine (specDualOf_any A1 _ c1 zs w4 hI4 (by omega)).mono ?_
        rintro e w5 ⟨A5, m5, c5, rfl, r5, hB5⟩
        have z5 := hB5.size
        have C5 := C4.trans (hB5.mono C4.size)
        have hI5 := hI4.to hB5 (Nat.le_refl _) z5
        have ha5 := ha4.to hB5 (Nat.le_refl _) z5
        have hb5 := hb4.to hB5 (Nat.le_refl _) z5
        have hx5 := r5.ints (B := w5.heap.size) (Nat.le_refl _)
        have e5 := r5.len
        clear hI4 ha4 hb4 hB5 C4 r5
        rw [HD.out] at hx5 e5
        rw [hV0] at e5
        subst e5
        go_wp2_with fail
        refine (equalSame_any _ _ _ _ _ _ _ _ _ _ ha5 hx5 (by omega) (by omega)).mono ?_
        rintro e w6 ⟨rfl, hB6⟩
        have z6 := hB6.size
        have C6 := C5.trans (hB6.mono C5.size)
        have hI6 := hI5.to hB6 (Nat.le_refl _) z6
        have ha6 := ha5.to hB6 (Nat.le_refl _) z6
        have hb6 := hb5.to hB6 (Nat.le_refl _) z6
        have hx6 := hx5.to hB6 (Nat.le_refl _) z6
        clear hI5 ha5 hb5 hx5 hB6 C5
        go_wp2_with fail
        go_ret
        exact ⟨rfl, C6⟩
      · have hnb : ((n : Int) == 0) = false := by simpa using hn0
        go_wp2_with fail
        refine (DualOf_any A2 n c2 (du zs) w4 ha4 (by omega)).mono ?_
        rintro e w5 ⟨A5, m5, c5, rfl, r5, hB5⟩
        have z5 := hB5.size
        have C5 := C4.trans (hB5.mono C4.size)
        have hI5 := hI4.to hB5 (Nat.le_refl _) z5
        have ha5 := ha4.to hB5 (Nat.le_refl _) z5
        have hb5 := hb4.to hB5 (Nat.le_refl _) z5
        have hy5 := r5.ints (B := w5.heap.size) (Nat.le_refl _)
        have e5 := r5.len
        clear hI4 ha4 hb4 hB5 C4 r5
        rw [HDD.out] at hy5 e5
        rw [hlen.out] at e5
        subst e5
        go_wp2_with fail
        refine (equalSame_any _ _ _ _ _ _ _ _ _ _ hy5 hI5 (by omega) (by omega)).mono ?_
        rintro e w6 ⟨rfl, hB6⟩
        have z6 := hB6.size
        have C6 := C5.trans (hB6.mono C5.size)
        have hI6 := hI5.to hB6 (Nat.le_refl _) z6
        have ha6 := ha5.to hB6 (Nat.le_refl _) z6
        have hb6 := hb5.to hB6 (Nat.le_refl _) z6
        have hy6 := hy5.to hB6 (Nat.le_refl _) z6
        clear hI5 ha5 hb5 hy5 hB6 C5
        go_wp2_with fail
        refine (CountPairs_any A2 n c2 (du zs) w6 ha6 (by omega)).mono ?_
        rw [HDP.out]
        rintro e w7 ⟨rfl, hB7⟩
        have z7 := hB7.size
        have C7 := C6.trans (hB7.mono C6.size)
        have hI7 := hI6.to hB7 (Nat.le_refl _) z7
        have ha7 := ha6.to hB7 (Nat.le_refl _) z7
        have hb7 := hb6.to hB7 (Nat.le_refl _) z7
        have hy7 := hy6.to hB7 (Nat.le_refl _) z7
        clear hI6 ha6 hb6 hy6 hB7 C6
        go_wp2_with fail
        refine (CountPairs_any A1 _ c1 zs w7 hI7 (by omega)).mono ?_
        rintro e w8 ⟨rfl, hB8⟩
        have z8 := hB8.size
        have C8 := C7.trans (hB8.mono C7.size)
        have hI8 := hI7.to hB8 (Nat.le_refl _) z8
        have ha8 := ha7.to hB8 (Nat.le_refl _) z8
        have hb8 := hb7.to hB8 (Nat.le_refl _) z8
        have hy8 := hy7.to hB8 (Nat.le_refl _) z8
        clear hI7 ha7 hb7 hy7 hB8 C7
        go_wp2_with fail
        refine (LongestChain_any A2 n c2 (du zs) w8 ha8 (by omega)).mono ?_
        rw [HDL.out]
        rintro e w9 ⟨rfl, hB9⟩
        have z9 := hB9.size
        have C9 := C8.trans (hB9.mono C8.size)
        have hI9 := hI8.to hB9 (Nat.le_refl _) z9
        have ha9 := ha8.to hB9 (Nat.le_refl _) z9
        have hb9 := hb8.to hB9 (Nat.le_refl _) z9
        have hy9 := hy8.to hB9 (Nat.le_refl _) z9
        clear hI8 ha8 hb8 hy8 hB9 C8
        go_wp2_with fail
        refine (LongestChain_any A1 _ c1 zs w9 hI9 (by omega)).mono ?_
        rw [HLo.out]
        rintro e w10 ⟨rfl, hB10⟩
        have z10 := hB10.size
        have C10 := C9.trans (hB10.mono C9.size)
        have hI10 := hI9.to hB10 (Nat.le_refl _) z10
        have ha10 := ha9.to hB10 (Nat.le_refl _) z10
        have hb10 := hb9.to hB10 (Nat.le_refl _) z10
        have hy10 := hy9.to hB10 (Nat.le_refl _) z10
        clear hI9 ha9 hb9 hy9 hB10 C9
        go_wp2_with fail
        refine (WidestApart_any A2 n c2 (du zs) w10 ha10 (by omega)).mono ?_
        rw [HDW.out]
        rintro e w11 ⟨rfl, hB11⟩
        have z11 := hB11.size
        have C11 := C10.trans (hB11.mono C10.size)
        have hI11 := hI10.to hB11 (Nat.le_refl _) z11
        have ha11 := ha10.to hB11 (Nat.le_refl _) z11
        have hb11 := hb10.to hB11 (Nat.le_refl _) z11
        have hy11 := hy10.to hB11 (Nat.le_refl _) z11
        clear hI10 ha10 hb10 hy10 hB11 C10
        go_wp2_with fail
        refine (WidestApart_any A1 _ c1 zs w11 hI11 (by omega)).mono ?_
        rintro e w12 ⟨rfl, hB12⟩
        have z12 := hB12.size
        have C12 := C11.trans (hB12.mono C11.size)
        have hI12 := hI11.to hB12 (Nat.le_refl _) z12
        have ha12 := ha11.to hB12 (Nat.le_refl _) z12
        have hb12 := hb11.to hB12 (Nat.le_refl _) z12
        have hy12 := hy11.to hB12 (Nat.le_refl _) z12
        clear hI11 ha11 hb11 hy11 hB12 C11
        go_wp2_with fail
        go_ret
        exact ⟨rfl, C12⟩
  · go_enter Try.func3, Try.ntmps3
    go_wp2
    go_ret
    exact ⟨rfl, Below.refl _ _⟩
end Go.Proofs.Ytgeicciieagbgaa

/- SignOf's own law: signs and sums over chains are one, and those of the order turned round. -/
import Derived.Test.YtopfeebibphdgaaDrSignOf
import Derived.Test.YtopfeebibphdgaaSgQ
import Derived.Test.YtopfeebibphdgaaChQ
import Derived.Test.YtopfeebibphdgaaSgT
import Derived.Test.YtopfeebibphdgaaGa
namespace Go.Proofs.Ytopfeebibphdgaa
open Go.RowKit Go.Shelf

set_option maxRecDepth 100000 in
set_option maxHeartbeats 8000000 in
theorem fnSignOf_walk (A : Option Addr) (m c : Nat) (bs : List Int) (w : World) (h : Byts w w.heap.size A m bs) (hcap : m ≤ c) :
    Calls Try.prog 9 #[.slice A m c] w fun e w' => e = .returned (.bool true) ∧ Below w.heap.size w w' := by
  by_cases hs : m ≤ 1048576
  · go_enter Try.func9, Try.ntmps9
    go_wp2_with fail
    refine (drawSignOf_any A m c bs w h hcap (by omega)).mono ?_
    rintro e w1 ⟨A1, n, c1, zs, a, b, rfl, hn7, hI1, C1⟩
    have hlen := Lib.hid hI1.len
    by_cases hJ : signR zs a b = -1000
    · have HL := Lib.hid hJ
      clear hJ
      go_wp2_with fail
      refine (SignOf_any A1 n c1 zs a b w1 hI1 (by omega)).mono ?_
      rw [HL.out]
      rintro e w2 ⟨rfl, hB2⟩
      have z2 := hB2.size
      have C2 := C1.trans (hB2.mono C1.size)
      have hI2 := hI1.to hB2 (Nat.le_refl _) z2
      clear hI1 hB2 C1
      go_wp2_with fail
      refine (specSignOfF_any A1 n c1 zs a b w2 hI2 (by omega)).mono ?_
      rw [HL.out]
      rintro e w3 ⟨rfl, hB3⟩
      have z3 := hB3.size
      have C3 := C2.trans (hB3.mono C2.size)
      have hI3 := hI2.to hB3 (Nat.le_refl _) z3
      clear hI2 hB3 C2
      go_wp2_with fail
      refine (specSignOfF_any A1 n c1 zs a b w3 hI3 (by omega)).mono ?_
      rw [HL.out]
      rintro e w4 ⟨rfl, hB4⟩
      have z4 := hB4.size
      have C4 := C3.trans (hB4.mono C3.size)
      have hI4 := hI3.to hB4 (Nat.le_refl _) z4
      clear hI3 hB4 C3
      go_wp2_with fail
      go_ret
      exact ⟨rfl, C4⟩
    · have hE : endsB zs a b = true := by
        cases e : endsB zs a b
        · exact absurd (signR_no e) hJ
        · rfl
      obtain ⟨hvo, x, y, rfl, rfl, hx, hy⟩ := ends_parts hE
      have hn6 : n ≤ 6 := by have := hvo.1; rw [hlen.out] at this; exact this
      have HD := Lib.hid (show dualR zs = du zs by unfold dualR; rw [vo_true hvo]; rfl)
      have HS := Lib.hid (show signR (du zs) (y : Int) (x : Int) = signR zs (x : Int) (y : Int) by
        rw [signOf_in (n := zs.length) (du_len zs) (vo_true (du_vo hvo)) hy hx, signOf_in (n := zs.length) rfl (vo_true hvo) hx hy, du_mu hvo])
      have hne : (signR zs (x : Int) (y : Int) == -1000) = false := by simpa using hJ
      generalize hr : signR zs (x : Int) (y : Int) = r at *
      have Hr := Lib.hid hr
      clear hr hJ
      go_wp2_with fail
      refine (SignOf_any A1 n c1 zs x y w1 hI1 (by omega)).mono ?_
      rw [Hr.out]
      rintro e w2 ⟨rfl, hB2⟩
      have z2 := hB2.size
      have C2 := C1.trans (hB2.mono C1.size)
      have hI2 := hI1.to hB2 (Nat.le_refl _) z2
      clear hI1 hB2 C1
      go_wp2_with fail
      refine (specSignOfF_any A1 n c1 zs x y w2 hI2 (by omega)).mono ?_
      rw [Hr.out]
      rintro e w3 ⟨rfl, hB3⟩
      have z3 := hB3.size
      have C3 := C2.trans (hB3.mono C2.size)
      have hI3 := hI2.to hB3 (Nat.le_refl _) z3
      clear hI2 hB3 C2
      go_wp2_with fail
      refine (SignByChains_any A1 n c1 zs x y w3 hI3 (by omega)).mono ?_
      rw [Hr.out]
      rintro e w4 ⟨rfl, hB4⟩
      have z4 := hB4.size
      have C4 := C3.trans (hB4.mono C3.size)
      have hI4 := hI3.to hB4 (Nat.le_refl _) z4
      clear hI3 hB4 C3
      go_wp2_with fail
      refine (DualOf_any A1 n c1 zs w4 hI4 (by omega)).mono ?_
      rintro e w5 ⟨A5, m5, c5, rfl, r5, hB5⟩
      have z5 := hB5.size
      have C5 := C4.trans (hB5.mono C4.size)
      have hI5 := hI4.to hB5 (Nat.le_refl _) z5
      have hd5 := r5.ints (B := w5.heap.size) (Nat.le_refl _)
      have e5 := r5.len
      clear hI4 hB5 C4 r5
      rw [HD.out] at hd5 e5
      rw [du_len, hlen.out] at e5
      subst e5
      go_wp2_with fail
      refine (SignOf_any A5 _ c5 (du zs) y x w5 hd5 (by omega)).mono ?_
      rw [HS.out]
      rintro e w6 ⟨rfl, hB6⟩
      have z6 := hB6.size
      have C6 := C5.trans (hB6.mono C5.size)
      have hI6 := hI5.to hB6 (Nat.le_refl _) z6
      have hd6 := hd5.to hB6 (Nat.le_refl _) z6
      clear hI5 hd5 hB6 C5
      go_wp2_with fail
      go_ret
      exact ⟨rfl, C6⟩
  · go_enter Try.func9, Try.ntmps9
    go_wp2
    go_ret
    exact ⟨rfl, Below.refl _ _⟩
end Go.Proofs.Ytopfeebibphdgaa

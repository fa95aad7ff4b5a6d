/- LineAt's own law: the line of a rank is one, and has that rank. -/
import Derived.Test.YthjmedbjdjkilaaDrLineAt
import Derived.Test.YthjmedbjdjkilaaGc
import Derived.Test.YthjmedbjdjkilaaGd
import Derived.Test.YthjmedbjdjkilaaGb
import Derived.Test.YthjmedbjdjkilaaEqI
namespace Go.Proofs.Ythjmedbjdjkilaa
open Go.RowKit Go.Shelf

set_option maxRecDepth 100000 in
set_option maxHeartbeats 8000000 in
theorem fnLineAt_walk (A : Option Addr) (m c : Nat) (bs : List Int) (w : World) (h : Byts w w.heap.size A m bs) (hcap : m ≤ c) :
    Calls Try.prog 6 #[.slice A m c] w fun e w' => e = .returned (.bool true) ∧ Below w.heap.size w w' := by
  by_cases hs : m ≤ 1048576
  · go_enter Try.func6, Try.ntmps6
    go_wp2_with fail
    refine (drawLineAt_any A m c bs w h hcap (by omega)).mono ?_
    rintro e w1 ⟨A1, n, c1, zs, s, rfl, hn7, hI1, C1⟩
    have hlen := Lib.hid hI1.len
    have hla := atR_few zs s
    cases hh : hasAt zs s
    · have HH := Lib.hid hh
      clear hh
      go_wp2_with fail
      refine (LineAt_any A1 n c1 zs s w1 hI1 (by omega)).mono ?_
      rw [HH.out]
      rintro e w2 ⟨A2, m2, c2, rfl, r2, hB2⟩
      have z2 := hB2.size
      have C2 := C1.trans (hB2.mono C1.size)
      have hI2 := hI1.to hB2 (Nat.le_refl _) z2
      have ha2 := r2.ints (B := w2.heap.size) (Nat.le_refl _)
      have e2 := r2.len
      clear hI1 hB2 C1 r2
      go_wp2_with fail
      refine (specLineAtF_any A1 n c1 zs s w2 hI2 (by omega)).mono ?_
      rw [HH.out]
      rintro e w3 ⟨A3, m3, c3, rfl, r3, hB3⟩
      have z3 := hB3.size
      have C3 := C2.trans (hB3.mono C2.size)
      have hI3 := hI2.to hB3 (Nat.le_refl _) z3
      have ha3 := ha2.to hB3 (Nat.le_refl _) z3
      have hb3 := r3.ints (B := w3.heap.size) (Nat.le_refl _)
      have e3 := r3.len
      clear hI2 ha2 hB3 C2 r3
      go_wp2_with fail
      refine (equalSame_any _ _ _ _ _ _ _ _ _ _ ha3 hb3 (by omega) (by omega)).mono ?_
      rintro e w4 ⟨rfl, hB4⟩
      have z4 := hB4.size
      have C4 := C3.trans (hB4.mono C3.size)
      have hI4 := hI3.to hB4 (Nat.le_refl _) z4
      have ha4 := ha3.to hB4 (Nat.le_refl _) z4
      have hb4 := hb3.to hB4 (Nat.le_refl _) z4
      clear hI3 ha3 hb3 hB4 C3
      go_wp2_with fail
      refine (equalSame_any _ _ _ _ _ _ _ _ _ _ ha4 hb4 (by omega) (by omega)).mono ?_
      rintro e w5 ⟨rfl, hB5⟩
      have z5 := hB5.size
      have C5 := C4.trans (hB5.mono C4.size)
      have hI5 := hI4.to hB5 (Nat.le_refl _) z5
      have ha5 := ha4.to hB5 (Nat.le_refl _) z5
      have hb5 := hb4.to hB5 (Nat.le_refl _) z5
      clear hI4 ha4 hb4 hB5 C4
      go_wp2_with fail
      go_ret
      exact ⟨rfl, C5⟩
    · have HH := Lib.hid hh
      obtain ⟨hIs, hRk⟩ := at_facts hh
      have HIs := Lib.hid hIs
      have HRk := Lib.hid hRk
      clear hh hIs hRk
      go_wp2_with fail
      refine (LineAt_any A1 n c1 zs s w1 hI1 (by omega)).mono ?_
      rw [HH.out]
      rintro e w2 ⟨A2, m2, c2, rfl, r2, hB2⟩
      have z2 := hB2.size
      have C2 := C1.trans (hB2.mono C1.size)
      have hI2 := hI1.to hB2 (Nat.le_refl _) z2
      have ha2 := r2.ints (B := w2.heap.size) (Nat.le_refl _)
      have e2 := r2.len
      clear hI1 hB2 C1 r2
      go_wp2_with fail
      refine (specLineAtF_any A1 n c1 zs s w2 hI2 (by omega)).mono ?_
      rw [HH.out]
      rintro e w3 ⟨A3, m3, c3, rfl, r3, hB3⟩
      have z3 := hB3.size
      have C3 := C2.trans (hB3.mono C2.size)
      have hI3 := hI2.to hB3 (Nat.le_refl _) z3
      have ha3 := ha2.to hB3 (Nat.le_refl _) z3
      have hb3 := r3.ints (B := w3.heap.size) (Nat.le_refl _)
      have e3 := r3.len
      clear hI2 ha2 hB3 C2 r3
      go_wp2_with fail
      refine (equalSame_any _ _ _ _ _ _ _ _ _ _ ha3 hb3 (by omega) (by omega)).mono ?_
      rintro e w4 ⟨rfl, hB4⟩
      have z4 := hB4.size
      have C4 := C3.trans (hB4.mono C3.size)
      have hI4 := hI3.to hB4 (Nat.le_refl _) z4
      have ha4 := ha3.to hB4 (Nat.le_refl _) z4
      have hb4 := hb3.to hB4 (Nat.le_refl _) z4
      clear hI3 ha3 hb3 hB4 C3
      go_wp2_with fail
      refine (IsLine_any A1 n c1 zs A2 _ c2 (atR zs s) w4 hI4 ha4 (by omega) (by omega)).mono ?_
      rw [HIs.out]
      rintro e w5 ⟨rfl, hB5⟩
      have z5 := hB5.size
      have C5 := C4.trans (hB5.mono C4.size)
      have hI5 := hI4.to hB5 (Nat.le_refl _) z5
      have ha5 := ha4.to hB5 (Nat.le_refl _) z5
      have hb5 := hb4.to hB5 (Nat.le_refl _) z5
      clear hI4 ha4 hb4 hB5 C4
      go_wp2_with fail
      refine (LineRank_any A1 n c1 zs A2 _ c2 (atR zs s) w5 hI5 ha5 (by omega) (by omega)).mono ?_
      rw [HRk.out]
      rintro e w6 ⟨rfl, hB6⟩
      have z6 := hB6.size
      have C6 := C5.trans (hB6.mono C5.size)
      have hI6 := hI5.to hB6 (Nat.le_refl _) z6
      have ha6 := ha5.to hB6 (Nat.le_refl _) z6
      have hb6 := hb5.to hB6 (Nat.le_refl _) z6
      clear hI5 ha5 hb5 hB6 C5
      go_wp2_with fail
      go_ret
      exact ⟨rfl, C6⟩
  · go_enter Try.func6, Try.ntmps6
    go_wp2
    go_ret
    exact ⟨rfl, Below.refl _ _⟩
end Go.Proofs.Ythjmedbjdjkilaa

/- FewestChains' own law: the widest set apart is as many, and so many are the chains, and as many are those of the order turned round. -/
import Derived.Test.YtghogabmkbadjabDrFewestChains
import Derived.Test.YtghogabmkbadjabMtsS
import Derived.Test.YtghogabmkbadjabFcI
import Derived.Test.YtghogabmkbadjabWideI
import Derived.Test.YtghogabmkbadjabChpP
import Derived.Test.YtghogabmkbadjabDilC
import Derived.Test.YtghogabmkbadjabGa
set_option linter.unusedVariables false
set_option linter.unusedSimpArgs false
namespace Go.Proofs.Ytghogabmkbadjab
open Go.RowKit Go.Shelf

set_option maxRecDepth 100000 in
set_option maxHeartbeats 8000000 in
theorem fnFewestChains_walk (A : Option Addr) (m c : Nat) (bs : List Int) (w : World) (h : Byts w w.heap.size A m bs) (hcap : m ≤ c) :
    Calls Try.prog 6 #[.slice A m c] w fun e w' => e = .returned (.bool true) ∧ Below w.heap.size w w' := by
  by_cases hs : m ≤ 1048576
  · go_enter Try.func6, Try.ntmps6
    go_wp2_with fail
    refine (drawFewestChains_any A m c bs w h hcap (by omega)).mono ?_
    rintro e w1 ⟨A1, n, c1, zs, rfl, hn7, hI1, C1⟩
    have hlen := Lib.hid hI1.len
    cases hv : vo zs
    · have HL := Lib.hid (show fewestR zs = -1 by unfold fewestR; rw [hv]; rfl)
      clear hv
      go_wp2_with fail
      refine (FewestChains_any A1 n c1 zs w1 hI1 (by omega)).mono ?_
      rw [HL.out]
      rintro e w2 ⟨rfl, hB2⟩
      have z2 := hB2.size
      have C2 := C1.trans (hB2.mono C1.size)
      have hI2 := hI1.to hB2 (Nat.le_refl _) z2
      clear hI1 hB2 C1
      go_wp2_with fail
      refine (specFewestChainsF_any A1 n c1 zs w2 hI2 (by omega)).mono ?_
      rw [HL.out]
      rintro e w3 ⟨rfl, hB3⟩
      have z3 := hB3.size
      have C3 := C2.trans (hB3.mono C2.size)
      have hI3 := hI2.to hB3 (Nat.le_refl _) z3
      clear hI2 hB3 C2
      go_wp2_with fail
      refine (specFewestChainsF_any A1 n c1 zs w3 hI3 (by omega)).mono ?_
      rw [HL.out]
      rintro e w4 ⟨rfl, hB4⟩
      have z4 := hB4.size
      have C4 := C3.trans (hB4.mono C3.size)
      have hI4 := hI3.to hB4 (Nat.le_refl _) z4
      clear hI3 hB4 C3
      go_wp2_with fail
      go_ret
      exact ⟨rfl, C4⟩
    · have hvo : VoP zs := by simpa [vo] using hv
      clear hv
      have hn6 : n ≤ 6 := by have := hvo.1; rw [hlen.out] at this; exact this
      obtain ⟨K, hK⟩ : ∃ K : Nat, fewestR zs = (K : Int) := ⟨_, by unfold fewestR; rw [vo_true hvo, if_pos rfl]⟩
      have HL := Lib.hid hK
      have HW := Lib.hid ((wide_few hvo).trans hK)
      have HC := Lib.hid (show (chR zs).length = K by have := (ch_facts hvo).2.2.2; rw [hK] at this; omega)
      have HV := Lib.hid (show fewestR (du zs) = (K : Int) by rw [← wide_few (du_vo hvo), ← hK, ← wide_few hvo]; unfold wideR; rw [vo_true (du_vo hvo), vo_true hvo, du_setsN, du_wide hvo])
      have hKn : K ≤ n := by have h1 := chL_len zs; have h2 := HC.out; unfold chR at h2; rw [vo_true hvo, if_pos rfl, sortL_len] at h2; rw [hlen.out] at h1; omega
      have HD := Lib.hid (show dualR zs = du zs by unfold dualR; rw [vo_true hvo]; rfl)
      clear hK
      go_wp2_with fail
      refine (FewestChains_any A1 n c1 zs w1 hI1 (by omega)).mono ?_
      rw [HL.out]
      rintro e w2 ⟨rfl, hB2⟩
      have z2 := hB2.size
      have C2 := C1.trans (hB2.mono C1.size)
      have hI2 := hI1.to hB2 (Nat.le_refl _) z2
      clear hI1 hB2 C1
      go_wp2_with fail
      refine (specFewestChainsF_any A1 n c1 zs w2 hI2 (by omega)).mono ?_
      rw [HL.out]
      rintro e w3 ⟨rfl, hB3⟩
      have z3 := hB3.size
      have C3 := C2.trans (hB3.mono C2.size)
      have hI3 := hI2.to hB3 (Nat.le_refl _) z3
      clear hI2 hB3 C2
      go_wp2_with fail
      refine (WidestApart_any A1 n c1 zs w3 hI3 (by omega)).mono ?_
      rw [HW.out]
      rintro e w4 ⟨rfl, hB4⟩
      have z4 := hB4.size
      have C4 := C3.trans (hB4.mono C3.size)
      have hI4 := hI3.to hB4 (Nat.le_refl _) z4
      clear hI3 hB4 C3
      go_wp2_with fail
      refine (ChainPartsF_any A1 n c1 zs w4 hI4 (by omega)).mono ?_
      rintro e w5 ⟨A5, m5, c5, rfl, r5, hB5⟩
      have z5 := hB5.size
      have C5 := C4.trans (hB5.mono C4.size)
      have hI5 := hI4.to hB5 (Nat.le_refl _) z5
      have ha5 := r5.ints (B := w5.heap.size) (Nat.le_refl _)
      have e5 := r5.len
      clear hI4 hB5 C4 r5
      rw [HC.out] at e5
      subst e5
      go_wp2_with fail
      refine (DualOf_any A1 n c1 zs w5 hI5 (by omega)).mono ?_
      rintro e w6 ⟨A6, m6, c6, rfl, r6, hB6⟩
      have z6 := hB6.size
      have C6 := C5.trans (hB6.mono C5.size)
      have hI6 := hI5.to hB6 (Nat.le_refl _) z6
      have ha6 := ha5.to hB6 (Nat.le_refl _) z6
      have hd6 := r6.ints (B := w6.heap.size) (Nat.le_refl _)
      have e6 := r6.len
      clear hI5 ha5 hB6 C5 r6
      rw [HD.out] at hd6 e6
      rw [du_len, hlen.out] at e6
      subst e6
      go_wp2_with fail
      refine (FewestChains_any A6 _ c6 (du zs) w6 hd6 (by omega)).mono ?_
      rw [HV.out]
      rintro e w7 ⟨rfl, hB7⟩
      have z7 := hB7.size
      have C7 := C6.trans (hB7.mono C6.size)
      have hI7 := hI6.to hB7 (Nat.le_refl _) z7
      have ha7 := ha6.to hB7 (Nat.le_refl _) z7
      have hd7 := hd6.to hB7 (Nat.le_refl _) z7
      clear hI6 ha6 hd6 hB7 C6
      go_wp2_with fail
      go_ret
      exact ⟨rfl, C7⟩
  · go_enter Try.func6, Try.ntmps6
    go_wp2
    go_ret
    exact ⟨rfl, Below.refl _ _⟩
end Go.Proofs.Ytghogabmkbadjab

/- Texts that several claims share, one behind the other. -/
import Derived.Test.YtghogabmkbadjaaGxa
import Derived.Test.YtghogabmkbadjaaGxi
import Derived.Test.YtghogabmkbadjaaGxj
import Derived.Test.YtghogabmkbadjaaGxb
import Derived.Test.YtghogabmkbadjaaGa
import Derived.Test.YtghogabmkbadjaaGxd
import Derived.Test.YtghogabmkbadjaaGxh
set_option linter.unusedVariables false
set_option linter.unusedSimpArgs false
/- SelfMaps' own law: at least one, parts the number of all numberings, and as many of the order turned round. -/
namespace Go.Proofs.Ytghogabmkbadjaa
open Go.RowKit Go.Shelf

set_option maxRecDepth 100000 in
set_option maxHeartbeats 8000000 in
theorem fnSelfMaps_walk (A : Option Addr) (m c : Nat) (bs : List Int) (w : World) (h : Byts w w.heap.size A m bs) (hcap : m ≤ c) :
    Calls Try.prog 11 #[.slice A m c] w fun e w' => e = .returned (.bool true) ∧ Below w.heap.size w w' := by
  by_cases hs : m ≤ 1048576
  · go_enter Try.func11, Try.ntmps11
    go_wp2_with fail
    refine (drawSelfMaps_any A m c bs w h hcap (by omega)).mono ?_
    rintro e w1 ⟨A1, n, c1, zs, rfl, hn7, hI1, C1⟩
    have hlen := Lib.hid hI1.len
    by_cases h0 : 0 ≤ selfR zs
    · obtain ⟨h1, hn5, h120, hmod, hvo, hdu⟩ := self_facts h0
      rw [hlen.out] at hn5 hmod
      obtain ⟨K, hK⟩ : ∃ K : Int, selfR zs = K := ⟨_, rfl⟩
      obtain ⟨F, hF⟩ : ∃ F : Int, factI n = F := ⟨_, rfl⟩
      have hFb : 1 ≤ F ∧ F ≤ 720 := by rw [← hF]; exact factI_bd ⟨n, by omega⟩
      have HL := Lib.hid hK
      have HV := Lib.hid (hdu.trans hK)
      have HF := Lib.hid hF
      have HD := Lib.hid (show dualR zs = du zs by unfold dualR; rw [vo_true hvo]; rfl)
      rw [hK] at h0 h1 h120 hmod
      rw [hF] at hmod
      have hKz : (K == 0) = false := by rw [beq_eq_false_iff_ne]; omega
      have hwr : wrap64 (F.tmod K) = 0 := by rw [hmod]; exact IntWalk.wrap64_in _ (by decide)
      clear hK hF hdu
      go_wp2_with fail
      refine (SelfMaps_any A1 n c1 zs w1 hI1 (by omega)).mono ?_
      rw [HL.out]
      rintro e w2 ⟨rfl, hB2⟩
      have z2 := hB2.size
      have C2 := C1.trans (hB2.mono C1.size)
      have hI2 := hI1.to hB2 (Nat.le_refl _) z2
      clear hI1 hB2 C1
      go_wp2_with fail
      refine (specSelfMapsF_any A1 n c1 zs w2 hI2 (by omega)).mono ?_
      rw [HL.out]
      rintro e w3 ⟨rfl, hB3⟩
      have z3 := hB3.size
      have C3 := C2.trans (hB3.mono C2.size)
      have hI3 := hI2.to hB3 (Nat.le_refl _) z3
      clear hI2 hB3 C2
      go_wp2_with (go_at_call 39; refine (lawFact_any n _ (by omega)).mono ?_; rw [HF.out]; rintro e w9 ⟨rfl, rfl⟩)
      refine (DualOf_any A1 n c1 zs w3 hI3 (by omega)).mono ?_
      rintro e w4 ⟨A4, m4, c4, rfl, r4, hB4⟩
      have z4 := hB4.size
      have C4 := C3.trans (hB4.mono C3.size)
      have hI4 := hI3.to hB4 (Nat.le_refl _) z4
      have hd4 := r4.ints (B := w4.heap.size) (Nat.le_refl _)
      have e4 := r4.len
      clear hI3 hB4 C3 r4
      rw [HD.out] at hd4 e4
      rw [du_len, hlen.out] at e4
      subst e4
      go_wp2_with fail
      refine (SelfMaps_any A4 _ c4 (du zs) w4 hd4 (by omega)).mono ?_
      rw [HV.out]
      rintro e w5 ⟨rfl, hB5⟩
      have z5 := hB5.size
      have C5 := C4.trans (hB5.mono C4.size)
      have hI5 := hI4.to hB5 (Nat.le_refl _) z5
      have hd5 := hd4.to hB5 (Nat.le_refl _) z5
      clear hI4 hd4 hB5 C4
      go_wp2_with fail
      go_ret
      exact ⟨rfl, C5⟩
    · have hneg : selfR zs = -1 := by
        unfold selfR at h0 ⊢
        split at h0
        · omega
        · split
          · contradiction
          · rfl
      have HL := Lib.hid hneg
      clear hneg h0
      go_wp2_with fail
      refine (SelfMaps_any A1 n c1 zs w1 hI1 (by omega)).mono ?_
      rw [HL.out]
      rintro e w2 ⟨rfl, hB2⟩
      have z2 := hB2.size
      have C2 := C1.trans (hB2.mono C1.size)
      have hI2 := hI1.to hB2 (Nat.le_refl _) z2
      clear hI1 hB2 C1
      go_wp2_with fail
      refine (specSelfMapsF_any A1 n c1 zs w2 hI2 (by omega)).mono ?_
      rw [HL.out]
      rintro e w3 ⟨rfl, hB3⟩
      have z3 := hB3.size
      have C3 := C2.trans (hB3.mono C2.size)
      have hI3 := hI2.to hB3 (Nat.le_refl _) z3
      clear hI2 hB3 C2
      go_wp2_with fail
      refine (specSelfMapsF_any A1 n c1 zs w3 hI3 (by omega)).mono ?_
      rw [HL.out]
      rintro e w4 ⟨rfl, hB4⟩
      have z4 := hB4.size
      have C4 := C3.trans (hB4.mono C3.size)
      have hI4 := hI3.to hB4 (Nat.le_refl _) z4
      clear hI3 hB4 C3
      go_wp2_with fail
      go_ret
      exact ⟨rfl, C4⟩
  · go_enter Try.func11, Try.ntmps11
    go_wp2
    go_ret
    exact ⟨rfl, Below.refl _ _⟩
end Go.Proofs.Ytghogabmkbadjaa

/- CanonOf's own law: the first shape is one of all, and its own first shape. -/
namespace Go.Proofs.Ytghogabmkbadjaa
open Go.RowKit Go.Shelf

set_option maxRecDepth 100000 in
set_option maxHeartbeats 8000000 in
theorem fnCanonOf_walk (A : Option Addr) (m c : Nat) (bs : List Int) (w : World) (h : Byts w w.heap.size A m bs) (hcap : m ≤ c) :
    Calls Try.prog 10 #[.slice A m c] w fun e w' => e = .returned (.bool true) ∧ Below w.heap.size w w' := by
  by_cases hs : m ≤ 1048576
  · go_enter Try.func10, Try.ntmps10
    go_wp2_with fail
    refine (drawCanonOf_any A m c bs w h hcap (by omega)).mono ?_
    rintro e w1 ⟨A1, n, c1, zs, rfl, hn7, hI1, C1⟩
    have hlen := Lib.hid hI1.len
    by_cases h0 : canR zs = []
    · have HL := Lib.hid h0
      clear h0
      go_wp2_with fail
      refine (CanonOf_any A1 n c1 zs w1 hI1 (by omega)).mono ?_
      rintro e w2 ⟨A2, m2, c2, rfl, r2, hB2⟩
      have z2 := hB2.size
      have C2 := C1.trans (hB2.mono C1.size)
      have hI2 := hI1.to hB2 (Nat.le_refl _) z2
      have ha2 := r2.ints (B := w2.heap.size) (Nat.le_refl _)
      have e2 := r2.len
      clear hI1 hB2 C1 r2
      rw [HL.out] at ha2 e2
      simp only [List.length_nil] at e2
      subst e2
      go_wp2_with fail
      refine (specCanonOfG_any A1 n c1 zs w2 hI2 (by omega)).mono ?_
      rintro e w3 ⟨A3, m3, c3, rfl, r3, hB3⟩
      have z3 := hB3.size
      have C3 := C2.trans (hB3.mono C2.size)
      have hI3 := hI2.to hB3 (Nat.le_refl _) z3
      have ha3 := ha2.to hB3 (Nat.le_refl _) z3
      have hb3 := r3.ints (B := w3.heap.size) (Nat.le_refl _)
      have e3 := r3.len
      clear hI2 ha2 hB3 C2 r3
      rw [HL.out] at hb3 e3
      simp only [List.length_nil] at e3
      subst e3
      have hdd : decide (([] : List Int) = []) = true := rfl
      go_wp2_with fail
      refine (below_quiet (equalInts_any _ _ _ _ _ _ w3.heap.size w3.heap.size _ _ _ ha3 hb3 (by omega) (by omega))).mono ?_
      rintro e w4 ⟨rfl, hB4⟩
      have z4 := hB4.size
      have C4 := C3.trans (hB4.mono C3.size)
      have hI4 := hI3.to hB4 (Nat.le_refl _) z4
      have ha4 := ha3.to hB4 (Nat.le_refl _) z4
      have hb4 := hb3.to hB4 (Nat.le_refl _) z4
      clear hI3 ha3 hb3 hB4 C3
      go_wp2_with fail
      refine (specCanonOfG_any A1 n c1 zs w4 hI4 (by omega)).mono ?_
      rintro e w5 ⟨A5, m5, c5, rfl, r5, hB5⟩
      have z5 := hB5.size
      have C5 := C4.trans (hB5.mono C4.size)
      have hI5 := hI4.to hB5 (Nat.le_refl _) z5
      have ha5 := ha4.to hB5 (Nat.le_refl _) z5
      have hb5 := hb4.to hB5 (Nat.le_refl _) z5
      have hx5 := r5.ints (B := w5.heap.size) (Nat.le_refl _)
      have e5 := r5.len
      clear hI4 ha4 hb4 hB5 C4 r5
      rw [HL.out] at hx5 e5
      simp only [List.length_nil] at e5
      subst e5
      go_wp2_with fail
      refine (below_quiet (equalInts_any _ _ _ _ _ _ w5.heap.size w5.heap.size _ _ _ ha5 hx5 (by omega) (by omega))).mono ?_
      rintro e w6 ⟨rfl, hB6⟩
      have z6 := hB6.size
      have C6 := C5.trans (hB6.mono C5.size)
      have hI6 := hI5.to hB6 (Nat.le_refl _) z6
      have ha6 := ha5.to hB6 (Nat.le_refl _) z6
      have hb6 := hb5.to hB6 (Nat.le_refl _) z6
      have hx6 := hx5.to hB6 (Nat.le_refl _) z6
      clear hI5 ha5 hb5 hx5 hB6 C5
      go_wp2_with fail
      go_ret
      exact ⟨rfl, C6⟩
    · obtain ⟨hvc, hcc, hmap, hself, hless, hn5, hcl⟩ := can_facts h0
      rw [hlen.out] at hn5 hcl
      have hn0 : 0 < n := Nat.pos_of_ne_zero (fun h => h0 (List.eq_nil_of_length_eq_zero (hcl.trans h)))
      have HM := Lib.hid hmap
      have HC := Lib.hid hcc
      have HS := Lib.hid hself
      have HN := Lib.hid hless
      have HV := Lib.hid hvc
      have HQ := Lib.hid hcl
      clear hmap hcc hself hless hvc h0 hcl
      generalize hcq : canR zs = q at *
      have HL := Lib.hid hcq
      clear hcq
      have hdd : decide (q = q) = true := by simp
      have hz0 : ((n : Int) == 0) = false := by rw [beq_eq_false_iff_ne]; omega
      go_wp2_with fail
      refine (CanonOf_any A1 n c1 zs w1 hI1 (by omega)).mono ?_
      rintro e w2 ⟨A2, m2, c2, rfl, r2, hB2⟩
      have z2 := hB2.size
      have C2 := C1.trans (hB2.mono C1.size)
      have hI2 := hI1.to hB2 (Nat.le_refl _) z2
      have ha2 := r2.ints (B := w2.heap.size) (Nat.le_refl _)
      have e2 := r2.len
      clear hI1 hB2 C1 r2
      rw [HL.out] at ha2 e2
      rw [HQ.out] at e2
      subst e2
      go_wp2_with fail
      refine (specCanonOfG_any A1 n c1 zs w2 hI2 (by omega)).mono ?_
      rintro e w3 ⟨A3, m3, c3, rfl, r3, hB3⟩
      have z3 := hB3.size
      have C3 := C2.trans (hB3.mono C2.size)
      have hI3 := hI2.to hB3 (Nat.le_refl _) z3
      have ha3 := ha2.to hB3 (Nat.le_refl _) z3
      have hb3 := r3.ints (B := w3.heap.size) (Nat.le_refl _)
      have e3 := r3.len
      clear hI2 ha2 hB3 C2 r3
      rw [HL.out] at hb3 e3
      rw [HQ.out] at e3
      subst e3
      go_wp2_with fail
      refine (below_quiet (equalInts_any _ _ _ _ _ _ w3.heap.size w3.heap.size _ _ _ ha3 hb3 (by omega) (by omega))).mono ?_
      rintro e w4 ⟨rfl, hB4⟩
      have z4 := hB4.size
      have C4 := C3.trans (hB4.mono C3.size)
      have hI4 := hI3.to hB4 (Nat.le_refl _) z4
      have ha4 := ha3.to hB4 (Nat.le_refl _) z4
      have hb4 := hb3.to hB4 (Nat.le_refl _) z4
      clear hI3 ha3 hb3 hB4 C3
      go_wp2_with fail
      refine (MapOrder_any A1 n c1 zs A2 n c2 q w4 hI4 ha4 (by omega) (by omega)).mono ?_
      rintro e w5 ⟨A5, m5, c5, he5, r5, hB5⟩
      rw [HM.out] at he5
      subst he5
      have z5 := hB5.size
      have C5 := C4.trans (hB5.mono C4.size)
      have hI5 := hI4.to hB5 (Nat.le_refl _) z5
      have ha5 := ha4.to hB5 (Nat.le_refl _) z5
      have hb5 := hb4.to hB5 (Nat.le_refl _) z5
      clear hI4 ha4 hb4 hB5 C4 r5
      go_wp2_with fail
      refine (ValidOrder_any A2 n c2 q w5 ha5 (by omega)).mono ?_
      rw [HV.out]
      rintro e w6 ⟨rfl, hB6⟩
      have z6 := hB6.size
      have C6 := C5.trans (hB6.mono C5.size)
      have hI6 := hI5.to hB6 (Nat.le_refl _) z6
      have ha6 := ha5.to hB6 (Nat.le_refl _) z6
      have hb6 := hb5.to hB6 (Nat.le_refl _) z6
      clear hI5 ha5 hb5 hB6 C5
      go_wp2_with fail
      refine (CanonOf_any A2 n c2 q w6 ha6 (by omega)).mono ?_
      rintro e w7 ⟨A7, m7, c7, rfl, r7, hB7⟩
      have z7 := hB7.size
      have C7 := C6.trans (hB7.mono C6.size)
      have hI7 := hI6.to hB7 (Nat.le_refl _) z7
      have ha7 := ha6.to hB7 (Nat.le_refl _) z7
      have hb7 := hb6.to hB7 (Nat.le_refl _) z7
      have hy7 := r7.ints (B := w7.heap.size) (Nat.le_refl _)
      have e7 := r7.len
      clear hI6 ha6 hb6 hB7 C6 r7
      rw [HC.out] at hy7 e7
      rw [HQ.out] at e7
      subst e7
      go_wp2_with fail
      refine (below_quiet (equalInts_any _ _ _ _ _ _ w7.heap.size w7.heap.size _ _ _ hy7 ha7 (by omega) (by omega))).mono ?_
      rintro e w8 ⟨rfl, hB8⟩
      have z8 := hB8.size
      have C8 := C7.trans (hB8.mono C7.size)
      have hI8 := hI7.to hB8 (Nat.le_refl _) z8
      have ha8 := ha7.to hB8 (Nat.le_refl _) z8
      have hb8 := hb7.to hB8 (Nat.le_refl _) z8
      have hy8 := hy7.to hB8 (Nat.le_refl _) z8
      clear hI7 ha7 hb7 hy7 hB8 C7
      go_wp2_with fail
      refine (SelfMaps_any A2 n c2 q w8 ha8 (by omega)).mono ?_
      rw [HS.out]
      rintro e w9 ⟨rfl, hB9⟩
      have z9 := hB9.size
      have C9 := C8.trans (hB9.mono C8.size)
      have hI9 := hI8.to hB9 (Nat.le_refl _) z9
      have ha9 := ha8.to hB9 (Nat.le_refl _) z9
      have hb9 := hb8.to hB9 (Nat.le_refl _) z9
      have hy9 := hy8.to hB9 (Nat.le_refl _) z9
      clear hI8 ha8 hb8 hy8 hB9 C8
      go_wp2_with fail
      refine (SelfMaps_any A1 n c1 zs w9 hI9 (by omega)).mono ?_
      rintro e w10 ⟨rfl, hB10⟩
      have z10 := hB10.size
      have C10 := C9.trans (hB10.mono C9.size)
      have hI10 := hI9.to hB10 (Nat.le_refl _) z10
      have ha10 := ha9.to hB10 (Nat.le_refl _) z10
      have hb10 := hb9.to hB10 (Nat.le_refl _) z10
      have hy10 := hy9.to hB10 (Nat.le_refl _) z10
      clear hI9 ha9 hb9 hy9 hB10 C9
      have hss : (selfR zs == selfR zs) = true := by simp
      go_wp2_with fail
      refine (below_quiet (lessRow_any _ _ _ _ _ _ w10.heap.size w10.heap.size _ _ _ hI10 ha10 (by omega) (by omega))).mono ?_
      rw [HN.out]
      rintro e w11 ⟨rfl, hB11⟩
      have z11 := hB11.size
      have C11 := C10.trans (hB11.mono C10.size)
      have hI11 := hI10.to hB11 (Nat.le_refl _) z11
      have ha11 := ha10.to hB11 (Nat.le_refl _) z11
      have hb11 := hb10.to hB11 (Nat.le_refl _) z11
      have hy11 := hy10.to hB11 (Nat.le_refl _) z11
      clear hI10 ha10 hb10 hy10 hB11 C10
      go_wp2_with fail
      go_ret
      exact ⟨rfl, C11⟩
  · go_enter Try.func10, Try.ntmps10
    go_wp2
    go_ret
    exact ⟨rfl, Below.refl _ _⟩
end Go.Proofs.Ytghogabmkbadjaa

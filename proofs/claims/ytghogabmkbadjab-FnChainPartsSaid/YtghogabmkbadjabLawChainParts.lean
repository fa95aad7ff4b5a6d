/- ChainParts' own law: chains are chains, none is empty, they part all items, ascend, and are as many as the fewest. -/
import Derived.Test.YtghogabmkbadjabDrChainParts
import Derived.Test.YtghogabmkbadjabChpP
import Derived.Test.YtghogabmkbadjabMtsS
import Derived.Test.YtghogabmkbadjabFcI
import Derived.Test.YtghogabmkbadjabDilC
import Derived.Test.YtghogabmkbadjabChIs
import Derived.Test.YtghogabmkbadjabEqI
import Derived.Test.YtghogabmkbadjabIsInI
set_option linter.unusedVariables false
set_option linter.unusedSimpArgs false
namespace Go.Proofs.Ytghogabmkbadjab
open Go.RowKit Go.Shelf

set_option maxRecDepth 100000 in
set_option maxHeartbeats 8000000 in
theorem fnChainParts_walk (A : Option Addr) (m c : Nat) (bs : List Int) (w : World) (h : Byts w w.heap.size A m bs) (hcap : m ≤ c) :
    Calls Try.prog 7 #[.slice A m c] w fun e w' => e = .returned (.bool true) ∧ Below w.heap.size w w' := by
  by_cases hs : m ≤ 1048576
  · go_enter Try.func7, Try.ntmps7
    go_wp2_with fail
    refine (drawChainParts_any A m c bs w h hcap (by omega)).mono ?_
    rintro e w1 ⟨A1, n, c1, zs, rfl, hn7, hI1, C1⟩
    have hlen := Lib.hid hI1.len
    cases hv : vo zs
    · have HL := Lib.hid (show chR zs = [] by unfold chR; rw [hv]; rfl)
      clear hv
      go_wp2_with fail
      refine (ChainPartsF_any A1 n c1 zs w1 hI1 (by omega)).mono ?_
      rintro e w2 ⟨A2, m2, c2, rfl, r2, hB2⟩
      have z2 := hB2.size
      have C2 := C1.trans (hB2.mono C1.size)
      have hI2 := hI1.to hB2 (Nat.le_refl _) z2
      have ha2 := r2.ints (B := w2.heap.size) (Nat.le_refl _)
      have e2 := r2.len
      clear hI1 hB2 C1 r2
      rw [HL.out] at ha2 e2
      simp only [List.length_nil] at e2
      subst e2
      go_wp2_with fail
      refine (specChainPartsF_any A1 n c1 zs w2 hI2 (by omega)).mono ?_
      rintro e w3 ⟨A3, m3, c3, rfl, r3, hB3⟩
      have z3 := hB3.size
      have C3 := C2.trans (hB3.mono C2.size)
      have hI3 := hI2.to hB3 (Nat.le_refl _) z3
      have ha3 := ha2.to hB3 (Nat.le_refl _) z3
      have hb3 := r3.ints (B := w3.heap.size) (Nat.le_refl _)
      have e3 := r3.len
      clear hI2 ha2 hB3 C2 r3
      rw [HL.out] at hb3 e3
      simp only [List.length_nil] at e3
      subst e3
      go_wp2_with fail
      refine (equalSame_any _ _ _ _ _ _ _ _ _ _ ha3 hb3 (by omega) (by omega)).mono ?_
      rintro e w4 ⟨rfl, hB4⟩
      have z4 := hB4.size
      have C4 := C3.trans (hB4.mono C3.size)
      have hI4 := hI3.to hB4 (Nat.le_refl _) z4
      have ha4 := ha3.to hB4 (Nat.le_refl _) z4
      have hb4 := hb3.to hB4 (Nat.le_refl _) z4
      clear hI3 ha3 hb3 hB4 C3
      go_wp2_with fail
      refine (specChainPartsF_any A1 n c1 zs w4 hI4 (by omega)).mono ?_
      rintro e w5 ⟨A5, m5, c5, rfl, r5, hB5⟩
      have z5 := hB5.size
      have C5 := C4.trans (hB5.mono C4.size)
      have hI5 := hI4.to hB5 (Nat.le_refl _) z5
      have ha5 := ha4.to hB5 (Nat.le_refl _) z5
      have hb5 := hb4.to hB5 (Nat.le_refl _) z5
      have hx5 := r5.ints (B := w5.heap.size) (Nat.le_refl _)
      have e5 := r5.len
      clear hI4 ha4 hb4 hB5 C4 r5
      rw [HL.out] at hx5 e5
      simp only [List.length_nil] at e5
      subst e5
      go_wp2_with fail
      refine (equalSame_any _ _ _ _ _ _ _ _ _ _ ha5 hx5 (by omega) (by omega)).mono ?_
      rintro e w6 ⟨rfl, hB6⟩
      have z6 := hB6.size
      have C6 := C5.trans (hB6.mono C5.size)
      have hI6 := hI5.to hB6 (Nat.le_refl _) z6
      have ha6 := ha5.to hB6 (Nat.le_refl _) z6
      have hb6 := hb5.to hB6 (Nat.le_refl _) z6
      have hx6 := hx5.to hB6 (Nat.le_refl _) z6
      clear hI5 ha5 hb5 hx5 hB6 C5
      go_wp2_with fail
      go_ret
      exact ⟨rfl, C6⟩
    · have hvo : VoP zs := by simpa [vo] using hv
      clear hv
      have hn6 : n ≤ 6 := by have := hvo.1; rw [hlen.out] at this; exact this
      obtain ⟨HF, HP, HS, HN⟩ := ch_facts hvo
      obtain ⟨K, hK⟩ : ∃ K, (chR zs).length = K := ⟨_, rfl⟩
      have hK6 : K ≤ n := by have h1 := chL_len zs; have h2 := hK; unfold chR at h2; rw [vo_true hvo, if_pos rfl, sortL_len] at h2; rw [hlen.out] at h1; omega
      have HLo := Lib.hid (show fewestR zs = (K : Int) by rw [← HN, hK])
      have HV := Lib.hid hK
      have hmem : ∀ i, i < K → (chR zs)[i]?.getD 0 ∈ chR zs := fun i hi => by rw [List.getElem?_eq_getElem (by rw [hK]; exact hi), Option.getD_some]; exact List.getElem_mem _
      have HA := Lib.hid (show ∀ i, i < K → isChainR zs ((chR zs)[i]?.getD 0) = true from fun i hi => by
        obtain ⟨h1, h2, _, h4⟩ := HF _ (hmem i hi)
        unfold isChainR inB
        rw [vo_true hvo, h4]
        simp
        omega)
      have HZ := Lib.hid (show ∀ i, i < K → (chR zs)[i]?.getD 0 ≠ 0 from fun i hi => (HF _ (hmem i hi)).2.2.1)
      have HAs := Lib.hid (show ∀ i : Nat, 0 < i → i < K → (chR zs)[i - 1]?.getD 0 < (chR zs)[i]?.getD 0 from fun i h0 hi => HS i h0 (by rw [hK]; exact hi))
      rw [hlen.out] at HP
      clear hK HF HS HN hmem
      go_wp2_with fail
      refine (ChainPartsF_any A1 n c1 zs w1 hI1 (by omega)).mono ?_
      rintro e w2 ⟨A2, m2, c2, rfl, r2, hB2⟩
      have z2 := hB2.size
      have C2 := C1.trans (hB2.mono C1.size)
      have hI2 := hI1.to hB2 (Nat.le_refl _) z2
      have ha2 := r2.ints (B := w2.heap.size) (Nat.le_refl _)
      have e2 := r2.len
      clear hI1 hB2 C1 r2
      rw [HV.out] at e2
      subst e2
      go_wp2_with fail
      refine (specChainPartsF_any A1 n c1 zs w2 hI2 (by omega)).mono ?_
      rintro e w3 ⟨A3, m3, c3, rfl, r3, hB3⟩
      have z3 := hB3.size
      have C3 := C2.trans (hB3.mono C2.size)
      have hI3 := hI2.to hB3 (Nat.le_refl _) z3
      have ha3 := ha2.to hB3 (Nat.le_refl _) z3
      have hb3 := r3.ints (B := w3.heap.size) (Nat.le_refl _)
      have e3 := r3.len
      clear hI2 ha2 hB3 C2 r3
      rw [HV.out] at e3
      subst e3
      go_wp2_with fail
      refine (equalSame_any _ _ _ _ _ _ _ _ _ _ ha3 hb3 (by omega) (by omega)).mono ?_
      rintro e w4 ⟨rfl, hB4⟩
      have z4 := hB4.size
      have C4 := C3.trans (hB4.mono C3.size)
      have hI4 := hI3.to hB4 (Nat.le_refl _) z4
      have ha4 := ha3.to hB4 (Nat.le_refl _) z4
      have hb4 := hb3.to hB4 (Nat.le_refl _) z4
      clear hI3 ha3 hb3 hB4 C3
      by_cases hK0 : K = 0
      · subst hK0
        go_wp2_with fail
        refine (specChainPartsF_any A1 n c1 zs w4 hI4 (by omega)).mono ?_
        rintro e w5 ⟨A5, m5, c5, rfl, r5, hB5⟩
        have z5 := hB5.size
        have C5 := C4.trans (hB5.mono C4.size)
        have hI5 := hI4.to hB5 (Nat.le_refl _) z5
        have ha5 := ha4.to hB5 (Nat.le_refl _) z5
        have hb5 := hb4.to hB5 (Nat.le_refl _) z5
        have hx5 := r5.ints (B := w5.heap.size) (Nat.le_refl _)
        have e5 := r5.len
        clear hI4 ha4 hb4 hB5 C4 r5
        rw [HV.out] at e5
        subst e5
        go_wp2_with fail
        refine (equalSame_any _ _ _ _ _ _ _ _ _ _ ha5 hx5 (by omega) (by omega)).mono ?_
        rintro e w6 ⟨rfl, hB6⟩
        have z6 := hB6.size
        have C6 := C5.trans (hB6.mono C5.size)
        have hI6 := hI5.to hB6 (Nat.le_refl _) z6
        have ha6 := ha5.to hB6 (Nat.le_refl _) z6
        have hb6 := hb5.to hB6 (Nat.le_refl _) z6
        have hx6 := hx5.to hB6 (Nat.le_refl _) z6
        clear hI5 ha5 hb5 hx5 hB6 C5
        go_wp2_with fail
        go_ret
        exact ⟨rfl, C6⟩
      · have hKb : ((K : Int) == 0) = false := by simpa using hK0
        go_wp2_with fail
        go_loopw [5] (fun i wr => ∃ k : Nat, k ≤ K ∧ i = .int .i64 k ∧ w4.heap.size ≤ wr.heap.size ∧ Below w.heap.size w wr ∧ Below w4.heap.size w4 wr) (fun i _ => K - (intOf i).toNat)
        case atStart => exact ⟨0, by omega, rfl, Nat.le_refl _, C4, Below.refl _ _⟩
        case round =>
          obtain ⟨k, hk, rfl, zr, Cr, Dr⟩ := hrel
          rename World => wr
          have hI := hI4.to Dr (Nat.le_refl _) zr
          have ha := ha4.to Dr (Nat.le_refl _) zr
          by_cases hlt : k < K
          · obtain ⟨b, off, rfl, -, hc⟩ := ha.at_ hlt
            have hck := hc k hlt
            have Hap := Lib.hid (HA.out k hlt)
            have hz := HZ.out k hlt
            clear hc ha
            generalize (chR zs)[k]?.getD 0 = z at *
            go_wp2_with fail
            refine (IsChain_any A1 n c1 zs z _ hI (by omega)).mono ?_
            rw [Hap.out]
            rintro e wq ⟨rfl, hB⟩
            have hckq := hB.cell (p := ⟨b, off + k, none⟩) (by
              have := ha4.at_ hlt
              obtain ⟨b', off', e1, hb', _⟩ := this
              cases e1
              show b < wr.heap.size
              omega)
            go_wp2
            go_roundw
            case rel => exact ⟨k + 1, by omega, by go_num, by have := hB.size; omega, Cr.trans (hB.mono Cr.size), Dr.trans (hB.mono zr)⟩
            case measure => simp [intOf]; omega
          · obtain rfl : k = K := by omega
            go_wp2_with fail
            refine (below_quiet (parts_any _ _ _ _ n _ _ ha HP (by omega))).mono ?_
            rintro e wq ⟨rfl, hB⟩
            have hI2 := hI.to hB (Nat.le_refl _) hB.size
            have ha2 := ha.to hB (Nat.le_refl _) hB.size
            have Cq := Cr.trans (hB.mono Cr.size)
            clear hI ha hB Cr Dr
            go_wp2_with fail
            refine (below_quiet (ascends_any _ _ _ _ _ _ ha2 (by omega) HAs.out)).mono ?_
            rintro e wp ⟨rfl, hBp⟩
            have hI3 := hI2.to hBp (Nat.le_refl _) hBp.size
            have Cp := Cq.trans (hBp.mono Cq.size)
            go_wp2_with fail
            refine (FewestChains_any A1 n c1 zs _ hI3 (by omega)).mono ?_
            rw [HLo.out]
            rintro e wz ⟨rfl, hBz⟩
            go_wp2_with fail
            go_ret
            exact ⟨rfl, Cp.trans (hBz.mono Cp.size)⟩
  · go_enter Try.func7, Try.ntmps7
    go_wp2
    go_ret
    exact ⟨rfl, Below.refl _ _⟩
end Go.Proofs.Ytghogabmkbadjab

/- CountChains' own law: one of none, one of each item, and the pairs of two; as many turned round. -/
import Derived.Test.YtgeicciieagbgaaDrCountChains
import Derived.Test.YtgeicciieagbgaaCch
import Derived.Test.YtgeicciieagbgaaLongI
import Derived.Test.YtgeicciieagbgaaCount
import Derived.Test.YtgeicciieagbgaaDual
import Derived.Test.YtgeicciieagbgaaDualM
import Derived.Test.YtgeicciieagbgaaEqI
import Derived.Deep.RegionHeld3
namespace Go.Proofs.Ytgeicciieagbgaa
open Go.RowKit Go.Shelf

set_option linter.unusedSimpArgs false

set_option maxRecDepth 100000 in
set_option maxHeartbeats 8000000 in
theorem fnCountChains_walk (A : Option Addr) (m c : Nat) (bs : List Int) (w : World) (h : Byts w w.heap.size A m bs) (hcap : m ≤ c) :
    Calls Try.prog 11 #[.slice A m c] w fun e w' => e = .returned (.bool true) ∧ Below w.heap.size w w' := by
  by_cases hs : m ≤ 1048576
  · go_enter Try.func11, Try.ntmps11
    go_wp2_with fail
    refine (drawCountChains_any A m c bs w h hcap (by omega)).mono ?_
    rintro e w1 ⟨A1, n, c1, zs, rfl, hn7, hI1, C1⟩
    have hlen := Lib.hid hI1.len
    cases hv : vo zs
    · have HL := Lib.hid (show chainsR zs = [] by unfold chainsR; rw [hv]; rfl)
      clear hv
      go_wp2_with fail
      refine (CountChains_any A1 n c1 zs w1 hI1 (by omega)).mono ?_
      rintro e w2 ⟨A2, m2, c2, rfl, r2, hB2⟩
      have z2 := hB2.size
      have C2 := C1.trans (hB2.mono C1.size)
      have hI2 := hI1.to hB2 (Nat.le_refl _) z2
      have ha2 := r2.ints (B := w2.heap.size) (Nat.le_refl _)
      have e2 := r2.len
      clear hI1 hB2 C1 r2
      rw [HL.out] at ha2 e2
      simp only [List.length_nil] at e2
      subst e2
      go_wp2_with fail
      refine (specCountChainsF_any A1 n c1 zs w2 hI2 (by omega)).mono ?_
      rintro e w3 ⟨A3, m3, c3, rfl, r3, hB3⟩
      have z3 := hB3.size
      have C3 := C2.trans (hB3.mono C2.size)
      have hI3 := hI2.to hB3 (Nat.le_refl _) z3
      have ha3 := ha2.to hB3 (Nat.le_refl _) z3
      have hb3 := r3.ints (B := w3.heap.size) (Nat.le_refl _)
      have e3 := r3.len
      clear hI2 ha2 hB3 C2 r3
      rw [HL.out] at hb3 e3
      simp only [List.length_nil] at e3
      subst e3
      go_wp2_with fail
      refine (equalSame_any _ _ _ _ _ _ _ _ _ _ ha3 hb3 (by omega) (by omega)).mono ?_
      rintro e w4 ⟨rfl, hB4⟩
      have z4 := hB4.size
      have C4 := C3.trans (hB4.mono C3.size)
      have hI4 := hI3.to hB4 (Nat.le_refl _) z4
      have ha4 := ha3.to hB4 (Nat.le_refl _) z4
      have hb4 := hb3.to hB4 (Nat.le_refl _) z4
      clear hI3 ha3 hb3 hB4 C3
      go_wp2_with fail
      refine (specCountChainsF_any A1 n c1 zs w4 hI4 (by omega)).mono ?_
      rintro e w5 ⟨A5, m5, c5, rfl, r5, hB5⟩
      have z5 := hB5.size
      have C5 := C4.trans (hB5.mono C4.size)
      have hI5 := hI4.to hB5 (Nat.le_refl _) z5
      have ha5 := ha4.to hB5 (Nat.le_refl _) z5
      have hb5 := hb4.to hB5 (Nat.le_refl _) z5
      have hx5 := r5.ints (B := w5.heap.size) (Nat.le_refl _)
      have e5 := r5.len
      clear hI4 ha4 hb4 hB5 C4 r5
      rw [HL.out] at hx5 e5
      simp only [List.length_nil] at e5
      subst e5
      go_wp2_with fail
      refine (equalSame_any _ _ _ _ _ _ _ _ _ _ ha5 hx5 (by omega) (by omega)).mono ?_
      rintro e w6 ⟨rfl, hB6⟩
      have z6 := hB6.size
      have C6 := C5.trans (hB6.mono C5.size)
      have hI6 := hI5.to hB6 (Nat.le_refl _) z6
      have ha6 := ha5.to hB6 (Nat.le_refl _) z6
      have hb6 := hb5.to hB6 (Nat.le_refl _) z6
      have hx6 := hx5.to hB6 (Nat.le_refl _) z6
      clear hI5 ha5 hb5 hx5 hB6 C5
      go_wp2_with fail
      go_ret
      exact ⟨rfl, C6⟩
    · have hvo : VoP zs := by simpa [vo] using hv
      clear hv
      obtain ⟨K, hK⟩ := Int.eq_ofNat_of_zero_le (longI_nn zs)
      have hn6 : n ≤ 6 := by have := hvo.1; rw [hlen.out] at this; exact this
      have hK6 : K ≤ n := by have h1 := longI_bd hvo; rw [hlen.out] at h1; omega
      have Hpos := Lib.hid (show n ≠ 0 → 1 ≤ K by intro e; have := long_pos (zs := zs) (by rw [hlen.out]; exact e); omega)
      have HLo := Lib.hid (show longR zs = (K : Int) by unfold longR; rw [vo_true hvo, ← hK]; rfl)
      have HD := Lib.hid (show dualR zs = du zs by unfold dualR; rw [vo_true hvo]; rfl)
      have HDL := Lib.hid (show longR (du zs) = (K : Int) by unfold longR; rw [vo_true (du_vo hvo), du_long hvo, ← hK]; rfl)
      have HDN := Lib.hid (du_len zs)
      obtain ⟨L, hL⟩ : ∃ L, (chainsR zs).length = L := ⟨_, rfl⟩
      have HV := Lib.hid hL
      have hLK : L ≤ K + 1 ∧ K + 1 ≤ L := by rw [chains_len hvo, hK] at hL; omega
      have hL0b : ((L : Int) == 0) = false := by simp; omega
      clear hL
      have HDV := Lib.hid (du_chains hvo)
      have HV2 := Lib.hid (show (du zs).length = n by rw [du_len, hlen.out])
      have H0 := Lib.hid (chains_none hvo)
      have H1 := Lib.hid (show 1 ≤ K → (chainsR zs)[1]?.getD 0 = (n : Int) by intro e; rw [chains_one hvo (by omega), hlen.out])
      have H2 := Lib.hid (show 2 ≤ K → (chainsR zs)[2]?.getD 0 = countR zs by intro e; rw [chains_two hvo (by omega)]; unfold countR; rw [vo_true hvo]; simp only [if_true]; rw [popTo_prs hvo.sets])
      clear hK
      go_wp2_with fail
      refine (CountChains_any A1 n c1 zs w1 hI1 (by omega)).mono ?_
      rintro e w2 ⟨A2, m2, c2, rfl, r2, hB2⟩
      have z2 := hB2.size
      have C2 := C1.trans (hB2.mono C1.size)
      have hI2 := hI1.to hB2 (Nat.le_refl _) z2
      have ha2 := r2.ints (B := w2.heap.size) (Nat.le_refl _)
      have e2 := r2.len
      clear hI1 hB2 C1 r2
      rw [HV.out] at e2
      subst e2
      go_wp2_with fail
      refine (specCountChainsF_any A1 n c1 zs w2 hI2 (by omega)).mono ?_
      rintro e w3 ⟨A3, m3, c3, rfl, r3, hB3⟩
      have z3 := hB3.size
      have C3 := C2.trans (hB3.mono C2.size)
      have hI3 := hI2.to hB3 (Nat.le_refl _) z3
      have ha3 := ha2.to hB3 (Nat.le_refl _) z3
      have hb3 := r3.ints (B := w3.heap.size) (Nat.le_refl _)
      have e3 := r3.len
      clear hI2 ha2 hB3 C2 r3
      rw [HV.out] at e3
      subst e3
      go_wp2_with fail
      refine (equalSame_any _ _ _ _ _ _ _ _ _ _ ha3 hb3 (by omega) (by omega)).mono ?_
      rintro e w4 ⟨rfl, hB4⟩
      have z4 := hB4.size
      have C4 := C3.trans (hB4.mono C3.size)
      have hI4 := hI3.to hB4 (Nat.le_refl _) z4
      have ha4 := ha3.to hB4 (Nat.le_refl _) z4
      have hb4 := hb3.to hB4 (Nat.le_refl _) z4
      clear hI3 ha3 hb3 hB4 C3
      have hw1 : IntKind.i64.wrap ((K : Int) + 1) = (L : Int) := by rw [IntKind.wrap_i64]; omega
      by_cases hn0 : n = 0
      · have hnt : ((n : Int) == 0) = true := by simpa using hn0
        have hnd : decide ((n : Int) = 0) = true := by simpa using hn0
        have hk3 : decide ((L : Int) < 3) = true := by simp only [decide_eq_true_eq]; omega
        clear hn0
        obtain ⟨ba, offa, rfl, hba, -⟩ := ha4.at_ (k := 0) (by omega)
        have hId : Ints w4.drew w4.drew.heap.size A1 n zs := hI4
        have haD : Ints w4.drew w4.drew.heap.size (some ⟨ba, offa, none⟩) L (chainsR zs) := ha4
        have hCD : Below w.heap.size w w4.drew := below_drewN C4 1
        have hi0 : (0 : Int) < ((L : Nat) : Int) := by omega
        have hi0N : 0 < L := by omega
        clear hI4 ha4 hb4 C4
        obtain ⟨b', off', e1, -, hcc⟩ := haD.at_ (k := 0) (by omega)
        cases e1
        have s0 := hcc 0 (by omega); rw [H0.out] at s0
        simp only [Nat.add_zero] at s0
        clear hcc
        go_wp2_with fail
        refine wp_region_held_drew (S := fun w' => w'.cell? ⟨ba, offa, none⟩ = some (.int .i64 (1 : Int))) (by kernel_rfl) s0 (fun hHeld => ?_)
        refine wpAnyH_take (i := 0) (oi := ?oinone0) (v := ?vnone0) ?hinone0 (by kernel_rfl) (by kernel_rfl) (by kernel_rfl) ?hqnone0 ?hynone0 (by assumption) ?restnone0
        case hinone0 => (simp only [List.getElem?_toArray, List.getElem?_cons_succ, List.getElem?_cons_zero]; first | done | rfl)
        case hqnone0 => exact fun _ _ _ h => h
        case hynone0 => (refine Or.inl ⟨by rfl, ?_⟩; intro wz hSw; (try dsimp only at hSw); go_simp; first | done | with_reducible rfl)
        try simp only [Act.put, List.setIfInBounds_toArray, List.set_cons_zero, List.set_cons_succ]
        refine wpAnyH_take (i := 3) (oi := ?oinone3) (v := ?vnone3) ?hinone3 (by kernel_rfl) (by kernel_rfl) (by kernel_rfl) ?hqnone3 ?hynone3 (by assumption) ?restnone3
        case hinone3 => (simp only [List.getElem?_toArray, List.getElem?_cons_succ, List.getElem?_cons_zero]; first | done | rfl)
        case hqnone3 => exact fun _ _ _ h => h
        case hynone3 => (refine Or.inl ⟨by rfl, ?_⟩; intro wz hSw; (try dsimp only at hSw); go_simp; first | done | with_reducible rfl)
        try simp only [Act.put, List.setIfInBounds_toArray, List.set_cons_zero, List.set_cons_succ]
        refine wpAnyH_ready (rs := [1]) (by kernel_rfl) (by simp) ?_
        refine AllReadyH.cons rfl (fun K' hK => ?_) AllReadyH.nil
        go_simp
        go_at_call 16
        refine (DualOf_any A1 n c1 zs _ hId (by omega)).mono ?_
        rintro e w5 ⟨A5, m5, c5, rfl, r5, hB5⟩
        have z5 := hB5.size
        have C5 := hCD.trans (hB5.mono hCD.size)
        have hI5 := hId.to hB5 (Nat.le_refl _) z5
        have ha5 := haD.to hB5 (Nat.le_refl _) z5
        have hd5 := r5.ints (B := w5.heap.size) (Nat.le_refl _)
        have e5 := r5.len
        rw [HD.out] at hd5 e5
        rw [HV2.out] at e5
        subst e5
        clear hB5 r5
        obtain ⟨b', off', e1, -, hcc⟩ := ha5.at_ (k := 0) (by omega); cases e1; have t0 := hcc 0 (by omega); rw [H0.out] at t0; simp only [Nat.add_zero] at t0; clear hcc
        refine hK.out _ _ t0 (fun hNew => ?_)
        clear hK K' hHeld
        have hHeld := hNew
        clear hNew
        try simp only [Act.put, List.setIfInBounds_toArray, List.set_cons_zero, List.set_cons_succ]
        refine wpAnyH_ready (rs := [2]) (by kernel_rfl) (by simp) ?_
        refine AllReadyH.cons rfl (fun K' hK => ?_) AllReadyH.nil
        go_simp
        go_at_call 35
        refine (CountChains_any A5 n c5 (du zs) _ hd5 (by omega)).mono ?_
        rintro e w6 ⟨A6, m6, c6, rfl, r6, hB6⟩
        have z6 := hB6.size
        have C6 := C5.trans (hB6.mono C5.size)
        have hI6 := hI5.to hB6 (Nat.le_refl _) z6
        have ha6 := ha5.to hB6 (Nat.le_refl _) z6
        have hx6 := r6.ints (B := w6.heap.size) (Nat.le_refl _)
        have e6 := r6.len
        rw [HDV.out] at hx6 e6
        rw [HV.out] at e6
        subst e6
        clear hB6 r6
        obtain ⟨b', off', e1, -, hcc⟩ := ha6.at_ (k := 0) (by omega); cases e1; have u0 := hcc 0 (by omega); rw [H0.out] at u0; simp only [Nat.add_zero] at u0; clear hcc
        refine hK.out _ _ u0 (fun hNew => ?_)
        clear hK K' hHeld
        have hHeld := hNew
        clear hNew
        try simp only [Act.put, List.setIfInBounds_toArray, List.set_cons_zero, List.set_cons_succ]
        refine wpAnyH_ready (rs := [4]) (by kernel_rfl) (by simp) ?_
        refine AllReadyH.cons rfl (fun K' hK => ?_) AllReadyH.nil
        go_simp
        go_at_call 17
        refine (equalSame_any _ _ _ _ _ _ _ _ _ _ hx6 ha6 (by omega) (by omega)).mono ?_
        rintro e w7 ⟨rfl, hB7⟩
        have z7 := hB7.size
        have C7 := C6.trans (hB7.mono C6.size)
        have hI7 := hI6.to hB7 (Nat.le_refl _) z7
        have ha7 := ha6.to hB7 (Nat.le_refl _) z7
        clear hB7
        obtain ⟨b', off', e1, -, hcc⟩ := ha7.at_ (k := 0) (by omega); cases e1; have v0 := hcc 0 (by omega); rw [H0.out] at v0; simp only [Nat.add_zero] at v0; clear hcc
        refine hK.out _ _ v0 (fun hNew => ?_)
        clear hK K' hHeld
        have hHeld := hNew
        clear hNew
        try simp only [Act.put, List.setIfInBounds_toArray, List.set_cons_zero, List.set_cons_succ]
        refine wpAnyH_take (i := 5) (oi := ?oinone5) (v := ?vnone5) ?hinone5 (by kernel_rfl) (by kernel_rfl) (by kernel_rfl) ?hqnone5 ?hynone5 (by assumption) ?restnone5
        case hinone5 => (simp only [List.getElem?_toArray, List.getElem?_cons_succ, List.getElem?_cons_zero]; first | done | rfl)
        case hqnone5 => exact fun _ _ _ h => h
        case hynone5 => (refine Or.inl ⟨by rfl, ?_⟩; intro wz hSw; (try dsimp only at hSw); go_simp; first | done | with_reducible rfl)
        try simp only [Act.put, List.setIfInBounds_toArray, List.set_cons_zero, List.set_cons_succ]
        refine wpAnyH_take (i := 6) (oi := ?oinone6) (v := ?vnone6) ?hinone6 (by kernel_rfl) (by kernel_rfl) (by kernel_rfl) ?hqnone6 ?hynone6 (by assumption) ?restnone6
        case hinone6 => (simp only [List.getElem?_toArray, List.getElem?_cons_succ, List.getElem?_cons_zero]; first | done | rfl)
        case hqnone6 => exact fun _ _ _ h => h
        case hynone6 => (refine Or.inl ⟨by rfl, ?_⟩; intro wz hSw; (try dsimp only at hSw); go_simp; first | done | with_reducible rfl)
        try simp only [Act.put, List.setIfInBounds_toArray, List.set_cons_zero, List.set_cons_succ]
        refine wpAnyH_take (i := 7) (oi := ?oinone7) (v := ?vnone7) ?hinone7 (by kernel_rfl) (by kernel_rfl) (by kernel_rfl) ?hqnone7 ?hynone7 (by assumption) ?restnone7
        case hinone7 => (simp only [List.getElem?_toArray, List.getElem?_cons_succ, List.getElem?_cons_zero]; first | done | rfl)
        case hqnone7 => exact fun _ _ _ h => h
        case hynone7 => (refine Or.inl ⟨by rfl, ?_⟩; intro wz hSw; (try dsimp only at hSw); go_simp; first | done | with_reducible rfl)
        try simp only [Act.put, List.setIfInBounds_toArray, List.set_cons_zero, List.set_cons_succ]
        refine wpAnyH_take (i := 8) (oi := ?oinone8) (v := ?vnone8) ?hinone8 (by kernel_rfl) (by kernel_rfl) (by kernel_rfl) ?hqnone8 ?hynone8 (by assumption) ?restnone8
        case hinone8 => (simp only [List.getElem?_toArray, List.getElem?_cons_succ, List.getElem?_cons_zero]; first | done | rfl)
        case hqnone8 => exact fun _ _ _ h => h
        case hynone8 => (refine Or.inl ⟨by rfl, ?_⟩; intro wz hSw; (try dsimp only at hSw); go_simp; first | done | with_reducible rfl)
        try simp only [Act.put, List.setIfInBounds_toArray, List.set_cons_zero, List.set_cons_succ]
        refine wpAnyH_ready (rs := [9]) (by kernel_rfl) (by simp) ?_
        refine AllReadyH.cons rfl (fun K' hK => ?_) AllReadyH.nil
        go_simp
        go_at_call 20
        refine (LongestChain_any A1 n c1 zs _ hI7 (by omega)).mono ?_
        rw [HLo.out]
        rintro e w8 ⟨rfl, hB8⟩
        have z8 := hB8.size
        have C8 := C7.trans (hB8.mono C7.size)
        have hI8 := hI7.to hB8 (Nat.le_refl _) z8
        have ha8 := ha7.to hB8 (Nat.le_refl _) z8
        clear hB8
        obtain ⟨b', off', e1, -, hcc⟩ := ha8.at_ (k := 0) (by omega); cases e1; have x0 := hcc 0 (by omega); rw [H0.out] at x0; simp only [Nat.add_zero] at x0; clear hcc
        refine hK.out _ _ x0 (fun hNew => ?_)
        clear hK K' hHeld
        have hHeld := hNew
        clear hNew
        try simp only [Act.put, List.setIfInBounds_toArray, List.set_cons_zero, List.set_cons_succ]
        clear z5 C5 hI5 ha5 hd5 z6 C6 hI6 ha6 hx6 z7 C7 hI7 ha7 z8 hI8 ha8 hId haD hCD s0 t0 u0 v0 x0
        refine wpAnyH_take (i := 10) (oi := ?oinone10) (v := ?vnone10) ?hinone10 (by kernel_rfl) (by kernel_rfl) (by kernel_rfl) ?hqnone10 ?hynone10 (by assumption) ?restnone10
        case hinone10 => (simp only [List.getElem?_toArray, List.getElem?_cons_succ, List.getElem?_cons_zero]; first | done | rfl)
        case hqnone10 => exact fun _ _ _ h => h
        case hynone10 => (refine Or.inl ⟨by rfl, ?_⟩; intro wz hSw; (try dsimp only at hSw); go_simp; first | done | with_reducible rfl)
        try simp only [Act.put, List.setIfInBounds_toArray, List.set_cons_zero, List.set_cons_succ]
        refine wpAnyH_take (i := 11) (oi := ?oinone11) (v := ?vnone11) ?hinone11 (by kernel_rfl) (by kernel_rfl) (by kernel_rfl) ?hqnone11 ?hynone11 (by assumption) ?restnone11
        case hinone11 => (simp only [List.getElem?_toArray, List.getElem?_cons_succ, List.getElem?_cons_zero]; first | done | rfl)
        case hqnone11 => exact fun _ _ _ h => h
        case hynone11 => (refine Or.inl ⟨by rfl, ?_⟩; intro wz hSw; (try dsimp only at hSw); go_simp; first | done | with_reducible rfl)
        try simp only [Act.put, List.setIfInBounds_toArray, List.set_cons_zero, List.set_cons_succ]
        refine wpAnyH_take (i := 12) (oi := ?oinone12) (v := ?vnone12) ?hinone12 (by kernel_rfl) (by kernel_rfl) (by kernel_rfl) ?hqnone12 ?hynone12 (by assumption) ?restnone12
        case hinone12 => (simp only [List.getElem?_toArray, List.getElem?_cons_succ, List.getElem?_cons_zero]; first | done | rfl)
        case hqnone12 => exact fun _ _ _ h => h
        case hynone12 => (refine Or.inl ⟨by rfl, ?_⟩; intro wz hSw; (try dsimp only at hSw); go_simp; first | done | with_reducible rfl)
        try simp only [Act.put, List.setIfInBounds_toArray, List.set_cons_zero, List.set_cons_succ]
        refine wpAnyH_take (i := 13) (oi := ?oinone13) (v := ?vnone13) ?hinone13 (by kernel_rfl) (by kernel_rfl) (by kernel_rfl) ?hqnone13 ?hynone13 (by assumption) ?restnone13
        case hinone13 => (simp only [List.getElem?_toArray, List.getElem?_cons_succ, List.getElem?_cons_zero]; first | done | rfl)
        case hqnone13 => exact fun _ _ _ h => h
        case hynone13 => (refine Or.inl ⟨by rfl, ?_⟩; intro wz hSw; (try dsimp only at hSw); go_simp; first | done | with_reducible rfl)
        try simp only [Act.put, List.setIfInBounds_toArray, List.set_cons_zero, List.set_cons_succ]
        refine wpAnyH_take (i := 14) (oi := ?oinone14) (v := ?vnone14) ?hinone14 (by kernel_rfl) (by kernel_rfl) (by kernel_rfl) ?hqnone14 ?hynone14 (by assumption) ?restnone14
        case hinone14 => (simp only [List.getElem?_toArray, List.getElem?_cons_succ, List.getElem?_cons_zero]; first | done | rfl)
        case hqnone14 => exact fun _ _ _ h => h
        case hynone14 => (refine Or.inl ⟨by rfl, ?_⟩; intro wz hSw; (try dsimp only at hSw); go_simp; first | done | with_reducible rfl)
        try simp only [Act.put, List.setIfInBounds_toArray, List.set_cons_zero, List.set_cons_succ]
        refine wpAnyH_take (i := 15) (oi := ?oinone15) (v := ?vnone15) ?hinone15 (by kernel_rfl) (by kernel_rfl) (by kernel_rfl) ?hqnone15 ?hynone15 (by assumption) ?restnone15
        case hinone15 => (simp only [List.getElem?_toArray, List.getElem?_cons_succ, List.getElem?_cons_zero]; first | done | rfl)
        case hqnone15 => exact fun _ _ _ h => h
        case hynone15 => (refine Or.inl ⟨by rfl, ?_⟩; intro wz hSw; (try dsimp only at hSw); go_simp; first | done | with_reducible rfl)
        try simp only [Act.put, List.setIfInBounds_toArray, List.set_cons_zero, List.set_cons_succ]
        refine wpAnyH_take (i := 16) (oi := ?oinone16) (v := ?vnone16) ?hinone16 (by kernel_rfl) (by kernel_rfl) (by kernel_rfl) ?hqnone16 ?hynone16 (by assumption) ?restnone16
        case hinone16 => (simp only [List.getElem?_toArray, List.getElem?_cons_succ, List.getElem?_cons_zero]; first | done | rfl)
        case hqnone16 => exact fun _ _ _ h => h
        case hynone16 => (refine Or.inl ⟨by rfl, ?_⟩; intro wz hSw; (try dsimp only at hSw); go_simp; first | done | with_reducible rfl)
        try simp only [Act.put, List.setIfInBounds_toArray, List.set_cons_zero, List.set_cons_succ]
        refine wpAnyH_take (i := 17) (oi := ?oinone17) (v := ?vnone17) ?hinone17 (by kernel_rfl) (by kernel_rfl) (by kernel_rfl) ?hqnone17 ?hynone17 (by assumption) ?restnone17
        case hinone17 => (simp only [List.getElem?_toArray, List.getElem?_cons_succ, List.getElem?_cons_zero]; first | done | rfl)
        case hqnone17 => exact fun _ _ _ h => h
        case hynone17 => (refine Or.inl ⟨by rfl, ?_⟩; intro wz hSw; (try dsimp only at hSw); go_simp; first | done | with_reducible rfl)
        try simp only [Act.put, List.setIfInBounds_toArray, List.set_cons_zero, List.set_cons_succ]
        refine wpAnyH_take (i := 18) (oi := ?oinone18) (v := ?vnone18) ?hinone18 (by kernel_rfl) (by kernel_rfl) (by kernel_rfl) ?hqnone18 ?hynone18 (by assumption) ?restnone18
        case hinone18 => (simp only [List.getElem?_toArray, List.getElem?_cons_succ, List.getElem?_cons_zero]; first | done | rfl)
        case hqnone18 => exact fun _ _ _ h => h
        case hynone18 => (refine Or.inl ⟨by rfl, ?_⟩; intro wz hSw; (try dsimp only at hSw); go_simp; first | done | with_reducible rfl)
        try simp only [Act.put, List.setIfInBounds_toArray, List.set_cons_zero, List.set_cons_succ]
        refine wpAnyH_take (i := 19) (oi := ?oinone19) (v := ?vnone19) ?hinone19 (by kernel_rfl) (by kernel_rfl) (by kernel_rfl) ?hqnone19 ?hynone19 (by assumption) ?restnone19
        case hinone19 => (simp only [List.getElem?_toArray, List.getElem?_cons_succ, List.getElem?_cons_zero]; first | done | rfl)
        case hqnone19 => exact fun _ _ _ h => h
        case hynone19 => (refine Or.inl ⟨by rfl, ?_⟩; intro wz hSw; (try dsimp only at hSw); go_simp; first | done | with_reducible rfl)
        try simp only [Act.put, List.setIfInBounds_toArray, List.set_cons_zero, List.set_cons_succ]
        refine wpAnyH_take (i := 20) (oi := ?oinone20) (v := ?vnone20) ?hinone20 (by kernel_rfl) (by kernel_rfl) (by kernel_rfl) ?hqnone20 ?hynone20 (by assumption) ?restnone20
        case hinone20 => (simp only [List.getElem?_toArray, List.getElem?_cons_succ, List.getElem?_cons_zero]; first | done | rfl)
        case hqnone20 => exact fun _ _ _ h => h
        case hynone20 => (refine Or.inl ⟨by rfl, ?_⟩; intro wz hSw; (try dsimp only at hSw); go_simp; first | done | with_reducible rfl)
        try simp only [Act.put, List.setIfInBounds_toArray, List.set_cons_zero, List.set_cons_succ]
        refine wpAnyH_take (i := 21) (oi := ?oinone21) (v := ?vnone21) ?hinone21 (by kernel_rfl) (by kernel_rfl) (by kernel_rfl) ?hqnone21 ?hynone21 (by assumption) ?restnone21
        case hinone21 => (simp only [List.getElem?_toArray, List.getElem?_cons_succ, List.getElem?_cons_zero]; first | done | rfl)
        case hqnone21 => exact fun _ _ _ h => h
        case hynone21 => (refine Or.inl ⟨by rfl, ?_⟩; intro wz hSw; (try dsimp only at hSw); go_simp; first | done | with_reducible rfl)
        try simp only [Act.put, List.setIfInBounds_toArray, List.set_cons_zero, List.set_cons_succ]
        refine wpAnyH_take (i := 22) (oi := ?oinone22) (v := ?vnone22) ?hinone22 (by kernel_rfl) (by kernel_rfl) (by kernel_rfl) ?hqnone22 ?hynone22 (by assumption) ?restnone22
        case hinone22 => (simp only [List.getElem?_toArray, List.getElem?_cons_succ, List.getElem?_cons_zero]; first | done | rfl)
        case hqnone22 => exact fun _ _ _ h => h
        case hynone22 => (refine Or.inl ⟨by rfl, ?_⟩; intro wz hSw; (try dsimp only at hSw); go_simp; first | done | with_reducible rfl)
        try simp only [Act.put, List.setIfInBounds_toArray, List.set_cons_zero, List.set_cons_succ]
        refine wpAnyH_take (i := 23) (oi := ?oinone23) (v := ?vnone23) ?hinone23 (by kernel_rfl) (by kernel_rfl) (by kernel_rfl) ?hqnone23 ?hynone23 (by assumption) ?restnone23
        case hinone23 => (simp only [List.getElem?_toArray, List.getElem?_cons_succ, List.getElem?_cons_zero]; first | done | rfl)
        case hqnone23 => exact fun _ _ _ h => h
        case hynone23 => (refine Or.inl ⟨by rfl, ?_⟩; intro wz hSw; (try dsimp only at hSw); go_simp; first | done | with_reducible rfl)
        try simp only [Act.put, List.setIfInBounds_toArray, List.set_cons_zero, List.set_cons_succ]
        refine wpAnyH_take (i := 24) (oi := ?oinone24) (v := undef) ?hinone24 (by kernel_rfl) (by kernel_rfl) (by kernel_rfl) ?hqnone24 ?hynone24 (by assumption) ?restnone24
        case hinone24 => (simp only [List.getElem?_toArray, List.getElem?_cons_succ, List.getElem?_cons_zero]; first | done | rfl)
        case hqnone24 => exact fun _ _ _ h => h
        case hynone24 => exact Or.inr ⟨by rfl, rfl⟩
        try simp only [Act.put, List.setIfInBounds_toArray, List.set_cons_zero, List.set_cons_succ]
        refine wpAnyH_take (i := 25) (oi := ?oinone25) (v := undef) ?hinone25 (by kernel_rfl) (by kernel_rfl) (by kernel_rfl) ?hqnone25 ?hynone25 (by assumption) ?restnone25
        case hinone25 => (simp only [List.getElem?_toArray, List.getElem?_cons_succ, List.getElem?_cons_zero]; first | done | rfl)
        case hqnone25 => exact fun _ _ _ h => h
        case hynone25 => exact Or.inr ⟨by rfl, rfl⟩
        try simp only [Act.put, List.setIfInBounds_toArray, List.set_cons_zero, List.set_cons_succ]
        refine wpAnyH_take (i := 26) (oi := ?oinone26) (v := undef) ?hinone26 (by kernel_rfl) (by kernel_rfl) (by kernel_rfl) ?hqnone26 ?hynone26 (by assumption) ?restnone26
        case hinone26 => (simp only [List.getElem?_toArray, List.getElem?_cons_succ, List.getElem?_cons_zero]; first | done | rfl)
        case hqnone26 => exact fun _ _ _ h => h
        case hynone26 => exact Or.inr ⟨by rfl, rfl⟩
        try simp only [Act.put, List.setIfInBounds_toArray, List.set_cons_zero, List.set_cons_succ]
        refine wpAnyH_take (i := 27) (oi := ?oinone27) (v := undef) ?hinone27 (by kernel_rfl) (by kernel_rfl) (by kernel_rfl) ?hqnone27 ?hynone27 (by assumption) ?restnone27
        case hinone27 => (simp only [List.getElem?_toArray, List.getElem?_cons_succ, List.getElem?_cons_zero]; first | done | rfl)
        case hqnone27 => exact fun _ _ _ h => h
        case hynone27 => exact Or.inr ⟨by rfl, rfl⟩
        try simp only [Act.put, List.setIfInBounds_toArray, List.set_cons_zero, List.set_cons_succ]
        refine wpAnyH_take (i := 28) (oi := ?oinone28) (v := undef) ?hinone28 (by kernel_rfl) (by kernel_rfl) (by kernel_rfl) ?hqnone28 ?hynone28 (by assumption) ?restnone28
        case hinone28 => (simp only [List.getElem?_toArray, List.getElem?_cons_succ, List.getElem?_cons_zero]; first | done | rfl)
        case hqnone28 => exact fun _ _ _ h => h
        case hynone28 => exact Or.inr ⟨by rfl, rfl⟩
        try simp only [Act.put, List.setIfInBounds_toArray, List.set_cons_zero, List.set_cons_succ]
        refine wpAnyH_take (i := 29) (oi := ?oinone29) (v := undef) ?hinone29 (by kernel_rfl) (by kernel_rfl) (by kernel_rfl) ?hqnone29 ?hynone29 (by assumption) ?restnone29
        case hinone29 => (simp only [List.getElem?_toArray, List.getElem?_cons_succ, List.getElem?_cons_zero]; first | done | rfl)
        case hqnone29 => exact fun _ _ _ h => h
        case hynone29 => exact Or.inr ⟨by rfl, rfl⟩
        try simp only [Act.put, List.setIfInBounds_toArray, List.set_cons_zero, List.set_cons_succ]
        refine wpAnyH_take (i := 30) (oi := ?oinone30) (v := ?vnone30) ?hinone30 (by kernel_rfl) (by kernel_rfl) (by kernel_rfl) ?hqnone30 ?hynone30 (by assumption) ?restnone30
        case hinone30 => (simp only [List.getElem?_toArray, List.getElem?_cons_succ, List.getElem?_cons_zero]; first | done | rfl)
        case hqnone30 => exact fun _ _ _ h => h
        case hynone30 => (refine Or.inl ⟨by rfl, ?_⟩; intro wz hSw; (try dsimp only at hSw); go_simp; first | done | with_reducible rfl)
        try simp only [Act.put, List.setIfInBounds_toArray, List.set_cons_zero, List.set_cons_succ]
        refine wpAnyH_take (i := 31) (oi := ?oinone31) (v := ?vnone31) ?hinone31 (by kernel_rfl) (by kernel_rfl) (by kernel_rfl) ?hqnone31 ?hynone31 (by assumption) ?restnone31
        case hinone31 => (simp only [List.getElem?_toArray, List.getElem?_cons_succ, List.getElem?_cons_zero]; first | done | rfl)
        case hqnone31 => exact fun _ _ _ h => h
        case hynone31 => (refine Or.inl ⟨by rfl, ?_⟩; intro wz hSw; (try dsimp only at hSw); go_simp; first | done | with_reducible rfl)
        try simp only [Act.put, List.setIfInBounds_toArray, List.set_cons_zero, List.set_cons_succ]
        refine wpAnyH_take (i := 32) (oi := ?oinone32) (v := ?vnone32) ?hinone32 (by kernel_rfl) (by kernel_rfl) (by kernel_rfl) ?hqnone32 ?hynone32 (by assumption) ?restnone32
        case hinone32 => (simp only [List.getElem?_toArray, List.getElem?_cons_succ, List.getElem?_cons_zero]; first | done | rfl)
        case hqnone32 => exact fun _ _ _ h => h
        case hynone32 => (refine Or.inl ⟨by rfl, ?_⟩; intro wz hSw; (try dsimp only at hSw); go_simp; first | done | with_reducible rfl)
        try simp only [Act.put, List.setIfInBounds_toArray, List.set_cons_zero, List.set_cons_succ]
        refine wpAnyH_take (i := 33) (oi := ?oinone33) (v := ?vnone33) ?hinone33 (by kernel_rfl) (by kernel_rfl) (by kernel_rfl) ?hqnone33 ?hynone33 (by assumption) ?restnone33
        case hinone33 => (simp only [List.getElem?_toArray, List.getElem?_cons_succ, List.getElem?_cons_zero]; first | done | rfl)
        case hqnone33 => exact fun _ _ _ h => h
        case hynone33 => (refine Or.inl ⟨by rfl, ?_⟩; intro wz hSw; (try dsimp only at hSw); go_simp; first | done | with_reducible rfl)
        try simp only [Act.put, List.setIfInBounds_toArray, List.set_cons_zero, List.set_cons_succ]
        refine wpAnyH_take (i := 34) (oi := ?oinone34) (v := ?vnone34) ?hinone34 (by kernel_rfl) (by kernel_rfl) (by kernel_rfl) ?hqnone34 ?hynone34 (by assumption) ?restnone34
        case hinone34 => (simp only [List.getElem?_toArray, List.getElem?_cons_succ, List.getElem?_cons_zero]; first | done | rfl)
        case hqnone34 => exact fun _ _ _ h => h
        case hynone34 => (refine Or.inl ⟨by rfl, ?_⟩; intro wz hSw; (try dsimp only at hSw); go_simp; first | done | with_reducible rfl)
        try simp only [Act.put, List.setIfInBounds_toArray, List.set_cons_zero, List.set_cons_succ]
        refine wpAnyH_take (i := 35) (oi := ?oinone35) (v := ?vnone35) ?hinone35 (by kernel_rfl) (by kernel_rfl) (by kernel_rfl) ?hqnone35 ?hynone35 (by assumption) ?restnone35
        case hinone35 => (simp only [List.getElem?_toArray, List.getElem?_cons_succ, List.getElem?_cons_zero]; first | done | rfl)
        case hqnone35 => exact fun _ _ _ h => h
        case hynone35 => (refine Or.inl ⟨by rfl, ?_⟩; intro wz hSw; (try dsimp only at hSw); go_simp; first | done | with_reducible rfl)
        try simp only [Act.put, List.setIfInBounds_toArray, List.set_cons_zero, List.set_cons_succ]
        refine wpAnyH_take (i := 36) (oi := ?oinone36) (v := ?vnone36) ?hinone36 (by kernel_rfl) (by kernel_rfl) (by kernel_rfl) ?hqnone36 ?hynone36 (by assumption) ?restnone36
        case hinone36 => (simp only [List.getElem?_toArray, List.getElem?_cons_succ, List.getElem?_cons_zero]; first | done | rfl)
        case hqnone36 => exact fun _ _ _ h => h
        case hynone36 => (refine Or.inl ⟨by rfl, ?_⟩; intro wz hSw; (try dsimp only at hSw); go_simp; first | done | with_reducible rfl)
        try simp only [Act.put, List.setIfInBounds_toArray, List.set_cons_zero, List.set_cons_succ]
        refine wpAnyH_take (i := 37) (oi := ?oinone37) (v := undef) ?hinone37 (by kernel_rfl) (by kernel_rfl) (by kernel_rfl) ?hqnone37 ?hynone37 (by assumption) ?restnone37
        case hinone37 => (simp only [List.getElem?_toArray, List.getElem?_cons_succ, List.getElem?_cons_zero]; first | done | rfl)
        case hqnone37 => exact fun _ _ _ h => h
        case hynone37 => exact Or.inr ⟨by rfl, rfl⟩
        try simp only [Act.put, List.setIfInBounds_toArray, List.set_cons_zero, List.set_cons_succ]
        refine wpAnyH_take (i := 38) (oi := ?oinone38) (v := undef) ?hinone38 (by kernel_rfl) (by kernel_rfl) (by kernel_rfl) ?hqnone38 ?hynone38 (by assumption) ?restnone38
        case hinone38 => (simp only [List.getElem?_toArray, List.getElem?_cons_succ, List.getElem?_cons_zero]; first | done | rfl)
        case hqnone38 => exact fun _ _ _ h => h
        case hynone38 => exact Or.inr ⟨by rfl, rfl⟩
        try simp only [Act.put, List.setIfInBounds_toArray, List.set_cons_zero, List.set_cons_succ]
        refine wpAnyH_take (i := 39) (oi := ?oinone39) (v := undef) ?hinone39 (by kernel_rfl) (by kernel_rfl) (by kernel_rfl) ?hqnone39 ?hynone39 (by assumption) ?restnone39
        case hinone39 => (simp only [List.getElem?_toArray, List.getElem?_cons_succ, List.getElem?_cons_zero]; first | done | rfl)
        case hqnone39 => exact fun _ _ _ h => h
        case hynone39 => exact Or.inr ⟨by rfl, rfl⟩
        try simp only [Act.put, List.setIfInBounds_toArray, List.set_cons_zero, List.set_cons_succ]
        refine wpAnyH_take (i := 40) (oi := ?oinone40) (v := undef) ?hinone40 (by kernel_rfl) (by kernel_rfl) (by kernel_rfl) ?hqnone40 ?hynone40 (by assumption) ?restnone40
        case hinone40 => (simp only [List.getElem?_toArray, List.getElem?_cons_succ, List.getElem?_cons_zero]; first | done | rfl)
        case hqnone40 => exact fun _ _ _ h => h
        case hynone40 => exact Or.inr ⟨by rfl, rfl⟩
        try simp only [Act.put, List.setIfInBounds_toArray, List.set_cons_zero, List.set_cons_succ]
        refine wpAnyH_take (i := 41) (oi := ?oinone41) (v := undef) ?hinone41 (by kernel_rfl) (by kernel_rfl) (by kernel_rfl) ?hqnone41 ?hynone41 (by assumption) ?restnone41
        case hinone41 => (simp only [List.getElem?_toArray, List.getElem?_cons_succ, List.getElem?_cons_zero]; first | done | rfl)
        case hqnone41 => exact fun _ _ _ h => h
        case hynone41 => exact Or.inr ⟨by rfl, rfl⟩
        try simp only [Act.put, List.setIfInBounds_toArray, List.set_cons_zero, List.set_cons_succ]
        refine wpAnyH_take (i := 42) (oi := ?oinone42) (v := undef) ?hinone42 (by kernel_rfl) (by kernel_rfl) (by kernel_rfl) ?hqnone42 ?hynone42 (by assumption) ?restnone42
        case hinone42 => (simp only [List.getElem?_toArray, List.getElem?_cons_succ, List.getElem?_cons_zero]; first | done | rfl)
        case hqnone42 => exact fun _ _ _ h => h
        case hynone42 => exact Or.inr ⟨by rfl, rfl⟩
        try simp only [Act.put, List.setIfInBounds_toArray, List.set_cons_zero, List.set_cons_succ]
        refine wpAnyH_take (i := 43) (oi := ?oinone43) (v := ?vnone43) ?hinone43 (by kernel_rfl) (by kernel_rfl) (by kernel_rfl) ?hqnone43 ?hynone43 (by assumption) ?restnone43
        case hinone43 => (simp only [List.getElem?_toArray, List.getElem?_cons_succ, List.getElem?_cons_zero]; first | done | rfl)
        case hqnone43 => exact fun _ _ _ h => h
        case hynone43 => (refine Or.inl ⟨by rfl, ?_⟩; intro wz hSw; (try dsimp only at hSw); go_simp; first | done | with_reducible rfl)
        try simp only [Act.put, List.setIfInBounds_toArray, List.set_cons_zero, List.set_cons_succ]
        refine wpAnyH_take (i := 44) (oi := ?oinone44) (v := ?vnone44) ?hinone44 (by kernel_rfl) (by kernel_rfl) (by kernel_rfl) ?hqnone44 ?hynone44 (by assumption) ?restnone44
        case hinone44 => (simp only [List.getElem?_toArray, List.getElem?_cons_succ, List.getElem?_cons_zero]; first | done | rfl)
        case hqnone44 => exact fun _ _ _ h => h
        case hynone44 => (refine Or.inl ⟨by rfl, ?_⟩; intro wz hSw; (try dsimp only at hSw); go_simp; first | done | with_reducible rfl)
        try simp only [Act.put, List.setIfInBounds_toArray, List.set_cons_zero, List.set_cons_succ]
        refine wpAnyH_take (i := 45) (oi := ?oinone45) (v := ?vnone45) ?hinone45 (by kernel_rfl) (by kernel_rfl) (by kernel_rfl) ?hqnone45 ?hynone45 (by assumption) ?restnone45
        case hinone45 => (simp only [List.getElem?_toArray, List.getElem?_cons_succ, List.getElem?_cons_zero]; first | done | rfl)
        case hqnone45 => exact fun _ _ _ h => h
        case hynone45 => (refine Or.inl ⟨by rfl, ?_⟩; intro wz hSw; (try dsimp only at hSw); go_simp; first | done | with_reducible rfl)
        try simp only [Act.put, List.setIfInBounds_toArray, List.set_cons_zero, List.set_cons_succ]
        refine wpAnyH_done (by kernel_rfl) ?_ _
        all_goals (go_wp2_with fail; go_ret; exact ⟨rfl, C8⟩)
      · have hnb : ((n : Int) == 0) = false := by simpa using hn0
        have hnd : decide ((n : Int) = 0) = false := by simpa using hn0
        have hK1 := Hpos.out hn0
        have J1 := Lib.hid (H1.out hK1)
        have hi1 : (1 : Int) < (L : Int) := by omega
        have hi1N : 1 < L := by omega
        by_cases hK2 : 2 ≤ K
        · have hk3 : decide ((L : Int) < 3) = false := by simp only [decide_eq_false_iff_not]; omega
          have J2 := Lib.hid (H2.out hK2)
          have hi2 : (2 : Int) < (L : Int) := by omega
          have hi2N : 2 < L := by omega
          obtain ⟨ba, offa, rfl, hba, -⟩ := ha4.at_ (k := 0) (by omega)
          have hId : Ints w4.drew w4.drew.heap.size A1 n zs := hI4
          have haD : Ints w4.drew w4.drew.heap.size (some ⟨ba, offa, none⟩) L (chainsR zs) := ha4
          have hCD : Below w.heap.size w w4.drew := below_drewN C4 1
          have hi0 : (0 : Int) < ((L : Nat) : Int) := by omega
          have hi0N : 0 < L := by omega
          clear hI4 ha4 hb4 C4
          obtain ⟨b', off', e1, -, hcc⟩ := haD.at_ (k := 0) (by omega)
          cases e1
          have s0 := hcc 0 (by omega); rw [H0.out] at s0
          simp only [Nat.add_zero] at s0
          have s1 := hcc 1 (by omega); rw [J1.out] at s1
          have s2 := hcc 2 (by omega); rw [J2.out] at s2
          clear hcc
          go_wp2_with fail
          first | go_region_held3 (fun w' => w'.cell? ⟨ba, offa, none⟩ = some (.int .i64 (1 : Int)) ∧ w'.cell? ⟨ba, offa + 1, none⟩ = some (.int .i64 (n : Int)) ∧ w'.cell? ⟨ba, offa + 2, none⟩ = some (.int .i64 (countR zs)))
            (first | exact ⟨y0, y1, y2⟩ | exact ⟨x0, x1, x2⟩ | exact ⟨v0, v1, v2⟩ | exact ⟨u0, u1, u2⟩ | exact ⟨t0, t1, t2⟩ | exact ⟨s0, s1, s2⟩)
            (first
            | (go_at_call 16; refine (DualOf_any A1 n c1 zs _ hId (by omega)).mono ?_; rintro e w5 ⟨A5, m5, c5, rfl, r5, hB5⟩; have z5 := hB5.size; have C5 := hCD.trans (hB5.mono hCD.size); have hI5 := hId.to hB5 (Nat.le_refl _) z5; have ha5 := haD.to hB5 (Nat.le_refl _) z5; have hd5 := r5.ints (B := w5.heap.size) (Nat.le_refl _); have e5 := r5.len; rw [HD.out] at hd5 e5; rw [HV2.out] at e5; subst e5; clear hB5 r5; obtain ⟨b', off', e1, -, hcc⟩ := ha5.at_ (k := 0) (by omega); cases e1; have t0 := hcc 0 (by omega); rw [H0.out] at t0; simp only [Nat.add_zero] at t0; have t1 := hcc 1 (by omega); rw [J1.out] at t1; have t2 := hcc 2 (by omega); rw [J2.out] at t2; clear hcc)
            | (go_at_call 35; refine (CountChains_any A5 n c5 (du zs) _ hd5 (by omega)).mono ?_; rintro e w6 ⟨A6, m6, c6, rfl, r6, hB6⟩; have z6 := hB6.size; have C6 := C5.trans (hB6.mono C5.size); have hI6 := hI5.to hB6 (Nat.le_refl _) z6; have ha6 := ha5.to hB6 (Nat.le_refl _) z6; have hx6 := r6.ints (B := w6.heap.size) (Nat.le_refl _); have e6 := r6.len; rw [HDV.out] at hx6 e6; rw [HV.out] at e6; subst e6; clear hB6 r6; obtain ⟨b', off', e1, -, hcc⟩ := ha6.at_ (k := 0) (by omega); cases e1; have u0 := hcc 0 (by omega); rw [H0.out] at u0; simp only [Nat.add_zero] at u0; have u1 := hcc 1 (by omega); rw [J1.out] at u1; have u2 := hcc 2 (by omega); rw [J2.out] at u2; clear hcc)
            | (go_at_call 17; refine (equalSame_any _ _ _ _ _ _ _ _ _ _ hx6 ha6 (by omega) (by omega)).mono ?_; rintro e w7 ⟨rfl, hB7⟩; have z7 := hB7.size; have C7 := C6.trans (hB7.mono C6.size); have hI7 := hI6.to hB7 (Nat.le_refl _) z7; have ha7 := ha6.to hB7 (Nat.le_refl _) z7; clear hB7; obtain ⟨b', off', e1, -, hcc⟩ := ha7.at_ (k := 0) (by omega); cases e1; have v0 := hcc 0 (by omega); rw [H0.out] at v0; simp only [Nat.add_zero] at v0; have v1 := hcc 1 (by omega); rw [J1.out] at v1; have v2 := hcc 2 (by omega); rw [J2.out] at v2; clear hcc)
            | (go_at_call 20; refine (LongestChain_any A1 n c1 zs _ hI7 (by omega)).mono ?_; rw [HLo.out]; rintro e w8 ⟨rfl, hB8⟩; have z8 := hB8.size; have C8 := C7.trans (hB8.mono C7.size); have hI8 := hI7.to hB8 (Nat.le_refl _) z8; have ha8 := ha7.to hB8 (Nat.le_refl _) z8; clear hB8; obtain ⟨b', off', e1, -, hcc⟩ := ha8.at_ (k := 0) (by omega); cases e1; have x0 := hcc 0 (by omega); rw [H0.out] at x0; simp only [Nat.add_zero] at x0; have x1 := hcc 1 (by omega); rw [J1.out] at x1; have x2 := hcc 2 (by omega); rw [J2.out] at x2; clear hcc)
            | (go_at_call 19; refine (CountPairs_any A1 n c1 zs _ hI8 (by omega)).mono ?_; rintro e w9 ⟨rfl, hB9⟩; have z9 := hB9.size; have C9 := C8.trans (hB9.mono C8.size); have ha9 := ha8.to hB9 (Nat.le_refl _) z9; obtain ⟨b', off', e1, -, hcc⟩ := ha9.at_ (k := 0) (by omega); cases e1; have y0 := hcc 0 (by omega); rw [H0.out] at y0; simp only [Nat.add_zero] at y0; have y1 := hcc 1 (by omega); rw [J1.out] at y1; have y2 := hcc 2 (by omega); rw [J2.out] at y2; clear hcc)) | fail
          all_goals (go_wp2_with fail; go_ret; exact ⟨rfl, C9⟩)
        · have hk3 : decide ((L : Int) < 3) = true := by simp only [decide_eq_true_eq]; omega
          obtain ⟨ba, offa, rfl, hba, -⟩ := ha4.at_ (k := 0) (by omega)
          have hId : Ints w4.drew w4.drew.heap.size A1 n zs := hI4
          have haD : Ints w4.drew w4.drew.heap.size (some ⟨ba, offa, none⟩) L (chainsR zs) := ha4
          have hCD : Below w.heap.size w w4.drew := below_drewN C4 1
          have hi0 : (0 : Int) < ((L : Nat) : Int) := by omega
          have hi0N : 0 < L := by omega
          clear hI4 ha4 hb4 C4
          obtain ⟨b', off', e1, -, hcc⟩ := haD.at_ (k := 0) (by omega)
          cases e1
          have s0 := hcc 0 (by omega); rw [H0.out] at s0
          simp only [Nat.add_zero] at s0
          have s1 := hcc 1 (by omega); rw [J1.out] at s1
          clear hcc
          go_wp2_with fail
          refine wp_region_held_drew (S := fun w' => w'.cell? ⟨ba, offa, none⟩ = some (.int .i64 (1 : Int)) ∧ w'.cell? ⟨ba, offa + 1, none⟩ = some (.int .i64 (n : Int))) (by kernel_rfl) ⟨s0, s1⟩ (fun hHeld => ?_)
          refine wpAnyH_take (i := 0) (oi := ?oione0) (v := ?vone0) ?hione0 (by kernel_rfl) (by kernel_rfl) (by kernel_rfl) ?hqone0 ?hyone0 (by assumption) ?restone0
          case hione0 => (simp only [List.getElem?_toArray, List.getElem?_cons_succ, List.getElem?_cons_zero]; first | done | rfl)
          case hqone0 => exact fun _ _ _ h => h
          case hyone0 => (refine Or.inl ⟨by rfl, ?_⟩; intro wz hSw; (try dsimp only at hSw); go_simp; first | done | with_reducible rfl)
          try simp only [Act.put, List.setIfInBounds_toArray, List.set_cons_zero, List.set_cons_succ]
          refine wpAnyH_take (i := 3) (oi := ?oione3) (v := ?vone3) ?hione3 (by kernel_rfl) (by kernel_rfl) (by kernel_rfl) ?hqone3 ?hyone3 (by assumption) ?restone3
          case hione3 => (simp only [List.getElem?_toArray, List.getElem?_cons_succ, List.getElem?_cons_zero]; first | done | rfl)
          case hqone3 => exact fun _ _ _ h => h
          case hyone3 => (refine Or.inl ⟨by rfl, ?_⟩; intro wz hSw; (try dsimp only at hSw); go_simp; first | done | with_reducible rfl)
          try simp only [Act.put, List.setIfInBounds_toArray, List.set_cons_zero, List.set_cons_succ]
          refine wpAnyH_ready (rs := [1]) (by kernel_rfl) (by simp) ?_
          refine AllReadyH.cons rfl (fun K' hK => ?_) AllReadyH.nil
          go_simp
          go_at_call 16
          refine (DualOf_any A1 n c1 zs _ hId (by omega)).mono ?_
          rintro e w5 ⟨A5, m5, c5, rfl, r5, hB5⟩
          have z5 := hB5.size
          have C5 := hCD.trans (hB5.mono hCD.size)
          have hI5 := hId.to hB5 (Nat.le_refl _) z5
          have ha5 := haD.to hB5 (Nat.le_refl _) z5
          have hd5 := r5.ints (B := w5.heap.size) (Nat.le_refl _)
          have e5 := r5.len
          rw [HD.out] at hd5 e5
          rw [HV2.out] at e5
          subst e5
          clear hB5 r5
          obtain ⟨b', off', e1, -, hcc⟩ := ha5.at_ (k := 0) (by omega); cases e1; have t0 := hcc 0 (by omega); rw [H0.out] at t0; simp only [Nat.add_zero] at t0; have t1 := hcc 1 (by omega); rw [J1.out] at t1; clear hcc
          refine hK.out _ _ ⟨t0, t1⟩ (fun hNew => ?_)
          clear hK K' hHeld
          have hHeld := hNew
          clear hNew
          try simp only [Act.put, List.setIfInBounds_toArray, List.set_cons_zero, List.set_cons_succ]
          refine wpAnyH_ready (rs := [2]) (by kernel_rfl) (by simp) ?_
          refine AllReadyH.cons rfl (fun K' hK => ?_) AllReadyH.nil
          go_simp
          go_at_call 35
          refine (CountChains_any A5 n c5 (du zs) _ hd5 (by omega)).mono ?_
          rintro e w6 ⟨A6, m6, c6, rfl, r6, hB6⟩
          have z6 := hB6.size
          have C6 := C5.trans (hB6.mono C5.size)
          have hI6 := hI5.to hB6 (Nat.le_refl _) z6
          have ha6 := ha5.to hB6 (Nat.le_refl _) z6
          have hx6 := r6.ints (B := w6.heap.size) (Nat.le_refl _)
          have e6 := r6.len
          rw [HDV.out] at hx6 e6
          rw [HV.out] at e6
          subst e6
          clear hB6 r6
          obtain ⟨b', off', e1, -, hcc⟩ := ha6.at_ (k := 0) (by omega); cases e1; have u0 := hcc 0 (by omega); rw [H0.out] at u0; simp only [Nat.add_zero] at u0; have u1 := hcc 1 (by omega); rw [J1.out] at u1; clear hcc
          refine hK.out _ _ ⟨u0, u1⟩ (fun hNew => ?_)
          clear hK K' hHeld
          have hHeld := hNew
          clear hNew
          try simp only [Act.put, List.setIfInBounds_toArray, List.set_cons_zero, List.set_cons_succ]
          refine wpAnyH_ready (rs := [4]) (by kernel_rfl) (by simp) ?_
          refine AllReadyH.cons rfl (fun K' hK => ?_) AllReadyH.nil
          go_simp
          go_at_call 17
          refine (equalSame_any _ _ _ _ _ _ _ _ _ _ hx6 ha6 (by omega) (by omega)).mono ?_
          rintro e w7 ⟨rfl, hB7⟩
          have z7 := hB7.size
          have C7 := C6.trans (hB7.mono C6.size)
          have hI7 := hI6.to hB7 (Nat.le_refl _) z7
          have ha7 := ha6.to hB7 (Nat.le_refl _) z7
          clear hB7
          obtain ⟨b', off', e1, -, hcc⟩ := ha7.at_ (k := 0) (by omega); cases e1; have v0 := hcc 0 (by omega); rw [H0.out] at v0; simp only [Nat.add_zero] at v0; have v1 := hcc 1 (by omega); rw [J1.out] at v1; clear hcc
          refine hK.out _ _ ⟨v0, v1⟩ (fun hNew => ?_)
          clear hK K' hHeld
          have hHeld := hNew
          clear hNew
          try simp only [Act.put, List.setIfInBounds_toArray, List.set_cons_zero, List.set_cons_succ]
          refine wpAnyH_take (i := 5) (oi := ?oione5) (v := ?vone5) ?hione5 (by kernel_rfl) (by kernel_rfl) (by kernel_rfl) ?hqone5 ?hyone5 (by assumption) ?restone5
          case hione5 => (simp only [List.getElem?_toArray, List.getElem?_cons_succ, List.getElem?_cons_zero]; first | done | rfl)
          case hqone5 => exact fun _ _ _ h => h
          case hyone5 => (refine Or.inl ⟨by rfl, ?_⟩; intro wz hSw; (try dsimp only at hSw); go_simp; first | done | with_reducible rfl)
          try simp only [Act.put, List.setIfInBounds_toArray, List.set_cons_zero, List.set_cons_succ]
          refine wpAnyH_take (i := 6) (oi := ?oione6) (v := ?vone6) ?hione6 (by kernel_rfl) (by kernel_rfl) (by kernel_rfl) ?hqone6 ?hyone6 (by assumption) ?restone6
          case hione6 => (simp only [List.getElem?_toArray, List.getElem?_cons_succ, List.getElem?_cons_zero]; first | done | rfl)
          case hqone6 => exact fun _ _ _ h => h
          case hyone6 => (refine Or.inl ⟨by rfl, ?_⟩; intro wz hSw; (try dsimp only at hSw); go_simp; first | done | with_reducible rfl)
          try simp only [Act.put, List.setIfInBounds_toArray, List.set_cons_zero, List.set_cons_succ]
          refine wpAnyH_take (i := 7) (oi := ?oione7) (v := ?vone7) ?hione7 (by kernel_rfl) (by kernel_rfl) (by kernel_rfl) ?hqone7 ?hyone7 (by assumption) ?restone7
          case hione7 => (simp only [List.getElem?_toArray, List.getElem?_cons_succ, List.getElem?_cons_zero]; first | done | rfl)
          case hqone7 => exact fun _ _ _ h => h
          case hyone7 => (refine Or.inl ⟨by rfl, ?_⟩; intro wz hSw; (try dsimp only at hSw); go_simp; first | done | with_reducible rfl)
          try simp only [Act.put, List.setIfInBounds_toArray, List.set_cons_zero, List.set_cons_succ]
          refine wpAnyH_take (i := 8) (oi := ?oione8) (v := ?vone8) ?hione8 (by kernel_rfl) (by kernel_rfl) (by kernel_rfl) ?hqone8 ?hyone8 (by assumption) ?restone8
          case hione8 => (simp only [List.getElem?_toArray, List.getElem?_cons_succ, List.getElem?_cons_zero]; first | done | rfl)
          case hqone8 => exact fun _ _ _ h => h
          case hyone8 => (refine Or.inl ⟨by rfl, ?_⟩; intro wz hSw; (try dsimp only at hSw); go_simp; first | done | with_reducible rfl)
          try simp only [Act.put, List.setIfInBounds_toArray, List.set_cons_zero, List.set_cons_succ]
          refine wpAnyH_ready (rs := [9]) (by kernel_rfl) (by simp) ?_
          refine AllReadyH.cons rfl (fun K' hK => ?_) AllReadyH.nil
          go_simp
          go_at_call 20
          refine (LongestChain_any A1 n c1 zs _ hI7 (by omega)).mono ?_
          rw [HLo.out]
          rintro e w8 ⟨rfl, hB8⟩
          have z8 := hB8.size
          have C8 := C7.trans (hB8.mono C7.size)
          have hI8 := hI7.to hB8 (Nat.le_refl _) z8
          have ha8 := ha7.to hB8 (Nat.le_refl _) z8
          clear hB8
          obtain ⟨b', off', e1, -, hcc⟩ := ha8.at_ (k := 0) (by omega); cases e1; have x0 := hcc 0 (by omega); rw [H0.out] at x0; simp only [Nat.add_zero] at x0; have x1 := hcc 1 (by omega); rw [J1.out] at x1; clear hcc
          refine hK.out _ _ ⟨x0, x1⟩ (fun hNew => ?_)
          clear hK K' hHeld
          have hHeld := hNew
          clear hNew
          try simp only [Act.put, List.setIfInBounds_toArray, List.set_cons_zero, List.set_cons_succ]
          clear z5 C5 hI5 ha5 hd5 z6 C6 hI6 ha6 hx6 z7 C7 hI7 ha7 z8 hI8 ha8 hId haD hCD s0 s1 t0 t1 u0 u1 v0 v1 x0 x1
          refine wpAnyH_take (i := 10) (oi := ?oione10) (v := ?vone10) ?hione10 (by kernel_rfl) (by kernel_rfl) (by kernel_rfl) ?hqone10 ?hyone10 (by assumption) ?restone10
          case hione10 => (simp only [List.getElem?_toArray, List.getElem?_cons_succ, List.getElem?_cons_zero]; first | done | rfl)
          case hqone10 => exact fun _ _ _ h => h
          case hyone10 => (refine Or.inl ⟨by rfl, ?_⟩; intro wz hSw; (try dsimp only at hSw); go_simp; first | done | with_reducible rfl)
          try simp only [Act.put, List.setIfInBounds_toArray, List.set_cons_zero, List.set_cons_succ]
          refine wpAnyH_take (i := 11) (oi := ?oione11) (v := ?vone11) ?hione11 (by kernel_rfl) (by kernel_rfl) (by kernel_rfl) ?hqone11 ?hyone11 (by assumption) ?restone11
          case hione11 => (simp only [List.getElem?_toArray, List.getElem?_cons_succ, List.getElem?_cons_zero]; first | done | rfl)
          case hqone11 => exact fun _ _ _ h => h
          case hyone11 => (refine Or.inl ⟨by rfl, ?_⟩; intro wz hSw; (try dsimp only at hSw); go_simp; first | done | with_reducible rfl)
          try simp only [Act.put, List.setIfInBounds_toArray, List.set_cons_zero, List.set_cons_succ]
          refine wpAnyH_take (i := 12) (oi := ?oione12) (v := ?vone12) ?hione12 (by kernel_rfl) (by kernel_rfl) (by kernel_rfl) ?hqone12 ?hyone12 (by assumption) ?restone12
          case hione12 => (simp only [List.getElem?_toArray, List.getElem?_cons_succ, List.getElem?_cons_zero]; first | done | rfl)
          case hqone12 => exact fun _ _ _ h => h
          case hyone12 => (refine Or.inl ⟨by rfl, ?_⟩; intro wz hSw; (try dsimp only at hSw); go_simp; first | done | with_reducible rfl)
          try simp only [Act.put, List.setIfInBounds_toArray, List.set_cons_zero, List.set_cons_succ]
          refine wpAnyH_take (i := 13) (oi := ?oione13) (v := ?vone13) ?hione13 (by kernel_rfl) (by kernel_rfl) (by kernel_rfl) ?hqone13 ?hyone13 (by assumption) ?restone13
          case hione13 => (simp only [List.getElem?_toArray, List.getElem?_cons_succ, List.getElem?_cons_zero]; first | done | rfl)
          case hqone13 => exact fun _ _ _ h => h
          case hyone13 => (refine Or.inl ⟨by rfl, ?_⟩; intro wz hSw; (try dsimp only at hSw); go_simp; first | done | with_reducible rfl)
          try simp only [Act.put, List.setIfInBounds_toArray, List.set_cons_zero, List.set_cons_succ]
          refine wpAnyH_take (i := 14) (oi := ?oione14) (v := ?vone14) ?hione14 (by kernel_rfl) (by kernel_rfl) (by kernel_rfl) ?hqone14 ?hyone14 (by assumption) ?restone14
          case hione14 => (simp only [List.getElem?_toArray, List.getElem?_cons_succ, List.getElem?_cons_zero]; first | done | rfl)
          case hqone14 => exact fun _ _ _ h => h
          case hyone14 => (refine Or.inl ⟨by rfl, ?_⟩; intro wz hSw; (try dsimp only at hSw); go_simp; first | done | with_reducible rfl)
          try simp only [Act.put, List.setIfInBounds_toArray, List.set_cons_zero, List.set_cons_succ]
          refine wpAnyH_take (i := 15) (oi := ?oione15) (v := ?vone15) ?hione15 (by kernel_rfl) (by kernel_rfl) (by kernel_rfl) ?hqone15 ?hyone15 (by assumption) ?restone15
          case hione15 => (simp only [List.getElem?_toArray, List.getElem?_cons_succ, List.getElem?_cons_zero]; first | done | rfl)
          case hqone15 => exact fun _ _ _ h => h
          case hyone15 => (refine Or.inl ⟨by rfl, ?_⟩; intro wz hSw; (try dsimp only at hSw); go_simp; first | done | with_reducible rfl)
          try simp only [Act.put, List.setIfInBounds_toArray, List.set_cons_zero, List.set_cons_succ]
          refine wpAnyH_take (i := 16) (oi := ?oione16) (v := ?vone16) ?hione16 (by kernel_rfl) (by kernel_rfl) (by kernel_rfl) ?hqone16 ?hyone16 (by assumption) ?restone16
          case hione16 => (simp only [List.getElem?_toArray, List.getElem?_cons_succ, List.getElem?_cons_zero]; first | done | rfl)
          case hqone16 => exact fun _ _ _ h => h
          case hyone16 => (refine Or.inl ⟨by rfl, ?_⟩; intro wz hSw; (try dsimp only at hSw); go_simp; first | done | with_reducible rfl)
          try simp only [Act.put, List.setIfInBounds_toArray, List.set_cons_zero, List.set_cons_succ]
          refine wpAnyH_take (i := 17) (oi := ?oione17) (v := ?vone17) ?hione17 (by kernel_rfl) (by kernel_rfl) (by kernel_rfl) ?hqone17 ?hyone17 (by assumption) ?restone17
          case hione17 => (simp only [List.getElem?_toArray, List.getElem?_cons_succ, List.getElem?_cons_zero]; first | done | rfl)
          case hqone17 => exact fun _ _ _ h => h
          case hyone17 => (refine Or.inl ⟨by rfl, ?_⟩; intro wz hSw; (try dsimp only at hSw); go_simp; first | done | with_reducible rfl)
          try simp only [Act.put, List.setIfInBounds_toArray, List.set_cons_zero, List.set_cons_succ]
          refine wpAnyH_take (i := 18) (oi := ?oione18) (v := ?vone18) ?hione18 (by kernel_rfl) (by kernel_rfl) (by kernel_rfl) ?hqone18 ?hyone18 (by assumption) ?restone18
          case hione18 => (simp only [List.getElem?_toArray, List.getElem?_cons_succ, List.getElem?_cons_zero]; first | done | rfl)
          case hqone18 => exact fun _ _ _ h => h
          case hyone18 => (refine Or.inl ⟨by rfl, ?_⟩; intro wz hSw; (try dsimp only at hSw); go_simp; first | done | with_reducible rfl)
          try simp only [Act.put, List.setIfInBounds_toArray, List.set_cons_zero, List.set_cons_succ]
          refine wpAnyH_take (i := 19) (oi := ?oione19) (v := ?vone19) ?hione19 (by kernel_rfl) (by kernel_rfl) (by kernel_rfl) ?hqone19 ?hyone19 (by assumption) ?restone19
          case hione19 => (simp only [List.getElem?_toArray, List.getElem?_cons_succ, List.getElem?_cons_zero]; first | done | rfl)
          case hqone19 => exact fun _ _ _ h => h
          case hyone19 => (refine Or.inl ⟨by rfl, ?_⟩; intro wz hSw; (try dsimp only at hSw); go_simp; first | done | with_reducible rfl)
          try simp only [Act.put, List.setIfInBounds_toArray, List.set_cons_zero, List.set_cons_succ]
          refine wpAnyH_take (i := 20) (oi := ?oione20) (v := ?vone20) ?hione20 (by kernel_rfl) (by kernel_rfl) (by kernel_rfl) ?hqone20 ?hyone20 (by assumption) ?restone20
          case hione20 => (simp only [List.getElem?_toArray, List.getElem?_cons_succ, List.getElem?_cons_zero]; first | done | rfl)
          case hqone20 => exact fun _ _ _ h => h
          case hyone20 => (refine Or.inl ⟨by rfl, ?_⟩; intro wz hSw; (try dsimp only at hSw); go_simp; first | done | with_reducible rfl)
          try simp only [Act.put, List.setIfInBounds_toArray, List.set_cons_zero, List.set_cons_succ]
          refine wpAnyH_take (i := 21) (oi := ?oione21) (v := ?vone21) ?hione21 (by kernel_rfl) (by kernel_rfl) (by kernel_rfl) ?hqone21 ?hyone21 (by assumption) ?restone21
          case hione21 => (simp only [List.getElem?_toArray, List.getElem?_cons_succ, List.getElem?_cons_zero]; first | done | rfl)
          case hqone21 => exact fun _ _ _ h => h
          case hyone21 => (refine Or.inl ⟨by rfl, ?_⟩; intro wz hSw; (try dsimp only at hSw); go_simp; first | done | with_reducible rfl)
          try simp only [Act.put, List.setIfInBounds_toArray, List.set_cons_zero, List.set_cons_succ]
          refine wpAnyH_take (i := 22) (oi := ?oione22) (v := ?vone22) ?hione22 (by kernel_rfl) (by kernel_rfl) (by kernel_rfl) ?hqone22 ?hyone22 (by assumption) ?restone22
          case hione22 => (simp only [List.getElem?_toArray, List.getElem?_cons_succ, List.getElem?_cons_zero]; first | done | rfl)
          case hqone22 => exact fun _ _ _ h => h
          case hyone22 => (refine Or.inl ⟨by rfl, ?_⟩; intro wz hSw; (try dsimp only at hSw); go_simp; first | done | with_reducible rfl)
          try simp only [Act.put, List.setIfInBounds_toArray, List.set_cons_zero, List.set_cons_succ]
          refine wpAnyH_take (i := 23) (oi := ?oione23) (v := ?vone23) ?hione23 (by kernel_rfl) (by kernel_rfl) (by kernel_rfl) ?hqone23 ?hyone23 (by assumption) ?restone23
          case hione23 => (simp only [List.getElem?_toArray, List.getElem?_cons_succ, List.getElem?_cons_zero]; first | done | rfl)
          case hqone23 => exact fun _ _ _ h => h
          case hyone23 => (refine Or.inl ⟨by rfl, ?_⟩; intro wz hSw; (try dsimp only at hSw); go_simp; first | done | with_reducible rfl)
          try simp only [Act.put, List.setIfInBounds_toArray, List.set_cons_zero, List.set_cons_succ]
          refine wpAnyH_take (i := 24) (oi := ?oione24) (v := ?vone24) ?hione24 (by kernel_rfl) (by kernel_rfl) (by kernel_rfl) ?hqone24 ?hyone24 (by assumption) ?restone24
          case hione24 => (simp only [List.getElem?_toArray, List.getElem?_cons_succ, List.getElem?_cons_zero]; first | done | rfl)
          case hqone24 => exact fun _ _ _ h => h
          case hyone24 => (refine Or.inl ⟨by rfl, ?_⟩; intro wz hSw; (try dsimp only at hSw); go_simp; first | done | with_reducible rfl)
          try simp only [Act.put, List.setIfInBounds_toArray, List.set_cons_zero, List.set_cons_succ]
          refine wpAnyH_take (i := 25) (oi := ?oione25) (v := ?vone25) ?hione25 (by kernel_rfl) (by kernel_rfl) (by kernel_rfl) ?hqone25 ?hyone25 (by assumption) ?restone25
          case hione25 => (simp only [List.getElem?_toArray, List.getElem?_cons_succ, List.getElem?_cons_zero]; first | done | rfl)
          case hqone25 => exact fun _ _ _ h => h
          case hyone25 => (refine Or.inl ⟨by rfl, ?_⟩; intro wz hSw; (try dsimp only at hSw); go_simp; first | done | with_reducible rfl)
          try simp only [Act.put, List.setIfInBounds_toArray, List.set_cons_zero, List.set_cons_succ]
          refine wpAnyH_take (i := 26) (oi := ?oione26) (v := ?vone26) ?hione26 (by kernel_rfl) (by kernel_rfl) (by kernel_rfl) ?hqone26 ?hyone26 (by assumption) ?restone26
          case hione26 => (simp only [List.getElem?_toArray, List.getElem?_cons_succ, List.getElem?_cons_zero]; first | done | rfl)
          case hqone26 => exact fun _ _ _ h => h
          case hyone26 => (refine Or.inl ⟨by rfl, ?_⟩; intro wz hSw; (try dsimp only at hSw); go_simp; first | done | with_reducible rfl)
          try simp only [Act.put, List.setIfInBounds_toArray, List.set_cons_zero, List.set_cons_succ]
          refine wpAnyH_take (i := 27) (oi := ?oione27) (v := ?vone27) ?hione27 (by kernel_rfl) (by kernel_rfl) (by kernel_rfl) ?hqone27 ?hyone27 (by assumption) ?restone27
          case hione27 => (simp only [List.getElem?_toArray, List.getElem?_cons_succ, List.getElem?_cons_zero]; first | done | rfl)
          case hqone27 => exact fun _ _ _ h => h
          case hyone27 => (refine Or.inl ⟨by rfl, ?_⟩; intro wz hSw; (try dsimp only at hSw); go_simp; first | done | with_reducible rfl)
          try simp only [Act.put, List.setIfInBounds_toArray, List.set_cons_zero, List.set_cons_succ]
          refine wpAnyH_take (i := 28) (oi := ?oione28) (v := ?vone28) ?hione28 (by kernel_rfl) (by kernel_rfl) (by kernel_rfl) ?hqone28 ?hyone28 (by assumption) ?restone28
          case hione28 => (simp only [List.getElem?_toArray, List.getElem?_cons_succ, List.getElem?_cons_zero]; first | done | rfl)
          case hqone28 => exact fun _ _ _ h => h
          case hyone28 => (refine Or.inl ⟨by rfl, ?_⟩; intro wz hSw; (try dsimp only at hSw); go_simp; first | done | with_reducible rfl)
          try simp only [Act.put, List.setIfInBounds_toArray, List.set_cons_zero, List.set_cons_succ]
          refine wpAnyH_take (i := 29) (oi := ?oione29) (v := ?vone29) ?hione29 (by kernel_rfl) (by kernel_rfl) (by kernel_rfl) ?hqone29 ?hyone29 (by assumption) ?restone29
          case hione29 => (simp only [List.getElem?_toArray, List.getElem?_cons_succ, List.getElem?_cons_zero]; first | done | rfl)
          case hqone29 => exact fun _ _ _ h => h
          case hyone29 => (refine Or.inl ⟨by rfl, ?_⟩; intro wz hSw; (try dsimp only at hSw); go_simp; first | done | with_reducible rfl)
          try simp only [Act.put, List.setIfInBounds_toArray, List.set_cons_zero, List.set_cons_succ]
          refine wpAnyH_take (i := 30) (oi := ?oione30) (v := ?vone30) ?hione30 (by kernel_rfl) (by kernel_rfl) (by kernel_rfl) ?hqone30 ?hyone30 (by assumption) ?restone30
          case hione30 => (simp only [List.getElem?_toArray, List.getElem?_cons_succ, List.getElem?_cons_zero]; first | done | rfl)
          case hqone30 => exact fun _ _ _ h => h
          case hyone30 => (refine Or.inl ⟨by rfl, ?_⟩; intro wz hSw; (try dsimp only at hSw); go_simp; first | done | with_reducible rfl)
          try simp only [Act.put, List.setIfInBounds_toArray, List.set_cons_zero, List.set_cons_succ]
          refine wpAnyH_take (i := 31) (oi := ?oione31) (v := ?vone31) ?hione31 (by kernel_rfl) (by kernel_rfl) (by kernel_rfl) ?hqone31 ?hyone31 (by assumption) ?restone31
          case hione31 => (simp only [List.getElem?_toArray, List.getElem?_cons_succ, List.getElem?_cons_zero]; first | done | rfl)
          case hqone31 => exact fun _ _ _ h => h
          case hyone31 => (refine Or.inl ⟨by rfl, ?_⟩; intro wz hSw; (try dsimp only at hSw); go_simp; first | done | with_reducible rfl)
          try simp only [Act.put, List.setIfInBounds_toArray, List.set_cons_zero, List.set_cons_succ]
          refine wpAnyH_take (i := 32) (oi := ?oione32) (v := ?vone32) ?hione32 (by kernel_rfl) (by kernel_rfl) (by kernel_rfl) ?hqone32 ?hyone32 (by assumption) ?restone32
          case hione32 => (simp only [List.getElem?_toArray, List.getElem?_cons_succ, List.getElem?_cons_zero]; first | done | rfl)
          case hqone32 => exact fun _ _ _ h => h
          case hyone32 => (refine Or.inl ⟨by rfl, ?_⟩; intro wz hSw; (try dsimp only at hSw); go_simp; first | done | with_reducible rfl)
          try simp only [Act.put, List.setIfInBounds_toArray, List.set_cons_zero, List.set_cons_succ]
          refine wpAnyH_take (i := 33) (oi := ?oione33) (v := ?vone33) ?hione33 (by kernel_rfl) (by kernel_rfl) (by kernel_rfl) ?hqone33 ?hyone33 (by assumption) ?restone33
          case hione33 => (simp only [List.getElem?_toArray, List.getElem?_cons_succ, List.getElem?_cons_zero]; first | done | rfl)
          case hqone33 => exact fun _ _ _ h => h
          case hyone33 => (refine Or.inl ⟨by rfl, ?_⟩; intro wz hSw; (try dsimp only at hSw); go_simp; first | done | with_reducible rfl)
          try simp only [Act.put, List.setIfInBounds_toArray, List.set_cons_zero, List.set_cons_succ]
          refine wpAnyH_take (i := 34) (oi := ?oione34) (v := ?vone34) ?hione34 (by kernel_rfl) (by kernel_rfl) (by kernel_rfl) ?hqone34 ?hyone34 (by assumption) ?restone34
          case hione34 => (simp only [List.getElem?_toArray, List.getElem?_cons_succ, List.getElem?_cons_zero]; first | done | rfl)
          case hqone34 => exact fun _ _ _ h => h
          case hyone34 => (refine Or.inl ⟨by rfl, ?_⟩; intro wz hSw; (try dsimp only at hSw); go_simp; first | done | with_reducible rfl)
          try simp only [Act.put, List.setIfInBounds_toArray, List.set_cons_zero, List.set_cons_succ]
          refine wpAnyH_take (i := 35) (oi := ?oione35) (v := ?vone35) ?hione35 (by kernel_rfl) (by kernel_rfl) (by kernel_rfl) ?hqone35 ?hyone35 (by assumption) ?restone35
          case hione35 => (simp only [List.getElem?_toArray, List.getElem?_cons_succ, List.getElem?_cons_zero]; first | done | rfl)
          case hqone35 => exact fun _ _ _ h => h
          case hyone35 => (refine Or.inl ⟨by rfl, ?_⟩; intro wz hSw; (try dsimp only at hSw); go_simp; first | done | with_reducible rfl)
          try simp only [Act.put, List.setIfInBounds_toArray, List.set_cons_zero, List.set_cons_succ]
          refine wpAnyH_take (i := 36) (oi := ?oione36) (v := ?vone36) ?hione36 (by kernel_rfl) (by kernel_rfl) (by kernel_rfl) ?hqone36 ?hyone36 (by assumption) ?restone36
          case hione36 => (simp only [List.getElem?_toArray, List.getElem?_cons_succ, List.getElem?_cons_zero]; first | done | rfl)
          case hqone36 => exact fun _ _ _ h => h
          case hyone36 => (refine Or.inl ⟨by rfl, ?_⟩; intro wz hSw; (try dsimp only at hSw); go_simp; first | done | with_reducible rfl)
          try simp only [Act.put, List.setIfInBounds_toArray, List.set_cons_zero, List.set_cons_succ]
          refine wpAnyH_take (i := 37) (oi := ?oione37) (v := undef) ?hione37 (by kernel_rfl) (by kernel_rfl) (by kernel_rfl) ?hqone37 ?hyone37 (by assumption) ?restone37
          case hione37 => (simp only [List.getElem?_toArray, List.getElem?_cons_succ, List.getElem?_cons_zero]; first | done | rfl)
          case hqone37 => exact fun _ _ _ h => h
          case hyone37 => exact Or.inr ⟨by rfl, rfl⟩
          try simp only [Act.put, List.setIfInBounds_toArray, List.set_cons_zero, List.set_cons_succ]
          refine wpAnyH_take (i := 38) (oi := ?oione38) (v := undef) ?hione38 (by kernel_rfl) (by kernel_rfl) (by kernel_rfl) ?hqone38 ?hyone38 (by assumption) ?restone38
          case hione38 => (simp only [List.getElem?_toArray, List.getElem?_cons_succ, List.getElem?_cons_zero]; first | done | rfl)
          case hqone38 => exact fun _ _ _ h => h
          case hyone38 => exact Or.inr ⟨by rfl, rfl⟩
          try simp only [Act.put, List.setIfInBounds_toArray, List.set_cons_zero, List.set_cons_succ]
          refine wpAnyH_take (i := 39) (oi := ?oione39) (v := undef) ?hione39 (by kernel_rfl) (by kernel_rfl) (by kernel_rfl) ?hqone39 ?hyone39 (by assumption) ?restone39
          case hione39 => (simp only [List.getElem?_toArray, List.getElem?_cons_succ, List.getElem?_cons_zero]; first | done | rfl)
          case hqone39 => exact fun _ _ _ h => h
          case hyone39 => exact Or.inr ⟨by rfl, rfl⟩
          try simp only [Act.put, List.setIfInBounds_toArray, List.set_cons_zero, List.set_cons_succ]
          refine wpAnyH_take (i := 40) (oi := ?oione40) (v := undef) ?hione40 (by kernel_rfl) (by kernel_rfl) (by kernel_rfl) ?hqone40 ?hyone40 (by assumption) ?restone40
          case hione40 => (simp only [List.getElem?_toArray, List.getElem?_cons_succ, List.getElem?_cons_zero]; first | done | rfl)
          case hqone40 => exact fun _ _ _ h => h
          case hyone40 => exact Or.inr ⟨by rfl, rfl⟩
          try simp only [Act.put, List.setIfInBounds_toArray, List.set_cons_zero, List.set_cons_succ]
          refine wpAnyH_take (i := 41) (oi := ?oione41) (v := undef) ?hione41 (by kernel_rfl) (by kernel_rfl) (by kernel_rfl) ?hqone41 ?hyone41 (by assumption) ?restone41
          case hione41 => (simp only [List.getElem?_toArray, List.getElem?_cons_succ, List.getElem?_cons_zero]; first | done | rfl)
          case hqone41 => exact fun _ _ _ h => h
          case hyone41 => exact Or.inr ⟨by rfl, rfl⟩
          try simp only [Act.put, List.setIfInBounds_toArray, List.set_cons_zero, List.set_cons_succ]
          refine wpAnyH_take (i := 42) (oi := ?oione42) (v := undef) ?hione42 (by kernel_rfl) (by kernel_rfl) (by kernel_rfl) ?hqone42 ?hyone42 (by assumption) ?restone42
          case hione42 => (simp only [List.getElem?_toArray, List.getElem?_cons_succ, List.getElem?_cons_zero]; first | done | rfl)
          case hqone42 => exact fun _ _ _ h => h
          case hyone42 => exact Or.inr ⟨by rfl, rfl⟩
          try simp only [Act.put, List.setIfInBounds_toArray, List.set_cons_zero, List.set_cons_succ]
          refine wpAnyH_take (i := 43) (oi := ?oione43) (v := ?vone43) ?hione43 (by kernel_rfl) (by kernel_rfl) (by kernel_rfl) ?hqone43 ?hyone43 (by assumption) ?restone43
          case hione43 => (simp only [List.getElem?_toArray, List.getElem?_cons_succ, List.getElem?_cons_zero]; first | done | rfl)
          case hqone43 => exact fun _ _ _ h => h
          case hyone43 => (refine Or.inl ⟨by rfl, ?_⟩; intro wz hSw; (try dsimp only at hSw); go_simp; first | done | with_reducible rfl)
          try simp only [Act.put, List.setIfInBounds_toArray, List.set_cons_zero, List.set_cons_succ]
          refine wpAnyH_take (i := 44) (oi := ?oione44) (v := ?vone44) ?hione44 (by kernel_rfl) (by kernel_rfl) (by kernel_rfl) ?hqone44 ?hyone44 (by assumption) ?restone44
          case hione44 => (simp only [List.getElem?_toArray, List.getElem?_cons_succ, List.getElem?_cons_zero]; first | done | rfl)
          case hqone44 => exact fun _ _ _ h => h
          case hyone44 => (refine Or.inl ⟨by rfl, ?_⟩; intro wz hSw; (try dsimp only at hSw); go_simp; first | done | with_reducible rfl)
          try simp only [Act.put, List.setIfInBounds_toArray, List.set_cons_zero, List.set_cons_succ]
          refine wpAnyH_take (i := 45) (oi := ?oione45) (v := ?vone45) ?hione45 (by kernel_rfl) (by kernel_rfl) (by kernel_rfl) ?hqone45 ?hyone45 (by assumption) ?restone45
          case hione45 => (simp only [List.getElem?_toArray, List.getElem?_cons_succ, List.getElem?_cons_zero]; first | done | rfl)
          case hqone45 => exact fun _ _ _ h => h
          case hyone45 => (refine Or.inl ⟨by rfl, ?_⟩; intro wz hSw; (try dsimp only at hSw); go_simp; first | done | with_reducible rfl)
          try simp only [Act.put, List.setIfInBounds_toArray, List.set_cons_zero, List.set_cons_succ]
          refine wpAnyH_done (by kernel_rfl) ?_ _
          all_goals (go_wp2_with fail; go_ret; exact ⟨rfl, C8⟩)
  · go_enter Try.func11, Try.ntmps11
    go_wp2
    go_ret
    exact ⟨rfl, Below.refl _ _⟩
end Go.Proofs.Ytgeicciieagbgaa

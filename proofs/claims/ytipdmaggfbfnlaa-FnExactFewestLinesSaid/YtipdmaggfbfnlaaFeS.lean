/- FewestLines: the model's, whole. -/
import Derived.Test.YtipdmaggfbfnlaaFeM
set_option linter.unusedVariables false
set_option linter.unusedSimpArgs false
namespace Go.Proofs.Ytipdmaggfbfnlaa
open Go.RowKit Go.Shelf
attribute [local go_sem] Oper.semAt_some

set_option maxRecDepth 100000 in
set_option maxHeartbeats 16000000 in
theorem specFewestLinesF_any (A : Option Addr) (n c : Nat) (zs : List Int) (w : World) (h : Ints w w.heap.size A n zs) (hbig : n ≤ 1152921504606846976) :
    Calls Try.prog 35 #[.slice A n c] w fun e w' => e = .returned (.int .i64 (fewLR zs)) ∧ Below w.heap.size w w' := by
  have hlen := Lib.hid h.len
  cases hv : vo zs
  · have Ht := Lib.hid (show fewLR zs = -1 by unfold fewLR; rw [hv]; rfl)
    go_enter Try.func35, Try.ntmps35
    go_wp2_with fail
    refine (validOrder_any _ _ _ _ zs _ h hbig).mono ?_
    rw [hv]
    rintro e w' ⟨rfl, m, rfl⟩
    go_wp2_with fail
    go_ret
    exact ⟨ret_int Ht.out.symm, below_drewN (Below.refl _ _) m⟩
  · have hvo : VoP zs := by simpa [vo] using hv
    have Hv := Lib.hid hv
    clear hv
    have hn6 : n ≤ 6 := by have := hvo.1; rw [hlen.out] at this; exact this
    have Hlr := Lib.hid (show linesR zs = (cG zs (2 ^ n - 1) : Int) by unfold linesR; rw [Hv.out, hlen.out]; rfl)
    have Hdu := Lib.hid (show downP n (pairsL zs) = du zs by unfold du; rw [hlen.out])
    have Hcnt := Lib.hid (alL_count (zs := zs) (by rw [hlen.out]; exact hn6))
    have Hal := Lib.hid (show alL zs = alG zs n [] 0 by unfold alL; rw [hlen.out])
    go_enter Try.func35, Try.ntmps35
    go_wp2_with fail
    refine (validOrder_any _ _ _ _ zs _ h hbig).mono ?_
    rw [Hv.out]
    rintro e w' ⟨rfl, m, rfl⟩
    have i1 : Ints (w.drewN m) (w.drewN m).heap.size A n zs := h.drewN m
    have B1 : Below w.heap.size w (w.drewN m) := below_drewN (Below.refl _ _) m
    generalize w.drewN m = w1 at *
    have z1 := B1.size
    go_wp2_with fail
    refine (scountLines_any A n c zs hvo _ i1).mono ?_
    rintro e w2 ⟨rfl, hB2⟩
    have B2 := B1.trans (hB2.mono z1)
    have i2 := i1.to hB2 (Nat.le_refl _) hB2.size
    have z2 := hB2.size
    by_cases hc : (cG zs (2 ^ n - 1) : Int) ≤ 60
    · have Ht := Lib.hid (show fewLR zs = fwN zs by unfold fewLR; rw [Hv.out, Hlr.out]; simp [hc])
      generalize (cG zs (2 ^ n - 1) : Int) = cc at *
      go_wp2_with fail
      refine (downOf_any A n c zs w2 i2 hvo.sets).mono ?_
      rintro e w3 ⟨rfl, hA3, hB3⟩
      rw [Hdu.out] at hA3
      have z3 := hB3.size
      have i3 := i2.to hB3 (Nat.le_refl _) z3
      have j3 := hA3.ints' (B := w3.heap.size) hA3.lt (by rw [du_len, hlen.out])
      have B3 := B2.trans (hB3.mono (by omega))
      clear hA3 hB3
      go_wp2_with fail
      have hown0 := own_new w3 3
      have hU0 : Upd (fun _ => False) w3 (w3.alloc (.cells #[] 3)) := (Upd.refl _ w3).alloc _
      have hB0 := hU0.toBelow (B := w3.heap.size) (fun _ e => e.elim) (Nat.le_refl _)
      have z4 := hB0.size
      refine (allLines_any zs hvo n hlen.out A _ c _ n [] 0 w3.heap.size 0 _ (by simp) (Int.le_refl _) (powI_pos _) (i3.to hB0 (Nat.le_refl _) z4) (j3.to hB0 (Nat.le_refl _) z4) (own_sooner hown0 (Nat.zero_le _))).mono ?_
      rintro e w4 ⟨v, g', c', rfl, ⟨L, rfl, hL, hR⟩, hB4⟩
      have hlt := hR.lt
      have HI := (⟨hR.own, hR.has, hR.apart, hR.pair, hlt.1, hlt.2⟩ : LnRows (fun k => k < w4.heap.size) w4 _ L).intsB (fun k e => e) rfl
      rw [hL, ← Hal.out] at HI
      have hLl : L.length = (alL zs).length := by rw [Hal.out, ← hL, List.length_map]
      rw [hLl] at HI ⊢
      have zB4 := hB4.size
      have HB := B3.trans ((hB0.trans (hB4.mono z4)).mono (by omega))
      have i4 := (i3.to hB0 (Nat.le_refl _) z4).to hB4 (Nat.le_refl _) zB4
      clear hR hlt hB4 hL hLl hown0 hU0 hB0 j3 i3 i2 i1 B1 B2 B3 hB2
      have Hnone := Lib.hid (fw_none (zs := zs) hvo)
      have Hsome := Lib.hid (fun h1 i k hi hk => fw_some (zs := zs) hvo h1 (i := i) (k := k) hi hk)
      have Hone := Lib.hid (show (alL zs).length = 1 → fwN zs = 1 from fun e => by unfold fwN; rw [if_pos e])
      have Hrl := Lib.hid (fun j (hj : j < (alL zs).length) => (show ((alL zs)[j]?.getD []).length = n by rw [List.getElem?_eq_getElem hj, ← hlen.out]; exact alL_rows _ (List.getElem_mem hj)))
      rw [hlen.out] at Hnone Hsome
      have hm : (alL zs).length ≤ 46656 := Hcnt.out
      clear Hcnt Hal
      generalize alL zs = rs at *
      obtain ⟨m2, hm2⟩ : ∃ m2, rs.length = m2 := ⟨_, rfl⟩
      rw [hm2] at HI hm Hnone Hsome Hone Hrl ⊢
      have Hm2 := Lib.hid hm2
      clear hm2
      by_cases h1 : m2 = 1
      · subst h1
        go_wp2_with fail
        go_ret
        exact ⟨ret_int (by rw [Ht.out, Hone.out (by trivial)]), HB⟩
      · have hne1 : ¬ ((m2 : Int) = 1) := by omega
        go_wp2_with fail
        go_loopw [4] (fun i wr => ∃ k : Nat, k ≤ m2 ∧ i = .int .i64 k ∧ Below w4.heap.size w4 wr) (fun i _ => m2 - (intOf i).toNat)
        case atStart => exact ⟨0, by omega, rfl, Below.refl _ _⟩
        case round =>
          obtain ⟨k, hk, rfl, hBr⟩ := hrel
          rename World => wr
          have zr := hBr.size
          by_cases hlt : k < m2
          · have hy : k < m2 := hlt
            have hx : 0 < m2 := by omega
            go_wp2
            have kB : Below w4.heap.size w4 wr.drew := hBr.drew
            obtain ⟨Wd, hWd⟩ : ∃ Wd, wr.drew = Wd := ⟨_, rfl⟩
            rw [hWd] at kB
            have zr := kB.size
            have HIr := HI.to kB (Nat.le_refl _) zr
            have ir := i4.to kB (Nat.le_refl _) zr
            obtain ⟨b, off, e, hb, hc⟩ := HIr.at_ hx
            cases e
            obtain ⟨A1, c1, hc1, hI1⟩ := hc (0) hx
            obtain ⟨A2, c2, hc2, hI2⟩ := hc (k) hy
            clear hc HIr
            rw [Nat.zero_add] at hc1 hc2
            have hr1 := Hrl.out (0) hx
            have hr2 := Hrl.out (k) hy
            have hs := Hsome.out h1 (k) (0) hy hx
            obtain ⟨r1, he1⟩ : ∃ r, rs[0]?.getD [] = r := ⟨_, rfl⟩
            obtain ⟨r2, he2⟩ : ∃ r, rs[k]?.getD [] = r := ⟨_, rfl⟩
            rw [he1] at hc1 hI1 hr1 hs
            rw [he2] at hc2 hI2 hr2 hs
            have Hs := Lib.hid hs
            have He1 := Lib.hid he1
            have He2 := Lib.hid he2
            clear hs he1 he2
            have hT := two_rows (w := Wd) (c1 := c1) (c2 := c2) (t := 22) hI1 hI2
            have hBa : Below Wd.heap.size Wd (Wd.alloc (.cells #[.slice A1 r1.length c1, .slice A2 r2.length c2] 22)) := (Below.refl _ _).alloc (Nat.le_refl _) _
            rw [hr1, hr2] at hT hBa
            have zl := hBa.size
            rw [hr1] at hc1
            rw [hr2] at hc2
            have hgl : g' < Wd.heap.size := hb
            have hcell1 := hBa.cell (p := ⟨g', 0, none⟩) hgl
            rw [hc1] at hcell1
            have hcell2 := hBa.cell (p := ⟨g', k, none⟩) hgl
            rw [hc2] at hcell2
            have Hmeet := Lib.hid (meetLines_any n _ 2 2 [r1, r2] _ hT hn6 (by omega) (by intro r hr; simp at hr; rcases hr with rfl | rfl <;> omega))
            have hIr2 := ir.to hBa (Nat.le_refl _) zl
            have hBr2 := kB.trans (hBa.mono zr)
            clear hI1 hI2 hT ir
            refine region_T (S := (fun w' => w'.cell? ⟨g', 0, none⟩ = some (.slice A1 n c1) ∧ w'.cell? ⟨g', k, none⟩ = some (.slice A2 n c2))) 12 (by kernel_rfl) ?_
            rw [hWd]
            clear hWd
            have hSd : (fun w' => w'.cell? ⟨g', 0, none⟩ = some (.slice A1 n c1) ∧ w'.cell? ⟨g', k, none⟩ = some (.slice A2 n c2)) Wd := ⟨hc1, hc2⟩
            have hSe : (fun w' => w'.cell? ⟨g', 0, none⟩ = some (.slice A1 n c1) ∧ w'.cell? ⟨g', k, none⟩ = some (.slice A2 n c2)) (Wd.alloc (.cells #[.slice A1 n c1, .slice A2 n c2] 22)) := ⟨hcell1, hcell2⟩
            have HSe := Lib.hid hSe
            clear hSe
            refine anyT_take (i := 0) (oi := ?oi0a) (v := .slice A n c) ?hi0a (by kernel_rfl) ?hq0a ?hy0a (by assumption) ?rest0a
            case hi0a => (simp only [List.getElem?_toArray, List.getElem?_cons_zero]; first | done | rfl)
            case hq0a => first | exact fun _ _ _ h => h | exact fun _ _ _ h => (by cases h.1)
            case hy0a => (refine Or.inl ⟨by rfl, ?_⟩; intro wz hSw; obtain ⟨hS1, hS2⟩ := hSw; go_simp; first | done | with_reducible rfl | simp | omega)
            try simp only [Act.put, List.setIfInBounds_toArray, List.set_cons_zero, List.set_cons_succ]
            refine anyT_take (i := 1) (oi := ?oi1a) (v := .int .i64 (n : Int)) ?hi1a (by kernel_rfl) ?hq1a ?hy1a (by assumption) ?rest1a
            case hi1a => (simp only [List.getElem?_toArray, List.getElem?_cons_succ, List.getElem?_cons_zero]; first | done | rfl)
            case hq1a => first | exact fun _ _ _ h => h | exact fun _ _ _ h => (by cases h.1)
            case hy1a => (refine Or.inl ⟨by rfl, ?_⟩; intro wz hSw; obtain ⟨hS1, hS2⟩ := hSw; go_simp; first | done | with_reducible rfl | simp | omega)
            try simp only [Act.put, List.setIfInBounds_toArray, List.set_cons_zero, List.set_cons_succ]
            refine anyT_take (i := 2) (oi := ?oi2a) (v := .slice (some ⟨g', 0, none⟩) m2 c') ?hi2a (by kernel_rfl) ?hq2a ?hy2a (by assumption) ?rest2a
            case hi2a => (simp only [List.getElem?_toArray, List.getElem?_cons_succ, List.getElem?_cons_zero]; first | done | rfl)
            case hq2a => first | exact fun _ _ _ h => h | exact fun _ _ _ h => (by cases h.1)
            case hy2a => (refine Or.inl ⟨by rfl, ?_⟩; intro wz hSw; obtain ⟨hS1, hS2⟩ := hSw; go_simp; first | done | with_reducible rfl | simp | omega)
            try simp only [Act.put, List.setIfInBounds_toArray, List.set_cons_zero, List.set_cons_succ]
            refine anyT_take (i := 3) (oi := ?oi3a) (v := .pointer (some ⟨g', 0, none⟩)) ?hi3a (by kernel_rfl) ?hq3a ?hy3a (by assumption) ?rest3a
            case hi3a => (simp only [List.getElem?_toArray, List.getElem?_cons_succ, List.getElem?_cons_zero]; first | done | rfl)
            case hq3a => first | exact fun _ _ _ h => h | exact fun _ _ _ h => (by cases h.1)
            case hy3a => (refine Or.inl ⟨by rfl, ?_⟩; intro wz hSw; obtain ⟨hS1, hS2⟩ := hSw; go_simp; first | done | with_reducible rfl | simp | omega)
            try simp only [Act.put, List.setIfInBounds_toArray, List.set_cons_zero, List.set_cons_succ]
            refine anyT_take (i := 4) (oi := ?oi4a) (v := .slice A1 n c1) ?hi4a (by kernel_rfl) ?hq4a ?hy4a (by assumption) ?rest4a
            case hi4a => (simp only [List.getElem?_toArray, List.getElem?_cons_succ, List.getElem?_cons_zero]; first | done | rfl)
            case hq4a => first | exact fun _ _ _ h => h | exact fun _ _ _ h => (by cases h.1)
            case hy4a => (refine Or.inl ⟨by rfl, ?_⟩; intro wz hSw; obtain ⟨hS1, hS2⟩ := hSw; go_simp; first | done | with_reducible rfl | simp | omega)
            try simp only [Act.put, List.setIfInBounds_toArray, List.set_cons_zero, List.set_cons_succ]
            refine anyT_take (i := 5) (oi := ?oi5a) (v := .slice (some ⟨g', 0, none⟩) m2 c') ?hi5a (by kernel_rfl) ?hq5a ?hy5a (by assumption) ?rest5a
            case hi5a => (simp only [List.getElem?_toArray, List.getElem?_cons_succ, List.getElem?_cons_zero]; first | done | rfl)
            case hq5a => first | exact fun _ _ _ h => h | exact fun _ _ _ h => (by cases h.1)
            case hy5a => (refine Or.inl ⟨by rfl, ?_⟩; intro wz hSw; obtain ⟨hS1, hS2⟩ := hSw; go_simp; first | done | with_reducible rfl | simp | omega)
            try simp only [Act.put, List.setIfInBounds_toArray, List.set_cons_zero, List.set_cons_succ]
            refine anyT_take (i := 6) (oi := ?oi6a) (v := .int .i64 (k : Int)) ?hi6a (by kernel_rfl) ?hq6a ?hy6a (by assumption) ?rest6a
            case hi6a => (simp only [List.getElem?_toArray, List.getElem?_cons_succ, List.getElem?_cons_zero]; first | done | rfl)
            case hq6a => first | exact fun _ _ _ h => h | exact fun _ _ _ h => (by cases h.1)
            case hy6a => (refine Or.inl ⟨by rfl, ?_⟩; intro wz hSw; obtain ⟨hS1, hS2⟩ := hSw; go_simp; first | done | with_reducible rfl | simp | omega)
            try simp only [Act.put, List.setIfInBounds_toArray, List.set_cons_zero, List.set_cons_succ]
            refine anyT_take (i := 7) (oi := ?oi7a) (v := .pointer (some ⟨g', k, none⟩)) ?hi7a (by kernel_rfl) ?hq7a ?hy7a (by assumption) ?rest7a
            case hi7a => (simp only [List.getElem?_toArray, List.getElem?_cons_succ, List.getElem?_cons_zero]; first | done | rfl)
            case hq7a => first | exact fun _ _ _ h => h | exact fun _ _ _ h => (by cases h.1)
            case hy7a => (refine Or.inl ⟨by rfl, ?_⟩; intro wz hSw; obtain ⟨hS1, hS2⟩ := hSw; go_simp; first | done | with_reducible rfl | simp | omega)
            try simp only [Act.put, List.setIfInBounds_toArray, List.set_cons_zero, List.set_cons_succ]
            refine anyT_take (i := 8) (oi := ?oi8a) (v := .slice A2 n c2) ?hi8a (by kernel_rfl) ?hq8a ?hy8a (by assumption) ?rest8a
            case hi8a => (simp only [List.getElem?_toArray, List.getElem?_cons_succ, List.getElem?_cons_zero]; first | done | rfl)
            case hq8a => first | exact fun _ _ _ h => h | exact fun _ _ _ h => (by cases h.1)
            case hy8a => (refine Or.inl ⟨by rfl, ?_⟩; intro wz hSw; obtain ⟨hS1, hS2⟩ := hSw; go_simp; first | done | with_reducible rfl | simp | omega)
            try simp only [Act.put, List.setIfInBounds_toArray, List.set_cons_zero, List.set_cons_succ]
            refine anyT_take (i := 11) (oi := ?oi11a) (v := .slice A n c) ?hi11a (by kernel_rfl) ?hq11a ?hy11a (by assumption) ?rest11a
            case hi11a => (simp only [List.getElem?_toArray, List.getElem?_cons_succ, List.getElem?_cons_zero]; first | done | rfl)
            case hq11a => first | exact fun _ _ _ h => h | exact fun _ _ _ h => (by cases h.1)
            case hy11a => (refine Or.inl ⟨by rfl, ?_⟩; intro wz hSw; obtain ⟨hS1, hS2⟩ := hSw; go_simp; first | done | with_reducible rfl | simp | omega)
            try simp only [Act.put, List.setIfInBounds_toArray, List.set_cons_zero, List.set_cons_succ]
            refine anyT_one (i := 9) (by kernel_rfl) rfl (fun K' hK => ?_)
            go_simp
            refine hK.out _ _ (fun _ => HSe.out) ?_
            clear hK K'
            try simp only [Act.put, List.setIfInBounds_toArray, List.set_cons_zero, List.set_cons_succ]
            refine anyT_one (i := 10) (by kernel_rfl) rfl (fun K' hK => ?_)
            go_simp
            refine Hmeet.out.mono ?_
            rintro e w6 ⟨rfl, hA6, hB6⟩
            have z6 := hB6.size
            have i6 := hIr2.to hB6 (Nat.le_refl _) z6
            have hml := meL_len n [r1, r2]
            have j6 := hA6.ints' (B := w6.heap.size) hA6.lt hml
            rw [World.size_alloc] at j6
            have D6 := hBr2.trans (hB6.mono (by omega))
            have hS6 : (fun w' => w'.cell? ⟨g', 0, none⟩ = some (.slice A1 n c1) ∧ w'.cell? ⟨g', k, none⟩ = some (.slice A2 n c2)) w6 := ⟨(hB6.cell (p := ⟨g', 0, none⟩) (show g' < _ by omega)).trans HSe.out.1, (hB6.cell (p := ⟨g', k, none⟩) (show g' < _ by omega)).trans HSe.out.2⟩
            refine hK.out _ _ (fun _ => hS6) ?_
            clear hK K'
            try simp only [Act.put, List.setIfInBounds_toArray, List.set_cons_zero, List.set_cons_succ]
            refine anyT_one (i := 12) (by kernel_rfl) rfl (fun K' hK => ?_)
            go_simp
            refine (sameInts_any _ _ _ _ _ _ _ _ _ _ w6 j6 i6 (by omega) (by omega)).mono ?_
            rintro e w7 ⟨rfl, q, rfl⟩
            have D7 := below_drewN D6 q
            refine hK.out _ _ (fun h => absurd rfl h) ?_
            clear hK K'
            try simp only [Act.put, List.setIfInBounds_toArray, List.set_cons_zero, List.set_cons_succ]
            refine anyT_done (by kernel_rfl) ?_ _
            generalize w6.drewN q = w7 at *
            by_cases heq : meL n [r1, r2] = zs
            · have hd : decide (meL n [r1, r2] = zs) = true := by simp [heq]
              have Hq := Lib.hid heq
              clear heq
              rw [hd]
              go_wp2
              go_ret
              exact ⟨ret_int (by rw [Ht.out, Hs.out Hq.out]), HB.trans (D7.mono (by omega))⟩
            · have hd : decide (meL n [r1, r2] = zs) = false := by simp [heq]
              rw [hd]
              have Hne := Lib.hid heq
              clear heq
              go_wp2
              go_roundw
              case rel => first | exact ⟨k + 1, by omega, by go_num, D7⟩ | exact ⟨k + 1, by omega, by go_num⟩
              case measure => simp [intOf]; omega
          · have hkm : m2 = k := by omega
            subst hkm
            go_wp2_with fail
            go_loopw [5] (fun i wy => ∃ i2 : Nat, i2 ≤ m2 ∧ i = .int .i64 i2 ∧ Below w4.heap.size w4 wy ∧ Hid (∀ x, x < i2 → ∀ y, y < x → meL n [rs[y]?.getD [], rs[x]?.getD []] ≠ zs)) (fun i _ => m2 - (intOf i).toNat)
            case atStart => exact ⟨0, by omega, rfl, hBr, Lib.hid (fun x hx => absurd hx (Nat.not_lt_zero _))⟩
            case round =>
              clear hBr zr
              obtain ⟨i2, hi2, rfl, hBx, Hout⟩ := hrel
              rename World => wx
              have zx := hBx.size
              by_cases hlt2 : i2 < m2
              · go_wp2_with fail
                go_loopw [6] (fun v wy => ∃ k2 : Nat, k2 ≤ i2 ∧ v = .int .i64 k2 ∧ Below w4.heap.size w4 wy ∧ Hid (∀ y, y < k2 → meL n [rs[y]?.getD [], rs[i2]?.getD []] ≠ zs)) (fun v _ => i2 - (intOf v).toNat)
                case atStart => exact ⟨0, by omega, rfl, hBx, Lib.hid (fun x hx => absurd hx (Nat.not_lt_zero _))⟩
                case round =>
                  clear hBx zx
                  obtain ⟨k2, hk2, rfl, hBy, Hin⟩ := hrel
                  rename World => wy
                  by_cases hlt3 : k2 < i2
                  · have hy : i2 < m2 := hlt2
                    have hx : k2 < m2 := by omega
                    go_wp2
                    have kB : Below w4.heap.size w4 wy.drew := hBy.drew
                    obtain ⟨Wd, hWd⟩ : ∃ Wd, wy.drew = Wd := ⟨_, rfl⟩
                    rw [hWd] at kB
                    have zr := kB.size
                    have HIr := HI.to kB (Nat.le_refl _) zr
                    have ir := i4.to kB (Nat.le_refl _) zr
                    obtain ⟨b, off, e, hb, hc⟩ := HIr.at_ hx
                    cases e
                    obtain ⟨A1, c1, hc1, hI1⟩ := hc (k2) hx
                    obtain ⟨A2, c2, hc2, hI2⟩ := hc (i2) hy
                    clear hc HIr
                    rw [Nat.zero_add] at hc1 hc2
                    have hr1 := Hrl.out (k2) hx
                    have hr2 := Hrl.out (i2) hy
                    have hs := Hsome.out h1 (i2) (k2) hy hx
                    obtain ⟨r1, he1⟩ : ∃ r, rs[k2]?.getD [] = r := ⟨_, rfl⟩
                    obtain ⟨r2, he2⟩ : ∃ r, rs[i2]?.getD [] = r := ⟨_, rfl⟩
                    rw [he1] at hc1 hI1 hr1 hs
                    rw [he2] at hc2 hI2 hr2 hs
                    have Hs := Lib.hid hs
                    have He1 := Lib.hid he1
                    have He2 := Lib.hid he2
                    clear hs he1 he2
                    have hT := two_rows (w := Wd) (c1 := c1) (c2 := c2) (t := 22) hI1 hI2
                    have hBa : Below Wd.heap.size Wd (Wd.alloc (.cells #[.slice A1 r1.length c1, .slice A2 r2.length c2] 22)) := (Below.refl _ _).alloc (Nat.le_refl _) _
                    rw [hr1, hr2] at hT hBa
                    have zl := hBa.size
                    rw [hr1] at hc1
                    rw [hr2] at hc2
                    have hgl : g' < Wd.heap.size := hb
                    have hcell1 := hBa.cell (p := ⟨g', k2, none⟩) hgl
                    rw [hc1] at hcell1
                    have hcell2 := hBa.cell (p := ⟨g', i2, none⟩) hgl
                    rw [hc2] at hcell2
                    have Hmeet := Lib.hid (meetLines_any n _ 2 2 [r1, r2] _ hT hn6 (by omega) (by intro r hr; simp at hr; rcases hr with rfl | rfl <;> omega))
                    have hIr2 := ir.to hBa (Nat.le_refl _) zl
                    have hBr2 := kB.trans (hBa.mono zr)
                    clear hI1 hI2 hT ir
                    refine region_T (S := (fun w' => w'.cell? ⟨g', k2, none⟩ = some (.slice A1 n c1) ∧ w'.cell? ⟨g', i2, none⟩ = some (.slice A2 n c2))) 13 (by kernel_rfl) ?_
                    rw [hWd]
                    clear hWd
                    have hSd : (fun w' => w'.cell? ⟨g', k2, none⟩ = some (.slice A1 n c1) ∧ w'.cell? ⟨g', i2, none⟩ = some (.slice A2 n c2)) Wd := ⟨hc1, hc2⟩
                    have hSe : (fun w' => w'.cell? ⟨g', k2, none⟩ = some (.slice A1 n c1) ∧ w'.cell? ⟨g', i2, none⟩ = some (.slice A2 n c2)) (Wd.alloc (.cells #[.slice A1 n c1, .slice A2 n c2] 22)) := ⟨hcell1, hcell2⟩
                    have HSe := Lib.hid hSe
                    clear hSe
                    refine anyT_take (i := 0) (oi := ?oi0b) (v := .slice A n c) ?hi0b (by kernel_rfl) ?hq0b ?hy0b (by assumption) ?rest0b
                    case hi0b => (simp only [List.getElem?_toArray, List.getElem?_cons_zero]; first | done | rfl)
                    case hq0b => first | exact fun _ _ _ h => h | exact fun _ _ _ h => (by cases h.1)
                    case hy0b => (refine Or.inl ⟨by rfl, ?_⟩; intro wz hSw; obtain ⟨hS1, hS2⟩ := hSw; go_simp; first | done | with_reducible rfl | simp | omega)
                    try simp only [Act.put, List.setIfInBounds_toArray, List.set_cons_zero, List.set_cons_succ]
                    refine anyT_take (i := 1) (oi := ?oi1b) (v := .int .i64 (n : Int)) ?hi1b (by kernel_rfl) ?hq1b ?hy1b (by assumption) ?rest1b
                    case hi1b => (simp only [List.getElem?_toArray, List.getElem?_cons_succ, List.getElem?_cons_zero]; first | done | rfl)
                    case hq1b => first | exact fun _ _ _ h => h | exact fun _ _ _ h => (by cases h.1)
                    case hy1b => (refine Or.inl ⟨by rfl, ?_⟩; intro wz hSw; obtain ⟨hS1, hS2⟩ := hSw; go_simp; first | done | with_reducible rfl | simp | omega)
                    try simp only [Act.put, List.setIfInBounds_toArray, List.set_cons_zero, List.set_cons_succ]
                    refine anyT_take (i := 2) (oi := ?oi2b) (v := .slice (some ⟨g', 0, none⟩) m2 c') ?hi2b (by kernel_rfl) ?hq2b ?hy2b (by assumption) ?rest2b
                    case hi2b => (simp only [List.getElem?_toArray, List.getElem?_cons_succ, List.getElem?_cons_zero]; first | done | rfl)
                    case hq2b => first | exact fun _ _ _ h => h | exact fun _ _ _ h => (by cases h.1)
                    case hy2b => (refine Or.inl ⟨by rfl, ?_⟩; intro wz hSw; obtain ⟨hS1, hS2⟩ := hSw; go_simp; first | done | with_reducible rfl | simp | omega)
                    try simp only [Act.put, List.setIfInBounds_toArray, List.set_cons_zero, List.set_cons_succ]
                    refine anyT_take (i := 3) (oi := ?oi3b) (v := .int .i64 (k2 : Int)) ?hi3b (by kernel_rfl) ?hq3b ?hy3b (by assumption) ?rest3b
                    case hi3b => (simp only [List.getElem?_toArray, List.getElem?_cons_succ, List.getElem?_cons_zero]; first | done | rfl)
                    case hq3b => first | exact fun _ _ _ h => h | exact fun _ _ _ h => (by cases h.1)
                    case hy3b => (refine Or.inl ⟨by rfl, ?_⟩; intro wz hSw; obtain ⟨hS1, hS2⟩ := hSw; go_simp; first | done | with_reducible rfl | simp | omega)
                    try simp only [Act.put, List.setIfInBounds_toArray, List.set_cons_zero, List.set_cons_succ]
                    refine anyT_take (i := 4) (oi := ?oi4b) (v := .pointer (some ⟨g', k2, none⟩)) ?hi4b (by kernel_rfl) ?hq4b ?hy4b (by assumption) ?rest4b
                    case hi4b => (simp only [List.getElem?_toArray, List.getElem?_cons_succ, List.getElem?_cons_zero]; first | done | rfl)
                    case hq4b => first | exact fun _ _ _ h => h | exact fun _ _ _ h => (by cases h.1)
                    case hy4b => (refine Or.inl ⟨by rfl, ?_⟩; intro wz hSw; obtain ⟨hS1, hS2⟩ := hSw; go_simp; first | done | with_reducible rfl | simp | omega)
                    try simp only [Act.put, List.setIfInBounds_toArray, List.set_cons_zero, List.set_cons_succ]
                    refine anyT_take (i := 5) (oi := ?oi5b) (v := .slice A1 n c1) ?hi5b (by kernel_rfl) ?hq5b ?hy5b (by assumption) ?rest5b
                    case hi5b => (simp only [List.getElem?_toArray, List.getElem?_cons_succ, List.getElem?_cons_zero]; first | done | rfl)
                    case hq5b => first | exact fun _ _ _ h => h | exact fun _ _ _ h => (by cases h.1)
                    case hy5b => (refine Or.inl ⟨by rfl, ?_⟩; intro wz hSw; obtain ⟨hS1, hS2⟩ := hSw; go_simp; first | done | with_reducible rfl | simp | omega)
                    try simp only [Act.put, List.setIfInBounds_toArray, List.set_cons_zero, List.set_cons_succ]
                    refine anyT_take (i := 6) (oi := ?oi6b) (v := .slice (some ⟨g', 0, none⟩) m2 c') ?hi6b (by kernel_rfl) ?hq6b ?hy6b (by assumption) ?rest6b
                    case hi6b => (simp only [List.getElem?_toArray, List.getElem?_cons_succ, List.getElem?_cons_zero]; first | done | rfl)
                    case hq6b => first | exact fun _ _ _ h => h | exact fun _ _ _ h => (by cases h.1)
                    case hy6b => (refine Or.inl ⟨by rfl, ?_⟩; intro wz hSw; obtain ⟨hS1, hS2⟩ := hSw; go_simp; first | done | with_reducible rfl | simp | omega)
                    try simp only [Act.put, List.setIfInBounds_toArray, List.set_cons_zero, List.set_cons_succ]
                    refine anyT_take (i := 7) (oi := ?oi7b) (v := .int .i64 (i2 : Int)) ?hi7b (by kernel_rfl) ?hq7b ?hy7b (by assumption) ?rest7b
                    case hi7b => (simp only [List.getElem?_toArray, List.getElem?_cons_succ, List.getElem?_cons_zero]; first | done | rfl)
                    case hq7b => first | exact fun _ _ _ h => h | exact fun _ _ _ h => (by cases h.1)
                    case hy7b => (refine Or.inl ⟨by rfl, ?_⟩; intro wz hSw; obtain ⟨hS1, hS2⟩ := hSw; go_simp; first | done | with_reducible rfl | simp | omega)
                    try simp only [Act.put, List.setIfInBounds_toArray, List.set_cons_zero, List.set_cons_succ]
                    refine anyT_take (i := 8) (oi := ?oi8b) (v := .pointer (some ⟨g', i2, none⟩)) ?hi8b (by kernel_rfl) ?hq8b ?hy8b (by assumption) ?rest8b
                    case hi8b => (simp only [List.getElem?_toArray, List.getElem?_cons_succ, List.getElem?_cons_zero]; first | done | rfl)
                    case hq8b => first | exact fun _ _ _ h => h | exact fun _ _ _ h => (by cases h.1)
                    case hy8b => (refine Or.inl ⟨by rfl, ?_⟩; intro wz hSw; obtain ⟨hS1, hS2⟩ := hSw; go_simp; first | done | with_reducible rfl | simp | omega)
                    try simp only [Act.put, List.setIfInBounds_toArray, List.set_cons_zero, List.set_cons_succ]
                    refine anyT_take (i := 9) (oi := ?oi9b) (v := .slice A2 n c2) ?hi9b (by kernel_rfl) ?hq9b ?hy9b (by assumption) ?rest9b
                    case hi9b => (simp only [List.getElem?_toArray, List.getElem?_cons_succ, List.getElem?_cons_zero]; first | done | rfl)
                    case hq9b => first | exact fun _ _ _ h => h | exact fun _ _ _ h => (by cases h.1)
                    case hy9b => (refine Or.inl ⟨by rfl, ?_⟩; intro wz hSw; obtain ⟨hS1, hS2⟩ := hSw; go_simp; first | done | with_reducible rfl | simp | omega)
                    try simp only [Act.put, List.setIfInBounds_toArray, List.set_cons_zero, List.set_cons_succ]
                    refine anyT_take (i := 12) (oi := ?oi12b) (v := .slice A n c) ?hi12b (by kernel_rfl) ?hq12b ?hy12b (by assumption) ?rest12b
                    case hi12b => (simp only [List.getElem?_toArray, List.getElem?_cons_succ, List.getElem?_cons_zero]; first | done | rfl)
                    case hq12b => first | exact fun _ _ _ h => h | exact fun _ _ _ h => (by cases h.1)
                    case hy12b => (refine Or.inl ⟨by rfl, ?_⟩; intro wz hSw; obtain ⟨hS1, hS2⟩ := hSw; go_simp; first | done | with_reducible rfl | simp | omega)
                    try simp only [Act.put, List.setIfInBounds_toArray, List.set_cons_zero, List.set_cons_succ]
                    refine anyT_one (i := 10) (by kernel_rfl) rfl (fun K' hK => ?_)
                    go_simp
                    refine hK.out _ _ (fun _ => HSe.out) ?_
                    clear hK K'
                    try simp only [Act.put, List.setIfInBounds_toArray, List.set_cons_zero, List.set_cons_succ]
                    refine anyT_one (i := 11) (by kernel_rfl) rfl (fun K' hK => ?_)
                    go_simp
                    refine Hmeet.out.mono ?_
                    rintro e w6 ⟨rfl, hA6, hB6⟩
                    have z6 := hB6.size
                    have i6 := hIr2.to hB6 (Nat.le_refl _) z6
                    have hml := meL_len n [r1, r2]
                    have j6 := hA6.ints' (B := w6.heap.size) hA6.lt hml
                    rw [World.size_alloc] at j6
                    have D6 := hBr2.trans (hB6.mono (by omega))
                    have hS6 : (fun w' => w'.cell? ⟨g', k2, none⟩ = some (.slice A1 n c1) ∧ w'.cell? ⟨g', i2, none⟩ = some (.slice A2 n c2)) w6 := ⟨(hB6.cell (p := ⟨g', k2, none⟩) (show g' < _ by omega)).trans HSe.out.1, (hB6.cell (p := ⟨g', i2, none⟩) (show g' < _ by omega)).trans HSe.out.2⟩
                    refine hK.out _ _ (fun _ => hS6) ?_
                    clear hK K'
                    try simp only [Act.put, List.setIfInBounds_toArray, List.set_cons_zero, List.set_cons_succ]
                    refine anyT_one (i := 13) (by kernel_rfl) rfl (fun K' hK => ?_)
                    go_simp
                    refine (sameInts_any _ _ _ _ _ _ _ _ _ _ w6 j6 i6 (by omega) (by omega)).mono ?_
                    rintro e w7 ⟨rfl, q, rfl⟩
                    have D7 := below_drewN D6 q
                    refine hK.out _ _ (fun h => absurd rfl h) ?_
                    clear hK K'
                    try simp only [Act.put, List.setIfInBounds_toArray, List.set_cons_zero, List.set_cons_succ]
                    refine anyT_done (by kernel_rfl) ?_ _
                    generalize w6.drewN q = w7 at *
                    by_cases heq : meL n [r1, r2] = zs
                    · have hd : decide (meL n [r1, r2] = zs) = true := by simp [heq]
                      have Hq := Lib.hid heq
                      clear heq
                      rw [hd]
                      go_wp2
                      go_ret
                      exact ⟨ret_int (by rw [Ht.out, Hs.out Hq.out]), HB.trans (D7.mono (by omega))⟩
                    · have hd : decide (meL n [r1, r2] = zs) = false := by simp [heq]
                      rw [hd]
                      have Hne := Lib.hid heq
                      clear heq
                      go_wp2
                      go_roundw
                      case rel =>
                        rw [← He1.out, ← He2.out] at Hne
                        have Hnx : ∀ y, y < k2 + 1 → ¬ meL n [rs[y]?.getD [], rs[i2]?.getD []] = zs := fun y hy2 => by
                          rcases (by omega : y < k2 ∨ y = k2) with h5 | rfl
                          · exact Hin.out y h5
                          · exact Hne.out
                        first | exact ⟨k2 + 1, by omega, by go_num, Hnx⟩ | exact ⟨k2 + 1, by omega, by go_num, D7, Lib.hid Hnx⟩ | exact ⟨k2 + 1, by omega, by go_num, D7, Hnx⟩
                      case measure => simp [intOf]; omega
                  · have hki : i2 = k2 := by omega
                    subst hki
                    go_wp2_with fail
                    go_roundw
                    case rel => exact ⟨i2 + 1, by omega, by go_num, hBy, Lib.hid (fun x hx2 => by rcases (by omega : x < i2 ∨ x = i2) with h5 | rfl; exact Hout.out x h5; exact Hin.out)⟩
                    case measure => simp [intOf]; omega
              · have hkm : m2 = i2 := by omega
                subst hkm
                have Hr := Lib.hid (Hnone.out h1 Hout.out)
                go_wp2_with fail
                go_ret
                exact ⟨ret_int (by rw [Ht.out, Hr.out]), HB.trans (hBx.mono (by omega))⟩
    · have Ht := Lib.hid (show fewLR zs = -1 by unfold fewLR; rw [Hv.out, Hlr.out]; simp [hc])
      generalize (cG zs (2 ^ n - 1) : Int) = cc at *
      go_wp2_with fail
      go_ret
      exact ⟨ret_int Ht.out.symm, B2⟩
end Go.Proofs.Ytipdmaggfbfnlaa

/- WideOf: the model's. -/
import Derived.Test.YtghogabmkbadjabWdM
import Derived.Test.YtghogabmkbadjabGxi
import Derived.Test.YtghogabmkbadjabGxc
set_option linter.unusedVariables false
set_option linter.unusedSimpArgs false
namespace Go.Proofs.Ytghogabmkbadjab
open Go.RowKit Go.Shelf

/-- The greatest distance so far: of the pairs of items less than a, and of a and those less than b. -/
def wdAt (zs l : List Int) (a b : Nat) : Int := wdF l (covTo zs a ++ (itemsTo (coverTo zs a zs.length) b).map fun x => (a, x))
theorem wdAt_zero (zs l : List Int) (a : Nat) : wdAt zs l a 0 = wdF l (covTo zs a) := by simp [wdAt, itemsTo]
theorem wdAt_yes {zs l : List Int} {a b : Nat} (h : bitB (coverTo zs a zs.length) b = true) : wdAt zs l a (b + 1) = max (wdAt zs l a b) (atI l (b : Int) - atI l (a : Int)) := by
  unfold wdAt
  rw [itemsTo_yes h, List.map_append, ← List.append_assoc]
  exact wdF_snoc _ _ (a, b)
theorem wdAt_no {zs l : List Int} {a b : Nat} (h : bitB (coverTo zs a zs.length) b = false) : wdAt zs l a (b + 1) = wdAt zs l a b := by
  unfold wdAt
  rw [itemsTo_no h]
theorem wdAt_all {zs l : List Int} (h : Sets zs) {a : Nat} (ha : a < zs.length) : wdAt zs l a zs.length = wdF l (covTo zs (a + 1)) := by
  have h1 := coverTo_bd h ha zs.length
  have h2 := h.2 a ha
  have h6 := h.1
  unfold wdAt
  rw [covTo_succ]
  have h3 := filter_more (p := fun x => bitB (coverTo zs a zs.length) (x : Int)) (n := zs.length) (fun x hx => by
    cases e : bitB (coverTo zs a zs.length) (x : Int)
    · rfl
    · have := bitB_lt (n := zs.length) (show coverTo zs a zs.length < powI zs.length by omega) e
      omega) (6 - zs.length)
  rw [show zs.length + (6 - zs.length) = 6 by omega] at h3
  unfold itemsL itemsTo
  rw [h3]
theorem wdAt_bd (zs : List Int) {l : List Int} (hl : l.length ≤ 6) (a b : Nat) : 0 ≤ wdAt zs l a b ∧ wdAt zs l a b ≤ 6 := wdF_bd l hl _

set_option maxRecDepth 100000 in
set_option maxHeartbeats 8000000 in
theorem specWideOfF_any (A : Option Addr) (n c : Nat) (zs : List Int) (w : World) (h : Ints w w.heap.size A n zs) (hbig : n ≤ 1152921504606846976) :
    Calls Try.prog 52 #[.slice A n c] w fun e w' => e = .returned (.int .i64 (wideOfR zs)) ∧ Below w.heap.size w w' := by
  have hlen := Lib.hid h.len
  cases hv : vo zs
  · have Ht := Lib.hid (show wideOfR zs = -1 by unfold wideOfR; rw [hv]; rfl)
    go_enter Try.func52, Try.ntmps52
    go_wp2_with fail
    refine (validOrder_any _ _ _ _ zs _ h hbig).mono ?_
    rw [hv]
    rintro e w' ⟨rfl, m, rfl⟩
    go_wp2_with fail
    go_ret
    exact ⟨ret_int Ht.out.symm, below_drewN (Below.refl _ _) m⟩
  · have hvo : VoP zs := by simpa [vo] using hv
    have Hv := Lib.hid hv
    clear hv
    have hn6 : n ≤ 6 := by have := hvo.1; rw [hlen.out] at this; exact this
    by_cases hn5 : n ≤ 5
    · have Ht := Lib.hid (show wideOfR zs = wdMin zs n (alL zs) by unfold wideOfR; rw [Hv.out, hlen.out]; simp [hn5])
      have Hdu := Lib.hid (show downP n (pairsL zs) = du zs by unfold du; rw [hlen.out])
      go_enter Try.func52, Try.ntmps52
      go_wp2_with fail
      refine (validOrder_any _ _ _ _ zs _ h hbig).mono ?_
      rw [Hv.out]
      rintro e w' ⟨rfl, m, rfl⟩
      have i1 : Ints (w.drewN m) (w.drewN m).heap.size A n zs := h.drewN m
      have B1 : Below w.heap.size w (w.drewN m) := below_drewN (Below.refl _ _) m
      generalize w.drewN m = w1 at *
      have z1 := B1.size
      go_wp2_with fail
      refine (downOf_any A n c zs w1 i1 hvo.sets).mono ?_
      rintro e w2 ⟨rfl, hA2, hB2⟩
      rw [Hdu.out] at hA2
      have z2 := hB2.size
      have i2 := i1.to hB2 (Nat.le_refl _) z2
      have j2 := hA2.ints' (B := w2.heap.size) hA2.lt (by rw [du_len, hlen.out])
      have B2 := B1.trans (hB2.mono z1)
      clear hA2 hB2
      go_wp2_with fail
      have hown0 := own_new w2 3
      have hU0 : Upd (fun _ => False) w2 (w2.alloc (.cells #[] 3)) := (Upd.refl _ w2).alloc _
      have hB0 := hU0.toBelow (B := w2.heap.size) (fun _ e => e.elim) (Nat.le_refl _)
      have z3 := hB0.size
      refine (allLines_any zs hvo n hlen.out A _ c _ n [] 0 w2.heap.size 0 _ (by simp) (Int.le_refl _) (powI_pos _) (i2.to hB0 (Nat.le_refl _) z3) (j2.to hB0 (Nat.le_refl _) z3) (own_sooner hown0 (Nat.zero_le _))).mono ?_
      rintro e w4 ⟨v, g', c', rfl, ⟨L, rfl, hL, hR⟩, hB4⟩
      have hal : L.map Prod.fst = alL zs := by rw [hL]; unfold alL; rw [hlen.out]
      have z4 := hB4.size
      have B4 := B2.trans ((hB0.trans (hB4.mono z3)).mono (by omega))
      have i4 := (i2.to hB0 (Nat.le_refl _) z3).to hB4 (Nat.le_refl _) z4
      have HR4 := Lib.hid hR
      have Hal := Lib.hid hal
      clear hR hL hal hown0 hU0 hB0 hB4 j2 i2 i1 h B2 B1
      go_wp2_with fail
      refine (specCoversOf0_any A n c zs w4 i4 hvo.sets).mono ?_
      rintro e w5 ⟨A5, c5, rfl, hC5, hB5⟩
      have z5 := hB5.size
      have B5 := B4.trans (hB5.mono (by omega))
      have HR5 := Lib.hid (HR4.out.below2 hB5)
      have HC := Lib.hid hC5
      clear hC5 B4 i4 hB5
      obtain ⟨N, hN⟩ : ∃ N, L.length = N := ⟨_, rfl⟩
      have HN := Lib.hid hN
      rw [hN]
      have hNb : N ≤ 46656 := by
        have h1 := congrArg List.length Hal.out
        rw [List.length_map, hN] at h1
        have := alL_count (zs := zs) (by rw [hlen.out]; exact hn6)
        omega
      clear hN
      have hrow : ∀ l ∈ alL zs, l.length = n := fun l hl => by rw [alL_rows l hl, hlen.out]
      have Hrow := Lib.hid hrow
      clear hrow
      go_wp2_with fail
      go_loopw [5, 6] (fun best i wr => ∃ (k m : Nat), k ≤ N ∧ i = .int .i64 k ∧ best = .int .i64 (wdMin zs n ((alL zs).take k)) ∧ wr = w5.drewN m) (fun _ i _ => N - (intOf i).toNat)
      case atStart => exact ⟨0, 0, by omega, rfl, rfl, rfl⟩
      case round =>
        obtain ⟨k, m1, hk, rfl, rfl, rfl⟩ := hrel
        by_cases hlt : k < N
        · obtain ⟨x, hx⟩ : ∃ x, L[k]? = some x := ⟨L[k]'(by rw [HN.out]; exact hlt), List.getElem?_eq_getElem _⟩
          have hxa : (alL zs)[k]? = some x.1 := by rw [← Hal.out, List.getElem?_map, hx]; rfl
          have hxl := Hrow.out x.1 (List.mem_of_getElem? hxa)
          have hkl := (List.getElem?_eq_some_iff.1 hxa).1
          have htk : (alL zs).take (k + 1) = (alL zs).take k ++ [x.1] := by
            rw [List.take_succ_eq_append_getElem hkl, (List.getElem?_eq_some_iff.1 hxa).2]
          have Hmn := Lib.hid (show wdMin zs n ((alL zs).take (k + 1)) = min (wdMin zs n ((alL zs).take k)) (wdL zs x.1) by rw [htk, wdMin_snoc])
          have hqb := wdMin_bd zs ((alL zs).take k) n (fun l hl => by rw [Hrow.out l (List.mem_of_mem_take hl)]; exact hn6) (by omega) (by omega)
          obtain ⟨g9, c9, e9, _, hcell⟩ := HR5.out.at_ hx
          rw [HN.out] at e9
          cases e9
          obtain ⟨A', c2, e2, hIx⟩ := lnHas_slice (HR5.out.has x (List.mem_of_getElem? hx))
          rw [e2] at hcell
          rw [hxl] at hcell hIx
          have HIx := Lib.hid hIx
          generalize x.1 = l at *
          have hl6 : l.length ≤ 6 := by omega
          have Hl6 := Lib.hid hl6
          have Hlen2 := Lib.hid hxl
          generalize wdMin zs n ((alL zs).take k) = q at *
          clear hx hxa hxl hkl htk e2 hIx hl6
          go_wp2
          go_loopw [7, 8] (fun most i wr => ∃ (a m : Nat), a ≤ n ∧ i = .int .i64 a ∧ most = .int .i64 (wdF l (covTo zs a)) ∧ wr = w5.drewN m) (fun _ i _ => n - (intOf i).toNat)
          case atStart => exact ⟨0, m1, by omega, rfl, rfl, rfl⟩
          case round =>
            obtain ⟨a, m2, ha, rfl, rfl, rfl⟩ := hrel
            by_cases hla : a < n
            · have Hz := Lib.hid (wdAt_zero zs l a)
              rw [← Hz.out]
              go_wp2
              go_loopw [7, 9] (fun most i wr => ∃ (b m : Nat), b ≤ n ∧ i = .int .i64 b ∧ most = .int .i64 (wdAt zs l a b) ∧ wr = w5.drewN m) (fun _ i _ => n - (intOf i).toNat)
              case atStart => exact ⟨0, m2, by omega, rfl, rfl, rfl⟩
              case round =>
                obtain ⟨b, m3, hb, rfl, rfl, rfl⟩ := hrel
                have hwb := wdAt_bd zs Hl6.out a b
                by_cases hlb : b < n
                · obtain ⟨b5, o5, rfl, hb5, hc5⟩ := HC.out.at_ hla
                  have hca := hc5 a hla
                  rw [List.getElem?_map, List.getElem?_range hla] at hca
                  simp only [Option.map_some, Option.getD_some] at hca
                  have hcv := coverTo_bd hvo.sets (a := a) (by rw [hlen.out]; exact hla) n
                  have hcz := hvo.bd a (by rw [hlen.out]; exact hla)
                  have hyes : bitB (coverTo zs a n) (b : Int) = true → wdAt zs l a (b + 1) = max (wdAt zs l a b) (atI l (b : Int) - atI l (a : Int)) := fun e => wdAt_yes (by rw [hlen.out]; exact e)
                  have hno : bitB (coverTo zs a n) (b : Int) = false → wdAt zs l a (b + 1) = wdAt zs l a b := fun e => wdAt_no (by rw [hlen.out]; exact e)
                  have Hyes := Lib.hid hyes
                  have Hno := Lib.hid hno
                  clear hyes hno hc5
                  generalize coverTo zs a n = s at *
                  generalize wdAt zs l a b = u at *
                  cases hbit : bitB s (b : Int)
                  · have hbi : (bitI s (b : Int) == 1) = false := by rw [bitI_false hbit]; rfl
                    have Hn := Lib.hid (Hno.out hbit)
                    clear hbit
                    go_wp2_with (go_at_call 63; refine (bit_any _ _ _ (by omega) (by omega) (by omega) (by omega)).mono ?_; rintro e w' ⟨rfl, rfl⟩)
                    go_roundw
                    case rel => exact ⟨b + 1, m3, by omega, by go_num, by rw [Hn.out], rfl⟩
                    case measure => simp [intOf]; omega
                  · have hbi : (bitI s (b : Int) == 1) = true := by rw [bitI_true hbit]; rfl
                    have Hn := Lib.hid (Hyes.out hbit)
                    have hp := atI_lim l (b : Int)
                    have hr := atI_lim l (a : Int)
                    have Hax := Lib.hid (fun t : Nat => (at_any A' n c2 w5.heap.size l (b : Int) (w5.drewN t) (HIx.out.drewN t) (by omega)).mono (fun e w' (h9 : e = .returned (.int .i64 (atI l (b : Int))) ∧ w' = w5.drewN t) => (⟨h9.1, h9.2.symm⟩ : e = .returned (.int .i64 (atI l (b : Int))) ∧ w5.drewN t = w')))
                    have Hbx := Lib.hid (fun t : Nat => (at_any A' n c2 w5.heap.size l (a : Int) (w5.drewN t) (HIx.out.drewN t) (by omega)).mono (fun e w' (h9 : e = .returned (.int .i64 (atI l (a : Int))) ∧ w' = w5.drewN t) => (⟨h9.1, h9.2.symm⟩ : e = .returned (.int .i64 (atI l (a : Int))) ∧ w5.drewN t = w')))
                    have hlq := Hlen2.out
                    clear hbit
                    generalize atI l (b : Int) = p at *
                    generalize atI l (a : Int) = r at *
                    have hwr : IntKind.i64.wrap (p - r) = p - r := by rw [IntKind.wrap_i64]; omega
                    go_wp2_with (go_at_call 63; refine (bit_any _ _ _ (by omega) (by omega) (by omega) (by omega)).mono ?_; rintro e w' ⟨rfl, rfl⟩)
                    rcases Int.lt_or_le u (p - r) with hq | hq
                    · go_quiet ((go_at_call 105; first | with_reducible exact quiet_add_left (Hax.out _) | with_reducible exact quiet_add_left (Hbx.out _)))
                      go_wp2
                      go_roundw
                      case rel => exact ⟨b + 1, _, by omega, by go_num, congrArg (Value.int .i64) (by rw [Hn.out]; omega), by first | rfl | exact World.drewN_drewN ..⟩
                      case measure => simp [intOf]; omega
                    · go_quiet ((go_at_call 105; first | with_reducible exact quiet_add_left (Hax.out _) | with_reducible exact quiet_add_left (Hbx.out _)))
                      go_wp2
                      go_roundw
                      case rel => exact ⟨b + 1, _, by omega, by go_num, congrArg (Value.int .i64) (by rw [Hn.out]; omega), by first | rfl | exact World.drewN_drewN ..⟩
                      case measure => simp [intOf]; omega
                · obtain rfl : b = n := by omega
                  have Hall := Lib.hid (show wdAt zs l a b = wdF l (covTo zs (a + 1)) by rw [← wdAt_all hvo.sets (by rw [hlen.out]; exact hla), hlen.out])
                  go_wp2
                  go_roundw
                  case rel => exact ⟨a + 1, m3, by omega, by go_num, by rw [Hall.out], rfl⟩
                  case measure => simp [intOf]; omega
            · obtain rfl : a = n := by omega
              have hb2 := wdF_bd l Hl6.out (covTo zs a)
              have Hw := Lib.hid (show wdF l (covTo zs a) = wdL zs l by unfold wdL; rw [hlen.out])
              generalize wdF l (covTo zs a) = r at *
              rcases Int.lt_or_le r q with hq | hq
              · go_wp2
                go_roundw
                case rel => exact ⟨k + 1, m2, by omega, by go_num, congrArg (Value.int .i64) (by rw [Hmn.out, ← Hw.out]; omega), rfl⟩
                case measure => simp [intOf]; omega
              · go_wp2
                go_roundw
                case rel => exact ⟨k + 1, m2, by omega, by go_num, congrArg (Value.int .i64) (by rw [Hmn.out, ← Hw.out]; omega), rfl⟩
                case measure => simp [intOf]; omega
        · obtain rfl : k = N := by omega
          have Htk := Lib.hid (show (alL zs).take k = alL zs by rw [List.take_of_length_le]; rw [← Hal.out, List.length_map, HN.out]; exact Nat.le_refl _)
          go_wp2
          go_ret
          exact ⟨ret_int (by rw [Ht.out, Htk.out]), below_drewN B5 m1⟩
    · have Ht := Lib.hid (show wideOfR zs = -1 by unfold wideOfR; rw [Hv.out, hlen.out]; simp [hn5])
      go_enter Try.func52, Try.ntmps52
      go_wp2_with fail
      refine (validOrder_any _ _ _ _ zs _ h hbig).mono ?_
      rw [Hv.out]
      rintro e w' ⟨rfl, m, rfl⟩
      go_wp2_with fail
      go_ret
      exact ⟨ret_int Ht.out.symm, below_drewN (Below.refl _ _) m⟩
end Go.Proofs.Ytghogabmkbadjab

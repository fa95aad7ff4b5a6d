/- ForestLines: the program's. -/
import Derived.Test.YthjmedbjdjkilaaForM
import Derived.Test.YthjmedbjdjkilaaGa
namespace Go.Proofs.Ythjmedbjdjkilaa
open Go.RowKit Go.Shelf

set_option maxRecDepth 100000 in
set_option maxHeartbeats 4000000 in
theorem isForest_any (A : Option Addr) (n c : Nat) (zs : List Int) (hvo : VoP zs) (w : World) (h : Ints w w.heap.size A n zs) :
    Calls Try.prog 81 #[.slice A n c] w fun e w' => e = .returned (.bool (allCh zs)) ∧ Below w.heap.size w w' := by
  have hlen := Lib.hid h.len
  have hn6 : n ≤ 6 := by have := hvo.1; rw [hlen.out] at this; exact this
  have Hdu := Lib.hid (show downP n (pairsL zs) = du zs by unfold du; rw [hlen.out])
  have hds := du_sets hvo.sets
  have Hdl := Lib.hid (show (du zs).length = n by rw [du_len, hlen.out])
  go_enter Try.func81, Try.ntmps81
  go_wp2_with fail
  refine (dual_any A n c zs hvo.sets w h).mono ?_
  rintro e w2 ⟨rfl, hA2, hB2⟩
  rw [Hdu.out] at hA2
  have z2 := hB2.size
  have h2 := h.to hB2 (Nat.le_refl _) z2
  have hI2 := hA2.ints' hA2.lt Hdl.out
  clear hA2
  go_wp2_with fail
  go_loopw [8] (fun i wr => ∃ k : Nat, k ≤ n ∧ i = .int .i64 k ∧ (∀ a, a < k → chB zs ((du zs)[a]?.getD 0) = true) ∧ w2.heap.size ≤ wr.heap.size ∧ Below w.heap.size w wr ∧ Below w2.heap.size w2 wr) (fun i _ => n - (intOf i).toNat)
  case atStart => exact ⟨0, by omega, rfl, fun a ha => by omega, Nat.le_refl _, hB2, Below.refl _ _⟩
  case round =>
    obtain ⟨k, hk, rfl, hch, zr, Cr, Dr⟩ := hrel
    have Hch := Lib.hid hch
    clear hch
    have hz := h2.to Dr (Nat.le_refl _) zr
    have hd := hI2.to Dr (Nat.le_refl _) zr
    by_cases hlt : k < n
    · obtain ⟨bd, offd, e1, hbd, hcd⟩ := hd.at_ hlt
      cases e1
      have hck := hcd k hlt
      have hdb := hds.2 k (by rw [Hdl.out]; exact hlt)
      rw [Hdl.out] at hdb
      simp only [Nat.zero_add] at hck
      clear hcd hd
      cases hc1 : chB zs ((du zs)[k]?.getD 0)
      · have Ht := Lib.hid (allCh_no hlen.out hlt hc1)
        have Hc := Lib.hid hc1
        clear hc1
        generalize (du zs)[k]?.getD 0 = d at *
        go_wp2_with fail
        refine (isChain_any A n c zs d hvo wr hz hdb.1 hdb.2).mono ?_
        rw [Hc.out]
        rintro e w4 ⟨rfl, hB4⟩
        go_wp2_with fail
        go_ret
        exact ⟨ret_bool Ht.out.symm, Cr.trans (hB4.mono Cr.size)⟩
      · have Hc := Lib.hid hc1
        clear hc1
        have Hall := Lib.hid (all_snoc Hch.out Hc.out)
        generalize (du zs)[k]?.getD 0 = d at *
        go_wp2_with fail
        refine (isChain_any A n c zs d hvo wr hz hdb.1 hdb.2).mono ?_
        rw [Hc.out]
        rintro e w4 ⟨rfl, hB4⟩
        have z4 := hB4.size
        go_wp2_with fail
        go_roundw
        case rel => exact ⟨k + 1, by omega, by go_num, Hall.out, by omega, Cr.trans (hB4.mono Cr.size), Dr.trans (hB4.mono zr)⟩
        case measure => simp [intOf]; omega
    · obtain rfl : k = n := by omega
      have Ht := Lib.hid (allCh_yes hlen.out Hch.out)
      go_wp2
      go_ret
      exact ⟨ret_bool Ht.out.symm, Cr⟩

set_option maxHeartbeats 1000000 in
theorem ForestLines_any (A : Option Addr) (n c : Nat) (zs : List Int) (w : World) (h : Ints w w.heap.size A n zs) (hbig : n ≤ 1152921504606846976) :
    Calls Try.prog 31 #[.slice A n c] w fun e w' => e = .returned (.int .i64 (forestR zs)) ∧ Below w.heap.size w w' := by
  have hlen := Lib.hid h.len
  cases hv : vo zs
  · have Ht := Lib.hid (show forestR zs = -1 by unfold forestR; rw [hv]; rfl)
    have Hv := Lib.hid hv
    clear hv
    go_enter Try.func31, Try.ntmps31
    go_wp2_with fail
    refine (readOrder_any _ _ _ zs _ h hbig).mono ?_
    rintro e w' ⟨hB, (⟨hv, b, rfl, _, _⟩ | ⟨_, rfl⟩)⟩
    · rw [Hv.out] at hv; cases hv
    · go_wp2_with fail
      go_ret
      exact ⟨ret_int Ht.out.symm, hB⟩
  · have hvo : VoP zs := by simpa [vo] using hv
    have hn6 : n ≤ 6 := by have := hvo.1; rw [hlen.out] at this; exact this
    have Hv := Lib.hid hv
    clear hv
    cases hac : allCh zs
    · have Ht := Lib.hid (show forestR zs = -1 by unfold forestR; rw [hac]; simp)
      have Ha := Lib.hid hac
      clear hac
      go_enter Try.func31, Try.ntmps31
      go_wp2_with fail
      refine (readOrder_any _ _ _ zs _ h hbig).mono ?_
      rintro e w' ⟨hB, (⟨_, b, rfl, hb, hAr⟩ | ⟨hv, _⟩)⟩
      · go_wp2_with fail
        refine (isForest_any _ n _ zs hvo _ (hAr.ints' hAr.lt hlen.out)).mono ?_
        rw [Ha.out]
        rintro e w2 ⟨rfl, hB2⟩
        go_wp2_with fail
        go_ret
        exact ⟨ret_int Ht.out.symm, hB.trans (hB2.mono hB.size)⟩
      · rw [Hv.out] at hv; cases hv
    · have Ht := Lib.hid (show forestR zs = (factI n).tdiv (divTo zs n) by unfold forestR; rw [Hv.out, hac, hlen.out]; rfl)
      have Ha := Lib.hid hac
      clear hac
      go_enter Try.func31, Try.ntmps31
      go_wp2_with fail
      refine (readOrder_any _ _ _ zs _ h hbig).mono ?_
      rintro e w' ⟨hB, (⟨_, b, rfl, hb, hAr⟩ | ⟨hv, _⟩)⟩
      · have i1 := hAr.ints' hAr.lt hlen.out
        clear hAr
        go_wp2_with fail
        refine (isForest_any _ n _ zs hvo _ i1).mono ?_
        rw [Ha.out]
        rintro e w2 ⟨rfl, hB2⟩
        have i2 := i1.to hB2 (Nat.le_refl _) hB2.size
        have C2 := hB.trans (hB2.mono hB.size)
        clear i1 hB hB2
        go_wp2_with fail
        go_loop [5, 6, 23] (fun p d i => ∃ k : Nat, k ≤ n ∧ i = .int .i64 k ∧ p = .int .i64 (factI k) ∧ d = .int .i64 (divTo zs k)) (fun _ _ i => n - (intOf i).toNat)
        case atStart => exact ⟨0, by omega, rfl, rfl, rfl⟩
        case round =>
          obtain ⟨k, hk, rfl, rfl, rfl⟩ := hrel
          have hdb := divTo_le hvo.sets (k := k) (by rw [hlen.out]; exact hk)
          have hfb := factI_bd ⟨k, by omega⟩
          simp only at hfb
          by_cases hlt : k < n
          · obtain ⟨b2, off2, e1, -, hcc⟩ := i2.at_ hlt
            cases e1
            have hck := hcc k hlt
            simp only [Nat.zero_add] at hck
            have hz := hvo.bd k (by rw [hlen.out]; exact hlt)
            have hpb := popI_bd hz.1 hz.2
            have hdb1 := divTo_le hvo.sets (k := k + 1) (by rw [hlen.out]; exact hlt)
            have hfb1 := factI_bd ⟨k + 1, by omega⟩
            simp only at hfb1
            have Hf := Lib.hid (show factI (k + 1) = factI k * ((k : Int) + 1) from rfl)
            have Hd := Lib.hid (show divTo zs (k + 1) = divTo zs k * (popI (zs[k]?.getD 0) + 1) from rfl)
            rw [Hf.out] at hfb1
            rw [Hd.out] at hdb1
            clear hcc
            generalize zs[k]?.getD 0 = z at *
            generalize factI k = f at *
            generalize divTo zs k = d at *
            have hw1 : wrap64 (f * ((k : Int) + 1)) = f * ((k : Int) + 1) := IntWalk.wrap64_in _ ⟨by omega, by omega⟩
            have hw2 : wrap64 (d * (popI z + 1)) = d * (popI z + 1) := IntWalk.wrap64_in _ ⟨by omega, by omega⟩
            go_wp2_with (go_at_call 82; refine (size_any _ _ hz.1 hz.2).mono ?_; rintro e w' ⟨rfl, rfl⟩)
            go_round
            case rel => exact ⟨k + 1, by omega, by go_num, by rw [Hf.out], by rw [Hd.out]⟩
            case measure => simp [intOf]; omega
          · obtain rfl : k = n := by omega
            have hq := Int.ediv_le_self (divTo zs k) (show (0 : Int) ≤ factI k by omega)
            have hqn := Int.ediv_nonneg (show (0 : Int) ≤ factI k by omega) (show (0 : Int) ≤ divTo zs k by omega)
            rw [← Int.tdiv_eq_ediv_of_nonneg (by omega)] at hq hqn
            have Hw := Lib.hid (show wrap64 ((factI k).tdiv (divTo zs k)) = (factI k).tdiv (divTo zs k) from IntWalk.wrap64_in _ ⟨by omega, by omega⟩)
            have hne : ¬ (divTo zs k = 0) := by omega
            have Hte := Lib.hid (Int.tdiv_eq_ediv_of_nonneg (a := factI k) (b := divTo zs k) (by omega))
            clear hq hqn
            go_wp2
            go_ret
            exact ⟨ret_int (by rw [Ht.out]; first | rfl | exact Hw.out | exact Hte.out.symm), C2⟩
      · rw [Hv.out] at hv; cases hv
end Go.Proofs.Ythjmedbjdjkilaa

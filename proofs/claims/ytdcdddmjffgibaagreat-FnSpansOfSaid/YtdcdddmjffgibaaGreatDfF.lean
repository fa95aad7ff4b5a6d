/- CountUps, CountDowns: the model's and the program's, whole. -/
import Derived.Test.YtdcdddmjffgibaaGreatDfS
import Derived.Test.YtdcdddmjffgibaaGreatGa
set_option linter.unusedVariables false
set_option linter.unusedSimpArgs false
namespace Go.Proofs.YtdcdddmjffgibaaGreat
open Go.RowKit Go.Shelf

set_option maxHeartbeats 1000000 in
theorem CountUps_any (A : Option Addr) (n c : Nat) (zs : List Int) (w : World) (h : Ints w w.heap.size A n zs) (hbig : n ≤ 1152921504606846976) :
    Calls Tryz.prog 15 #[.slice A n c] w fun e w' => e = .returned (.int .i64 (upsR zs)) ∧ Below w.heap.size w w' := by
  have hlen := Lib.hid h.len
  cases hv : vo zs
  · have Ht := Lib.hid (show upsR zs = -1 by unfold upsR; rw [hv]; rfl)
    have Hv := Lib.hid hv
    clear hv
    go_enter Tryz.func15, Tryz.ntmps15
    go_wp2_with fail
    refine (readOrder_any _ _ _ zs _ h hbig).mono ?_
    rintro e w' ⟨hB, (⟨hv, b, rfl, _, _⟩ | ⟨_, rfl⟩)⟩
    · rw [Hv.out] at hv; cases hv
    · go_wp2_with fail
      go_ret
      exact ⟨ret_int Ht.out.symm, hB⟩
  · have hvo : VoP zs := by simpa [vo] using hv
    have hn6 : n ≤ 6 := by have := hvo.1; rw [hlen.out] at this; exact this
    have Ht := Lib.hid (show upsR zs = ((difA (zs)).length : Int) by unfold upsR; rw [hv]; rfl)
    have Hv := Lib.hid hv
    clear hv
    go_enter Tryz.func15, Tryz.ntmps15
    go_wp2_with fail
    refine (readOrder_any _ _ _ zs _ h hbig).mono ?_
    rintro e w' ⟨hB, (⟨_, b, rfl, hb, hAr⟩ | ⟨hv, _⟩)⟩
    · have zB := hB.size
      go_wp2_with fail
      refine (odifferent_any _ _ _ zs _ (hAr.ints' hAr.lt hlen.out) (fun j hj => (hvo.bd j (by rw [hlen.out]; exact hj)).1) (by omega) (fun a ha => by cases ha; exact hAr.lt)).mono ?_
      rintro e w2 ⟨A2, m2, c2, rfl, hR2, hB2⟩
      have Hl2 := Lib.hid hR2.1
      go_wp2
      go_ret
      exact ⟨ret_int (Ht.out.trans (by rw [Hl2.out])).symm, hB.trans (hB2.mono zB)⟩
    · rw [Hv.out] at hv; cases hv

set_option maxHeartbeats 1000000 in
theorem CountDowns_any (A : Option Addr) (n c : Nat) (zs : List Int) (w : World) (h : Ints w w.heap.size A n zs) (hbig : n ≤ 1152921504606846976) :
    Calls Tryz.prog 17 #[.slice A n c] w fun e w' => e = .returned (.int .i64 (downsR zs)) ∧ Below w.heap.size w w' := by
  have hlen := Lib.hid h.len
  cases hv : vo zs
  · have Ht := Lib.hid (show downsR zs = -1 by unfold downsR; rw [hv]; rfl)
    have Hv := Lib.hid hv
    clear hv
    go_enter Tryz.func17, Tryz.ntmps17
    go_wp2_with fail
    refine (readOrder_any _ _ _ zs _ h hbig).mono ?_
    rintro e w' ⟨hB, (⟨hv, b, rfl, _, _⟩ | ⟨_, rfl⟩)⟩
    · rw [Hv.out] at hv; cases hv
    · go_wp2_with fail
      go_ret
      exact ⟨ret_int Ht.out.symm, hB⟩
  · have hvo : VoP zs := by simpa [vo] using hv
    have hn6 : n ≤ 6 := by have := hvo.1; rw [hlen.out] at this; exact this
    have Ht := Lib.hid (show downsR zs = ((difA (du zs)).length : Int) by unfold downsR; rw [hv]; rfl)
    have Hv := Lib.hid hv
    clear hv
    go_enter Tryz.func17, Tryz.ntmps17
    go_wp2_with fail
    refine (readOrder_any _ _ _ zs _ h hbig).mono ?_
    rintro e w' ⟨hB, (⟨_, b, rfl, hb, hAr⟩ | ⟨hv, _⟩)⟩
    · have zB := hB.size
      go_wp2_with fail
      refine (dual_any _ _ _ zs hvo.sets _ (hAr.ints' hAr.lt hlen.out)).mono ?_
      rintro e w1 ⟨rfl, hA1, hB1⟩
      have hA1' : Arr w1 w'.heap.size 59 (du zs) := by unfold du; rw [hlen.out]; exact hA1
      have hdl := Lib.hid (show (du zs).length = n by rw [du_len]; exact hlen.out)
      have z1 := hB1.size
      go_wp2_with fail
      refine (odifferent_any _ _ _ (du zs) _ (hA1'.ints' hA1'.lt hdl.out) (fun j hj => ((du_vo hvo).bd j (by rw [hdl.out]; exact hj)).1) (by omega) (fun a ha => by cases ha; exact hA1'.lt)).mono ?_
      rintro e w2 ⟨A2, m2, c2, rfl, hR2, hB2'⟩
      have Hl2 := Lib.hid hR2.1
      have hB2 := hB1.trans (hB2'.mono z1)
      go_wp2
      go_ret
      exact ⟨ret_int (Ht.out.trans (by rw [Hl2.out])).symm, hB.trans (hB2.mono zB)⟩
    · rw [Hv.out] at hv; cases hv
end Go.Proofs.YtdcdddmjffgibaaGreat

/- SinglesOf: the model's and the program's. -/
import Derived.Test.YtfahccbbccncnaaDoorGb
import Derived.Test.YtfahccbbccncnaaDoorGa
namespace Go.Proofs.YtfahccbbccncnaaDoor
open Go.RowKit Go.Shelf
attribute [local go_sem] Oper.semAt_some
attribute [local go_sem, local simp] wide_fn

set_option maxHeartbeats 1000000 in
theorem osingles_any (A : Option Addr) (n c : Nat) (zs : List Int) (hvo : VoP zs) (w : World) (h : Ints w w.heap.size A n zs) :
    Calls Tryd.prog 32 #[.slice A n c] w fun e w' => e = .returned (.int .i64 (snTo zs n)) ∧ Below w.heap.size w w' := by
  have hlen := Lib.hid h.len
  have hn6 : n ≤ 6 := by have := hvo.1; rw [hlen.out] at this; exact this
  have Hd := Lib.hid (show downP n (pairsL zs) = du zs by unfold du; rw [hlen.out])
  have hds := du_sets hvo.sets
  have Hdl := Lib.hid (show (du zs).length = n by rw [du_len, hlen.out])
  go_enter Tryd.func32, Tryd.ntmps32
  go_wp2_with fail
  refine (dual_any A n c zs hvo.sets w h).mono ?_
  rintro e w2 ⟨rfl, hA2, hB2⟩
  rw [Hd.out] at hA2
  go_wp2_with fail
  go_loopw [3, 9] (fun t i wr => ∃ k : Nat, k ≤ n ∧ i = .int .i64 k ∧ t = .int .i64 (snTo zs k) ∧ Below w2.heap.size w2 wr) (fun _ i _ => n - (intOf i).toNat)
  case atStart => exact ⟨0, by omega, rfl, rfl, Below.refl _ _⟩
  case round =>
    obtain ⟨k, hk, rfl, rfl, hBr⟩ := hrel
    have zr := hBr.size
    have z2 := hB2.size
    by_cases hlt : k < n
    · have hAr := hA2.below hBr hA2.lt
      have hck := hAr.cell (k := k) (by rw [Hdl.out]; exact hlt)
      have hz := hds.2 k (by rw [Hdl.out]; exact hlt)
      rw [Hdl.out] at hz
      have hI : Ints wr wr.heap.size A n zs := h.to (hB2.trans (hBr.mono z2)) (Nat.le_refl _) (by omega)
      have htb := topsTo_bd zs ((du zs)[k]?.getD 0) n
      have hpn := powI_le6 (n := (n : Int)) (by omega)
      have hsb := snTo_bd zs k
      have hpk := powI_le6 (n := (k : Int)) (by omega)
      have Hs := Lib.hid (show snB zs k = (popI (topsTo zs ((du zs)[k]?.getD 0) n) == 1) by unfold snB; rw [hlen.out])
      cases hs : snB zs k
      · have Hn := Lib.hid (snTo_no hs)
        have hbe : (popI (topsTo zs ((du zs)[k]?.getD 0) n) == 1) = false := by rw [← Hs.out, hs]
        go_wp2_with fail
        refine (tops_any A n c zs _ hvo.sets _ hI hz.1 hz.2).mono ?_
        rintro e w3 ⟨rfl, hB3⟩
        go_wp2_with fail
        refine (size_any _ _ (by omega) (by omega)).mono ?_
        rintro e w4 ⟨rfl, rfl⟩
        go_wp2_with fail
        go_roundw
        case rel => exact ⟨k + 1, by omega, by go_num, by rw [Hn.out], hBr.trans (hB3.mono zr)⟩
        case measure => simp [intOf]; omega
      · have Hn := Lib.hid (snTo_yes hs)
        have hbe : (popI (topsTo zs ((du zs)[k]?.getD 0) n) == 1) = true := by rw [← Hs.out, hs]
        go_wp2_with fail
        refine (tops_any A n c zs _ hvo.sets _ hI hz.1 hz.2).mono ?_
        rintro e w3 ⟨rfl, hB3⟩
        go_wp2_with fail
        refine (size_any _ _ (by omega) (by omega)).mono ?_
        rintro e w4 ⟨rfl, rfl⟩
        go_wp2_with fail
        refine (with_any _ _ _ hsb.1 (by omega) (by omega) (by omega)).mono ?_
        rintro e w5 ⟨rfl, rfl⟩
        go_wp2_with fail
        go_roundw
        case rel => exact ⟨k + 1, by omega, by go_num, by rw [Hn.out], hBr.trans (hB3.mono zr)⟩
        case measure => simp [intOf]; omega
    · obtain rfl : k = n := by omega
      go_wp2
      go_ret
      exact ⟨rfl, hB2.trans (hBr.mono z2)⟩

theorem SinglesOf_any (A : Option Addr) (n c : Nat) (zs : List Int) (w : World) (h : Ints w w.heap.size A n zs) (hbig : n ≤ 1152921504606846976) :
    Calls Tryd.prog 15 #[.slice A n c] w fun e w' => e = .returned (.int .i64 (singlesR zs)) ∧ Below w.heap.size w w' := by
  have hlen := Lib.hid h.len
  cases hv : vo zs
  · have Ht := Lib.hid (show singlesR zs = -1 by unfold singlesR; rw [hv]; rfl)
    have Hv := Lib.hid hv
    clear hv
    go_enter Tryd.func15, Tryd.ntmps15
    go_wp2_with fail
    refine (readOrder_any _ _ _ zs _ h hbig).mono ?_
    rintro e w' ⟨hB, (⟨hv, b, rfl, _, _⟩ | ⟨_, rfl⟩)⟩
    · rw [Hv.out] at hv; cases hv
    · go_wp2_with fail
      go_ret
      exact ⟨ret_int Ht.out.symm, hB⟩
  · have hvo : VoP zs := by simpa [vo] using hv
    have Ht := Lib.hid (show singlesR zs = snTo zs n by unfold singlesR; rw [hv, hlen.out]; rfl)
    have Hv := Lib.hid hv
    clear hv
    go_enter Tryd.func15, Tryd.ntmps15
    go_wp2_with fail
    refine (readOrder_any _ _ _ zs _ h hbig).mono ?_
    rintro e w1 ⟨hB, (⟨_, b, rfl, hb, hAr⟩ | ⟨hv, _⟩)⟩
    · have z1 := hB.size
      go_wp2_with fail
      refine (osingles_any _ _ _ zs hvo _ (hAr.ints' hAr.lt hlen.out)).mono ?_
      rintro e w2 ⟨rfl, hB2⟩
      go_wp2_with fail
      go_ret
      exact ⟨ret_int Ht.out.symm, hB.trans (hB2.mono z1)⟩
    · rw [Hv.out] at hv; cases hv
end Go.Proofs.YtfahccbbccncnaaDoor

/- SinglesOf: the model's and the program's. -/
import Derived.Test.YtogiooecjfnkcaaGc
import Derived.Test.YtogiooecjfnkcaaGa
namespace Go.Proofs.Ytogiooecjfnkcaa
open Go.RowKit Go.Shelf
attribute [local go_sem] Oper.semAt_some
attribute [local go_sem, local simp] wide_fn

set_option maxHeartbeats 1000000 in
theorem ssingles_any (A : Option Addr) (n c : Nat) (zs : List Int) (hvo : VoP zs) (w : World) (h : Ints w w.heap.size A n zs) :
    Calls Try.prog 32 #[.slice A n c] w fun e w' => e = .returned (.int .i64 (snTo zs n)) ∧ Below w.heap.size w w' := by
  have hlen := Lib.hid h.len
  have hn6 : n ≤ 6 := by have := hvo.1; rw [hlen.out] at this; exact this
  have Hd := Lib.hid (show downP n (pairsL zs) = du zs by unfold du; rw [hlen.out])
  have hds := du_sets hvo.sets
  have Hcv := Lib.hid (show ∀ k, k < n → ((List.range n).map fun a => coverTo (du zs) a n)[k]?.getD 0 = topsTo zs ((du zs)[k]?.getD 0) n from fun k hk => by
    have := next_below hvo (a := k) (by rw [hlen.out]; exact hk)
    rw [hlen.out] at this
    simp [hk, this])
  go_enter Try.func32, Try.ntmps32
  go_wp2_with fail
  refine (downOf_any _ _ _ zs _ h hvo.sets).mono ?_
  rintro e w2 ⟨rfl, hA2, hB2⟩
  rw [Hd.out] at hA2
  go_wp2_with fail
  refine (specCoversOf0_any _ n _ (du zs) _ (hA2.ints' hA2.lt (by rw [du_len, hlen.out])) hds).mono ?_
  rintro e w3 ⟨A3, c3, rfl, hA3, hB3⟩
  have hB : Below w.heap.size w w3 := hB2.trans (hB3.mono hB2.size)
  clear hA2 hB2 hB3
  go_wp2_with fail
  go_loop [3, 5] (fun t i => ∃ k : Nat, k ≤ n ∧ i = .int .i64 k ∧ t = .int .i64 (snTo zs k)) (fun _ i => n - (intOf i).toNat)
  case atStart => exact ⟨0, by omega, rfl, rfl⟩
  case round =>
    obtain ⟨k, hk, rfl, rfl⟩ := hrel
    by_cases hlt : k < n
    · obtain ⟨b, off, rfl, _, hc⟩ := hA3.at_ hlt
      have hck := hc k hlt
      clear hc
      rw [Hcv.out k hlt] at hck
      have htb := topsTo_bd zs ((du zs)[k]?.getD 0) n
      have hpn := powI_le6 (n := (n : Int)) (by omega)
      have hsb := snTo_bd zs k
      have hpk := powI_le6 (n := (k : Int)) (by omega)
      have hpp := powI_pos (k : Int)
      have Hs := Lib.hid (show snB zs k = (popI (topsTo zs ((du zs)[k]?.getD 0) n) == 1) by unfold snB; rw [hlen.out])
      cases hs : snB zs k
      · have Hn := Lib.hid (snTo_no hs)
        have hbe : (popI (topsTo zs ((du zs)[k]?.getD 0) n) == 1) = false := by rw [← Hs.out, hs]
        go_wp2_with (go_at_call 56; refine (bits_any _ _ (by omega) (by omega)).mono ?_; rintro e w' ⟨rfl, rfl⟩)
        go_round
        case rel => exact ⟨k + 1, by omega, by go_num, by rw [Hn.out]⟩
        case measure => simp [intOf]; omega
      · have Hn := Lib.hid (snTo_yes hs)
        have hbe : (popI (topsTo zs ((du zs)[k]?.getD 0) n) == 1) = true := by rw [← Hs.out, hs]
        have hor : bits .or .i64 (snTo zs k) (powI k) = orI (snTo zs k) (powI k) := bits_or (by omega) (by omega) (by omega) (by omega)
        go_wp2_with (first
          | (go_at_call 56; refine (bits_any _ _ (by omega) (by omega)).mono ?_; rintro e w' ⟨rfl, rfl⟩)
          | (go_at_call 41; refine (power_any _ _ (by omega) (by omega)).mono ?_; rintro e w' ⟨rfl, rfl⟩))
        go_round
        case rel => exact ⟨k + 1, by omega, by go_num, by rw [Hn.out]⟩
        case measure => simp [intOf]; omega
    · obtain rfl : k = n := by omega
      go_wp2
      go_ret
      exact ⟨rfl, hB⟩

theorem specSinglesOfF_any (A : Option Addr) (n c : Nat) (zs : List Int) (w : World) (h : Ints w w.heap.size A n zs) (hbig : n ≤ 1152921504606846976) :
    Calls Try.prog 9 #[.slice A n c] w fun e w' => e = .returned (.int .i64 (singlesR zs)) ∧ Below w.heap.size w w' := by
  have hlen := Lib.hid h.len
  cases hv : vo zs
  · have Ht := Lib.hid (show singlesR zs = -1 by unfold singlesR; rw [hv]; rfl)
    go_enter Try.func9, Try.ntmps9
    go_wp2_with (go_at_call 31; refine (validOrder_any _ _ _ _ zs _ h hbig).mono ?_; rintro e w' ⟨rfl, m, rfl⟩)
    go_ret
    exact ⟨ret_int Ht.out.symm, below_drewN (Below.refl _ _) m⟩
  · have hvo : VoP zs := by simpa [vo] using hv
    have Ht := Lib.hid (show singlesR zs = snTo zs n by unfold singlesR; rw [hv, hlen.out]; rfl)
    go_enter Try.func9, Try.ntmps9
    go_wp2_with fail
    refine (validOrder_any _ _ _ _ zs _ h hbig).mono ?_
    rw [hv]
    rintro e w1 ⟨rfl, m, hm⟩
    have hB : Below w.heap.size w w1 := by rw [hm]; exact below_drewN (Below.refl _ _) _
    have hI := h.below hB
    have hz1 := hB.size
    clear hm
    go_wp2_with fail
    refine (ssingles_any _ _ _ zs hvo _ (hI.more (by omega))).mono ?_
    rintro e w2 ⟨rfl, hB2⟩
    go_wp2_with fail
    go_ret
    exact ⟨ret_int Ht.out.symm, hB.trans (hB2.mono hz1)⟩

set_option maxHeartbeats 1000000 in
theorem osingles_any (A : Option Addr) (n c : Nat) (zs : List Int) (hvo : VoP zs) (w : World) (h : Ints w w.heap.size A n zs) :
    Calls Try.prog 34 #[.slice A n c] w fun e w' => e = .returned (.int .i64 (snTo zs n)) ∧ Below w.heap.size w w' := by
  have hlen := Lib.hid h.len
  have hn6 : n ≤ 6 := by have := hvo.1; rw [hlen.out] at this; exact this
  have Hd := Lib.hid (show downP n (pairsL zs) = du zs by unfold du; rw [hlen.out])
  have hds := du_sets hvo.sets
  have Hdl := Lib.hid (show (du zs).length = n by rw [du_len, hlen.out])
  go_enter Try.func34, Try.ntmps34
  go_wp2_with fail
  refine (dual_any A n c zs hvo.sets w h).mono ?_
  rintro e w2 ⟨rfl, hA2, hB2⟩
  rw [Hd.out] at hA2
  go_wp2_with fail
  go_loopw [3, 9] (fun t i wr => ∃ k : Nat, k ≤ n ∧ i = .int .i64 k ∧ t = .int .i64 (snTo zs k) ∧ Below w2.heap.size w2 wr) (fun _ i _ => n - (intOf i).toNat)
  case atStart => exact ⟨0, by omega, rfl, rfl, Below.refl _ _⟩
  case round =>
    obtain ⟨k, hk, rfl, rfl, hBr⟩ := hrel
    have zr := hBr.size
    have z2 := hB2.size
    by_cases hlt : k < n
    · have hAr := hA2.below hBr hA2.lt
      have hck := hAr.cell (k := k) (by rw [Hdl.out]; exact hlt)
      have hz := hds.2 k (by rw [Hdl.out]; exact hlt)
      rw [Hdl.out] at hz
      have hI : Ints wr wr.heap.size A n zs := h.to (hB2.trans (hBr.mono z2)) (Nat.le_refl _) (by omega)
      have htb := topsTo_bd zs ((du zs)[k]?.getD 0) n
      have hpn := powI_le6 (n := (n : Int)) (by omega)
      have hsb := snTo_bd zs k
      have hpk := powI_le6 (n := (k : Int)) (by omega)
      have Hs := Lib.hid (show snB zs k = (popI (topsTo zs ((du zs)[k]?.getD 0) n) == 1) by unfold snB; rw [hlen.out])
      cases hs : snB zs k
      · have Hn := Lib.hid (snTo_no hs)
        have hbe : (popI (topsTo zs ((du zs)[k]?.getD 0) n) == 1) = false := by rw [← Hs.out, hs]
        go_wp2_with fail
        refine (tops_any A n c zs _ hvo.sets _ hI hz.1 hz.2).mono ?_
        rintro e w3 ⟨rfl, hB3⟩
        go_wp2_with fail
        refine (size_any _ _ (by omega) (by omega)).mono ?_
        rintro e w4 ⟨rfl, rfl⟩
        go_wp2_with fail
        go_roundw
        case rel => exact ⟨k + 1, by omega, by go_num, by rw [Hn.out], hBr.trans (hB3.mono zr)⟩
        case measure => simp [intOf]; omega
      · have Hn := Lib.hid (snTo_yes hs)
        have hbe : (popI (topsTo zs ((du zs)[k]?.getD 0) n) == 1) = true := by rw [← Hs.out, hs]
        go_wp2_with fail
        refine (tops_any A n c zs _ hvo.sets _ hI hz.1 hz.2).mono ?_
        rintro e w3 ⟨rfl, hB3⟩
        go_wp2_with fail
        refine (size_any _ _ (by omega) (by omega)).mono ?_
        rintro e w4 ⟨rfl, rfl⟩
        go_wp2_with fail
        refine (with_any _ _ _ hsb.1 (by omega) (by omega) (by omega)).mono ?_
        rintro e w5 ⟨rfl, rfl⟩
        go_wp2_with fail
        go_roundw
        case rel => exact ⟨k + 1, by omega, by go_num, by rw [Hn.out], hBr.trans (hB3.mono zr)⟩
        case measure => simp [intOf]; omega
    · obtain rfl : k = n := by omega
      go_wp2
      go_ret
      exact ⟨rfl, hB2.trans (hBr.mono z2)⟩

theorem SinglesOf_any (A : Option Addr) (n c : Nat) (zs : List Int) (w : World) (h : Ints w w.heap.size A n zs) (hbig : n ≤ 1152921504606846976) :
    Calls Try.prog 11 #[.slice A n c] w fun e w' => e = .returned (.int .i64 (singlesR zs)) ∧ Below w.heap.size w w' := by
  have hlen := Lib.hid h.len
  cases hv : vo zs
  · have Ht := Lib.hid (show singlesR zs = -1 by unfold singlesR; rw [hv]; rfl)
    have Hv := Lib.hid hv
    clear hv
    go_enter Try.func11, Try.ntmps11
    go_wp2_with fail
    refine (readOrder_any _ _ _ zs _ h hbig).mono ?_
    rintro e w' ⟨hB, (⟨hv, b, rfl, _, _⟩ | ⟨_, rfl⟩)⟩
    · rw [Hv.out] at hv; cases hv
    · go_wp2_with fail
      go_ret
      exact ⟨ret_int Ht.out.symm, hB⟩
  · have hvo : VoP zs := by simpa [vo] using hv
    have Ht := Lib.hid (show singlesR zs = snTo zs n by unfold singlesR; rw [hv, hlen.out]; rfl)
    have Hv := Lib.hid hv
    clear hv
    go_enter Try.func11, Try.ntmps11
    go_wp2_with fail
    refine (readOrder_any _ _ _ zs _ h hbig).mono ?_
    rintro e w1 ⟨hB, (⟨_, b, rfl, hb, hAr⟩ | ⟨hv, _⟩)⟩
    · have z1 := hB.size
      go_wp2_with fail
      refine (osingles_any _ _ _ zs hvo _ (hAr.ints' hAr.lt hlen.out)).mono ?_
      rintro e w2 ⟨rfl, hB2⟩
      go_wp2_with fail
      go_ret
      exact ⟨ret_int Ht.out.symm, hB.trans (hB2.mono z1)⟩
    · rw [Hv.out] at hv; cases hv
end Go.Proofs.Ytogiooecjfnkcaa

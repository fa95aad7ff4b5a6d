/- Ideals: the model's. -/
import Derived.Test.YtidggolnhagfdaaGb
import Derived.Test.YtidggolnhagfdaaGa
namespace Go.Proofs.Ytidggolnhagfdaa
open Go.RowKit Go.Shelf
attribute [local go_sem] Oper.semAt_some
attribute [local go_sem, local simp] wide_fn

set_option maxHeartbeats 1000000 in
theorem sisIdeal_any (A : Option Addr) (n c B : Nat) (ds : List Int) (s : Int) (w : World) (h : Ints w B A n ds) (hv : Sets ds) (h0 : 0 ≤ s) (h1 : s < 64) :
    Calls Try.prog 42 #[.slice A n c, .int .i64 s] w fun e w' => e = .returned (.bool (idTo ds s n)) ∧ w = w' := by
  have hlen := Lib.hid h.len
  have hn6 : n ≤ 6 := by have := hv.1; rw [hlen.out] at this; exact this
  go_enter Try.func42, Try.ntmps42
  go_wp2
  go_loop [5] (fun i => ∃ k : Nat, k ≤ n ∧ i = .int .i64 k ∧ idTo ds s k = true) (fun i => n - (intOf i).toNat)
  case atStart => exact ⟨0, by omega, rfl, rfl⟩
  case round =>
    obtain ⟨k, hk, rfl, hok⟩ := hrel
    have Hok := Lib.hid hok
    clear hok
    by_cases hlt : k < n
    · obtain ⟨b, off, rfl, _, hc⟩ := h.at_ hlt
      have hck := hc k hlt
      clear hc
      have hz := hv.bd k (by rw [hlen.out]; exact hlt)
      have hless : bits .andNot .i64 (ds[k]?.getD 0) s = lessI (ds[k]?.getD 0) s := bits_less (by omega) (by omega) (by omega) (by omega)
      cases hb : bitB s k
      · have hbi : (bitI s k == 1) = false := by rw [bitI_one, hb]
        have Hn := Lib.hid (idTo_succ Hok.out (.inl hb))
        go_wp2_with (go_at_call 66; refine (bit_any _ _ _ (by omega) (by omega) (by omega) (by omega)).mono ?_; rintro e w' ⟨rfl, rfl⟩)
        go_round
        case rel => exact ⟨k + 1, by omega, by go_num, Hn.out⟩
        case measure => simp [intOf]; omega
      · have hbi : (bitI s k == 1) = true := by rw [bitI_one, hb]
        cases ha : (lessI (ds[k]?.getD 0) s == 0)
        · have Hn := Lib.hid (idTo_no (n := n) hlt hb ha)
          have hne : (lessI (ds[k]?.getD 0) s != 0) = true := by rw [bne, ha]; rfl
          go_wp2_with (go_at_call 66; refine (bit_any _ _ _ (by omega) (by omega) (by omega) (by omega)).mono ?_; rintro e w' ⟨rfl, rfl⟩)
          go_ret
          exact ⟨ret_bool Hn.out.symm, rfl⟩
        · have Hn := Lib.hid (idTo_succ Hok.out (.inr ha))
          have hne : (lessI (ds[k]?.getD 0) s != 0) = false := by rw [bne, ha]; rfl
          go_wp2_with (go_at_call 66; refine (bit_any _ _ _ (by omega) (by omega) (by omega) (by omega)).mono ?_; rintro e w' ⟨rfl, rfl⟩)
          go_round
          case rel => exact ⟨k + 1, by omega, by go_num, Hn.out⟩
          case measure => simp [intOf]; omega
    · obtain rfl : k = n := by omega
      go_wp2
      go_ret
      exact ⟨ret_bool Hok.out.symm, rfl⟩

set_option maxHeartbeats 1000000 in
theorem sbelow_any (A : Option Addr) (n c B : Nat) (ds : List Int) (s : Int) (w : World) (h : Ints w B A n ds) (hv : Sets ds) (h0 : 0 ≤ s) (h1 : s < powI n) :
    Calls Try.prog 47 #[.slice A n c, .int .i64 s] w fun e w' => e = .returned (.int .i64 (belTo ds s n)) ∧ w = w' := by
  have hlen := Lib.hid h.len
  have hn6 : n ≤ 6 := by have := hv.1; rw [hlen.out] at this; exact this
  have hpn : powI n ≤ 64 := powI_le6 (by omega)
  go_enter Try.func47, Try.ntmps47
  go_wp2
  go_loop [5, 6] (fun t i => ∃ k : Nat, k ≤ n ∧ i = .int .i64 k ∧ t = .int .i64 (belTo ds s k)) (fun _ i => n - (intOf i).toNat)
  case atStart => exact ⟨0, by omega, rfl, rfl⟩
  case round =>
    obtain ⟨k, hk, rfl, rfl⟩ := hrel
    by_cases hlt : k < n
    · obtain ⟨b, off, rfl, _, hc⟩ := h.at_ hlt
      have hck := hc k hlt
      clear hc
      have hz := hv.bd k (by rw [hlen.out]; exact hlt)
      have htb := belTo_bd hv h0 (by rw [hlen.out]; exact h1) k (by rw [hlen.out]; omega)
      rw [hlen.out] at htb
      have hor : bits .or .i64 (belTo ds s k) (ds[k]?.getD 0) = orI (belTo ds s k) (ds[k]?.getD 0) := bits_or (by omega) (by omega) (by omega) (by omega)
      cases hb : bitB s k
      · have hbi : (bitI s k == 1) = false := by rw [bitI_one, hb]
        have Hn := Lib.hid (belTo_no (ds := ds) hb)
        go_wp2_with (go_at_call 66; refine (bit_any _ _ _ (by omega) (by omega) (by omega) (by omega)).mono ?_; rintro e w' ⟨rfl, rfl⟩)
        go_round
        case rel => exact ⟨k + 1, by omega, by go_num, by rw [Hn.out]⟩
        case measure => simp [intOf]; omega
      · have hbi : (bitI s k == 1) = true := by rw [bitI_one, hb]
        have Hn := Lib.hid (belTo_yes (ds := ds) hb)
        go_wp2_with (go_at_call 66; refine (bit_any _ _ _ (by omega) (by omega) (by omega) (by omega)).mono ?_; rintro e w' ⟨rfl, rfl⟩)
        go_round
        case rel => exact ⟨k + 1, by omega, by go_num, by rw [Hn.out]⟩
        case measure => simp [intOf]; omega
    · obtain rfl : k = n := by omega
      go_wp2
      go_ret
      exact ⟨rfl, rfl⟩

theorem specIsIdealF_any (A : Option Addr) (n c : Nat) (zs : List Int) (s : Int) (w : World) (h : Ints w w.heap.size A n zs) (hbig : n ≤ 1152921504606846976) :
    Calls Try.prog 14 #[.slice A n c, .int .i64 s] w fun e w' => e = .returned (.bool (isIdealR zs s)) ∧ Below w.heap.size w w' := by
  have hlen := Lib.hid h.len
  cases hq : (vo zs && inB s 0 (powI n - 1))
  · have Ht := Lib.hid (show isIdealR zs s = false by unfold isIdealR; rw [hlen.out, hq]; rfl)
    go_enter Try.func14, Try.ntmps14
    go_wp2_with (go_at_call 41; refine (validSet_any _ _ _ _ zs s _ h hbig).mono ?_; rintro e w' ⟨rfl, m, rfl⟩)
    go_ret
    exact ⟨ret_bool Ht.out.symm, below_drewN (Below.refl _ _) m⟩
  · have hv : VoP zs := by simp [vo] at hq; exact hq.1
    have hs : 0 ≤ s ∧ s < powI n := by simp [inB] at hq; omega
    have hn6 : n ≤ 6 := by have := hv.1; rw [hlen.out] at this; exact this
    have hpn : powI n ≤ 64 := powI_le6 (by omega)
    have Ht := Lib.hid (show isIdealR zs s = idTo (downP n (pairsL zs)) s n by
      unfold isIdealR; rw [hlen.out, hq, Bool.true_and, ← idTo_all hv.sets hs.1 (by rw [hlen.out]; exact hs.2), du, hlen.out])
    have hds : Sets (downP n (pairsL zs)) := by have := du_sets hv.sets; unfold du at this; rw [hlen.out] at this; exact this
    have Hq := Lib.hid hq
    clear hq
    go_enter Try.func14, Try.ntmps14
    go_wp2_with fail
    refine (validSet_any _ _ _ _ zs s _ h hbig).mono ?_
    rintro e w' ⟨rfl, m, rfl⟩
    rw [Hq.out]
    go_wp2_with (go_at_call 43; refine (downOf_any _ _ _ zs _ (h.drewN m) hv.sets).mono ?_; rintro e w2 ⟨rfl, hA2, hB2⟩)
    refine (sisIdeal_any _ _ _ _ _ s _ (hA2.ints' hA2.lt (downP_len _ _)) hds hs.1 (by omega)).mono ?_
    rintro e w3 ⟨rfl, rfl⟩
    go_wp2_with fail
    go_ret
    exact ⟨ret_bool Ht.out.symm, (below_drewN (Below.refl _ _) m).trans hB2⟩

theorem specBelowOfF_any (A : Option Addr) (n c : Nat) (zs : List Int) (s : Int) (w : World) (h : Ints w w.heap.size A n zs) (hbig : n ≤ 1152921504606846976) :
    Calls Try.prog 18 #[.slice A n c, .int .i64 s] w fun e w' => e = .returned (.int .i64 (belowR zs s)) ∧ Below w.heap.size w w' := by
  have hlen := Lib.hid h.len
  cases hq : (vo zs && inB s 0 (powI n - 1))
  · have Ht := Lib.hid (show belowR zs s = -1 by unfold belowR; rw [hlen.out, hq]; rfl)
    go_enter Try.func18, Try.ntmps18
    go_wp2_with (go_at_call 41; refine (validSet_any _ _ _ _ zs s _ h hbig).mono ?_; rintro e w' ⟨rfl, m, rfl⟩)
    go_ret
    exact ⟨ret_int Ht.out.symm, below_drewN (Below.refl _ _) m⟩
  · have hv : VoP zs := by simp [vo] at hq; exact hq.1
    have hs : 0 ≤ s ∧ s < powI n := by simp [inB] at hq; omega
    have Ht := Lib.hid (show belowR zs s = belTo (downP n (pairsL zs)) s n by
      unfold belowR; rw [hlen.out, hq, if_pos rfl, belI, du, hlen.out])
    have hds : Sets (downP n (pairsL zs)) := by have := du_sets hv.sets; unfold du at this; rw [hlen.out] at this; exact this
    have Hq := Lib.hid hq
    clear hq
    go_enter Try.func18, Try.ntmps18
    go_wp2_with fail
    refine (validSet_any _ _ _ _ zs s _ h hbig).mono ?_
    rintro e w' ⟨rfl, m, rfl⟩
    rw [Hq.out]
    go_wp2_with (go_at_call 43; refine (downOf_any _ _ _ zs _ (h.drewN m) hv.sets).mono ?_; rintro e w2 ⟨rfl, hA2, hB2⟩)
    refine (sbelow_any _ _ _ _ _ s _ (hA2.ints' hA2.lt (downP_len _ _)) hds hs.1 hs.2).mono ?_
    rintro e w3 ⟨rfl, rfl⟩
    go_wp2_with fail
    go_ret
    exact ⟨ret_int Ht.out.symm, (below_drewN (Below.refl _ _) m).trans hB2⟩

theorem specNextIdealF_any (A : Option Addr) (n c : Nat) (zs : List Int) (s : Int) (w : World) (h : Ints w w.heap.size A n zs) (hbig : n ≤ 1152921504606846976) :
    Calls Try.prog 24 #[.slice A n c, .int .i64 s] w fun e w' => e = .returned (.int .i64 (nextR zs s)) ∧ Below w.heap.size w w' := by
  have hlen := Lib.hid h.len
  cases hq : (vo zs && inB s 0 (powI n - 1))
  · have Ht := Lib.hid (show nextR zs s = -1 by unfold nextR isIdealR; rw [hlen.out, hq]; rfl)
    go_enter Try.func24, Try.ntmps24
    go_wp2_with (go_at_call 41; refine (validSet_any _ _ _ _ zs s _ h hbig).mono ?_; rintro e w' ⟨rfl, m, rfl⟩)
    go_ret
    exact ⟨ret_int Ht.out.symm, below_drewN (Below.refl _ _) m⟩
  · have hv : VoP zs := by simp [vo] at hq; exact hq.1
    have hs : 0 ≤ s ∧ s < powI n := by simp [inB] at hq; omega
    have hn6 : n ≤ 6 := by have := hv.1; rw [hlen.out] at this; exact this
    have hpn : powI n ≤ 64 := powI_le6 (by omega)
    have hpp := powI_pos (n : Int)
    have Hd := Lib.hid (show downP n (pairsL zs) = du zs by unfold du; rw [hlen.out])
    have hds := du_sets hv.sets
    have Hid := Lib.hid (show idTo (du zs) s n = idB zs s by rw [← idTo_all hv.sets hs.1 (by rw [hlen.out]; exact hs.2), hlen.out])
    have htb := topsTo_bd (du zs) (powI n - 1 - s) n
    have Hb := Lib.hid (show belTo (du zs) (topsTo (du zs) (powI n - 1 - s) n) n = nextI zs s by unfold nextI belI; rw [hlen.out])
    cases hi : idB zs s
    all_goals
      first
        | have Ht := Lib.hid (show nextR zs s = -1 by unfold nextR isIdealR; rw [hlen.out, hq, hi]; rfl)
        | have Ht := Lib.hid (show nextR zs s = nextI zs s by unfold nextR isIdealR; rw [hlen.out, hq, hi]; rfl)
      have Hi := Lib.hid (Hid.out.trans hi)
      have Hq := Lib.hid hq
      clear hq hi
      go_enter Try.func24, Try.ntmps24
      go_wp2_with fail
      refine (validSet_any _ _ _ _ zs s _ h hbig).mono ?_
      rintro e w' ⟨rfl, m, rfl⟩
      rw [Hq.out]
      have hIm := h.drewN m
      have hBm := below_drewN (Below.refl w.heap.size w) m
      go_wp2_with fail
      refine (downOf_any _ _ _ zs _ hIm hv.sets).mono ?_
      rintro e w2 ⟨rfl, hA2, hB2⟩
      rw [Hd.out] at hA2
      have z2 := hB2.size
      have C2 := hBm.trans hB2
      have hI2 := hIm.to hB2 (Nat.le_refl _) z2
      go_wp2_with fail
      refine (sisIdeal_any _ _ _ _ (du zs) s _ (hA2.ints' hA2.lt (by rw [du_len, hlen.out])) hds hs.1 (by omega)).mono ?_
      rw [Hi.out]
      rintro e w3 ⟨rfl, rfl⟩
    · go_wp2_with fail
      go_ret
      exact ⟨ret_int Ht.out.symm, C2⟩
    · go_wp2_with fail
      refine (downOf_any _ _ _ zs _ hI2 hv.sets).mono ?_
      rintro e w4 ⟨rfl, hA4, hB4⟩
      rw [Hd.out] at hA4
      have hd4 := hA4.ints' (B := w4.heap.size) hA4.lt (by rw [du_len, hlen.out])
      go_wp2_with (first
        | (go_at_call 54; refine (power_any _ _ (by omega) (by omega)).mono ?_; rintro e w' ⟨rfl, rfl⟩)
        | (go_at_call 53; refine (specTops_any _ _ _ _ (du zs) _ _ hd4 hds (by omega) (by omega)).mono ?_; rintro e w' ⟨rfl, rfl⟩)
        | (go_at_call 47; refine (sbelow_any _ _ _ _ (du zs) _ _ hd4 hds htb.1 htb.2).mono ?_; rintro e w' ⟨rfl, rfl⟩))
      go_ret
      exact ⟨ret_int (Hb.out.trans Ht.out.symm), C2.trans (hB4.mono z2)⟩
end Go.Proofs.Ytidggolnhagfdaa

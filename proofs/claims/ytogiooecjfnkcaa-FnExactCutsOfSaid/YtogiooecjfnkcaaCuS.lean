/- What all of a set have above them, and cuts: the model's; the program's of a set. -/
import Derived.Test.YtogiooecjfnkcaaJoM
import Derived.Test.YtogiooecjfnkcaaDual
import Derived.Test.YtogiooecjfnkcaaOwnS
import Derived.Test.YtogiooecjfnkcaaLineI
namespace Go.Proofs.Ytogiooecjfnkcaa
open Go.RowKit Go.Shelf
attribute [local go_sem] Oper.semAt_some
attribute [local go_sem, local simp] wide_fn

set_option maxHeartbeats 1000000 in
theorem scommon_any (A : Option Addr) (n c B : Nat) (zs : List Int) (s : Int) (w : World) (h : Ints w B A n zs) (hv : Sets zs) (h0 : 0 ≤ s) (h1 : s < 64) :
    Calls Try.prog 42 #[.slice A n c, .int .i64 s] w fun e w' => e = .returned (.int .i64 (comTo zs s n)) ∧ ∃ m, w' = w.drewN m := by
  have hlen := Lib.hid h.len
  have hn6 : n ≤ 6 := by have := hv.1; rw [hlen.out] at this; exact this
  have hpn := powI_le6 (n := (n : Int)) (by omega)
  have hpp := powI_pos (n : Int)
  have H0 := Lib.hid (show powI n - 1 = comTo zs s 0 by unfold comTo; rw [hlen.out])
  go_enter Try.func42, Try.ntmps42
  go_wp2_with (go_at_call 41; refine (power_any _ _ (by omega) (by omega)).mono ?_; rintro e w' ⟨rfl, rfl⟩)
  go_loopw [5, 6] (fun t i wr => ∃ k q : Nat, k ≤ n ∧ i = .int .i64 k ∧ t = .int .i64 (comTo zs s k) ∧ wr = w.drewN q) (fun _ i _ => n - (intOf i).toNat)
  case atStart => exact ⟨0, 0, by omega, rfl, by rw [H0.out], rfl⟩
  case round =>
    obtain ⟨k, q, hk, rfl, rfl, rfl⟩ := hrel
    by_cases hlt : k < n
    · obtain ⟨bl, off, rfl, _, hc⟩ := h.at_ hlt
      have hck := hc k hlt
      clear hc
      have hz := hv.bd k (by rw [hlen.out]; exact hlt)
      have hbk := atUp_bd hv (a := k) (by rw [hlen.out]; exact hlt)
      have hpz := powI_le6 (n := (zs.length : Int)) (by rw [hlen.out]; omega)
      have hpk := powI_le6 (n := (k : Int)) (by omega)
      have hp0 := powI_pos (k : Int)
      have hqk := fun w => power_any (k : Int) w (by omega) (by omega)
      have hcb := comTo_bd zs s k
      have ho : bits .or .i64 (zs[k]?.getD 0) (powI k) = atUp zs k := bits_or (by omega) (by omega) (by omega) (by omega)
      have ha : bits .and .i64 (comTo zs s k) (atUp zs k) = andI (comTo zs s k) (atUp zs k) := bits_and (by omega) (by omega) (by omega) (by omega)
      cases hb : bitB s k
      · have hbi : (bitI s k == 1) = false := by rw [bitI_one, hb]
        have Hn := Lib.hid (comTo_no (zs := zs) hb)
        go_wp2_with (go_at_call 54; refine (bit_any _ _ _ (by omega) (by omega) (by omega) (by omega)).mono ?_; rintro e w' ⟨rfl, rfl⟩)
        go_roundw
        case rel => exact ⟨k + 1, q, by omega, by go_num, by rw [Hn.out], rfl⟩
        case measure => simp [intOf]; omega
      · have hbi : (bitI s k == 1) = true := by rw [bitI_one, hb]
        have Hn := Lib.hid (comTo_yes (zs := zs) hb)
        go_wp2_with (go_at_call 54; refine (bit_any _ _ _ (by omega) (by omega) (by omega) (by omega)).mono ?_; rintro e w' ⟨rfl, rfl⟩)
        go_quiet ((go_at_call 41; exact quiet_add_left (hqk _)))
        go_wp2
        go_roundw
        case rel => exact ⟨k + 1, _, by omega, by go_num, by rw [Hn.out], rfl⟩
        case measure => simp [intOf]; omega
    · obtain rfl : k = n := by omega
      go_wp2
      go_ret
      exact ⟨rfl, _, rfl⟩

theorem cutI_is {zs : List Int} {n : Nat} (h : zs.length = n) (s : Int) : comTo (du zs) (comTo zs s n) n = cutI zs s := by subst h; rfl

set_option maxHeartbeats 2000000 in
theorem scuts_any (A : Option Addr) (n c : Nat) (zs : List Int) (w : World) (h : Ints w w.heap.size A n zs) (hbig : n ≤ 1152921504606846976) :
    Calls Try.prog 17 #[.slice A n c] w (GivesRowC w (cutsR zs)) := by
  obtain ⟨i0, hi0, hz0, hz1, hz2⟩ := info_parts infoInt
  have hlen := Lib.hid h.len
  cases hv : vo zs
  · have Ht := Lib.hid (show cutsR zs = [] by unfold cutsR; rw [hv]; rfl)
    go_enter Try.func17, Try.ntmps17
    go_wp2_with (go_at_call 31; refine (validOrder_any _ _ _ _ zs _ h hbig).mono ?_; rintro e w' ⟨rfl, m, rfl⟩)
    go_ret
    exact ⟨none, 0, 0, rfl, by rw [Ht.out]; exact RowC.nil _ _ _ _, below_drewN (Below.refl _ _) _⟩
  · have hvo : VoP zs := by simpa [vo] using hv
    have Ht := Lib.hid (show cutsR zs = setsTo (cutB zs) (2 ^ n) by unfold cutsR; rw [hv, hlen.out]; rfl)
    have hn6 : n ≤ 6 := by have := hvo.1; rw [hlen.out] at this; exact this
    have hpn : powI n ≤ 64 := powI_le6 (by omega)
    have Hd := Lib.hid (show downP n (pairsL zs) = du zs by unfold du; rw [hlen.out])
    have hds := du_sets hvo.sets
    have hp6 : (2 : Nat) ^ n ≤ 2 ^ 6 := Nat.pow_le_pow_right (by decide) hn6
    have hN := Lib.hid (show powI n = ((2 ^ n : Nat) : Int) by simp [powI])
    obtain ⟨N, hNN⟩ : ∃ N : Nat, 2 ^ n = N := ⟨_, rfl⟩
    rw [hNN] at hN hp6 Ht
    have HN := Lib.hid hNN
    clear hNN
    have hpw : ∀ w, Calls Try.prog 41 #[.int .i64 (n : Int)] w fun e w' => e = .returned (.int .i64 (N : Int)) ∧ w = w' := fun w => by
      rw [← hN.out]; exact power_any _ _ (by omega) (by omega)
    go_enter Try.func17, Try.ntmps17
    go_wp2_with fail
    refine (validOrder_any _ _ _ _ zs _ h hbig).mono ?_
    rw [hv]
    rintro e w0 ⟨rfl, m, hm⟩
    have hB00 : Below w.heap.size w w0 := by rw [hm]; exact below_drewN (Below.refl _ _) _
    have hI0 : Ints w0 w0.heap.size A n zs := (h.below hB00).more hB00.size
    clear hm hv
    have z0 := hB00.size
    go_wp2_with fail
    have h1 := own_new w0 3
    have hU1 : Upd (fun _ => False) w0 (w0.alloc (.cells #[] 3)) := (Upd.refl _ w0).alloc _
    have hz1' : (w0.alloc (.cells #[] 3)).heap.size = w0.heap.size + 1 := by simp
    obtain ⟨W1, hW1⟩ : ∃ W1, w0.alloc (.cells #[] 3) = W1 := ⟨_, rfl⟩
    rw [hW1] at h1 hU1 hz1' ⊢
    clear hW1
    obtain ⟨hza, hzb⟩ : w0.heap.size < W1.heap.size ∧ W1.heap.size ≤ w0.heap.size + 1 := by omega
    clear hz1'
    have hB1 : Below w0.heap.size w0 W1 := hU1.toBelow (fun _ e => e.elim) (Nat.le_refl _)
    refine (downOf_any _ _ _ zs _ (hI0.to hB1 (Nat.le_refl _) (by omega)) hvo.sets).mono ?_
    rintro e w2 ⟨rfl, hA2, hB2⟩
    rw [Hd.out] at hA2
    have z2 := hB2.size
    have O2 : OwnS (fun k => k = w0.heap.size) w2 w0.heap.size 3 (.slice (some ⟨w0.heap.size, 0, none⟩) 0 0) [] := OwnS.keep (S := fun k => k = w0.heap.size) ⟨fun k hk => by simp [Value.ownBlock] at hk; exact hk.symm, h1⟩ (Below.toUpd hB2) (fun k hk e => by omega)
    have hU2 : Upd (fun _ => False) w0 w2 := hU1.below hB2 (fun k h1 h2 => by omega)
    have hI2 : Ints w2 w0.heap.size A n zs := hI0.below (hU2.toBelow (fun _ e => e.elim) (Nat.le_refl _))
    clear h1 hU1 hB2
    go_wp2_with fail
    go_loopw [3, 5] (fun v i wr => ∃ k : Nat, k ≤ N ∧ i = .int .i64 k ∧ OwnS (fun k => k = w0.heap.size ∨ w2.heap.size ≤ k) wr w0.heap.size 3 v (setsTo (cutB zs) k) ∧ Upd (fun k => k = w0.heap.size) w2 wr) (fun _ i _ => N - (intOf i).toNat)
    case atStart => exact ⟨0, by omega, rfl, ⟨fun k hk => .inl (O2.1 k hk), O2.2⟩, Upd.refl _ _⟩
    case round =>
      obtain ⟨k, hk, rfl, hO, hU⟩ := hrel
      have zr := hU.size
      have hdr : Ints wr wr.heap.size (some ⟨W1.heap.size, 0, none⟩) n (du zs) := (hA2.upd hU (fun e => by omega)).ints' (by have := hA2.lt; omega) (by rw [du_len, hlen.out])
      have hir : Ints wr wr.heap.size A n zs := (hI2.below (hU.toBelow (B := w0.heap.size) (fun k e => by omega) (by omega))).more (by omega)
      by_cases hlt : k < N
      · have hkn := hN.out
        have hcb := comTo_bd zs (k : Int) n
        have hpz := powI_le6 (n := (zs.length : Int)) (by rw [hlen.out]; omega)
        have Hci := Lib.hid (cutI_is hlen.out (k : Int))
        have hsl := setsTo_len (cutB zs) k
        have Hcb := Lib.hid (show cutB zs k = (cutI zs k == (k : Int)) from rfl)
        cases hid : cutB zs k
        · have Hn := Lib.hid (setsTo_no (p := cutB zs) hid)
          have hce : (cutI zs k == (k : Int)) = false := by rw [← Hcb.out, hid]
          clear hkn hid
          go_wp2_with (go_at_call 41; refine (hpw _).mono ?_; rintro e w' ⟨rfl, rfl⟩)
          refine (scommon_any A n c _ zs k wr hir hvo.sets (by omega) (by omega)).mono ?_
          rintro e w3 ⟨rfl, m3, rfl⟩
          go_wp2_with fail
          refine (scommon_any _ n _ _ (du zs) _ _ (hdr.drewN m3) hds hcb.1 (by omega)).mono ?_
          rw [Hci.out]
          rintro e w4 ⟨rfl, m4, rfl⟩
          have hO4 : OwnS (fun k => k = w0.heap.size ∨ w2.heap.size ≤ k) ((wr.drewN m3).drewN m4) w0.heap.size 3 _ (setsTo (cutB zs) k) := hO
          have hU4 := (hU.drewN m3).drewN m4
          generalize (wr.drewN m3).drewN m4 = w5 at *
          go_wp2_with fail
          go_roundw
          case rel => exact ⟨k + 1, by omega, by go_num, by rw [Hn.out]; exact hO4, hU4⟩
          case measure => simp [intOf]; omega
        · have Hn := Lib.hid (setsTo_yes (p := cutB zs) hid)
          have hce : (cutI zs k == (k : Int)) = true := by rw [← Hcb.out, hid]
          clear hkn hid
          go_wp2_with (go_at_call 41; refine (hpw _).mono ?_; rintro e w' ⟨rfl, rfl⟩)
          refine (scommon_any A n c _ zs k wr hir hvo.sets (by omega) (by omega)).mono ?_
          rintro e w3 ⟨rfl, m3, rfl⟩
          go_wp2_with fail
          refine (scommon_any _ n _ _ (du zs) _ _ (hdr.drewN m3) hds hcb.1 (by omega)).mono ?_
          rw [Hci.out]
          rintro e w4 ⟨rfl, m4, rfl⟩
          have hO4 : OwnS (fun k => k = w0.heap.size ∨ w2.heap.size ≤ k) ((wr.drewN m3).drewN m4) w0.heap.size 3 _ (setsTo (cutB zs) k) := hO
          have hU4 := (hU.drewN m3).drewN m4
          have z4 : ((wr.drewN m3).drewN m4).heap.size = wr.heap.size := rfl
          generalize (wr.drewN m3).drewN m4 = w5 at *
          have z5 : w2.heap.size ≤ w5.heap.size := by omega
          clear z4
          go_wp2_with (at_builtin; refine wpList_append1 _ rfl (.tmp 26) (.tmp 28) _ rfl w0.heap.size 3 i0 _ 8 Try.underlying22 hi0 hz0 hz1 hz2 rfl _ (setsTo (cutB zs) k).length _ rfl (hO4.2.alloc _) w5.heap.size 1 (.int .i64 k) rfl (cell_new _ _ _) rfl (by omega) (by omega) (by simp; omega) ?_; rintro v' w' hown' hg' hv')
          have zg := hg'.size
          simp at zg
          go_roundw
          case rel => exact ⟨k + 1, by omega, by go_num, by rw [Hn.out]; exact hO4.step hown' hv' (fun k e => e) (fun _ => .inr (by omega)), (hU4.alloc _).grown hg' (fun k hk => by rcases hO4.1 k hk with e | e <;> omega)⟩
          case measure => simp [intOf]; omega
      · obtain rfl : k = N := by omega
        obtain ⟨A', c', rfl, hRC⟩ := rowC_of_own hO.2
        go_wp2_with (go_at_call 41; refine (hpw _).mono ?_; rintro e w' ⟨rfl, rfl⟩)
        go_ret
        exact ⟨A', _, c', rfl, by rw [Ht.out]; exact hRC.more z0 (Nat.le_refl _), hB00.trans (((hU2.trans' hU (fun i hi e => by omega)).toBelow (fun _ e => e.elim) (Nat.le_refl _)).mono z0)⟩
end Go.Proofs.Ytogiooecjfnkcaa

/- The order of spans: the model's. -/
import Derived.Test.YtdcdddmjffgibaaSoM
import Derived.Test.YtdcdddmjffgibaaBesS
import Derived.Test.YtdcdddmjffgibaaGa
import Derived.Test.YtdcdddmjffgibaaRowV
namespace Go.Proofs.Ytdcdddmjffgibaa
open Go.RowKit Go.Shelf

set_option maxRecDepth 100000 in
set_option maxHeartbeats 4000000 in
theorem validSpans_any (A : Option Addr) (n c B : Nat) (rs : List (List Int)) (w : World) (h : IntsS w B A n rs) (hn : n ≤ 1048576) :
    Calls Try.prog 44 #[.slice A n c] w fun e w' => e = .returned (.bool (soB rs)) ∧ ∃ m, w' = w.drewN m := by
  have Hlen := Lib.hid h.len
  go_enter Try.func44, Try.ntmps44
  go_wp2
  go_loopw [3] (fun i wr => ∃ k q : Nat, k ≤ n ∧ i = .int .i64 k ∧ (rs.take k).all spanOk = true ∧ wr = w.drewN q) (fun i _ => n - (intOf i).toNat)
  case atStart => exact ⟨0, 0, by omega, rfl, rfl, rfl⟩
  case round =>
    obtain ⟨k, q, hk, rfl, hall, rfl⟩ := hrel
    have Hall := Lib.hid hall
    clear hall
    by_cases hlt : k < n
    · have hkl : k < rs.length := by rw [Hlen.out]; exact hlt
      have Hno := Lib.hid (fun (hx : spanOk rs[k] = false) => (show soB rs = false by unfold soB; rw [all_not hkl hx]; rfl))
      have Hye := Lib.hid (fun (hx : spanOk rs[k] = true) => all_take_snoc hkl Hall.out hx)
      obtain ⟨b, off, rfl, hb, hc⟩ := h.at_ hlt
      obtain ⟨A', c', hcell, hI⟩ := hc k hlt
      clear hc
      rw [List.getElem?_eq_getElem hkl, Option.getD_some] at hcell hI
      have Hsp := Lib.hid (show spanOk rs[k] = (decide (rs[k].length = 2) && (inB (rs[k][0]?.getD 0) 0 (rs[k][1]?.getD 0) && inB (rs[k][1]?.getD 0) 0 1000)) from rfl)
      generalize rs[k] = r at *
      clear hkl
      by_cases h2 : r.length = 2
      · have hI2 : Ints w B A' 2 r := by rw [h2] at hI; exact hI
        rw [h2] at hcell
        obtain ⟨b', off', rfl, hb', hc'⟩ := hI2.at_ (k := 0) (by omega)
        have hc0 := hc' 0 (by omega)
        have hc1 := hc' 1 (by omega)
        rw [Nat.add_zero] at hc0
        clear hc' hI hI2
        have Hs2 := Lib.hid (Hsp.out.trans (by rw [h2]; rfl : _ = (inB (r[0]?.getD 0) 0 (r[1]?.getD 0) && inB (r[1]?.getD 0) 0 1000)))
        generalize r[0]?.getD 0 = x0 at *
        generalize r[1]?.getD 0 = x1 at *
        clear h2
        have hq1 := fun w => inRange_any x0 0 x1 w
        have hq2 := fun w => inRange_any x1 0 1000 w
        cases h3 : inB x0 0 x1
        · have Hf := Lib.hid (Hno.out (by rw [Hs2.out, h3]; rfl))
          rw [h3] at hq1
          have Hq1 := Lib.hid hq1
          clear h3 hq1 hq2
          go_wp2_with fail
          go_quiet ((go_at_call 70; exact quiet_add_left (Hq1.out _)))
          go_wp2
          go_ret
          exact ⟨ret_bool Hf.out.symm, _, World.drewN_drewN _ _ _⟩
        · rw [h3] at hq1
          cases h4 : inB x1 0 1000
          · have Hf := Lib.hid (Hno.out (by rw [Hs2.out, h3, h4]; rfl))
            rw [h4] at hq2
            have Hq1 := Lib.hid hq1
            have Hq2 := Lib.hid hq2
            clear h3 h4 hq1 hq2
            go_wp2_with fail
            go_quiet ((go_at_call 70; first | with_reducible exact quiet_add_left (Hq1.out _) | exact quiet_add_left (Hq2.out _)))
            go_wp2
            go_ret
            exact ⟨ret_bool Hf.out.symm, _, World.drewN_drewN _ _ _⟩
          · have Hf := Lib.hid (Hye.out (by rw [Hs2.out, h3, h4]; rfl))
            rw [h4] at hq2
            have Hq1 := Lib.hid hq1
            have Hq2 := Lib.hid hq2
            clear h3 h4 hq1 hq2
            go_wp2_with fail
            go_quiet ((go_at_call 70; first | with_reducible exact quiet_add_left (Hq1.out _) | exact quiet_add_left (Hq2.out _)))
            go_wp2
            go_roundw
            case rel => exact ⟨k + 1, _, by omega, by go_num, Hf.out, rfl⟩
            case measure => simp [intOf]; omega
      · have Hf := Lib.hid (Hno.out (by rw [Hsp.out, decide_eq_false h2]; rfl))
        have hmi : ((r.length : Int) != 2) = true := by simp; omega
        generalize r.length = ql at *
        go_wp2_with fail
        go_quiet (fail)
        go_wp2
        go_ret
        exact ⟨ret_bool Hf.out.symm, _, World.drewN_drewN _ _ _⟩
    · obtain rfl : k = n := by omega
      have hf : soB rs = decide (k ≤ 6) := by
        have h1 := Hall.out
        rw [List.take_of_length_le (by rw [Hlen.out]; exact Nat.le_refl _)] at h1
        unfold soB
        rw [h1, Hlen.out]; rfl
      have Hf := Lib.hid hf
      clear hf
      go_wp2
      go_ret
      exact ⟨ret_bool (by rw [Hf.out, Bool.eq_iff_iff]; simp; try omega), _, rfl⟩

set_option maxRecDepth 100000 in
set_option maxHeartbeats 8000000 in
theorem specSpansOrder_any (A : Option Addr) (n c : Nat) (rs : List (List Int)) (w : World) (h : IntsS w w.heap.size A n rs) (hn : n ≤ 1048576) :
    Calls Try.prog 14 #[.slice A n c] w (GivesAtV w (soR rs) (soB rs)) := by
  have Hlen := Lib.hid h.len
  obtain ⟨i0, hi0, hz0, hz1, hz2⟩ := info_parts infoInt
  cases hb : soB rs
  · have Hr := Lib.hid (show soR rs = [] by unfold soR; rw [hb]; rfl)
    have Hb := Lib.hid hb
    clear hb
    rw [Hr.out]
    go_enter Try.func14, Try.ntmps14
    go_wp2_with fail
    refine (validSpans_any _ _ _ _ rs _ h hn).mono ?_
    rintro e w' ⟨rfl, m0, rfl⟩
    rw [Hb.out]
    go_wp2
    go_ret2
    exact ⟨none, 0, 0, rfl, RowV.nil _ _ _ _, below_drewN (Below.refl _ _) _⟩
  · have Hr := Lib.hid (show soR rs = soL rs by unfold soR; rw [hb]; rfl)
    have Hok := Lib.hid (fun (i : Nat) (hi : i < n) => so_ok hb (i := i) (by rw [Hlen.out]; exact hi))
    have hn6 : n ≤ 6 := by
      unfold soB at hb
      rw [Bool.and_eq_true, decide_eq_true_eq] at hb
      rw [← Hlen.out]; exact hb.2
    have Hb := Lib.hid hb
    clear hb
    rw [Hr.out]
    go_enter Try.func14, Try.ntmps14
    go_wp2_with fail
    refine (validSpans_any _ _ _ _ rs _ h hn).mono ?_
    rintro e w' ⟨rfl, m0, rfl⟩
    rw [Hb.out]
    have hU0 : Upd (fun _ => False) w (w.drewN m0) := (Upd.refl _ _).drewN m0
    have h0 : IntsS (w.drewN m0) w.heap.size A n rs := h.drewN m0
    obtain ⟨w1, hw1⟩ : ∃ w1, w.drewN m0 = w1 := ⟨_, rfl⟩
    rw [hw1] at hU0 h0 ⊢
    clear hw1
    have z1 := hU0.size
    go_wp2_with fail
    have hO0 : OwnS (fun k => w1.heap.size ≤ k) (w1.alloc (.cells #[] 3)) w1.heap.size 3 (.slice (some ⟨w1.heap.size, 0, none⟩) 0 0) [] := ⟨fun k hk => by simp [Value.ownBlock] at hk; omega, own_new w1 _⟩
    have hU1 : Upd (fun _ => False) w1 (w1.alloc (.cells #[] 3)) := (Upd.refl _ _).alloc _
    obtain ⟨W1, hW1⟩ : ∃ W1, w1.alloc (.cells #[] 3) = W1 := ⟨_, rfl⟩
    rw [hW1] at hO0 hU1 ⊢
    clear hW1
    go_loopw [4, 5] (fun v i wr => ∃ k : Nat, k ≤ n ∧ i = .int .i64 k ∧ OwnS (fun k => w1.heap.size ≤ k) wr w1.heap.size 3 v ((soL rs).take k) ∧ Upd (fun _ => False) w1 wr) (fun _ i _ => n - (intOf i).toNat)
    case atStart => exact ⟨0, by omega, rfl, by rw [List.take_zero]; exact hO0, hU1⟩
    case round =>
      clear hO0 hU1
      obtain ⟨k, hk, rfl, hO, hU⟩ := hrel
      rename World => wr
      have zr := hU.size
      have hBr : Below w.heap.size w1 wr := hU.toBelow (fun _ e => e.elim) z1
      by_cases hlt : k < n
      · obtain ⟨bo, oo, rfl, hbo, hcs⟩ := (h0.below hBr).at_ hlt
        obtain ⟨Ak, ck, hcellk, hIk⟩ := hcs k hlt
        have hok := Hok.out k hlt
        rw [hok.1] at hcellk hIk
        obtain ⟨bk, ok, rfl, hbk, hck⟩ := hIk.at_ (k := 0) (by omega)
        have hlk : wr.cell? ⟨bk, ok + 1, none⟩ = some (.int .i64 (sL rs k)) := hck 1 (by omega)
        have Hcs := Lib.hid hcs
        have Hsn := Lib.hid (soL_snoc (rs := rs) (k := k) (by rw [Hlen.out]; exact hlt))
        clear hcs hck hIk
        go_wp2_with fail
        go_loopw [6, 7] (fun s i wy => ∃ j q : Nat, j ≤ n ∧ i = .int .i64 j ∧ s = .int .i64 (soTo rs k j) ∧ wy = wr.drewN q) (fun _ i _ => n - (intOf i).toNat)
        case atStart => exact ⟨0, 0, by omega, rfl, rfl, rfl⟩
        case round =>
          obtain ⟨j, q, hj, rfl, rfl, rfl⟩ := hrel
          by_cases hlj : j < n
          · obtain ⟨Aj, cj, hcellj, hIj⟩ := Hcs.out j hlj
            have hokj := Hok.out j hlj
            rw [hokj.1] at hcellj hIj
            obtain ⟨bj, oj, rfl, hbj, hcj⟩ := hIj.at_ (k := 0) (by omega)
            have hfj : wr.cell? ⟨bj, oj, none⟩ = some (.int .i64 (sF rs j)) := hcj 0 (by omega)
            have Hy := Lib.hid (fun hh => soTo_yes (rs := rs) (i := k) (k := j) hh)
            have Hn := Lib.hid (fun hh => soTo_no (rs := rs) (i := k) (k := j) hh)
            have hbd := soTo_bd rs k j
            have hpj := powI_le6 (n := (j : Int)) (by omega)
            have hpp := powI_pos (j : Int)
            clear hcj hIj hokj
            generalize sF rs j = fj at *
            generalize sL rs k = lk at *
            have hor : bits .or .i64 (soTo rs k j) (powI (j : Int)) = orI (soTo rs k j) (powI (j : Int)) := bits_or (by omega) (by omega) (by omega) (by omega)
            generalize soTo rs k j = so at *
            by_cases hge : lk < fj
            · have H1 := Lib.hid (Hy.out hge)
              go_wp2_with fail
              go_quiet (fail)
              go_wp2_with (go_at_call 45; refine (power_any _ _ (by omega) (by omega)).mono ?_; rintro e w' ⟨rfl, rfl⟩)
              go_roundw
              case rel => exact ⟨j + 1, _, by omega, by go_num, by rw [H1.out], rfl⟩
              case measure => simp [intOf]; omega
            · have H1 := Lib.hid (Hn.out hge)
              go_wp2_with fail
              go_quiet (fail)
              go_wp2
              go_roundw
              case rel => exact ⟨j + 1, _, by omega, by go_num, by rw [H1.out], rfl⟩
              case measure => simp [intOf]; omega
          · obtain rfl : j = n := by omega
            have hOz := hO.keep ((Upd.refl (fun _ => False) wr).drewN q) (fun k hk e => e)
            have hUz := hU.drewN q
            obtain ⟨wz, hwz⟩ : ∃ wz, wr.drewN q = wz := ⟨_, rfl⟩
            rw [hwz] at hOz hUz ⊢
            clear hwz
            have zz := hUz.size
            have hln : ((soL rs).take k).length ≤ 6 := by have h1 := List.length_take_le k (soL rs); omega
            have Hl2 := Lib.hid (show soTo rs k rs.length = soTo rs k j by rw [Hlen.out])
            generalize hso : soTo rs k j = so at *
            go_wp2_with (at_builtin; go_loud (refine wpList_append1 _ rfl (.tmp 41) (.tmp 43) _ rfl w1.heap.size 3 i0 _ 8 Try.underlying24 hi0 hz0 hz1 hz2 rfl _ ((soL rs).take k).length _ rfl (hOz.2.alloc _) wz.heap.size 1 (.int .i64 so) rfl (cell_new _ _ _) rfl (by omega) (by omega) (by simp; omega) ?_); rintro v' w' hown' hg' hv')
            go_roundw
            case rel =>
              have zg := hg'.size
              simp at zg
              have hOn := hOz.step (S' := fun k => w1.heap.size ≤ k) hown' hv' (fun k e => e) (fun _ => by omega)
              have hUn : Upd (fun _ => False) w1 w' := (hUz.alloc _).grown hg' (fun k hk => .inl (hOz.1 k hk))
              exact ⟨k + 1, by omega, by go_num, by rw [Hsn.out, Hl2.out]; exact hOn, hUn⟩
            case measure => simp [intOf]; omega
      · obtain rfl : k = n := by omega
        rw [List.take_of_length_le (by rw [soL_len, Hlen.out]; exact Nat.le_refl _)] at hO
        obtain ⟨A2, c2, hv2, hR2⟩ := rowV_of_own hO.2
        subst hv2
        go_wp2_with fail
        go_ret2
        exact ⟨A2, _, c2, rfl, hR2.more z1 (Nat.le_refl _), ((hU0.mono fun _ _ e => e.elim).trans' hU (fun i hi e => e)).toBelow (R := fun _ => False) (fun _ e => e.elim) (Nat.le_refl _)⟩
end Go.Proofs.Ytdcdddmjffgibaa

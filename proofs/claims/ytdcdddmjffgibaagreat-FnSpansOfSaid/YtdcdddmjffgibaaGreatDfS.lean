/- The different sets of a list: the model's. -/
import Derived.Test.YtdcdddmjffgibaaGreatDfM
import Derived.Test.YtdcdddmjffgibaaGreatGood
import Derived.Test.YtdcdddmjffgibaaGreatJoS
import Derived.Test.YtdcdddmjffgibaaGreatGc
import Derived.Test.YtdcdddmjffgibaaGreatJoI
set_option linter.unusedVariables false
set_option linter.unusedSimpArgs false
namespace Go.Proofs.YtdcdddmjffgibaaGreat
open Go.RowKit Go.Shelf

def seTo (ts : List Int) (x : Int) : Nat → Bool
  | 0 => false
  | j + 1 => seTo ts x j || (ts[j]?.getD 0 == x)
theorem seTo_yes {ts : List Int} {x : Int} {j : Nat} (h : seTo ts x j = true) : seTo ts x (j + 1) = true := by simp [seTo, h]
theorem seTo_no {ts : List Int} {x : Int} {j : Nat} (h : seTo ts x j = false) : seTo ts x (j + 1) = (ts[j]?.getD 0 == x) := by simp [seTo, h]
theorem seTo_all (ts : List Int) (x : Int) : seTo ts x ts.length = decide (x ∈ ts) := by
  have key : ∀ j : Nat, j ≤ ts.length → seTo ts x j = decide (x ∈ ts.take j) := fun j => by
    induction j with
    | zero => intro _; simp [seTo]
    | succ j ih =>
      intro hj
      rw [seTo, ih (by omega), List.take_succ_eq_append_getElem (by omega), List.getElem?_eq_getElem (by omega), Option.getD_some, Bool.eq_iff_iff]
      simp only [Bool.or_eq_true, decide_eq_true_eq, beq_iff_eq, List.mem_append, List.mem_singleton]
      constructor
      · rintro (h | h)
        · exact .inl h
        · exact .inr h.symm
      · rintro (h | h)
        · exact .inl h
        · exact .inr h.symm
  have := key ts.length (Nat.le_refl _)
  rwa [List.take_length] at this

set_option maxRecDepth 100000 in
set_option maxHeartbeats 8000000 in
theorem specDifferent_any (A : Option Addr) (n c : Nat) (zs : List Int) (w : World) (h : Ints w w.heap.size A n zs) (hz : ∀ j, j < n → 0 ≤ zs[j]?.getD 0 ∧ zs[j]?.getD 0 < 64) (hn6 : n ≤ 6) :
    Calls Tryz.prog 31 #[.slice A n c] w fun e W' => ∃ A' m c', e = .returned (.slice A' m c') ∧ Ints W' W'.heap.size A' m (diS zs) ∧ Below w.heap.size w W' := by
  have hlen := Lib.hid h.len
  obtain ⟨i1, hi1, hzi1, hsi1, hbi1⟩ := info_parts infoInt
  go_enter Tryz.func31, Tryz.ntmps31
  go_wp2_with fail
  go_loopw [3, 4] (fun v i wr => ∃ (k bt cp : Nat) (ts : List Int), k ≤ n ∧ i = .int .i64 k ∧ v = .slice (some ⟨bt, 0, none⟩) ts.length cp ∧ ts = diS (zs.take k) ∧ (ts.length ≤ cp ∧ cp ≤ maxLen) ∧ (bt < wr.heap.size ∧ w.heap.size ≤ bt) ∧ (∀ j, j < ts.length → wr.cell? ⟨bt, j, none⟩ = some (.int .i64 (ts[j]?.getD 0))) ∧ Upd (fun _ => False) w wr) (fun _ i _ => n - (intOf i).toNat)
  case atStart => exact ⟨0, w.heap.size, 0, [], by omega, rfl, rfl, rfl, ⟨by simp, by simp [maxLen]⟩, ⟨by simp, by omega⟩, (fun j hj => by simp at hj), (Upd.refl _ _).alloc _⟩
  case round =>
    obtain ⟨k, bt, cp, ts, hk, rfl, rfl, hts, ⟨hkc, hcm⟩, ⟨hbt, hbt6⟩, htc, hU⟩ := hrel
    rename World => wr
    have zU := hU.size
    have hBw : Below w.heap.size w wr := hU.toBelow (fun _ e => e.elim) (Nat.le_refl _)
    have htl6 : ts.length ≤ 6 := by rw [hts]; have h1 := diS_le (zs.take k); have h2 := List.length_take_le k zs; omega
    have htb : ∀ j, j < ts.length → 0 ≤ ts[j]?.getD 0 ∧ ts[j]?.getD 0 < 64 := fun j hj => by
      have h1 : ts[j]?.getD 0 ∈ ts := by rw [List.getElem?_eq_getElem hj]; exact List.getElem_mem hj
      rw [hts, (diS_all _).2.2] at h1
      obtain ⟨q, hq, e⟩ := List.getElem_of_mem (List.mem_of_mem_take h1)
      have h2 := hz q (by rw [← hlen.out]; exact hq)
      rw [List.getElem?_eq_getElem hq, Option.getD_some, e, ← hts] at h2
      exact h2
    by_cases hlt : k < n
    · have hbx := hz k hlt
      have Hsn := Lib.hid (show diS (zs.take (k + 1)) = insS ts (zs[k]?.getD 0) by rw [List.take_succ_eq_append_getElem (by rw [hlen.out]; exact hlt), diS_snoc, ← hts, List.getElem?_eq_getElem (by rw [hlen.out]; exact hlt)]; rfl)
      obtain ⟨bl, off, rfl, hbl, hc⟩ := h.at_ hlt
      have hcx := hU.cell (hc k hlt) (fun e => e)
      clear hc hts
      generalize zs[k]?.getD 0 = x at *
      obtain ⟨m, hm⟩ : ∃ m, ts.length = m := ⟨_, rfl⟩
      have Hm := Lib.hid hm
      rw [hm] at hkc htc htl6 htb
      rw [hm]
      have Htc := Lib.hid htc
      have Htb := Lib.hid htb
      clear hm htc htb
      go_wp2_with fail
      go_loopw [5, 6, 7] (fun kk sm i wy => ∃ j q : Nat, j ≤ m ∧ i = .int .i64 j ∧ kk = .int .i64 (plTo ts x j : Int) ∧ sm = .bool (seTo ts x j) ∧ wy = wr.drewN q) (fun _ _ i _ => m - (intOf i).toNat)
      case atStart => exact ⟨0, 0, by omega, rfl, rfl, rfl, rfl⟩
      case round =>
        obtain ⟨j, q, hj, rfl, rfl, rfl, rfl⟩ := hrel
        by_cases hlj : j < m
        · have hcj := Htc.out j hlj
          have hbj := Htb.out j hlj
          have Hb1 := Lib.hid (fun w => bits_any (ts[j]?.getD 0) w hbj.1 hbj.2)
          have Hb2 := Lib.hid (fun w => bits_any x w hbx.1 hbx.2)
          have hp1 := popI_bd hbj.1 hbj.2
          have hp2 := popI_bd hbx.1 hbx.2
          have Hpy := Lib.hid (fun hh => plTo_yes (out := ts) (x := x) (j := j) hh)
          have Hpn := Lib.hid (fun hh => plTo_no (out := ts) (x := x) (j := j) hh)
          have Hsy := Lib.hid (fun hh => seTo_yes (ts := ts) (x := x) (j := j) hh)
          have Hsn2 := Lib.hid (fun hh => seTo_no (ts := ts) (x := x) (j := j) hh)
          generalize ts[j]?.getD 0 = y at *
          generalize plTo ts x j = pl at *
          generalize seTo ts x j = se at *
          have hbits : ∀ v w, (v = y ∨ v = x) → Calls Tryz.prog 32 #[.int .i64 v] w fun e w' => e = .returned (.int .i64 (popI v)) ∧ w = w' := fun v w hv => by rcases hv with rfl | rfl; exact Hb1.out w; exact Hb2.out w
          have HB := Lib.hid hbits
          clear hbits
          by_cases hge : popI x ≤ popI y
          · have hgI : (popI y ≥ popI x) := hge
            have H1 := Lib.hid (Hpy.out hge)
            cases se
            · have H2 := Lib.hid (Hsn2.out rfl)
              go_wp2_with fail
              go_quiet (fail)
              go_wp2_with fail
              try rw [World.drewN_drewN]
              try generalize q + nq = q2
              go_quiet ((go_at_call 32; first | exact quiet_add_left (HB.out _ _ (by simp)) | exact quiet_zero_left (HB.out _ _ (by simp))))
              go_wp2
              go_roundw
              case rel => exact ⟨j + 1, _, by omega, by go_num, by rw [H1.out]; go_num, by rw [H2.out], rfl⟩
              case measure => simp [intOf]; omega
            · have H2 := Lib.hid (Hsy.out rfl)
              go_wp2_with fail
              go_quiet (fail)
              go_wp2_with fail
              try rw [World.drewN_drewN]
              try generalize q + nq = q2
              go_quiet ((go_at_call 32; first | exact quiet_add_left (HB.out _ _ (by simp)) | exact quiet_zero_left (HB.out _ _ (by simp))))
              go_wp2
              go_roundw
              case rel => exact ⟨j + 1, _, by omega, by go_num, by rw [H1.out]; go_num, by rw [H2.out], rfl⟩
              case measure => simp [intOf]; omega
          · have hgI : ¬ (popI y ≥ popI x) := hge
            have H1 := Lib.hid (Hpn.out hge)
            cases se
            · have H2 := Lib.hid (Hsn2.out rfl)
              go_wp2_with fail
              go_quiet (fail)
              go_wp2_with fail
              try rw [World.drewN_drewN]
              try generalize q + nq = q2
              go_quiet ((go_at_call 32; first | exact quiet_add_left (HB.out _ _ (by simp)) | exact quiet_zero_left (HB.out _ _ (by simp))))
              go_wp2
              go_roundw
              case rel => exact ⟨j + 1, _, by omega, by go_num, by rw [H1.out], by rw [H2.out], rfl⟩
              case measure => simp [intOf]; omega
            · have H2 := Lib.hid (Hsy.out rfl)
              go_wp2_with fail
              go_quiet (fail)
              go_wp2_with fail
              try rw [World.drewN_drewN]
              try generalize q + nq = q2
              go_quiet ((go_at_call 32; first | exact quiet_add_left (HB.out _ _ (by simp)) | exact quiet_zero_left (HB.out _ _ (by simp))))
              go_wp2
              go_roundw
              case rel => exact ⟨j + 1, _, by omega, by go_num, by rw [H1.out], by rw [H2.out], rfl⟩
              case measure => simp [intOf]; omega
        · obtain rfl : j = m := by omega
          have Hse := Lib.hid ((seTo_all ts x).symm.trans (by rw [Hm.out]))
          by_cases hmem : x ∈ ts
          · have hst : seTo ts x j = true := by rw [← Hse.out]; exact decide_eq_true hmem
            have Hi := Lib.hid (show insS ts x = ts by unfold insS; rw [if_pos hmem])
            clear hmem
            generalize seTo ts x j = st at *
            subst hst
            go_wp2
            go_roundw
            case rel => exact ⟨k + 1, bt, cp, ts, by omega, by go_num, by rw [Hm.out], by rw [Hsn.out, Hi.out], ⟨by rw [Hm.out]; exact hkc, hcm⟩, ⟨hbt, hbt6⟩, (fun j' hj' => Htc.out j' (by rw [← Hm.out]; exact hj')), hU.drewN _⟩
            case measure => simp [intOf]; omega
          · have hst : seTo ts x j = false := by rw [← Hse.out]; exact decide_eq_false hmem
            have Hi := Lib.hid (show insS ts x = ts.take (plTo ts x j) ++ [x] ++ ts.drop (plTo ts x j) by unfold insS putS; rw [if_neg hmem, Hm.out])
            have hhk := plTo_le ts x j
            clear hmem
            generalize seTo ts x j = st at *
            subst hst
            generalize plTo ts x j = hp at *
            obtain ⟨w7, hw7⟩ : ∃ w7, wr.drewN q = w7 := ⟨_, rfl⟩
            have hUw7 : Upd (fun _ => False) w w7 := by rw [← hw7]; exact hU.drewN _
            have htc7 : ∀ i, i < j → w7.cell? ⟨bt, i, none⟩ = some (.int .i64 (ts[i]?.getD 0)) := by rw [← hw7]; exact Htc.out
            have hcx7 : w7.cell? ⟨bl, off + k, none⟩ = some (.int .i64 x) := by rw [← hw7]; exact hcx
            have z7 : wr.heap.size ≤ w7.heap.size := by rw [← hw7]; exact Nat.le_refl _
            rw [hw7]
            have Hc7 := Lib.hid htc7
            clear hw7 hcx hU htc7
            obtain ⟨AD, hAD⟩ : ∃ AD, (if cp = hp then some (⟨bt, 0, none⟩ : Addr) else some ⟨bt, hp, none⟩) = some AD := by split <;> exact ⟨_, rfl⟩
            have htk : (ts.take hp).length = hp := by rw [List.length_take, Hm.out]; omega
            have htd : (ts.drop hp).length = j - hp := by rw [List.length_drop, Hm.out]
            have hadd : ∀ i, i < (ts.drop hp).length → AD.add i = ⟨bt, hp + i, none⟩ := fun i hi => by
              rw [htd] at hi
              have hne : ¬ cp = hp := fun e => by omega
              rw [if_neg hne] at hAD
              cases hAD
              exact addr_add ..
            have hadd0 : ∀ i, i < (ts.take hp).length → (⟨bt, 0, none⟩ : Addr).add i = ⟨bt, 0 + i, none⟩ := fun i hi => addr_add ..
            have hgt : ∀ i, i < (ts.take hp).length → (ts.take hp)[i]?.getD 0 = ts[0 + i]?.getD 0 := fun i hi => by rw [Nat.zero_add, List.getElem?_take_of_lt (by omega)]
            have hgd : ∀ i, i < (ts.drop hp).length → (ts.drop hp)[i]?.getD 0 = ts[hp + i]?.getD 0 := fun i hi => by rw [List.getElem?_drop]
            have hone : ∀ (zs : List Int), ∀ u ∈ zs.map (Value.int .i64), u.oneCell' = true := fun zs u hu => by
              obtain ⟨z, _, rfl⟩ := List.mem_map.1 hu; rfl
            have hhc : hp ≤ cp := by omega
            have hhc' : (hp : Int) ≤ (cp : Int) := by omega
            have hhk' : (hp : Int) ≤ (j : Int) := by omega
            have Ho := Lib.hid hone
            have Hadd := Lib.hid hadd
            have Hadd0 := Lib.hid hadd0
            have Hgt := Lib.hid hgt
            have Hgd := Lib.hid hgd
            have Htk := Lib.hid htk
            have Htd := Lib.hid htd
            clear hone hadd hadd0 hgt hgd htk htd
            go_wp2_with fail
            refine region_T (S := (fun w' => w'.cell? ⟨bl, off + k, none⟩ = some (.int .i64 x))) 15 (by kernel_rfl) ?_
            have hSd : (fun w' => w'.cell? ⟨bl, off + k, none⟩ = some (.int .i64 x)) w7.drew := hcx7
            have htcd : ∀ i, i < j → w7.drew.cell? ⟨bt, i, none⟩ = some (.int .i64 (ts[i]?.getD 0)) := Hc7.out
            have hUd : Upd (fun _ => False) w w7.drew := hUw7.drew
            have zd : wr.heap.size ≤ w7.drew.heap.size := z7
            obtain ⟨Wd, hWd⟩ : ∃ Wd, w7.drew = Wd := ⟨_, rfl⟩
            rw [hWd] at hSd htcd hUd zd ⊢
            clear hWd hcx7 hUw7 z7
            have hbtd : bt < Wd.heap.size := by omega
            have hbld : bl < Wd.heap.size := by omega
            have zw := hUd.size
            have Htcd := Lib.hid htcd
            clear htcd
            refine anyT_take (i := 1) (oi := ?oi1T) (v := .slice (some ⟨bt, 0, none⟩) j cp) ?hi1T (by kernel_rfl) ?hq1T ?hy1T (by assumption) ?rest1T
            case hi1T => (simp only [List.getElem?_toArray, List.getElem?_cons_succ, List.getElem?_cons_zero]; first | done | rfl)
            case hq1T => first | exact fun _ _ _ h => h | exact fun _ _ _ h => (by cases h.1)
            case hy1T => (refine Or.inl ⟨by rfl, ?_⟩; intro wz hSw; go_simp; first | done | with_reducible rfl | simp | omega)
            try simp only [Act.put, List.setIfInBounds_toArray, List.set_cons_zero, List.set_cons_succ]
            refine anyT_take (i := 2) (oi := ?oi2T) (v := .int .i64 (hp : Int)) ?hi2T (by kernel_rfl) ?hq2T ?hy2T (by assumption) ?rest2T
            case hi2T => (simp only [List.getElem?_toArray, List.getElem?_cons_succ, List.getElem?_cons_zero]; first | done | rfl)
            case hq2T => first | exact fun _ _ _ h => h | exact fun _ _ _ h => (by cases h.1)
            case hy2T => (refine Or.inl ⟨by rfl, ?_⟩; intro wz hSw; go_simp; first | done | with_reducible rfl | simp | omega)
            try simp only [Act.put, List.setIfInBounds_toArray, List.set_cons_zero, List.set_cons_succ]
            refine anyT_take (i := 3) (oi := ?oi3T) (v := .slice (some ⟨bt, 0, none⟩) hp cp) ?hi3T (by kernel_rfl) ?hq3T ?hy3T (by assumption) ?rest3T
            case hi3T => (simp only [List.getElem?_toArray, List.getElem?_cons_succ, List.getElem?_cons_zero]; first | done | rfl)
            case hq3T => first | exact fun _ _ _ h => h | exact fun _ _ _ h => (by cases h.1)
            case hy3T => (refine Or.inl ⟨by rfl, ?_⟩; intro wz hSw; go_simp; first | done | with_reducible rfl | simp | omega)
            try simp only [Act.put, List.setIfInBounds_toArray, List.set_cons_zero, List.set_cons_succ]
            refine anyT_take (i := 5) (oi := ?oi5T) (v := .slice (some ⟨bl, off, none⟩) n c) ?hi5T (by kernel_rfl) ?hq5T ?hy5T (by assumption) ?rest5T
            case hi5T => (simp only [List.getElem?_toArray, List.getElem?_cons_succ, List.getElem?_cons_zero]; first | done | rfl)
            case hq5T => first | exact fun _ _ _ h => h | exact fun _ _ _ h => (by cases h.1)
            case hy5T => (refine Or.inl ⟨by rfl, ?_⟩; intro wz hSw; go_simp; first | done | with_reducible rfl | simp | omega)
            try simp only [Act.put, List.setIfInBounds_toArray, List.set_cons_zero, List.set_cons_succ]
            refine anyT_take (i := 6) (oi := ?oi6T) (v := .int .i64 (k : Int)) ?hi6T (by kernel_rfl) ?hq6T ?hy6T (by assumption) ?rest6T
            case hi6T => (simp only [List.getElem?_toArray, List.getElem?_cons_succ, List.getElem?_cons_zero]; first | done | rfl)
            case hq6T => first | exact fun _ _ _ h => h | exact fun _ _ _ h => (by cases h.1)
            case hy6T => (refine Or.inl ⟨by rfl, ?_⟩; intro wz hSw; go_simp; first | done | with_reducible rfl | simp | omega)
            try simp only [Act.put, List.setIfInBounds_toArray, List.set_cons_zero, List.set_cons_succ]
            refine anyT_take (i := 7) (oi := ?oi7T) (v := .pointer (some ⟨bl, off + k, none⟩)) ?hi7T (by kernel_rfl) ?hq7T ?hy7T (by assumption) ?rest7T
            case hi7T => (simp only [List.getElem?_toArray, List.getElem?_cons_succ, List.getElem?_cons_zero]; first | done | rfl)
            case hq7T => first | exact fun _ _ _ h => h | exact fun _ _ _ h => (by cases h.1)
            case hy7T => (refine Or.inl ⟨by rfl, ?_⟩; intro wz hSw; go_simp; first | done | with_reducible rfl | simp | omega)
            try simp only [Act.put, List.setIfInBounds_toArray, List.set_cons_zero, List.set_cons_succ]
            refine anyT_take (i := 8) (oi := ?oi8T) (v := .int .i64 x) ?hi8T (by kernel_rfl) ?hq8T ?hy8T (by assumption) ?rest8T
            case hi8T => (simp only [List.getElem?_toArray, List.getElem?_cons_succ, List.getElem?_cons_zero]; first | done | rfl)
            case hq8T => first | exact fun _ _ _ h => h | exact fun _ _ _ h => (by cases h.1)
            case hy8T => (refine Or.inl ⟨by rfl, ?_⟩; intro wz hSw; obtain hS1 := hSw; go_simp; first | done | with_reducible rfl | simp | omega)
            try simp only [Act.put, List.setIfInBounds_toArray, List.set_cons_zero, List.set_cons_succ]
            refine anyT_take (i := 11) (oi := ?oi11T) (v := .slice (some ⟨bt, 0, none⟩) j cp) ?hi11T (by kernel_rfl) ?hq11T ?hy11T (by assumption) ?rest11T
            case hi11T => (simp only [List.getElem?_toArray, List.getElem?_cons_succ, List.getElem?_cons_zero]; first | done | rfl)
            case hq11T => first | exact fun _ _ _ h => h | exact fun _ _ _ h => (by cases h.1)
            case hy11T => (refine Or.inl ⟨by rfl, ?_⟩; intro wz hSw; go_simp; first | done | with_reducible rfl | simp | omega)
            try simp only [Act.put, List.setIfInBounds_toArray, List.set_cons_zero, List.set_cons_succ]
            refine anyT_take (i := 12) (oi := ?oi12T) (v := .int .i64 (hp : Int)) ?hi12T (by kernel_rfl) ?hq12T ?hy12T (by assumption) ?rest12T
            case hi12T => (simp only [List.getElem?_toArray, List.getElem?_cons_succ, List.getElem?_cons_zero]; first | done | rfl)
            case hq12T => first | exact fun _ _ _ h => h | exact fun _ _ _ h => (by cases h.1)
            case hy12T => (refine Or.inl ⟨by rfl, ?_⟩; intro wz hSw; go_simp; first | done | with_reducible rfl | simp | omega)
            try simp only [Act.put, List.setIfInBounds_toArray, List.set_cons_zero, List.set_cons_succ]
            refine anyT_take (i := 13) (oi := ?oi13T) (v := .slice (some AD) (j - hp) (cp - hp)) ?hi13T (by kernel_rfl) ?hq13T ?hy13T (by assumption) ?rest13T
            case hi13T => (simp only [List.getElem?_toArray, List.getElem?_cons_succ, List.getElem?_cons_zero]; first | done | rfl)
            case hq13T => first | exact fun _ _ _ h => h | exact fun _ _ _ h => (by cases h.1)
            case hy13T => (refine Or.inl ⟨by rfl, ?_⟩; intro wz hSw; go_simp; first | done | with_reducible rfl | simp [hAD] | omega)
            try simp only [Act.put, List.setIfInBounds_toArray, List.set_cons_zero, List.set_cons_succ]
            refine anyT_two (i := 0) (j := 9) (by kernel_rfl) rfl rfl (fun K' hK => ?_) (fun K' hK => ?_)
            · go_simp
              obtain ⟨W1, hW1⟩ : ∃ W1, Wd.alloc (.cells #[] 3) = W1 := ⟨_, rfl⟩
              have hU1 : Upd (fun q => Wd.heap.size ≤ q) Wd W1 := by rw [← hW1]; exact (Upd.refl _ _).alloc _
              have hown0 : W1.ownsRow Wd.heap.size 3 1 (.slice (some ⟨Wd.heap.size, 0, none⟩) 0 0) 0 [] := by rw [← hW1]; exact own_new Wd 3
              have z1 : W1.heap.size = Wd.heap.size + 1 := by rw [← hW1]; simp
              rw [hW1]
              clear hW1
              have hS1 : (fun w' => w'.cell? ⟨bl, off + k, none⟩ = some (.int .i64 x)) W1 := hU1.cell hSd (by simp; omega)
              refine hK.out _ _ (fun _ => hS1) ?_
              clear hK K'
              try simp only [Act.put, List.setIfInBounds_toArray, List.set_cons_zero, List.set_cons_succ]
              refine anyT_two (i := 4) (j := 9) (by kernel_rfl) rfl rfl (fun K' hK => ?_) (fun K' hK => ?_)
              · refine step_append_any _ rfl (.tmp 48) (.tmp 51) _ rfl Wd.heap.size 3 i1 _ 8 Tryz.underlying23 hi1 hzi1 hsi1 hbi1 rfl (.slice (some ⟨Wd.heap.size, 0, none⟩) 0 0) 0 [] rfl (by simp) (hown0) ⟨bt, 0, none⟩ hp cp ((ts.take hp).map (Value.int .i64)) rfl (by rw [List.length_map]; exact Htk.out) (news_at Htcd.out (hU1) hbtd Hadd0.out Hgt.out (by rw [Htk.out]; omega)) (Ho.out _) (by simp [maxLen]; omega) (by omega) (by omega) ?_
                intro g1 cap1 x1 hown1 hgrow1 hg1 hl1 hc1 hm1
                rw [Nat.zero_add] at hown1
                simp only [Nat.zero_add] at hc1
                simp only [Nat.zero_add]
                simp only [List.nil_append] at hown1
                have hU3 : Upd (fun q => Wd.heap.size ≤ q) Wd x1 := (hU1).grown hgrow1 (fun q hq => .inr (by simp [Value.ownBlock] at hq; omega))
                have hS3 : (fun w' => w'.cell? ⟨bl, off + k, none⟩ = some (.int .i64 x)) x1 := hU3.cell hSd (by simp; omega)
                refine hK.out _ _ (fun _ => hS3) ?_
                clear hK K'
                try simp only [Act.put, List.setIfInBounds_toArray, List.set_cons_zero, List.set_cons_succ]
                refine anyT_one (i := 9) (by kernel_rfl) rfl (fun K' hK => ?_)
                go_simp
                have hUz : Upd (fun q => Wd.heap.size ≤ q) Wd (x1.alloc (.cells #[Value.int .i64 x] 3)) := hU3.alloc _
                have hownz := hown1.alloc (.cells #[Value.int .i64 x] 3)
                have hxz : (x1.alloc (.cells #[Value.int .i64 x] 3)).cell? ⟨x1.heap.size, 0, none⟩ = some (.int .i64 x) := cell_new _ _ _
                have hS4 : (fun w' => w'.cell? ⟨bl, off + k, none⟩ = some (.int .i64 x)) (x1.alloc (.cells #[Value.int .i64 x] 3)) := hUz.cell hSd (by simp; omega)
                have hb1 : ∃ b1, x1.heap.size = b1 := ⟨_, rfl⟩
                obtain ⟨b1, hb1⟩ := hb1
                rw [hb1] at hxz ⊢
                clear hb1
                generalize x1.alloc (.cells #[Value.int .i64 x] 3) = Wz at *
                refine hK.out _ _ (fun _ => hS4) ?_
                clear hK K'
                try simp only [Act.put, List.setIfInBounds_toArray, List.set_cons_zero, List.set_cons_succ]
                have zz := hUz.size
                refine anyT_one (i := 10) (by kernel_rfl) rfl (fun K' hK => ?_)
                refine step_append_any _ rfl (.tmp 52) (.tmp 57) _ rfl Wd.heap.size 3 i1 _ 8 Tryz.underlying23 hi1 hzi1 hsi1 hbi1 rfl (.slice (some ⟨g1, 0, none⟩) hp cap1) hp _ rfl (by simp) hownz ⟨b1, 0, none⟩ 1 1 [.int .i64 x] rfl rfl (news_one hxz) (by simp [Value.oneCell']) (by simp [maxLen]; omega) (by omega) (by omega) ?_
                intro g2 cap2 x2 hown2 hgrow2 hg2 hl2 hc2 hm2
                have hU4 : Upd (fun q => Wd.heap.size ≤ q) Wd x2 := hUz.grown hgrow2 (fun q hq => .inr (by simp [Value.ownBlock] at hq; omega))
                have hS6 : (fun w' => w'.cell? ⟨bl, off + k, none⟩ = some (.int .i64 x)) x2 := hU4.cell hSd (by simp; omega)
                have zx2 := hU4.size
                refine hK.out _ _ (fun _ => hS6) ?_
                clear hK K'
                try simp only [Act.put, List.setIfInBounds_toArray, List.set_cons_zero, List.set_cons_succ]
                refine anyT_one (i := 14) (by kernel_rfl) rfl (fun K' hK => ?_)
                refine step_append_any _ rfl (.tmp 58) (.tmp 61) _ rfl Wd.heap.size 3 i1 _ 8 Tryz.underlying23 hi1 hzi1 hsi1 hbi1 rfl (.slice (some ⟨g2, 0, none⟩) (hp + 1) cap2) (hp + 1) _ rfl (by simp) hown2 AD (j - hp) (cp - hp) ((ts.drop hp).map (Value.int .i64)) rfl (by rw [List.length_map]; exact Htd.out) (news_at Htcd.out hU4 hbtd Hadd.out Hgd.out (by rw [Htd.out]; omega)) (Ho.out _) (by simp [maxLen]; omega) (by omega) (by omega) ?_
                intro g3 cap3 x3 hown3 hgrow3 hg3 hl3 hc3 hm3
                have hU5 : Upd (fun q => Wd.heap.size ≤ q) Wd x3 := hU4.grown hgrow3 (fun q hq => .inr (by simp [Value.ownBlock] at hq; omega))
                have hS5 : (fun w' => w'.cell? ⟨bl, off + k, none⟩ = some (.int .i64 x)) x3 := hU5.cell hSd (by simp; omega)
                refine hK.out _ _ (fun _ => hS5) ?_
                clear hK K'
                try simp only [Act.put, List.setIfInBounds_toArray, List.set_cons_zero, List.set_cons_succ]
                refine anyT_one (i := 15) (by kernel_rfl) rfl (fun K' hK => ?_)
                go_simp
                refine hK.out _ _ (fun h => absurd rfl h) ?_
                clear hK K'
                try simp only [Act.put, List.setIfInBounds_toArray, List.set_cons_zero, List.set_cons_succ]
                refine anyT_done (by kernel_rfl) ?_ _
                have e3 : ((ts.take hp).map (Value.int .i64) ++ [Value.int .i64 x]) ++ (ts.drop hp).map (Value.int .i64) = (ts.take hp ++ [x] ++ ts.drop hp).map (Value.int .i64) := by simp
                rw [e3] at hown3
                have hn3 : hp + 1 + (j - hp) = j + 1 := by omega
                rw [hn3] at hown3 hc3
                obtain ⟨hl3', hc3'⟩ := own_cells hown3
                simp only [hn3]
                have hU8 : Upd (fun _ => False) w x3 := hUd.trans' hU5 (fun i hi e => by omega)
                have hgl : w.heap.size ≤ g3 := by omega
                have Hc3 := Lib.hid hc3'
                have Hl3 := Lib.hid hl3'
                clear hc3' hl3' hown1 hown2 hown3 hownz e3
                go_wp2
                go_roundw
                case rel => exact ⟨k + 1, g3, cap3, ts.take hp ++ [x] ++ ts.drop hp, by omega, by go_num, by rw [Hl3.out], by rw [Hsn.out, Hi.out], ⟨by rw [Hl3.out]; exact hc3, hm3⟩, ⟨hl3, hgl⟩, (fun i hi => Hc3.out i (by rw [← Hl3.out]; exact hi)), hU8⟩
                case measure => simp [intOf]; omega
              · go_simp
                obtain ⟨W2, hW2⟩ : ∃ W2, W1.alloc (.cells #[Value.int .i64 x] 3) = W2 := ⟨_, rfl⟩
                have hU2 : Upd (fun q => Wd.heap.size ≤ q) Wd W2 := by rw [← hW2]; exact hU1.alloc _
                have hown2' : W2.ownsRow Wd.heap.size 3 1 (.slice (some ⟨Wd.heap.size, 0, none⟩) 0 0) 0 [] := by rw [← hW2]; exact hown0.alloc _
                have hxc : W2.cell? ⟨Wd.heap.size + 1, 0, none⟩ = some (.int .i64 x) := by rw [← z1, ← hW2]; exact cell_new _ _ _
                have z2 : W2.heap.size = W1.heap.size + 1 := by rw [← hW2]; simp
                rw [hW2]
                clear hW2
                have hS2 : (fun w' => w'.cell? ⟨bl, off + k, none⟩ = some (.int .i64 x)) W2 := hU2.cell hSd (by simp; omega)
                refine hK.out _ _ (fun _ => hS2) ?_
                clear hK K'
                try simp only [Act.put, List.setIfInBounds_toArray, List.set_cons_zero, List.set_cons_succ]
                refine anyT_one (i := 4) (by kernel_rfl) rfl (fun K' hK => ?_)
                refine step_append_any _ rfl (.tmp 48) (.tmp 51) _ rfl Wd.heap.size 3 i1 _ 8 Tryz.underlying23 hi1 hzi1 hsi1 hbi1 rfl (.slice (some ⟨Wd.heap.size, 0, none⟩) 0 0) 0 [] rfl (by simp) (hown2') ⟨bt, 0, none⟩ hp cp ((ts.take hp).map (Value.int .i64)) rfl (by rw [List.length_map]; exact Htk.out) (news_at Htcd.out (hU2) hbtd Hadd0.out Hgt.out (by rw [Htk.out]; omega)) (Ho.out _) (by simp [maxLen]; omega) (by omega) (by omega) ?_
                intro g1 cap1 x1 hown1 hgrow1 hg1 hl1 hc1 hm1
                rw [Nat.zero_add] at hown1
                simp only [Nat.zero_add] at hc1
                simp only [Nat.zero_add]
                simp only [List.nil_append] at hown1
                have hU3 : Upd (fun q => Wd.heap.size ≤ q) Wd x1 := (hU2).grown hgrow1 (fun q hq => .inr (by simp [Value.ownBlock] at hq; omega))
                have hS3 : (fun w' => w'.cell? ⟨bl, off + k, none⟩ = some (.int .i64 x)) x1 := hU3.cell hSd (by simp; omega)
                refine hK.out _ _ (fun _ => hS3) ?_
                clear hK K'
                try simp only [Act.put, List.setIfInBounds_toArray, List.set_cons_zero, List.set_cons_succ]
                have hUz := hU3
                have hownz := hown1
                have hxz : x1.cell? ⟨Wd.heap.size + 1, 0, none⟩ = some (.int .i64 x) := (World.cell?_of_block (hgrow1.block _ (by simp; omega) (by first | (simp [Value.ownBlock]; done) | (simp [Value.ownBlock]; omega)))).trans hxc
                have zz := hUz.size
                refine anyT_one (i := 10) (by kernel_rfl) rfl (fun K' hK => ?_)
                refine step_append_any _ rfl (.tmp 52) (.tmp 57) _ rfl Wd.heap.size 3 i1 _ 8 Tryz.underlying23 hi1 hzi1 hsi1 hbi1 rfl (.slice (some ⟨g1, 0, none⟩) hp cap1) hp _ rfl (by simp) hownz ⟨Wd.heap.size + 1, 0, none⟩ 1 1 [.int .i64 x] rfl rfl (news_one hxz) (by simp [Value.oneCell']) (by simp [maxLen]; omega) (by omega) (by omega) ?_
                intro g2 cap2 x2 hown2 hgrow2 hg2 hl2 hc2 hm2
                have hU4 : Upd (fun q => Wd.heap.size ≤ q) Wd x2 := hUz.grown hgrow2 (fun q hq => .inr (by simp [Value.ownBlock] at hq; omega))
                have hS6 : (fun w' => w'.cell? ⟨bl, off + k, none⟩ = some (.int .i64 x)) x2 := hU4.cell hSd (by simp; omega)
                have zx2 := hU4.size
                refine hK.out _ _ (fun _ => hS6) ?_
                clear hK K'
                try simp only [Act.put, List.setIfInBounds_toArray, List.set_cons_zero, List.set_cons_succ]
                refine anyT_one (i := 14) (by kernel_rfl) rfl (fun K' hK => ?_)
                refine step_append_any _ rfl (.tmp 58) (.tmp 61) _ rfl Wd.heap.size 3 i1 _ 8 Tryz.underlying23 hi1 hzi1 hsi1 hbi1 rfl (.slice (some ⟨g2, 0, none⟩) (hp + 1) cap2) (hp + 1) _ rfl (by simp) hown2 AD (j - hp) (cp - hp) ((ts.drop hp).map (Value.int .i64)) rfl (by rw [List.length_map]; exact Htd.out) (news_at Htcd.out hU4 hbtd Hadd.out Hgd.out (by rw [Htd.out]; omega)) (Ho.out _) (by simp [maxLen]; omega) (by omega) (by omega) ?_
                intro g3 cap3 x3 hown3 hgrow3 hg3 hl3 hc3 hm3
                have hU5 : Upd (fun q => Wd.heap.size ≤ q) Wd x3 := hU4.grown hgrow3 (fun q hq => .inr (by simp [Value.ownBlock] at hq; omega))
                have hS5 : (fun w' => w'.cell? ⟨bl, off + k, none⟩ = some (.int .i64 x)) x3 := hU5.cell hSd (by simp; omega)
                refine hK.out _ _ (fun _ => hS5) ?_
                clear hK K'
                try simp only [Act.put, List.setIfInBounds_toArray, List.set_cons_zero, List.set_cons_succ]
                refine anyT_one (i := 15) (by kernel_rfl) rfl (fun K' hK => ?_)
                go_simp
                refine hK.out _ _ (fun h => absurd rfl h) ?_
                clear hK K'
                try simp only [Act.put, List.setIfInBounds_toArray, List.set_cons_zero, List.set_cons_succ]
                refine anyT_done (by kernel_rfl) ?_ _
                have e3 : ((ts.take hp).map (Value.int .i64) ++ [Value.int .i64 x]) ++ (ts.drop hp).map (Value.int .i64) = (ts.take hp ++ [x] ++ ts.drop hp).map (Value.int .i64) := by simp
                rw [e3] at hown3
                have hn3 : hp + 1 + (j - hp) = j + 1 := by omega
                rw [hn3] at hown3 hc3
                obtain ⟨hl3', hc3'⟩ := own_cells hown3
                simp only [hn3]
                have hU8 : Upd (fun _ => False) w x3 := hUd.trans' hU5 (fun i hi e => by omega)
                have hgl : w.heap.size ≤ g3 := by omega
                have Hc3 := Lib.hid hc3'
                have Hl3 := Lib.hid hl3'
                clear hc3' hl3' hown1 hown2 hown3 hownz e3
                go_wp2
                go_roundw
                case rel => exact ⟨k + 1, g3, cap3, ts.take hp ++ [x] ++ ts.drop hp, by omega, by go_num, by rw [Hl3.out], by rw [Hsn.out, Hi.out], ⟨by rw [Hl3.out]; exact hc3, hm3⟩, ⟨hl3, hgl⟩, (fun i hi => Hc3.out i (by rw [← Hl3.out]; exact hi)), hU8⟩
                case measure => simp [intOf]; omega
            · go_simp
              obtain ⟨W1, hW1⟩ : ∃ W1, Wd.alloc (.cells #[Value.int .i64 x] 3) = W1 := ⟨_, rfl⟩
              have hU1 : Upd (fun q => Wd.heap.size ≤ q) Wd W1 := by rw [← hW1]; exact (Upd.refl _ _).alloc _
              have hxc1 : W1.cell? ⟨Wd.heap.size, 0, none⟩ = some (.int .i64 x) := by rw [← hW1]; exact cell_new _ _ _
              have z1 : W1.heap.size = Wd.heap.size + 1 := by rw [← hW1]; simp
              rw [hW1]
              clear hW1
              have hS1 : (fun w' => w'.cell? ⟨bl, off + k, none⟩ = some (.int .i64 x)) W1 := hU1.cell hSd (by simp; omega)
              refine hK.out _ _ (fun _ => hS1) ?_
              clear hK K'
              try simp only [Act.put, List.setIfInBounds_toArray, List.set_cons_zero, List.set_cons_succ]
              refine anyT_one (i := 0) (by kernel_rfl) rfl (fun K' hK => ?_)
              go_simp
              obtain ⟨W2, hW2⟩ : ∃ W2, W1.alloc (.cells #[] 3) = W2 := ⟨_, rfl⟩
              have hU2 : Upd (fun q => Wd.heap.size ≤ q) Wd W2 := by rw [← hW2]; exact hU1.alloc _
              have hown2' : W2.ownsRow Wd.heap.size 3 1 (.slice (some ⟨Wd.heap.size + 1, 0, none⟩) 0 0) 0 [] := by rw [← z1, ← hW2]; exact own_sooner (own_new W1 3) (by omega)
              have hxc : W2.cell? ⟨Wd.heap.size, 0, none⟩ = some (.int .i64 x) := by rw [← hW2]; exact (World.cell?_of_block (Below.heap_alloc _ _ _ (by simp; omega))).trans hxc1
              have z2 : W2.heap.size = W1.heap.size + 1 := by rw [← hW2]; simp
              rw [hW2]
              clear hW2
              have hS2 : (fun w' => w'.cell? ⟨bl, off + k, none⟩ = some (.int .i64 x)) W2 := hU2.cell hSd (by simp; omega)
              refine hK.out _ _ (fun _ => hS2) ?_
              clear hK K'
              try simp only [Act.put, List.setIfInBounds_toArray, List.set_cons_zero, List.set_cons_succ]
              refine anyT_one (i := 4) (by kernel_rfl) rfl (fun K' hK => ?_)
              refine step_append_any _ rfl (.tmp 48) (.tmp 51) _ rfl Wd.heap.size 3 i1 _ 8 Tryz.underlying23 hi1 hzi1 hsi1 hbi1 rfl (.slice (some ⟨Wd.heap.size + 1, 0, none⟩) 0 0) 0 [] rfl (by simp) (hown2') ⟨bt, 0, none⟩ hp cp ((ts.take hp).map (Value.int .i64)) rfl (by rw [List.length_map]; exact Htk.out) (news_at Htcd.out (hU2) hbtd Hadd0.out Hgt.out (by rw [Htk.out]; omega)) (Ho.out _) (by simp [maxLen]; omega) (by omega) (by omega) ?_
              intro g1 cap1 x1 hown1 hgrow1 hg1 hl1 hc1 hm1
              rw [Nat.zero_add] at hown1
              simp only [Nat.zero_add] at hc1
              simp only [Nat.zero_add]
              simp only [List.nil_append] at hown1
              have hU3 : Upd (fun q => Wd.heap.size ≤ q) Wd x1 := (hU2).grown hgrow1 (fun q hq => .inr (by simp [Value.ownBlock] at hq; omega))
              have hS3 : (fun w' => w'.cell? ⟨bl, off + k, none⟩ = some (.int .i64 x)) x1 := hU3.cell hSd (by simp; omega)
              refine hK.out _ _ (fun _ => hS3) ?_
              clear hK K'
              try simp only [Act.put, List.setIfInBounds_toArray, List.set_cons_zero, List.set_cons_succ]
              have hUz := hU3
              have hownz := hown1
              have hxz : x1.cell? ⟨Wd.heap.size, 0, none⟩ = some (.int .i64 x) := (World.cell?_of_block (hgrow1.block _ (by simp; omega) (by first | (simp [Value.ownBlock]; done) | (simp [Value.ownBlock]; omega)))).trans hxc
              have zz := hUz.size
              refine anyT_one (i := 10) (by kernel_rfl) rfl (fun K' hK => ?_)
              refine step_append_any _ rfl (.tmp 52) (.tmp 57) _ rfl Wd.heap.size 3 i1 _ 8 Tryz.underlying23 hi1 hzi1 hsi1 hbi1 rfl (.slice (some ⟨g1, 0, none⟩) hp cap1) hp _ rfl (by simp) hownz ⟨Wd.heap.size, 0, none⟩ 1 1 [.int .i64 x] rfl rfl (news_one hxz) (by simp [Value.oneCell']) (by simp [maxLen]; omega) (by omega) (by omega) ?_
              intro g2 cap2 x2 hown2 hgrow2 hg2 hl2 hc2 hm2
              have hU4 : Upd (fun q => Wd.heap.size ≤ q) Wd x2 := hUz.grown hgrow2 (fun q hq => .inr (by simp [Value.ownBlock] at hq; omega))
              have hS6 : (fun w' => w'.cell? ⟨bl, off + k, none⟩ = some (.int .i64 x)) x2 := hU4.cell hSd (by simp; omega)
              have zx2 := hU4.size
              refine hK.out _ _ (fun _ => hS6) ?_
              clear hK K'
              try simp only [Act.put, List.setIfInBounds_toArray, List.set_cons_zero, List.set_cons_succ]
              refine anyT_one (i := 14) (by kernel_rfl) rfl (fun K' hK => ?_)
              refine step_append_any _ rfl (.tmp 58) (.tmp 61) _ rfl Wd.heap.size 3 i1 _ 8 Tryz.underlying23 hi1 hzi1 hsi1 hbi1 rfl (.slice (some ⟨g2, 0, none⟩) (hp + 1) cap2) (hp + 1) _ rfl (by simp) hown2 AD (j - hp) (cp - hp) ((ts.drop hp).map (Value.int .i64)) rfl (by rw [List.length_map]; exact Htd.out) (news_at Htcd.out hU4 hbtd Hadd.out Hgd.out (by rw [Htd.out]; omega)) (Ho.out _) (by simp [maxLen]; omega) (by omega) (by omega) ?_
              intro g3 cap3 x3 hown3 hgrow3 hg3 hl3 hc3 hm3
              have hU5 : Upd (fun q => Wd.heap.size ≤ q) Wd x3 := hU4.grown hgrow3 (fun q hq => .inr (by simp [Value.ownBlock] at hq; omega))
              have hS5 : (fun w' => w'.cell? ⟨bl, off + k, none⟩ = some (.int .i64 x)) x3 := hU5.cell hSd (by simp; omega)
              refine hK.out _ _ (fun _ => hS5) ?_
              clear hK K'
              try simp only [Act.put, List.setIfInBounds_toArray, List.set_cons_zero, List.set_cons_succ]
              refine anyT_one (i := 15) (by kernel_rfl) rfl (fun K' hK => ?_)
              go_simp
              refine hK.out _ _ (fun h => absurd rfl h) ?_
              clear hK K'
              try simp only [Act.put, List.setIfInBounds_toArray, List.set_cons_zero, List.set_cons_succ]
              refine anyT_done (by kernel_rfl) ?_ _
              have e3 : ((ts.take hp).map (Value.int .i64) ++ [Value.int .i64 x]) ++ (ts.drop hp).map (Value.int .i64) = (ts.take hp ++ [x] ++ ts.drop hp).map (Value.int .i64) := by simp
              rw [e3] at hown3
              have hn3 : hp + 1 + (j - hp) = j + 1 := by omega
              rw [hn3] at hown3 hc3
              obtain ⟨hl3', hc3'⟩ := own_cells hown3
              simp only [hn3]
              have hU8 : Upd (fun _ => False) w x3 := hUd.trans' hU5 (fun i hi e => by omega)
              have hgl : w.heap.size ≤ g3 := by omega
              have Hc3 := Lib.hid hc3'
              have Hl3 := Lib.hid hl3'
              clear hc3' hl3' hown1 hown2 hown3 hownz e3
              go_wp2
              go_roundw
              case rel => exact ⟨k + 1, g3, cap3, ts.take hp ++ [x] ++ ts.drop hp, by omega, by go_num, by rw [Hl3.out], by rw [Hsn.out, Hi.out], ⟨by rw [Hl3.out]; exact hc3, hm3⟩, ⟨hl3, hgl⟩, (fun i hi => Hc3.out i (by rw [← Hl3.out]; exact hi)), hU8⟩
              case measure => simp [intOf]; omega

    · obtain rfl : k = n := by omega
      have htk : zs.take k = zs := List.take_of_length_le (by rw [hlen.out]; exact Nat.le_refl _)
      rw [htk] at hts
      have Hts := Lib.hid hts
      clear hts htk
      go_wp2
      go_ret
      exact ⟨_, _, _, rfl, by rw [← Hts.out]; exact ⟨rfl, fun _ => ⟨bt, 0, rfl, hbt, fun j hj => by rw [Nat.zero_add]; exact htc j hj⟩⟩, hBw⟩
end Go.Proofs.YtdcdddmjffgibaaGreat

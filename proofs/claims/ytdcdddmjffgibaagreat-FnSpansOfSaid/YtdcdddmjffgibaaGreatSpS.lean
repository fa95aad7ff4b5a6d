/- Spans of an order: the model's. -/
import Derived.Test.YtdcdddmjffgibaaGreatSpI
import Derived.Test.YtdcdddmjffgibaaGreatDfS
import Derived.Test.YtdcdddmjffgibaaGreatTwS2
import Derived.Test.YtdcdddmjffgibaaGreatGa
set_option linter.unusedVariables false
set_option linter.unusedSimpArgs false
namespace Go.Proofs.YtdcdddmjffgibaaGreat
open Go.RowKit Go.Shelf

def loTo (ds : List Int) (x : Int) : Nat → Nat
  | 0 => 0
  | j + 1 => if popI (ds[j]?.getD 0) < popI x then loTo ds x j + 1 else loTo ds x j
theorem loTo_yes {ds : List Int} {x : Int} {j : Nat} (h : popI (ds[j]?.getD 0) < popI x) : loTo ds x (j + 1) = loTo ds x j + 1 := by simp [loTo, h]
theorem loTo_no {ds : List Int} {x : Int} {j : Nat} (h : ¬ popI (ds[j]?.getD 0) < popI x) : loTo ds x (j + 1) = loTo ds x j := by simp [loTo, h]
theorem loTo_le (ds : List Int) (x : Int) : ∀ j : Nat, loTo ds x j ≤ j
  | 0 => Nat.le_refl _
  | j + 1 => by have := loTo_le ds x j; unfold loTo; split <;> omega
theorem loTo_all (ds : List Int) (x : Int) : loTo ds x ds.length = (ds.filter fun d => decide (popI d < popI x)).length := by
  have key : ∀ j : Nat, j ≤ ds.length → loTo ds x j = ((ds.take j).filter fun d => decide (popI d < popI x)).length := fun j => by
    induction j with
    | zero => intro _; simp [loTo]
    | succ j ih =>
      intro hj
      rw [List.take_succ_eq_append_getElem (by omega), List.filter_append, List.length_append, ← ih (by omega)]
      have hg : ds[j]?.getD 0 = ds[j] := by rw [List.getElem?_eq_getElem (by omega)]; rfl
      by_cases h : popI (ds[j]?.getD 0) < popI x
      · rw [loTo_yes h, List.filter_cons_of_pos (by rw [← hg]; exact decide_eq_true h)]; simp
      · rw [loTo_no h, List.filter_cons_of_neg (by rw [← hg]; simpa using h)]; simp
  have := key ds.length (Nat.le_refl _)
  rwa [List.take_length] at this
def hiTo (us : List Int) (x : Int) : Nat → Nat
  | 0 => 0
  | j + 1 => if us[j]?.getD 0 == x then j else hiTo us x j
theorem hiTo_yes {us : List Int} {x : Int} {j : Nat} (h : (us[j]?.getD 0 == x) = true) : hiTo us x (j + 1) = j := by simp only [hiTo, h]; rfl
theorem hiTo_no {us : List Int} {x : Int} {j : Nat} (h : (us[j]?.getD 0 == x) = false) : hiTo us x (j + 1) = hiTo us x j := by simp only [hiTo, h]; rfl
theorem hiTo_le (us : List Int) (x : Int) : ∀ j : Nat, hiTo us x j ≤ j
  | 0 => Nat.le_refl _
  | j + 1 => by have := hiTo_le us x j; unfold hiTo; split <;> omega
theorem hiTo_at {us : List Int} (hn : us.Nodup) {k : Nat} (hk : k < us.length) : hiTo us us[k] us.length = k := by
  have key : ∀ j : Nat, j ≤ us.length → k < j → hiTo us us[k] j = k := fun j => by
    induction j with
    | zero => intro _ h; omega
    | succ j ih =>
      intro hj hkj
      by_cases e : j = k
      · subst e
        exact hiTo_yes (by rw [List.getElem?_eq_getElem hk]; simp)
      · have hne : (us[j]?.getD 0 == us[k]) = false := by
          rw [List.getElem?_eq_getElem (by omega), Option.getD_some, beq_eq_false_iff_ne]
          intro h
          exact (List.pairwise_iff_getElem.1 hn k j hk (by omega) (by omega)) h.symm
        rw [hiTo_no hne]
        exact ih (by omega) (by omega)
  exact key us.length (Nat.le_refl _) hk
/-- What the model counts for an item is its span. -/
theorem low_is (zs : List Int) (x : Int) : loTo (diS zs) x (diS zs).length = rkF popI zs x := by
  rw [loTo_all]
  unfold rkF
  exact ((diS_perm zs).filter _).length_eq
theorem high_is {zs : List Int} (h : VoP zs) (ht : twoB zs = false) {x : Int} (hx : x ∈ zs) : hiTo (diS zs) x (diS zs).length = rkF (fun y => -popI y) zs x := by
  obtain ⟨h1, h2, h3⟩ := diS_all zs
  have hsb : SortedBy (fun y => -popI y) (difA zs) (diS zs) := ⟨diS_perm zs, h2.imp (fun h => by show -popI _ ≤ -popI _; omega)⟩
  obtain ⟨k, hk, hkx⟩ := List.getElem_of_mem ((h3 x).2 hx)
  have hi := place_is hsb (difA_nodup zs) (fun a ha b hb e => by
    obtain ⟨i, hi, rfl⟩ := mem_at.1 ((difA_mem _ _).1 ha)
    obtain ⟨j, hj, rfl⟩ := mem_at.1 ((difA_mem _ _).1 hb)
    exact ups_inj h ht hi hj (by unfold pU; omega)) ((difA_mem _ _).2 hx)
  have hne := List.pairwise_iff_getElem.1 h1
  have h4 : Lib.idxOf ((diS zs).take (diS zs).length) x = (k : Int) := Lib.idxOf_hit (diS zs) (diS zs).length k x hk (Nat.le_refl _) (by simp [List.getD, hk, hkx]) (fun j hj e => by
    have hj' : j < (diS zs).length := by omega
    have e2 : (diS zs)[j] = (diS zs)[k] := by rw [hkx]; simpa [List.getD, hj'] using e
    exact hne j k hj' hk hj e2)
  rw [h4] at hi
  subst hkx
  rw [hiTo_at h1 hk]
  unfold rkF
  exact_mod_cast hi

set_option maxRecDepth 100000 in
set_option maxHeartbeats 8000000 in
theorem specSpansOfF_any (A : Option Addr) (n c : Nat) (zs : List Int) (w : World) (h : Ints w w.heap.size A n zs) (hbig : n ≤ 1152921504606846976) :
    Calls Tryz.prog 12 #[.slice A n c] w (GivesRowsB w (spansR zs) (spansB zs)) := by
  have hlen := Lib.hid h.len
  obtain ⟨i0, hi0, hz0, hz1, hz2⟩ := infoRow_parts
  cases hv : vo zs
  · have Hb := Lib.hid (show spansB zs = false by unfold spansB; rw [hv]; rfl)
    have Hr := Lib.hid (show spansR zs = [] by unfold spansR; rw [Hb.out]; rfl)
    have hq : ∀ m, Calls Tryz.prog 22 #[.slice A n c] (w.drewN m) fun e w' => e = .returned (.bool false) ∧ ∃ m', w' = (w.drewN m).drewN m' := fun m => by rw [← hv]; exact validOrder_any _ _ _ _ zs _ (h.drewN m) hbig
    clear hv
    rw [Hb.out, Hr.out]
    go_enter Tryz.func12, Tryz.ntmps12
    go_wp2_with (go_at_call 22; refine (hq 0).mono ?_; rintro e w' ⟨rfl, m0, rfl⟩)
    go_ret2
    exact ⟨none, 0, 0, rfl, RowsR.nil _ _ _ _, below_drewN (Below.refl _ _) _⟩
  have hvo : VoP zs := by simpa [vo] using hv
  have hn6 : n ≤ 6 := by have := hvo.1; rw [hlen.out] at this; exact this
  have hq : ∀ m, Calls Tryz.prog 22 #[.slice A n c] (w.drewN m) fun e w' => e = .returned (.bool true) ∧ ∃ m', w' = (w.drewN m).drewN m' := fun m => by rw [← hv]; exact validOrder_any _ _ _ _ zs _ (h.drewN m) hbig
  have hq2 : ∀ m, Calls Tryz.prog 23 #[.slice A n c] (w.drewN m) fun e w' => e = .returned (.bool (twoB zs)) ∧ ∃ m', w' = (w.drewN m).drewN m' := fun m => specTwo_any _ _ _ _ zs hvo.sets _ (h.drewN m)
  cases ht : twoB zs
  · have Hb := Lib.hid (show spansB zs = true by unfold spansB; rw [hv, ht]; rfl)
    have Hr := Lib.hid (show spansR zs = spR zs by unfold spansR; rw [Hb.out]; rfl)
    have Ht := Lib.hid ht
    rw [ht] at hq2
    clear hv ht
    rw [Hb.out, Hr.out]
    go_enter Tryz.func12, Tryz.ntmps12
    go_wp2_with (first
      | (go_at_call 22; refine (hq 0).mono ?_; rintro e w' ⟨rfl, m0, rfl⟩)
      | (go_at_call 23; refine (hq2 _).mono ?_; rintro e w' ⟨rfl, m1, rfl⟩)
      | fail)
    obtain ⟨w0, hw0⟩ : ∃ w0, w.drewN (m0 + m1) = w0 := ⟨_, rfl⟩
    have h0 : Ints w0 w0.heap.size A n zs := by rw [← hw0]; exact h.drewN _
    have hB0 : Below w.heap.size w w0 := by rw [← hw0]; exact below_drewN (Below.refl _ _) _
    rw [hw0]
    clear hw0 hq hq2
    have z0 := hB0.size
    refine (downOf_any A n c zs w0 h0 hvo.sets).mono ?_
    rintro e w1 ⟨rfl, hD1, hB1⟩
    have hD1 : Arr w1 w0.heap.size 3 (du zs) := by unfold du; rw [hlen.out]; exact hD1
    have z1 := hB1.size
    have Hdl := Lib.hid (show (du zs).length = n by rw [du_len]; exact hlen.out)
    go_wp2_with fail
    refine (specDifferent_any A n c zs w1 ((h0.below hB1).more z1) (fun j hj => hvo.bd j (by rw [hlen.out]; exact hj)) hn6).mono ?_
    rintro e w2 ⟨A2, m2, c2, rfl, hI2, hB2⟩
    have z2 := hB2.size
    have hD2 := hD1.below hB2 hD1.lt
    go_wp2_with fail
    refine (specDifferent_any _ n n (du zs) w2 (hD2.ints' hD2.lt Hdl.out) (fun j hj => (du_vo hvo).bd j (by rw [Hdl.out]; exact hj)) hn6).mono ?_
    rintro e w3 ⟨A3, m3, c3, rfl, hI3, hB3⟩
    have z3 := hB3.size
    have hD3 := hD2.below hB3 hD2.lt
    have hI23 := (hI2.below hB3).more z3
    have hI0 := (((h0.below hB1).below (hB2.mono z1)).below (hB3.mono (by omega))).more (show w0.heap.size ≤ w3.heap.size by omega)
    have C3 : Below w.heap.size w w3 := ((hB0.trans (hB1.mono z0)).trans (hB2.mono (by omega))).trans (hB3.mono (by omega))
    have hlt3 := hD3.lt
    have hm2 : m2 ≤ 6 := by rw [← hI2.len]; have := diS_le zs; rw [hlen.out] at this; omega
    have hm3 : m3 ≤ 6 := by rw [← hI3.len]; have := diS_le (du zs); rw [Hdl.out] at this; omega
    have Hlow := Lib.hid (fun x => low_is (du zs) x)
    have Hhigh := Lib.hid (fun (x : Int) hx => high_is hvo Ht.out (x := x) hx)
    have Hl2 := Lib.hid hI2.len
    have Hl3 := Lib.hid hI3.len
    have Hsn := Lib.hid (fun (a : Nat) (ha : a < n) => (show (spR zs).take (a + 1) = (spR zs).take a ++ [[(rkF popI (du zs) ((du zs)[a]?.getD 0) : Int), (rkF (fun y => -popI y) zs (zs[a]?.getD 0) : Int)]] by
      unfold spR
      rw [rwS_snoc _ _ (by rw [plR_len, Hdl.out]; exact ha), plR_get _ (by rw [Hdl.out]; exact ha), plR_get _ (by rw [hlen.out]; exact ha)]))
    have Hspl := Lib.hid (show (spR zs).length = n by unfold spR; rw [rwS_len, plR_len, Hdl.out])
    have Hmem := Lib.hid (fun (a : Nat) (ha : a < n) => (show zs[a]?.getD 0 ∈ zs from mem_get (by rw [hlen.out]; exact ha)))
    have hdb := fun (j : Nat) (hj : j < n) => (du_vo hvo).bd j (by rw [Hdl.out]; exact hj)
    have hdsb : ∀ j, j < m3 → 0 ≤ (diS (du zs))[j]?.getD 0 ∧ (diS (du zs))[j]?.getD 0 < 64 := fun j hj => by
      have h1 := mem_get (zs := diS (du zs)) (k := j) (by rw [Hl3.out]; exact hj)
      rw [(diS_all _).2.2] at h1
      obtain ⟨q, hq, e⟩ := mem_at.1 h1
      rw [← e]
      exact hdb q (by rw [← Hdl.out]; exact hq)
    have Hdb := Lib.hid hdb
    have Hdsb := Lib.hid hdsb
    clear hdb hdsb hB1 hB2 hB3 hD1 hD2 hI2 h0
    generalize hds : diS (du zs) = ds at hI3 Hlow Hl3 Hdsb
    generalize hus : diS zs = us at hI23 Hhigh Hl2
    clear hds hus
    go_wp2_with fail
    have hu1 : Upd (fun _ => False) w3 (w3.alloc (.cells #[] 23)) := (Upd.refl _ _).alloc _
    have R1 : Rowed (w3.alloc (.cells #[] 23)) w3.heap.size (.slice (some ⟨w3.heap.size, 0, none⟩) 0 0) [] := Rowed.new w3
    have hzx : w3.heap.size < (w3.alloc (.cells #[] 23)).heap.size := by simp
    obtain ⟨W1, hW1⟩ : ∃ W1, w3.alloc (.cells #[] 23) = W1 := ⟨_, rfl⟩
    rw [hW1] at R1 hu1 hzx ⊢
    clear hW1
    go_loopw [7, 8] (fun v i wr => ∃ a : Nat, a ≤ n ∧ i = .int .i64 a ∧ Rowed wr w3.heap.size v ((spR zs).take a) ∧ Upd (fun _ => False) w3 wr) (fun _ i _ => n - (intOf i).toNat)
    case atStart => exact ⟨0, by omega, rfl, by rw [List.take_zero]; exact R1, hu1⟩
    case round =>
      clear R1 hu1 hzx
      obtain ⟨a, ha, rfl, hR, hU⟩ := hrel
      rename World => wr
      have zr := hU.size
      have hDr := hD3.upd hU (fun e => e)
      have hBr : Below w3.heap.size w3 wr := hU.toBelow (fun _ e => e.elim) (Nat.le_refl _)
      by_cases hak : a < n
      · have hca := hDr.cell (k := a) (by rw [Hdl.out]; exact hak)
        obtain ⟨bu, ou, rfl, hbu, hcu⟩ := (hI0.below hBr).at_ hak
        have hcx := hcu a hak
        clear hcu
        have Hsn1 := Lib.hid (Hsn.out a hak)
        have hda := Hdb.out a hak
        have Hlo := Lib.hid (Hlow.out ((du zs)[a]?.getD 0))
        have Hhi := Lib.hid (Hhigh.out _ (Hmem.out a hak))
        have hItr := hI3.below hBr
        have hIur := hI23.below hBr
        generalize (du zs)[a]?.getD 0 = da at *
        generalize zs[a]?.getD 0 = ua at *
        have Hb1 := Lib.hid (fun w => bits_any da w hda.1 hda.2)
        have hp1 := popI_bd hda.1 hda.2
        go_wp2_with fail
        go_loopw [9, 10] (fun l i wy => ∃ j q : Nat, j ≤ m3 ∧ i = .int .i64 j ∧ l = .int .i64 (loTo ds da j : Int) ∧ wy = wr.drewN q) (fun _ i _ => m3 - (intOf i).toNat)
        case atStart => exact ⟨0, 0, by omega, rfl, rfl, rfl⟩
        case round =>
          obtain ⟨j, q, hj, rfl, rfl, rfl⟩ := hrel
          by_cases hlj : j < m3
          · obtain ⟨b3, o3, rfl, hb3, hc3⟩ := hItr.at_ hlj
            have hcj := hc3 j hlj
            clear hc3
            have hbj := Hdsb.out j hlj
            have Hb2 := Lib.hid (fun w => bits_any (ds[j]?.getD 0) w hbj.1 hbj.2)
            have hp2 := popI_bd hbj.1 hbj.2
            have Hy := Lib.hid (fun hh => loTo_yes (ds := ds) (x := da) (j := j) hh)
            have Hn := Lib.hid (fun hh => loTo_no (ds := ds) (x := da) (j := j) hh)
            have hll := loTo_le ds da j
            generalize ds[j]?.getD 0 = y at *
            generalize loTo ds da j = lo at *
            by_cases hge : popI y < popI da
            · have H1 := Lib.hid (Hy.out hge)
              go_wp2_with fail
              go_quiet ((go_at_call 32; first | with_reducible exact quiet_add_left (Hb1.out _) | exact quiet_add_left (Hb2.out _)))
              go_wp2
              go_roundw
              case rel => exact ⟨j + 1, _, by omega, by go_num, by rw [H1.out]; go_num, rfl⟩
              case measure => simp [intOf]; omega
            · have H1 := Lib.hid (Hn.out hge)
              go_wp2_with fail
              go_quiet ((go_at_call 32; first | with_reducible exact quiet_add_left (Hb1.out _) | exact quiet_add_left (Hb2.out _)))
              go_wp2
              go_roundw
              case rel => exact ⟨j + 1, _, by omega, by go_num, by rw [H1.out], rfl⟩
              case measure => simp [intOf]; omega
          · obtain rfl : j = m3 := by omega
            have hl1 := loTo_le ds da j
            rw [Hl3.out] at Hlo
            generalize loTo ds da j = lo at *
            have Hlo := Hlo
            go_wp2_with fail
            go_loopw [11, 12] (fun l i wy => ∃ j2 q : Nat, j2 ≤ m2 ∧ i = .int .i64 j2 ∧ l = .int .i64 (hiTo us ua j2 : Int) ∧ wy = wr.drewN q) (fun _ i _ => m2 - (intOf i).toNat)
            case atStart => exact ⟨0, q, by omega, rfl, rfl, rfl⟩
            case round =>
              obtain ⟨j2, q2, hj2, rfl, rfl, rfl⟩ := hrel
              by_cases hlj2 : j2 < m2
              · obtain ⟨b4, o4, rfl, hb4, hc4⟩ := hIur.at_ hlj2
                have hcj := hc4 j2 hlj2
                clear hc4
                have Hy := Lib.hid (fun hh => hiTo_yes (us := us) (x := ua) (j := j2) hh)
                have Hn := Lib.hid (fun hh => hiTo_no (us := us) (x := ua) (j := j2) hh)
                have hll := hiTo_le us ua j2
                generalize us[j2]?.getD 0 = y at *
                generalize hiTo us ua j2 = hh at *
                cases hge : (y == ua)
                · have H1 := Lib.hid (Hn.out hge)
                  go_wp2_with fail
                  go_quiet (fail)
                  go_wp2
                  go_roundw
                  case rel => exact ⟨j2 + 1, _, by omega, by go_num, by rw [H1.out], rfl⟩
                  case measure => simp [intOf]; omega
                · have H1 := Lib.hid (Hy.out hge)
                  go_wp2_with fail
                  go_quiet (fail)
                  go_wp2
                  go_roundw
                  case rel => exact ⟨j2 + 1, _, by omega, by go_num, by rw [H1.out], rfl⟩
                  case measure => simp [intOf]; omega
              · obtain rfl : j2 = m2 := by omega
                have hh1 := hiTo_le us ua j2
                rw [Hl2.out] at Hhi
                generalize hiTo us ua j2 = hh at *
                have hRz0 := hR.keep ((Upd.refl (fun _ => False) wr).drewN q2) (fun j e => e.elim)
                have hUz0 := hU.drewN q2
                obtain ⟨wz, hwz⟩ : ∃ wz, wr.drewN q2 = wz := ⟨_, rfl⟩
                rw [hwz] at hRz0 hUz0 ⊢
                clear hwz
                obtain ⟨vs, hown, hC, hb1⟩ := hRz0
                have hln : ((spR zs).take a).length ≤ 6 := by have h1 := List.length_take_le a (spR zs); omega
                have zz := hUz0.size
                go_wp2_with (at_builtin; go_loud (refine wpList_append1 _ rfl (.tmp 68) (.tmp 72) _ rfl w3.heap.size 23 i0 _ 24 Tryz.underlying26 hi0 hz0 hz1 hz2 rfl _ ((spR zs).take a).length _ rfl ((hown.alloc _).alloc _) (wz.heap.size + 1) 1 (.slice (some ⟨wz.heap.size, 0, none⟩) 2 2) rfl (cell_new2 _ _ _ _) rfl (by omega) (by omega) (by simp; omega) ?_); rintro v' w' hown' hg' hv')
                go_roundw
                case rel =>
                  have zg := hg'.size
                  simp at zg
                  have hgU : Upd (fun _ => False) w3 w' := ((hUz0.alloc _).alloc _).grown hg' (fun k hk => .inl (own_base hown k hk))
                  exact ⟨a + 1, by omega, by go_num, by rw [Hsn1.out, ← Hlo.out, ← Hhi.out]; exact Rowed.step hown rfl hC hb1 hown' hg', hgU⟩
                case measure => simp [intOf]; omega
      · obtain rfl : a = n := by omega
        have htk := Lib.hid (show (spR zs).take a = spR zs from List.take_of_length_le (by rw [Hspl.out]; exact Nat.le_refl _))
        rw [htk.out] at hR
        obtain ⟨A', c', rfl, hRR⟩ := hR.rows
        go_wp2
        go_ret2
        exact ⟨A', _, c', rfl, hRR.sooner (by omega), ((Below.toUpd C3).trans' hU (fun i hi e => e.elim)).toBelow (fun k e => e) (Nat.le_refl _)⟩
  · have Hb := Lib.hid (show spansB zs = false by unfold spansB; rw [hv, ht]; rfl)
    have Hr := Lib.hid (show spansR zs = [] by unfold spansR; rw [Hb.out]; rfl)
    rw [ht] at hq2
    clear hv ht
    rw [Hb.out, Hr.out]
    go_enter Tryz.func12, Tryz.ntmps12
    go_wp2_with (first
      | (go_at_call 22; refine (hq 0).mono ?_; rintro e w' ⟨rfl, m0, rfl⟩)
      | (go_at_call 23; refine (hq2 _).mono ?_; rintro e w' ⟨rfl, m1, rfl⟩))
    go_ret2
    exact ⟨none, 0, 0, rfl, RowsR.nil _ _ _ _, below_drewN (Below.refl _ _) _⟩
end Go.Proofs.YtdcdddmjffgibaaGreat

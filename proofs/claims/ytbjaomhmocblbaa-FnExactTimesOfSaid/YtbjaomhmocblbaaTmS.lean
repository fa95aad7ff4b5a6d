/- TimesOf: the model's. -/
import Derived.Test.YtbjaomhmocblbaaTmM
import Derived.Test.YtbjaomhmocblbaaGa
namespace Go.Proofs.Ytbjaomhmocblbaa
open Go.RowKit Go.Shelf
attribute [local go_sem] Oper.semAt_some
attribute [local go_sem, local simp] wide_fn

theorem timesB_no1 {zs ys : List Int} (h : vo zs = false) : timesB zs ys = false := by unfold timesB; rw [h]; rfl
theorem timesB_no2 {zs ys : List Int} (h : vo ys = false) : timesB zs ys = false := by unfold timesB; rw [h]; simp
theorem timesB_no3 {zs ys : List Int} {n m : Nat} (h1 : zs.length = n) (h2 : ys.length = m) (h : ¬ n * m ≤ 6) : timesB zs ys = false := by unfold timesB; rw [h1, h2, decide_eq_false h]; simp
theorem timesB_yes {zs ys : List Int} {n m : Nat} (h1 : zs.length = n) (h2 : ys.length = m) (hv : VoP zs) (hv' : VoP ys) (h : n * m ≤ 6) : timesB zs ys = true := by unfold timesB; rw [h1, h2, decide_eq_true h, vo_true hv, vo_true hv']; rfl
theorem timesR_no {zs ys : List Int} (h : timesB zs ys = false) : timesR zs ys = [] := by unfold timesR; rw [h]; rfl
theorem timesR_yes {zs ys : List Int} (h : timesB zs ys = true) : timesR zs ys = tmL zs ys := by unfold timesR; rw [h]; rfl
theorem and_one_bit {z : Int} {q : Nat} (h0 : 0 ≤ z) (h1 : z < 4611686018427387904) : bits .and .i64 (z / 2 ^ q) 1 = bitI z (q : Int) := by
  have := shr_and_one (s := z) (j := (q : Int)) h0 h1
  simpa using this
theorem tm_step_yes {zs ys : List Int} {m i k : Nat} (hne : i ≠ k) (h : tmA zs ys m i k = true) : tmTo zs ys m i (k + 1) = orI (tmTo zs ys m i k) (powI (k : Int)) := by
  rw [tmTo, if_pos (by rw [h]; simpa using hne)]
theorem tm_step_no {zs ys : List Int} {m i k : Nat} (h : i = k ∨ tmA zs ys m i k = false) : tmTo zs ys m i (k + 1) = tmTo zs ys m i k := by
  rw [tmTo, if_neg (by rcases h with h | h <;> simp [h])]

set_option maxRecDepth 100000 in
set_option maxHeartbeats 8000000 in
theorem specTimesOfF_any (A : Option Addr) (n c : Nat) (zs : List Int) (A' : Option Addr) (n' c' : Nat) (ys : List Int) (w : World) (h : Ints w w.heap.size A n zs) (h' : Ints w w.heap.size A' n' ys) (hbig : n ≤ 1152921504606846976) (hbig' : n' ≤ 1152921504606846976) :
    Calls Try.prog 16 #[.slice A n c, .slice A' n' c'] w (GivesAtV w (timesR zs ys) (timesB zs ys)) := by
  obtain ⟨i0, hi0, hz0, hz1, hz2⟩ := info_parts infoInt
  have hlen := Lib.hid h.len
  have hlen' := Lib.hid h'.len
  have H1 := Lib.hid fun w1 => validOrder_any A n c w.heap.size zs w1
  have H2 := Lib.hid fun w1 => validOrder_any A' n' c' w.heap.size ys w1
  cases hv : vo zs
  · have Hb := Lib.hid (timesB_no1 (ys := ys) hv)
    have Ht := Lib.hid (timesR_no Hb.out)
    go_enter Try.func16, Try.ntmps16
    go_wp2_with fail
    refine (H1.out _ h hbig).mono ?_
    rw [hv]
    rintro e w1 ⟨rfl, m, hm⟩
    have hB : Below w.heap.size w w1 := by rw [hm]; exact below_drewN (Below.refl _ _) _
    clear hm
    go_wp2_with fail
    go_ret2
    exact ⟨none, 0, 0, by rw [Hb.out]; rfl, by rw [Ht.out]; exact RowV.nil _ _ _ _, hB⟩
  · have hvo : VoP zs := by simpa [vo] using hv
    cases hv' : vo ys
    · have Hb := Lib.hid (timesB_no2 (zs := zs) hv')
      have Ht := Lib.hid (timesR_no Hb.out)
      go_enter Try.func16, Try.ntmps16
      go_wp2_with fail
      refine (H1.out _ h hbig).mono ?_
      rw [hv]
      rintro e w1 ⟨rfl, m, hm⟩
      have hB1 : Below w.heap.size w w1 := by rw [hm]; exact below_drewN (Below.refl _ _) _
      have hx1 := h.below hB1
      have hy1 := h'.below hB1
      clear hm
      go_wp2_with fail
      refine (H2.out _ hy1 hbig').mono ?_
      rw [hv']
      rintro e w2 ⟨rfl, m2, hm2⟩
      have hB2 : Below w.heap.size w1 w2 := by rw [hm2]; exact below_drewN (Below.refl _ _) _
      have hB := hB1.trans hB2
      have zz := hB.size
      have hx := (hx1.below hB2).more zz
      have hy2 := (hy1.below hB2).more zz
      clear hm2 hB1 hB2 hx1 hy1
      go_wp2_with fail
      go_ret2
      exact ⟨none, 0, 0, by rw [Hb.out]; rfl, by rw [Ht.out]; exact RowV.nil _ _ _ _, hB⟩
    · have hvy : VoP ys := by simpa [vo] using hv'
      have h6 : n ≤ 6 := by have := hvo.1; rw [hlen.out] at this; exact this
      have h6' : n' ≤ 6 := by have := hvy.1; rw [hlen'.out] at this; exact this
      obtain ⟨N, hN⟩ : ∃ N, n * n' = N := ⟨_, rfl⟩
      have hN36 : N ≤ 36 := by rw [← hN]; exact Nat.mul_le_mul h6 h6'
      have hwe : (n : Int) * (n' : Int) = (N : Int) := by rw [← hN, Int.natCast_mul]
      have hwr : wrap64 ((n : Int) * (n' : Int)) = (N : Int) := by rw [hwe]; exact IntWalk.wrap64_in _ ⟨by omega, by omega⟩
      clear hwe
      by_cases hnm : N ≤ 6
      · have Hb := Lib.hid (timesB_yes hlen.out hlen'.out hvo hvy (by rw [hN]; exact hnm))
        have Ht := Lib.hid (timesR_yes Hb.out)
        have HN := Lib.hid hN
        have Htl := Lib.hid (tmL_len zs ys)
        rw [hlen.out, hlen'.out, hN] at Htl
        have Hsn := Lib.hid (fun i (hi : i < N) => tmL_snoc zs ys hlen.out hlen'.out (i := i) (by rw [hN]; exact hi))
        rw [hN] at Hsn
        have hgt : decide (6 < (N : Int)) = false := decide_eq_false (by omega)
        clear hN
        go_enter Try.func16, Try.ntmps16
        go_wp2_with fail
        refine (H1.out _ h hbig).mono ?_
        rw [hv]
        rintro e w1 ⟨rfl, m, hm⟩
        have hB1 : Below w.heap.size w w1 := by rw [hm]; exact below_drewN (Below.refl _ _) _
        have hx1 := h.below hB1
        have hy1 := h'.below hB1
        clear hm
        go_wp2_with fail
        refine (H2.out _ hy1 hbig').mono ?_
        rw [hv']
        rintro e w2 ⟨rfl, m2, hm2⟩
        have hB2 : Below w.heap.size w1 w2 := by rw [hm2]; exact below_drewN (Below.refl _ _) _
        have hB := hB1.trans hB2
        have zz := hB.size
        have hx := (hx1.below hB2).more zz
        have hy2 := (hy1.below hB2).more zz
        clear hm2 hB1 hB2 hx1 hy1
        go_wp2_with fail
        have h1 := own_new w2 3
        have hU1 : Upd (fun _ => False) w2 (w2.alloc (.cells #[] 3)) := (Upd.refl _ w2).alloc _
        have hz1' : w2.heap.size < (w2.alloc (.cells #[] 3)).heap.size := by simp
        obtain ⟨W1, hW1⟩ : ∃ W1, w2.alloc (.cells #[] 3) = W1 := ⟨_, rfl⟩
        rw [hW1] at h1 hU1 hz1' ⊢
        clear hW1
        try simp only [hwr]
        go_loopw [6, 8] (fun v i wr => ∃ k : Nat, k ≤ N ∧ i = .int .i64 k ∧ OwnS (fun j => w2.heap.size ≤ j) wr w2.heap.size 3 v ((tmL zs ys).take k) ∧ Below w2.heap.size w2 wr) (fun _ i _ => N - (intOf i).toNat)
        case atStart => exact ⟨0, by omega, rfl, ⟨fun j hj => by simp [Value.ownBlock] at hj; omega, by simpa using h1⟩, hU1.toBelow (fun _ e => e.elim) (Nat.le_refl _)⟩
        case round =>
          clear hU1 h1
          obtain ⟨i, hi, rfl, hO, hBr⟩ := hrel
          rename World => w3
          have z3 := hBr.size
          by_cases hlt : i < N
          · have hm0 : 0 < n' := by
              rcases Nat.eq_zero_or_pos n' with e | e
              · have := HN.out; rw [e, Nat.mul_zero] at this; omega
              · exact e
            have hqi : i / n' < n := by rw [Nat.div_lt_iff_lt_mul hm0, HN.out]; exact hlt
            have hri : i % n' < n' := Nat.mod_lt _ hm0
            have hq1 : ((i : Int)).tdiv (n' : Int) = ((i / n' : Nat) : Int) := rfl
            have hr1 : ((i : Int)).tmod (n' : Int) = ((i % n' : Nat) : Int) := rfl
            have hz := hvo.bd (i / n') (by rw [hlen.out]; exact hqi)
            have hy := hvy.bd (i % n') (by rw [hlen'.out]; exact hri)
            have Hsi := Lib.hid (Hsn.out i hlt)
            obtain ⟨ba, oa, rfl, hba, hca⟩ := (hx.below hBr).at_ hqi
            obtain ⟨bb, ob, rfl, hbb, hcb⟩ := (hy2.below hBr).at_ hri
            have hcz := hca _ hqi
            have hcy := hcb _ hri
            have Htm := Lib.hid (fun k => (show tmA zs ys n' i k = (bitB (orI (zs[i / n']?.getD 0) (powI ((i / n' : Nat) : Int))) ((k / n' : Nat) : Int) && bitB (orI (ys[i % n']?.getD 0) (powI ((i % n' : Nat) : Int))) ((k % n' : Nat) : Int)) from rfl))
            clear hca hcb
            generalize zs[i / n']?.getD 0 = z at *
            generalize ys[i % n']?.getD 0 = y at *
            have hqi6 : i / n' < 6 := by omega
            have hri6 : i % n' < 6 := by omega
            generalize i / n' = qi at *
            generalize i % n' = ri at *
            have hpq := powI_pos (qi : Int)
            have hpr := powI_pos (ri : Int)
            have hpq2 : powI (qi : Int) < 64 := by have := powI_lt (k := qi) (n := 6) hqi6; have := powI_le6 (n := (6 : Nat)) (by omega); omega
            have hpr2 : powI (ri : Int) < 64 := by have := powI_lt (k := ri) (n := 6) hri6; have := powI_le6 (n := (6 : Nat)) (by omega); omega
            have hoz : bits .or .i64 z (powI (qi : Int)) = orI z (powI (qi : Int)) := bits_or (by omega) (by omega) (by omega) (by omega)
            have hoy : bits .or .i64 y (powI (ri : Int)) = orI y (powI (ri : Int)) := bits_or (by omega) (by omega) (by omega) (by omega)
            have hzb := orI_bd (n := 6) hz.1 (by show z < 64; omega) (Int.le_of_lt hpq) (by show _ < (64 : Int); omega)
            have hyb := orI_bd (n := 6) hy.1 (by show y < 64; omega) (Int.le_of_lt hpr) (by show _ < (64 : Int); omega)
            have hP1 := fun w => power_any (qi : Int) w (by omega) (by omega)
            have hP2 := fun w => power_any (ri : Int) w (by omega) (by omega)
            have h6b : powI 6 = 64 := rfl
            rw [h6b] at hzb hyb
            have hb1 : ∀ q : Nat, bits .and .i64 (orI z (powI (qi : Int)) / 2 ^ q) 1 = bitI (orI z (powI (qi : Int))) (q : Int) := fun q => and_one_bit hzb.1 (by omega)
            have hb2 : ∀ q : Nat, bits .and .i64 (orI y (powI (ri : Int)) / 2 ^ q) 1 = bitI (orI y (powI (ri : Int))) (q : Int) := fun q => and_one_bit hyb.1 (by omega)
            generalize orI z (powI (qi : Int)) = zq at *
            generalize orI y (powI (ri : Int)) = yq at *
            generalize powI (qi : Int) = pq at *
            generalize powI (ri : Int) = pr at *
            have hnz : ¬ n' = 0 := by omega
            have hwqi : IntKind.i64.wrap (qi : Int) = (qi : Int) := by rw [IntKind.wrap_i64]; omega
            have hwri : IntKind.i64.wrap (ri : Int) = (ri : Int) := by rw [IntKind.wrap_i64]; omega
            have hltN : decide ((i : Int) < (N : Int)) = true := decide_eq_true (by omega)
            go_wp2_with fail
            try simp only [hwr]
            go_loopw [9, 10] (fun s k wr => ∃ j q : Nat, j ≤ N ∧ k = .int .i64 j ∧ s = .int .i64 (tmTo zs ys n' i j) ∧ wr = w3.drewN q) (fun _ k _ => N - (intOf k).toNat)
            case atStart => exact ⟨0, 0, by omega, rfl, rfl, rfl⟩
            case round =>
              obtain ⟨k, q, hk, rfl, rfl, rfl⟩ := hrel
              by_cases hkn : k < N
              · have hq3 : ((k : Int)).tdiv (n' : Int) = ((k / n' : Nat) : Int) := rfl
                have hr3 : ((k : Int)).tmod (n' : Int) = ((k % n' : Nat) : Int) := rfl
                have hltk : decide ((k : Int) < (N : Int)) = true := decide_eq_true (by omega)
                have hs := tmTo_bd zs ys n' i k
                have hpk := powI_pos (k : Int)
                have hpk2 := powI_le6 (n := (k : Int)) (by omega)
                have hor : bits .or .i64 (tmTo zs ys n' i k) (powI (k : Int)) = orI (tmTo zs ys n' i k) (powI (k : Int)) := bits_or (by omega) (by omega) (by omega) (by omega)
                have HA := Lib.hid (Htm.out k)
                have Hy := Lib.hid (fun hne h => tm_step_yes (zs := zs) (ys := ys) (m := n') (i := i) (k := k) hne h)
                have Hno := Lib.hid (fun h => tm_step_no (zs := zs) (ys := ys) (m := n') (i := i) (k := k) h)
                have hk64 : k / n' < 64 := Nat.lt_of_le_of_lt (Nat.div_le_self _ _) (by omega)
                have hk65 : k % n' < 64 := by have := Nat.mod_lt k hm0; omega
                have hb3 := hb1 (k / n')
                have hb4 := hb2 (k % n')
                generalize k / n' = qk at *
                generalize k % n' = rk at *
                have hwqk : IntKind.i64.wrap (qk : Int) = (qk : Int) := by rw [IntKind.wrap_i64]; omega
                have hwrk : IntKind.i64.wrap (rk : Int) = (rk : Int) := by rw [IntKind.wrap_i64]; omega
                have hcz2 : (w3.drewN q).cell? ⟨ba, oa + qi, none⟩ = some (.int .i64 z) := hcz
                have hcy2 : (w3.drewN q).cell? ⟨bb, ob + ri, none⟩ = some (.int .i64 y) := hcy
                generalize tmTo zs ys n' i k = s at *
                go_wp2_with fail
                refine region_T (S := (fun w' => w'.cell? ⟨ba, oa + qi, none⟩ = some (.int .i64 z))) 16 (by kernel_rfl) ?_
                have hSd : (fun w' => w'.cell? ⟨ba, oa + qi, none⟩ = some (.int .i64 z)) (w3.drewN (q + 1)) := hcz2
                refine anyT_take (i := 0) (oi := ?oi0c) (v := .slice (some ⟨ba, oa, none⟩) n c) ?hi0c (by kernel_rfl) ?hq0c ?hy0c (by assumption) ?rest0c
                case hi0c => (simp only [List.getElem?_toArray, List.getElem?_cons_zero]; first | done | rfl)
                case hq0c => first | exact fun _ _ _ h => h | exact fun _ _ _ h => (by cases h.1)
                case hy0c => (refine Or.inl ⟨by rfl, ?_⟩; intro wz hSw; go_simp; first | done | with_reducible rfl | simp | omega)
                try simp only [Act.put, List.setIfInBounds_toArray, List.set_cons_zero, List.set_cons_succ]
                refine anyT_take (i := 1) (oi := ?oi1c) (v := .int .i64 (i : Int)) ?hi1c (by kernel_rfl) ?hq1c ?hy1c (by assumption) ?rest1c
                case hi1c => (simp only [List.getElem?_toArray, List.getElem?_cons_succ, List.getElem?_cons_zero]; first | done | rfl)
                case hq1c => first | exact fun _ _ _ h => h | exact fun _ _ _ h => (by cases h.1)
                case hy1c => (refine Or.inl ⟨by rfl, ?_⟩; intro wz hSw; go_simp; first | done | with_reducible rfl | simp | omega)
                try simp only [Act.put, List.setIfInBounds_toArray, List.set_cons_zero, List.set_cons_succ]
                refine anyT_take (i := 2) (oi := ?oi2c) (v := .int .i64 (n' : Int)) ?hi2c (by kernel_rfl) ?hq2c ?hy2c (by assumption) ?rest2c
                case hi2c => (simp only [List.getElem?_toArray, List.getElem?_cons_succ, List.getElem?_cons_zero]; first | done | rfl)
                case hq2c => first | exact fun _ _ _ h => h | exact fun _ _ _ h => (by cases h.1)
                case hy2c => (refine Or.inl ⟨by rfl, ?_⟩; intro wz hSw; go_simp; first | done | with_reducible rfl | simp | omega)
                try simp only [Act.put, List.setIfInBounds_toArray, List.set_cons_zero, List.set_cons_succ]
                refine anyT_take (i := 3) (oi := ?oi3c) (v := .int .i64 (qi : Int)) ?hi3c (by kernel_rfl) ?hq3c ?hy3c (by assumption) ?rest3c
                case hi3c => (simp only [List.getElem?_toArray, List.getElem?_cons_succ, List.getElem?_cons_zero]; first | done | rfl)
                case hq3c => first | exact fun _ _ _ h => h | exact fun _ _ _ h => (by cases h.1)
                case hy3c => (refine Or.inl ⟨by rfl, ?_⟩; intro wz hSw; go_simp; first | done | with_reducible rfl | simp [hq1, hnz, hwqi] | omega)
                try simp only [Act.put, List.setIfInBounds_toArray, List.set_cons_zero, List.set_cons_succ]
                refine anyT_take (i := 4) (oi := ?oi4c) (v := .pointer (some ⟨ba, oa + qi, none⟩)) ?hi4c (by kernel_rfl) ?hq4c ?hy4c (by assumption) ?rest4c
                case hi4c => (simp only [List.getElem?_toArray, List.getElem?_cons_succ, List.getElem?_cons_zero]; first | done | rfl)
                case hq4c => first | exact fun _ _ _ h => h | exact fun _ _ _ h => (by cases h.1)
                case hy4c => (refine Or.inl ⟨by rfl, ?_⟩; intro wz hSw; go_simp; first | done | with_reducible rfl | simp | omega)
                try simp only [Act.put, List.setIfInBounds_toArray, List.set_cons_zero, List.set_cons_succ]
                refine anyT_take (i := 5) (oi := ?oi5c) (v := .int .i64 z) ?hi5c (by kernel_rfl) ?hq5c ?hy5c (by assumption) ?rest5c
                case hi5c => (simp only [List.getElem?_toArray, List.getElem?_cons_succ, List.getElem?_cons_zero]; first | done | rfl)
                case hq5c => first | exact fun _ _ _ h => h | exact fun _ _ _ h => (by cases h.1)
                case hy5c => (refine Or.inl ⟨by rfl, ?_⟩; intro wz hSw; obtain hS1 := hSw; go_simp; first | done | with_reducible rfl | simp | omega)
                try simp only [Act.put, List.setIfInBounds_toArray, List.set_cons_zero, List.set_cons_succ]
                refine anyT_take (i := 6) (oi := ?oi6c) (v := .int .i64 (i : Int)) ?hi6c (by kernel_rfl) ?hq6c ?hy6c (by assumption) ?rest6c
                case hi6c => (simp only [List.getElem?_toArray, List.getElem?_cons_succ, List.getElem?_cons_zero]; first | done | rfl)
                case hq6c => first | exact fun _ _ _ h => h | exact fun _ _ _ h => (by cases h.1)
                case hy6c => (refine Or.inl ⟨by rfl, ?_⟩; intro wz hSw; go_simp; first | done | with_reducible rfl | simp | omega)
                try simp only [Act.put, List.setIfInBounds_toArray, List.set_cons_zero, List.set_cons_succ]
                refine anyT_take (i := 7) (oi := ?oi7c) (v := .int .i64 (n' : Int)) ?hi7c (by kernel_rfl) ?hq7c ?hy7c (by assumption) ?rest7c
                case hi7c => (simp only [List.getElem?_toArray, List.getElem?_cons_succ, List.getElem?_cons_zero]; first | done | rfl)
                case hq7c => first | exact fun _ _ _ h => h | exact fun _ _ _ h => (by cases h.1)
                case hy7c => (refine Or.inl ⟨by rfl, ?_⟩; intro wz hSw; go_simp; first | done | with_reducible rfl | simp | omega)
                try simp only [Act.put, List.setIfInBounds_toArray, List.set_cons_zero, List.set_cons_succ]
                refine anyT_take (i := 8) (oi := ?oi8c) (v := .int .i64 (qi : Int)) ?hi8c (by kernel_rfl) ?hq8c ?hy8c (by assumption) ?rest8c
                case hi8c => (simp only [List.getElem?_toArray, List.getElem?_cons_succ, List.getElem?_cons_zero]; first | done | rfl)
                case hq8c => first | exact fun _ _ _ h => h | exact fun _ _ _ h => (by cases h.1)
                case hy8c => (refine Or.inl ⟨by rfl, ?_⟩; intro wz hSw; go_simp; first | done | with_reducible rfl | simp [hq1, hnz, hwqi] | omega)
                try simp only [Act.put, List.setIfInBounds_toArray, List.set_cons_zero, List.set_cons_succ]
                refine anyT_take (i := 11) (oi := ?oi11c) (v := .int .i64 (k : Int)) ?hi11c (by kernel_rfl) ?hq11c ?hy11c (by assumption) ?rest11c
                case hi11c => (simp only [List.getElem?_toArray, List.getElem?_cons_succ, List.getElem?_cons_zero]; first | done | rfl)
                case hq11c => first | exact fun _ _ _ h => h | exact fun _ _ _ h => (by cases h.1)
                case hy11c => (refine Or.inl ⟨by rfl, ?_⟩; intro wz hSw; go_simp; first | done | with_reducible rfl | simp | omega)
                try simp only [Act.put, List.setIfInBounds_toArray, List.set_cons_zero, List.set_cons_succ]
                refine anyT_take (i := 12) (oi := ?oi12c) (v := .int .i64 (n' : Int)) ?hi12c (by kernel_rfl) ?hq12c ?hy12c (by assumption) ?rest12c
                case hi12c => (simp only [List.getElem?_toArray, List.getElem?_cons_succ, List.getElem?_cons_zero]; first | done | rfl)
                case hq12c => first | exact fun _ _ _ h => h | exact fun _ _ _ h => (by cases h.1)
                case hy12c => (refine Or.inl ⟨by rfl, ?_⟩; intro wz hSw; go_simp; first | done | with_reducible rfl | simp | omega)
                try simp only [Act.put, List.setIfInBounds_toArray, List.set_cons_zero, List.set_cons_succ]
                refine anyT_take (i := 13) (oi := ?oi13c) (v := .int .i64 (qk : Int)) ?hi13c (by kernel_rfl) ?hq13c ?hy13c (by assumption) ?rest13c
                case hi13c => (simp only [List.getElem?_toArray, List.getElem?_cons_succ, List.getElem?_cons_zero]; first | done | rfl)
                case hq13c => first | exact fun _ _ _ h => h | exact fun _ _ _ h => (by cases h.1)
                case hy13c => (refine Or.inl ⟨by rfl, ?_⟩; intro wz hSw; go_simp; first | done | with_reducible rfl | simp [hq3, hnz, hwqk] | omega)
                try simp only [Act.put, List.setIfInBounds_toArray, List.set_cons_zero, List.set_cons_succ]
                refine anyT_one (i := 9) (by kernel_rfl) rfl (fun K' hK => ?_)
                go_simp
                refine (hP1 _).mono ?_
                rintro e w' ⟨rfl, rfl⟩
                refine hK.out _ _ (fun _ => hSd) ?_
                clear hK K'
                try simp only [Act.put, List.setIfInBounds_toArray, List.set_cons_zero, List.set_cons_succ]
                refine anyT_take (i := 10) (oi := ?oi10cx) (v := .int .i64 zq) ?hi10cx (by kernel_rfl) ?hq10cx ?hy10cx (by assumption) ?rest10cx
                case hi10cx => (simp only [List.getElem?_toArray, List.getElem?_cons_succ, List.getElem?_cons_zero]; first | done | rfl)
                case hq10cx => first | exact fun _ _ _ h => h | exact fun _ _ _ h => (by cases h.1)
                case hy10cx => (refine Or.inl ⟨by rfl, ?_⟩; intro wz hSw; go_simp; first | done | with_reducible rfl | simp [hoz] | omega)
                try simp only [Act.put, List.setIfInBounds_toArray, List.set_cons_zero, List.set_cons_succ]
                refine anyT_take (i := 14) (oi := ?oi14cx) (v := .int .i64 (zq / 2 ^ qk)) ?hi14cx (by kernel_rfl) ?hq14cx ?hy14cx (by assumption) ?rest14cx
                case hi14cx => (simp only [List.getElem?_toArray, List.getElem?_cons_succ, List.getElem?_cons_zero]; first | done | rfl)
                case hq14cx => first | exact fun _ _ _ h => h | exact fun _ _ _ h => (by cases h.1)
                case hy14cx => (refine Or.inl ⟨by rfl, ?_⟩; intro wz hSw; go_simp; first | done | with_reducible rfl | simp | omega)
                try simp only [Act.put, List.setIfInBounds_toArray, List.set_cons_zero, List.set_cons_succ]
                refine anyT_take (i := 15) (oi := ?oi15cx) (v := .int .i64 (bitI zq (qk : Int))) ?hi15cx (by kernel_rfl) ?hq15cx ?hy15cx (by assumption) ?rest15cx
                case hi15cx => (simp only [List.getElem?_toArray, List.getElem?_cons_succ, List.getElem?_cons_zero]; first | done | rfl)
                case hq15cx => first | exact fun _ _ _ h => h | exact fun _ _ _ h => (by cases h.1)
                case hy15cx => (refine Or.inl ⟨by rfl, ?_⟩; intro wz hSw; go_simp; first | done | with_reducible rfl | simp [hb3] | omega)
                try simp only [Act.put, List.setIfInBounds_toArray, List.set_cons_zero, List.set_cons_succ]
                refine anyT_one (i := 16) (by kernel_rfl) rfl (fun K' hK => ?_)
                go_simp
                refine hK.out _ _ (fun h => absurd rfl h) ?_
                clear hK K'
                try simp only [Act.put, List.setIfInBounds_toArray, List.set_cons_zero, List.set_cons_succ]
                refine anyT_done (by kernel_rfl) ?_ _
                clear hSd
                go_wp2_with fail
                refine region_T (S := (fun w' => w'.cell? ⟨bb, ob + ri, none⟩ = some (.int .i64 y))) 16 (by kernel_rfl) ?_
                have hSd : (fun w' => w'.cell? ⟨bb, ob + ri, none⟩ = some (.int .i64 y)) (w3.drewN (q + 1 + 1)) := hcy2
                refine anyT_take (i := 0) (oi := ?oi0d) (v := .slice (some ⟨bb, ob, none⟩) n' c') ?hi0d (by kernel_rfl) ?hq0d ?hy0d (by assumption) ?rest0d
                case hi0d => (simp only [List.getElem?_toArray, List.getElem?_cons_zero]; first | done | rfl)
                case hq0d => first | exact fun _ _ _ h => h | exact fun _ _ _ h => (by cases h.1)
                case hy0d => (refine Or.inl ⟨by rfl, ?_⟩; intro wz hSw; go_simp; first | done | with_reducible rfl | simp | omega)
                try simp only [Act.put, List.setIfInBounds_toArray, List.set_cons_zero, List.set_cons_succ]
                refine anyT_take (i := 1) (oi := ?oi1d) (v := .int .i64 (i : Int)) ?hi1d (by kernel_rfl) ?hq1d ?hy1d (by assumption) ?rest1d
                case hi1d => (simp only [List.getElem?_toArray, List.getElem?_cons_succ, List.getElem?_cons_zero]; first | done | rfl)
                case hq1d => first | exact fun _ _ _ h => h | exact fun _ _ _ h => (by cases h.1)
                case hy1d => (refine Or.inl ⟨by rfl, ?_⟩; intro wz hSw; go_simp; first | done | with_reducible rfl | simp | omega)
                try simp only [Act.put, List.setIfInBounds_toArray, List.set_cons_zero, List.set_cons_succ]
                refine anyT_take (i := 2) (oi := ?oi2d) (v := .int .i64 (n' : Int)) ?hi2d (by kernel_rfl) ?hq2d ?hy2d (by assumption) ?rest2d
                case hi2d => (simp only [List.getElem?_toArray, List.getElem?_cons_succ, List.getElem?_cons_zero]; first | done | rfl)
                case hq2d => first | exact fun _ _ _ h => h | exact fun _ _ _ h => (by cases h.1)
                case hy2d => (refine Or.inl ⟨by rfl, ?_⟩; intro wz hSw; go_simp; first | done | with_reducible rfl | simp | omega)
                try simp only [Act.put, List.setIfInBounds_toArray, List.set_cons_zero, List.set_cons_succ]
                refine anyT_take (i := 3) (oi := ?oi3d) (v := .int .i64 (ri : Int)) ?hi3d (by kernel_rfl) ?hq3d ?hy3d (by assumption) ?rest3d
                case hi3d => (simp only [List.getElem?_toArray, List.getElem?_cons_succ, List.getElem?_cons_zero]; first | done | rfl)
                case hq3d => first | exact fun _ _ _ h => h | exact fun _ _ _ h => (by cases h.1)
                case hy3d => (refine Or.inl ⟨by rfl, ?_⟩; intro wz hSw; go_simp; first | done | with_reducible rfl | simp [hr1, hnz, hwri] | omega)
                try simp only [Act.put, List.setIfInBounds_toArray, List.set_cons_zero, List.set_cons_succ]
                refine anyT_take (i := 4) (oi := ?oi4d) (v := .pointer (some ⟨bb, ob + ri, none⟩)) ?hi4d (by kernel_rfl) ?hq4d ?hy4d (by assumption) ?rest4d
                case hi4d => (simp only [List.getElem?_toArray, List.getElem?_cons_succ, List.getElem?_cons_zero]; first | done | rfl)
                case hq4d => first | exact fun _ _ _ h => h | exact fun _ _ _ h => (by cases h.1)
                case hy4d => (refine Or.inl ⟨by rfl, ?_⟩; intro wz hSw; go_simp; first | done | with_reducible rfl | simp | omega)
                try simp only [Act.put, List.setIfInBounds_toArray, List.set_cons_zero, List.set_cons_succ]
                refine anyT_take (i := 5) (oi := ?oi5d) (v := .int .i64 y) ?hi5d (by kernel_rfl) ?hq5d ?hy5d (by assumption) ?rest5d
                case hi5d => (simp only [List.getElem?_toArray, List.getElem?_cons_succ, List.getElem?_cons_zero]; first | done | rfl)
                case hq5d => first | exact fun _ _ _ h => h | exact fun _ _ _ h => (by cases h.1)
                case hy5d => (refine Or.inl ⟨by rfl, ?_⟩; intro wz hSw; obtain hS1 := hSw; go_simp; first | done | with_reducible rfl | simp | omega)
                try simp only [Act.put, List.setIfInBounds_toArray, List.set_cons_zero, List.set_cons_succ]
                refine anyT_take (i := 6) (oi := ?oi6d) (v := .int .i64 (i : Int)) ?hi6d (by kernel_rfl) ?hq6d ?hy6d (by assumption) ?rest6d
                case hi6d => (simp only [List.getElem?_toArray, List.getElem?_cons_succ, List.getElem?_cons_zero]; first | done | rfl)
                case hq6d => first | exact fun _ _ _ h => h | exact fun _ _ _ h => (by cases h.1)
                case hy6d => (refine Or.inl ⟨by rfl, ?_⟩; intro wz hSw; go_simp; first | done | with_reducible rfl | simp | omega)
                try simp only [Act.put, List.setIfInBounds_toArray, List.set_cons_zero, List.set_cons_succ]
                refine anyT_take (i := 7) (oi := ?oi7d) (v := .int .i64 (n' : Int)) ?hi7d (by kernel_rfl) ?hq7d ?hy7d (by assumption) ?rest7d
                case hi7d => (simp only [List.getElem?_toArray, List.getElem?_cons_succ, List.getElem?_cons_zero]; first | done | rfl)
                case hq7d => first | exact fun _ _ _ h => h | exact fun _ _ _ h => (by cases h.1)
                case hy7d => (refine Or.inl ⟨by rfl, ?_⟩; intro wz hSw; go_simp; first | done | with_reducible rfl | simp | omega)
                try simp only [Act.put, List.setIfInBounds_toArray, List.set_cons_zero, List.set_cons_succ]
                refine anyT_take (i := 8) (oi := ?oi8d) (v := .int .i64 (ri : Int)) ?hi8d (by kernel_rfl) ?hq8d ?hy8d (by assumption) ?rest8d
                case hi8d => (simp only [List.getElem?_toArray, List.getElem?_cons_succ, List.getElem?_cons_zero]; first | done | rfl)
                case hq8d => first | exact fun _ _ _ h => h | exact fun _ _ _ h => (by cases h.1)
                case hy8d => (refine Or.inl ⟨by rfl, ?_⟩; intro wz hSw; go_simp; first | done | with_reducible rfl | simp [hr1, hnz, hwri] | omega)
                try simp only [Act.put, List.setIfInBounds_toArray, List.set_cons_zero, List.set_cons_succ]
                refine anyT_take (i := 11) (oi := ?oi11d) (v := .int .i64 (k : Int)) ?hi11d (by kernel_rfl) ?hq11d ?hy11d (by assumption) ?rest11d
                case hi11d => (simp only [List.getElem?_toArray, List.getElem?_cons_succ, List.getElem?_cons_zero]; first | done | rfl)
                case hq11d => first | exact fun _ _ _ h => h | exact fun _ _ _ h => (by cases h.1)
                case hy11d => (refine Or.inl ⟨by rfl, ?_⟩; intro wz hSw; go_simp; first | done | with_reducible rfl | simp | omega)
                try simp only [Act.put, List.setIfInBounds_toArray, List.set_cons_zero, List.set_cons_succ]
                refine anyT_take (i := 12) (oi := ?oi12d) (v := .int .i64 (n' : Int)) ?hi12d (by kernel_rfl) ?hq12d ?hy12d (by assumption) ?rest12d
                case hi12d => (simp only [List.getElem?_toArray, List.getElem?_cons_succ, List.getElem?_cons_zero]; first | done | rfl)
                case hq12d => first | exact fun _ _ _ h => h | exact fun _ _ _ h => (by cases h.1)
                case hy12d => (refine Or.inl ⟨by rfl, ?_⟩; intro wz hSw; go_simp; first | done | with_reducible rfl | simp | omega)
                try simp only [Act.put, List.setIfInBounds_toArray, List.set_cons_zero, List.set_cons_succ]
                refine anyT_take (i := 13) (oi := ?oi13d) (v := .int .i64 (rk : Int)) ?hi13d (by kernel_rfl) ?hq13d ?hy13d (by assumption) ?rest13d
                case hi13d => (simp only [List.getElem?_toArray, List.getElem?_cons_succ, List.getElem?_cons_zero]; first | done | rfl)
                case hq13d => first | exact fun _ _ _ h => h | exact fun _ _ _ h => (by cases h.1)
                case hy13d => (refine Or.inl ⟨by rfl, ?_⟩; intro wz hSw; go_simp; first | done | with_reducible rfl | simp [hr3, hnz, hwrk] | omega)
                try simp only [Act.put, List.setIfInBounds_toArray, List.set_cons_zero, List.set_cons_succ]
                refine anyT_one (i := 9) (by kernel_rfl) rfl (fun K' hK => ?_)
                go_simp
                refine (hP2 _).mono ?_
                rintro e w' ⟨rfl, rfl⟩
                refine hK.out _ _ (fun _ => hSd) ?_
                clear hK K'
                try simp only [Act.put, List.setIfInBounds_toArray, List.set_cons_zero, List.set_cons_succ]
                refine anyT_take (i := 10) (oi := ?oi10dx) (v := .int .i64 yq) ?hi10dx (by kernel_rfl) ?hq10dx ?hy10dx (by assumption) ?rest10dx
                case hi10dx => (simp only [List.getElem?_toArray, List.getElem?_cons_succ, List.getElem?_cons_zero]; first | done | rfl)
                case hq10dx => first | exact fun _ _ _ h => h | exact fun _ _ _ h => (by cases h.1)
                case hy10dx => (refine Or.inl ⟨by rfl, ?_⟩; intro wz hSw; go_simp; first | done | with_reducible rfl | simp [hoy] | omega)
                try simp only [Act.put, List.setIfInBounds_toArray, List.set_cons_zero, List.set_cons_succ]
                refine anyT_take (i := 14) (oi := ?oi14dx) (v := .int .i64 (yq / 2 ^ rk)) ?hi14dx (by kernel_rfl) ?hq14dx ?hy14dx (by assumption) ?rest14dx
                case hi14dx => (simp only [List.getElem?_toArray, List.getElem?_cons_succ, List.getElem?_cons_zero]; first | done | rfl)
                case hq14dx => first | exact fun _ _ _ h => h | exact fun _ _ _ h => (by cases h.1)
                case hy14dx => (refine Or.inl ⟨by rfl, ?_⟩; intro wz hSw; go_simp; first | done | with_reducible rfl | simp | omega)
                try simp only [Act.put, List.setIfInBounds_toArray, List.set_cons_zero, List.set_cons_succ]
                refine anyT_take (i := 15) (oi := ?oi15dx) (v := .int .i64 (bitI yq (rk : Int))) ?hi15dx (by kernel_rfl) ?hq15dx ?hy15dx (by assumption) ?rest15dx
                case hi15dx => (simp only [List.getElem?_toArray, List.getElem?_cons_succ, List.getElem?_cons_zero]; first | done | rfl)
                case hq15dx => first | exact fun _ _ _ h => h | exact fun _ _ _ h => (by cases h.1)
                case hy15dx => (refine Or.inl ⟨by rfl, ?_⟩; intro wz hSw; go_simp; first | done | with_reducible rfl | simp [hb4] | omega)
                try simp only [Act.put, List.setIfInBounds_toArray, List.set_cons_zero, List.set_cons_succ]
                refine anyT_one (i := 16) (by kernel_rfl) rfl (fun K' hK => ?_)
                go_simp
                refine hK.out _ _ (fun h => absurd rfl h) ?_
                clear hK K'
                try simp only [Act.put, List.setIfInBounds_toArray, List.set_cons_zero, List.set_cons_succ]
                refine anyT_done (by kernel_rfl) ?_ _
                clear hSd
                have hpw := fun w => power_any (k : Int) w (by omega) (by omega)
                have hX1 : (bitI zq (qk : Int) == 1) = bitB zq (qk : Int) := bitI_one _ _
                have hX2 : (bitI yq (rk : Int) == 1) = bitB yq (rk : Int) := bitI_one _ _
                have HAo := HA.out
                clear HA hb1 hb2 hb3 hb4 hq1 hr1 hq3 hr3 hP1 hP2 hoz hoy hcz hcy hcz2 hcy2 hwqi hwri hwqk hwrk hzb hyb Hsi Hsn Htl HN hnz hgt
                generalize bitI zq (qk : Int) = x1 at *
                generalize bitI yq (rk : Int) = x2 at *
                generalize bitB zq (qk : Int) = b1 at *
                generalize bitB yq (rk : Int) = b2 at *
                have HA := Lib.hid HAo
                clear HAo
                by_cases hik : i = k
                · have hnk : ((i : Int) != (k : Int)) = false := by rw [hik]; simp
                  have Hs := Lib.hid (Hno.out (.inl hik))
                  clear hik HA Hno Hy
                  go_wp2
                  go_roundw
                  case rel => exact ⟨k + 1, _, by omega, by go_num, by rw [Hs.out], rfl⟩
                  case measure => simp [intOf]; omega
                · have hnk : ((i : Int) != (k : Int)) = true := by simpa using (show ¬ (i : Int) = (k : Int) by omega)
                  have Hik := Lib.hid hik
                  clear hik
                  cases b1
                  · have Hs := Lib.hid (Hno.out (.inr (by rw [HA.out]; rfl)))
                    clear HA Hno Hy
                    go_wp2
                    go_roundw
                    case rel => exact ⟨k + 1, _, by omega, by go_num, by rw [Hs.out], rfl⟩
                    case measure => simp [intOf]; omega
                  · cases b2
                    · have Hs := Lib.hid (Hno.out (.inr (by rw [HA.out]; rfl)))
                      clear HA Hno Hy
                      go_wp2
                      go_roundw
                      case rel => exact ⟨k + 1, _, by omega, by go_num, by rw [Hs.out], rfl⟩
                      case measure => simp [intOf]; omega
                    · have Hs := Lib.hid (Hy.out Hik.out (by rw [HA.out]; rfl))
                      clear HA Hno Hy
                      go_wp2_with (go_at_call 31; with_reducible refine (hpw _).mono ?_; rintro e w' ⟨rfl, rfl⟩)
                      go_roundw
                      case rel => exact ⟨k + 1, _, by omega, by go_num, by rw [Hs.out], rfl⟩
                      case measure => simp [intOf]; omega
              · have hkN : k = N := by omega
                have hltk : decide ((k : Int) < (N : Int)) = false := decide_eq_false (by omega)
                have HkN := Lib.hid hkN
                clear hkN
                have hO' : OwnS (fun j => w2.heap.size ≤ j) (w3.drewN q) w2.heap.size 3 _ ((tmL zs ys).take i) := hO
                have hB' : Below w2.heap.size w2 (w3.drewN q) := below_drewN hBr q
                clear hb1 hb2 hP1 hP2 hq1 hr1 hoz hoy hcz hcy Htm Hsn HN hgt hzb hyb hwqi hwri hnz
                have Hln := Lib.hid (show ((tmL zs ys).take i).length = i by rw [List.length_take, Htl.out]; exact Nat.min_eq_left (Nat.le_of_lt hlt))
                have zx' : w2.heap.size ≤ (w3.drewN q).heap.size := z3
                obtain ⟨row, hrow⟩ : ∃ row, tmTo zs ys n' i k = row := ⟨_, rfl⟩
                rw [hrow]
                have Hrow := Lib.hid hrow
                clear hrow
                generalize w3.drewN q = w4 at *
                clear hO hBr Htl hltN
                go_wp2_with (at_builtin; go_loud (refine wpList_append1 _ rfl (.tmp 95) (.tmp 97) _ rfl w2.heap.size 3 i0 _ 8 Try.underlying22 hi0 hz0 hz1 hz2 rfl _ ((tmL zs ys).take i).length _ rfl (hO'.2.alloc _) w4.heap.size 1 (.int .i64 row) rfl (cell_new _ _ _) rfl (by rw [Hln.out]; omega) (by rw [Hln.out]; omega) (by simp; omega) ?_); rintro v' w' hown' hg' hv')
                have zg := hg'.size
                simp at zg
                go_roundw
                case rel => exact ⟨i + 1, by omega, by go_num, by rw [Hsi.out, ← HkN.out, Hrow.out]; exact hO'.step hown' hv' (fun j e => e) (fun _ => by omega), ((((Below.toUpd hB').mono (S := fun j => w2.heap.size ≤ j) fun _ _ e => e).alloc _).grown hg' (fun j hj => .inl (hO'.1 j hj))).toBelow (fun _ e => e) (Nat.le_refl _)⟩
                case measure => simp [intOf]; omega
          · have hiN : i = N := by omega
            have hltN : decide ((i : Int) < (N : Int)) = false := decide_eq_false (by omega)
            have HiN := Lib.hid hiN
            clear hiN
            have hO' := hO
            rw [List.take_of_length_le (by rw [Htl.out, HiN.out]; exact Nat.le_refl _)] at hO'
            obtain ⟨A2, c2, hv2, hR⟩ := rowV_of_own hO'.2
            subst hv2
            go_wp2_with fail
            go_ret2
            exact ⟨A2, _, c2, by rw [Hb.out]; rfl, by rw [Ht.out]; exact hR.more zz (Nat.le_refl _), hB.trans (hBr.mono zz)⟩
      · have Hb := Lib.hid (timesB_no3 hlen.out hlen'.out (by rw [hN]; exact hnm))
        have Ht := Lib.hid (timesR_no Hb.out)
        have hgt : decide (6 < (N : Int)) = true := decide_eq_true (by omega)
        clear hN
        go_enter Try.func16, Try.ntmps16
        go_wp2_with fail
        refine (H1.out _ h hbig).mono ?_
        rw [hv]
        rintro e w1 ⟨rfl, m, hm⟩
        have hB1 : Below w.heap.size w w1 := by rw [hm]; exact below_drewN (Below.refl _ _) _
        have hx1 := h.below hB1
        have hy1 := h'.below hB1
        clear hm
        go_wp2_with fail
        refine (H2.out _ hy1 hbig').mono ?_
        rw [hv']
        rintro e w2 ⟨rfl, m2, hm2⟩
        have hB2 : Below w.heap.size w1 w2 := by rw [hm2]; exact below_drewN (Below.refl _ _) _
        have hB := hB1.trans hB2
        have zz := hB.size
        have hx := (hx1.below hB2).more zz
        have hy2 := (hy1.below hB2).more zz
        clear hm2 hB1 hB2 hx1 hy1
        go_wp2_with fail
        go_ret2
        exact ⟨none, 0, 0, by rw [Hb.out]; rfl, by rw [Ht.out]; exact RowV.nil _ _ _ _, hB⟩
end Go.Proofs.Ytbjaomhmocblbaa

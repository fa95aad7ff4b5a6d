/- CountIdeals: the model's. -/
import Derived.Test.YtidggolnhagfdaaDoorCiM
import Derived.Test.YtidggolnhagfdaaDoorListOf
import Derived.Test.YtidggolnhagfdaaDoorDual
import Derived.Test.YtidggolnhagfdaaDoorHeldIn
namespace Go.Proofs.YtidggolnhagfdaaDoor
open Go.RowKit Go.Shelf

theorem items_low_fin : ∀ s : Fin 64, s.val ≠ 0 → 0 < (itemsL (s.val : Int)).length ∧ ((itemsL (s.val : Int)).map fun x : Nat => (x : Int))[0]?.getD 0 = (low s.val : Int) := by decide +kernel

set_option maxRecDepth 100000 in
set_option maxHeartbeats 8000000 in
theorem scountIdeals_any (zs : List Int) (hvo : VoP zs) (n c q : Nat) (A : Option Addr) (hlen0 : zs.length = n) : ∀ (N s : Nat) (w : World), s ≤ N → s < 2 ^ n → Ints w w.heap.size A n zs → Arr w q 3 (du zs) →
    Calls Tryd.prog 9 #[.slice A n c, .slice (some ⟨q, 0, none⟩) n n, .int .i64 (s : Int)] w fun e w' => e = .returned (.int .i64 (ciN zs s)) ∧ Below w.heap.size w w' := by
  intro N
  refine Nat.strongRecOn N fun N ih => ?_
  intro s w hN hs hI hA
  have hlen := Lib.hid hlen0
  have hn6 : n ≤ 6 := by have := hvo.1; rw [hlen0] at this; exact this
  have hs64 : s < 64 := Nat.lt_of_lt_of_le hs (Nat.pow_le_pow_right (n := 2) (by decide) hn6)
  clear hlen0
  by_cases h0 : s = 0
  · subst h0
    have Hz := Lib.hid (ciN_zero zs)
    go_enter Tryd.func9, Tryd.ntmps9
    go_wp2
    go_ret
    exact ⟨ret_int (by rw [Hz.out]; rfl), Below.refl _ _⟩
  · have hne : ((s : Int) == 0) = false := by simpa using h0
    obtain ⟨hl6, hlb⟩ := low_fin ⟨s, hs64⟩ h0
    obtain ⟨hip, hi0⟩ := items_low_fin ⟨s, hs64⟩ h0
    obtain ⟨hrest, hple⟩ := rest_fin ⟨s, hs64⟩ h0
    simp only at hl6 hlb hip hi0 hrest hple
    have hln : low s < n := by
      rcases Nat.lt_or_ge (low s) n with e | e
      · exact e
      · rw [Nat.testBit_lt_two_pow (Nat.lt_of_lt_of_le hs (Nat.pow_le_pow_right (by decide) e))] at hlb; cases hlb
    have Hci := Lib.hid (ciN_pos (zs := zs) h0 hs64)
    have hu := lessN_lt (zs[low s]?.getD 0) h0 hs64
    have hd := lessN_lt ((du zs)[low s]?.getD 0) h0 hs64
    have hbu := ciN_64 zs (show lessN s (zs[low s]?.getD 0) < 64 by omega)
    have hbd := ciN_64 zs (show lessN s ((du zs)[low s]?.getD 0) < 64 by omega)
    have ihu := fun w' hI' hA' => ih (lessN s (zs[low s]?.getD 0)) (by omega) (lessN s (zs[low s]?.getD 0)) w' (Nat.le_refl _) (by omega) hI' hA'
    have ihd := fun w' hI' hA' => ih (lessN s ((du zs)[low s]?.getD 0)) (by omega) (lessN s ((du zs)[low s]?.getD 0)) w' (Nat.le_refl _) (by omega) hI' hA'
    have hpw := Nat.two_pow_pos (low s)
    have hzu := hvo.bd (low s) (by rw [hlen.out]; exact hln)
    have hdl : (du zs).length = n := by rw [du_len, hlen.out]
    have hzd := (du_vo hvo).bd (low s) (by rw [hdl]; exact hln)
    have hpb : powI (low s : Int) = ((2 ^ low s : Nat) : Int) := by simp [powI]
    have hp6 := powI_le6 (n := (low s : Int)) (by omega)
    have hand : bits .andNot .i64 (s : Int) (powI (low s : Int)) = ((s - 2 ^ low s : Nat) : Int) := by rw [← hrest]; exact bits_less (by omega) (by omega) (by omega) (by omega)
    have handu : bits .andNot .i64 ((s - 2 ^ low s : Nat) : Int) (zs[low s]?.getD 0) = (lessN s (zs[low s]?.getD 0) : Int) := by
      rw [bits_less (by omega) (by omega) (by omega) (by omega)]
      unfold lessN
      rw [hrest]
      have := lessI_bd ((s - 2 ^ low s : Nat) : Int) (zs[low s]?.getD 0)
      omega
    have handd : bits .andNot .i64 ((s - 2 ^ low s : Nat) : Int) ((du zs)[low s]?.getD 0) = (lessN s ((du zs)[low s]?.getD 0) : Int) := by
      rw [bits_less (by omega) (by omega) (by omega) (by omega)]
      unfold lessN
      rw [hrest]
      have := lessI_bd ((s - 2 ^ low s : Nat) : Int) ((du zs)[low s]?.getD 0)
      omega
    obtain ⟨b, off, rfl, hb, hc⟩ := hI.at_ hln
    have hcu := hc (low s) hln
    have hcd := hA.cell (k := low s) (by rw [hdl]; exact hln)
    have hql := hA.lt
    clear hc ih hrest hlb hpb
    generalize lessN s (zs[low s]?.getD 0) = u at *
    generalize lessN s ((du zs)[low s]?.getD 0) = d at *
    generalize zs[low s]?.getD 0 = zu at *
    generalize (du zs)[low s]?.getD 0 = zd at *
    generalize hr : s - 2 ^ low s = r at *
    generalize hla : low s = a at *
    clear hr hla
    obtain ⟨cu, hcu2⟩ : ∃ cu, ciN zs u = cu := ⟨_, rfl⟩
    obtain ⟨cd, hcd2⟩ : ∃ cd, ciN zs d = cd := ⟨_, rfl⟩
    rw [hcu2] at hbu Hci
    rw [hcd2] at hbd Hci
    simp only [hcu2] at ihu
    simp only [hcd2] at ihd
    clear hcu2 hcd2
    have hsum : IntKind.i64.wrap ((cu : Int) + (cd : Int)) = ((cu + cd : Nat) : Int) := by rw [IntKind.wrap_i64]; omega
    go_enter Tryd.func9, Tryd.ntmps9
    go_wp2_with fail
    refine (listOf_any (s : Int) w (by omega) (by omega)).mono ?_
    rintro e w2 ⟨A', c', rfl, hI2, hB2, -⟩
    have z2 := hB2.size
    obtain ⟨b', off', rfl, hb', hc'⟩ := hI2.at_ (k := 0) hip
    have hc0 := hc' 0 hip
    rw [hi0, Nat.add_zero] at hc0
    have hI2' := hI.to hB2 (Nat.le_refl _) z2
    have hA2 := hA.below hB2 hA.lt
    have hcu2 := (World.cell?_of_block (hB2.block b (by omega))).trans hcu
    have hcd2 := (World.cell?_of_block (hB2.block q (by omega))).trans hcd
    clear hc' hI2 hi0 hI hA hcu hcd
    go_wp2_with fail
    refine (power_any (a : Int) w2 (by omega) (by omega)).mono ?_
    rintro e w' ⟨rfl, rfl⟩
    go_wp2_with fail
    have hS0 : (fun w' => w'.cell? ⟨b, off + a, none⟩ = some (.int .i64 zu) ∧ w'.cell? ⟨q, a, none⟩ = some (.int .i64 zd)) w2.drew := ⟨hcu2, hcd2⟩
    have hI3 : Ints w2.drew w2.drew.heap.size (some ⟨b, off, none⟩) n zs := hI2'
    have hA3 : Arr w2.drew q 3 (du zs) := hA2
    have hB3 := below_drewN hB2 1
    have z3 : w2.drew.heap.size = w2.heap.size := rfl
    refine region_T (S := (fun w' => w'.cell? ⟨b, off + a, none⟩ = some (.int .i64 zu) ∧ w'.cell? ⟨q, a, none⟩ = some (.int .i64 zd))) 19 (by kernel_rfl) ?_
    obtain ⟨W3, hW3⟩ : ∃ W3, w2.drew = W3 := ⟨_, rfl⟩
    have hB3' : Below w.heap.size w W3 := hW3 ▸ hB3
    rw [hW3] at hS0 hI3 hA3 z3 ⊢
    clear hW3 hB3 hI2' hA2 hcu2 hcd2 hc0
    refine anyT_take (i := 0) (oi := ?oi0) (v := .slice (some ⟨b, off, none⟩) n c) ?hi0 (by kernel_rfl) ?hq0 ?hy0 (by assumption) ?rest0
    case hi0 => (simp only [List.getElem?_toArray, List.getElem?_cons_zero]; first | done | rfl)
    case hq0 => exact fun _ _ _ h => h
    case hy0 => (refine Or.inl ⟨by rfl, ?_⟩; intro wz hSw; obtain ⟨hSa, hSb⟩ := hSw; go_simp; first | done | with_reducible rfl | simp | omega)
    try simp only [Act.put, List.setIfInBounds_toArray, List.set_cons_zero, List.set_cons_succ]
    refine anyT_take (i := 1) (oi := ?oi1) (v := .slice (some ⟨q, 0, none⟩) n n) ?hi1 (by kernel_rfl) ?hq1 ?hy1 (by assumption) ?rest1
    case hi1 => (simp only [List.getElem?_toArray, List.getElem?_cons_succ, List.getElem?_cons_zero]; first | done | rfl)
    case hq1 => exact fun _ _ _ h => h
    case hy1 => (refine Or.inl ⟨by rfl, ?_⟩; intro wz hSw; obtain ⟨hSa, hSb⟩ := hSw; go_simp; first | done | with_reducible rfl | simp | omega)
    try simp only [Act.put, List.setIfInBounds_toArray, List.set_cons_zero, List.set_cons_succ]
    refine anyT_take (i := 2) (oi := ?oi2) (v := .int .i64 (r : Int)) ?hi2 (by kernel_rfl) ?hq2 ?hy2 (by assumption) ?rest2
    case hi2 => (simp only [List.getElem?_toArray, List.getElem?_cons_succ, List.getElem?_cons_zero]; first | done | rfl)
    case hq2 => exact fun _ _ _ h => h
    case hy2 => (refine Or.inl ⟨by rfl, ?_⟩; intro wz hSw; obtain ⟨hSa, hSb⟩ := hSw; go_simp; first | done | with_reducible rfl | simp | omega)
    try simp only [Act.put, List.setIfInBounds_toArray, List.set_cons_zero, List.set_cons_succ]
    refine anyT_take (i := 3) (oi := ?oi3) (v := .slice (some ⟨b, off, none⟩) n c) ?hi3 (by kernel_rfl) ?hq3 ?hy3 (by assumption) ?rest3
    case hi3 => (simp only [List.getElem?_toArray, List.getElem?_cons_succ, List.getElem?_cons_zero]; first | done | rfl)
    case hq3 => exact fun _ _ _ h => h
    case hy3 => (refine Or.inl ⟨by rfl, ?_⟩; intro wz hSw; obtain ⟨hSa, hSb⟩ := hSw; go_simp; first | done | with_reducible rfl | simp | omega)
    try simp only [Act.put, List.setIfInBounds_toArray, List.set_cons_zero, List.set_cons_succ]
    refine anyT_take (i := 4) (oi := ?oi4) (v := .int .i64 (a : Int)) ?hi4 (by kernel_rfl) ?hq4 ?hy4 (by assumption) ?rest4
    case hi4 => (simp only [List.getElem?_toArray, List.getElem?_cons_succ, List.getElem?_cons_zero]; first | done | rfl)
    case hq4 => exact fun _ _ _ h => h
    case hy4 => (refine Or.inl ⟨by rfl, ?_⟩; intro wz hSw; obtain ⟨hSa, hSb⟩ := hSw; go_simp; first | done | with_reducible rfl | simp | omega)
    try simp only [Act.put, List.setIfInBounds_toArray, List.set_cons_zero, List.set_cons_succ]
    refine anyT_take (i := 5) (oi := ?oi5) (v := .pointer (some ⟨b, off + a, none⟩)) ?hi5 (by kernel_rfl) ?hq5 ?hy5 (by assumption) ?rest5
    case hi5 => (simp only [List.getElem?_toArray, List.getElem?_cons_succ, List.getElem?_cons_zero]; first | done | rfl)
    case hq5 => exact fun _ _ _ h => h
    case hy5 => (refine Or.inl ⟨by rfl, ?_⟩; intro wz hSw; obtain ⟨hSa, hSb⟩ := hSw; go_simp; first | done | with_reducible rfl | simp | omega)
    try simp only [Act.put, List.setIfInBounds_toArray, List.set_cons_zero, List.set_cons_succ]
    refine anyT_take (i := 6) (oi := ?oi6) (v := .int .i64 zu) ?hi6 (by kernel_rfl) ?hq6 ?hy6 (by assumption) ?rest6
    case hi6 => (simp only [List.getElem?_toArray, List.getElem?_cons_succ, List.getElem?_cons_zero]; first | done | rfl)
    case hq6 => exact fun _ _ _ h => h
    case hy6 => (refine Or.inl ⟨by rfl, ?_⟩; intro wz hSw; obtain ⟨hSa, hSb⟩ := hSw; go_simp; first | done | with_reducible rfl | simp | omega)
    try simp only [Act.put, List.setIfInBounds_toArray, List.set_cons_zero, List.set_cons_succ]
    refine anyT_take (i := 7) (oi := ?oi7) (v := .int .i64 (u : Int)) ?hi7 (by kernel_rfl) ?hq7 ?hy7 (by assumption) ?rest7
    case hi7 => (simp only [List.getElem?_toArray, List.getElem?_cons_succ, List.getElem?_cons_zero]; first | done | rfl)
    case hq7 => exact fun _ _ _ h => h
    case hy7 => (refine Or.inl ⟨by rfl, ?_⟩; intro wz hSw; obtain ⟨hSa, hSb⟩ := hSw; go_simp; first | done | with_reducible rfl | simp | omega)
    try simp only [Act.put, List.setIfInBounds_toArray, List.set_cons_zero, List.set_cons_succ]
    refine anyT_take (i := 9) (oi := ?oi9) (v := .slice (some ⟨b, off, none⟩) n c) ?hi9 (by kernel_rfl) ?hq9 ?hy9 (by assumption) ?rest9
    case hi9 => (simp only [List.getElem?_toArray, List.getElem?_cons_succ, List.getElem?_cons_zero]; first | done | rfl)
    case hq9 => exact fun _ _ _ h => h
    case hy9 => (refine Or.inl ⟨by rfl, ?_⟩; intro wz hSw; obtain ⟨hSa, hSb⟩ := hSw; go_simp; first | done | with_reducible rfl | simp | omega)
    try simp only [Act.put, List.setIfInBounds_toArray, List.set_cons_zero, List.set_cons_succ]
    refine anyT_take (i := 10) (oi := ?oi10) (v := .slice (some ⟨q, 0, none⟩) n n) ?hi10 (by kernel_rfl) ?hq10 ?hy10 (by assumption) ?rest10
    case hi10 => (simp only [List.getElem?_toArray, List.getElem?_cons_succ, List.getElem?_cons_zero]; first | done | rfl)
    case hq10 => exact fun _ _ _ h => h
    case hy10 => (refine Or.inl ⟨by rfl, ?_⟩; intro wz hSw; obtain ⟨hSa, hSb⟩ := hSw; go_simp; first | done | with_reducible rfl | simp | omega)
    try simp only [Act.put, List.setIfInBounds_toArray, List.set_cons_zero, List.set_cons_succ]
    refine anyT_take (i := 11) (oi := ?oi11) (v := .int .i64 (r : Int)) ?hi11 (by kernel_rfl) ?hq11 ?hy11 (by assumption) ?rest11
    case hi11 => (simp only [List.getElem?_toArray, List.getElem?_cons_succ, List.getElem?_cons_zero]; first | done | rfl)
    case hq11 => exact fun _ _ _ h => h
    case hy11 => (refine Or.inl ⟨by rfl, ?_⟩; intro wz hSw; obtain ⟨hSa, hSb⟩ := hSw; go_simp; first | done | with_reducible rfl | simp | omega)
    try simp only [Act.put, List.setIfInBounds_toArray, List.set_cons_zero, List.set_cons_succ]
    refine anyT_take (i := 12) (oi := ?oi12) (v := .slice (some ⟨q, 0, none⟩) n n) ?hi12 (by kernel_rfl) ?hq12 ?hy12 (by assumption) ?rest12
    case hi12 => (simp only [List.getElem?_toArray, List.getElem?_cons_succ, List.getElem?_cons_zero]; first | done | rfl)
    case hq12 => exact fun _ _ _ h => h
    case hy12 => (refine Or.inl ⟨by rfl, ?_⟩; intro wz hSw; obtain ⟨hSa, hSb⟩ := hSw; go_simp; first | done | with_reducible rfl | simp | omega)
    try simp only [Act.put, List.setIfInBounds_toArray, List.set_cons_zero, List.set_cons_succ]
    refine anyT_take (i := 13) (oi := ?oi13) (v := .int .i64 (a : Int)) ?hi13 (by kernel_rfl) ?hq13 ?hy13 (by assumption) ?rest13
    case hi13 => (simp only [List.getElem?_toArray, List.getElem?_cons_succ, List.getElem?_cons_zero]; first | done | rfl)
    case hq13 => exact fun _ _ _ h => h
    case hy13 => (refine Or.inl ⟨by rfl, ?_⟩; intro wz hSw; obtain ⟨hSa, hSb⟩ := hSw; go_simp; first | done | with_reducible rfl | simp | omega)
    try simp only [Act.put, List.setIfInBounds_toArray, List.set_cons_zero, List.set_cons_succ]
    refine anyT_take (i := 14) (oi := ?oi14) (v := .pointer (some ⟨q, a, none⟩)) ?hi14 (by kernel_rfl) ?hq14 ?hy14 (by assumption) ?rest14
    case hi14 => (simp only [List.getElem?_toArray, List.getElem?_cons_succ, List.getElem?_cons_zero]; first | done | rfl)
    case hq14 => exact fun _ _ _ h => h
    case hy14 => (refine Or.inl ⟨by rfl, ?_⟩; intro wz hSw; obtain ⟨hSa, hSb⟩ := hSw; go_simp; first | done | with_reducible rfl | simp | omega)
    try simp only [Act.put, List.setIfInBounds_toArray, List.set_cons_zero, List.set_cons_succ]
    refine anyT_take (i := 15) (oi := ?oi15) (v := .int .i64 zd) ?hi15 (by kernel_rfl) ?hq15 ?hy15 (by assumption) ?rest15
    case hi15 => (simp only [List.getElem?_toArray, List.getElem?_cons_succ, List.getElem?_cons_zero]; first | done | rfl)
    case hq15 => exact fun _ _ _ h => h
    case hy15 => (refine Or.inl ⟨by rfl, ?_⟩; intro wz hSw; obtain ⟨hSa, hSb⟩ := hSw; go_simp; first | done | with_reducible rfl | simp | omega)
    try simp only [Act.put, List.setIfInBounds_toArray, List.set_cons_zero, List.set_cons_succ]
    refine anyT_take (i := 16) (oi := ?oi16) (v := .int .i64 (d : Int)) ?hi16 (by kernel_rfl) ?hq16 ?hy16 (by assumption) ?rest16
    case hi16 => (simp only [List.getElem?_toArray, List.getElem?_cons_succ, List.getElem?_cons_zero]; first | done | rfl)
    case hq16 => exact fun _ _ _ h => h
    case hy16 => (refine Or.inl ⟨by rfl, ?_⟩; intro wz hSw; obtain ⟨hSa, hSb⟩ := hSw; go_simp; first | done | with_reducible rfl | simp | omega)
    try simp only [Act.put, List.setIfInBounds_toArray, List.set_cons_zero, List.set_cons_succ]
    refine anyT_one (i := 8) (by kernel_rfl) rfl (fun K' hK => ?_)
    go_simp
    refine (ihu W3 hI3 hA3).mono ?_
    rintro e w4 ⟨rfl, hB4⟩
    have z4 := hB4.size
    have h4 : (fun w' => w'.cell? ⟨b, off + a, none⟩ = some (.int .i64 zu) ∧ w'.cell? ⟨q, a, none⟩ = some (.int .i64 zd)) w4 := ⟨(World.cell?_of_block (hB4.block b (by omega))).trans hS0.1, (World.cell?_of_block (hB4.block q (by omega))).trans hS0.2⟩
    have hI4 := hI3.to hB4 (Nat.le_refl _) z4
    have hA4 := hA3.below hB4 hA3.lt
    refine hK.out _ _ (fun _ => h4) ?_
    clear hS0
    clear hK K'
    have hS0 := h4
    try simp only [Act.put, List.setIfInBounds_toArray, List.set_cons_zero, List.set_cons_succ]
    refine anyT_one (i := 17) (by kernel_rfl) rfl (fun K' hK => ?_)
    go_simp
    refine (ihd w4 hI4 hA4).mono ?_
    rintro e w5 ⟨rfl, hB5⟩
    have z5 := hB5.size
    have h5 : (fun w' => w'.cell? ⟨b, off + a, none⟩ = some (.int .i64 zu) ∧ w'.cell? ⟨q, a, none⟩ = some (.int .i64 zd)) w5 := ⟨(World.cell?_of_block (hB5.block b (by omega))).trans h4.1, (World.cell?_of_block (hB5.block q (by omega))).trans h4.2⟩
    refine hK.out _ _ (fun _ => h5) ?_
    clear hS0
    clear hK K'
    have hS0 := h5
    try simp only [Act.put, List.setIfInBounds_toArray, List.set_cons_zero, List.set_cons_succ]
    refine anyT_one (i := 18) (by kernel_rfl) rfl (fun K' hK => ?_)
    go_simp
    refine hK.out _ _ (fun _ => h5) ?_
    clear hK K'
    try simp only [Act.put, List.setIfInBounds_toArray, List.set_cons_zero, List.set_cons_succ]
    refine anyT_one (i := 19) (by kernel_rfl) rfl (fun K' hK => ?_)
    go_simp
    refine hK.out _ _ (fun h => absurd rfl h) ?_
    clear hK K'
    try simp only [Act.put, List.setIfInBounds_toArray, List.set_cons_zero, List.set_cons_succ]
    refine anyT_done (by kernel_rfl) ?_ _
    go_wp2_with fail
    go_ret
    exact ⟨ret_int (by rw [Hci.out]; rfl), (hB3'.trans (hB4.mono hB3'.size)).trans (hB5.mono (by have := hB3'.size; omega))⟩

theorem specCountIdealsF_any (A : Option Addr) (n c : Nat) (zs : List Int) (w : World) (h : Ints w w.heap.size A n zs) (hbig : n ≤ 1152921504606846976) :
    Calls Tryd.prog 4 #[.slice A n c] w fun e w' => e = .returned (.int .i64 (countIdealsR zs)) ∧ Below w.heap.size w w' := by
  have hlen := Lib.hid h.len
  cases hv : vo zs
  · have Ht := Lib.hid (show countIdealsR zs = -1 by unfold countIdealsR; rw [hv]; rfl)
    go_enter Tryd.func4, Tryd.ntmps4
    go_wp2_with fail
    refine (validOrder_any _ _ _ _ zs _ h hbig).mono ?_
    rw [hv]
    rintro e w' ⟨rfl, m, rfl⟩
    go_wp2_with fail
    go_ret
    exact ⟨ret_int Ht.out.symm, below_drewN (Below.refl _ _) m⟩
  · have hvo : VoP zs := by simpa [vo] using hv
    have Hv := Lib.hid hv
    clear hv
    have hn6 : n ≤ 6 := by have := hvo.1; rw [hlen.out] at this; exact this
    have hpp := Nat.two_pow_pos n
    have Ht := Lib.hid (show countIdealsR zs = (ciN zs (2 ^ n - 1) : Int) by unfold countIdealsR; rw [Hv.out, hlen.out]; rfl)
    have Hdu := Lib.hid (show downP n (pairsL zs) = du zs by unfold du; rw [hlen.out])
    have Hall := Lib.hid (show powI n - 1 = ((2 ^ n - 1 : Nat) : Int) by
      have : powI (n : Int) = ((2 ^ n : Nat) : Int) := by simp [powI]
      omega)
    have hp64 := powI_le6 (n := (n : Int)) (by omega)
    have hpos := powI_pos (n : Int)
    go_enter Tryd.func4, Tryd.ntmps4
    go_wp2_with fail
    refine (validOrder_any _ _ _ _ zs _ h hbig).mono ?_
    rw [Hv.out]
    rintro e w' ⟨rfl, m, rfl⟩
    have i1 : Ints (w.drewN m) (w.drewN m).heap.size A n zs := h.drewN m
    have B1 : Below w.heap.size w (w.drewN m) := below_drewN (Below.refl _ _) m
    have z1 : w.heap.size ≤ (w.drewN m).heap.size := B1.size
    generalize w.drewN m = w1 at *
    go_wp2_with fail
    refine (downOf_any A n c zs w1 i1 hvo.sets).mono ?_
    rintro e w2 ⟨rfl, hA2, hB2⟩
    rw [Hdu.out] at hA2
    have z2 := hB2.size
    have i2 := i1.to hB2 (Nat.le_refl _) z2
    go_wp2_with fail
    refine (power_any (n : Int) w2 (by omega) (by omega)).mono ?_
    rintro e w' ⟨rfl, rfl⟩
    go_wp2_with fail
    rw [Hall.out]
    refine (scountIdeals_any zs hvo n c w1.heap.size A hlen.out _ (2 ^ n - 1) w2 (Nat.le_refl _) (by omega) i2 hA2).mono ?_
    rintro e w3 ⟨rfl, hB3⟩
    go_wp2_with fail
    go_ret
    exact ⟨ret_int Ht.out.symm, (B1.trans (hB2.mono z1)).trans (hB3.mono (by omega))⟩
end Go.Proofs.YtidggolnhagfdaaDoor

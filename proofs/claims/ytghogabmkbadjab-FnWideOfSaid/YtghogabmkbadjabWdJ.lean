/- WideOf: the program's, whole. -/
import Derived.Test.YtghogabmkbadjabWdI
import Derived.Test.YtghogabmkbadjabRdT
set_option linter.unusedVariables false
set_option linter.unusedSimpArgs false
namespace Go.Proofs.Ytghogabmkbadjab
open Go.RowKit Go.Shelf
attribute [local go_sem] Oper.semAt_some
attribute [local go_sem, local simp] wide_fn

set_option maxRecDepth 100000 in
set_option maxHeartbeats 4000000 in
theorem leastWidth_any (b n c : Nat) (zs : List Int) (hvo : VoP zs) (hlen0 : zs.length = n) (w : World) (hA : Arr w b 76 zs) :
    Calls Try.prog 106 #[.slice (some ⟨b, 0, none⟩) n c] w fun e w' => e = .returned (.int .i64 (wdMin zs n (alL zs))) ∧ Below w.heap.size w w' := by
  have hlen := Lib.hid hlen0
  have hn6 : n ≤ 6 := by have := hvo.1; rw [hlen.out] at this; exact this
  clear hlen0
  refine (callsIn_wide (n := 9)).1 ?_
  refine callsIn_of_wp_marks Try.func106 rfl trivial ?_ rfl
  simp only [Try.ntmps106, List.size_toArray, List.length_cons, List.length_nil, Nat.reduceAdd, Nat.reduceSub, Array.replicate_succ, Array.replicate_zero, List.push_toArray, List.append_toArray, List.nil_append, List.cons_append]
  gi_wp2_with (gi_at_call 102; refine (callsIn_wide.2 (lines_any _ _ _ _)).mono ?_; rintro e w' ⟨rfl, rfl⟩)
  have bO := ((Boxed.new w 49 (.slice (some ⟨b, 0, none⟩) n c)).alloc (.cells #[Value.int .i64 (n : Int)] 3)).alloc (.cells #[Value.slice (some ⟨b, 0, none⟩) n c] 49)
  have bW := (Boxed.new (w.alloc (.cells #[Value.slice (some ⟨b, 0, none⟩) n c] 49)) 3 (.int .i64 (n : Int))).alloc (.cells #[Value.slice (some ⟨b, 0, none⟩) n c] 49)
  have bP := Boxed.new ((w.alloc (.cells #[Value.slice (some ⟨b, 0, none⟩) n c] 49)).alloc (.cells #[Value.int .i64 (n : Int)] 3)) 49 (.slice (some ⟨b, 0, none⟩) n c)
  have hu0 : Upd (fun _ => False) w (((w.alloc (.cells #[Value.slice (some ⟨b, 0, none⟩) n c] 49)).alloc (.cells #[Value.int .i64 (n : Int)] 3)).alloc (.cells #[Value.slice (some ⟨b, 0, none⟩) n c] 49)) := (((Upd.refl _ w).alloc _).alloc _).alloc _
  have hz0' : (((w.alloc (.cells #[Value.slice (some ⟨b, 0, none⟩) n c] 49)).alloc (.cells #[Value.int .i64 (n : Int)] 3)).alloc (.cells #[Value.slice (some ⟨b, 0, none⟩) n c] 49)).heap.size = w.heap.size + 3 := by simp
  simp only [World.size_alloc] at bO bW bP
  obtain ⟨W0, hW0⟩ : ∃ W0, (((w.alloc (.cells #[Value.slice (some ⟨b, 0, none⟩) n c] 49)).alloc (.cells #[Value.int .i64 (n : Int)] 3)).alloc (.cells #[Value.slice (some ⟨b, 0, none⟩) n c] 49)) = W0 := ⟨_, rfl⟩
  rw [hW0] at bO bW bP hu0 hz0' ⊢
  clear hW0
  have hA0 := hA.upd hu0 (fun e => e)
  have hbl := hA.lt
  refine range_outG (n := 9) (gf := 141) (lb := #[.pointer (some ⟨w.heap.size + 1 + 1, 0, none⟩)]) rfl (enters_of Try.func141 (by kernel_rfl) rfl) (encs := lnEnc) (own := lnOwn) (Has := lnHas) ln_firm (Ok := lnUp zs) (Full := lnFull zs)
    (fun k => k = w.heap.size + 1) (fun k e => by omega) (fun _ => rfl)
    (fun W1 l1 hu1 hl1 hl2 => lines_iter zs hvo b n c hlen.out _ _ W1 (hu1.boxed bP (fun e => e)) (hA0.upd hu1 (fun e => e)) (fun k e => by have := hu1.size; omega))
    (fun pre D W => Boxed W (w.heap.size + 1) 3 (.int .i64 (wdMin zs n (pre.map Prod.fst))) ∧ Upd (fun k => k = w.heap.size + 1) W0 W)
    (fun _ _ _ _ => False)
    (fun _ D X Y hs hu => ⟨hu.boxed hs.1 (fun e => by omega), hs.2.trans' hu (fun i hi e => by omega)⟩)
    (fun _ _ _ _ _ hs _ => hs)
    ⟨bW, Upd.refl _ _⟩ ?owes ?done ?stop
  case owes =>
    rintro l1 pre ⟨ls, v⟩ D1 W hl1 hl2 hDl hOl hD1 hO1 - hx0 hpre K hK
    obtain ⟨A', c', hv, -⟩ := lnHas_slice hx0
    simp only at hv
    subst hv
    have hlm : ls ∈ alL zs := by
      have h1 : ls ∈ (pre ++ [(ls, Value.slice A' ls.length c')]).map Prod.fst := by simp
      exact (show (pre ++ [(ls, Value.slice A' ls.length c')]).map Prod.fst <+: alL zs from hpre).subset h1
    have hprl : ∀ l ∈ pre.map Prod.fst, l.length ≤ 6 := fun l hl => by
      have h1 : l ∈ (pre ++ [(ls, Value.slice A' ls.length c')]).map Prod.fst := by rw [List.map_append]; exact List.mem_append_left _ hl
      have h2 := alL_rows l ((show (pre ++ [(ls, Value.slice A' ls.length c')]).map Prod.fst <+: alL zs from hpre).subset h1)
      rw [hlen.out] at h2
      omega
    have hll : ls.length = n := by rw [alL_rows ls hlm, hlen.out]
    subst hll
    gi_wp2
    refine hK _ _ (Upd.refl _ _) ?_
    rintro Wb hWb - ⟨bW1, hU⟩ hx2
    clear hK
    obtain ⟨A2, c2, hv2, hI2⟩ := lnHas_slice hx2
    cases hv2
    have hsb := hU.size
    have hszb := hWb.size
    have bO1 := hU.boxed bO (by omega)
    have hAb := hA0.upd hU (by omega)
    have Hs := Lib.hid (show wdMin zs ls.length ((pre ++ [(ls, Value.slice A' ls.length c')]).map Prod.fst) = min (wdMin zs ls.length (pre.map Prod.fst)) (wdL zs ls) by rw [List.map_append]; exact wdMin_snoc _ _ _ _)
    have hb1 := wdMin_bd zs (pre.map Prod.fst) ls.length hprl (by omega) (by omega)
    have hb2 := wdF_bd ls hn6 (covTo zs zs.length)
    have hb3 : 0 ≤ wdL zs ls ∧ wdL zs ls ≤ 6 := hb2
    have fin : ∀ (W4 : World), Boxed W4 (w.heap.size + 1) 3 (.int .i64 (wdMin zs ls.length (pre.map Prod.fst))) → Below Wb.heap.size Wb W4 → ∀ r : Int, r = min (wdMin zs ls.length (pre.map Prod.fst)) (wdL zs ls) → roundEnd (fun k => k = w.heap.size + 1) (fun pre D W => Boxed W (w.heap.size + 1) 3 (.int .i64 (wdMin zs ls.length (pre.map Prod.fst))) ∧ Upd (fun k => k = w.heap.size + 1) W0 W) (fun _ _ _ _ => False) (pre ++ [(ls, Value.slice A' ls.length c')]) (fun k => D1 k ∨ lnOwn (ls, Value.slice A' ls.length c') k) W.heap.size Wb .normal { tmps := #[], defers := [] } (W4.setCell ⟨w.heap.size + 1, 0, none⟩ (.int .i64 r)) := fun W4 b4 hB4 r hr => by
      have z4 := hB4.size
      have hus : Upd (fun k => k = w.heap.size + 1) W4 (W4.setCell ⟨w.heap.size + 1, 0, none⟩ (.int .i64 r)) := (Upd.refl (fun k => k = w.heap.size + 1) W4).setCell (p := ⟨w.heap.size + 1, 0, none⟩) (.inr rfl) _
      exact ⟨D1, ⟨by rw [Hs.out, ← hr]; exact b4.set _, (hU.below hB4 (fun k h1 h2 => by omega)).trans' hus (fun i hi e => e)⟩, ((Below.toUpd hB4).mono (S := fun k => k = w.heap.size + 1 ∨ (D1 k ∨ lnOwn (ls, Value.slice A' ls.length c') k) ∨ W.heap.size ≤ k) fun k _ e => .inr (.inr (by omega))).trans' hus (fun i hi e => .inl e), fun k hk => .inl (.inl hk)⟩
    have Hfin := Lib.hid fin
    clear fin hU hb2
    generalize wdMin zs ls.length (pre.map Prod.fst) = q at *
    have hwd := width_any b ls.length c zs hvo A' c' ls
    generalize wdL zs ls = r at *
    rcases Int.lt_or_le r q with hq | hq
    · gi_wp2
      refine region_T_round (S := (fun w' : World => w'.cell? ⟨w.heap.size + 1, 0, none⟩ = some (.int .i64 q) ∧ w'.cell? ⟨w.heap.size, 0, none⟩ = some (.slice (some ⟨b, 0, none⟩) ls.length c))) 5 (by kernel_rfl) (by kernel_rfl) (by rintro ⟨_, _, h⟩; exact h) ?_
      obtain ⟨Wd, hWd⟩ : ∃ Wd, Wb.drew = Wd := ⟨_, rfl⟩
      have hbd : Upd (fun _ => False) Wb Wd := by rw [← hWd]; exact (Upd.refl _ Wb).drew
      rw [hWd]
      clear hWd
      have hBd := hbd.toBelow (B := Wb.heap.size) (fun _ e => e.elim) (Nat.le_refl _)
      have zd := hBd.size
      have bWd := hbd.boxed bW1 (fun e => e)
      have bOd := hbd.boxed bO1 (fun e => e)
      have hAd := hAb.upd hbd (fun e => e)
      have hId : Ints Wd Wd.heap.size A' ls.length ls := hI2.to hBd (Nat.le_refl _) zd
      have hSd : (fun w' : World => w'.cell? ⟨w.heap.size + 1, 0, none⟩ = some (.int .i64 q) ∧ w'.cell? ⟨w.heap.size, 0, none⟩ = some (.slice (some ⟨b, 0, none⟩) ls.length c)) Wd := ⟨bWd.cell, bOd.cell⟩
      refine anyT_take (i := 0) (oi := ?oi0a) (v := .int .i64 q) ?hi0a (by kernel_rfl) ?hq0a ?hy0a (by assumption) ?rest0a
      case hi0a => (simp only [List.getElem?_toArray, List.getElem?_cons_zero]; first | done | rfl)
      case hq0a => first | exact fun _ _ _ h => h | exact fun _ _ _ h => (by cases h.1)
      case hy0a => (refine Or.inl ⟨by rfl, ?_⟩; intro wz hSw; obtain ⟨hS1, hS2⟩ := hSw; go_simp; first | done | with_reducible rfl | simp | omega)
      try simp only [Act.put, List.setIfInBounds_toArray, List.set_cons_zero, List.set_cons_succ]
      refine anyT_take (i := 1) (oi := ?oi1a) (v := .slice (some ⟨b, 0, none⟩) ls.length c) ?hi1a (by kernel_rfl) ?hq1a ?hy1a (by assumption) ?rest1a
      case hi1a => (simp only [List.getElem?_toArray, List.getElem?_cons_succ, List.getElem?_cons_zero]; first | done | rfl)
      case hq1a => first | exact fun _ _ _ h => h | exact fun _ _ _ h => (by cases h.1)
      case hy1a => (refine Or.inl ⟨by rfl, ?_⟩; intro wz hSw; obtain ⟨hS1, hS2⟩ := hSw; go_simp; first | done | with_reducible rfl | simp | omega)
      try simp only [Act.put, List.setIfInBounds_toArray, List.set_cons_zero, List.set_cons_succ]
      refine anyT_take (i := 2) (oi := ?oi2a) (v := .slice A' ls.length c') ?hi2a (by kernel_rfl) ?hq2a ?hy2a (by assumption) ?rest2a
      case hi2a => (simp only [List.getElem?_toArray, List.getElem?_cons_succ, List.getElem?_cons_zero]; first | done | rfl)
      case hq2a => first | exact fun _ _ _ h => h | exact fun _ _ _ h => (by cases h.1)
      case hy2a => (refine Or.inl ⟨by rfl, ?_⟩; intro wz hSw; obtain ⟨hS1, hS2⟩ := hSw; go_simp; first | done | with_reducible rfl | simp | omega)
      try simp only [Act.put, List.setIfInBounds_toArray, List.set_cons_zero, List.set_cons_succ]
      refine anyT_one (i := 3) (by kernel_rfl) rfl (fun K' hK => ?_)
      go_simp
      refine (hwd Wd (hAd.ints' hAd.lt hlen.out) hId).mono ?_
      rintro e W3 ⟨rfl, hB3⟩
      have z3 := hB3.size
      have bW3 := (Below.toUpd hB3).boxed bWd (fun e => by omega)
      have bO3 := (Below.toUpd hB3).boxed bOd (fun e => by omega)
      have hS3 : (fun w' : World => w'.cell? ⟨w.heap.size + 1, 0, none⟩ = some (.int .i64 q) ∧ w'.cell? ⟨w.heap.size, 0, none⟩ = some (.slice (some ⟨b, 0, none⟩) ls.length c)) W3 := ⟨bW3.cell, bO3.cell⟩
      refine hK.out _ _ (fun _ => hS3) ?_
      clear hK K'
      try simp only [Act.put, List.setIfInBounds_toArray, List.set_cons_zero, List.set_cons_succ]
      refine anyT_one (i := 4) (by kernel_rfl) rfl (fun K' hK => ?_)
      go_simp
      refine hK.out _ _ (fun _ => hS3) ?_
      clear hK K'
      try simp only [Act.put, List.setIfInBounds_toArray, List.set_cons_zero, List.set_cons_succ]
      have hcW3 := bW3.cell
      have hfW3 := bW3.frozen
      refine anyT_one (i := 5) (by kernel_rfl) rfl (fun K' hK => ?_)
      go_simp
      refine hK.out _ _ (fun h => absurd rfl h) ?_
      clear hK K'
      try simp only [Act.put, List.setIfInBounds_toArray, List.set_cons_zero, List.set_cons_succ]
      refine anyT_done (by kernel_rfl) ?_ _
      gi_wp2
      exact Hfin.out _ bW3 (hBd.trans (hB3.mono zd)) _ (by omega)
    · gi_wp2
      refine region_T_round (S := (fun w' : World => w'.cell? ⟨w.heap.size + 1, 0, none⟩ = some (.int .i64 q) ∧ w'.cell? ⟨w.heap.size, 0, none⟩ = some (.slice (some ⟨b, 0, none⟩) ls.length c))) 5 (by kernel_rfl) (by kernel_rfl) (by rintro ⟨_, _, h⟩; exact h) ?_
      obtain ⟨Wd, hWd⟩ : ∃ Wd, Wb.drew = Wd := ⟨_, rfl⟩
      have hbd : Upd (fun _ => False) Wb Wd := by rw [← hWd]; exact (Upd.refl _ Wb).drew
      rw [hWd]
      clear hWd
      have hBd := hbd.toBelow (B := Wb.heap.size) (fun _ e => e.elim) (Nat.le_refl _)
      have zd := hBd.size
      have bWd := hbd.boxed bW1 (fun e => e)
      have bOd := hbd.boxed bO1 (fun e => e)
      have hAd := hAb.upd hbd (fun e => e)
      have hId : Ints Wd Wd.heap.size A' ls.length ls := hI2.to hBd (Nat.le_refl _) zd
      have hSd : (fun w' : World => w'.cell? ⟨w.heap.size + 1, 0, none⟩ = some (.int .i64 q) ∧ w'.cell? ⟨w.heap.size, 0, none⟩ = some (.slice (some ⟨b, 0, none⟩) ls.length c)) Wd := ⟨bWd.cell, bOd.cell⟩
      refine anyT_take (i := 0) (oi := ?oi0b) (v := .int .i64 q) ?hi0b (by kernel_rfl) ?hq0b ?hy0b (by assumption) ?rest0b
      case hi0b => (simp only [List.getElem?_toArray, List.getElem?_cons_zero]; first | done | rfl)
      case hq0b => first | exact fun _ _ _ h => h | exact fun _ _ _ h => (by cases h.1)
      case hy0b => (refine Or.inl ⟨by rfl, ?_⟩; intro wz hSw; obtain ⟨hS1, hS2⟩ := hSw; go_simp; first | done | with_reducible rfl | simp | omega)
      try simp only [Act.put, List.setIfInBounds_toArray, List.set_cons_zero, List.set_cons_succ]
      refine anyT_take (i := 1) (oi := ?oi1b) (v := .slice (some ⟨b, 0, none⟩) ls.length c) ?hi1b (by kernel_rfl) ?hq1b ?hy1b (by assumption) ?rest1b
      case hi1b => (simp only [List.getElem?_toArray, List.getElem?_cons_succ, List.getElem?_cons_zero]; first | done | rfl)
      case hq1b => first | exact fun _ _ _ h => h | exact fun _ _ _ h => (by cases h.1)
      case hy1b => (refine Or.inl ⟨by rfl, ?_⟩; intro wz hSw; obtain ⟨hS1, hS2⟩ := hSw; go_simp; first | done | with_reducible rfl | simp | omega)
      try simp only [Act.put, List.setIfInBounds_toArray, List.set_cons_zero, List.set_cons_succ]
      refine anyT_take (i := 2) (oi := ?oi2b) (v := .slice A' ls.length c') ?hi2b (by kernel_rfl) ?hq2b ?hy2b (by assumption) ?rest2b
      case hi2b => (simp only [List.getElem?_toArray, List.getElem?_cons_succ, List.getElem?_cons_zero]; first | done | rfl)
      case hq2b => first | exact fun _ _ _ h => h | exact fun _ _ _ h => (by cases h.1)
      case hy2b => (refine Or.inl ⟨by rfl, ?_⟩; intro wz hSw; obtain ⟨hS1, hS2⟩ := hSw; go_simp; first | done | with_reducible rfl | simp | omega)
      try simp only [Act.put, List.setIfInBounds_toArray, List.set_cons_zero, List.set_cons_succ]
      refine anyT_one (i := 3) (by kernel_rfl) rfl (fun K' hK => ?_)
      go_simp
      refine (hwd Wd (hAd.ints' hAd.lt hlen.out) hId).mono ?_
      rintro e W3 ⟨rfl, hB3⟩
      have z3 := hB3.size
      have bW3 := (Below.toUpd hB3).boxed bWd (fun e => by omega)
      have bO3 := (Below.toUpd hB3).boxed bOd (fun e => by omega)
      have hS3 : (fun w' : World => w'.cell? ⟨w.heap.size + 1, 0, none⟩ = some (.int .i64 q) ∧ w'.cell? ⟨w.heap.size, 0, none⟩ = some (.slice (some ⟨b, 0, none⟩) ls.length c)) W3 := ⟨bW3.cell, bO3.cell⟩
      refine hK.out _ _ (fun _ => hS3) ?_
      clear hK K'
      try simp only [Act.put, List.setIfInBounds_toArray, List.set_cons_zero, List.set_cons_succ]
      refine anyT_one (i := 4) (by kernel_rfl) rfl (fun K' hK => ?_)
      go_simp
      refine hK.out _ _ (fun _ => hS3) ?_
      clear hK K'
      try simp only [Act.put, List.setIfInBounds_toArray, List.set_cons_zero, List.set_cons_succ]
      have hcW3 := bW3.cell
      have hfW3 := bW3.frozen
      refine anyT_one (i := 5) (by kernel_rfl) rfl (fun K' hK => ?_)
      go_simp
      refine hK.out _ _ (fun h => absurd rfl h) ?_
      clear hK K'
      try simp only [Act.put, List.setIfInBounds_toArray, List.set_cons_zero, List.set_cons_succ]
      refine anyT_done (by kernel_rfl) ?_ _
      gi_wp2
      exact Hfin.out _ bW3 (hBd.trans (hB3.mono zd)) _ (by omega)
  case done =>
    rintro d D1 L W hd hF ⟨bW1, hU⟩ hD1 hKd
    rw [show L.map Prod.fst = alL zs from hF] at bW1
    have hcW := bW1.cell
    gi_wp2
    refine leaves_marks [d] _ ⟨by simp, fun b hb => ?_⟩ (fun W' hu' => ?_)
    · rw [List.mem_singleton.1 hb]
      exact hKd
    · exact ⟨_, by simp [results, Try.f106, go_sem], rfl,
        (((hu0.mono fun _ _ e => e.elim).trans' hU (fun i hi e => by omega)).trans' hu' (fun i hi e => by simp at e; omega)).toBelow (R := fun _ => False) (fun _ e => e.elim) (Nat.le_refl _)⟩
  case stop =>
    rintro d D1 co pre W hd hpre h
    exact h.elim

set_option maxHeartbeats 1000000 in
theorem WideOf_any (A : Option Addr) (n c : Nat) (zs : List Int) (w : World) (h : Ints w w.heap.size A n zs) (hbig : n ≤ 1152921504606846976) :
    Calls Try.prog 53 #[.slice A n c] w fun e w' => e = .returned (.int .i64 (wideOfR zs)) ∧ Below w.heap.size w w' := by
  have hlen := Lib.hid h.len
  go_enter Try.func53, Try.ntmps53
  go_wp2_with fail
  refine (readTried_any _ _ _ zs _ h hbig).mono ?_
  rintro e w1 ⟨hB, (⟨hv, b, rfl, hb, hAr⟩ | ⟨hv, rfl⟩)⟩
  · obtain ⟨hvo, h5⟩ := triB_vo hv
    rw [hlen.out] at h5
    have Ht := Lib.hid (show wideOfR zs = wdMin zs n (alL zs) by unfold wideOfR; rw [vo_true hvo, hlen.out]; simp [h5])
    clear hv
    go_wp2_with fail
    refine (leastWidth_any b n n zs hvo hlen.out w1 hAr).mono ?_
    rintro e w2 ⟨rfl, hB2⟩
    go_wp2_with fail
    go_ret
    exact ⟨ret_int Ht.out.symm, hB.trans (hB2.mono hB.size)⟩
  · have Ht := Lib.hid (show wideOfR zs = -1 by unfold wideOfR; unfold triB at hv; rw [hv]; rfl)
    clear hv
    go_wp2_with fail
    go_ret
    exact ⟨ret_int Ht.out.symm, hB⟩
end Go.Proofs.Ytghogabmkbadjab

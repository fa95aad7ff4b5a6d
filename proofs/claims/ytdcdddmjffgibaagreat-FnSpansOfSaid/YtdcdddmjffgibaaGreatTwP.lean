/- Two pairs apart, three items and one apart: the program's, whole. -/
import Derived.Test.YtdcdddmjffgibaaGreatTwI
import Derived.Test.YtdcdddmjffgibaaGreatGa
set_option linter.unusedVariables false
set_option linter.unusedSimpArgs false
namespace Go.Proofs.YtdcdddmjffgibaaGreat
open Go.RowKit Go.Shelf
attribute [local go_sem] Oper.semAt_some
attribute [local go_sem, local simp] wide_fn

def prAny (zs : List Int) (l : List (Nat × Nat)) : Bool := l.any (tstPr zs)
def seAny (zs : List Int) (l : List Nat) : Bool := l.any (tstSet zs)
theorem any_snoc {α : Type} {p : α → Bool} {l : List α} {x : α} (h : l.any p = false) (hx : p x = false) : (l ++ [x]).any p = false := by rw [List.any_append, h]; simp [hx]
theorem any_of_pre {α : Type} {p : α → Bool} {l m : List α} {x : α} (h : l ++ [x] <+: m) (hx : p x = true) : m.any p = true := by
  obtain ⟨t, rfl⟩ := h
  simp [hx]

set_option maxRecDepth 100000 in
set_option maxHeartbeats 4000000 in
theorem ohasTwo_any (A : Option Addr) (n c : Nat) (zs : List Int) (hvo : VoP zs) (w : World) (hA : Ints w w.heap.size A n zs) :
    Calls Tryz.prog 21 #[.slice A n c] w fun e W' => e = .returned (.bool (twoB zs)) ∧ Below w.heap.size w W' := by
  have hv := hvo.sets
  have hlen := Lib.hid hA.len
  have hn6 : n ≤ 6 := by have := hv.1; rw [hlen.out] at this; exact this
  have hpk : powI n ≤ 64 := powI_le6 (by omega)
  have HE := Lib.hid (show prAny zs (pairsL zs) = twoB zs from two_pairs hvo)
  refine (callsIn_wide (n := 9)).1 ?_
  refine callsIn_of_wp_marks Tryz.func21 rfl trivial ?_ rfl
  simp only [Tryz.ntmps21, List.size_toArray, List.length_cons, List.length_nil, Nat.reduceAdd, Nat.reduceSub, Array.replicate_succ, Array.replicate_zero, List.push_toArray, List.append_toArray, List.nil_append, List.cons_append]
  gi_wp2_with (gi_at_call 42; refine (callsIn_wide.2 (pairs_any _ _ _ _)).mono ?_; rintro e w' ⟨rfl, rfl⟩)
  have bO := ((Boxed.new w 40 (.slice A n c)).alloc (.cells #[Value.bool false] 4)).alloc (.cells #[Value.slice A n c] 40)
  have bR := (Boxed.new (w.alloc (.cells #[Value.slice A n c] 40)) 4 (.bool false)).alloc (.cells #[Value.slice A n c] 40)
  have bP := Boxed.new ((w.alloc (.cells #[Value.slice A n c] 40)).alloc (.cells #[Value.bool false] 4)) 40 (.slice A n c)
  have hu0 : Upd (fun _ => False) w (((w.alloc (.cells #[Value.slice A n c] 40)).alloc (.cells #[Value.bool false] 4)).alloc (.cells #[Value.slice A n c] 40)) := (((Upd.refl _ w).alloc _).alloc _).alloc _
  have hz0 : (((w.alloc (.cells #[Value.slice A n c] 40)).alloc (.cells #[Value.bool false] 4)).alloc (.cells #[Value.slice A n c] 40)).heap.size = w.heap.size + 3 := by simp
  simp only [World.size_alloc] at bR bP
  obtain ⟨W0, hW0⟩ : ∃ W0, (((w.alloc (.cells #[Value.slice A n c] 40)).alloc (.cells #[Value.bool false] 4)).alloc (.cells #[Value.slice A n c] 40)) = W0 := ⟨_, rfl⟩
  rw [hW0] at bO bR bP hu0 hz0 ⊢
  clear hW0
  have hA0 : Ints W0 w.heap.size A n zs := hA.below (hu0.toBelow (fun _ e => e.elim) (Nat.le_refl _))
  refine range_out (n := 9) (gf := 62) (lb := #[.pointer (some ⟨w.heap.size + 1 + 1, 0, none⟩)]) rfl (enters_of Tryz.func62 (by kernel_rfl) rfl) (encs := encP) (L := pairsL zs)
    (fun k => k = w.heap.size + 1) (fun k e => by omega) (fun _ => rfl)
    (fun W1 l1 hu1 hl1 hl2 => pairs_iter_at hv bP (fun k e => by omega) (by omega) hA0 (by omega) (fun k e => by omega) hu1 hl1 hl2)
    (fun pre D W => prAny zs pre = false ∧ Boxed W (w.heap.size + 1) 4 (.bool false) ∧ Upd (fun k => k = w.heap.size + 1) W0 W)
    (fun co pre D W => co = .ret ∧ prAny zs (pairsL zs) = true ∧ Boxed W (w.heap.size + 1) 4 (.bool true) ∧ Upd (fun k => k = w.heap.size + 1) W0 W)
    (fun s D X Y hs hu => ⟨hs.1, hu.boxed hs.2.1 (fun e => by omega), hs.2.2.trans' hu (fun i hi e => by omega)⟩)
    (fun co s D X Y hs hu => ⟨hs.1, hs.2.1, hu.boxed hs.2.2.1 (fun e => by omega), hs.2.2.2.trans' hu (fun i hi e => by omega)⟩)
    ⟨rfl, bR, Upd.refl _ _⟩ ?owes ?done ?stop
  case owes =>
    rintro l1 pre ⟨lo, hi⟩ D1 W hl1 hl2 hDl hD1 - hpre K hK
    gi_wp2
    refine hK _ _ (Upd.refl _ _) ?_
    rintro Wb hWb - ⟨hno, bR1, hU⟩
    clear hK
    obtain ⟨hlo, hhi, hbit⟩ := hv.pair (a := lo) (b := hi) (hpre.subset (by simp))
    rw [hlen.out] at hlo hhi
    have hszb := hWb.size
    have hsb := hU.size
    have hpl := powI_lt hlo
    have hph := powI_lt hhi
    have hpl0 := powI_pos (lo : Int)
    have hph0 := powI_pos (hi : Int)
    have hpr := prI_bd hlo hhi
    have hul := unrL_bd (zs := zs) (itemsL (prI lo hi))
    rw [hlen.out] at hul
    have hol0 : 0 ≤ orI 0 (powI (lo : Int)) ∧ orI 0 (powI (lo : Int)) < powI n := orI_bd (by omega) (by omega) (by omega) hpl
    have hw1 := fun w => with_any 0 (lo : Int) w (by omega) (by omega) (by omega) (by omega)
    have hw2 := fun w => with_any (orI 0 (powI (lo : Int))) (hi : Int) w (by omega) (by omega) (by omega) (by omega)
    rw [show orI (orI 0 (powI (lo : Int))) (powI (hi : Int)) = prI lo hi from rfl] at hw2
    have hc1 := fun w hA => ounrelatedToAll_any A n c zs (prI lo hi) hvo w hA hpr.1 hpr.2
    have hc2 := fun w hA => isApart_any A n c zs (unrL zs (itemsL (prI lo hi))) hv w hA hul.1 hul.2
    have Ht := Lib.hid (show tstPr zs (lo, hi) = !apB zs (unrL zs (itemsL (prI lo hi))) from rfl)
    generalize unrL zs (itemsL (prI lo hi)) = ul at *
    generalize prI lo hi = pr at *
    generalize orI 0 (powI (lo : Int)) = ol at *
    have bVd : Boxed Wb.drew w.heap.size 40 (.slice A n c) := hU.boxed bO (by omega)
    have bRd : Boxed Wb.drew (w.heap.size + 1) 4 (.bool false) := bR1
    have hAd : Ints Wb.drew Wb.drew.heap.size A n zs := (hA0.keep (fun p hp => World.cell?_of_block (hU.block p.block (by omega) (by omega)))).more (by show w.heap.size ≤ Wb.heap.size; omega)
    have hWd : Upd (fun _ => False) Wb Wb.drew := (Upd.refl _ Wb).drew
    have hUd : Upd (fun k => k = w.heap.size + 1) W0 Wb.drew := hU.drew
    clear bR1
    gi_wp2
    refine region_T_round (S := (fun w' => w'.cell? ⟨w.heap.size, 0, none⟩ = some (.slice A n c))) 8 (by kernel_rfl) (by kernel_rfl) (by rintro ⟨_, _, h⟩; exact h) ?_
    obtain ⟨Wd, hWd2⟩ : ∃ Wd, Wb.drew = Wd := ⟨_, rfl⟩
    rw [hWd2] at bVd bRd hAd hWd hUd ⊢
    clear hWd2
    have hSd : (fun w' => w'.cell? ⟨w.heap.size, 0, none⟩ = some (.slice A n c)) Wd := bVd.cell
    refine anyT_take (i := 0) (oi := ?oi0a) (v := .slice A n c) ?hi0a (by kernel_rfl) ?hq0a ?hy0a (by assumption) ?rest0a
    case hi0a => (simp only [List.getElem?_toArray, List.getElem?_cons_zero]; first | done | rfl)
    case hq0a => first | exact fun _ _ _ h => h | exact fun _ _ _ h => (by cases h.1)
    case hy0a => (refine Or.inl ⟨by rfl, ?_⟩; intro wz hSw; obtain hS1 := hSw; go_simp; first | done | with_reducible rfl | simp | omega)
    try simp only [Act.put, List.setIfInBounds_toArray, List.set_cons_zero, List.set_cons_succ]
    refine anyT_take (i := 1) (oi := ?oi1a) (v := .slice A n c) ?hi1a (by kernel_rfl) ?hq1a ?hy1a (by assumption) ?rest1a
    case hi1a => (simp only [List.getElem?_toArray, List.getElem?_cons_succ, List.getElem?_cons_zero]; first | done | rfl)
    case hq1a => first | exact fun _ _ _ h => h | exact fun _ _ _ h => (by cases h.1)
    case hy1a => (refine Or.inl ⟨by rfl, ?_⟩; intro wz hSw; obtain hS1 := hSw; go_simp; first | done | with_reducible rfl | simp | omega)
    try simp only [Act.put, List.setIfInBounds_toArray, List.set_cons_zero, List.set_cons_succ]
    refine anyT_take (i := 2) (oi := ?oi2a) (v := .int .i64 (lo : Int)) ?hi2a (by kernel_rfl) ?hq2a ?hy2a (by assumption) ?rest2a
    case hi2a => (simp only [List.getElem?_toArray, List.getElem?_cons_succ, List.getElem?_cons_zero]; first | done | rfl)
    case hq2a => first | exact fun _ _ _ h => h | exact fun _ _ _ h => (by cases h.1)
    case hy2a => (refine Or.inl ⟨by rfl, ?_⟩; intro wz hSw; go_simp; first | done | with_reducible rfl | simp | omega)
    try simp only [Act.put, List.setIfInBounds_toArray, List.set_cons_zero, List.set_cons_succ]
    refine anyT_take (i := 4) (oi := ?oi4a) (v := .int .i64 (hi : Int)) ?hi4a (by kernel_rfl) ?hq4a ?hy4a (by assumption) ?rest4a
    case hi4a => (simp only [List.getElem?_toArray, List.getElem?_cons_succ, List.getElem?_cons_zero]; first | done | rfl)
    case hq4a => first | exact fun _ _ _ h => h | exact fun _ _ _ h => (by cases h.1)
    case hy4a => (refine Or.inl ⟨by rfl, ?_⟩; intro wz hSw; go_simp; first | done | with_reducible rfl | simp | omega)
    try simp only [Act.put, List.setIfInBounds_toArray, List.set_cons_zero, List.set_cons_succ]
    refine anyT_one (i := 3) (by kernel_rfl) rfl (fun K' hK => ?_)
    go_simp
    refine (hw1 _).mono ?_
    rintro e w' ⟨rfl, rfl⟩
    refine hK.out _ _ (fun _ => hSd) ?_
    clear hK K'
    try simp only [Act.put, List.setIfInBounds_toArray, List.set_cons_zero, List.set_cons_succ]
    refine anyT_one (i := 5) (by kernel_rfl) rfl (fun K' hK => ?_)
    go_simp
    refine (hw2 _).mono ?_
    rintro e w' ⟨rfl, rfl⟩
    refine hK.out _ _ (fun _ => hSd) ?_
    clear hK K'
    try simp only [Act.put, List.setIfInBounds_toArray, List.set_cons_zero, List.set_cons_succ]
    refine anyT_one (i := 6) (by kernel_rfl) rfl (fun K' hK => ?_)
    go_simp
    refine (hc1 Wd hAd).mono ?_
    rintro e W2 ⟨rfl, hB2⟩
    have hzd := hWd.size
    have hU2 : Upd (fun k => k = w.heap.size + 1) W0 W2 := hUd.below hB2 (fun k h1 h2 => by omega)
    have bV2 : Boxed W2 w.heap.size 40 (.slice A n c) := (hB2.block _ (by omega)).trans bVd
    have bR2 : Boxed W2 (w.heap.size + 1) 4 (.bool false) := (hB2.block _ (by omega)).trans bRd
    have hA2 : Ints W2 W2.heap.size A n zs := (hAd.below hB2).more hB2.size
    have hS2 : (fun w' => w'.cell? ⟨w.heap.size, 0, none⟩ = some (.slice A n c)) W2 := bV2.cell
    have hV2 : Upd (fun k => k = w.heap.size + 1 ∨ D1 k ∨ W.heap.size ≤ k) Wb W2 := (hWd.mono (fun _ _ e => e.elim)).below hB2 (fun k h1 h2 => by omega)
    refine hK.out _ _ (fun _ => hS2) ?_
    clear hK K'
    try simp only [Act.put, List.setIfInBounds_toArray, List.set_cons_zero, List.set_cons_succ]
    refine anyT_one (i := 7) (by kernel_rfl) rfl (fun K' hK => ?_)
    go_simp
    refine (hc2 W2 hA2).mono ?_
    rintro e W3 ⟨rfl, hB3⟩
    have hz2 := hU2.size
    have hy2 := hV2.size
    have hU3 : Upd (fun k => k = w.heap.size + 1) W0 W3 := hU2.below hB3 (fun k h1 h2 => by omega)
    have bV3 : Boxed W3 w.heap.size 40 (.slice A n c) := (hB3.block _ (by omega)).trans bV2
    have bR3 : Boxed W3 (w.heap.size + 1) 4 (.bool false) := (hB3.block _ (by omega)).trans bR2
    have hS3 : (fun w' => w'.cell? ⟨w.heap.size, 0, none⟩ = some (.slice A n c)) W3 := bV3.cell
    have hV3 : Upd (fun k => k = w.heap.size + 1 ∨ D1 k ∨ W.heap.size ≤ k) Wb W3 := hV2.below hB3 (fun k h1 h2 => by omega)
    refine hK.out _ _ (fun _ => hS3) ?_
    clear hK K'
    try simp only [Act.put, List.setIfInBounds_toArray, List.set_cons_zero, List.set_cons_succ]
    refine anyT_one (i := 8) (by kernel_rfl) rfl (fun K' hK => ?_)
    go_simp
    refine hK.out _ _ (fun h => absurd rfl h) ?_
    clear hK K'
    try simp only [Act.put, List.setIfInBounds_toArray, List.set_cons_zero, List.set_cons_succ]
    refine anyT_done (by kernel_rfl) ?_ _
    have hcR3 := bR3.cell
    have hfR3 := bR3.frozen
    cases hap : apB zs ul
    · have HF := Lib.hid (show prAny zs (pairsL zs) = true from any_of_pre hpre (show tstPr zs (lo, hi) = true by rw [Ht.out, hap]; rfl))
      have hus : Upd (fun k => k = w.heap.size + 1) W3 (W3.setCell ⟨w.heap.size + 1, 0, none⟩ (.bool true)) := (Upd.refl (fun k => k = w.heap.size + 1) W3).setCell (p := ⟨w.heap.size + 1, 0, none⟩) (.inr rfl) _
      gi_wp2
      exact ⟨D1, ⟨rfl, HF.out, bR3.set _, hU3.trans' hus (fun i hi e => e)⟩, hV3.trans' hus (fun i hi e => .inl e), fun k hk => .inl hk⟩
    · have HF := Lib.hid (show prAny zs (pre ++ [(lo, hi)]) = false from any_snoc hno (show tstPr zs (lo, hi) = false by rw [Ht.out, hap]; rfl))
      gi_wp2
      exact ⟨D1, ⟨HF.out, bR3, hU3⟩, hV3, fun k hk => .inl hk⟩
  case done =>
    rintro d D1 W hd ⟨hno, bR1, hU⟩ hD1 hKd
    have hcR := bR1.cell
    have hfR := bR1.frozen
    have HF := Lib.hid (HE.out.symm.trans hno)
    gi_wp2
    have hus : Upd (fun k => k = w.heap.size + 1) W (W.setCell ⟨w.heap.size + 1, 0, none⟩ (.bool false)) := (Upd.refl (fun k => k = w.heap.size + 1) W).setCell (p := ⟨w.heap.size + 1, 0, none⟩) (.inr rfl) _
    refine leaves_marks [d] _ ⟨by simp, fun b hb => ?_⟩ (fun W' hu' => ?_)
    · rw [List.mem_singleton.1 hb]
      exact (hus.block d (Array.getElem?_eq_some_iff.1 hKd).1 (by omega)).trans hKd
    · have hc' := (hu'.boxed (bR1.set (.bool false)) (by simp; omega)).cell
      exact ⟨.bool false, by simp [results, Tryz.f21, go_sem, hc'], ret_bool HF.out.symm,
        (((hu0.mono fun _ _ e => e.elim).trans' (hU.trans hus) (fun i hi e => by omega)).trans' hu' (fun i hi e => by simp at e; omega)).toBelow (R := fun _ => False) (fun _ e => e.elim) (Nat.le_refl _)⟩
  case stop =>
    rintro d D1 co pre W hd hpre ⟨rfl, hF, bR1, hU⟩ hD1 hKd
    have HF := Lib.hid (HE.out.symm.trans hF)
    clear hF
    gi_wp2
    refine leaves_marks [d] _ ⟨by simp, fun b hb => ?_⟩ (fun W' hu' => ?_)
    · rw [List.mem_singleton.1 hb]
      exact hKd
    · have hc' := (hu'.boxed bR1 (by simp; omega)).cell
      exact ⟨.bool true, by simp [results, Tryz.f21, go_sem, hc'], ret_bool HF.out.symm,
        (((hu0.mono fun _ _ e => e.elim).trans' hU (fun i hi e => by omega)).trans' hu' (fun i hi e => by simp at e; omega)).toBelow (R := fun _ => False) (fun _ e => e.elim) (Nat.le_refl _)⟩

theorem HasTwoPairs_any (A : Option Addr) (n c : Nat) (zs : List Int) (w : World) (h : Ints w w.heap.size A n zs) (hbig : n ≤ 1152921504606846976) :
    Calls Tryz.prog 6 #[.slice A n c] w fun e w' => e = .returned (.bool (twoR zs)) ∧ Below w.heap.size w w' := by
  have hlen := Lib.hid h.len
  cases hv : vo zs
  · have Ht := Lib.hid (show twoR zs = false by unfold twoR; rw [hv]; rfl)
    have Hv := Lib.hid hv
    clear hv
    go_enter Tryz.func6, Tryz.ntmps6
    go_wp2_with fail
    refine (readOrder_any _ _ _ zs _ h hbig).mono ?_
    rintro e w' ⟨hB, (⟨hv, b, rfl, _, _⟩ | ⟨_, rfl⟩)⟩
    · rw [Hv.out] at hv; cases hv
    · go_wp2_with fail
      go_ret
      exact ⟨ret_bool Ht.out.symm, hB⟩
  · have hvo : VoP zs := by simpa [vo] using hv
    have Ht := Lib.hid (show twoR zs = twoB zs by unfold twoR; rw [hv]; rfl)
    have Hv := Lib.hid hv
    clear hv
    go_enter Tryz.func6, Tryz.ntmps6
    go_wp2_with fail
    refine (readOrder_any _ _ _ zs _ h hbig).mono ?_
    rintro e w' ⟨hB, (⟨_, b, rfl, hb, hAr⟩ | ⟨hv, _⟩)⟩
    · go_wp2_with (go_at_call 21; refine (ohasTwo_any _ _ _ zs hvo _ (hAr.ints' hAr.lt hlen.out)).mono ?_; rintro e w2 ⟨rfl, hB2⟩)
      go_ret
      exact ⟨ret_bool Ht.out.symm, hB.trans (hB2.mono hB.size)⟩
    · rw [Hv.out] at hv; cases hv

end Go.Proofs.YtdcdddmjffgibaaGreat

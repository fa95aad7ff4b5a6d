/- The order of spans: a row read as a span by the program. -/
import Derived.Test.YtdcdddmjffgibaaGreatSoI
set_option linter.unusedVariables false
set_option linter.unusedSimpArgs false
namespace Go.Proofs.YtdcdddmjffgibaaGreat
open Go.RowKit Go.Shelf
attribute [local go_sem] Oper.semAt_some

theorem within_is {a b : Int} (hab : a ≤ b) : (max a 0 == a && min b 1000 == b) = (inB a 0 b && inB b 0 1000) := by
  unfold inB
  rw [Bool.eq_iff_iff]
  simp only [Bool.and_eq_true, beq_iff_eq, decide_eq_true_eq]
  omega
theorem row2_putA {w : World} {g : Nat} {t : TypeId} {u1 u2 v1 v2 : Value} (h : w.heap[g]? = some (.cells #[u1, u2] t (0, 0))) : ((w.setCell ⟨g, 0, none⟩ v1).setCell ⟨g, 1, none⟩ v2).heap[g]? = some (.cells #[v1, v2] t (0, 0)) := by
  simp [World.setCell, Array.getElem?_modify, h]
theorem row2_upd {w : World} {g : Nat} {v1 v2 : Value} : Upd (fun k => k = g) w ((w.setCell ⟨g, 0, none⟩ v1).setCell ⟨g, 1, none⟩ v2) :=
  ((Upd.refl (fun k => k = g) w).setCell (p := ⟨g, 0, none⟩) (.inr rfl) _).setCell (p := ⟨g, 1, none⟩) (.inr rfl) _

set_option maxRecDepth 100000 in
set_option maxHeartbeats 4000000 in
theorem readSpan_any (A : Option Addr) (n c : Nat) (r : List Int) (w : World) (h : Ints w w.heap.size A n r) (hn : n ≤ 1048576) :
    Calls Tryz.prog 53 #[.slice A n c] w fun e w' => ∃ x y, e = .returned (.tuple #[spV x y, .bool (spanOk r)]) ∧ (spanOk r = true → x = r[0]?.getD 0 ∧ y = r[1]?.getD 0) ∧ Upd (fun _ => False) w w' := by
  have Hlen := Lib.hid h.len
  have hU0 : Upd (fun _ => False) w (w.alloc (.cells #[.int .i64 0, .int .i64 0] 69)) := (Upd.refl _ w).alloc _
  have hb0 : (w.alloc (.cells #[.int .i64 0, .int .i64 0] 69)).heap[w.heap.size]? = some (.cells #[.int .i64 0, .int .i64 0] 69 (0, 0)) := heap_alloc_new w _
  have hc00 : (w.alloc (.cells #[.int .i64 0, .int .i64 0] 69)).cell? ⟨w.heap.size, 0, none⟩ = some (.int .i64 0) := by rw [cell_of_row _ _ 0 _ _ (0, 0) hb0]; rfl
  have hc01 : (w.alloc (.cells #[.int .i64 0, .int .i64 0] 69)).cell? ⟨w.heap.size, 1, none⟩ = some (.int .i64 0) := by rw [cell_of_row _ _ 1 _ _ (0, 0) hb0]; rfl
  have hf00 : (w.alloc (.cells #[.int .i64 0, .int .i64 0] 69)).frozen? ⟨w.heap.size, 0, none⟩ = false := frozen_of_row _ _ 0 _ _ hb0
  have hf01 : (w.alloc (.cells #[.int .i64 0, .int .i64 0] 69)).frozen? ⟨w.heap.size, 1, none⟩ = false := frozen_of_row _ _ 1 _ _ hb0
  have Z0 := Lib.hid (show (w.alloc (.cells #[.int .i64 0, .int .i64 0] 69)).heap.size = w.heap.size + 1 by simp)
  have Hsp := Lib.hid (show spanOk r = (decide (r.length = 2) && (inB (r[0]?.getD 0) 0 (r[1]?.getD 0) && inB (r[1]?.getD 0) 0 1000)) from rfl)
  by_cases h2 : n = 2
  · subst h2
    have hI := h.below (hU0.toBelow (B := w.heap.size) (fun _ e => e.elim) (Nat.le_refl _))
    obtain ⟨b, off, rfl, hb, hc⟩ := hI.at_ (k := 0) (by omega)
    have hr0 := hc 0 (by omega)
    have hr1 := hc 1 (by omega)
    rw [Nat.add_zero] at hr0
    have Hs2 := Lib.hid (Hsp.out.trans (by rw [decide_eq_true Hlen.out]; rfl : _ = (inB (r[0]?.getD 0) 0 (r[1]?.getD 0) && inB (r[1]?.getD 0) 0 1000)))
    clear hc hI h
    generalize r[0]?.getD 0 = x0 at *
    generalize r[1]?.getD 0 = x1 at *
    by_cases hgt : x1 < x0
    · have Hf := Lib.hid (show spanOk r = false by rw [Hs2.out]; unfold inB; rw [decide_eq_false (by omega)]; rfl)
      rw [Hf.out]
      have hgtI : x0 > x1 := hgt
      go_enter Tryz.func53, Tryz.ntmps53
      go_wp2_with fail
      go_quiet (fail)
      go_wp2_with fail
      have hbq : ((w.alloc (.cells #[.int .i64 0, .int .i64 0] 69)).drewN nq).heap[w.heap.size]? = some (.cells #[.int .i64 0, .int .i64 0] 69 (0, 0)) := hb0
      refine bodyPost_ret (v := .tuple #[spV 0 0, .bool false]) (results_cell_row2 rfl _ _ w.heap.size _ _ (0, 0) _ _ rfl rfl (row2_putA hbq) Tryz.underlying69 rfl (by kernel_rfl)) rfl ?_
      exact ⟨0, 0, rfl, fun e => (by cases e), ((hU0.drewN _).setCell (p := ⟨w.heap.size, 0, none⟩) (.inl (Nat.le_refl _)) _).setCell (p := ⟨w.heap.size, 1, none⟩) (.inl (Nat.le_refl _)) _⟩
    · have Hv := Lib.hid (show (max x0 0 == x0 && min x1 1000 == x1) = spanOk r by rw [Hs2.out]; exact within_is (by omega))
      have hgtI : ¬ (x0 > x1) := hgt
      go_enter Tryz.func53, Tryz.ntmps53
      go_wp2_with fail
      go_quiet (fail)
      go_wp2_with fail
      obtain ⟨Wb, hWb⟩ : ∃ Wb, (w.alloc (.cells #[.int .i64 0, .int .i64 0] 69)).drewN nq = Wb := ⟨_, rfl⟩
      have hbb : Wb.heap[w.heap.size]? = some (.cells #[.int .i64 0, .int .i64 0] 69 (0, 0)) := by rw [← hWb]; exact hb0
      have hUb : Upd (fun _ => False) w Wb := by rw [← hWb]; exact hU0.drewN _
      have hq0 : Wb.cell? ⟨b, off, none⟩ = some (.int .i64 x0) := by rw [← hWb]; exact hr0
      have hq1 : Wb.cell? ⟨b, off + 1, none⟩ = some (.int .i64 x1) := by rw [← hWb]; exact hr1
      have zb : Wb.heap.size = w.heap.size + 1 := by rw [← hWb]; exact Z0.out
      rw [hWb]
      clear hWb hb0 hc00 hc01 hf00 hf01 hU0 hr0 hr1
      refine region_T (S := (fun w' => w'.cell? ⟨b, off, none⟩ = some (.int .i64 x0) ∧ w'.cell? ⟨b, off + 1, none⟩ = some (.int .i64 x1))) 8 (by kernel_rfl) ?_
      have hSd : (fun w' => w'.cell? ⟨b, off, none⟩ = some (.int .i64 x0) ∧ w'.cell? ⟨b, off + 1, none⟩ = some (.int .i64 x1)) Wb.drew := ⟨hq0, hq1⟩
      have hbd : Wb.drew.heap[w.heap.size]? = some (.cells #[.int .i64 0, .int .i64 0] 69 (0, 0)) := hbb
      have hUd : Upd (fun _ => False) w Wb.drew := hUb.drew
      have zd : Wb.drew.heap.size = w.heap.size + 1 := zb
      obtain ⟨Wd, hWd⟩ : ∃ Wd, Wb.drew = Wd := ⟨_, rfl⟩
      rw [hWd] at hSd hbd hUd zd ⊢
      clear hWd hq0 hq1 hbb hUb zb
      refine anyT_take (i := 0) (oi := ?oi0a) (v := .slice (some ⟨b, off, none⟩) 2 c) ?hi0a (by kernel_rfl) ?hq0a ?hy0a (by assumption) ?rest0a
      case hi0a => (simp only [List.getElem?_toArray, List.getElem?_cons_zero]; first | done | rfl)
      case hq0a => first | exact fun _ _ _ h => h | exact fun _ _ _ h => (by cases h.1)
      case hy0a => (refine Or.inl ⟨by rfl, ?_⟩; intro wz hSw; go_simp; first | done | with_reducible rfl | simp | omega)
      try simp only [Act.put, List.setIfInBounds_toArray, List.set_cons_zero, List.set_cons_succ]
      refine anyT_take (i := 1) (oi := ?oi1a) (v := .pointer (some ⟨b, off, none⟩)) ?hi1a (by kernel_rfl) ?hq1a ?hy1a (by assumption) ?rest1a
      case hi1a => (simp only [List.getElem?_toArray, List.getElem?_cons_succ, List.getElem?_cons_zero]; first | done | rfl)
      case hq1a => first | exact fun _ _ _ h => h | exact fun _ _ _ h => (by cases h.1)
      case hy1a => (refine Or.inl ⟨by rfl, ?_⟩; intro wz hSw; go_simp; first | done | with_reducible rfl | simp | omega)
      try simp only [Act.put, List.setIfInBounds_toArray, List.set_cons_zero, List.set_cons_succ]
      refine anyT_take (i := 2) (oi := ?oi2a) (v := .int .i64 x0) ?hi2a (by kernel_rfl) ?hq2a ?hy2a (by assumption) ?rest2a
      case hi2a => (simp only [List.getElem?_toArray, List.getElem?_cons_succ, List.getElem?_cons_zero]; first | done | rfl)
      case hq2a => first | exact fun _ _ _ h => h | exact fun _ _ _ h => (by cases h.1)
      case hy2a => (refine Or.inl ⟨by rfl, ?_⟩; intro wz hSw; obtain ⟨hS1, hS2⟩ := hSw; go_simp; first | done | with_reducible rfl | simp | omega)
      try simp only [Act.put, List.setIfInBounds_toArray, List.set_cons_zero, List.set_cons_succ]
      refine anyT_take (i := 3) (oi := ?oi3a) (v := .slice (some ⟨b, off, none⟩) 2 c) ?hi3a (by kernel_rfl) ?hq3a ?hy3a (by assumption) ?rest3a
      case hi3a => (simp only [List.getElem?_toArray, List.getElem?_cons_succ, List.getElem?_cons_zero]; first | done | rfl)
      case hq3a => first | exact fun _ _ _ h => h | exact fun _ _ _ h => (by cases h.1)
      case hy3a => (refine Or.inl ⟨by rfl, ?_⟩; intro wz hSw; go_simp; first | done | with_reducible rfl | simp | omega)
      try simp only [Act.put, List.setIfInBounds_toArray, List.set_cons_zero, List.set_cons_succ]
      refine anyT_take (i := 4) (oi := ?oi4a) (v := .pointer (some ⟨b, off + 1, none⟩)) ?hi4a (by kernel_rfl) ?hq4a ?hy4a (by assumption) ?rest4a
      case hi4a => (simp only [List.getElem?_toArray, List.getElem?_cons_succ, List.getElem?_cons_zero]; first | done | rfl)
      case hq4a => first | exact fun _ _ _ h => h | exact fun _ _ _ h => (by cases h.1)
      case hy4a => (refine Or.inl ⟨by rfl, ?_⟩; intro wz hSw; go_simp; first | done | with_reducible rfl | simp | omega)
      try simp only [Act.put, List.setIfInBounds_toArray, List.set_cons_zero, List.set_cons_succ]
      refine anyT_take (i := 5) (oi := ?oi5a) (v := .int .i64 x1) ?hi5a (by kernel_rfl) ?hq5a ?hy5a (by assumption) ?rest5a
      case hi5a => (simp only [List.getElem?_toArray, List.getElem?_cons_succ, List.getElem?_cons_zero]; first | done | rfl)
      case hq5a => first | exact fun _ _ _ h => h | exact fun _ _ _ h => (by cases h.1)
      case hy5a => (refine Or.inl ⟨by rfl, ?_⟩; intro wz hSw; obtain ⟨hS1, hS2⟩ := hSw; go_simp; first | done | with_reducible rfl | simp | omega)
      try simp only [Act.put, List.setIfInBounds_toArray, List.set_cons_zero, List.set_cons_succ]
      refine anyT_take (i := 6) (oi := ?oi6a) (v := spV x0 x1) ?hi6a (by kernel_rfl) ?hq6a ?hy6a (by assumption) ?rest6a
      case hi6a => (simp only [List.getElem?_toArray, List.getElem?_cons_succ, List.getElem?_cons_zero]; first | done | rfl)
      case hq6a => first | exact fun _ _ _ h => h | exact fun _ _ _ h => (by cases h.1)
      case hy6a => (refine Or.inl ⟨by rfl, ?_⟩; intro wz hSw; go_simp; first | done | with_reducible rfl | simp | omega)
      try simp only [Act.put, List.setIfInBounds_toArray, List.set_cons_zero, List.set_cons_succ]
      refine anyT_one (i := 7) (by kernel_rfl) rfl (fun K' hK => ?_)
      go_simp
      have hS7 : (fun w' => w'.cell? ⟨b, off, none⟩ = some (.int .i64 x0) ∧ w'.cell? ⟨b, off + 1, none⟩ = some (.int .i64 x1)) (Wd.alloc (.cells #[.int .i64 0, .int .i64 0] 69)) := ⟨(World.cell?_of_block (Below.heap_alloc _ _ _ (by show b < Wd.heap.size; omega))).trans hSd.1, (World.cell?_of_block (Below.heap_alloc _ _ _ (by show b < Wd.heap.size; omega))).trans hSd.2⟩
      refine hK.out _ _ (fun _ => hS7) ?_
      clear hK K'
      try simp only [Act.put, List.setIfInBounds_toArray, List.set_cons_zero, List.set_cons_succ]
      refine anyT_one (i := 8) (by kernel_rfl) rfl (fun K' hK => ?_)
      go_simp
      refine hK.out _ _ (fun h => absurd rfl h) ?_
      clear hK K'
      try simp only [Act.put, List.setIfInBounds_toArray, List.set_cons_zero, List.set_cons_succ]
      refine anyT_done (by kernel_rfl) ?_ _
      have hb8 : (Wd.alloc (.cells #[.int .i64 x0, .int .i64 x1] 69)).heap[w.heap.size + 1]? = some (.cells #[.int .i64 x0, .int .i64 x1] 69 (0, 0)) := by rw [← zd]; exact heap_alloc_new Wd _
      have hb9 : (Wd.alloc (.cells #[.int .i64 x0, .int .i64 x1] 69)).heap[w.heap.size]? = some (.cells #[.int .i64 0, .int .i64 0] 69 (0, 0)) := (Below.heap_alloc _ _ _ (by omega)).trans hbd
      have hU8 : Upd (fun _ => False) w (Wd.alloc (.cells #[.int .i64 x0, .int .i64 x1] 69)) := hUd.alloc _
      have z8 : (Wd.alloc (.cells #[.int .i64 x0, .int .i64 x1] 69)).heap.size = w.heap.size + 2 := by simp [zd]
      go_wp2_with fail
      obtain ⟨W8, hW8⟩ : ∃ W8, Wd.alloc (.cells #[.int .i64 x0, .int .i64 x1] 69) = W8 := ⟨_, rfl⟩
      rw [hW8] at hb8 hb9 hU8 z8 ⊢
      clear hW8 hSd hS7 hbd hUd zd
      refine region_T (S := (fun w' => w'.heap[w.heap.size + 1]? = some (.cells #[Value.int .i64 x0, .int .i64 x1] 69 (0, 0)))) 5 (by kernel_rfl) ?_
      have hSe : (fun w' => w'.heap[w.heap.size + 1]? = some (.cells #[Value.int .i64 x0, .int .i64 x1] 69 (0, 0))) W8.drew := hb8
      have hbe : W8.drew.heap[w.heap.size]? = some (.cells #[.int .i64 0, .int .i64 0] 69 (0, 0)) := hb9
      have hUe : Upd (fun _ => False) w W8.drew := hU8.drew
      have ze : W8.drew.heap.size = w.heap.size + 2 := z8
      obtain ⟨We, hWe⟩ : ∃ We, W8.drew = We := ⟨_, rfl⟩
      rw [hWe] at hSe hbe hUe ze ⊢
      clear hWe hb8 hb9 hU8 z8
      refine anyT_take (i := 0) (oi := ?oi0b) (v := spV x0 x1) ?hi0b (by kernel_rfl) ?hq0b ?hy0b (by assumption) ?rest0b
      case hi0b => (simp only [List.getElem?_toArray, List.getElem?_cons_zero]; first | done | rfl)
      case hq0b => first | exact fun _ _ _ h => h | exact fun _ _ _ h => (by cases h.1)
      case hy0b => exact yieldsIf_load_row (by rfl) _ _ rfl (w.heap.size + 1) rfl _ _ _ (fun _ h => h) Tryz.underlying69 rfl (by kernel_rfl)
      try simp only [Act.put, List.setIfInBounds_toArray, List.set_cons_zero, List.set_cons_succ]
      refine anyT_take (i := 1) (oi := ?oi1b) (v := spV x0 x1) ?hi1b (by kernel_rfl) ?hq1b ?hy1b (by assumption) ?rest1b
      case hi1b => (simp only [List.getElem?_toArray, List.getElem?_cons_succ, List.getElem?_cons_zero]; first | done | rfl)
      case hq1b => first | exact fun _ _ _ h => h | exact fun _ _ _ h => (by cases h.1)
      case hy1b => exact yieldsIf_load_row (by rfl) _ _ rfl (w.heap.size + 1) rfl _ _ _ (fun _ h => h) Tryz.underlying69 rfl (by kernel_rfl)
      try simp only [Act.put, List.setIfInBounds_toArray, List.set_cons_zero, List.set_cons_succ]
      refine anyT_take (i := 2) (oi := ?oi2b) (v := spV 0 1000) ?hi2b (by kernel_rfl) ?hq2b ?hy2b (by assumption) ?rest2b
      case hi2b => (simp only [List.getElem?_toArray, List.getElem?_cons_succ, List.getElem?_cons_zero]; first | done | rfl)
      case hq2b => first | exact fun _ _ _ h => h | exact fun _ _ _ h => (by cases h.1)
      case hy2b => (refine Or.inl ⟨by rfl, ?_⟩; intro wz hSw; go_simp; first | done | with_reducible rfl | simp | omega)
      try simp only [Act.put, List.setIfInBounds_toArray, List.set_cons_zero, List.set_cons_succ]
      refine anyT_one (i := 3) (by kernel_rfl) rfl (fun K' hK => ?_)
      go_simp
      refine (isWithin_any x0 x1 0 1000 We).mono ?_
      rw [Hv.out]
      rintro e W9 ⟨rfl, hU9⟩
      have hb10 := (hU9.block w.heap.size (by omega) (fun e => e)).trans hbe
      have hU10 := hUe.trans hU9
      have hS9 : (fun w' => w'.heap[w.heap.size + 1]? = some (.cells #[Value.int .i64 x0, .int .i64 x1] 69 (0, 0))) W9 := (hU9.block _ (by omega) (fun e => e)).trans hSe
      refine hK.out _ _ (fun _ => hS9) ?_
      clear hK K'
      try simp only [Act.put, List.setIfInBounds_toArray, List.set_cons_zero, List.set_cons_succ]
      have hc00 : W9.cell? ⟨w.heap.size, 0, none⟩ = some (.int .i64 0) := by rw [cell_of_row _ _ 0 _ _ (0, 0) hb10]; rfl
      have hc01 : W9.cell? ⟨w.heap.size, 1, none⟩ = some (.int .i64 0) := by rw [cell_of_row _ _ 1 _ _ (0, 0) hb10]; rfl
      have hf00 : W9.frozen? ⟨w.heap.size, 0, none⟩ = false := frozen_of_row _ _ 0 _ _ hb10
      have hf01 : W9.frozen? ⟨w.heap.size, 1, none⟩ = false := frozen_of_row _ _ 1 _ _ hb10
      refine anyT_one (i := 4) (by kernel_rfl) rfl (fun K' hK => ?_)
      go_simp
      have hS10 : (fun w' => w'.heap[w.heap.size + 1]? = some (.cells #[Value.int .i64 x0, .int .i64 x1] 69 (0, 0))) ((W9.setCell ⟨w.heap.size, 0, none⟩ (.int .i64 x0)).setCell ⟨w.heap.size, 1, none⟩ (.int .i64 x1)) := (row2_upd.block _ (by have := hU9.size; omega) (by omega)).trans hS9
      refine hK.out _ _ (fun _ => hS10) ?_
      clear hK K'
      try simp only [Act.put, List.setIfInBounds_toArray, List.set_cons_zero, List.set_cons_succ]
      refine anyT_one (i := 5) (by kernel_rfl) rfl (fun K' hK => ?_)
      go_simp
      refine hK.out _ _ (fun h => absurd rfl h) ?_
      clear hK K'
      try simp only [Act.put, List.setIfInBounds_toArray, List.set_cons_zero, List.set_cons_succ]
      refine anyT_done (by kernel_rfl) ?_ _
      go_wp2_with fail
      refine bodyPost_ret (v := .tuple #[spV x0 x1, .bool (spanOk r)]) (results_cell_row2 rfl _ _ w.heap.size _ _ (0, 0) _ _ rfl rfl (row2_putA hb10) Tryz.underlying69 rfl (by kernel_rfl)) rfl ?_
      exact ⟨x0, x1, rfl, fun _ => ⟨rfl, rfl⟩, hU10.trans' row2_upd (fun i hi e => by omega)⟩
  · have Hf := Lib.hid (show spanOk r = false by rw [Hsp.out, decide_eq_false (by rw [Hlen.out]; exact h2)]; rfl)
    rw [Hf.out]
    have hmi : ((n : Int) != 2) = true := by simp; omega
    go_enter Tryz.func53, Tryz.ntmps53
    go_wp2_with fail
    go_quiet (fail)
    go_wp2_with fail
    have hbq : ((w.alloc (.cells #[.int .i64 0, .int .i64 0] 69)).drewN nq).heap[w.heap.size]? = some (.cells #[.int .i64 0, .int .i64 0] 69 (0, 0)) := hb0
    refine bodyPost_ret (v := .tuple #[spV 0 0, .bool false]) (results_cell_row2 rfl _ _ w.heap.size _ _ (0, 0) _ _ rfl rfl (row2_putA hbq) Tryz.underlying69 rfl (by kernel_rfl)) rfl ?_
    exact ⟨0, 0, rfl, fun e => (by cases e), ((hU0.drewN _).setCell (p := ⟨w.heap.size, 0, none⟩) (.inl (Nat.le_refl _)) _).setCell (p := ⟨w.heap.size, 1, none⟩) (.inl (Nat.le_refl _)) _⟩
end Go.Proofs.YtdcdddmjffgibaaGreat

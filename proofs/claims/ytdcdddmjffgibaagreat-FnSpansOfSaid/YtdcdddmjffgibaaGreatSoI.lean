/- The order of spans: the program's single spans. -/
import Derived.Test.YtdcdddmjffgibaaGreatSoM
import Derived.Test.YtdcdddmjffgibaaGreatSpI
import Derived.Test.YtdcdddmjffgibaaGreatGc
import Derived.Laws.StructEq
set_option linter.unusedVariables false
set_option linter.unusedSimpArgs false
namespace Go.Proofs.YtdcdddmjffgibaaGreat
open Go.RowKit Go.Shelf
attribute [local go_sem] Oper.semAt_some

abbrev spV (a b : Int) : Value := .agg #[.int .i64 a, .int .i64 b]
theorem span_equal (p q r s : Int) (w : World) : (Op.equalIn 10000 69 (spV p q) (spV r s)).run Tryz.prog w = .ok (p == r && q == s) w := by
  rw [show (10000 : Nat) = 9999 + 1 from rfl, run_equalIn_struct w 9999 69 _ _ (by kernel_rfl) (by kernel_rfl)]
  cases h1 : (p == r) <;> cases h2 : (q == s) <;> simp [Program.fieldsOf, Tryz.underlying69, Op.eqFields, go_sem, Tryz.underlying3, h1, h2]
theorem span_eql (p q r s : Int) (w : World) : (binOp BinOp.eql 69 (spV p q) (spV r s)).run Tryz.prog w = .ok (.bool (p == r && q == s)) w := by
  rw [run_eql_struct, span_equal]; rfl

set_option maxHeartbeats 1000000 in
theorem isBehind_any (a b p q : Int) (w : World) : Calls Tryz.prog 54 #[spV a b, spV p q] w fun e w' => e = .returned (.bool (decide (q < a))) ∧ Upd (fun _ => False) w w' := by
  go_enter Tryz.func54, Tryz.ntmps54
  go_wp2
  all_goals go_ret
  all_goals exact ⟨ret_bool (by simp), ((Upd.refl _ _).alloc _).alloc _⟩

set_option maxHeartbeats 1000000 in
theorem spcom_any (a b p q : Int) (w : World) : Calls Tryz.prog 83 #[spV a b, spV p q] w fun e w' => e = .returned (spV (max a p) (min b q)) ∧ Upd (fun _ => False) w w' := by
  go_enter Tryz.func83, Tryz.ntmps83
  have hbk : (((w.alloc (.cells #[Value.int .i64 a, .int .i64 b] 69)).alloc (.cells #[Value.int .i64 p, .int .i64 q] 69)).alloc (.cells #[Value.int .i64 (max a p), .int .i64 (min b q)] 69)).heap[w.heap.size + 1 + 1]? = some (.cells #[Value.int .i64 (max a p), .int .i64 (min b q)] 69 (0, 0)) := by
    have := heap_alloc_new ((w.alloc (.cells #[Value.int .i64 a, .int .i64 b] 69)).alloc (.cells #[Value.int .i64 p, .int .i64 q] 69)) (.cells #[Value.int .i64 (max a p), .int .i64 (min b q)] 69)
    rwa [World.size_alloc, World.size_alloc] at this
  go_wp2
  refine bodyPost_ret (v := spV (max a p) (min b q)) (results_cell_row rfl _ _ (w.heap.size + 1 + 1) _ #[Value.int .i64 (max a p), .int .i64 (min b q)] (0, 0) _ rfl hbk Tryz.underlying69 rfl (by kernel_rfl)) rfl ?_
  exact ⟨rfl, (((Upd.refl _ _).alloc _).alloc _).alloc _⟩

set_option maxRecDepth 100000 in
set_option maxHeartbeats 2000000 in
theorem isWithin_any (a b p q : Int) (w : World) : Calls Tryz.prog 71 #[spV a b, spV p q] w fun e w' => e = .returned (.bool (max a p == a && min b q == b)) ∧ Upd (fun _ => False) w w' := by
  have heq := span_eql (max a p) (min b q) a b
  go_enter Tryz.func71, Tryz.ntmps71
  have hU0 : Upd (fun _ => False) w ((w.alloc (.cells #[Value.int .i64 a, .int .i64 b] 69)).alloc (.cells #[Value.int .i64 p, .int .i64 q] 69)) := ((Upd.refl _ _).alloc _).alloc _
  have hb1 : ((w.alloc (.cells #[Value.int .i64 a, .int .i64 b] 69)).alloc (.cells #[Value.int .i64 p, .int .i64 q] 69)).heap[w.heap.size]? = some (.cells #[Value.int .i64 a, .int .i64 b] 69 (0, 0)) := (Below.heap_alloc _ _ _ (by simp)).trans (heap_alloc_new w _)
  have hb2 : ((w.alloc (.cells #[Value.int .i64 a, .int .i64 b] 69)).alloc (.cells #[Value.int .i64 p, .int .i64 q] 69)).heap[w.heap.size + 1]? = some (.cells #[Value.int .i64 p, .int .i64 q] 69 (0, 0)) := by
    have := heap_alloc_new (w.alloc (.cells #[Value.int .i64 a, .int .i64 b] 69)) (.cells #[Value.int .i64 p, .int .i64 q] 69)
    rwa [World.size_alloc] at this
  go_wp2
  refine region_T (S := (fun w' => w'.heap[w.heap.size]? = some (.cells #[Value.int .i64 a, .int .i64 b] 69 (0, 0)))) 5 (by kernel_rfl) ?_
  have hSd : (fun w' => w'.heap[w.heap.size]? = some (.cells #[Value.int .i64 a, .int .i64 b] 69 (0, 0))) ((w.alloc (.cells #[Value.int .i64 a, .int .i64 b] 69)).alloc (.cells #[Value.int .i64 p, .int .i64 q] 69)).drew := hb1
  have hUd : Upd (fun _ => False) w ((w.alloc (.cells #[Value.int .i64 a, .int .i64 b] 69)).alloc (.cells #[Value.int .i64 p, .int .i64 q] 69)).drew := hU0.drew
  have hcp : ((w.alloc (.cells #[Value.int .i64 a, .int .i64 b] 69)).alloc (.cells #[Value.int .i64 p, .int .i64 q] 69)).drew.cell? ⟨w.heap.size + 1, 0, none⟩ = some (.int .i64 p) := by show World.cell? _ _ = _; rw [cell_of_row ((w.alloc (.cells #[Value.int .i64 a, .int .i64 b] 69)).alloc (.cells #[Value.int .i64 p, .int .i64 q] 69)).drew _ 0 _ _ (0, 0) hb2]; rfl
  have hcq : ((w.alloc (.cells #[Value.int .i64 a, .int .i64 b] 69)).alloc (.cells #[Value.int .i64 p, .int .i64 q] 69)).drew.cell? ⟨w.heap.size + 1, 1, none⟩ = some (.int .i64 q) := by rw [cell_of_row ((w.alloc (.cells #[Value.int .i64 a, .int .i64 b] 69)).alloc (.cells #[Value.int .i64 p, .int .i64 q] 69)).drew _ 1 _ _ (0, 0) hb2]; rfl
  obtain ⟨Wd, hWd⟩ : ∃ Wd, ((w.alloc (.cells #[Value.int .i64 a, .int .i64 b] 69)).alloc (.cells #[Value.int .i64 p, .int .i64 q] 69)).drew = Wd := ⟨_, rfl⟩
  rw [hWd] at hSd hUd hcp hcq ⊢
  clear hWd hb1 hb2 hU0
  refine anyT_take (i := 0) (oi := ?oi0a) (v := spV a b) ?hi0a (by kernel_rfl) ?hq0a ?hy0a (by assumption) ?rest0a
  case hi0a => (simp only [List.getElem?_toArray, List.getElem?_cons_zero]; first | done | rfl)
  case hq0a => first | exact fun _ _ _ h => h | exact fun _ _ _ h => (by cases h.1)
  case hy0a => exact yieldsIf_load_row (by rfl) _ _ rfl w.heap.size rfl _ _ _ (fun _ h => h) Tryz.underlying69 rfl (by kernel_rfl)
  try simp only [Act.put, List.setIfInBounds_toArray, List.set_cons_zero, List.set_cons_succ]
  refine anyT_take (i := 3) (oi := ?oi3a) (v := spV a b) ?hi3a (by kernel_rfl) ?hq3a ?hy3a (by assumption) ?rest3a
  case hi3a => (simp only [List.getElem?_toArray, List.getElem?_cons_succ, List.getElem?_cons_zero]; first | done | rfl)
  case hq3a => first | exact fun _ _ _ h => h | exact fun _ _ _ h => (by cases h.1)
  case hy3a => exact yieldsIf_load_row (by rfl) _ _ rfl w.heap.size rfl _ _ _ (fun _ h => h) Tryz.underlying69 rfl (by kernel_rfl)
  try simp only [Act.put, List.setIfInBounds_toArray, List.set_cons_zero, List.set_cons_succ]
  refine anyT_one (i := 1) (by kernel_rfl) rfl (fun K' hK => ?_)
  go_simp
  refine hK.out _ _ (fun _ => hSd) ?_
  clear hK K'
  try simp only [Act.put, List.setIfInBounds_toArray, List.set_cons_zero, List.set_cons_succ]
  refine anyT_one (i := 2) (by kernel_rfl) rfl (fun K' hK => ?_)
  go_simp
  refine (spcom_any a b p q Wd).mono ?_
  rintro e W2 ⟨rfl, hU2⟩
  have hS2 : (fun w' => w'.heap[w.heap.size]? = some (.cells #[Value.int .i64 a, .int .i64 b] 69 (0, 0))) W2 := (hU2.block _ (Array.getElem?_eq_some_iff.1 hSd).1 (fun e => e)).trans hSd
  refine hK.out _ _ (fun _ => hS2) ?_
  clear hK K'
  try simp only [Act.put, List.setIfInBounds_toArray, List.set_cons_zero, List.set_cons_succ]
  refine anyT_one (i := 4) (by kernel_rfl) rfl (fun K' hK => ?_)
  go_simp
  refine hK.out _ _ (fun _ => hS2) ?_
  clear hK K'
  try simp only [Act.put, List.setIfInBounds_toArray, List.set_cons_zero, List.set_cons_succ]
  refine anyT_one (i := 5) (by kernel_rfl) rfl (fun K' hK => ?_)
  go_simp
  refine hK.out _ _ (fun h => absurd rfl h) ?_
  clear hK K'
  try simp only [Act.put, List.setIfInBounds_toArray, List.set_cons_zero, List.set_cons_succ]
  refine anyT_done (by kernel_rfl) ?_ _
  go_wp2
  go_ret
  exact ⟨rfl, hUd.trans hU2⟩
end Go.Proofs.YtdcdddmjffgibaaGreat

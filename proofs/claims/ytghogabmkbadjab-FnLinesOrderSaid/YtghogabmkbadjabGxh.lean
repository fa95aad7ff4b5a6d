/- Texts that several claims share, one behind the other. -/
import Derived.Test.YtghogabmkbadjabGc
import Derived.Test.YtghogabmkbadjabGa
import Derived.Test.YtghogabmkbadjabGxf
import Derived.ChangeKeysEq
import Derived.Deep.RegionHeld3
set_option linter.unusedVariables false
set_option linter.unusedSimpArgs false
/- Marks: a set as six bools in an array; made, read, compared; what is below a set, and whether it is an ideal: the program's. -/
namespace Go.Proofs.Ytghogabmkbadjab
open Go.RowKit Go.Shelf
attribute [local go_sem] Oper.semAt_some
attribute [local go_sem, local simp] wide_fn

/-- The six marks of a set. -/
def mkV (s : Int) : Array Value := ((List.range 6).map fun j : Nat => Value.bool (bitB s j)).toArray
theorem mkV_size (s : Int) : (mkV s).size = 6 := by simp [mkV]
theorem mkV_get (s : Int) {j : Nat} (hj : j < 6) : (mkV s)[j]? = some (.bool (bitB s j)) := by
  simp [mkV, hj]
theorem mkV_one (s : Int) : (mkV s).all (·.oneCell') = true := by
  refine Array.all_eq_true.2 fun i hi => ?_
  simp [mkV, Value.oneCell']
theorem mkV_set (s : Int) {k : Nat} (_hk : k < 6) : (mkV s).setIfInBounds k (.bool true) = mkV (orI s (powI k)) := by
  refine Array.ext (by simp [mkV_size]) fun j h1 h2 => ?_
  rw [Array.getElem_setIfInBounds (by simpa using h1)]
  simp only [mkV, List.getElem_toArray, List.getElem_map, List.getElem_range, bitB_or, bitB_pow]
  by_cases h : k = j
  · simp [h]
  · simp [h]
theorem mkV_none : mkV 0 = #[.bool false, .bool false, .bool false, .bool false, .bool false, .bool false] := by
  simp [mkV, bitB_zero, List.range_succ]

section
variable {P : Program} (w : World)
theorem part_mkV {e : TypeId} (he : P.underlying e = some .bool) (s : Int) {i : Nat} (hi : i < 6) : (part e (mkV s) (i * 1)).run P w = .ok (.bool (bitB s i)) w := by
  have h := mkV_get s hi
  have h6 := mkV_size s
  rw [Array.getElem?_eq_getElem (by omega)] at h
  simp only [Option.some.injEq] at h
  simp [part, isAgg, run_underlying he, h6, hi, h]
theorem eqItems_mkV {e : TypeId} (he : P.underlying e = some .bool) (d : Nat) (s t : Int) : ∀ l : List Nat, (∀ i ∈ l, i < 6) →
    (Op.eqItems (d + 1) e 1 (mkV s) (mkV t) l).run P w = .ok (l.all fun i : Nat => bitB s i == bitB t i) w
  | [], _ => by simp [Op.eqItems]
  | i :: l, h => by
    have ih := eqItems_mkV he d s t l (fun j hj => h j (by simp [hj]))
    have hi := h i (by simp)
    simp only [Op.eqItems, Sem.run_bind, part_mkV w he s hi, part_mkV w he t hi, Result.andThen_ok, run_equalIn_bool' w d e _ _ he]
    cases hb : (bitB s i == bitB t i)
    · simp [hb]
    · simp [hb, ih]
theorem run_eql_mkV {t e : TypeId} (hu : P.underlying t = some (.array 6 e)) (he : P.underlying e = some .bool) (hi : (P.info? e).isSome = true) (hc : P.cellsOf e = 1) (x y : Int) (hx0 : 0 ≤ x) (hx : x < 64) (hy0 : 0 ≤ y) (hy : y < 64) :
    (binOp .eql t (.agg (mkV x)) (.agg (mkV y))).run P w = .ok (.bool (x == y)) w := by
  obtain ⟨i, hi⟩ := Option.isSome_iff_exists.1 hi
  rw [run_eql_struct, run_equalIn_array w 9999 _ _ hu hi, hc, eqItems_mkV w he 9998 x y _ (fun i hi => by simpa using hi)]
  have key : ((List.range 6).all fun i : Nat => bitB x i == bitB y i) = (x == y) := by
    rw [Bool.eq_iff_iff, List.all_eq_true, beq_iff_eq]
    constructor
    · intro h
      refine bitB_ext hx0 hy0 fun j => ?_
      rcases Nat.lt_or_ge j 6 with hj | hj
      · simpa using h j (by simpa using hj)
      · have e1 : bitB x j = false := by
          cases e : bitB x j
          · rfl
          · have := bitB_lt (n := 6) hx e; omega
        have e2 : bitB y j = false := by
          cases e : bitB y j
          · rfl
          · have := bitB_lt (n := 6) hy e; omega
        rw [e1, e2]
    · rintro rfl; simp
  rw [key]
  rfl
end

theorem Upd.setRow {R : Nat → Prop} {a w : World} (h : Upd R a w) {g : Nat} (hp : a.heap.size ≤ g ∨ R g) (cs : Array Value) : Upd R a (w.setRow g cs) :=
  ⟨h.os, h.tape, h.output, by simpa using h.size, fun i hi hr => (setRow_other w g i cs (by
    rintro rfl
    rcases hp with hp | hp
    · omega
    · exact hr hp)).trans (h.block i hi hr)⟩

section
variable {F : Fence} {m : Nat} {P : Program} {w : World}
theorem wpListIn_load_row {ops : Array Oper} {rest : List Oper} {o : Oper} {a : Act} {Q : Exit → Act → World → Prop} (hgd : o.guard = none) (ty : TypeId) (x : Operand) (ho : o.op = .load ty x)
    (g : Nat) (hx : a.eval x = .pointer (some ⟨g, 0, none⟩)) (t : TypeId) (cs : Array Value) (fr : Nat × Nat) (d : TypeDesc) (hg : w.heap[g]? = some (.cells cs t fr))
    (hu : P.underlying ty = some d) (hd : (match d with | .struct _ | .array _ _ => true | _ => false) = true) (hi : (P.info? ty).map (·.size) = some cs.size)
    (h : wpListIn F m P ops Q rest (a.put o.dst (.agg cs)) w) : wpListIn F m P ops Q (o :: rest) a w := by
  refine wpListIn_plain hgd fun K hK => ?_
  unfold Oper.wpIn
  refine ⟨?_, ?_⟩
  · simp [Oper.about, ho]
  · rw [Oper.semAt_plain F _ _ (by rw [ho]; intro c hc'; cases hc')]
    simp only [execOp, ho, hx, Instr.loadAt, Instr.sureAddr, Sem.run_bind, Sem.run_pure, Result.andThen_ok, run_loadVar_row w g t ty cs fr d hg hu hd hi]
    exact hK _ _ h
theorem wpListIn_store_row {ops : Array Oper} {rest : List Oper} {o : Oper} {a : Act} {Q : Exit → Act → World → Prop} (hgd : o.guard = none) (ty : TypeId) (x y : Operand) (ho : o.op = .store ty x y)
    (g : Nat) (cells : Array Value) (hx : a.eval x = .pointer (some ⟨g, 0, none⟩)) (hy : a.eval y = .agg cells)
    (t : TypeId) (old : Array Value) (hg : w.heap[g]? = some (.cells old t (0, 0))) (hi : (P.info? ty).map (·.size) = some cells.size)
    (hold : old.size = cells.size) (h1 : cells.all (·.oneCell') = true)
    (h : wpListIn F m P ops Q rest (a.put o.dst undef) (w.setRow g cells)) : wpListIn F m P ops Q (o :: rest) a w := by
  refine wpListIn_plain hgd fun K hK => ?_
  unfold Oper.wpIn
  refine ⟨?_, ?_⟩
  · simp [Oper.about, ho]
  · rw [Oper.semAt_plain F _ _ (by rw [ho]; intro c hc'; cases hc')]
    simp only [execOp, ho, hx, hy, Instr.storeAt, Instr.sureAddr, Sem.run_bind, Sem.run_pure, Result.andThen_ok, run_storeVar_row w g t ty old cells hg hi hold h1]
    exact hK _ _ h
end
/-- In a region that draws its order: a whole variable's load, whose block reads the same in every world met. -/
theorem yieldsIf_load_row {P : Program} {ops : Array Oper} {S : World → Prop} {op : Oper} {a : Act} (hw : Region.wanted op (yielded ops a.tmps) = true) (ty : TypeId) (x : Operand) (ho : op.op = .load ty x)
    (g : Nat) (hx : a.eval x = .pointer (some ⟨g, 0, none⟩)) (t : TypeId) (cs : Array Value) (d : TypeDesc) (hS : ∀ w, S w → w.heap[g]? = some (.cells cs t (0, 0)))
    (hu : P.underlying ty = some d) (hd : (match d with | .struct _ | .array _ _ => true | _ => false) = true) (hi : (P.info? ty).map (·.size) = some cs.size) : YieldsIf P ops S op (.agg cs) a :=
  .inl ⟨hw, fun w hw' => by
    unfold execOp
    simp only [ho, hx, Instr.loadAt, Instr.sureAddr, Sem.run_bind, Sem.run_pure, Result.andThen_ok, run_loadVar_row w g t ty cs (0, 0) d (hS w hw') hu hd hi]⟩
end Go.Proofs.Ytghogabmkbadjab

/- Marks and ideals: the program's. -/
namespace Go.Proofs.Ytghogabmkbadjab
open Go.RowKit Go.Shelf
attribute [local go_sem] Oper.semAt_some
attribute [local go_sem, local simp] wide_fn

/-- What is marked when the items of a list are over. -/
def mkL (l : List Nat) : Int := l.foldl (fun (t : Int) (i : Nat) => orI t (powI i)) 0
theorem mkL_snoc (l : List Nat) (i : Nat) : mkL (l ++ [i]) = orI (mkL l) (powI i) := by simp [mkL]
theorem mkL_fin : ∀ k : Fin 64, mkL (itemsL (k.val : Int)) = (k.val : Int) := by decide +kernel
theorem mkL_all {s : Int} (h0 : 0 ≤ s) (h1 : s < 64) : mkL (itemsL s) = s := by
  obtain ⟨k, rfl⟩ := Int.eq_ofNat_of_zero_le h0
  exact mkL_fin ⟨k, by omega⟩

/-- Block b is just the marks of s. -/
def Mks (w : World) (b : Nat) (s : Int) : Prop := w.heap[b]? = some (.cells (mkV s) 151 (0, 0))
section
variable {w w' : World} {b : Nat} {s : Int} {R : Nat → Prop}
theorem Mks.lt (h : Mks w b s) : b < w.heap.size := (Array.getElem?_eq_some_iff.1 h).1
theorem Mks.upd (h : Mks w b s) (hu : Upd R w w') (hr : ¬ R b) : Mks w' b s := (hu.block b h.lt hr).trans h
theorem Mks.drewN (h : Mks w b s) (n : Nat) : Mks (w.drewN n) b s := h
theorem Mks.alloc (h : Mks w b s) (o : Obj) : Mks (w.alloc o) b s := (Below.heap_alloc w o b h.lt).trans h
theorem Mks.cell (h : Mks w b s) {k : Nat} (hk : k < 6) : w.cell? ⟨b, k, none⟩ = some (.bool (bitB s k)) := by
  rw [cell_of_row w b k _ _ (0, 0) h, mkV_get s hk]
theorem Mks.frozen (h : Mks w b s) (k : Nat) : w.frozen? ⟨b, k, none⟩ = false := by
  unfold Mks at h
  simp [World.frozen?, h]
theorem Mks.set (h : Mks w b s) {k : Nat} (hk : k < 6) : Mks (w.setCell ⟨b, k, none⟩ (.bool true)) b (orI s (powI k)) := by
  unfold Mks at h ⊢
  rw [← mkV_set s hk]
  simp [World.setCell, Array.getElem?_modify, h]
theorem Mks.new (w : World) (s : Int) : Mks (w.alloc (.cells (mkV s) 151)) w.heap.size s := heap_alloc_new w _
end

set_option maxRecDepth 100000 in
set_option maxHeartbeats 4000000 in
theorem marks_any (s : Int) (h0 : 0 ≤ s) (h1 : s < 64) (w : World) :
    Calls Try.prog 184 #[.int .i64 s] w fun e W' => e = .returned (.agg (mkV s)) ∧ Below w.heap.size w W' := by
  refine (callsIn_wide (n := 9)).1 ?_
  refine callsIn_of_wp_marks Try.func184 rfl trivial ?_ rfl
  simp only [Try.ntmps184, List.size_toArray, List.length_cons, List.length_nil, Nat.reduceAdd, Nat.reduceSub, Array.replicate_succ, Array.replicate_zero, List.push_toArray, List.append_toArray, List.nil_append, List.cons_append]
  gi_wp2_with (gi_at_call 143; refine (callsIn_wide.2 (each_any _ _)).mono ?_; rintro e w' ⟨rfl, rfl⟩)
  rw [← mkV_none]
  have bR := ((Mks.new w 0).alloc (.cells (mkV 0) 151)).alloc (.cells #[Value.int .i64 s] 76)
  have bM := (Mks.new (w.alloc (.cells (mkV 0) 151)) 0).alloc (.cells #[Value.int .i64 s] 76)
  have bE := Boxed.new ((w.alloc (.cells (mkV 0) 151)).alloc (.cells (mkV 0) 151)) 76 (.int .i64 s)
  have hu0 : Upd (fun _ => False) w (((w.alloc (.cells (mkV 0) 151)).alloc (.cells (mkV 0) 151)).alloc (.cells #[Value.int .i64 s] 76)) := (((Upd.refl _ w).alloc _).alloc _).alloc _
  have hz0 : (((w.alloc (.cells (mkV 0) 151)).alloc (.cells (mkV 0) 151)).alloc (.cells #[Value.int .i64 s] 76)).heap.size = w.heap.size + 3 := by simp
  simp only [World.size_alloc] at bM bE
  obtain ⟨W0, hW0⟩ : ∃ W0, (((w.alloc (.cells (mkV 0) 151)).alloc (.cells (mkV 0) 151)).alloc (.cells #[Value.int .i64 s] 76)) = W0 := ⟨_, rfl⟩
  rw [hW0] at bR bM bE hu0 hz0 ⊢
  clear hW0
  refine range_out (n := 9) (gf := 177) (lb := #[.pointer (some ⟨w.heap.size + 1 + 1, 0, none⟩)]) rfl (enters_of Try.func177 (by kernel_rfl) rfl) (encs := encI) (L := itemsL s)
    (fun k => k = w.heap.size + 1) (fun k e => by omega) (fun _ => rfl)
    (fun W1 l1 hu1 hl1 hl2 => each_iter s h0 (by omega) _ _ W1 (hu1.boxed bE (fun e => e)) (fun e => by omega))
    (fun pre D W => Mks W (w.heap.size + 1) (mkL pre) ∧ Upd (fun k => k = w.heap.size + 1) W0 W)
    (fun _ _ _ _ => False)
    (fun _ D X Y hs hu => ⟨hs.1.upd hu (fun e => by omega), hs.2.trans' hu (fun i hi e => by omega)⟩)
    (fun _ _ _ _ _ hs _ => hs)
    ⟨bM, Upd.refl _ _⟩ ?owes ?done ?stop
  case owes =>
    rintro l1 pre x D1 W hl1 hl2 hDl hD1 - hpre K hK
    gi_wp2
    refine hK _ _ (Upd.refl _ _) ?_
    rintro Wb hWb - ⟨bM1, hU⟩
    clear hK
    obtain ⟨hx6, hxb⟩ := mem_itemsTo.1 (hpre.subset (by simp : x ∈ pre ++ [x]))
    have hcx := bM1.cell hx6
    have hfx := bM1.frozen x
    have Hn := Lib.hid (mkL_snoc pre x)
    gi_wp2
    exact ⟨D1, ⟨by rw [Hn.out]; exact bM1.set hx6, hU.setCell (p := ⟨w.heap.size + 1, x, none⟩) (.inr rfl) _⟩, (Upd.refl _ _).setCell (p := ⟨w.heap.size + 1, x, none⟩) (.inr (.inl rfl)) _, fun k hk => .inl hk⟩
  case done =>
    rintro d D1 W hd ⟨bM1, hU⟩ hD1 hKd
    rw [mkL_all h0 h1] at bM1
    have bR1 := hU.block w.heap.size (by omega) (by omega)
    have hgR : W.heap[w.heap.size]? = some (.cells (mkV 0) 151 (0, 0)) := bR1.trans bR
    clear bR1
    gi_wp2_with (first
      | (refine wpListIn_load_row rfl _ _ rfl (w.heap.size + 1) rfl _ (mkV s) (0, 0) _ bM1 Try.underlying151 rfl (by rw [mkV_size]; kernel_rfl) ?_)
      | (refine wpListIn_store_row rfl _ _ _ rfl w.heap.size (mkV s) rfl rfl _ (mkV 0) hgR (by rw [mkV_size]; kernel_rfl) (by rw [mkV_size, mkV_size]) (mkV_one s) ?_))
    have hKd2 := (setRow_other W w.heap.size d (mkV s) (by omega)).trans hKd
    have bS : Mks (W.setRow w.heap.size (mkV s)) w.heap.size s := setRow_heap _ _ _ _ _ _ hgR
    have hU2 : Upd (fun k => w.heap.size ≤ k) W0 (W.setRow w.heap.size (mkV s)) := (hU.mono (fun k _ e => by omega)).setRow (.inr (Nat.le_refl _)) _
    obtain ⟨W2, hW2⟩ : ∃ W2, W.setRow w.heap.size (mkV s) = W2 := ⟨_, rfl⟩
    rw [hW2] at hKd2 bS hU2 ⊢
    clear hW2
    refine leaves_marks [d] W2 ⟨by simp, fun b hb => ?_⟩ (fun W' hu' => ?_)
    · rw [List.mem_singleton.1 hb]
      exact hKd2
    · refine ⟨.agg (mkV s), results_cell_row rfl _ _ w.heap.size _ (mkV s) (0, 0) _ rfl (bS.upd hu' (by simp; omega)) Try.underlying151 rfl (by rw [mkV_size]; kernel_rfl), rfl,
        (((hu0.mono fun _ _ e => e.elim).trans' hU2 (fun i hi e => by omega)).trans' hu' (fun i hi e => by simp at e; omega)).toBelow (R := fun _ => False) (fun _ e => e.elim) (Nat.le_refl _)⟩
  case stop =>
    rintro d D1 co pre W hd hpre h
    exact h.elim

theorem idx_mkV (s : Int) {k : Nat} (hk : k < 6) (w : World) : (Instr.index 151 (.agg (mkV s)) (.int .i64 k)).run Try.prog w = .ok (.bool (bitB s k)) w := by
  have i0 : ∀ w : World, (Instr.index 151 (.agg (mkV s)) (.int .i64 ((0 : Nat) : Int))).run Try.prog w = .ok (.bool (bitB s ((0 : Nat) : Int))) w := fun _ => by kernel_rfl
  have i1 : ∀ w : World, (Instr.index 151 (.agg (mkV s)) (.int .i64 ((1 : Nat) : Int))).run Try.prog w = .ok (.bool (bitB s ((1 : Nat) : Int))) w := fun _ => by kernel_rfl
  have i2 : ∀ w : World, (Instr.index 151 (.agg (mkV s)) (.int .i64 ((2 : Nat) : Int))).run Try.prog w = .ok (.bool (bitB s ((2 : Nat) : Int))) w := fun _ => by kernel_rfl
  have i3 : ∀ w : World, (Instr.index 151 (.agg (mkV s)) (.int .i64 ((3 : Nat) : Int))).run Try.prog w = .ok (.bool (bitB s ((3 : Nat) : Int))) w := fun _ => by kernel_rfl
  have i4 : ∀ w : World, (Instr.index 151 (.agg (mkV s)) (.int .i64 ((4 : Nat) : Int))).run Try.prog w = .ok (.bool (bitB s ((4 : Nat) : Int))) w := fun _ => by kernel_rfl
  have i5 : ∀ w : World, (Instr.index 151 (.agg (mkV s)) (.int .i64 ((5 : Nat) : Int))).run Try.prog w = .ok (.bool (bitB s ((5 : Nat) : Int))) w := fun _ => by kernel_rfl
  have h : k = 0 ∨ k = 1 ∨ k = 2 ∨ k = 3 ∨ k = 4 ∨ k = 5 := by omega
  rcases h with rfl | rfl | rfl | rfl | rfl | rfl
  · exact i0 w
  · exact i1 w
  · exact i2 w
  · exact i3 w
  · exact i4 w
  · exact i5 w
/-- The items less than k of a set. -/
def upTo (s : Int) (k : Nat) : Int := mkL (itemsTo s k)
theorem upTo_yes {s : Int} {k : Nat} (h : bitB s k = true) : upTo s (k + 1) = orI (upTo s k) (powI k) := by unfold upTo; rw [itemsTo_yes h, mkL_snoc]
theorem upTo_no {s : Int} {k : Nat} (h : bitB s k = false) : upTo s (k + 1) = upTo s k := by unfold upTo; rw [itemsTo_no h]
theorem upTo_bd (s : Int) : ∀ k : Nat, 0 ≤ upTo s k ∧ upTo s k < powI k
  | 0 => by simp [upTo, itemsTo, mkL, powI]
  | k + 1 => by
    have ih := upTo_bd s k
    have hp : powI (k : Int) < powI ((k + 1 : Nat) : Int) := powI_lt (by omega)
    cases h : bitB s k
    · rw [upTo_no h]; omega
    · rw [upTo_yes h]; exact orI_bd ih.1 (by omega) (Int.le_of_lt (powI_pos _)) hp

set_option maxHeartbeats 1000000 in
theorem mitems_any (s : Int) (h0 : 0 ≤ s) (h1 : s < 64) (w : World) :
    Calls Try.prog 185 #[.agg (mkV s)] w fun e W' => e = .returned (.int .i64 s) ∧ Below w.heap.size w W' := by
  go_enter Try.func185, Try.ntmps185
  have hb : (w.alloc (.cells (mkV s) 151)).heap[w.heap.size]? = some (.cells (mkV s) 151 (0, 0)) := heap_alloc_new w _
  have hB : Below w.heap.size w (w.alloc (.cells (mkV s) 151)) := (Below.refl _ _).alloc (Nat.le_refl _) _
  go_wp2_with (refine wpList_load_row rfl _ _ rfl w.heap.size rfl _ (mkV s) (0, 0) _ hb Try.underlying151 rfl (by rw [mkV_size]; kernel_rfl) ?_)
  go_loop [3, 7] (fun t i => ∃ k : Nat, k ≤ 6 ∧ i = .int .i64 k ∧ t = .int .i64 (upTo s k)) (fun _ i => 6 - (intOf i).toNat)
  case atStart => exact ⟨0, by omega, rfl, rfl⟩
  case round =>
    obtain ⟨k, hk, rfl, rfl⟩ := hrel
    by_cases hlt : k < 6
    · have hix := fun w => idx_mkV s hlt w
      have hbd := upTo_bd s k
      have hpk : powI k ≤ 64 := powI_le6 (by omega)
      cases hbit : bitB s k
      · have Hn := Lib.hid (upTo_no hbit)
        go_wp2
        go_round
        case rel => exact ⟨k + 1, by omega, by go_num, by rw [Hn.out]⟩
        case measure => simp [intOf]; omega
      · have Hn := Lib.hid (upTo_yes hbit)
        go_wp2_with (go_at_call 115; refine (with_any _ _ _ (by omega) (by omega) (by omega) (by omega)).mono ?_; rintro e w' ⟨rfl, rfl⟩)
        go_round
        case rel => exact ⟨k + 1, by omega, by go_num, by rw [Hn.out]⟩
        case measure => simp [intOf]; omega
    · obtain rfl : k = 6 := by omega
      have Hs := Lib.hid (show upTo s 6 = s from mkL_all h0 h1)
      go_wp2
      go_ret
      exact ⟨ret_int Hs.out, hB⟩

set_option maxRecDepth 100000 in
set_option maxHeartbeats 4000000 in
theorem markBelow_any (A : Option Addr) (n c : Nat) (zs : List Int) (s : Int) (hvo : VoP zs) (w : World) (hA : Ints w w.heap.size A n zs) (h0 : 0 ≤ s) (h1 : s < powI n) :
    Calls Try.prog 183 #[.slice A n c, .agg (mkV s)] w fun e W' => e = .returned (.agg (mkV (belI zs s))) ∧ Below w.heap.size w W' := by
  refine (callsIn_wide (n := 9)).1 ?_
  refine callsIn_of_wp_marks Try.func183 rfl trivial ?_ rfl
  simp only [Try.ntmps183, List.size_toArray, List.length_cons, List.length_nil, Nat.reduceAdd, Nat.reduceSub, Array.replicate_succ, Array.replicate_zero, List.push_toArray, List.append_toArray, List.nil_append, List.cons_append]
  gi_wp2_with (gi_at_call 107; refine (callsIn_wide.2 (pairs_any _ _ _ _)).mono ?_; rintro e w' ⟨rfl, rfl⟩)
  rw [← mkV_none]
  have bM := ((Mks.new w s).alloc (.cells (mkV 0) 151)).alloc (.cells #[Value.slice A n c] 49)
  have bR := (Mks.new (w.alloc (.cells (mkV s) 151)) 0).alloc (.cells #[Value.slice A n c] 49)
  have bP := Boxed.new ((w.alloc (.cells (mkV s) 151)).alloc (.cells (mkV 0) 151)) 49 (.slice A n c)
  have hu0 : Upd (fun _ => False) w (((w.alloc (.cells (mkV s) 151)).alloc (.cells (mkV 0) 151)).alloc (.cells #[Value.slice A n c] 49)) := (((Upd.refl _ w).alloc _).alloc _).alloc _
  have hz0 : (((w.alloc (.cells (mkV s) 151)).alloc (.cells (mkV 0) 151)).alloc (.cells #[Value.slice A n c] 49)).heap.size = w.heap.size + 3 := by simp
  simp only [World.size_alloc] at bR bP
  obtain ⟨W0, hW0⟩ : ∃ W0, (((w.alloc (.cells (mkV s) 151)).alloc (.cells (mkV 0) 151)).alloc (.cells #[Value.slice A n c] 49)) = W0 := ⟨_, rfl⟩
  rw [hW0] at bR bM bP hu0 hz0 ⊢
  clear hW0
  have hlen := Lib.hid hA.len
  have hn6 : n ≤ 6 := by have := hvo.1; rw [hlen.out] at this; exact this
  have hpn : powI n ≤ 64 := powI_le6 (by omega)
  have hA0 : Ints W0 w.heap.size A n zs := hA.below (hu0.toBelow (fun _ e => e.elim) (Nat.le_refl _))
  refine range_out (n := 9) (gf := 145) (lb := #[.pointer (some ⟨w.heap.size + 1 + 1, 0, none⟩)]) rfl (enters_of Try.func145 (by kernel_rfl) rfl) (encs := encP) (L := pairsL zs)
    (fun k => k = w.heap.size) (fun k e => by omega) (fun _ => rfl)
    (fun W1 l1 hu1 hl1 hl2 => pairs_iter_at hvo.sets bP (fun k e => by omega) (by omega) hA0 (by omega) (fun k e => by omega) hu1 hl1 hl2)
    (fun pre D W => Mks W w.heap.size (mkP s pre) ∧ Upd (fun k => k = w.heap.size) W0 W)
    (fun _ _ _ _ => False)
    (fun _ D X Y hs hu => ⟨hs.1.upd hu (fun e => by omega), hs.2.trans' hu (fun i hi e => by omega)⟩)
    (fun _ _ _ _ _ hs _ => hs)
    ⟨bM, Upd.refl _ _⟩ ?owes ?done ?stop
  case owes =>
    rintro l1 pre ⟨lo, hi⟩ D1 W hl1 hl2 hDl hD1 - hpre K hK
    gi_wp2
    refine hK _ _ (Upd.refl _ _) ?_
    rintro Wb hWb - ⟨bM1, hU⟩
    clear hK
    obtain ⟨hlo, hhi, hbit⟩ := hvo.sets.pair (a := lo) (b := hi) (hpre.subset (by simp))
    rw [hlen.out] at hlo hhi
    have hch := bM1.cell (k := hi) (by omega)
    have hcl := bM1.cell (k := lo) (by omega)
    have hfl := bM1.frozen lo
    cases hb : bitB (mkP s pre) hi
    · have Hn := Lib.hid (mkP_no (a := lo) hb)
      gi_wp2
      exact ⟨D1, ⟨by rw [Hn.out]; exact bM1, hU⟩, Upd.refl _ _, fun k hk => .inl hk⟩
    · have Hn := Lib.hid (mkP_yes (a := lo) hb)
      gi_wp2
      exact ⟨D1, ⟨by rw [Hn.out]; exact bM1.set (by omega), hU.setCell (p := ⟨w.heap.size, lo, none⟩) (.inr rfl) _⟩, (Upd.refl _ _).setCell (p := ⟨w.heap.size, lo, none⟩) (.inr (.inl rfl)) _, fun k hk => .inl hk⟩
  case done =>
    rintro d D1 W hd ⟨bM1, hU⟩ hD1 hKd
    rw [mkP_all hvo h0 (by rw [hlen.out]; exact h1)] at bM1
    have bR1 := hU.block (w.heap.size + 1) (by omega) (by omega)
    have hgR : W.heap[w.heap.size + 1]? = some (.cells (mkV 0) 151 (0, 0)) := bR1.trans bR
    clear bR1
    gi_wp2_with (first
      | (refine wpListIn_load_row rfl _ _ rfl w.heap.size rfl _ (mkV (belI zs s)) (0, 0) _ bM1 Try.underlying151 rfl (by rw [mkV_size]; kernel_rfl) ?_)
      | (refine wpListIn_store_row rfl _ _ _ rfl (w.heap.size + 1) (mkV (belI zs s)) rfl rfl _ (mkV 0) hgR (by rw [mkV_size]; kernel_rfl) (by rw [mkV_size, mkV_size]) (mkV_one _) ?_))
    have hKd2 := (setRow_other W (w.heap.size + 1) d (mkV (belI zs s)) (by omega)).trans hKd
    have bS : Mks (W.setRow (w.heap.size + 1) (mkV (belI zs s))) (w.heap.size + 1) (belI zs s) := setRow_heap _ _ _ _ _ _ hgR
    have hU2 : Upd (fun k => w.heap.size ≤ k) W0 (W.setRow (w.heap.size + 1) (mkV (belI zs s))) := (hU.mono (fun k _ e => by omega)).setRow (.inr (by omega)) _
    obtain ⟨W2, hW2⟩ : ∃ W2, W.setRow (w.heap.size + 1) (mkV (belI zs s)) = W2 := ⟨_, rfl⟩
    rw [hW2] at hKd2 bS hU2 ⊢
    clear hW2
    refine leaves_marks [d] W2 ⟨by simp, fun b hb => ?_⟩ (fun W' hu' => ?_)
    · rw [List.mem_singleton.1 hb]
      exact hKd2
    · refine ⟨.agg (mkV (belI zs s)), results_cell_row rfl _ _ (w.heap.size + 1) _ (mkV (belI zs s)) (0, 0) _ rfl (bS.upd hu' (by simp; omega)) Try.underlying151 rfl (by rw [mkV_size]; kernel_rfl), rfl,
        (((hu0.mono fun _ _ e => e.elim).trans' hU2 (fun i hi e => by omega)).trans' hu' (fun i hi e => by simp at e; omega)).toBelow (R := fun _ => False) (fun _ e => e.elim) (Nat.le_refl _)⟩
  case stop =>
    rintro d D1 co pre W hd hpre h
    exact h.elim

theorem obelow_any (A : Option Addr) (n c : Nat) (zs : List Int) (s : Int) (hvo : VoP zs) (w : World) (hA : Ints w w.heap.size A n zs) (h0 : 0 ≤ s) (h1 : s < powI n) :
    Calls Try.prog 156 #[.slice A n c, .int .i64 s] w fun e W' => e = .returned (.int .i64 (belI zs s)) ∧ Below w.heap.size w W' := by
  have hlen := Lib.hid hA.len
  have hn6 : n ≤ 6 := by have := hvo.1; rw [hlen.out] at this; exact this
  have hpn : powI n ≤ 64 := powI_le6 (by omega)
  have hbd := belI_bd hvo.sets h0 (by rw [hlen.out]; exact h1)
  rw [hlen.out] at hbd
  go_enter Try.func156, Try.ntmps156
  go_wp2_with fail
  refine (marks_any s h0 (by omega) _).mono ?_
  rintro e w1 ⟨rfl, hB1⟩
  have z1 := hB1.size
  go_wp2_with fail
  refine (markBelow_any _ n _ zs s hvo _ (hA.to hB1 (Nat.le_refl _) z1) h0 h1).mono ?_
  rintro e w2 ⟨rfl, hB2⟩
  have z2 := hB2.size
  go_wp2_with fail
  refine (mitems_any _ hbd.1 (by omega) _).mono ?_
  rintro e w3 ⟨rfl, hB3⟩
  go_wp2_with fail
  go_ret
  exact ⟨rfl, hB1.trans ((hB2.mono z1).trans (hB3.mono (by omega)))⟩

end Go.Proofs.Ytghogabmkbadjab

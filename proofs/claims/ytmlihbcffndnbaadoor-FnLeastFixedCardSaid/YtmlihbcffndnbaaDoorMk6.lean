/- Marks: a set as six bools in an array; made, read, compared; what is below a set, and whether it is an ideal: the program's. -/
import Derived.Test.YtmlihbcffndnbaaDoorGb
import Derived.Test.YtmlihbcffndnbaaDoorGa
import Derived.Test.YtmlihbcffndnbaaDoorLineI
import Derived.ChangeKeysEq
import Derived.Deep.RegionHeld3
set_option linter.unusedVariables false
set_option linter.unusedSimpArgs false
namespace Go.Proofs.YtmlihbcffndnbaaDoor
open Go.RowKit Go.Shelf
attribute [local go_sem] Oper.semAt_some
attribute [local go_sem, local simp] wide_fn

/-- The six marks of a set. -/
def mkV (s : Int) : Array Value := ((List.range 6).map fun j : Nat => Value.bool (bitB s j)).toArray
theorem mkV_size (s : Int) : (mkV s).size = 6 := by simp [mkV]
theorem mkV_get (s : Int) {j : Nat} (hj : j < 6) : (mkV s)[j]? = some (.bool (bitB s j)) := by
  simp [mkV, hj]
theorem mkV_one (s : Int) : (mkV s).all (·.oneCell') = true := by
  refine Array.all_eq_true.2 fun i hi => ?_
  simp [mkV, Value.oneCell']
theorem mkV_set (s : Int) {k : Nat} (_hk : k < 6) : (mkV s).setIfInBounds k (.bool true) = mkV (orI s (powI k)) := by
  refine Array.ext (by simp [mkV_size]) fun j h1 h2 => ?_
  rw [Array.getElem_setIfInBounds (by simpa using h1)]
  simp only [mkV, List.getElem_toArray, List.getElem_map, List.getElem_range, bitB_or, bitB_pow]
  by_cases h : k = j
  · simp [h]
  · simp [h]
theorem mkV_none : mkV 0 = #[.bool false, .bool false, .bool false, .bool false, .bool false, .bool false] := by
  simp [mkV, bitB_zero, List.range_succ]

section
variable {P : Program} (w : World)
theorem part_mkV {e : TypeId} (he : P.underlying e = some .bool) (s : Int) {i : Nat} (hi : i < 6) : (part e (mkV s) (i * 1)).run P w = .ok (.bool (bitB s i)) w := by
  have h := mkV_get s hi
  have h6 := mkV_size s
  rw [Array.getElem?_eq_getElem (by omega)] at h
  simp only [Option.some.injEq] at h
  simp [part, isAgg, run_underlying he, h6, hi, h]
theorem eqItems_mkV {e : TypeId} (he : P.underlying e = some .bool) (d : Nat) (s t : Int) : ∀ l : List Nat, (∀ i ∈ l, i < 6) →
    (Op.eqItems (d + 1) e 1 (mkV s) (mkV t) l).run P w = .ok (l.all fun i : Nat => bitB s i == bitB t i) w
  | [], _ => by simp [Op.eqItems]
  | i :: l, h => by
    have ih := eqItems_mkV he d s t l (fun j hj => h j (by simp [hj]))
    have hi := h i (by simp)
    simp only [Op.eqItems, Sem.run_bind, part_mkV w he s hi, part_mkV w he t hi, Result.andThen_ok, run_equalIn_bool' w d e _ _ he]
    cases hb : (bitB s i == bitB t i)
    · simp [hb]
    · simp [hb, ih]
theorem run_eql_mkV {t e : TypeId} (hu : P.underlying t = some (.array 6 e)) (he : P.underlying e = some .bool) (hi : (P.info? e).isSome = true) (hc : P.cellsOf e = 1) (x y : Int) (hx0 : 0 ≤ x) (hx : x < 64) (hy0 : 0 ≤ y) (hy : y < 64) :
    (binOp .eql t (.agg (mkV x)) (.agg (mkV y))).run P w = .ok (.bool (x == y)) w := by
  obtain ⟨i, hi⟩ := Option.isSome_iff_exists.1 hi
  rw [run_eql_struct, run_equalIn_array w 9999 _ _ hu hi, hc, eqItems_mkV w he 9998 x y _ (fun i hi => by simpa using hi)]
  have key : ((List.range 6).all fun i : Nat => bitB x i == bitB y i) = (x == y) := by
    rw [Bool.eq_iff_iff, List.all_eq_true, beq_iff_eq]
    constructor
    · intro h
      refine bitB_ext hx0 hy0 fun j => ?_
      rcases Nat.lt_or_ge j 6 with hj | hj
      · simpa using h j (by simpa using hj)
      · have e1 : bitB x j = false := by
          cases e : bitB x j
          · rfl
          · have := bitB_lt (n := 6) hx e; omega
        have e2 : bitB y j = false := by
          cases e : bitB y j
          · rfl
          · have := bitB_lt (n := 6) hy e; omega
        rw [e1, e2]
    · rintro rfl; simp
  rw [key]
  rfl
end

theorem Upd.setRow {R : Nat → Prop} {a w : World} (h : Upd R a w) {g : Nat} (hp : a.heap.size ≤ g ∨ R g) (cs : Array Value) : Upd R a (w.setRow g cs) :=
  ⟨h.os, h.tape, h.output, by simpa using h.size, fun i hi hr => (setRow_other w g i cs (by
    rintro rfl
    rcases hp with hp | hp
    · omega
    · exact hr hp)).trans (h.block i hi hr)⟩

section
variable {F : Fence} {m : Nat} {P : Program} {w : World}
theorem wpListIn_load_row {ops : Array Oper} {rest : List Oper} {o : Oper} {a : Act} {Q : Exit → Act → World → Prop} (hgd : o.guard = none) (ty : TypeId) (x : Operand) (ho : o.op = .load ty x)
    (g : Nat) (hx : a.eval x = .pointer (some ⟨g, 0, none⟩)) (t : TypeId) (cs : Array Value) (fr : Nat × Nat) (d : TypeDesc) (hg : w.heap[g]? = some (.cells cs t fr))
    (hu : P.underlying ty = some d) (hd : (match d with | .struct _ | .array _ _ => true | _ => false) = true) (hi : (P.info? ty).map (·.size) = some cs.size)
    (h : wpListIn F m P ops Q rest (a.put o.dst (.agg cs)) w) : wpListIn F m P ops Q (o :: rest) a w := by
  refine wpListIn_plain hgd fun K hK => ?_
  unfold Oper.wpIn
  refine ⟨?_, ?_⟩
  · simp [Oper.about, ho]
  · rw [Oper.semAt_plain F _ _ (by rw [ho]; intro c hc'; cases hc')]
    simp only [execOp, ho, hx, Instr.loadAt, Instr.sureAddr, Sem.run_bind, Sem.run_pure, Result.andThen_ok, run_loadVar_row w g t ty cs fr d hg hu hd hi]
    exact hK _ _ h
theorem wpListIn_store_row {ops : Array Oper} {rest : List Oper} {o : Oper} {a : Act} {Q : Exit → Act → World → Prop} (hgd : o.guard = none) (ty : TypeId) (x y : Operand) (ho : o.op = .store ty x y)
    (g : Nat) (cells : Array Value) (hx : a.eval x = .pointer (some ⟨g, 0, none⟩)) (hy : a.eval y = .agg cells)
    (t : TypeId) (old : Array Value) (hg : w.heap[g]? = some (.cells old t (0, 0))) (hi : (P.info? ty).map (·.size) = some cells.size)
    (hold : old.size = cells.size) (h1 : cells.all (·.oneCell') = true)
    (h : wpListIn F m P ops Q rest (a.put o.dst undef) (w.setRow g cells)) : wpListIn F m P ops Q (o :: rest) a w := by
  refine wpListIn_plain hgd fun K hK => ?_
  unfold Oper.wpIn
  refine ⟨?_, ?_⟩
  · simp [Oper.about, ho]
  · rw [Oper.semAt_plain F _ _ (by rw [ho]; intro c hc'; cases hc')]
    simp only [execOp, ho, hx, hy, Instr.storeAt, Instr.sureAddr, Sem.run_bind, Sem.run_pure, Result.andThen_ok, run_storeVar_row w g t ty old cells hg hi hold h1]
    exact hK _ _ h
end
/-- In a region that draws its order: a whole variable's load, whose block reads the same in every world met. -/
theorem yieldsIf_load_row {P : Program} {ops : Array Oper} {S : World → Prop} {op : Oper} {a : Act} (hw : Region.wanted op (yielded ops a.tmps) = true) (ty : TypeId) (x : Operand) (ho : op.op = .load ty x)
    (g : Nat) (hx : a.eval x = .pointer (some ⟨g, 0, none⟩)) (t : TypeId) (cs : Array Value) (d : TypeDesc) (hS : ∀ w, S w → w.heap[g]? = some (.cells cs t (0, 0)))
    (hu : P.underlying ty = some d) (hd : (match d with | .struct _ | .array _ _ => true | _ => false) = true) (hi : (P.info? ty).map (·.size) = some cs.size) : YieldsIf P ops S op (.agg cs) a :=
  .inl ⟨hw, fun w hw' => by
    unfold execOp
    simp only [ho, hx, Instr.loadAt, Instr.sureAddr, Sem.run_bind, Sem.run_pure, Result.andThen_ok, run_loadVar_row w g t ty cs (0, 0) d (hS w hw') hu hd hi]⟩
end Go.Proofs.YtmlihbcffndnbaaDoor

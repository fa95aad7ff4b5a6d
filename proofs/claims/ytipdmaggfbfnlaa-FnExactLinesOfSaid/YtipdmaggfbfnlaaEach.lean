/- The items of a set, one after the other: the iterator 'each'. -/
import Derived.Test.YtipdmaggfbfnlaaLeaf
import Derived.Test.YtipdmaggfbfnlaaGa
import Derived.RangeFuncBound
import Derived.RangeFuncCalls
import Derived.RangeFuncLeaves
import Derived.Shelf.Abstract
import Derived.Shelf.RegionOpen
import Derived.OwnWalkIn
import Derived.TacticsInMore
import Derived.LoopNIn
import Derived.LoopIn
set_option linter.unusedVariables false
set_option linter.unusedSimpArgs false
namespace Go.Proofs.Ytipdmaggfbfnlaa
open Go.RowKit Go.Shelf
attribute [local go_sem] Oper.semAt_some

/-- The items of s that are less than k, ascending. -/
def itemsTo (s : Int) (k : Nat) : List Nat := (List.range k).filter fun j => bitB s j
def itemsL (s : Int) : List Nat := itemsTo s 6
theorem itemsTo_yes {s : Int} {k : Nat} (h : bitB s k = true) : itemsTo s (k + 1) = itemsTo s k ++ [k] := by
  simp [itemsTo, List.range_succ, h]
theorem itemsTo_no {s : Int} {k : Nat} (h : bitB s k = false) : itemsTo s (k + 1) = itemsTo s k := by
  simp [itemsTo, List.range_succ, h]
theorem itemsTo_pre {s : Int} : ∀ (d k : Nat), itemsTo s k <+: itemsTo s (k + d)
  | 0, k => List.prefix_refl _
  | d + 1, k => (itemsTo_pre d k).trans (by
      rw [← Nat.add_assoc]
      cases h : bitB s ((k + d : Nat) : Int)
      · rw [itemsTo_no h]; exact List.prefix_refl _
      · rw [itemsTo_yes h]; exact List.prefix_append _ _)
theorem itemsTo_le {s : Int} {k m : Nat} (h : k ≤ m) : itemsTo s k <+: itemsTo s m := by
  have := itemsTo_pre (s := s) (m - k) k
  rwa [show k + (m - k) = m from by omega] at this
theorem mem_itemsTo {s : Int} {k j : Nat} : j ∈ itemsTo s k ↔ j < k ∧ bitB s j = true := by simp [itemsTo]
abbrev encI (j : Nat) : Array Value := #[.int .i64 (j : Int)]

theorem each_any (s : Int) (w : World) :
    Calls Try.prog 114 #[.int .i64 s] w fun e w' => e = .returned (.func (.func 141) #[] #[.pointer (some ⟨w.heap.size, 0, none⟩)]) ∧ w' = w.alloc (.cells #[.int .i64 s] 79) := by
  go_enter Try.func114, Try.ntmps114
  go_wp2
  go_ret
  exact ⟨rfl, rfl⟩

set_option maxRecDepth 100000 in
set_option maxHeartbeats 1000000 in
theorem each_iter (s : Int) (h0 : 0 ≤ s) (h1 : s < 64) (b : Nat) (M : Nat → Prop) (w : World) (hb : Boxed w b 79 (.int .i64 s)) (hM : ¬ M b) :
    Iter Try.prog 141 #[.pointer (some ⟨b, 0, none⟩)] encI (itemsL s) M w := fun l J Jx hJ hJx hY h0 => by
  refine (callsIn_wide (n := 9)).1 ?_
  refine callsIn_of_wp Try.func141 rfl trivial ?_ rfl
  simp only [Try.ntmps141, List.size_toArray, List.length_cons, List.length_nil, Nat.reduceAdd, Nat.reduceSub, Array.replicate_succ, Array.replicate_zero, List.push_toArray, List.append_toArray, List.nil_append, List.cons_append]
  gi_wp2
  gi_loopw [4] (fun i wr => ∃ (k : Nat) (D : Nat → Prop), k ≤ 6 ∧ i = .int .i64 k ∧ J (itemsTo s k) D wr ∧ Boxed wr b 79 (.int .i64 s) ∧ ¬ D b ∧ w.heap.size ≤ wr.heap.size) (fun i _ => 6 - (intOf i).toNat)
  case atStart => exact ⟨0, _, by omega, rfl, h0, hb, fun e => e, Nat.le_refl _⟩
  case round =>
    obtain ⟨k, D, hk, rfl, hj, hbx, hDb, hsz⟩ := hrel
    have hc := hbx.cell
    by_cases hlt : k < 6
    · cases hbit : bitB s k
      · have Hj := Lib.hid (itemsTo_no hbit)
        gi_wp2_with ((try refine ⟨trivial, ?_⟩); gi_at_call 108; refine (callsIn_wide.2 (has_any _ _ _ (by omega) (by omega) (by omega) (by omega))).mono ?_; rintro e w' ⟨rfl, rfl⟩)
        refine ⟨fun _ h => (by cases h), ?_⟩
        gi_wp2
        go_roundw
        case rel => exact ⟨k + 1, D, by omega, by go_num, by rw [Hj.out]; exact hj, hbx, hDb, hsz⟩
        case measure => simp [intOf]; omega
      · have Hj := Lib.hid (itemsTo_yes hbit)
        have hpre : itemsTo s k ++ [k] <+: itemsL s := by rw [← Hj.out]; exact itemsTo_le (by omega)
        obtain ⟨fn, tmps, assign, body, hy, hR⟩ := hY (itemsTo s k) k D wr hj hsz hpre 8
        gi_wp2_with ((try refine ⟨trivial, ?_⟩); gi_at_call 108; refine (callsIn_wide.2 (has_any _ _ _ (by omega) (by omega) (by omega) (by omega))).mono ?_; rintro e w' ⟨rfl, rfl⟩)
        refine hR.mono ?_
        have hlt' := hbx.lt
        rintro e W3 (⟨rfl, D', hJ3, hU, hD'⟩ | ⟨rfl, D', hJ3, hU, hD'⟩)
        · have hz3 := hU.size
          have hb3 : Boxed W3 b 79 (.int .i64 s) := hU.boxed hbx (fun e => e.elim hM hDb)
          have hD3 : ¬ D' b := fun e => (hD' b e).elim hDb (fun h => by omega)
          gi_wp2
          go_roundw
          case rel => exact ⟨k + 1, D', by omega, by go_num, by rw [Hj.out]; exact hJ3, hb3, hD3, by omega⟩
          case measure => simp [intOf]; omega
        · gi_wp2
          refine bodyPost_ret (results_none rfl _ _ _) rfl ?_
          exact ⟨⟨_, rfl⟩, .inr ⟨_, D', hpre, hJ3⟩⟩
    · obtain rfl : k = 6 := by omega
      gi_wp2
      go_end0
      exact ⟨⟨_, rfl⟩, .inl ⟨D, hj⟩⟩
end Go.Proofs.Ytipdmaggfbfnlaa

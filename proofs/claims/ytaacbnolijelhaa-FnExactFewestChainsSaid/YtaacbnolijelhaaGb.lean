/- Texts that several claims share, one behind the other. -/
import Derived.Test.YtaacbnolijelhaaGa
import Derived.OrdersHeld
import Derived.Deep.RegionHeld3
import Derived.Laws.CopyOwn
import Derived.Deep.Cut
import Derived.RegionTactic
import Derived.Test.YtaacbnolijelhaaRows
import Derived.ProofKit
import Derived.OpenShut
import Derived.JoinedOf
import Derived.JoinedAt
import Derived.ChangeSlices
import Derived.ChangeSame
import Derived.JoinedCond
set_option linter.unusedVariables false
set_option linter.unusedSimpArgs false
/- A region that draws its order, in a round of a loop over a function, by the laws for plain machines: where nothing in it defers, and no round may outgrow. -/
namespace Go.Proofs.Ytaacbnolijelhaa
open Go.RowKit

section
variable {n : Nat} {P : Program} {ops : Array Oper} {Q : Exit → Act → World → Prop} {md : Region.Mode} {S : World → Prop} {l₀ : Nat}
theorem rows_wide {row : String} {args : Array Value} {w : World} {R : Value → World → Prop} (h : Rows P row args w R) : RowsIn Fence.wide n P row args w R :=
  fun c cs _ => let ⟨v, w', r, s⟩ := h c cs; ⟨v, w', r, stepsIn_wide.2 s⟩
theorem oper_wide {o : Oper} {a : Act} {w : World} {K : Act → World → Prop} (h : o.wp P a w K Q) : o.wpIn Fence.wide n P a w K Q := by
  unfold Oper.wp at h
  refine ⟨fun _ _ => trivial, ?_⟩
  rw [show Fence.wide.round = none from rfl, Oper.semAt_none]
  generalize (execOp a.eval o).run P w = r at h ⊢
  have hd : Fence.wide.depth.isSome = true → 1 ≤ n := fun e => by cases e
  cases r with
  | ok x w' =>
    cases x with
    | value v => exact h
    | skip => exact h
    | defer d => exact h
    | enter f args => exact ⟨hd, callsIn_wide.2 h⟩
    | row row args => exact ⟨hd, rows_wide h⟩
    | _ => exact h.elim
  | halt x w' => cases x <;> exact h
theorem op_wide (hQ : ¬ LetsOut Q) {i : Nat} {a : Act} {w : World} {K K' : Act → World → Prop} (hK : ∀ a w, K a w → K' a w) (h : wpOp P ops Q i K a w) : wpOpIn Fence.wide n P ops Q i K' a w := by
  unfold wpOp at h
  unfold wpOpIn
  split
  · rename_i ho; simp only [ho] at h; exact hK _ _ h
  · rename_i o ho
    simp only [ho] at h
    split
    · rename_i hw
      simp only [hw, if_true] at h
      rcases h with h | h
      · exact Oper.wpIn_mono hK (oper_wide h)
      · exact absurd h.2 hQ
    · rename_i hw
      simp only [hw] at h
      exact ⟨fun _ _ => trivial, hK _ _ h⟩
theorem any_wide (hQ : ¬ LetsOut Q) : ∀ (fuel : Nat) (listed : Array Bool) (a : Act) (w : World), wpAny P md ops Q fuel listed a w → wpAnyIn Fence.wide n P md ops Q fuel listed a w
  | 0, _, _, _, h => h
  | fuel + 1, _, _, _, h => ⟨h.1, fun i hi => op_wide hQ (fun a w h' => any_wide hQ fuel _ a w h') (h.2 i hi)⟩
/-- The beginning, in a round: a condition S on the worlds met is shown of the world behind the draw, and handed on. -/
theorem region_held_round {id : Nat} {a : Act} {w : World} {l : List Oper} (hm : P.follows .mixedOrders = true) (hd : l.all noDefer = true) (hQ : ¬ LetsOut Q) (hS : S w.drew)
    (h : S w.drew → wpAnyH P .any l.toArray Q S l.toArray.size (Array.replicate l.toArray.size false) a w.drew) : (Code.region id l.toArray true).wpIn (Fence.wide.inRound l₀) n P Q a w :=
  wpIn_region_any hm (anyIn_round (fun _ o ho => noDefer_spec (List.all_eq_true.1 hd o (List.mem_of_getElem? (by simpa using ho)))) _ _ _ _ (any_wide hQ _ _ _ _ (wpAny_of_held _ _ _ _ (h hS))))
end

/-! A region whose last operation writes what an earlier one has read: the condition S is asked behind every operation but the last one, z, which waits for all. -/
section
variable {n : Nat} {P : Program} {ops : Array Oper} {Q : Exit → Act → World → Prop} {md : Region.Mode} {S : World → Prop} {z : Nat} {l₀ : Nat}
def anyT (P : Program) (md : Region.Mode) (ops : Array Oper) (Q : Exit → Act → World → Prop) (S : World → Prop) (z : Nat) : Nat → Array Bool → Act → World → Prop
  | 0, listed, a, w => Region.ready md ops listed = [] ∧ Q .normal a w
  | fuel + 1, listed, a, w => (Region.ready md ops listed = [] → Q .normal a w) ∧
    ∀ i ∈ Region.ready md ops listed, wpOp P ops Q i (fun a' w' => (i ≠ z → S w') ∧ anyT P md ops Q S z fuel (listed.setIfInBounds i true) a' w') a w
theorem any_of_T : ∀ (fuel : Nat) (listed : Array Bool) (a : Act) (w : World), anyT P md ops Q S z fuel listed a w → wpAny P md ops Q fuel listed a w
  | 0, _, _, _, h => h
  | fuel + 1, _, _, _, h => ⟨h.1, fun i hi => wpOp_mono (fun a' w' h' => any_of_T fuel _ a' w' h'.2) (h.2 i hi)⟩
/-- What may come up before the last one may be taken first, if it yields the same in every world met. -/
theorem anyT_first {i : Nat} {oi : Oper} {v : Value} (hi : ops[i]? = some oi) (hsel : ∀ (j : Nat) (o : Oper) cs b, ops[j]? = some o → o.op ≠ .select cs b)
    (hQ : ∀ c a w, Q (.panic c) (a.put oi.dst v) w → Q (.panic c) a w) (hs : Region.sinkB md ops z = true) (hc : Region.chainB md ops z = true) (hz : z < ops.size) (hiz : i < z) :
    ∀ (fuel : Nat) (listed : Array Bool) (a : Act) (w : World), HeadInv md ops z listed →
      (∀ j oj, ops[j]? = some oj → j ≠ i → listed.getD j true = false → (∀ e ∈ oj.after, Region.binds md e = true → e.on ≠ i) → oi.apart ops oj = true) →
      i ∈ Region.ready md ops listed → YieldsIf P ops S oi v a → S w →
      anyT P md ops Q S z fuel (listed.setIfInBounds i true) (a.put oi.dst v) w → anyT P md ops Q S z (fuel + 1) listed a w
  | fuel, listed, a, w, inv, hfree, hr, hy, hS, H => by
    have hun := (mem_ready.1 hr).1
    refine ⟨fun h => (by rw [h] at hr; cases hr), fun j hj => ?_⟩
    by_cases hji : j = i
    · rw [hji]; exact hy.wpOp hi hS ⟨fun _ => hS, H⟩
    · have hjz : j < z := by
        rcases Nat.lt_or_ge j z with h | h
        · exact h
        · exact absurd hj (tail_waits hs hc hz inv _ i rfl hiz hun j h)
      cases fuel with
      | zero =>
        have := ready_mono hj hji
        rw [H.1] at this
        cases this
      | succ fuel =>
        have h1 := H.2 j (ready_mono hj hji)
        obtain ⟨hjun, oj, hoj, hall⟩ := mem_ready.1 hj
        have hnot : ∀ e ∈ oj.after, Region.binds md e = true → e.on ≠ i := fun e he hb heq => by
          have h1 := hall e he hb
          rw [heq, getD_both hun] at h1
          cases h1
        have h2 := wpOp_putIf hoj (hfree j oj hoj hji hjun hnot) (fun cs b => hsel i oi cs b hi) (fun cs b => hsel j oj cs b hoj) hQ hy h1
        have hfree' : ∀ k ok, ops[k]? = some ok → k ≠ i → (listed.setIfInBounds j true).getD k true = false →
            (∀ e ∈ ok.after, Region.binds md e = true → e.on ≠ i) → oi.apart ops ok = true := fun k ok hk hki hkun hno => by
          refine hfree k ok hk hki ?_ hno
          by_cases hjk : j = k
          · rw [← hjk]; exact hjun
          · rw [getD_set_ne true hjk] at hkun; exact hkun
        refine wpOp_mono (fun a' w' h3 => ?_) h2
        have hS' := h3.2.1 (by omega)
        refine ⟨fun _ => hS', anyT_first hi hsel hQ hs hc hz hiz fuel (listed.setIfInBounds j true) a' w' (inv.set hj hjz) hfree' (ready_mono hr (Ne.symm hji)) h3.1 hS' ?_⟩
        rw [Array.setIfInBounds_comm _ _ hji]
        exact h3.2.2
/-- The state of a walk through the head, as a Bool. -/
def headB (md : Region.Mode) (ops : Array Oper) (z : Nat) (listed : Array Bool) : Bool :=
  listed.size == ops.size && ((List.range ops.size).all (fun j => !(listed.getD j false) || match ops[j]? with | some o => o.after.all (fun e => !(Region.binds md e) || listed.getD e.on false) | none => true) &&
    (List.range ops.size).all fun t => decide (t < z) || !(listed.getD t true))
theorem headB_inv {listed : Array Bool} (h : headB md ops z listed = true) : HeadInv md ops z listed := by
  unfold headB at h
  rw [Bool.and_eq_true, Bool.and_eq_true, List.all_eq_true, List.all_eq_true, beq_iff_eq] at h
  refine ⟨h.1, fun j oj hj hl e he hb => ?_, fun t ht htn => ?_⟩
  · have := h.2.1 j (by simpa using (Array.getElem?_eq_some_iff.1 hj).1)
    rw [hj, hl] at this
    simp only [Bool.not_true, Bool.false_or] at this
    rw [Array.all_eq_true_iff_forall_mem] at this
    have h2 := this e he
    rw [hb] at h2
    simpa using h2
  · have := h.2.2 t (by simpa using htn)
    have hlt : ¬ t < z := by omega
    simpa [hlt] using this
theorem anyT_take {i : Nat} {oi : Oper} {v : Value} {fuel : Nat} {listed : Array Bool} {a : Act} {w : World} (hi : ops[i]? = some oi)
    (hc : (Region.noSelect ops && Region.sinkB md ops z && Region.chainB md ops z && decide (z < ops.size) && decide (i < z) && headB md ops z listed && Region.free md ops listed i && (Region.ready md ops listed).contains i) = true)
    (hQ : ∀ c a w, Q (.panic c) (a.put oi.dst v) w → Q (.panic c) a w) (hy : YieldsIf P ops S oi v a) (hS : S w)
    (h : anyT P md ops Q S z fuel (listed.setIfInBounds i true) (a.put oi.dst v) w) : anyT P md ops Q S z (fuel + 1) listed a w := by
  simp only [Bool.and_eq_true, decide_eq_true_eq] at hc
  obtain ⟨⟨⟨⟨⟨⟨⟨h1, h2⟩, h3⟩, h4⟩, h5⟩, h6⟩, h7⟩, h8⟩ := hc
  exact anyT_first hi (Region.noSelect_spec h1) hQ h2 h3 h4 h5 fuel listed a w (headB_inv h6) (Region.free_spec hi h7) (by simpa using h8) hy hS h
/-- The only one that may come up: it is carried out. -/
theorem anyT_one {i : Nat} {o : Oper} {fuel : Nat} {listed : Array Bool} {a : Act} {w : World} (hr : Region.ready md ops listed = [i]) (ho : ops[i]? = some o)
    (h : ∀ K' : Act → World → Prop, Shut (∀ a w, (i ≠ z → S w) → anyT P md ops Q S z fuel (listed.setIfInBounds i true) a w → K' a w) → if Region.wanted o (yielded ops a.tmps) = true then Oper.wp P o a w K' Q else K' (a.put o.dst undef) w) :
    anyT P md ops Q S z (fuel + 1) listed a w :=
  ⟨fun h0 => (by rw [hr] at h0; cases h0), fun j hj => by
    rw [hr] at hj
    obtain rfl := List.mem_singleton.1 hj
    exact wpOp_step ho (fun K' hK => h K' (fun a w hS hW => hK a w ⟨hS, hW⟩))⟩
theorem anyT_done {listed : Array Bool} {a : Act} {w : World} (hr : Region.ready md ops listed = []) (h : Q .normal a w) : ∀ fuel, anyT P md ops Q S z fuel listed a w
  | 0 => ⟨hr, h⟩
  | _ + 1 => ⟨fun _ => h, by rw [hr]; simp⟩
theorem region_T_round {id : Nat} {a : Act} {w : World} {l : List Oper} (z : Nat) (hm : P.follows .mixedOrders = true) (hd : l.all noDefer = true) (hQ : ¬ LetsOut Q)
    (h : anyT P .any l.toArray Q S z l.toArray.size (Array.replicate l.toArray.size false) a w.drew) : (Code.region id l.toArray true).wpIn (Fence.wide.inRound l₀) n P Q a w :=
  wpIn_region_any hm (anyIn_round (fun _ o ho => noDefer_spec (List.all_eq_true.1 hd o (List.mem_of_getElem? (by simpa using ho)))) _ _ _ _ (any_wide hQ _ _ _ _ (any_of_T _ _ _ _ h)))
theorem region_T {id : Nat} {a : Act} {w : World} {l : List Oper} (z : Nat) (hm : P.follows .mixedOrders = true)
    (h : anyT P .any l.toArray Q S z l.toArray.size (Array.replicate l.toArray.size false) a w.drew) : (Code.region id l.toArray true).wp P Q a w :=
  wp_region_any hm (any_of_T _ _ _ _ h)
end
end Go.Proofs.Ytaacbnolijelhaa

/- The model's test of sets. -/
namespace Go.Proofs.Ytaacbnolijelhaa
open Go.RowKit Go.Shelf
attribute [local go_sem] Oper.semAt_some
attribute [local go_sem, local simp] wide_fn
end Go.Proofs.Ytaacbnolijelhaa

/- Tops: words, the model's helper and the program's. -/
namespace Go.Proofs.Ytaacbnolijelhaa
open Go.RowKit Go.Shelf
attribute [local go_sem] Oper.semAt_some
attribute [local go_sem, local simp] wide_fn

/-- The items of s less than k above which there is none of s. -/
def topsTo (zs : List Int) (s : Int) : Nat → Int
  | 0 => 0
  | k + 1 => if bitB s k && andI (zs[k]?.getD 0) s == 0 then orI (topsTo zs s k) (powI k) else topsTo zs s k
theorem topsTo_bd (zs : List Int) (s : Int) : ∀ k : Nat, 0 ≤ topsTo zs s k ∧ topsTo zs s k < powI k
  | 0 => by simp [topsTo, powI]
  | k + 1 => by
    have h := topsTo_bd zs s k
    have hp : powI (k : Int) < powI ((k + 1 : Nat) : Int) := powI_lt (by omega)
    unfold topsTo
    split
    · exact orI_bd h.1 (by omega) (Int.le_of_lt (powI_pos _)) hp
    · omega
theorem topsTo_yes {zs : List Int} {s : Int} {k : Nat} (h : bitB s k = true) (h2 : (andI (zs[k]?.getD 0) s == 0) = true) : topsTo zs s (k + 1) = orI (topsTo zs s k) (powI k) := by simp [topsTo, h, h2]
theorem topsTo_no {zs : List Int} {s : Int} {k : Nat} (h : bitB s k = false ∨ (andI (zs[k]?.getD 0) s == 0) = false) : topsTo zs s (k + 1) = topsTo zs s k := by
  rcases h with h | h <;> simp [topsTo, h]
def topsR (zs : List Int) (s : Int) : Int := if vo zs && inB s 0 (powI zs.length - 1) then topsTo zs s zs.length else -1

theorem topsTo_bit {zs : List Int} {s : Int} (j : Nat) : ∀ k : Nat, bitB (topsTo zs s k) j = true ↔ j < k ∧ bitB s j = true ∧ andI (zs[j]?.getD 0) s = 0
  | 0 => by simp [topsTo, bitB_zero]
  | k + 1 => by
    have ih := topsTo_bit (zs := zs) (s := s) j k
    cases hc : (bitB s k && andI (zs[k]?.getD 0) s == 0)
    · have e : topsTo zs s (k + 1) = topsTo zs s k := by simp only [topsTo]; rw [hc]; rfl
      rw [e, ih]
      constructor
      · rintro ⟨h1, h2⟩; exact ⟨by omega, h2⟩
      · rintro ⟨h1, h2, h3⟩
        refine ⟨?_, h2, h3⟩
        by_cases hjk : j = k
        · subst hjk; rw [h2, h3] at hc; cases hc
        · omega
    · have e : topsTo zs s (k + 1) = orI (topsTo zs s k) (powI k) := by simp only [topsTo]; rw [hc]; rfl
      rw [Bool.and_eq_true] at hc
      rw [e, bitB_or, bitB_pow, Bool.or_eq_true, ih, decide_eq_true_eq]
      constructor
      · rintro (⟨h1, h2⟩ | rfl)
        · exact ⟨by omega, h2⟩
        · exact ⟨by omega, hc.1, by simpa using hc.2⟩
      · rintro ⟨h1, h2⟩
        by_cases hjk : k = j
        · exact .inr hjk
        · exact .inl ⟨by omega, h2⟩
/-- What has been gathered when the items of a list are over. -/
def topsL (zs : List Int) (s : Int) (l : List Nat) : Int := l.foldl (fun (t : Int) (i : Nat) => if andI (zs[i]?.getD 0) s == 0 then orI t (powI i) else t) 0
theorem topsL_yes {zs : List Int} {s : Int} {l : List Nat} {i : Nat} (h : (andI (zs[i]?.getD 0) s == 0) = true) : topsL zs s (l ++ [i]) = orI (topsL zs s l) (powI i) := by
  have h' : andI (zs[i]?.getD 0) s = 0 := by simpa using h
  simp [topsL, h']
theorem topsL_no {zs : List Int} {s : Int} {l : List Nat} {i : Nat} (h : (andI (zs[i]?.getD 0) s == 0) = false) : topsL zs s (l ++ [i]) = topsL zs s l := by
  have h' : ¬ andI (zs[i]?.getD 0) s = 0 := by simpa using h
  simp [topsL, h']
theorem topsL_to (zs : List Int) (s : Int) : ∀ k : Nat, topsL zs s (itemsTo s k) = topsTo zs s k
  | 0 => rfl
  | k + 1 => by
    have ih := topsL_to zs s k
    cases hb : bitB s k
    · rw [itemsTo_no hb, topsTo_no (.inl hb), ih]
    · rw [itemsTo_yes hb]
      cases ha : (andI (zs[k]?.getD 0) s == 0)
      · rw [topsL_no ha, topsTo_no (.inr ha), ih]
      · rw [topsL_yes ha, topsTo_yes hb ha, ih]
theorem topsTo_up {zs : List Int} {s : Int} {n : Nat} (h1 : s < powI n) : ∀ d : Nat, topsTo zs s (n + d) = topsTo zs s n
  | 0 => rfl
  | d + 1 => by
    have hb : bitB s ((n + d : Nat) : Int) = false := by
      cases h : bitB s ((n + d : Nat) : Int) with
      | false => rfl
      | true => have := bitB_lt h1 h; omega
    rw [← Nat.add_assoc, topsTo_no (.inl hb), topsTo_up h1 d]
theorem topsL_all {zs : List Int} {s : Int} {n : Nat} (hn : n ≤ 6) (h1 : s < powI n) : topsL zs s (itemsL s) = topsTo zs s n := by
  rw [itemsL, topsL_to, show (6 : Nat) = n + (6 - n) from by omega, topsTo_up h1]

set_option maxRecDepth 100000 in
set_option maxHeartbeats 4000000 in
theorem tops_any (A : Option Addr) (n c : Nat) (zs : List Int) (s : Int) (hv : Sets zs) (w : World) (hA : Ints w w.heap.size A n zs) (h0 : 0 ≤ s) (h1 : s < powI n) :
    Calls Try.prog 113 #[.slice A n c, .int .i64 s] w fun e W' => e = .returned (.int .i64 (topsTo zs s n)) ∧ Below w.heap.size w W' := by
  refine (callsIn_wide (n := 9)).1 ?_
  refine callsIn_of_wp_marks Try.func113 rfl trivial ?_ rfl
  simp only [Try.ntmps113, List.size_toArray, List.length_cons, List.length_nil, Nat.reduceAdd, Nat.reduceSub, Array.replicate_succ, Array.replicate_zero, List.push_toArray, List.append_toArray, List.nil_append, List.cons_append]
  have hlen := Lib.hid hA.len
  have hn6 : n ≤ 6 := by have := hv.1; rw [hlen.out] at this; exact this
  have hpk : powI n ≤ 64 := powI_le6 (by omega)
  gi_wp2_with (gi_at_call 90; refine (callsIn_wide.2 (each_any _ _)).mono ?_; rintro e w' ⟨rfl, rfl⟩)
  have bO := (((Boxed.new w 40 (.slice A n c)).alloc (.cells #[Value.int .i64 s] 49)).alloc (.cells #[Value.int .i64 0] 49)).alloc (.cells #[Value.int .i64 s] 49)
  have bS := ((Boxed.new (w.alloc (.cells #[Value.slice A n c] 40)) 49 (.int .i64 s)).alloc (.cells #[Value.int .i64 0] 49)).alloc (.cells #[Value.int .i64 s] 49)
  have bT := (Boxed.new ((w.alloc (.cells #[Value.slice A n c] 40)).alloc (.cells #[Value.int .i64 s] 49)) 49 (.int .i64 0)).alloc (.cells #[Value.int .i64 s] 49)
  have bE := Boxed.new (((w.alloc (.cells #[Value.slice A n c] 40)).alloc (.cells #[Value.int .i64 s] 49)).alloc (.cells #[Value.int .i64 0] 49)) 49 (.int .i64 s)
  have hu0 : Upd (fun _ => False) w ((((w.alloc (.cells #[Value.slice A n c] 40)).alloc (.cells #[Value.int .i64 s] 49)).alloc (.cells #[Value.int .i64 0] 49)).alloc (.cells #[Value.int .i64 s] 49)) := ((((Upd.refl _ w).alloc _).alloc _).alloc _).alloc _
  have hz0 : ((((w.alloc (.cells #[Value.slice A n c] 40)).alloc (.cells #[Value.int .i64 s] 49)).alloc (.cells #[Value.int .i64 0] 49)).alloc (.cells #[Value.int .i64 s] 49)).heap.size = w.heap.size + 4 := by simp
  simp only [World.size_alloc] at bO bS bT bE
  obtain ⟨W0, hW0⟩ : ∃ W0, ((((w.alloc (.cells #[Value.slice A n c] 40)).alloc (.cells #[Value.int .i64 s] 49)).alloc (.cells #[Value.int .i64 0] 49)).alloc (.cells #[Value.int .i64 s] 49)) = W0 := ⟨_, rfl⟩
  rw [hW0] at bO bS bT bE hu0 hz0 ⊢
  clear hW0
  have hA0 : Ints W0 w.heap.size A n zs := hA.below (hu0.toBelow (fun _ e => e.elim) (Nat.le_refl _))
  refine range_out (n := 9) (gf := 114) (lb := #[.pointer (some ⟨w.heap.size + 1 + 1 + 1, 0, none⟩)]) rfl (enters_of Try.func114 (by kernel_rfl) rfl) (encs := encI) (L := itemsL s)
    (fun k => k = w.heap.size + 1 + 1) (fun k e => by omega) (fun _ => rfl)
    (fun W1 l1 hu1 hl1 hl2 => each_iter s h0 (by omega) _ _ W1 (hu1.boxed bE (fun e => e)) (fun e => by omega))
    (fun pre D W => (0 ≤ topsL zs s pre ∧ topsL zs s pre < 64) ∧ Boxed W (w.heap.size + 1 + 1) 49 (.int .i64 (topsL zs s pre)) ∧ Upd (fun k => k = w.heap.size + 1 + 1) W0 W)
    (fun _ _ _ _ => False)
    (fun _ D X Y hs hu => ⟨hs.1, hu.boxed hs.2.1 (fun e => by omega), hs.2.2.trans' hu (fun i hi e => by omega)⟩)
    (fun _ _ _ _ _ hs _ => hs)
    ⟨by simp [topsL], bT, Upd.refl _ _⟩ ?owes ?done ?stop
  case owes =>
    rintro l1 pre x D1 W hl1 hl2 hDl hD1 - hpre K hK
    gi_wp2
    refine hK _ _ (Upd.refl _ _) ?_
    rintro Wb hWb - ⟨htb, bT1, hU⟩
    clear hK
    obtain ⟨hx6, hxb⟩ := mem_itemsTo.1 (hpre.subset (by simp : x ∈ pre ++ [x]))
    have hxn := bitB_lt h1 hxb
    have bO1 := hU.boxed bO (by omega)
    have hcO := bO1.cell
    have hcS := (hU.boxed bS (by omega)).cell
    obtain ⟨ab, off, rfl, hab, hc⟩ := hA0.at_ hxn
    have hcx := hU.cell (hc x hxn) (fun e => by simp at e; omega)
    have zx := hv.bd x (by rw [hlen.out]; exact hxn)
    have hsb := hU.size
    have hcT := bT1.cell
    have hfT := bT1.frozen
    have hszb := hWb.size
    have hand : bits .and .i64 (zs[x]?.getD 0) s = andI (zs[x]?.getD 0) s := bits_and (by omega) (by omega) (by omega) (by omega)
    cases ha : (andI (zs[x]?.getD 0) s == 0)
    · have Hn := Lib.hid (topsL_no (l := pre) ha)
      gi_wp2
      refine region_quiet_round (by kernel_rfl) (by kernel_rfl) (by kernel_rfl) ?_
      repeat (gi_big_quiet_step (fail))
      refine wpQuietIn_nil ?_
      intro _ hw'
      obtain ⟨nq, hw''⟩ := hw'
      subst hw''
      gi_wp2
      exact ⟨D1, ⟨by rw [Hn.out]; exact htb, by rw [Hn.out]; exact bT1, hU.drewN _⟩, (Upd.refl _ _).drewN _, fun k hk => .inl hk⟩
    · have Hn := Lib.hid (topsL_yes (l := pre) ha)
      have hob := orI_bd (a := topsL zs s pre) (b := powI x) (n := 6) htb.1 htb.2 (Int.le_of_lt (powI_pos _)) (powI_lt hx6)
      gi_wp2
      refine region_quiet_round (by kernel_rfl) (by kernel_rfl) (by kernel_rfl) ?_
      repeat (gi_big_quiet_step (fail))
      refine wpQuietIn_nil ?_
      intro _ hw'
      obtain ⟨nq, hw''⟩ := hw'
      subst hw''
      gi_wp2_with (gi_at_call 70; refine (CallsIn.inRound l1 (callsIn_wide.2 (with_any _ _ _ htb.1 htb.2 (by omega) (by omega)))).mono ?_; rintro e w' ⟨rfl, rfl⟩)
      exact ⟨D1, ⟨by rw [Hn.out]; exact hob, by rw [Hn.out]; exact bT1.set _, (hU.drewN _).setCell (p := ⟨w.heap.size + 1 + 1, 0, none⟩) (.inr rfl) _⟩, ((Upd.refl _ _).drewN _).setCell (p := ⟨w.heap.size + 1 + 1, 0, none⟩) (.inr (.inl rfl)) _, fun k hk => .inl hk⟩
  case done =>
    rintro d D1 W hd ⟨htb, bT1, hU⟩ hD1 hKd
    have Ht := Lib.hid (topsL_all (zs := zs) hn6 h1)
    have hcT := bT1.cell
    gi_wp2
    refine leaves_marks [d] _ ⟨by simp, fun b hb => ?_⟩ (fun W' hu' => ?_)
    · rw [List.mem_singleton.1 hb]
      exact hKd
    · exact ⟨.int .i64 (topsL zs s (itemsL s)), by simp [results, Try.f113, go_sem], ret_int Ht.out,
        (((hu0.mono fun _ _ e => e.elim).trans' hU (fun i hi e => by omega)).trans' hu' (fun i hi e => by simp at e; omega)).toBelow (R := fun _ => False) (fun _ e => e.elim) (Nat.le_refl _)⟩
  case stop =>
    rintro d D1 co pre W hd hpre h
    exact h.elim
end Go.Proofs.Ytaacbnolijelhaa

/- FewestChains: the program's closure that asks. -/
namespace Go.Proofs.Ytaacbnolijelhaa
open Go.RowKit Go.Shelf
attribute [local go_sem] Oper.semAt_some
attribute [local go_sem, local simp] wide_fn

/-- What is seen already keeps whom it is had by. -/
theorem mateG_keep {zs : List Int} {rec : Nat → List Int → List Bool → Bool × List Int × List Bool} {a j : Nat} (hrec : ∀ (x : Nat) (has : List Int) (seen : List Bool), seen[j]?.getD false = true → (rec x has seen).2.1[j]?.getD 0 = has[j]?.getD 0 ∧ (rec x has seen).2.2[j]?.getD false = true) :
    ∀ (d b : Nat) (has : List Int) (seen : List Bool), seen[j]?.getD false = true → (mateG zs rec a d b has seen).2.1[j]?.getD 0 = has[j]?.getD 0 ∧ (mateG zs rec a d b has seen).2.2[j]?.getD false = true
  | 0, _, _, _, h => ⟨rfl, h⟩
  | d + 1, b, has, seen, h => by
    unfold mateG
    split
    · exact mateG_keep hrec d (b + 1) has seen h
    · rename_i c1
      have hne : b ≠ j := by rintro rfl; rw [h] at c1; simp at c1
      have hset : (seen.set b true)[j]?.getD false = true := by rw [List.getElem?_set_ne hne]; exact h
      split
      · exact ⟨by show (has.set b (a : Int))[j]?.getD 0 = _; rw [List.getElem?_set_ne hne], hset⟩
      · have h1 := hrec (has[b]?.getD 0).toNat has _ hset
        split
        · exact ⟨by show (List.set _ b (a : Int))[j]?.getD 0 = _; rw [List.getElem?_set_ne hne]; exact h1.1, h1.2⟩
        · have h2 := mateG_keep (zs := zs) (a := a) hrec d (b + 1) (rec (has[b]?.getD 0).toNat has (seen.set b true)).2.1 _ h1.2
          exact ⟨h2.1.trans h1.1, h2.2⟩
theorem mateF_keep (zs : List Int) {j : Nat} : ∀ (f x : Nat) (has : List Int) (seen : List Bool), seen[j]?.getD false = true → (mateF zs f x has seen).2.1[j]?.getD 0 = has[j]?.getD 0 ∧ (mateF zs f x has seen).2.2[j]?.getD false = true
  | 0, _, _, _, h => ⟨rfl, h⟩
  | f + 1, x, has, seen, h => mateG_keep (mateF_keep zs f) zs.length 0 has seen h

/-- The closure: what it has caught. -/
def findV (bo ba bl bf : Nat) : Value := .func (.func 96) #[] #[.pointer (some ⟨bo, 0, none⟩), .pointer (some ⟨ba, 0, none⟩), .pointer (some ⟨bl, 0, none⟩), .pointer (some ⟨bf, 0, none⟩)]

set_option maxRecDepth 100000 in
set_option maxHeartbeats 4000000 in
theorem find_any (zs : List Int) (hvo : VoP zs) (n cap bz bo ba bl bf hb : Nat) (hlen0 : zs.length = n) (hdis : bo ≠ ba ∧ bo ≠ hb ∧ bl ≠ ba ∧ bl ≠ hb ∧ bf ≠ ba ∧ bf ≠ hb ∧ bz ≠ ba ∧ bz ≠ hb ∧ ba ≠ hb) :
    ∀ (f low : Nat) (has : List Int) (seen : List Bool) (asked : Int) (w : World), low < n → OkH n has → SeenAs n seen asked → unseen seen < f →
    Boxed w bo 40 (.slice (some ⟨bz, 0, none⟩) n n) → Boxed w ba 49 (.int .i64 asked) → Boxed w bl 22 (.slice (some ⟨hb, 0, none⟩) n cap) → Boxed w bf 75 (findV bo ba bl bf) → Arr w bz 49 zs → Cel w hb 3 n has →
    Calls Try.prog 96 #[.int .i64 (low : Int), .pointer (some ⟨bo, 0, none⟩), .pointer (some ⟨ba, 0, none⟩), .pointer (some ⟨bl, 0, none⟩), .pointer (some ⟨bf, 0, none⟩)] w fun e w' => e = .returned (.bool (mateF zs f low has seen).1) ∧
      Cel w' hb 3 n (mateF zs f low has seen).2.1 ∧ (∃ asked', SeenAs n (mateF zs f low has seen).2.2 asked' ∧ Boxed w' ba 49 (.int .i64 asked')) ∧ Upd (fun k => k = hb ∨ k = ba) w w'
  | 0, _, _, seen, _, _, _, _, _, hu, _, _, _, _, _, _ => absurd hu (Nat.not_lt_zero _)
  | f + 1, low, has, seen, asked, w, hlow, hOk, hSe, hu, bO, bA, bL, bF, hZ, hC => by
    have ih := find_any zs hvo n cap bz bo ba bl bf hb hlen0 hdis f
    obtain ⟨d1, d2, d3, d4, d5, d6, d7, d8, d9⟩ := hdis
    have hlen := Lib.hid hlen0
    have hn6 : n ≤ 6 := by have := hvo.1; rw [hlen0] at this; exact this
    have hz := hvo.sets.2 low (by rw [hlen0]; exact hlow)
    rw [hlen0] at hz
    have hz64 := hvo.bd low (by rw [hlen0]; exact hlow)
    have hcz := hZ.cell (k := low) (by rw [hlen0]; exact hlow)
    have hpn := powI_le6 (n := (n : Int)) (by omega)
    have Hrok := Lib.hid (show ∀ (x : Nat) (h : List Int) (s : List Bool), x < n → OkH n h → s.length = n → Keeps n s (mateF zs f x h s) by rw [← hlen0]; exact mateF_ok zs f)
    have HF := Lib.hid (show mateF zs (f + 1) low has seen = mateG zs (mateF zs f) low n 0 has seen by rw [← hlen0]; rfl)
    rw [HF.out]
    obtain ⟨r, hr⟩ : ∃ r, mateG zs (mateF zs f) low n 0 has seen = r := ⟨_, rfl⟩
    rw [hr]
    have Hr := Lib.hid hr
    clear hr hlen0
    have hOl := bO.lt
    have hAl := bA.lt
    have hLl := bL.lt
    have hFl := bF.lt
    have hZl := hZ.lt
    have hCl := hC.lt
    generalize hzz : zs[low]?.getD 0 = z at *
    have Hzz := Lib.hid hzz
    clear hzz
    refine (callsIn_wide (n := 9)).1 ?_
    refine callsIn_of_wp_marks Try.func96 rfl trivial ?_ rfl
    simp only [Try.ntmps96, List.size_toArray, List.length_cons, List.length_nil, Nat.reduceAdd, Nat.reduceSub, Array.replicate_succ, Array.replicate_zero, List.push_toArray, List.append_toArray, List.nil_append, List.cons_append]
    have bI := (Boxed.new w 3 (.int .i64 (low : Int))).alloc (.cells #[Value.bool false] 4)
    have bR := Boxed.new (w.alloc (.cells #[Value.int .i64 (low : Int)] 3)) 4 (.bool false)
    have hu0 : Upd (fun _ => False) w ((w.alloc (.cells #[Value.int .i64 (low : Int)] 3)).alloc (.cells #[Value.bool false] 4)) := ((Upd.refl _ w).alloc _).alloc _
    have hz0 : ((w.alloc (.cells #[Value.int .i64 (low : Int)] 3)).alloc (.cells #[Value.bool false] 4)).heap.size = w.heap.size + 2 := by simp
    simp only [World.size_alloc] at bI bR
    have hcO := (hu0.boxed bO (fun e => e)).cell
    have hcI := bI.cell
    have hcZ := hu0.cell hcz (fun e => e)
    gi_wp2_with (gi_at_call 90; refine (callsIn_wide.2 (each_any _ _)).mono ?_; rintro e w' ⟨rfl, rfl⟩)
    have bE := Boxed.new ((w.alloc (.cells #[Value.int .i64 (low : Int)] 3)).alloc (.cells #[Value.bool false] 4)) 49 (.int .i64 z)
    have hu1 : Upd (fun _ => False) w (((w.alloc (.cells #[Value.int .i64 (low : Int)] 3)).alloc (.cells #[Value.bool false] 4)).alloc (.cells #[Value.int .i64 z] 49)) := hu0.alloc _
    have hz1 : (((w.alloc (.cells #[Value.int .i64 (low : Int)] 3)).alloc (.cells #[Value.bool false] 4)).alloc (.cells #[Value.int .i64 z] 49)).heap.size = w.heap.size + 3 := by simp
    have bI1 := bI.alloc (.cells #[Value.int .i64 z] 49)
    have bR1 := bR.alloc (.cells #[Value.int .i64 z] 49)
    simp only [World.size_alloc] at bE
    obtain ⟨W0, hW0⟩ : ∃ W0, (((w.alloc (.cells #[Value.int .i64 (low : Int)] 3)).alloc (.cells #[Value.bool false] 4)).alloc (.cells #[Value.int .i64 z] 49)) = W0 := ⟨_, rfl⟩
    rw [hW0] at bE hu1 hz1 bI1 bR1 ⊢
    clear hW0 bI bR hu0 hz0 hcO hcI hcZ hcz
    have bO0 := hu1.boxed bO (fun e => e)
    have bA0 := hu1.boxed bA (fun e => e)
    have bL0 := hu1.boxed bL (fun e => e)
    have bF0 := hu1.boxed bF (fun e => e)
    have hZ0 := hZ.upd hu1 (fun e => e)
    have hC0 := hC.upd hu1 (fun e => e)
    refine range_out (n := 9) (gf := 114) (lb := #[.pointer (some ⟨w.heap.size + 1 + 1, 0, none⟩)]) rfl (enters_of Try.func114 (by kernel_rfl) rfl) (encs := encI) (L := itemsL z)
      (fun k => k = hb ∨ k = ba ∨ k = w.heap.size + 1) (fun k e => by omega) (fun _ => rfl)
      (fun W1 l1 hu1' hl1 hl2 => each_iter z hz.1 (by omega) _ _ W1 (hu1'.boxed bE (fun e => e)) (fun e => by omega))
      (fun pre D W => ∃ (h2 : List Int) (s2 : List Bool) (as2 : Int), OkH n h2 ∧ SeenAs n s2 as2 ∧ unseen s2 ≤ unseen seen ∧ Hid (mateG zs (mateF zs f) low (n - nxB pre) (nxB pre) h2 s2 = r) ∧ Cel W hb 3 n h2 ∧ Boxed W ba 49 (.int .i64 as2) ∧ Upd (fun k => k = hb ∨ k = ba) W0 W)
      (fun co pre D W => co = .ret ∧ r.1 = true ∧ Cel W hb 3 n r.2.1 ∧ (∃ as2, SeenAs n r.2.2 as2 ∧ Boxed W ba 49 (.int .i64 as2)) ∧ Boxed W (w.heap.size + 1) 4 (.bool true) ∧ Upd (fun k => k = hb ∨ k = ba ∨ k = w.heap.size + 1) W0 W)
      (fun _ D X Y hs hu => by
        obtain ⟨h2, s2, as2, k1, k2, k3, k4, k5, k6, k7⟩ := hs
        exact ⟨h2, s2, as2, k1, k2, k3, k4, k5.upd hu (fun e => by omega), hu.boxed k6 (fun e => by omega), k7.trans' hu (fun i hi e => by omega)⟩)
      (fun co _ D X Y hs hu => by
        obtain ⟨k1, k2, k3, ⟨as2, k4, k5⟩, k6, k7⟩ := hs
        exact ⟨k1, k2, k3.upd hu (fun e => by omega), ⟨as2, k4, hu.boxed k5 (fun e => by omega)⟩, hu.boxed k6 (fun e => by omega), k7.trans' hu (fun i hi e => by omega)⟩)
      ⟨has, seen, asked, hOk, hSe, Nat.le_refl _, Hr, hC0, bA0, Upd.refl _ _⟩ ?owes ?done ?stop
    case owes =>
      rintro l1 pre x D1 W hl1 hl2 hDl hD1 - hpre K hK
      gi_wp2
      refine hK _ _ (Upd.refl _ _) ?_
      rintro Wb hWb - ⟨h2, s2, as2, hOk2, hSe2, hus, Hg, hC2, bA2, hU⟩
      clear hK
      have hxm := hpre.subset (by simp : x ∈ pre ++ [x])
      have hxb := (mem_itemsL hz64.2).1 hxm
      have hxn := bitB_lt hz.2 hxb
      obtain ⟨hgap1, hgap2⟩ := gap_none hz64.2 hpre
      have hg : mateG zs (mateF zs f) low (n - x) x h2 s2 = r := by
        rw [← Hg.out, skip_none (x - nxB pre) (nxB pre) (by omega) (fun j h1 h2 => by rw [Hzz.out]; exact hgap2 j h1 (by omega)), show nxB pre + (x - nxB pre) = x by omega]
      obtain ⟨d, hd⟩ : ∃ d, n - x = d + 1 := ⟨n - x - 1, by omega⟩
      have hnx : nxB (pre ++ [x]) = x + 1 := nxB_snoc pre x
      have hd2 : n - nxB (pre ++ [x]) = d := by rw [hnx]; omega
      rw [hd] at hg
      unfold mateG at hg
      rw [Hzz.out, hxb] at hg
      simp only [Bool.not_true, Bool.false_or] at hg
      have zb := hU.size
      have bO2 := hU.boxed bO0 (fun e => by omega)
      have bL2 := hU.boxed bL0 (fun e => by omega)
      have bF2 := hU.boxed bF0 (fun e => by omega)
      have bI2 := hU.boxed bI1 (fun e => by omega)
      have bR2 := hU.boxed bR1 (fun e => by omega)
      have hZ2 := hZ0.upd hU (fun e => by omega)
      have hcA := bA2.cell
      have hfA := bA2.frozen
      have hsx := hSe2.2.2.2 x hxn
      have has2 := hSe2.2.1
      have has3 := hSe2.2.2.1
      cases hsb : bitB as2 x
      · rw [hsx, hsb] at hg
        simp only [Bool.false_eq_true, if_false] at hg
        have hSe3 := hSe2.set hxn
        have hu2 := unseen_set s2 x (by rw [hSe2.1]; exact hxn) (by rw [hsx, hsb])
        have Hsb := Lib.hid hsb
        have hbh := hOk2.2 x hxn
        clear hsb
        gi_wp2_with fail
        refine (CallsIn.inRound l1 (callsIn_wide.2 (has_any _ _ _ (by omega) (by omega) (by omega) (by omega)))).mono ?_
        rw [Hsb.out]
        rintro e w' ⟨rfl, rfl⟩
        gi_wp2_with fail
        refine (CallsIn.inRound l1 (callsIn_wide.2 (with_any _ _ _ (by omega) (by omega) (by omega) (by omega)))).mono ?_
        rintro e w' ⟨rfl, rfl⟩
        have hua : Upd (fun k => k = ba) Wb (Wb.setCell ⟨ba, 0, none⟩ (.int .i64 (orI as2 (powI (x : Int))))) := (Upd.refl (fun k => k = ba) Wb).setCell (p := ⟨ba, 0, none⟩) (.inr rfl) _
        have bA3 := bA2.set (.int .i64 (orI as2 (powI (x : Int))))
        have hC3 := hC2.upd hua (fun e => by omega)
        have bL3 := hua.boxed bL2 (fun e => by omega)
        have bF3 := hua.boxed bF2 (fun e => by omega)
        have bO3 := hua.boxed bO2 (fun e => by omega)
        have hZ3 := hZ2.upd hua (fun e => by omega)
        have bI3 := hua.boxed bI2 (fun e => by omega)
        have bR3 := hua.boxed bR2 (fun e => by omega)
        have hU3 : Upd (fun k => k = hb ∨ k = ba) W0 (Wb.setCell ⟨ba, 0, none⟩ (.int .i64 (orI as2 (powI (x : Int))))) := hU.trans' hua (fun i hi e => .inr e)
        gi_wp2
        have hHold : (fun w' => w'.cell? ⟨bl, 0, none⟩ = some (.slice (some ⟨hb, 0, none⟩) n cap) ∧ w'.cell? ⟨hb, x, none⟩ = some (.int .i64 (h2[x]?.getD 0)) ∧ w'.cell? ⟨bf, 0, none⟩ = some (findV bo ba bl bf)) (Wb.setCell ⟨ba, 0, none⟩ (.int .i64 (orI as2 (powI (x : Int))))).drew := ⟨bL3.cell, hC3.cell hxn, bF3.cell⟩
        have bI4 : Boxed (Wb.setCell ⟨ba, 0, none⟩ (.int .i64 (orI as2 (powI (x : Int))))).drew w.heap.size 3 (.int .i64 (low : Int)) := bI3
        have bR4 : Boxed (Wb.setCell ⟨ba, 0, none⟩ (.int .i64 (orI as2 (powI (x : Int))))).drew (w.heap.size + 1) 4 (.bool false) := bR3
        have bA4 : Boxed (Wb.setCell ⟨ba, 0, none⟩ (.int .i64 (orI as2 (powI (x : Int))))).drew ba 49 (.int .i64 (orI as2 (powI (x : Int)))) := bA3
        have bL4 : Boxed (Wb.setCell ⟨ba, 0, none⟩ (.int .i64 (orI as2 (powI (x : Int))))).drew bl 22 (.slice (some ⟨hb, 0, none⟩) n cap) := bL3
        have bF4 : Boxed (Wb.setCell ⟨ba, 0, none⟩ (.int .i64 (orI as2 (powI (x : Int))))).drew bf 75 (findV bo ba bl bf) := bF3
        have bO4 : Boxed (Wb.setCell ⟨ba, 0, none⟩ (.int .i64 (orI as2 (powI (x : Int))))).drew bo 40 (.slice (some ⟨bz, 0, none⟩) n n) := bO3
        have hC4 := hC3.drew
        have hU4 := hU3.drew
        have hV4 := hua.drew
        have hZ4 : Arr (Wb.setCell ⟨ba, 0, none⟩ (.int .i64 (orI as2 (powI (x : Int))))).drew bz 49 zs := hZ3
        by_cases hneg : h2[x]?.getD 0 < 0
        · rw [if_pos hneg] at hg
          have hdn : h2[x]?.getD 0 = -1 := by omega
          refine region_T_round (S := (fun w' => w'.cell? ⟨bl, 0, none⟩ = some (.slice (some ⟨hb, 0, none⟩) n cap) ∧ w'.cell? ⟨hb, x, none⟩ = some (.int .i64 (h2[x]?.getD 0)) ∧ w'.cell? ⟨bf, 0, none⟩ = some (findV bo ba bl bf))) 12 (by kernel_rfl) (by kernel_rfl) (by rintro ⟨_, _, h⟩; exact h) ?_
          refine anyT_take (i := 0) (oi := ?oi0a) (v := .slice (some ⟨hb, 0, none⟩) n cap) ?hi0a (by kernel_rfl) ?hq0a ?hy0a (by assumption) ?rest0a
          case hi0a => (simp only [List.getElem?_toArray, List.getElem?_cons_zero]; first | done | rfl)
          case hq0a => exact fun _ _ _ h => h
          case hy0a => (refine Or.inl ⟨by rfl, ?_⟩; intro wz hSw; obtain ⟨hS1, hS2, hS3⟩ := hSw; go_simp; first | done | with_reducible rfl | simp | omega)
          try simp only [Act.put, List.setIfInBounds_toArray, List.set_cons_zero, List.set_cons_succ]
          refine anyT_take (i := 1) (oi := ?oi1a) (v := .int .i64 (x : Int)) ?hi1a (by kernel_rfl) ?hq1a ?hy1a (by assumption) ?rest1a
          case hi1a => (simp only [List.getElem?_toArray, List.getElem?_cons_succ, List.getElem?_cons_zero]; first | done | rfl)
          case hq1a => exact fun _ _ _ h => h
          case hy1a => (refine Or.inl ⟨by rfl, ?_⟩; intro wz hSw; obtain ⟨hS1, hS2, hS3⟩ := hSw; go_simp; first | done | with_reducible rfl | simp | omega)
          try simp only [Act.put, List.setIfInBounds_toArray, List.set_cons_zero, List.set_cons_succ]
          refine anyT_take (i := 2) (oi := ?oi2a) (v := .pointer (some ⟨hb, x, none⟩)) ?hi2a (by kernel_rfl) ?hq2a ?hy2a (by assumption) ?rest2a
          case hi2a => (simp only [List.getElem?_toArray, List.getElem?_cons_succ, List.getElem?_cons_zero]; first | done | rfl)
          case hq2a => exact fun _ _ _ h => h
          case hy2a => (refine Or.inl ⟨by rfl, ?_⟩; intro wz hSw; obtain ⟨hS1, hS2, hS3⟩ := hSw; go_simp; first | done | with_reducible rfl | simp | omega)
          try simp only [Act.put, List.setIfInBounds_toArray, List.set_cons_zero, List.set_cons_succ]
          refine anyT_take (i := 3) (oi := ?oi3a) (v := .int .i64 (h2[x]?.getD 0)) ?hi3a (by kernel_rfl) ?hq3a ?hy3a (by assumption) ?rest3a
          case hi3a => (simp only [List.getElem?_toArray, List.getElem?_cons_succ, List.getElem?_cons_zero]; first | done | rfl)
          case hq3a => exact fun _ _ _ h => h
          case hy3a => (refine Or.inl ⟨by rfl, ?_⟩; intro wz hSw; obtain ⟨hS1, hS2, hS3⟩ := hSw; go_simp; first | done | with_reducible rfl | simp | omega)
          try simp only [Act.put, List.setIfInBounds_toArray, List.set_cons_zero, List.set_cons_succ]
          refine anyT_take (i := 4) (oi := ?oi4a) (v := .bool true) ?hi4a (by kernel_rfl) ?hq4a ?hy4a (by assumption) ?rest4a
          case hi4a => (simp only [List.getElem?_toArray, List.getElem?_cons_succ, List.getElem?_cons_zero]; first | done | rfl)
          case hq4a => exact fun _ _ _ h => h
          case hy4a => (refine Or.inl ⟨by rfl, ?_⟩; intro wz hSw; obtain ⟨hS1, hS2, hS3⟩ := hSw; go_simp; first | done | with_reducible rfl | simp [hdn] | exact hdn | omega)
          try simp only [Act.put, List.setIfInBounds_toArray, List.set_cons_zero, List.set_cons_succ]
          refine anyT_take (i := 5) (oi := ?oi5a) (v := .bool true) ?hi5a (by kernel_rfl) ?hq5a ?hy5a (by assumption) ?rest5a
          case hi5a => (simp only [List.getElem?_toArray, List.getElem?_cons_succ, List.getElem?_cons_zero]; first | done | rfl)
          case hq5a => exact fun _ _ _ h => h
          case hy5a => (refine Or.inl ⟨by rfl, ?_⟩; intro wz hSw; obtain ⟨hS1, hS2, hS3⟩ := hSw; go_simp; first | done | with_reducible rfl | simp | omega)
          try simp only [Act.put, List.setIfInBounds_toArray, List.set_cons_zero, List.set_cons_succ]
          refine anyT_take (i := 6) (oi := ?oi6a) (v := undef) ?hi6a (by kernel_rfl) ?hq6a ?hy6a (by assumption) ?rest6a
          case hi6a => (simp only [List.getElem?_toArray, List.getElem?_cons_succ, List.getElem?_cons_zero]; first | done | rfl)
          case hq6a => exact fun _ _ _ h => h
          case hy6a => exact Or.inr ⟨by rfl, rfl⟩
          try simp only [Act.put, List.setIfInBounds_toArray, List.set_cons_zero, List.set_cons_succ]
          refine anyT_take (i := 7) (oi := ?oi7a) (v := undef) ?hi7a (by kernel_rfl) ?hq7a ?hy7a (by assumption) ?rest7a
          case hi7a => (simp only [List.getElem?_toArray, List.getElem?_cons_succ, List.getElem?_cons_zero]; first | done | rfl)
          case hq7a => exact fun _ _ _ h => h
          case hy7a => exact Or.inr ⟨by rfl, rfl⟩
          try simp only [Act.put, List.setIfInBounds_toArray, List.set_cons_zero, List.set_cons_succ]
          refine anyT_take (i := 8) (oi := ?oi8a) (v := undef) ?hi8a (by kernel_rfl) ?hq8a ?hy8a (by assumption) ?rest8a
          case hi8a => (simp only [List.getElem?_toArray, List.getElem?_cons_succ, List.getElem?_cons_zero]; first | done | rfl)
          case hq8a => exact fun _ _ _ h => h
          case hy8a => exact Or.inr ⟨by rfl, rfl⟩
          try simp only [Act.put, List.setIfInBounds_toArray, List.set_cons_zero, List.set_cons_succ]
          refine anyT_take (i := 9) (oi := ?oi9a) (v := undef) ?hi9a (by kernel_rfl) ?hq9a ?hy9a (by assumption) ?rest9a
          case hi9a => (simp only [List.getElem?_toArray, List.getElem?_cons_succ, List.getElem?_cons_zero]; first | done | rfl)
          case hq9a => exact fun _ _ _ h => h
          case hy9a => exact Or.inr ⟨by rfl, rfl⟩
          try simp only [Act.put, List.setIfInBounds_toArray, List.set_cons_zero, List.set_cons_succ]
          refine anyT_take (i := 10) (oi := ?oi10a) (v := undef) ?hi10a (by kernel_rfl) ?hq10a ?hy10a (by assumption) ?rest10a
          case hi10a => (simp only [List.getElem?_toArray, List.getElem?_cons_succ, List.getElem?_cons_zero]; first | done | rfl)
          case hq10a => exact fun _ _ _ h => h
          case hy10a => exact Or.inr ⟨by rfl, rfl⟩
          try simp only [Act.put, List.setIfInBounds_toArray, List.set_cons_zero, List.set_cons_succ]
          refine anyT_take (i := 11) (oi := ?oi11a) (v := undef) ?hi11a (by kernel_rfl) ?hq11a ?hy11a (by assumption) ?rest11a
          case hi11a => (simp only [List.getElem?_toArray, List.getElem?_cons_succ, List.getElem?_cons_zero]; first | done | rfl)
          case hq11a => exact fun _ _ _ h => h
          case hy11a => exact Or.inr ⟨by rfl, rfl⟩
          try simp only [Act.put, List.setIfInBounds_toArray, List.set_cons_zero, List.set_cons_succ]
          refine anyT_one (i := 12) (by kernel_rfl) rfl (fun K' hK => ?_)
          go_simp
          refine hK.out _ _ (fun h => absurd rfl h) ?_
          clear hK K'
          try simp only [Act.put, List.setIfInBounds_toArray, List.set_cons_zero, List.set_cons_succ]
          refine anyT_done (by kernel_rfl) ?_ _
          obtain ⟨W4, hW4⟩ : ∃ W4, (Wb.setCell ⟨ba, 0, none⟩ (.int .i64 (orI as2 (powI (x : Int))))).drew = W4 := ⟨_, rfl⟩
          rw [hW4] at bI4 bR4 bL4 hC4 bA4 hU4 hV4 ⊢
          have hcI4 := bI4.cell
          have hcR4 := bR4.cell
          have hfR4 := bR4.frozen
          have hfH4 := hC4.frozen x
          have hcH4 := hC4.cell hxn
          have hcL4 := bL4.cell
          clear hHold hW4
          gi_wp2
          have hs1 : Upd (fun k => k = hb) W4 (W4.setCell ⟨hb, x, none⟩ (.int .i64 (low : Int))) := (Upd.refl (fun k => k = hb) W4).setCell (p := ⟨hb, x, none⟩) (.inr rfl) _
          have hs2 : Upd (fun k => k = w.heap.size + 1) (W4.setCell ⟨hb, x, none⟩ (.int .i64 (low : Int))) ((W4.setCell ⟨hb, x, none⟩ (.int .i64 (low : Int))).setCell ⟨w.heap.size + 1, 0, none⟩ (.bool true)) := (Upd.refl (fun k => k = w.heap.size + 1) _).setCell (p := ⟨w.heap.size + 1, 0, none⟩) (.inr rfl) _
          have hCe := (hC4.set x (low : Int)).upd hs2 (fun e => by omega)
          have bAe := hs2.boxed (hs1.boxed bA4 (fun e => d9 e)) (fun e => by omega)
          have bRe := (hs1.boxed bR4 (fun e => by omega)).set (.bool true)
          refine ⟨D1, ⟨rfl, by rw [← hg], by rw [← hg]; exact hCe, ⟨_, by rw [← hg]; exact hSe3, bAe⟩, bRe, ?_⟩, ?_, fun k hk => .inl hk⟩
          · exact (((hU4.mono (S := fun k => k = hb ∨ k = ba ∨ k = w.heap.size + 1) fun _ _ e => by omega).trans' hs1 (fun i hi e => .inl e)).trans' hs2 (fun i hi e => .inr (.inr e)))
          · exact (((hV4.mono (S := fun k => (k = hb ∨ k = ba ∨ k = w.heap.size + 1) ∨ D1 k ∨ W.heap.size ≤ k) fun _ _ e => .inl (by omega)).trans' hs1 (fun i hi e => .inl (.inl e))).trans' hs2 (fun i hi e => .inl (.inr (.inr e))))
        · have hdn : ¬ h2[x]?.getD 0 = -1 := by omega
          refine region_T_round (S := (fun w' => w'.cell? ⟨bl, 0, none⟩ = some (.slice (some ⟨hb, 0, none⟩) n cap) ∧ w'.cell? ⟨hb, x, none⟩ = some (.int .i64 (h2[x]?.getD 0)) ∧ w'.cell? ⟨bf, 0, none⟩ = some (findV bo ba bl bf))) 12 (by kernel_rfl) (by kernel_rfl) (by rintro ⟨_, _, h⟩; exact h) ?_
          refine anyT_take (i := 0) (oi := ?oi0b) (v := .slice (some ⟨hb, 0, none⟩) n cap) ?hi0b (by kernel_rfl) ?hq0b ?hy0b (by assumption) ?rest0b
          case hi0b => (simp only [List.getElem?_toArray, List.getElem?_cons_zero]; first | done | rfl)
          case hq0b => exact fun _ _ _ h => h
          case hy0b => (refine Or.inl ⟨by rfl, ?_⟩; intro wz hSw; obtain ⟨hS1, hS2, hS3⟩ := hSw; go_simp; first | done | with_reducible rfl | simp | omega)
          try simp only [Act.put, List.setIfInBounds_toArray, List.set_cons_zero, List.set_cons_succ]
          refine anyT_take (i := 1) (oi := ?oi1b) (v := .int .i64 (x : Int)) ?hi1b (by kernel_rfl) ?hq1b ?hy1b (by assumption) ?rest1b
          case hi1b => (simp only [List.getElem?_toArray, List.getElem?_cons_succ, List.getElem?_cons_zero]; first | done | rfl)
          case hq1b => exact fun _ _ _ h => h
          case hy1b => (refine Or.inl ⟨by rfl, ?_⟩; intro wz hSw; obtain ⟨hS1, hS2, hS3⟩ := hSw; go_simp; first | done | with_reducible rfl | simp | omega)
          try simp only [Act.put, List.setIfInBounds_toArray, List.set_cons_zero, List.set_cons_succ]
          refine anyT_take (i := 2) (oi := ?oi2b) (v := .pointer (some ⟨hb, x, none⟩)) ?hi2b (by kernel_rfl) ?hq2b ?hy2b (by assumption) ?rest2b
          case hi2b => (simp only [List.getElem?_toArray, List.getElem?_cons_succ, List.getElem?_cons_zero]; first | done | rfl)
          case hq2b => exact fun _ _ _ h => h
          case hy2b => (refine Or.inl ⟨by rfl, ?_⟩; intro wz hSw; obtain ⟨hS1, hS2, hS3⟩ := hSw; go_simp; first | done | with_reducible rfl | simp | omega)
          try simp only [Act.put, List.setIfInBounds_toArray, List.set_cons_zero, List.set_cons_succ]
          refine anyT_take (i := 3) (oi := ?oi3b) (v := .int .i64 (h2[x]?.getD 0)) ?hi3b (by kernel_rfl) ?hq3b ?hy3b (by assumption) ?rest3b
          case hi3b => (simp only [List.getElem?_toArray, List.getElem?_cons_succ, List.getElem?_cons_zero]; first | done | rfl)
          case hq3b => exact fun _ _ _ h => h
          case hy3b => (refine Or.inl ⟨by rfl, ?_⟩; intro wz hSw; obtain ⟨hS1, hS2, hS3⟩ := hSw; go_simp; first | done | with_reducible rfl | simp | omega)
          try simp only [Act.put, List.setIfInBounds_toArray, List.set_cons_zero, List.set_cons_succ]
          refine anyT_take (i := 4) (oi := ?oi4b) (v := .bool false) ?hi4b (by kernel_rfl) ?hq4b ?hy4b (by assumption) ?rest4b
          case hi4b => (simp only [List.getElem?_toArray, List.getElem?_cons_succ, List.getElem?_cons_zero]; first | done | rfl)
          case hq4b => exact fun _ _ _ h => h
          case hy4b => (refine Or.inl ⟨by rfl, ?_⟩; intro wz hSw; obtain ⟨hS1, hS2, hS3⟩ := hSw; go_simp; first | done | with_reducible rfl | simp [hdn] | exact hdn | omega)
          try simp only [Act.put, List.setIfInBounds_toArray, List.set_cons_zero, List.set_cons_succ]
          refine anyT_take (i := 5) (oi := ?oi5b) (v := .bool false) ?hi5b (by kernel_rfl) ?hq5b ?hy5b (by assumption) ?rest5b
          case hi5b => (simp only [List.getElem?_toArray, List.getElem?_cons_succ, List.getElem?_cons_zero]; first | done | rfl)
          case hq5b => exact fun _ _ _ h => h
          case hy5b => (refine Or.inl ⟨by rfl, ?_⟩; intro wz hSw; obtain ⟨hS1, hS2, hS3⟩ := hSw; go_simp; first | done | with_reducible rfl | simp | omega)
          try simp only [Act.put, List.setIfInBounds_toArray, List.set_cons_zero, List.set_cons_succ]
          refine anyT_take (i := 6) (oi := ?oi6b) (v := findV bo ba bl bf) ?hi6b (by kernel_rfl) ?hq6b ?hy6b (by assumption) ?rest6b
          case hi6b => (simp only [List.getElem?_toArray, List.getElem?_cons_succ, List.getElem?_cons_zero]; first | done | rfl)
          case hq6b => exact fun _ _ _ h => h
          case hy6b => (refine Or.inl ⟨by rfl, ?_⟩; intro wz hSw; obtain ⟨hS1, hS2, hS3⟩ := hSw; go_simp; first | done | with_reducible rfl | simp | omega)
          try simp only [Act.put, List.setIfInBounds_toArray, List.set_cons_zero, List.set_cons_succ]
          refine anyT_take (i := 7) (oi := ?oi7b) (v := .slice (some ⟨hb, 0, none⟩) n cap) ?hi7b (by kernel_rfl) ?hq7b ?hy7b (by assumption) ?rest7b
          case hi7b => (simp only [List.getElem?_toArray, List.getElem?_cons_succ, List.getElem?_cons_zero]; first | done | rfl)
          case hq7b => exact fun _ _ _ h => h
          case hy7b => (refine Or.inl ⟨by rfl, ?_⟩; intro wz hSw; obtain ⟨hS1, hS2, hS3⟩ := hSw; go_simp; first | done | with_reducible rfl | simp | omega)
          try simp only [Act.put, List.setIfInBounds_toArray, List.set_cons_zero, List.set_cons_succ]
          refine anyT_take (i := 8) (oi := ?oi8b) (v := .int .i64 (x : Int)) ?hi8b (by kernel_rfl) ?hq8b ?hy8b (by assumption) ?rest8b
          case hi8b => (simp only [List.getElem?_toArray, List.getElem?_cons_succ, List.getElem?_cons_zero]; first | done | rfl)
          case hq8b => exact fun _ _ _ h => h
          case hy8b => (refine Or.inl ⟨by rfl, ?_⟩; intro wz hSw; obtain ⟨hS1, hS2, hS3⟩ := hSw; go_simp; first | done | with_reducible rfl | simp | omega)
          try simp only [Act.put, List.setIfInBounds_toArray, List.set_cons_zero, List.set_cons_succ]
          refine anyT_take (i := 9) (oi := ?oi9b) (v := .pointer (some ⟨hb, x, none⟩)) ?hi9b (by kernel_rfl) ?hq9b ?hy9b (by assumption) ?rest9b
          case hi9b => (simp only [List.getElem?_toArray, List.getElem?_cons_succ, List.getElem?_cons_zero]; first | done | rfl)
          case hq9b => exact fun _ _ _ h => h
          case hy9b => (refine Or.inl ⟨by rfl, ?_⟩; intro wz hSw; obtain ⟨hS1, hS2, hS3⟩ := hSw; go_simp; first | done | with_reducible rfl | simp | omega)
          try simp only [Act.put, List.setIfInBounds_toArray, List.set_cons_zero, List.set_cons_succ]
          refine anyT_take (i := 10) (oi := ?oi10b) (v := .int .i64 (h2[x]?.getD 0)) ?hi10b (by kernel_rfl) ?hq10b ?hy10b (by assumption) ?rest10b
          case hi10b => (simp only [List.getElem?_toArray, List.getElem?_cons_succ, List.getElem?_cons_zero]; first | done | rfl)
          case hq10b => exact fun _ _ _ h => h
          case hy10b => (refine Or.inl ⟨by rfl, ?_⟩; intro wz hSw; obtain ⟨hS1, hS2, hS3⟩ := hSw; go_simp; first | done | with_reducible rfl | simp | omega)
          try simp only [Act.put, List.setIfInBounds_toArray, List.set_cons_zero, List.set_cons_succ]
          refine anyT_one (i := 11) (by kernel_rfl) rfl (fun K' hK => ?_)
          simp only [findV]
          go_simp
          obtain ⟨y, hy⟩ : ∃ y : Nat, h2[x]?.getD 0 = (y : Int) := ⟨(h2[x]?.getD 0).toNat, by omega⟩
          have hyn : y < n := by omega
          have hcall := ih y h2 (s2.set x true) (orI as2 (powI (x : Int))) _ hyn hOk2 hSe3 (by omega) bO4 bA4 bL4 bF4 hZ4 hC4
          have hkeep := mateF_keep zs (j := x) f y h2 (s2.set x true) (by rw [List.getElem?_set_self (by rw [hSe2.1]; exact hxn)]; rfl)
          have hkp := Hrok.out y h2 (s2.set x true) hyn hOk2 hSe3.1
          rw [if_neg hneg, hy, Int.toNat_natCast] at hg
          rw [← hy] at hcall
          obtain ⟨R, hR⟩ : ∃ R, mateF zs f y h2 (s2.set x true) = R := ⟨_, rfl⟩
          rw [hR] at hcall hkeep hkp hg
          have Hhy := Lib.hid hy
          have HR := Lib.hid hR
          clear hy hR
          obtain ⟨c, Lh, Ls⟩ := R
          simp only at hcall hkeep hkp hg
          refine hcall.mono ?_
          rintro e w6 ⟨rfl, hC6, ⟨as6, hSe6, bA6⟩, hU6⟩
          have hV6 := (hV4.mono (S := fun k => k = hb ∨ k = ba) fun _ _ e => .inr e).trans' hU6 (fun i hi e => e)
          have hW6 := hU4.trans' hU6 (fun i hi e => e)
          have bL6 := hU6.boxed bL4 (fun e => by omega)
          have bF6 := hU6.boxed bF4 (fun e => by omega)
          have bI6 := hU6.boxed bI4 (fun e => by omega)
          have bR6 := hU6.boxed bR4 (fun e => by omega)
          refine hK.out _ _ (fun _ => ⟨bL6.cell, by rw [← hkeep.1]; exact hC6.cell hxn, bF6.cell⟩) ?_
          clear hK K' hcall
          try simp only [Act.put, List.setIfInBounds_toArray, List.set_cons_zero, List.set_cons_succ]
          cases c
          · refine anyT_one (i := 12) (by kernel_rfl) rfl (fun K' hK => ?_)
            go_simp
            refine hK.out _ _ (fun h => absurd rfl h) ?_
            clear hK K'
            try simp only [Act.put, List.setIfInBounds_toArray, List.set_cons_zero, List.set_cons_succ]
            refine anyT_done (by kernel_rfl) ?_ _
            clear hHold
            simp only [Bool.false_eq_true, if_false] at hg
            have Hg2 := Lib.hid (show mateG zs (mateF zs f) low (n - nxB (pre ++ [x])) (nxB (pre ++ [x])) Lh Ls = r by rw [hd2, hnx]; exact hg)
            have hkp2 : unseen Ls ≤ unseen seen := Nat.le_trans hkp.2.2 (by omega)
            clear hg hd hd2
            gi_wp2
            exact ⟨D1, ⟨Lh, hkp.1, Ls, as6, hSe6, hkp2, Hg2, hC6, bA6, hW6⟩, hV6.mono fun _ _ e => .inl (by omega), fun k hk => .inl hk⟩
          · refine anyT_one (i := 12) (by kernel_rfl) rfl (fun K' hK => ?_)
            go_simp
            refine hK.out _ _ (fun h => absurd rfl h) ?_
            clear hK K'
            try simp only [Act.put, List.setIfInBounds_toArray, List.set_cons_zero, List.set_cons_succ]
            refine anyT_done (by kernel_rfl) ?_ _
            simp only [if_true] at hg
            have hcI6 := bI6.cell
            have hcR6 := bR6.cell
            have hfR6 := bR6.frozen
            have hfH6 := hC6.frozen x
            have hcH6 := hC6.cell hxn
            have hcL6 := bL6.cell
            clear hHold
            gi_wp2
            have hs1 : Upd (fun k => k = hb) w6 (w6.setCell ⟨hb, x, none⟩ (.int .i64 (low : Int))) := (Upd.refl (fun k => k = hb) w6).setCell (p := ⟨hb, x, none⟩) (.inr rfl) _
            have hs2 : Upd (fun k => k = w.heap.size + 1) (w6.setCell ⟨hb, x, none⟩ (.int .i64 (low : Int))) ((w6.setCell ⟨hb, x, none⟩ (.int .i64 (low : Int))).setCell ⟨w.heap.size + 1, 0, none⟩ (.bool true)) := (Upd.refl (fun k => k = w.heap.size + 1) _).setCell (p := ⟨w.heap.size + 1, 0, none⟩) (.inr rfl) _
            have hCe := (hC6.set x (low : Int)).upd hs2 (fun e => by omega)
            have bAe := hs2.boxed (hs1.boxed bA6 (fun e => d9 e)) (fun e => by omega)
            have bRe := (hs1.boxed bR6 (fun e => by omega)).set (.bool true)
            refine ⟨D1, ⟨rfl, by rw [← hg], by rw [← hg]; exact hCe, ⟨as6, by rw [← hg]; exact hSe6, bAe⟩, bRe, ?_⟩, ?_, fun k hk => .inl hk⟩
            · exact (((hW6.mono (S := fun k => k = hb ∨ k = ba ∨ k = w.heap.size + 1) fun _ _ e => by omega).trans' hs1 (fun i hi e => .inl e)).trans' hs2 (fun i hi e => .inr (.inr e)))
            · exact (((hV6.mono (S := fun k => (k = hb ∨ k = ba ∨ k = w.heap.size + 1) ∨ D1 k ∨ W.heap.size ≤ k) fun _ _ e => .inl (by omega)).trans' hs1 (fun i hi e => .inl (.inl e))).trans' hs2 (fun i hi e => .inl (.inr (.inr e))))

      · rw [hsx, hsb] at hg
        simp only [if_true] at hg
        have Hg2 := Lib.hid (show mateG zs (mateF zs f) low (n - nxB (pre ++ [x])) (nxB (pre ++ [x])) h2 s2 = r by rw [hd2, hnx]; exact hg)
        have Hsb := Lib.hid hsb
        clear hg Hg hd hd2 hsb
        gi_wp2_with fail
        refine (CallsIn.inRound l1 (callsIn_wide.2 (has_any _ _ _ (by omega) (by omega) (by omega) (by omega)))).mono ?_
        rw [Hsb.out]
        rintro e w' ⟨rfl, rfl⟩
        gi_wp2
        exact ⟨D1, ⟨h2, s2, as2, hOk2, hSe2, hus, Hg2, hC2, bA2, hU⟩, Upd.refl _ _, fun k hk => .inl hk⟩
    case done =>
      rintro d D1 W hd ⟨h2, s2, as2, hOk2, hSe2, hus, Hg, hC2, bA2, hU⟩ hD1 hKd
      have bR2 := hU.boxed bR1 (fun e => by omega)
      have hcR := bR2.cell
      have hfR := bR2.frozen
      have hle := nxB_le hz.1 hz.2 hz64.2
      have hg : (false, h2, s2) = r := by
        rw [← Hg.out, skip_none (n - nxB (itemsL z)) (nxB (itemsL z)) (by omega) (fun j h1 h2 => by rw [Hzz.out]; exact end_none hz64.2 h1), show nxB (itemsL z) + (n - nxB (itemsL z)) = n by omega, Nat.sub_self]; rfl
      have Hgr := Lib.hid hg
      clear hg Hg
      gi_wp2
      have hus2 : Upd (fun k => k = w.heap.size + 1) W (W.setCell ⟨w.heap.size + 1, 0, none⟩ (.bool false)) := (Upd.refl (fun k => k = w.heap.size + 1) W).setCell (p := ⟨w.heap.size + 1, 0, none⟩) (.inr rfl) _
      have hC3 := hC2.upd hus2 (fun e => by omega)
      have bA3 := hus2.boxed bA2 (fun e => by omega)
      refine leaves_marks [d] _ ⟨by simp, fun b hb => ?_⟩ (fun W' hu' => ?_)
      · rw [List.mem_singleton.1 hb]
        exact (hus2.block d (Array.getElem?_eq_some_iff.1 hKd).1 (by omega)).trans hKd
      · have hc' := (hu'.boxed (bR2.set (.bool false)) (by simp; omega)).cell
        rw [← Hgr.out]
        exact ⟨.bool false, by simp [results, Try.f96, go_sem, hc'], rfl, hC3.upd hu' (fun e => by simp at e; omega), ⟨as2, hSe2, hu'.boxed bA3 (fun e => by simp at e; omega)⟩,
          (((hu1.mono (S := fun k => k = hb ∨ k = ba) fun _ _ e => e.elim).trans' hU (fun i hi e => e)).trans' hus2 (fun i hi e => by omega)).trans' hu' (fun i hi e => by simp at e; omega)⟩
    case stop =>
      rintro d D1 co pre W hd hpre ⟨rfl, hr1, hC2, ⟨as2, hSe2, bA2⟩, bR2, hU⟩ hD1 hKd
      have Hr1 := Lib.hid hr1
      clear hr1
      gi_wp2
      refine leaves_marks [d] _ ⟨by simp, fun b hb => ?_⟩ (fun W' hu' => ?_)
      · rw [List.mem_singleton.1 hb]
        exact hKd
      · have hc' := (hu'.boxed bR2 (by simp; omega)).cell
        exact ⟨.bool true, by simp [results, Try.f96, go_sem, hc'], by rw [Hr1.out], hC2.upd hu' (fun e => by simp at e; omega), ⟨as2, hSe2, hu'.boxed bA2 (fun e => by simp at e; omega)⟩,
          ((hu1.mono (S := fun k => k = hb ∨ k = ba) fun _ _ e => e.elim).trans' hU (fun i hi e => by omega)).trans' hu' (fun i hi e => by simp at e; omega)⟩
end Go.Proofs.Ytaacbnolijelhaa

/- slices.Repeat of one number: as many of it. -/
namespace Go.Proofs.Ytaacbnolijelhaa
open Go.RowKit Go.Shelf
attribute [local go_sem] Oper.semAt_some
attribute [local go_sem, local simp] wide_fn

theorem mul64_any (n : Nat) (hn : n ≤ 6) (w : World) : Calls Try.prog 126 #[.int .u64 1, .int .u64 (n : Int)] w fun e w' => e = .returned (.tuple #[.int .u64 0, .int .u64 (n : Int)]) ∧ w = w' := by
  have : n = 0 ∨ n = 1 ∨ n = 2 ∨ n = 3 ∨ n = 4 ∨ n = 5 ∨ n = 6 := by omega
  rcases this with rfl | rfl | rfl | rfl | rfl | rfl | rfl
  all_goals
    go_enter Try.func126, Try.ntmps126
    go_wp2
    go_ret2
    exact ⟨by kernel_rfl, rfl⟩
theorem mul_any (n : Nat) (hn : n ≤ 6) (w : World) : Calls Try.prog 117 #[.int .u64 1, .int .u64 (n : Int)] w fun e w' => e = .returned (.tuple #[.int .u64 0, .int .u64 (n : Int)]) ∧ w = w' := by
  go_enter Try.func117, Try.ntmps117
  go_wp2_with (go_at_call 126; refine (mul64_any n hn _).mono ?_; rintro e w' ⟨rfl, rfl⟩)
  go_ret2
  exact ⟨rfl, rfl⟩

/-- Filled up to k. -/
def fillTo (n k : Nat) : List Int := List.replicate k (-1) ++ List.replicate (n - k) 0
theorem fill_len (n k : Nat) (h : k ≤ n) : (fillTo n k).length = n := by simp [fillTo]; omega
theorem fill_splice {n k c : Nat} (h : k + c ≤ n) : splice ((fillTo n k).map (Value.int .i64)) k ((List.replicate c (-1)).map (Value.int .i64)) = (fillTo n (k + c)).map (Value.int .i64) := by
  unfold splice fillTo
  simp only [List.map_append, List.map_replicate, List.length_replicate, List.length_map]
  rw [List.take_append_of_le_length (by simp), List.take_of_length_le (by simp), List.drop_append]
  simp only [List.length_replicate, List.drop_replicate]
  rw [show k - (k + c) = 0 by omega, List.replicate_zero, List.nil_append, ← List.append_assoc, List.replicate_append_replicate]
  congr 2
  omega
theorem fill_get {n k j : Nat} (hj : j < k) (hk : k ≤ n) : (fillTo n k)[j]?.getD 0 = -1 := by
  unfold fillTo
  rw [List.getElem?_append_left (by simpa using hj)]
  simp [hj]
theorem fill_all (n : Nat) : fillTo n n = List.replicate n (-1) := by simp [fillTo]

set_option maxRecDepth 100000 in
set_option maxHeartbeats 4000000 in
theorem repeat_any (bx cx n : Nat) (hn : n ≤ 6) (w : World) (hx : w.cell? ⟨bx, 0, none⟩ = some (.int .i64 (-1))) (hbx : bx < w.heap.size) :
    Calls Try.prog 95 #[.slice (some ⟨bx, 0, none⟩) 1 cx, .int .i64 (n : Int)] w fun e w' => e = .returned (.slice (some ⟨w.heap.size, 0, none⟩) n n) ∧ Arr w' w.heap.size 3 (List.replicate n (-1)) ∧ Below w.heap.size w w' := by
  have hmk := run_make_row' (P := Try.prog) 22 3 (.int .i64 0) 8 Try.underlying22 infoInt rfl .i64 .i64 n (by omega) (by omega)
  have hw1 : IntKind.u64.wrap (n : Int) = (n : Int) := by rw [IntKind.wrap_u64]; omega
  have hw2 : IntKind.i64.wrap (n : Int) = (n : Int) := by rw [IntKind.wrap_i64]; omega
  have hsz : (Try.prog.info? 3).map (·.size) = some 1 := by kernel_rfl
  have hB0 : Below w.heap.size w (w.alloc (.cells (madeCells #[Value.int .i64 0] n) 3)) := (Below.refl _ _).alloc (Nat.le_refl _) _
  have aD : Arr (w.alloc (.cells (madeCells #[Value.int .i64 0] n) 3)) w.heap.size 3 (fillTo n 0) := by
    have := Arr.new w 3 n
    unfold fillTo
    simpa using this
  have hcx : (w.alloc (.cells (madeCells #[Value.int .i64 0] n) 3)).cell? ⟨bx, 0, none⟩ = some (.int .i64 (-1)) := by
    rw [World.cell?_alloc_lt _ _ ⟨bx, 0, none⟩ hbx]; exact hx
  obtain ⟨C0, hC0⟩ : ∃ C0, min 1 n = C0 := ⟨_, rfl⟩
  have hfl := fill_len n 0 (by omega)
  have hsp := fill_splice (n := n) (k := 0) (c := C0) (by omega)
  have hcl : ((List.replicate C0 (-1 : Int)).map (Value.int .i64)).length = C0 := by simp
  have hcm : ∀ (j : Nat) (v : Value), ((List.replicate C0 (-1 : Int)).map (Value.int .i64))[j]? = some v → v = .int .i64 (-1) ∧ j < C0 := fun j v h => by
    simp only [List.map_replicate, List.getElem?_replicate] at h
    split at h
    · exact ⟨(Option.some.inj h).symm, by assumption⟩
    · cases h
  have h1m : ∀ v ∈ (List.replicate C0 (-1 : Int)).map (Value.int .i64), v.oneCell' = true := fun v hv => by
    simp only [List.map_replicate] at hv
    rw [List.eq_of_mem_replicate hv]
    rfl
  rw [Nat.zero_add] at hsp
  unfold Arr at aD
  obtain ⟨cs, hcs⟩ : ∃ cs, (List.replicate C0 (-1 : Int)).map (Value.int .i64) = cs := ⟨_, rfl⟩
  obtain ⟨cur, hcur⟩ : ∃ cur, (fillTo n 0).map (Value.int .i64) = cur := ⟨_, rfl⟩
  have hcul : cur.length = n := by rw [← hcur, List.length_map, hfl]
  rw [hcs] at hsp hcl hcm h1m
  rw [hcur] at hsp aD
  have Hsp := Lib.hid hsp
  clear hcs hcur hsp hfl
  have h9 : decide (9223372036854775807 < (n : Int)) = false := decide_eq_false (by omega)
  have h0 : decide ((n : Int) < 0) = false := decide_eq_false (by omega)
  have hn0 : cs.length = Nat.min 1 n := by rw [hcl]; exact hC0.symm
  have hq0 : ∀ (j : Nat) (v : Value), cs[j]? = some v → (w.alloc (.cells (madeCells #[Value.int .i64 0] n) 3)).cell? ((⟨bx, 0, none⟩ : Addr).add j) = some v := fun j v hj => by
    obtain ⟨rfl, hjc⟩ := hcm j v hj
    obtain rfl : j = 0 := by omega
    simpa [Addr.add] using hcx
  have hfit0 : 0 + cs.length ≤ cur.length := by rw [hcl, hcul]; omega
  have HN0 := Lib.hid hn0
  have HP0 := Lib.hid hq0
  have HF0 := Lib.hid hfit0
  have H1M := Lib.hid h1m
  have HAD := Lib.hid aD
  have HCL := Lib.hid hcl
  have HC0 := Lib.hid hC0
  clear hn0 hq0 hfit0 h1m aD hcl hcm hcx hC0 hcul
  go_enter Try.func95, Try.ntmps95
  go_wp2_with (first
    | (go_at_call 117; refine (mul_any n hn _).mono ?_; rintro e w' ⟨rfl, rfl⟩)
    | (refine wpList_copy_splice (o := ⟨some 33, _, _, _, _, _⟩) rfl (.tmp 31) (.tmp 32) 22 22 rfl 3 Try.underlying22 hsz (some ⟨w.heap.size, 0, none⟩) (some ⟨bx, 0, none⟩) n n 1 cx rfl rfl w.heap.size 0 cur 3 HAD.out cs HN0.out (fun _ => ⟨rfl, _, rfl, HP0.out⟩) HF0.out H1M.out w.heap.size w hB0 (Nat.le_refl _) ?_; intro w2 HG hb2; rw [HCL.out]))
  have HG2 := Lib.hid (show Arr w2 w.heap.size 3 (fillTo n C0) by unfold Arr; rw [HG.out, Hsp.out])
  clear HG HAD hB0
  have hc1 : (1 ≤ C0 ∨ n = 0) ∧ C0 ≤ n := by have := HC0.out; omega
  go_loopw [8] (fun v wr => ∃ k : Nat, k ≤ n ∧ (1 ≤ k ∨ n = 0) ∧ v = .int .i64 (k : Int) ∧ Arr wr w.heap.size 3 (fillTo n k) ∧ Below w.heap.size w wr) (fun v _ => n - (intOf v).toNat)
  case atStart => exact ⟨C0, hc1.2, hc1.1, rfl, HG2.out, hb2⟩
  case round =>
    clear hb2
    obtain ⟨k, hk, hk1, rfl, hAr, hBr⟩ := hrel
    rename World => wr
    by_cases hlt : k < n
    · have hkn : ¬ k = n := by omega
      obtain ⟨C1, hC1⟩ : ∃ C1, min k (n - k) = C1 := ⟨_, rfl⟩
      have hsp := fill_splice (n := n) (k := k) (c := C1) (by omega)
      obtain ⟨cs1, hcs1⟩ : ∃ cs1, (List.replicate C1 (-1 : Int)).map (Value.int .i64) = cs1 := ⟨_, rfl⟩
      obtain ⟨cur1, hcur1⟩ : ∃ cur1, (fillTo n k).map (Value.int .i64) = cur1 := ⟨_, rfl⟩
      have hcl1 : cs1.length = C1 := by rw [← hcs1]; simp
      have hcul : cur1.length = n := by rw [← hcur1, List.length_map, fill_len n k hk]
      have HN1 := Lib.hid (show cs1.length = Nat.min k (n - k) by rw [hcl1]; exact hC1.symm)
      have HF1 := Lib.hid (show k + cs1.length ≤ cur1.length by rw [hcl1, hcul]; omega)
      have H1N := Lib.hid (show ∀ v ∈ cs1, v.oneCell' = true from fun v hv => by
        rw [← hcs1, List.map_replicate] at hv
        rw [List.eq_of_mem_replicate hv]
        rfl)
      have HP1 := Lib.hid (show ∀ W : World, Arr W w.heap.size 3 (fillTo n k) → ∀ (j : Nat) (v : Value), cs1[j]? = some v → W.cell? ((⟨w.heap.size, 0, none⟩ : Addr).add j) = some v from
        fun W hA j v hj => by
          have hjc : j < C1 := by rw [← hcl1]; exact (List.getElem?_eq_some_iff.1 hj).1
          have hv : v = .int .i64 (-1) := by
            rw [← hcs1, List.map_replicate] at hj
            exact List.eq_of_mem_replicate (List.mem_of_getElem? hj)
          have hc := hA.cell (k := j) (by rw [fill_len n k hk]; omega)
          rw [fill_get (by omega) hk] at hc
          have hadd : (⟨w.heap.size, 0, none⟩ : Addr).add j = ⟨w.heap.size, j, none⟩ := by unfold Addr.add; split <;> simp_all
          rw [hv, hadd]
          exact hc)
      rw [hcs1, hcur1] at hsp
      have Hsp1 := Lib.hid hsp
      have HCL1 := Lib.hid hcl1
      have HC1 := Lib.hid hC1
      have HCU := Lib.hid hcur1
      have HAr := Lib.hid (show Arr wr.drew w.heap.size 3 (fillTo n k) from hAr)
      have hBd : Below w.heap.size w wr.drew := below_drewN hBr 1
      clear hsp hcs1 hcur1 hcl1 hcul hC1 hAr hBr
      go_wp2_with fail
      refine region_T (S := fun _ => True) 9 (by kernel_rfl) ?_
      obtain ⟨Wd, hWd⟩ : ∃ Wd, wr.drew = Wd := ⟨_, rfl⟩
      rw [hWd] at HAr hBd ⊢
      clear hWd
      have hT : (fun _ : World => True) Wd := trivial
      refine anyT_take (i := 0) (oi := ?oi0a) (v := .int .i64 (k : Int)) ?hi0a (by kernel_rfl) ?hq0a ?hy0a (by assumption) ?rest0a
      case hi0a => (simp only [List.getElem?_toArray, List.getElem?_cons_zero]; first | done | rfl)
      case hq0a => first | exact fun _ _ _ h => h | exact fun _ _ _ h => (by cases h.1)
      case hy0a => (refine Or.inl ⟨by rfl, ?_⟩; intro wz hSw; go_simp; first | done | with_reducible rfl | simp | omega)
      try simp only [Act.put, List.setIfInBounds_toArray, List.set_cons_zero, List.set_cons_succ]
      refine anyT_take (i := 1) (oi := ?oi1a) (v := .slice (some ⟨w.heap.size, 0, none⟩) n n) ?hi1a (by kernel_rfl) ?hq1a ?hy1a (by assumption) ?rest1a
      case hi1a => (simp only [List.getElem?_toArray, List.getElem?_cons_succ, List.getElem?_cons_zero]; first | done | rfl)
      case hq1a => first | exact fun _ _ _ h => h | exact fun _ _ _ h => (by cases h.1)
      case hy1a => (refine Or.inl ⟨by rfl, ?_⟩; intro wz hSw; go_simp; first | done | with_reducible rfl | simp | omega)
      try simp only [Act.put, List.setIfInBounds_toArray, List.set_cons_zero, List.set_cons_succ]
      refine anyT_take (i := 2) (oi := ?oi2a) (v := .int .i64 (k : Int)) ?hi2a (by kernel_rfl) ?hq2a ?hy2a (by assumption) ?rest2a
      case hi2a => (simp only [List.getElem?_toArray, List.getElem?_cons_succ, List.getElem?_cons_zero]; first | done | rfl)
      case hq2a => first | exact fun _ _ _ h => h | exact fun _ _ _ h => (by cases h.1)
      case hy2a => (refine Or.inl ⟨by rfl, ?_⟩; intro wz hSw; go_simp; first | done | with_reducible rfl | simp | omega)
      try simp only [Act.put, List.setIfInBounds_toArray, List.set_cons_zero, List.set_cons_succ]
      refine anyT_take (i := 3) (oi := ?oi3a) (v := .slice (some ⟨w.heap.size, k, none⟩) (n - k) (n - k)) ?hi3a (by kernel_rfl) ?hq3a ?hy3a (by assumption) ?rest3a
      case hi3a => (simp only [List.getElem?_toArray, List.getElem?_cons_succ, List.getElem?_cons_zero]; first | done | rfl)
      case hq3a => first | exact fun _ _ _ h => h | exact fun _ _ _ h => (by cases h.1)
      case hy3a => (refine Or.inl ⟨by rfl, ?_⟩; intro wz hSw; go_simp; first | done | with_reducible rfl | simp | omega)
      try simp only [Act.put, List.setIfInBounds_toArray, List.set_cons_zero, List.set_cons_succ]
      refine anyT_take (i := 4) (oi := ?oi4a) (v := .slice (some ⟨w.heap.size, 0, none⟩) n n) ?hi4a (by kernel_rfl) ?hq4a ?hy4a (by assumption) ?rest4a
      case hi4a => (simp only [List.getElem?_toArray, List.getElem?_cons_succ, List.getElem?_cons_zero]; first | done | rfl)
      case hq4a => first | exact fun _ _ _ h => h | exact fun _ _ _ h => (by cases h.1)
      case hy4a => (refine Or.inl ⟨by rfl, ?_⟩; intro wz hSw; go_simp; first | done | with_reducible rfl | simp | omega)
      try simp only [Act.put, List.setIfInBounds_toArray, List.set_cons_zero, List.set_cons_succ]
      refine anyT_take (i := 5) (oi := ?oi5a) (v := .int .i64 (k : Int)) ?hi5a (by kernel_rfl) ?hq5a ?hy5a (by assumption) ?rest5a
      case hi5a => (simp only [List.getElem?_toArray, List.getElem?_cons_succ, List.getElem?_cons_zero]; first | done | rfl)
      case hq5a => first | exact fun _ _ _ h => h | exact fun _ _ _ h => (by cases h.1)
      case hy5a => (refine Or.inl ⟨by rfl, ?_⟩; intro wz hSw; go_simp; first | done | with_reducible rfl | simp | omega)
      try simp only [Act.put, List.setIfInBounds_toArray, List.set_cons_zero, List.set_cons_succ]
      refine anyT_take (i := 6) (oi := ?oi6a) (v := .slice (some ⟨w.heap.size, 0, none⟩) k n) ?hi6a (by kernel_rfl) ?hq6a ?hy6a (by assumption) ?rest6a
      case hi6a => (simp only [List.getElem?_toArray, List.getElem?_cons_succ, List.getElem?_cons_zero]; first | done | rfl)
      case hq6a => first | exact fun _ _ _ h => h | exact fun _ _ _ h => (by cases h.1)
      case hy6a => (refine Or.inl ⟨by rfl, ?_⟩; intro wz hSw; go_simp; first | done | with_reducible rfl | simp | omega)
      try simp only [Act.put, List.setIfInBounds_toArray, List.set_cons_zero, List.set_cons_succ]
      refine anyT_one (i := 7) (by kernel_rfl) rfl (fun K' hK => ?_)
      refine step_copy_splice rfl (.tmp 41) (.tmp 44) 22 22 rfl 3 Try.underlying22 hsz (some ⟨w.heap.size, k, none⟩) (some ⟨w.heap.size, 0, none⟩) (n - k) (n - k) k n rfl rfl w.heap.size k cur1 3 (by rw [← HCU.out]; exact HAr.out) cs1 HN1.out (fun _ => ⟨rfl, _, rfl, HP1.out Wd HAr.out⟩) HF1.out H1N.out w.heap.size w hBd (Nat.le_refl _) ?_
      intro w3 HG3 hb3
      rw [HCL1.out]
      refine hK.out _ _ (fun _ => trivial) ?_
      clear hK K'
      try simp only [Act.put, List.setIfInBounds_toArray, List.set_cons_zero, List.set_cons_succ]
      have hT3 : (fun _ : World => True) w3 := trivial
      have hc1 := HC1.out
      have hwk : IntKind.i64.wrap ((k : Int) + (C1 : Int)) = ((k + C1 : Nat) : Int) := by rw [IntKind.wrap_i64]; omega
      refine anyT_take (i := 8) (oi := ?oi8a) (v := .int .i64 ((k + C1 : Nat) : Int)) ?hi8a (by kernel_rfl) ?hq8a ?hy8a (by assumption) ?rest8a
      case hi8a => (simp only [List.getElem?_toArray, List.getElem?_cons_succ, List.getElem?_cons_zero]; first | done | rfl)
      case hq8a => first | exact fun _ _ _ h => h | exact fun _ _ _ h => (by cases h.1)
      case hy8a => (refine Or.inl ⟨by rfl, ?_⟩; intro wz hSw; go_simp; first | done | with_reducible rfl | simp [hwk] | omega)
      try simp only [Act.put, List.setIfInBounds_toArray, List.set_cons_zero, List.set_cons_succ]
      clear hwk
      refine anyT_one (i := 9) (by kernel_rfl) rfl (fun K' hK => ?_)
      go_simp
      refine hK.out _ _ (fun h => absurd rfl h) ?_
      clear hK K'
      try simp only [Act.put, List.setIfInBounds_toArray, List.set_cons_zero, List.set_cons_succ]
      refine anyT_done (by kernel_rfl) ?_ _
      have hA3 : Arr w3 w.heap.size 3 (fillTo n (k + C1)) := by unfold Arr; rw [HG3.out, Hsp1.out]
      go_wp2_with fail
      go_roundw
      case rel => exact ⟨k + C1, by omega, by omega, rfl, hA3, hb3⟩
      case measure => simp [intOf]; omega
    · obtain rfl : k = n := by omega
      rw [fill_all] at hAr
      go_wp2
      go_ret
      exact ⟨rfl, hAr, hBr⟩
end Go.Proofs.Ytaacbnolijelhaa

/- The matching: the program's, item by item. -/
namespace Go.Proofs.Ytaacbnolijelhaa
open Go.RowKit Go.Shelf
attribute [local go_sem] Oper.semAt_some
theorem run_store_fn {P : Program} {w : World} {a : Addr} {m : Mode} (fn : Fn) (first captured : Array Value) : (store a (.func fn first captured) m).run P w = stored P w a (.func fn first captured) m := run_store P w a _ m rfl
attribute [local go_sem] run_store_fn

theorem matesTo_len (zs : List Int) : ∀ k : Nat, k ≤ zs.length → (matesTo zs k).length = zs.length := fun k hk => (matesTo_ok zs k hk).1
theorem Cel.ofArr {w : World} {b n : Nat} {t : TypeId} {d : List Int} (h : Arr w b t d) (hn : d.length = n) : Cel w b t n d := ⟨hn, _, h, by rw [← hn]; exact List.take_of_length_le (by simp)⟩

set_option maxRecDepth 100000 in
set_option maxHeartbeats 4000000 in
theorem matchItems_any (bz n : Nat) (zs : List Int) (hvo : VoP zs) (hlen : zs.length = n) (w : World) (hZ : Arr w bz 49 zs) :
    Calls Try.prog 75 #[.slice (some ⟨bz, 0, none⟩) n n] w fun e w' => ∃ b, e = .returned (.slice (some ⟨b, 0, none⟩) n n) ∧ w.heap.size ≤ b ∧ Cel w' b 3 n (matesTo zs n) ∧ Below w.heap.size w w' := by
  have Hlen := Lib.hid hlen
  have hn6 : n ≤ 6 := by have := hvo.1; rw [hlen] at this; exact this
  have hzl := hZ.lt
  clear hlen
  go_enter Try.func75, Try.ntmps75
  go_wp2_with fail
  have hU1 : Upd (fun _ => False) w ((w.alloc (.cells #[Value.slice (some ⟨bz, 0, none⟩) n n] 40)).alloc (.cells #[Value.int .i64 (-1)] 3)) := ((Upd.refl _ _).alloc _).alloc _
  have bO1 := (Boxed.new w 40 (.slice (some ⟨bz, 0, none⟩) n n)).alloc (.cells #[Value.int .i64 (-1)] 3)
  have hx1 : ((w.alloc (.cells #[Value.slice (some ⟨bz, 0, none⟩) n n] 40)).alloc (.cells #[Value.int .i64 (-1)] 3)).cell? ⟨w.heap.size + 1, 0, none⟩ = some (.int .i64 (-1)) := by
    have h := cell_new (w.alloc (.cells #[Value.slice (some ⟨bz, 0, none⟩) n n] 40)) 3 (.int .i64 (-1))
    rwa [World.size_alloc] at h
  have Z1 := Lib.hid (show ((w.alloc (.cells #[Value.slice (some ⟨bz, 0, none⟩) n n] 40)).alloc (.cells #[Value.int .i64 (-1)] 3)).heap.size = w.heap.size + 2 by simp)
  obtain ⟨w1, hw1⟩ : ∃ w1, (w.alloc (.cells #[Value.slice (some ⟨bz, 0, none⟩) n n] 40)).alloc (.cells #[Value.int .i64 (-1)] 3) = w1 := ⟨_, rfl⟩
  rw [hw1] at hU1 bO1 hx1 Z1 ⊢
  clear hw1
  refine (repeat_any (w.heap.size + 1) 1 n hn6 w1 hx1 (by rw [Z1.out]; omega)).mono ?_
  rintro e w2 ⟨rfl, hA2, hB2⟩
  have z2 := hB2.size
  have hlw : w.heap.size < w2.heap.size := by have := Z1.out; omega
  have bO2 : Boxed w2 w.heap.size 40 (.slice (some ⟨bz, 0, none⟩) n n) := (hB2.block w.heap.size (by rw [Z1.out]; omega)).trans bO1
  have hco2 : (((w2.alloc (.cells #[Value.slice (some ⟨w1.heap.size, 0, none⟩) n n] 22)).alloc (.cells #[Value.int .i64 0] 49)).alloc (.cells #[findV w.heap.size (w2.heap.size + 1) w2.heap.size (w2.heap.size + 1 + 1)] 75)).cell? ⟨w.heap.size, 0, none⟩ = some (.slice (some ⟨bz, 0, none⟩) n n) := (((bO2.alloc _).alloc _).alloc _).cell
  unfold findV at hco2
  go_wp2_with fail
  have W3d : ∃ W3, ((w2.alloc (.cells #[Value.slice (some ⟨w1.heap.size, 0, none⟩) n n] 22)).alloc (.cells #[Value.int .i64 0] 49)).alloc (.cells #[findV w.heap.size (w2.heap.size + 1) w2.heap.size (w2.heap.size + 1 + 1)] 75) = W3 := ⟨_, rfl⟩
  have bL3 := ((Boxed.new w2 22 (.slice (some ⟨w1.heap.size, 0, none⟩) n n)).alloc (.cells #[Value.int .i64 0] 49)).alloc (.cells #[findV w.heap.size (w2.heap.size + 1) w2.heap.size (w2.heap.size + 1 + 1)] 75)
  have bA3 := (Boxed.new (w2.alloc (.cells #[Value.slice (some ⟨w1.heap.size, 0, none⟩) n n] 22)) 49 (.int .i64 0)).alloc (.cells #[findV w.heap.size (w2.heap.size + 1) w2.heap.size (w2.heap.size + 1 + 1)] 75)
  have bF3 := Boxed.new ((w2.alloc (.cells #[Value.slice (some ⟨w1.heap.size, 0, none⟩) n n] 22)).alloc (.cells #[Value.int .i64 0] 49)) 75 (findV w.heap.size (w2.heap.size + 1) w2.heap.size (w2.heap.size + 1 + 1))
  have hU3 : Upd (fun _ => False) w2 (((w2.alloc (.cells #[Value.slice (some ⟨w1.heap.size, 0, none⟩) n n] 22)).alloc (.cells #[Value.int .i64 0] 49)).alloc (.cells #[findV w.heap.size (w2.heap.size + 1) w2.heap.size (w2.heap.size + 1 + 1)] 75)) := (((Upd.refl _ _).alloc _).alloc _).alloc _
  have Z3 := Lib.hid (show (((w2.alloc (.cells #[Value.slice (some ⟨w1.heap.size, 0, none⟩) n n] 22)).alloc (.cells #[Value.int .i64 0] 49)).alloc (.cells #[findV w.heap.size (w2.heap.size + 1) w2.heap.size (w2.heap.size + 1 + 1)] 75)).heap.size = w2.heap.size + 3 by simp)
  simp only [World.size_alloc] at bA3 bF3
  obtain ⟨W3, hW3⟩ := W3d
  have hW3' := hW3
  unfold findV at hW3'
  rw [hW3] at bL3 bA3 bF3 hU3 Z3
  rw [hW3']
  clear hW3 hW3'
  have bO3 : Boxed W3 w.heap.size 40 (.slice (some ⟨bz, 0, none⟩) n n) := (hU3.block w.heap.size bO2.lt (fun e => e)).trans bO2
  have hA3 := hA2.upd hU3 (fun e => e)
  have hZ2 : Arr w2 bz 49 zs := (hB2.block bz (by rw [Z1.out]; omega)).trans ((hU1.block bz hzl (fun e => e)).trans hZ)
  have hZ3 := hZ2.upd hU3 (fun e => e)
  have hC3 : Cel W3 w1.heap.size 3 n (matesTo zs 0) := Cel.ofArr (by unfold matesTo; rw [Hlen.out]; exact hA3) (by rw [matesTo_len zs 0 (by omega)]; exact Hlen.out)
  have hl2 : w1.heap.size < w2.heap.size := hA2.lt
  have hl1 : w.heap.size + 2 = w1.heap.size := Z1.out.symm
  have Hl1 := Lib.hid hl1
  clear hl1
  have hl1 : w.heap.size + 1 < w1.heap.size := by have := Hl1.out; omega
  clear bO1 bO2 hA2 hZ2 hA3 hZ hx1 hco2
  go_wp2_with fail
  go_loopw [14] (fun i wr => ∃ k : Nat, k ≤ n ∧ i = .int .i64 k ∧ Cel wr w1.heap.size 3 n (matesTo zs k) ∧ (∃ q : Int, Boxed wr (w2.heap.size + 1) 49 (.int .i64 q)) ∧ Upd (fun j => j = w1.heap.size ∨ j = w2.heap.size + 1) W3 wr) (fun i _ => n - (intOf i).toNat)
  case atStart => exact ⟨0, by omega, rfl, hC3, ⟨0, bA3⟩, Upd.refl _ _⟩
  case round =>
    clear hC3 bA3
    obtain ⟨k, hk, rfl, hC, ⟨q, bA⟩, hU⟩ := hrel
    rename World => wr
    have zU := hU.size
    rw [Z3.out] at zU
    have bLr : Boxed wr _ _ _ := (hU.block w2.heap.size (by rw [Z3.out]; omega) (by omega)).trans bL3
    have bFr : Boxed wr _ _ _ := (hU.block (w2.heap.size + 1 + 1) (by rw [Z3.out]; omega) (by omega)).trans bF3
    have bOr : Boxed wr _ _ _ := (hU.block w.heap.size (by rw [Z3.out]; omega) (by omega)).trans bO3
    have hZr := hZ3.upd hU (by omega)
    by_cases hlt : k < n
    · have hcA := bA.cell
      have hfA := bA.frozen
      have hcF : (wr.setCell ⟨w2.heap.size + 1, 0, none⟩ (.int .i64 0)).cell? ⟨w2.heap.size + 1 + 1, 0, none⟩ = some (findV w.heap.size (w2.heap.size + 1) w2.heap.size (w2.heap.size + 1 + 1)) := (Boxed.other bFr (by omega) _).cell
      unfold findV at hcF
      go_wp2_with fail
      have hU5 : Upd (fun j => j = w2.heap.size + 1) wr (wr.setCell ⟨w2.heap.size + 1, 0, none⟩ (.int .i64 0)) := (Upd.refl (fun j => j = w2.heap.size + 1) wr).setCell (p := ⟨w2.heap.size + 1, 0, none⟩) (.inr rfl) _
      have bA5 := bA.set (.int .i64 0)
      have bO5 := Boxed.other bOr (B' := w2.heap.size + 1) (by omega) (.int .i64 0)
      have bL5 := Boxed.other bLr (B' := w2.heap.size + 1) (by omega) (.int .i64 0)
      have bF5 := Boxed.other bFr (B' := w2.heap.size + 1) (by omega) (.int .i64 0)
      have hZ5 := hZr.upd hU5 (by omega)
      have hC5 := hC.upd hU5 (by omega)
      have hz5 := hU5.size
      obtain ⟨W5, hW5⟩ : ∃ W5, wr.setCell ⟨w2.heap.size + 1, 0, none⟩ (.int .i64 0) = W5 := ⟨_, rfl⟩
      rw [hW5] at hU5 bA5 bO5 bL5 bF5 hZ5 hC5 hz5 ⊢
      clear hW5 hcF bA bOr bLr bFr hZr hC hcA hfA
      have Hm := Lib.hid (show matesTo zs (k + 1) = (mateF zs (n + 1) k (matesTo zs k) (List.replicate n false)).2.1 by rw [show matesTo zs (k + 1) = (mateF zs (zs.length + 1) k (matesTo zs k) (List.replicate zs.length false)).2.1 from rfl, Hlen.out])
      refine (find_any zs hvo n n bz w.heap.size (w2.heap.size + 1) w2.heap.size (w2.heap.size + 1 + 1) w1.heap.size Hlen.out ⟨by omega, by omega, by omega, by omega, by omega, by omega, by omega, by omega, by omega⟩ (n + 1) k (matesTo zs k) (List.replicate n false) 0 W5 hlt (by have := matesTo_ok zs k (by rw [Hlen.out]; omega); rwa [Hlen.out] at this) (SeenAs.none n) (by have := unseen_le (List.replicate n false); rw [List.length_replicate] at this; omega) bO5 bA5 bL5 bF5 hZ5 hC5).mono ?_
      rintro e w6 ⟨rfl, hC6, ⟨q6, -, bA6⟩, hU6⟩
      rw [← Hm.out] at hC6
      have hU7 := (hU.trans' hU5 (fun i hi e => .inr e)).trans' hU6 (fun i hi e => e)
      clear bA5 bO5 bL5 bF5 hZ5 hC5 hU5 hU6 hU
      go_wp2_with fail
      go_roundw
      case rel => exact ⟨k + 1, by omega, by go_num, hC6, ⟨q6, bA6⟩, hU7⟩
      case measure => simp [intOf]; omega
    · obtain rfl : k = n := by omega
      have hcL := bLr.cell
      go_wp2_with fail
      go_ret
      have b1 : Below w.heap.size w w1 := hU1.toBelow (fun _ e => e.elim) (Nat.le_refl _)
      have b2 := b1.trans (hB2.mono (by omega))
      have b3 := b2.trans (hU3.toBelow (B := w.heap.size) (fun _ e => e.elim) (by omega))
      exact ⟨_, rfl, by omega, hC, b3.trans (hU.toBelow (B := w.heap.size) (fun k e => by omega) (by rw [Z3.out]; omega))⟩
end Go.Proofs.Ytaacbnolijelhaa

/- Chains as links: the program's. -/
namespace Go.Proofs.Ytaacbnolijelhaa
open Go.RowKit Go.Shelf
attribute [local go_sem] Oper.semAt_some

abbrev lnk (s i : Nat) : Value := .pointer (some ⟨s + i, 0, none⟩)
def lnkN (s : Nat) : Option Nat → Value
  | none => .pointer none
  | some j => lnk s j
/-- Whom an item is followed by, among the first k. -/
def nxT (has : List Int) (i : Nat) : Nat → Option Nat
  | 0 => none
  | k + 1 => if has[k]?.getD 0 = (i : Int) then some k else nxT has i k
/-- Those of the first k that have none below. -/
def lowL (has : List Int) : Nat → List Nat
  | 0 => []
  | k + 1 => if has[k]?.getD 0 < 0 then lowL has k ++ [k] else lowL has k
theorem lowL_len (has : List Int) : ∀ k : Nat, (lowL has k).length = noneTo has k
  | 0 => rfl
  | k + 1 => by
    have := lowL_len has k
    unfold lowL noneTo
    split
    · rw [List.length_append]; simp; omega
    · omega
def Links (w : World) (s n : Nat) (nx : Nat → Option Nat) : Prop := ∀ i, i < n → w.heap[s + i]? = some (.cells #[.int .i64 (i : Int), lnkN s (nx i)] 80 (0, 0))
theorem Links.upd {w w' : World} {s n : Nat} {nx : Nat → Option Nat} {R : Nat → Prop} (h : Links w s n nx) (hu : Upd R w w') (hr : ∀ i, i < n → ¬ R (s + i)) : Links w' s n nx := fun i hi =>
  (hu.block _ (Array.getElem?_eq_some_iff.1 (h i hi)).1 (hr i hi)).trans (h i hi)
theorem ownP_keep {w w' : World} {B n : Nat} {e : TypeId} {v : Value} {xs : List Value} {R : Nat → Prop} (h1 : w.ownsRow B e 1 v n xs) (hu : Upd R w w') (hS : ∀ k, v.ownBlock = some k → ¬ R k) : w'.ownsRow B e 1 v n xs := by
  refine ⟨h1.1, ?_⟩
  rcases h1.2 with e | ⟨g, cap, cur, rfl, hg, hc, hrest⟩
  · exact .inl e
  · exact .inr ⟨g, cap, cur, rfl, hg, (hu.block g (Array.getElem?_eq_some_iff.1 hc).1 (hS g rfl)).trans hc, hrest⟩
theorem infoLink : (Try.prog.info? 48).map (fun i => (i.zero, i.size, i.bytes)) = some (some (.pointer none), 1, 8) := by kernel_rfl
theorem infoLink_parts : ∃ i : TypeInfo, Try.prog.info? 48 = some i ∧ i.zero = some (.pointer none) ∧ i.size = 1 ∧ i.bytes = 8 := by
  have h := infoLink
  cases hi : Try.prog.info? 48 with
  | none => rw [hi] at h; cases h
  | some i =>
    rw [hi] at h
    simp only [Option.map_some, Option.some.injEq, Prod.mk.injEq] at h
    exact ⟨i, rfl, h.1, h.2.1, h.2.2⟩

set_option maxRecDepth 100000 in
set_option maxHeartbeats 4000000 in
theorem linkChains_any (bz n : Nat) (zs : List Int) (hvo : VoP zs) (hlen : zs.length = n) (w : World) (hZ : Arr w bz 49 zs) :
    Calls Try.prog 45 #[.slice (some ⟨bz, 0, none⟩) n n] w fun e w' => ∃ s v, e = .returned v ∧ w.heap.size ≤ s ∧
      w'.ownsRow w.heap.size 48 1 v (lowL (matesTo zs n) n).length ((lowL (matesTo zs n) n).map (lnk s)) ∧ Links w' s n (fun i => nxT (matesTo zs n) i n) ∧ Below w.heap.size w w' := by
  obtain ⟨i0, hi0, hz0, hz1, hz2⟩ := infoLink_parts
  have Hlen := Lib.hid hlen
  have hn6 : n ≤ 6 := by have := hvo.1; rw [hlen] at this; exact this
  have hzl := hZ.lt
  clear hlen
  have hmk := run_make_row' (P := Try.prog) 44 48 (.pointer none) 8 Try.underlying44 infoLink rfl .i64 .i64 n (by omega) (by omega)
  go_enter Try.func45, Try.ntmps45
  go_wp2_with fail
  have hG : (w.alloc (.cells (madeCells #[Value.pointer none] n) 48)).heap[w.heap.size]? = some (.cells (madeCells #[Value.pointer none] n) 48 (0, 0)) := heap_alloc_new w _
  have hU0 : Upd (fun _ => False) w (w.alloc (.cells (madeCells #[Value.pointer none] n) 48)) := (Upd.refl _ w).alloc _
  have Z0 := Lib.hid (show (w.alloc (.cells (madeCells #[Value.pointer none] n) 48)).heap.size = w.heap.size + 1 by simp)
  obtain ⟨W0, hW0⟩ : ∃ W0, w.alloc (.cells (madeCells #[Value.pointer none] n) 48) = W0 := ⟨_, rfl⟩
  rw [hW0] at hG hU0 Z0 ⊢
  clear hW0 hmk
  have hZ0 := hZ.upd hU0 (fun e => e)
  go_loopw [13] (fun i wr => ∃ (k : Nat) (cs : Array Value), k ≤ n ∧ i = .int .i64 k ∧ wr.heap[w.heap.size]? = some (.cells cs 48 (0, 0)) ∧ (∀ j, j < k → cs[j]? = some (lnk (w.heap.size + 1) j)) ∧ cs.size = n ∧ Links wr (w.heap.size + 1) k (fun _ => none) ∧ Hid (wr.heap.size = w.heap.size + 1 + k) ∧ Upd (fun q => q = w.heap.size) W0 wr) (fun i _ => n - (intOf i).toNat)
  case atStart => exact ⟨0, _, by omega, rfl, hG, fun j hj => by omega, size_madeCells _ _, fun i hi => by omega, Lib.hid Z0.out, Upd.refl _ _⟩
  case round =>
    clear hG
    obtain ⟨k, cs, hk, rfl, hg, hcs, hcn, hL, HZ, hU⟩ := hrel
    rename World => wr
    have zU := hU.size
    by_cases hlt : k < n
    · have hgc : wr.cell? ⟨w.heap.size, k, none⟩ = some (cs[k]?.getD undef) := by
        rw [cell_of_row wr w.heap.size k _ _ (0, 0) hg, Array.getElem?_eq_getElem (by omega)]; rfl
      have hgf : wr.frozen? ⟨w.heap.size, k, none⟩ = false := frozen_of_row _ _ k _ _ hg
      have hgl : w.heap.size < wr.heap.size := (Array.getElem?_eq_some_iff.1 hg).1
      have Hcs := Lib.hid hcs
      clear hcs
      go_wp2_with fail
      have he : (wr.setCell ⟨w.heap.size, k, none⟩ (.pointer (some ⟨wr.heap.size, 0, none⟩))).alloc (.cells #[Value.int .i64 (k : Int), .pointer none] 80) = (wr.alloc (.cells #[Value.int .i64 (k : Int), .pointer none] 80)).setCell ⟨w.heap.size, k, none⟩ (.pointer (some ⟨wr.heap.size, 0, none⟩)) := (World.setCell_alloc_past _ _ _ _ hgl).symm
      rw [he]
      have hUa : Upd (fun _ => False) wr (wr.alloc (.cells #[Value.int .i64 (k : Int), .pointer none] 80)) := (Upd.refl _ wr).alloc _
      have hUs : Upd (fun q => q = w.heap.size) wr ((wr.alloc (.cells #[Value.int .i64 (k : Int), .pointer none] 80)).setCell ⟨w.heap.size, k, none⟩ (.pointer (some ⟨wr.heap.size, 0, none⟩))) := ((Upd.refl (fun q => q = w.heap.size) wr).alloc _).setCell (p := ⟨w.heap.size, k, none⟩) (.inr rfl) _
      have hnew : ((wr.alloc (.cells #[Value.int .i64 (k : Int), .pointer none] 80)).setCell ⟨w.heap.size, k, none⟩ (.pointer (some ⟨wr.heap.size, 0, none⟩))).heap[wr.heap.size]? = some (.cells #[Value.int .i64 (k : Int), .pointer none] 80 (0, 0)) := (Below.heap_setCell _ _ _ _ (by show wr.heap.size ≠ w.heap.size; omega)).trans (heap_alloc_new wr _)
      have hg5 : (wr.alloc (.cells #[Value.int .i64 (k : Int), .pointer none] 80)).heap[w.heap.size]? = some (.cells cs 48 (0, 0)) := (hUa.block _ hgl (fun e => e)).trans hg
      go_roundw
      case rel =>
        refine ⟨k + 1, cs.setIfInBounds k (.pointer (some ⟨wr.heap.size, 0, none⟩)), by omega, by go_num, ?_, fun j hj => ?_, by simpa using hcn, fun i hi => ?_, Lib.hid ?_, hU.trans' hUs (fun i hi e => e)⟩
        · simp [World.setCell, Array.getElem?_modify, hg5]
        · rcases Nat.lt_or_ge j k with h1 | h1
          · rw [Array.getElem?_setIfInBounds_ne (by omega)]
            exact Hcs.out j h1
          · obtain rfl : j = k := by omega
            rw [Array.getElem?_setIfInBounds_self_of_lt (by omega), HZ.out]
        · rcases Nat.lt_or_ge i k with h1 | h1
          · exact (hL.upd hUs (fun i hi => by omega)) i h1
          · obtain rfl : i = k := by omega
            rw [← HZ.out]
            exact hnew
        · have := HZ.out
          simp [World.setCell]
          omega
      case measure => simp [intOf]; omega
    · obtain rfl : k = n := by omega
      go_wp2_with fail
      have hZr := hZ0.upd hU (by omega)
      have hrl : w.heap.size + 1 ≤ wr.heap.size := by have := HZ.out; omega
      have hB1 : Below w.heap.size w wr := ((hU0.mono fun _ _ e => e.elim).trans' hU (fun i hi e => e)).toBelow (R := fun q => q = w.heap.size) (fun k e => by omega) (Nat.le_refl _)
      refine (matchItems_any bz k zs hvo Hlen.out wr hZr).mono ?_
      rintro e w3 ⟨hb, rfl, hhb, hC3, hB3⟩
      have z3 := hB3.size
      have Hok := Lib.hid (show OkH k (matesTo zs k) by have := matesTo_ok zs k (by rw [Hlen.out]; exact Nat.le_refl _); rwa [Hlen.out] at this)
      generalize hhas : matesTo zs k = has at *
      have HH := Lib.hid hhas
      clear hhas
      have hL3 : Links w3 (w.heap.size + 1) k (fun i => nxT has i 0) := fun i hi => (hB3.block _ (by have := HZ.out; omega)).trans (hL i hi)
      have hg3 : w3.heap[w.heap.size]? = some (.cells cs 48 (0, 0)) := (hB3.block _ (by omega)).trans hg
      have HZ3 := Lib.hid (show w.heap.size + 1 + k ≤ w3.heap.size by have := HZ.out; omega)
      have hB13 := hB1.trans (hB3.mono (by omega))
      have hws : w.heap.size < w.heap.size + 1 := Nat.lt_succ_self _
      have hsk : w.heap.size + 1 + k ≤ wr.heap.size := by have := HZ.out; omega
      have Hcs := Lib.hid hcs
      clear hL hg HZ hU hZ hZ0 hZr hB1 hB3 hcs zU hU0
      generalize w.heap.size + 1 = s at *
      go_wp2_with fail
      go_loopw [5, 26] (fun v i wy => ∃ j : Nat, j ≤ k ∧ i = .int .i64 j ∧ wy.ownsRow w.heap.size 48 1 v (lowL has j).length ((lowL has j).map (lnk s)) ∧ (∀ q, v.ownBlock = some q → w3.heap.size ≤ q) ∧ Links wy s k (fun i => nxT has i j) ∧ Upd (fun q => s ≤ q ∧ q < s + k) w3 wy) (fun _ i _ => k - (intOf i).toNat)
      case atStart => exact ⟨0, by omega, rfl, ⟨rfl, .inl ⟨rfl, rfl⟩⟩, fun q hq => by simp [Value.ownBlock] at hq, hL3, Upd.refl _ _⟩
      case round =>
        clear hL3
        obtain ⟨j, hj, rfl, hown, hob, hLy, hUy⟩ := hrel
        rename World => wy
        have zy := hUy.size
        have hgy : wy.heap[w.heap.size]? = some (.cells cs 48 (0, 0)) := (hUy.block _ (by omega) (by omega)).trans hg3
        by_cases hlt : j < k
        · have hCy := hC3.upd hUy (by omega)
          have hcj := hCy.cell hlt
          have hxb := Hok.out.2 j hlt
          have hgj : wy.cell? ⟨w.heap.size, j, none⟩ = some (lnk s j) := by rw [cell_of_row wy w.heap.size j _ _ (0, 0) hgy]; exact Hcs.out j hlt
          have Hnx := Lib.hid (fun (i : Nat) => (show nxT has i (j + 1) = if has[j]?.getD 0 = (i : Int) then some j else nxT has i j from rfl))
          have Hlo := Lib.hid (show lowL has (j + 1) = if has[j]?.getD 0 < 0 then lowL has j ++ [j] else lowL has j from rfl)
          have Hll := Lib.hid (lowL_len has j)
          have hl6 : (lowL has j).length ≤ 6 := by rw [lowL_len]; have := noneTo_le has j; omega
          generalize has[j]?.getD 0 = x at *
          by_cases hx : x = -1
          · subst hx
            have Hlo2 := Lib.hid (Hlo.out.trans (if_pos (by omega)))
            have Hnx2 := Lib.hid (fun (i : Nat) => (Hnx.out i).trans (if_neg (by omega)))
            go_wp2_with (at_builtin; go_loud (refine wpList_append1 _ rfl (.tmp 33) (.tmp 38) _ rfl w.heap.size 48 i0 _ 8 Try.underlying44 hi0 hz0 hz1 hz2 rfl _ (lowL has j).length _ rfl (hown.alloc _) wy.heap.size 1 (lnk s j) rfl (cell_new _ _ _) rfl (by omega) (by omega) (by simp; omega) ?_); rintro v' w' hown' hg' hv')
            have hUg : Upd (fun q => w3.heap.size ≤ q) wy w' := ((Upd.refl (fun q => w3.heap.size ≤ q) wy).alloc _).grown hg' (fun q hq => .inr (hob q hq))
            have hUn : Upd (fun q => s ≤ q ∧ q < s + k) w3 w' := (hUy.alloc _).grown hg' (fun q hq => .inl (hob q hq))
            have hLn := hLy.upd hUg (fun i hi => by omega)
            go_roundw
            case rel =>
              refine ⟨j + 1, by omega, by go_num, by rw [Hlo2.out, List.length_append, List.map_append]; exact hown', fun q hq => ?_, fun i hi => by simp only [Hnx2.out]; exact hLn i hi, hUn⟩
              rcases hv' with e | e
              · exact hob q (e ▸ hq)
              · rw [e] at hq
                simp at hq
                omega
            case measure => simp [intOf]; omega
          · obtain ⟨low, rfl⟩ := Int.eq_ofNat_of_zero_le (show 0 ≤ x by omega)
            have hlk : low < k := by omega
            have Hlo2 := Lib.hid (Hlo.out.trans (if_neg (by omega)))
            have hgl : wy.cell? ⟨w.heap.size, low, none⟩ = some (lnk s low) := by rw [cell_of_row wy w.heap.size low _ _ (0, 0) hgy]; exact Hcs.out low hlk
            have hlb := hLy low hlk
            have hlc : wy.cell? ⟨s + low, 1, none⟩ = some (lnkN s (nxT has low j)) := by rw [cell_of_row wy (s + low) 1 _ _ (0, 0) hlb]; rfl
            have hlf : wy.frozen? ⟨s + low, 1, none⟩ = false := frozen_of_row _ _ 1 _ _ hlb
            go_wp2_with fail
            go_region
            all_goals
              go_wp2
              have hUs : Upd (fun q => q = s + low) wy (wy.setCell ⟨s + low, 1, none⟩ (.pointer (some ⟨s + j, 0, none⟩))).drew := ((Upd.refl (fun q => q = s + low) wy).setCell (p := ⟨s + low, 1, none⟩) (.inr rfl) _).drew
              have hbl : (wy.setCell ⟨s + low, 1, none⟩ (.pointer (some ⟨s + j, 0, none⟩))).drew.heap[s + low]? = some (.cells #[.int .i64 (low : Int), lnk s j] 80 (0, 0)) := by
                show (wy.setCell ⟨s + low, 1, none⟩ (.pointer (some ⟨s + j, 0, none⟩))).heap[s + low]? = _
                simp [World.setCell, Array.getElem?_modify, hlb]
              go_roundw
              case rel =>
                refine ⟨j + 1, by omega, by go_num, by rw [Hlo2.out]; exact ownP_keep hown hUs (fun q hq e => by have := hob q hq; omega), hob, fun i hi => ?_, hUy.trans' hUs (fun i hi e => by omega)⟩
                by_cases hil : i = low
                · subst hil
                  simp only [Hnx.out]
                  rw [if_pos trivial]
                  exact hbl
                · simp only [Hnx.out]
                  rw [if_neg (by omega)]
                  exact (hUs.block _ (Array.getElem?_eq_some_iff.1 (hLy i hi)).1 (by omega)).trans (hLy i hi)
              case measure => simp [intOf]; omega
        · obtain rfl : j = k := by omega
          rw [← HH.out] at hown hLy
          go_wp2_with fail
          go_ret
          exact ⟨s, _, rfl, by omega, hown, hLy, hB13.trans (hUy.toBelow (B := w.heap.size) (fun q hq => by omega) (by omega))⟩
end Go.Proofs.Ytaacbnolijelhaa

/- FewestChains: the program's. -/
namespace Go.Proofs.Ytaacbnolijelhaa
open Go.RowKit Go.Shelf
attribute [local go_sem] Oper.semAt_some

theorem ownP_len {w : World} {B n : Nat} {e : TypeId} {v : Value} {xs : List Value} (h : w.ownsRow B e 1 v n xs) : ∃ A c, v = .slice A n c := by
  rcases h.2 with ⟨rfl, hn⟩ | ⟨g, cap, cur, rfl, hrest⟩
  · exact ⟨none, 0, by rw [hn]⟩
  · exact ⟨_, _, rfl⟩

theorem FewestChains_any (A : Option Addr) (n c : Nat) (zs : List Int) (w : World) (h : Ints w w.heap.size A n zs) (hbig : n ≤ 1152921504606846976) :
    Calls Try.prog 15 #[.slice A n c] w fun e w' => e = .returned (.int .i64 (fewestR zs)) ∧ Below w.heap.size w w' := by
  have hlen := Lib.hid h.len
  cases hv : vo zs
  · have Ht := Lib.hid (show fewestR zs = -1 by unfold fewestR; rw [hv]; rfl)
    have Hv := Lib.hid hv
    clear hv
    go_enter Try.func15, Try.ntmps15
    go_wp2_with fail
    refine (readOrder_any _ _ _ zs _ h hbig).mono ?_
    rintro e w' ⟨hB, (⟨hv, b, rfl, _, _⟩ | ⟨_, rfl⟩)⟩
    · rw [Hv.out] at hv; cases hv
    · go_wp2_with fail
      go_ret
      exact ⟨by rw [Ht.out]; rfl, hB⟩
  · have hvo : VoP zs := by simpa [vo] using hv
    have Ht := Lib.hid (show fewestR zs = (noneTo (matesTo zs n) n : Int) by unfold fewestR; rw [hv, if_pos rfl, hlen.out])
    have Hv := Lib.hid hv
    clear hv
    go_enter Try.func15, Try.ntmps15
    go_wp2_with fail
    refine (readOrder_any _ _ _ zs _ h hbig).mono ?_
    rintro e w' ⟨hB, (⟨_, b, rfl, hb, hAr⟩ | ⟨hv, _⟩)⟩
    · go_wp2_with fail
      trace_state
      refine (linkChains_any _ _ zs hvo hlen.out _ hAr).mono ?_
      rintro e w2 ⟨s, v, rfl, -, hown, -, hB2⟩
      obtain ⟨A2, c2, rfl⟩ := ownP_len hown
      have Hl := Lib.hid (lowL_len (matesTo zs n) n)
      clear hown
      generalize (lowL (matesTo zs n) n).length = m at *
      go_wp2_with fail
      go_ret
      exact ⟨by rw [Ht.out, ← Hl.out]; rfl, hB.trans (hB2.mono hB.size)⟩
    · rw [Hv.out] at hv; cases hv
end Go.Proofs.Ytaacbnolijelhaa

/- The arguments of the laws, opened and shut: lists of numbers. -/
namespace Go.Proofs.Ytaacbnolijelhaa
open Go.ChangeShapes Go.WideShapes Go.ChangeAt Go.RowKit
set_option linter.unusedVariables false

section
variable {H : Type} {enc : TypeId × Value → H} {P : Program}
/-- The row's last step where the call leaves all that lay as it lay. -/
theorem post_of_below {f : Func} {s : ChangeSpec} {apart fresh handsOn again : Bool} {W W' : World} {args : Array Value} {v : Value} {ds gs : List (DataW H)} {before pa pv : List MemPlace}
    (hW : DataW.Whole enc P f.params.toList s.vars apart W args.toList ds gs before)
    (hres : ∀ (b : Nat) (sp : Nat → Bool) (hd : Bool), DataW.TrodAll enc P W' b sp hd f.resultTypes.toList (v.resultList f.resultTypes.size) (s.fn H (ds ++ gs)).results [])
    (hargs : ∀ sp : Nat → Bool, (∀ p ∈ before, sp p.block = true) → DataW.TrodAll enc P W' 0 sp true f.params.toList args.toList (s.fn H (ds ++ gs)).args pa)
    (hvars : ∀ sp : Nat → Bool, (∀ p ∈ before, sp p.block = true) → DataW.TrodVars enc P W' sp s.vars (s.fn H (ds ++ gs)).vars pv)
    (hps : before = pa ++ pv) (hb : Below W.heap.size W W')
    (hok : ∀ (j : Nat) (t : TypeId) (r : Value), f.resultTypes[j]? = some t → (v.resultList f.resultTypes.size)[j]? = some r → Value.okWide P W' .any 0 t r) :
    s.post enc P f apart fresh handsOn again W args v W' := by
  have hlt : ∀ p ∈ before, p.block < W.heap.size := fun p hp => hW.lt p hp
  have hold : ∀ p ∈ before, (fun b => decide (b < W.heap.size)) p.block = true := fun p hp => by simpa using hlt p hp
  refine ⟨ds, gs, before, [], pa, pv, hW, hres _ _ _, hargs _ hold, hvars _ hold, World.keptBut_mono (fun p hp => ⟨hp, ?_⟩) (hb.frame (· ∈ before)), fun _ => ?_⟩
  · rw [hps, List.mem_append] at hp
    exact Or.inr hp
  · obtain ⟨_, _, _, _, _, hz, hn⟩ := hW
    refine ⟨hok, _, _, ([] ++ pa) ++ pv, ⟨[] ++ pa, pv, trodAll_append (hargs _ (fun _ _ => rfl)) (hres _ _ _), hvars _ (fun _ _ => rfl), rfl, ?_, ?_⟩, ?_⟩
    · intro b off hp
      have hin : MemPlace.cell b off ∈ before := by rw [hps]; simpa using hp
      rw [hb.frozen (hlt _ hin)]
      exact hz b off hin
    · intro ha
      have := hn ha
      rw [hps] at this
      simpa using this
    · intro p hp _
      rw [hps]
      simpa using hp
end

theorem own : ownKnob Try.prog.godebug = none := by kernel_rfl
theorem cellsInt : Try.prog.cellsOf 3 = 1 := by kernel_rfl

theorem cell_lt {w : World} {a : Addr} {v : Value} (h : w.cell? a = some v) : a.block < w.heap.size := by
  obtain ⟨o, ho, _⟩ := cells_of_cell h
  exact (Array.getElem?_eq_some_iff.1 ho).1
theorem block_of_add (a : Addr) (n : Nat) : (a.add n).block = a.block := by unfold Addr.add; split <;> rfl

section
variable {H : Type} {enc : TypeId × Value → H}
set_option maxRecDepth 100000 in
/-- A list of numbers that comes in: it reads as numbers, and reads again so in whatever world that keeps what lay. -/
theorem arg_ints {W : World} {v : Value} {d : DataW H} {p : List MemPlace} {base : Nat} (hok : Value.okWide Try.prog W .any base 22 v)
    (h : DataW.Trod enc Try.prog W 0 (fun _ => true) true 22 v d p) :
    ∃ (A : Option Addr) (n c : Nat) (zs : List Int), v = .slice A n c ∧ Ints W W.heap.size A n zs ∧ (∀ x ∈ zs, (Lit.int .i64 x).wf = true) ∧
      ∀ (W' : World), Below W.heap.size W W' → ∀ sp : Nat → Bool, (∀ q ∈ p, sp q.block = true) → DataW.Trod enc Try.prog W' 0 sp true 22 v d p := by
  obtain ⟨a0, len, cap, rfl⟩ := okWide_slice Try.underlying22 hok
  obtain ⟨fuel, hf⟩ := h
  rcases open_ints Try.underlying22 Try.underlying3 cellsInt hf with ⟨hcs, hx⟩ | ⟨a, len', cap', zs, hcs, _, hl, hm, hz, hx, hcell, hwz⟩
  · simp [Value.cells] at hcs
    obtain ⟨rfl, rfl, rfl⟩ := hcs
    simp only [Prod.mk.injEq] at hx
    obtain ⟨rfl, rfl⟩ := hx
    exact ⟨none, 0, 0, [], rfl, Ints.nil _ _ _, (fun _ hx => by cases hx), fun W' hb sp _ => shut_slice_nil Try.underlying22⟩
  · simp [Value.cells] at hcs
    obtain ⟨rfl, rfl, rfl⟩ := hcs
    simp only [Prod.mk.injEq] at hx
    obtain ⟨rfl, rfl⟩ := hx
    simp only [if_true] at hz
    have hlt : ∀ j, j < zs.length → a.block < W.heap.size := fun j hj => by
      have := cell_lt (hcell j hj)
      rwa [block_of_add] at this
    refine ⟨some a, len, cap, zs.take len, rfl, ⟨by simp; omega, fun hn => ?_⟩, fun x hx => hwz x (List.mem_of_mem_take hx), fun W' hb sp hsp => ?_⟩
    · obtain ⟨b, off, spot⟩ := a
      have hspot : spot = none := by simpa [Addr.add] using World.cell?_spot (hcell 0 (by omega))
      subst hspot
      refine ⟨b, off, rfl, hlt 0 (by omega), fun j hj => ?_⟩
      rw [← add_plain, hcell j (by omega)]
      simp [hj]
    · by_cases hz0 : zs.length = 0
      · have hc0 : cap = 0 := by omega
        have hl0 : len = 0 := by omega
        subst hc0; subst hl0
        have t0 := shut_ints (enc := enc) (w := W') (base := 0) (spare := sp) (held := true) (a := a) (len := 0) (cap := 0) (zs := zs) 0 Try.underlying22 Try.underlying3 cellsInt (Nat.zero_le _) (Nat.le_refl _) hm (by simp [hz0]) (fun j hj => by omega) hwz
        exact ⟨2, by simpa [Value.cells] using t0⟩
      · have hspb : sp a.block = true := by
          have := hsp (.cell a.block a.off) (MemPlace.mem_row.2 ⟨0, by omega, by simp⟩)
          exact this
        have t0 := shut_ints (enc := enc) (w := W') (base := 0) (spare := sp) (held := true) (a := a) (len := len) (cap := cap) (zs := zs) 0 Try.underlying22 Try.underlying3 cellsInt (Nat.zero_le _) hl hm (by simp [hspb, hz]) (fun j hj => by
          rw [hb.cell (by rw [block_of_add]; exact hlt j hj)]; exact hcell j hj) hwz
        exact ⟨2, by simpa [Value.cells] using t0⟩
end
end Go.Proofs.Ytaacbnolijelhaa

/- FewestChains: the model's matching. -/
namespace Go.Proofs.Ytaacbnolijelhaa
open Go.RowKit Go.Shelf

/-- Block b is just the marks s. -/
def Bel (w : World) (b : Nat) (s : List Bool) : Prop := w.heap[b]? = some (.cells (s.map Value.bool).toArray 4 (0, 0))
section
variable {w w' : World} {b : Nat} {s : List Bool} {R : Nat → Prop}
theorem Bel.lt (h : Bel w b s) : b < w.heap.size := (Array.getElem?_eq_some_iff.1 h).1
theorem Bel.cell (h : Bel w b s) {k : Nat} (hk : k < s.length) : w.cell? ⟨b, k, none⟩ = some (.bool (s[k]?.getD false)) := by
  rw [cell_of_row w b k _ _ (0, 0) h]
  simp [List.getElem?_eq_getElem hk]
theorem Bel.frozen (h : Bel w b s) (k : Nat) : w.frozen? ⟨b, k, none⟩ = false := frozen_of_row _ _ k _ _ h
theorem Bel.upd (h : Bel w b s) (hu : Upd R w w') (hr : ¬ R b) : Bel w' b s := (hu.block b h.lt hr).trans h
theorem Bel.set (h : Bel w b s) (k : Nat) (v : Bool) : Bel (w.setCell ⟨b, k, none⟩ (.bool v)) b (s.set k v) := by
  unfold Bel at h ⊢
  simp [World.setCell, Array.getElem?_modify, h, List.map_set]
end

set_option maxRecDepth 100000 in
set_option maxHeartbeats 4000000 in
theorem mate_any (zs : List Int) (hvo : VoP zs) (n c c2 hb sb : Nat) (A : Option Addr) (B : Nat) (hhB : B ≤ hb) (hsB : B ≤ sb) (hne : hb ≠ sb) (hlen0 : zs.length = n) :
    ∀ (f a : Nat) (has : List Int) (seen : List Bool) (w : World), a < n → OkH n has → seen.length = n → unseen seen < f → Ints w B A n zs → Cel w hb 3 n has → Bel w sb seen →
    Calls Try.prog 74 #[.slice A n c, .int .i64 (a : Int), .slice (some ⟨hb, 0, none⟩) n c2, .slice (some ⟨sb, 0, none⟩) n n] w fun e w' => e = .returned (.bool (mateF zs f a has seen).1) ∧ Cel w' hb 3 n (mateF zs f a has seen).2.1 ∧ Bel w' sb (mateF zs f a has seen).2.2 ∧ Upd (fun k => k = hb ∨ k = sb) w w'
  | 0, _, _, seen, _, _, _, _, hu, _, _, _ => absurd hu (Nat.not_lt_zero _)
  | f + 1, a, has, seen, w, ha, hOk, hsl, hu, hI, hC, hS => by
    have ih := mate_any zs hvo n c c2 hb sb A B hhB hsB hne hlen0 f
    have hlen := Lib.hid hlen0
    have hn6 : n ≤ 6 := by have := hvo.1; rw [hlen0] at this; exact this
    have hza := hvo.bd a (by rw [hlen0]; exact ha)
    have Hrok := Lib.hid (show ∀ (x : Nat) (h : List Int) (s : List Bool), x < n → OkH n h → s.length = n → Keeps n s (mateF zs f x h s) by rw [← hlen0]; exact mateF_ok zs f)
    have HF := Lib.hid (show mateF zs (f + 1) a has seen = mateG zs (mateF zs f) a n 0 has seen by rw [← hlen0]; rfl)
    rw [HF.out]
    obtain ⟨r, hr⟩ : ∃ r, mateG zs (mateF zs f) a n 0 has seen = r := ⟨_, rfl⟩
    rw [hr]
    have Hr := Lib.hid hr
    clear hr hlen0
    obtain ⟨ba, off, rfl, hba, hca⟩ := hI.at_ ha
    have hca0 := hca a ha
    go_enter Try.func74, Try.ntmps74
    go_wp2
    go_loopw [9] (fun i wr => ∃ (b : Nat) (h2 : List Int) (s2 : List Bool), b ≤ n ∧ i = .int .i64 b ∧ OkH n h2 ∧ s2.length = n ∧ unseen s2 ≤ unseen seen ∧ Hid (mateG zs (mateF zs f) a (n - b) b h2 s2 = r) ∧ Cel wr hb 3 n h2 ∧ Bel wr sb s2 ∧ Upd (fun k => k = hb ∨ k = sb) w wr) (fun i _ => n - (intOf i).toNat)
    case atStart => exact ⟨0, has, seen, by omega, rfl, hOk, hsl, Nat.le_refl _, Hr, hC, hS, Upd.refl _ _⟩
    case round =>
      obtain ⟨b, h2, s2, hb1, rfl, hOk2, hsl2, hus, Hg, hC2, hS2, hU⟩ := hrel
      rename World => wx
      have zx := hU.size
      have hcx := hU.cell hca0 (fun e => by simp at e; omega)
      by_cases hlt : b < n
      · have hcs := hS2.cell (k := b) (by rw [hsl2]; exact hlt)
        have hch := hC2.cell hlt
        have hfs := hS2.frozen b
        have hbh := hOk2.2 b hlt
        obtain ⟨d, hd⟩ : ∃ d, n - b = d + 1 := ⟨n - b - 1, by omega⟩
        have hd2 : n - (b + 1) = d := by omega
        have hg := Hg.out
        rw [hd] at hg
        unfold mateG at hg
        cases hbit : bitB (zs[a]?.getD 0) b
        · have hbi : (bitI (zs[a]?.getD 0) (b : Int) == 0) = true := by unfold bitI; rw [hbit]; rfl
          rw [hbit] at hg
          simp only [Bool.not_false, Bool.true_or, if_true] at hg
          have Hg2 := Lib.hid (show mateG zs (mateF zs f) a (n - (b + 1)) (b + 1) h2 s2 = r by rw [hd2]; exact hg)
          clear hg Hg hd hd2
          go_wp2_with (go_at_call 40; refine (bit_any _ _ _ (by omega) (by omega) (by omega) (by omega)).mono ?_; rintro e w' ⟨rfl, rfl⟩)
          go_roundw
          case rel => exact ⟨b + 1, h2, s2, by omega, by go_num, hOk2, hsl2, hus, Hg2, hC2, hS2, hU⟩
          case measure => simp [intOf]; omega
        · have hbi : (bitI (zs[a]?.getD 0) (b : Int) == 0) = false := by unfold bitI; rw [hbit]; rfl
          rw [hbit] at hg
          simp only [Bool.not_true, Bool.false_or] at hg
          cases hsb : s2[b]?.getD false
          · have hu2 := unseen_set s2 b (by omega) hsb
            rw [hsb] at hcs hg
            simp only [Bool.false_eq_true, if_false] at hg
            have hS3 := hS2.set b true
            have hU3 : Upd (fun k => k = hb ∨ k = sb) w (wx.setCell ⟨sb, b, none⟩ (.bool true)) := hU.setCell (p := ⟨sb, b, none⟩) (.inr (.inr rfl)) _
            have hC3 := hC2.upd ((Upd.refl (fun k => k = sb) wx).setCell (p := ⟨sb, b, none⟩) (.inr rfl) (.bool true)) (fun e => hne e)
            have hch3 := hC3.cell hlt
            have hfh3 := hC3.frozen b
            by_cases hneg : h2[b]?.getD 0 < 0
            · rw [if_pos hneg] at hg
              have Hgr := Lib.hid hg
              have hdn : decide (h2[b]?.getD 0 < 0) = true := decide_eq_true hneg
              clear hg Hg hd hd2
              have hC4 := hC3.set b (a : Int)
              have hS4 : Bel ((wx.setCell ⟨sb, b, none⟩ (.bool true)).setCell ⟨hb, b, none⟩ (.int .i64 (a : Int))) sb (s2.set b true) := hS3.upd ((Upd.refl (fun k => k = hb) _).setCell (p := ⟨hb, b, none⟩) (.inr rfl) _) (fun e => hne e.symm)
              go_wp2_with (go_at_call 40; refine (bit_any _ _ _ (by omega) (by omega) (by omega) (by omega)).mono ?_; rintro e w' ⟨rfl, rfl⟩)
              go_ret
              rw [← Hgr.out]
              exact ⟨rfl, hC4, hS4, hU3.setCell (p := ⟨hb, b, none⟩) (.inr (.inl rfl)) _⟩
            · rw [if_neg hneg] at hg
              obtain ⟨x, hx⟩ := Int.eq_ofNat_of_zero_le (show 0 ≤ h2[b]?.getD 0 by omega)
              have hxn : x < n := by omega
              rw [hx, Int.toNat_natCast] at hg
              have hdn : ¬ ((x : Int) < 0) := by omega
              have hI3 := hI.below (hU3.toBelow (B := B) (fun k e => by omega) (by have := hC.lt; omega))
              have hcall := ih x h2 (s2.set b true) _ hxn hOk2 (by simpa using hsl2) (by omega) hI3 hC3 hS3
              obtain ⟨m1, m2, m3⟩ := Hrok.out x h2 (s2.set b true) hxn hOk2 (by simpa using hsl2)
              rw [hx] at hch3 hch
              generalize mateF zs f x h2 (s2.set b true) = rr at *
              obtain ⟨W3, hW3⟩ : ∃ W3, wx.setCell ⟨sb, b, none⟩ (.bool true) = W3 := ⟨_, rfl⟩
              clear hS3 hC3
              cases hrr : rr.1
              · rw [hrr] at hg hcall
                simp only [Bool.false_eq_true, if_false] at hg
                have Hg2 := Lib.hid (show mateG zs (mateF zs f) a (n - (b + 1)) (b + 1) rr.2.1 rr.2.2 = r by rw [hd2]; exact hg)
                clear hg Hg hd hd2 hW3 hrr
                go_wp2_with (first | (go_at_call 40; refine (bit_any _ _ _ (by omega) (by omega) (by omega) (by omega)).mono ?_; rintro e w' ⟨rfl, rfl⟩) | (go_at_call 74; refine hcall.mono ?_; rintro e w5 ⟨rfl, hC5, hS5, hU5⟩))
                go_roundw
                case rel => exact ⟨b + 1, rr.2.1, rr.2.2, by omega, by go_num, m1, m2, by omega, Hg2, hC5, hS5, hU3.trans' hU5 (fun i hi e => e)⟩
                case measure => simp [intOf]; omega
              · rw [hrr] at hg hcall
                simp only [if_true] at hg
                have Hgr := Lib.hid hg
                clear hg Hg hd hd2 hW3 hrr
                go_wp2_with (first | (go_at_call 40; refine (bit_any _ _ _ (by omega) (by omega) (by omega) (by omega)).mono ?_; rintro e w' ⟨rfl, rfl⟩) | (go_at_call 74; refine hcall.mono ?_; rintro e w5 ⟨rfl, hC5, hS5, hU5⟩; have hc5 := hC5.cell hlt; have hf5 := hC5.frozen b))
                rename_i w5 hC5 hS5 hU5 hc5 hf5
                go_ret
                rw [← Hgr.out]
                exact ⟨rfl, hC5.set b (a : Int), hS5.upd ((Upd.refl (fun k => k = hb) _).setCell (p := ⟨hb, b, none⟩) (.inr rfl) _) (fun e => hne e.symm), (hU3.trans' hU5 (fun i hi e => e)).setCell (p := ⟨hb, b, none⟩) (.inr (.inl rfl)) _⟩
          · rw [hsb] at hcs hg
            simp only [if_true] at hg
            have Hg2 := Lib.hid (show mateG zs (mateF zs f) a (n - (b + 1)) (b + 1) h2 s2 = r by rw [hd2]; exact hg)
            clear hg Hg hd hd2
            go_wp2_with (go_at_call 40; refine (bit_any _ _ _ (by omega) (by omega) (by omega) (by omega)).mono ?_; rintro e w' ⟨rfl, rfl⟩)
            go_roundw
            case rel => exact ⟨b + 1, h2, s2, by omega, by go_num, hOk2, hsl2, hus, Hg2, hC2, hS2, hU⟩
            case measure => simp [intOf]; omega
      · obtain rfl : b = n := by omega
        have hg := Hg.out
        rw [Nat.sub_self] at hg
        have Hgr := Lib.hid (show (false, h2, s2) = r from hg)
        clear hg Hg
        go_wp2
        go_ret
        rw [← Hgr.out]
        exact ⟨rfl, hC2, hS2, hU⟩
end Go.Proofs.Ytaacbnolijelhaa

/- FewestChains: the model's, whole. -/
namespace Go.Proofs.Ytaacbnolijelhaa
open Go.RowKit Go.Shelf

theorem infoBool : (Try.prog.info? 4).map (fun i => (i.zero, i.size, i.bytes)) = some (some (.bool false), 1, 1) := by kernel_rfl
theorem Bel.new (w : World) (n : Nat) : Bel (w.alloc (.cells (madeCells #[.bool false] n) 4)) w.heap.size (List.replicate n false) := by
  have h := heap_alloc_new w (.cells (madeCells #[Value.bool false] n) 4)
  unfold Bel
  rw [h]
  congr 2
  apply Array.ext
  · simp [madeCells]
  · intro i h1 h2
    simp [madeCells, Nat.mod_one]
theorem rep_snoc (k : Nat) : (List.replicate (k + 1) (-1 : Int)) = List.replicate k (-1) ++ [-1] := by rw [List.replicate_succ']
theorem cel_of_own {w : World} {base n : Nat} {t : TypeId} {v : Value} {xs : List Int} (h : w.ownsRow base t 1 v n (xs.map (Value.int .i64))) (hn : 0 < n) : ∃ g cap, v = .slice (some ⟨g, 0, none⟩) n cap ∧ base ≤ g ∧ Cel w g t n xs := by
  have hl : xs.length = n := by simpa using h.1
  rcases h.2 with ⟨_, e⟩ | ⟨g, cap, cur, rfl, hg, hc, _, _, _, ht⟩
  · omega
  · exact ⟨g, cap, rfl, hg, hl, cur, hc, by simpa using ht⟩

set_option maxRecDepth 100000 in
set_option maxHeartbeats 4000000 in
theorem mates_any (A : Option Addr) (n c : Nat) (zs : List Int) (hvo : VoP zs) (w : World) (h : Ints w w.heap.size A n zs) :
    Calls Try.prog 44 #[.slice A n c] w fun e w' => ∃ A' c', e = .returned (.slice A' n c') ∧ Ints w' w'.heap.size A' n (matesTo zs n) ∧ Below w.heap.size w w' := by
  obtain ⟨i0, hi0, hz0, hz1, hz2⟩ := info_parts infoInt
  have hlen := Lib.hid h.len
  have hn6 : n ≤ 6 := by have := hvo.1; rw [hlen.out] at this; exact this
  have H0 := Lib.hid (show matesTo zs 0 = List.replicate n (-1) by unfold matesTo; rw [hlen.out])
  have Hs := Lib.hid (fun k => (show matesTo zs (k + 1) = (mateF zs (n + 1) k (matesTo zs k) (List.replicate n false)).2.1 by rw [← hlen.out]; rfl))
  have Hok := Lib.hid (fun k (hk : k ≤ n) => (show OkH n (matesTo zs k) by rw [← hlen.out] at hk ⊢; exact matesTo_ok zs k hk))
  have hmate := fun (hb sb c2 : Nat) (hhB : w.heap.size ≤ hb) (hsB : w.heap.size ≤ sb) (hne : hb ≠ sb) => mate_any zs hvo n c c2 hb sb A w.heap.size hhB hsB hne hlen.out (n + 1)
  have hmk := run_make_row' (P := Try.prog) 78 4 (.bool false) 1 Try.underlying78 infoBool rfl .i64 .i64 n (by omega) (by omega)
  go_enter Try.func44, Try.ntmps44
  go_wp2_with fail
  have h1 := own_new w 3
  have hU1 : Upd (fun _ => False) w (w.alloc (.cells #[] 3)) := (Upd.refl _ w).alloc _
  have hz1' : (w.alloc (.cells #[] 3)).heap.size = w.heap.size + 1 := by simp
  obtain ⟨W1, hW1⟩ : ∃ W1, w.alloc (.cells #[] 3) = W1 := ⟨_, rfl⟩
  rw [hW1] at h1 hU1 hz1' ⊢
  have hzl : w.heap.size < W1.heap.size := by omega
  clear hW1 hz1'
  go_loopw [3, 8] (fun v i wr => ∃ k : Nat, k ≤ n ∧ i = .int .i64 k ∧ wr.ownsRow w.heap.size 3 1 v k ((List.replicate k (-1 : Int)).map (Value.int .i64)) ∧ Upd (fun g => w.heap.size ≤ g) w wr ∧ w.heap.size ≤ wr.heap.size) (fun _ i _ => n - (intOf i).toNat)
  case atStart => exact ⟨0, by omega, rfl, by simpa using h1, hU1.mono (fun _ _ e => e.elim), by omega⟩
  case round =>
    obtain ⟨k, hk, rfl, hO, hU, hsz⟩ := hrel
    rename World => wx
    obtain ⟨A', c', rfl, hI', -⟩ := ints_of_own_at hO
    clear hI'
    by_cases hlt : k < n
    · have Hrow := Lib.hid (rep_snoc k)
      go_wp2_with (at_builtin; refine wpList_append1 _ rfl (.tmp 10) (.tmp 11) _ rfl w.heap.size 3 i0 _ 8 Try.underlying22 hi0 hz0 hz1 hz2 rfl _ k _ rfl (hO.alloc _) wx.heap.size 1 (.int .i64 (-1)) rfl (cell_new _ _ _) rfl (by omega) (by omega) (by simp; omega) ?_; rintro v' w' hown' hg' hv')
      have zg := hg'.size
      simp at zg
      have hO2 : w'.ownsRow w.heap.size 3 1 v' (k + 1) ((List.replicate (k + 1) (-1 : Int)).map (Value.int .i64)) := by rw [Hrow.out, List.map_append]; exact hown'
      go_roundw
      case rel => exact ⟨k + 1, by omega, by go_num, hO2, (hU.alloc _).grown hg' (fun g hg => .inl (by have := own_base hO g hg; omega)), by omega⟩
      case measure => simp [intOf]; omega
    · obtain rfl : k = n := by omega
      by_cases hn0 : k = 0
      · subst hn0
        have Hm0 := Lib.hid (show matesTo zs 0 = [] from H0.out)
        have hI0 : Ints wx wx.heap.size A' 0 (matesTo zs 0) := by rw [Hm0.out]; exact Ints.nil _ _ _
        clear hmate hmk Hok Hs hO
        go_wp2_with fail
        go_loop [4] (fun i => i = .int .i64 0) (fun _ => 0)
        case atStart => rfl
        case round =>
          subst hrel
          go_wp2
          go_ret
          first | exact ⟨A', ⟨c', rfl⟩, hI0, hU.toBelow (fun g hg => hg) (Nat.le_refl _)⟩ | exact ⟨A', c', rfl, hI0, hU.toBelow (fun g hg => hg) (Nat.le_refl _)⟩
      · obtain ⟨g, cap, he, hg, hC⟩ := cel_of_own hO (by omega)
        cases he
        rw [← H0.out] at hC
        have hgl := hC.lt
        clear hO
        go_wp2_with fail
        go_loopw [4] (fun i wr => ∃ a : Nat, a ≤ k ∧ i = .int .i64 a ∧ Cel wr g 3 k (matesTo zs a) ∧ Upd (fun q => w.heap.size ≤ q) w wr ∧ wx.heap.size ≤ wr.heap.size) (fun i _ => k - (intOf i).toNat)
        case atStart => exact ⟨0, by omega, rfl, hC, hU, Nat.le_refl _⟩
        case round =>
          clear hC hU
          obtain ⟨a, ha, rfl, hC, hU, hsz2⟩ := hrel
          rename World => wy
          by_cases hlt2 : a < k
          · have hcall := hmate g wy.heap.size c' hg (by omega) (by omega) a (matesTo zs a) (List.replicate k false) (wy.alloc (.cells (madeCells #[.bool false] k) 4)) hlt2 (Hok.out a ha) (by simp) (by have := unseen_le (List.replicate k false); simp at this; omega)
              ((h.below (hU.toBelow (fun q e => e) (Nat.le_refl _))).below ((Below.refl w.heap.size wy).alloc (by omega) _))
              (hC.upd ((Upd.refl (fun _ => False) wy).alloc _) (fun e => e)) (Bel.new wy k)
            have Hs1 := Lib.hid (Hs.out a)
            go_wp2_with (go_at_call 74; refine hcall.mono ?_; rintro e w5 ⟨rfl, hC5, -, hU5⟩)
            have z5 := hU5.size
            simp at z5
            go_roundw
            case rel => exact ⟨a + 1, by omega, by go_num, by rw [Hs1.out]; exact hC5, (hU.alloc _).trans' hU5 (fun q hq e => by omega), by omega⟩
            case measure => simp [intOf]; omega
          · obtain rfl : a = k := by omega
            go_wp2
            go_ret
            exact ⟨_, c', rfl, hC.ints hC.lt, hU.toBelow (fun q e => e) (Nat.le_refl _)⟩
set_option maxHeartbeats 2000000 in
theorem specFewestChainsF_any (A : Option Addr) (n c : Nat) (zs : List Int) (w : World) (h : Ints w w.heap.size A n zs) (hbig : n ≤ 1152921504606846976) :
    Calls Try.prog 14 #[.slice A n c] w fun e w' => e = .returned (.int .i64 (fewestR zs)) ∧ Below w.heap.size w w' := by
  have hlen := Lib.hid h.len
  cases hv : vo zs
  · have Ht := Lib.hid (show fewestR zs = -1 by unfold fewestR; rw [hv]; rfl)
    go_enter Try.func14, Try.ntmps14
    go_wp2_with fail
    refine (validOrder_any _ _ _ _ zs _ h hbig).mono ?_
    rw [hv]
    rintro e w' ⟨rfl, m, rfl⟩
    go_wp2_with fail
    go_ret
    exact ⟨ret_int Ht.out.symm, below_drewN (Below.refl _ _) m⟩
  · have hvo : VoP zs := by simpa [vo] using hv
    have Hv := Lib.hid hv
    clear hv
    have hn6 : n ≤ 6 := by have := hvo.1; rw [hlen.out] at this; exact this
    have Ht := Lib.hid (show fewestR zs = (noneTo (matesTo zs n) n : Int) by unfold fewestR; rw [Hv.out, hlen.out]; rfl)
    go_enter Try.func14, Try.ntmps14
    go_wp2_with fail
    refine (validOrder_any _ _ _ _ zs _ h hbig).mono ?_
    rw [Hv.out]
    rintro e w' ⟨rfl, m, rfl⟩
    have i1 : Ints (w.drewN m) (w.drewN m).heap.size A n zs := h.drewN m
    have B1 : Below w.heap.size w (w.drewN m) := below_drewN (Below.refl _ _) m
    generalize w.drewN m = w1 at *
    go_wp2_with fail
    refine (mates_any A n c zs hvo w1 i1).mono ?_
    rintro e w2 ⟨A2, c2, rfl, hI2, hB2⟩
    have C2 := B1.trans (hB2.mono B1.size)
    generalize matesTo zs n = has at *
    go_wp2_with fail
    go_loopw [3, 5] (fun v i wr => ∃ k : Nat, k ≤ n ∧ i = .int .i64 k ∧ v = .int .i64 (noneTo has k : Int) ∧ wr = w2) (fun _ i _ => n - (intOf i).toNat)
    case atStart => exact ⟨0, by omega, rfl, rfl, rfl⟩
    case round =>
      obtain ⟨k, hk, rfl, rfl, rfl⟩ := hrel
      have hle := noneTo_le has k
      by_cases hlt : k < n
      · obtain ⟨b, off, rfl, hb, hc⟩ := hI2.at_ hlt
        have hck := hc k hlt
        have Hs := Lib.hid (show noneTo has (k + 1) = noneTo has k + (if has[k]?.getD 0 < 0 then 1 else 0) from rfl)
        generalize noneTo has k = t at *
        by_cases hneg : has[k]?.getD 0 < 0
        · rw [if_pos hneg] at Hs
          go_wp2_with fail
          go_roundw
          case rel => exact ⟨k + 1, by omega, by go_num, by rw [Hs.out]; rfl, by first | rfl | trivial⟩
          case measure => simp [intOf]; omega
        · rw [if_neg hneg] at Hs
          go_wp2_with fail
          go_roundw
          case rel => exact ⟨k + 1, by omega, by go_num, by rw [Hs.out]; rfl, by first | rfl | trivial⟩
          case measure => simp [intOf]; omega
      · obtain rfl : k = n := by omega
        go_wp2
        go_ret
        exact ⟨ret_int Ht.out.symm, C2⟩
end Go.Proofs.Ytaacbnolijelhaa

/- The walk of the exact law of FewestChains. -/
namespace Go.Proofs.Ytaacbnolijelhaa
open Go.RowKit

set_option maxHeartbeats 1000000 in
theorem exactFewestChains_walk (A : Option Addr) (n c : Nat) (zs : List Int) (w : World) (h : Ints w w.heap.size A n zs) :
    Calls Try.prog 4 #[.slice A n c] w fun e w' => e = .returned (.bool true) ∧ Below w.heap.size w w' := by
  by_cases hs : n ≤ 1048576
  · go_enter Try.func4, Try.ntmps4
    go_wp2_with fail
    refine (toIntS_any A n c zs _ h hs).mono ?_
    rintro e w1 ⟨rfl, hA1, hB1⟩
    go_wp2_with fail
    refine (specFewestChainsF_any _ _ _ zs _ (hA1.ints' hA1.lt h.len) (by omega)).mono ?_
    rintro e w2 ⟨rfl, hB2⟩
    have z1 := hB1.size
    have z2 := hB2.size
    have C2 := hB1.trans (hB2.mono z1)
    go_wp2_with fail
    refine (toIntS_any A n c zs _ (h.to C2 (Nat.le_refl _) (by omega)) hs).mono ?_
    rintro e w3 ⟨rfl, hA3, hB3⟩
    have z3 := hB3.size
    have C3 := C2.trans (hB3.mono (by omega))
    go_wp2_with fail
    refine (FewestChains_any _ _ _ zs _ (hA3.ints' hA3.lt h.len) (by omega)).mono ?_
    rintro e w4 ⟨rfl, hB4⟩
    have hA4 := hA3.below hB4 hA3.lt
    have z4 := hB4.size
    have C4 := C3.trans (hB4.mono (by omega))
    have hne : (fewestR zs != fewestR zs) = false := by simp
    go_wp2_with fail
    refine (toIntS_any A n c zs _ (h.to C4 (Nat.le_refl _) (by omega)) hs).mono ?_
    rintro e w5 ⟨rfl, hA5, hB5⟩
    have hA45 := hA4.below hB5 hA4.lt
    have z5 := hB5.size
    have C5 := C4.trans (hB5.mono (by omega))
    go_wp2_with fail
    refine (below_quiet (eqIntS_any _ _ _ _ _ _ w5.heap.size w5.heap.size zs zs _ (hA45.ints' hA45.lt h.len) (hA5.ints' hA5.lt h.len) (by omega) (by omega))).mono ?_
    rintro e w6 ⟨rfl, hB6⟩
    have hzz : decide (zs = zs) = true := by simp
    have C6 := C5.trans (hB6.mono (by omega))
    go_wp2_with fail
    go_ret
    exact ⟨rfl, C6⟩
  · go_enter Try.func4, Try.ntmps4
    go_wp2
    go_ret
    exact ⟨rfl, Below.refl _ _⟩
end Go.Proofs.Ytaacbnolijelhaa

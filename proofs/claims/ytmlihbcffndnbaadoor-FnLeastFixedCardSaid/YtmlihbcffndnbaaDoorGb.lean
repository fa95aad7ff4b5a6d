/- Texts that several claims share, one behind the other. -/
import Derived.Test.YtmlihbcffndnbaaDoorGa
import Derived.OrdersHeld
import Derived.Deep.RegionHeld3
import Derived.StillTailTactics
import Derived.Deep.QuietTactic
import Derived.BigQuiet
import Derived.RegionTactic
import Derived.BigRegion
import Derived.Maps.AppendAt
set_option linter.unusedVariables false
set_option linter.unusedSimpArgs false
/- A region that draws its order, in a round of a loop over a function, by the laws for plain machines: where nothing in it defers, and no round may outgrow. -/
namespace Go.Proofs.YtmlihbcffndnbaaDoor
open Go.RowKit

section
variable {n : Nat} {P : Program} {ops : Array Oper} {Q : Exit → Act → World → Prop} {md : Region.Mode} {S : World → Prop} {l₀ : Nat}
theorem rows_wide {row : String} {args : Array Value} {w : World} {R : Value → World → Prop} (h : Rows P row args w R) : RowsIn Fence.wide n P row args w R :=
  fun c cs _ => let ⟨v, w', r, s⟩ := h c cs; ⟨v, w', r, stepsIn_wide.2 s⟩
theorem oper_wide {o : Oper} {a : Act} {w : World} {K : Act → World → Prop} (h : o.wp P a w K Q) : o.wpIn Fence.wide n P a w K Q := by
  unfold Oper.wp at h
  refine ⟨fun _ _ => trivial, ?_⟩
  rw [show Fence.wide.round = none from rfl, Oper.semAt_none]
  generalize (execOp a.eval o).run P w = r at h ⊢
  have hd : Fence.wide.depth.isSome = true → 1 ≤ n := fun e => by cases e
  cases r with
  | ok x w' =>
    cases x with
    | value v => exact h
    | skip => exact h
    | defer d => exact h
    | enter f args => exact ⟨hd, callsIn_wide.2 h⟩
    | row row args => exact ⟨hd, rows_wide h⟩
    | _ => exact h.elim
  | halt x w' => cases x <;> exact h
theorem op_wide (hQ : ¬ LetsOut Q) {i : Nat} {a : Act} {w : World} {K K' : Act → World → Prop} (hK : ∀ a w, K a w → K' a w) (h : wpOp P ops Q i K a w) : wpOpIn Fence.wide n P ops Q i K' a w := by
  unfold wpOp at h
  unfold wpOpIn
  split
  · rename_i ho; simp only [ho] at h; exact hK _ _ h
  · rename_i o ho
    simp only [ho] at h
    split
    · rename_i hw
      simp only [hw, if_true] at h
      rcases h with h | h
      · exact Oper.wpIn_mono hK (oper_wide h)
      · exact absurd h.2 hQ
    · rename_i hw
      simp only [hw] at h
      exact ⟨fun _ _ => trivial, hK _ _ h⟩
theorem any_wide (hQ : ¬ LetsOut Q) : ∀ (fuel : Nat) (listed : Array Bool) (a : Act) (w : World), wpAny P md ops Q fuel listed a w → wpAnyIn Fence.wide n P md ops Q fuel listed a w
  | 0, _, _, _, h => h
  | fuel + 1, _, _, _, h => ⟨h.1, fun i hi => op_wide hQ (fun a w h' => any_wide hQ fuel _ a w h') (h.2 i hi)⟩
/-- The beginning, in a round: a condition S on the worlds met is shown of the world behind the draw, and handed on. -/
theorem region_held_round {id : Nat} {a : Act} {w : World} {l : List Oper} (hm : P.follows .mixedOrders = true) (hd : l.all noDefer = true) (hQ : ¬ LetsOut Q) (hS : S w.drew)
    (h : S w.drew → wpAnyH P .any l.toArray Q S l.toArray.size (Array.replicate l.toArray.size false) a w.drew) : (Code.region id l.toArray true).wpIn (Fence.wide.inRound l₀) n P Q a w :=
  wpIn_region_any hm (anyIn_round (fun _ o ho => noDefer_spec (List.all_eq_true.1 hd o (List.mem_of_getElem? (by simpa using ho)))) _ _ _ _ (any_wide hQ _ _ _ _ (wpAny_of_held _ _ _ _ (h hS))))
end

/-! A region whose last operation writes what an earlier one has read: the condition S is asked behind every operation but the last one, z, which waits for all. -/
section
variable {n : Nat} {P : Program} {ops : Array Oper} {Q : Exit → Act → World → Prop} {md : Region.Mode} {S : World → Prop} {z : Nat} {l₀ : Nat}
def anyT (P : Program) (md : Region.Mode) (ops : Array Oper) (Q : Exit → Act → World → Prop) (S : World → Prop) (z : Nat) : Nat → Array Bool → Act → World → Prop
  | 0, listed, a, w => Region.ready md ops listed = [] ∧ Q .normal a w
  | fuel + 1, listed, a, w => (Region.ready md ops listed = [] → Q .normal a w) ∧
    ∀ i ∈ Region.ready md ops listed, wpOp P ops Q i (fun a' w' => (i ≠ z → S w') ∧ anyT P md ops Q S z fuel (listed.setIfInBounds i true) a' w') a w
theorem any_of_T : ∀ (fuel : Nat) (listed : Array Bool) (a : Act) (w : World), anyT P md ops Q S z fuel listed a w → wpAny P md ops Q fuel listed a w
  | 0, _, _, _, h => h
  | fuel + 1, _, _, _, h => ⟨h.1, fun i hi => wpOp_mono (fun a' w' h' => any_of_T fuel _ a' w' h'.2) (h.2 i hi)⟩
/-- What may come up before the last one may be taken first, if it yields the same in every world met. -/
theorem anyT_first {i : Nat} {oi : Oper} {v : Value} (hi : ops[i]? = some oi) (hsel : ∀ (j : Nat) (o : Oper) cs b, ops[j]? = some o → o.op ≠ .select cs b)
    (hQ : ∀ c a w, Q (.panic c) (a.put oi.dst v) w → Q (.panic c) a w) (hs : Region.sinkB md ops z = true) (hc : Region.chainB md ops z = true) (hz : z < ops.size) (hiz : i < z) :
    ∀ (fuel : Nat) (listed : Array Bool) (a : Act) (w : World), HeadInv md ops z listed →
      (∀ j oj, ops[j]? = some oj → j ≠ i → listed.getD j true = false → (∀ e ∈ oj.after, Region.binds md e = true → e.on ≠ i) → oi.apart ops oj = true) →
      i ∈ Region.ready md ops listed → YieldsIf P ops S oi v a → S w →
      anyT P md ops Q S z fuel (listed.setIfInBounds i true) (a.put oi.dst v) w → anyT P md ops Q S z (fuel + 1) listed a w
  | fuel, listed, a, w, inv, hfree, hr, hy, hS, H => by
    have hun := (mem_ready.1 hr).1
    refine ⟨fun h => (by rw [h] at hr; cases hr), fun j hj => ?_⟩
    by_cases hji : j = i
    · rw [hji]; exact hy.wpOp hi hS ⟨fun _ => hS, H⟩
    · have hjz : j < z := by
        rcases Nat.lt_or_ge j z with h | h
        · exact h
        · exact absurd hj (tail_waits hs hc hz inv _ i rfl hiz hun j h)
      cases fuel with
      | zero =>
        have := ready_mono hj hji
        rw [H.1] at this
        cases this
      | succ fuel =>
        have h1 := H.2 j (ready_mono hj hji)
        obtain ⟨hjun, oj, hoj, hall⟩ := mem_ready.1 hj
        have hnot : ∀ e ∈ oj.after, Region.binds md e = true → e.on ≠ i := fun e he hb heq => by
          have h1 := hall e he hb
          rw [heq, getD_both hun] at h1
          cases h1
        have h2 := wpOp_putIf hoj (hfree j oj hoj hji hjun hnot) (fun cs b => hsel i oi cs b hi) (fun cs b => hsel j oj cs b hoj) hQ hy h1
        have hfree' : ∀ k ok, ops[k]? = some ok → k ≠ i → (listed.setIfInBounds j true).getD k true = false →
            (∀ e ∈ ok.after, Region.binds md e = true → e.on ≠ i) → oi.apart ops ok = true := fun k ok hk hki hkun hno => by
          refine hfree k ok hk hki ?_ hno
          by_cases hjk : j = k
          · rw [← hjk]; exact hjun
          · rw [getD_set_ne true hjk] at hkun; exact hkun
        refine wpOp_mono (fun a' w' h3 => ?_) h2
        have hS' := h3.2.1 (by omega)
        refine ⟨fun _ => hS', anyT_first hi hsel hQ hs hc hz hiz fuel (listed.setIfInBounds j true) a' w' (inv.set hj hjz) hfree' (ready_mono hr (Ne.symm hji)) h3.1 hS' ?_⟩
        rw [Array.setIfInBounds_comm _ _ hji]
        exact h3.2.2
/-- The state of a walk through the head, as a Bool. -/
def headB (md : Region.Mode) (ops : Array Oper) (z : Nat) (listed : Array Bool) : Bool :=
  listed.size == ops.size && ((List.range ops.size).all (fun j => !(listed.getD j false) || match ops[j]? with | some o => o.after.all (fun e => !(Region.binds md e) || listed.getD e.on false) | none => true) &&
    (List.range ops.size).all fun t => decide (t < z) || !(listed.getD t true))
theorem headB_inv {listed : Array Bool} (h : headB md ops z listed = true) : HeadInv md ops z listed := by
  unfold headB at h
  rw [Bool.and_eq_true, Bool.and_eq_true, List.all_eq_true, List.all_eq_true, beq_iff_eq] at h
  refine ⟨h.1, fun j oj hj hl e he hb => ?_, fun t ht htn => ?_⟩
  · have := h.2.1 j (by simpa using (Array.getElem?_eq_some_iff.1 hj).1)
    rw [hj, hl] at this
    simp only [Bool.not_true, Bool.false_or] at this
    rw [Array.all_eq_true_iff_forall_mem] at this
    have h2 := this e he
    rw [hb] at h2
    simpa using h2
  · have := h.2.2 t (by simpa using htn)
    have hlt : ¬ t < z := by omega
    simpa [hlt] using this
theorem anyT_take {i : Nat} {oi : Oper} {v : Value} {fuel : Nat} {listed : Array Bool} {a : Act} {w : World} (hi : ops[i]? = some oi)
    (hc : (Region.noSelect ops && Region.sinkB md ops z && Region.chainB md ops z && decide (z < ops.size) && decide (i < z) && headB md ops z listed && Region.free md ops listed i && (Region.ready md ops listed).contains i) = true)
    (hQ : ∀ c a w, Q (.panic c) (a.put oi.dst v) w → Q (.panic c) a w) (hy : YieldsIf P ops S oi v a) (hS : S w)
    (h : anyT P md ops Q S z fuel (listed.setIfInBounds i true) (a.put oi.dst v) w) : anyT P md ops Q S z (fuel + 1) listed a w := by
  simp only [Bool.and_eq_true, decide_eq_true_eq] at hc
  obtain ⟨⟨⟨⟨⟨⟨⟨h1, h2⟩, h3⟩, h4⟩, h5⟩, h6⟩, h7⟩, h8⟩ := hc
  exact anyT_first hi (Region.noSelect_spec h1) hQ h2 h3 h4 h5 fuel listed a w (headB_inv h6) (Region.free_spec hi h7) (by simpa using h8) hy hS h
/-- The only one that may come up: it is carried out. -/
theorem anyT_one {i : Nat} {o : Oper} {fuel : Nat} {listed : Array Bool} {a : Act} {w : World} (hr : Region.ready md ops listed = [i]) (ho : ops[i]? = some o)
    (h : ∀ K' : Act → World → Prop, Shut (∀ a w, (i ≠ z → S w) → anyT P md ops Q S z fuel (listed.setIfInBounds i true) a w → K' a w) → if Region.wanted o (yielded ops a.tmps) = true then Oper.wp P o a w K' Q else K' (a.put o.dst undef) w) :
    anyT P md ops Q S z (fuel + 1) listed a w :=
  ⟨fun h0 => (by rw [hr] at h0; cases h0), fun j hj => by
    rw [hr] at hj
    obtain rfl := List.mem_singleton.1 hj
    exact wpOp_step ho (fun K' hK => h K' (fun a w hS hW => hK a w ⟨hS, hW⟩))⟩
theorem anyT_done {listed : Array Bool} {a : Act} {w : World} (hr : Region.ready md ops listed = []) (h : Q .normal a w) : ∀ fuel, anyT P md ops Q S z fuel listed a w
  | 0 => ⟨hr, h⟩
  | _ + 1 => ⟨fun _ => h, by rw [hr]; simp⟩
theorem region_T_round {id : Nat} {a : Act} {w : World} {l : List Oper} (z : Nat) (hm : P.follows .mixedOrders = true) (hd : l.all noDefer = true) (hQ : ¬ LetsOut Q)
    (h : anyT P .any l.toArray Q S z l.toArray.size (Array.replicate l.toArray.size false) a w.drew) : (Code.region id l.toArray true).wpIn (Fence.wide.inRound l₀) n P Q a w :=
  wpIn_region_any hm (anyIn_round (fun _ o ho => noDefer_spec (List.all_eq_true.1 hd o (List.mem_of_getElem? (by simpa using ho)))) _ _ _ _ (any_wide hQ _ _ _ _ (any_of_T _ _ _ _ h)))
theorem region_T {id : Nat} {a : Act} {w : World} {l : List Oper} (z : Nat) (hm : P.follows .mixedOrders = true)
    (h : anyT P .any l.toArray Q S z l.toArray.size (Array.replicate l.toArray.size false) a w.drew) : (Code.region id l.toArray true).wp P Q a w :=
  wp_region_any hm (any_of_T _ _ _ _ h)
end
end Go.Proofs.YtmlihbcffndnbaaDoor

/- Regions walked by hand: two operations that may come up, both ways. -/
namespace Go.Proofs.YtmlihbcffndnbaaDoor
open Go.RowKit
section
variable {n : Nat} {P : Program} {ops : Array Oper} {Q : Exit → Act → World → Prop} {S : World → Prop}
theorem region_T_wide {id : Nat} {a : Act} {w : World} {l : List Oper} (z : Nat) (hm : P.follows .mixedOrders = true) (hQ : ¬ LetsOut Q)
    (h : anyT P .any l.toArray Q S z l.toArray.size (Array.replicate l.toArray.size false) a w.drew) : (Code.region id l.toArray true).wpIn Fence.wide n P Q a w :=
  wpIn_region_any hm (any_wide hQ _ _ _ _ (any_of_T _ _ _ _ h))
variable {md : Region.Mode} {z : Nat}
/-- Two may come up: both ways. -/
theorem anyT_two {i j : Nat} {oi oj : Oper} {fuel : Nat} {listed : Array Bool} {a : Act} {w : World} (hr : Region.ready md ops listed = [i, j]) (hoi : ops[i]? = some oi) (hoj : ops[j]? = some oj)
    (h1 : ∀ K' : Act → World → Prop, Shut (∀ a w, (i ≠ z → S w) → anyT P md ops Q S z fuel (listed.setIfInBounds i true) a w → K' a w) → if Region.wanted oi (yielded ops a.tmps) = true then Oper.wp P oi a w K' Q else K' (a.put oi.dst undef) w)
    (h2 : ∀ K' : Act → World → Prop, Shut (∀ a w, (j ≠ z → S w) → anyT P md ops Q S z fuel (listed.setIfInBounds j true) a w → K' a w) → if Region.wanted oj (yielded ops a.tmps) = true then Oper.wp P oj a w K' Q else K' (a.put oj.dst undef) w) :
    anyT P md ops Q S z (fuel + 1) listed a w :=
  ⟨fun h0 => (by rw [hr] at h0; cases h0), fun k hk => by
    rw [hr] at hk
    rcases List.mem_cons.1 hk with rfl | hk
    · exact wpOp_step hoi (fun K' hK => h1 K' (fun a w hS hW => hK a w ⟨hS, hW⟩))
    · obtain rfl := List.mem_singleton.1 hk
      exact wpOp_step hoj (fun K' hK => h2 K' (fun a w hS hW => hK a w ⟨hS, hW⟩))⟩
end
end Go.Proofs.YtmlihbcffndnbaaDoor

/- In how many ways an order is lined up: counted from the first item on, and from the last one back, it is as many. No program. -/
namespace Go.Proofs.YtmlihbcffndnbaaDoor

/-! Sums over lists. -/
theorem sum_map_add {α : Type} (f g : α → Nat) : ∀ l : List α, (l.map fun x => f x + g x).sum = (l.map f).sum + (l.map g).sum
  | [] => rfl
  | x :: l => by
    have := sum_map_add f g l
    simp only [List.map_cons, List.sum_cons] at this ⊢
    omega
theorem sum_map_zero {α : Type} : ∀ l : List α, (l.map fun _ => 0).sum = 0
  | [] => rfl
  | _ :: l => by simpa using sum_map_zero l
theorem sum_swap {α β : Type} (f : α → β → Nat) (m : List β) : ∀ l : List α, (l.map fun x => (m.map (f x)).sum).sum = (m.map fun y => (l.map fun x => f x y).sum).sum
  | [] => by simpa using (sum_map_zero m).symm
  | x :: l => by
    rw [List.map_cons, List.sum_cons, sum_swap f m l, ← sum_map_add]
    rfl
theorem sum_mul {α : Type} (c : Nat) (f : α → Nat) : ∀ l : List α, (l.map fun x => c * f x).sum = c * (l.map f).sum
  | [] => rfl
  | x :: l => by rw [List.map_cons, List.sum_cons, List.map_cons, List.sum_cons, sum_mul c f l, Nat.mul_add]
theorem sum_if {α : Type} (p : α → Bool) (f : α → Nat) : ∀ l : List α, (l.map fun x => if p x then f x else 0).sum = ((l.filter p).map f).sum
  | [] => rfl
  | x :: l => by
    rw [List.map_cons, List.sum_cons, sum_if p f l, List.filter_cons]
    cases p x <;> simp
theorem sum_congr {α : Type} {f g : α → Nat} {l : List α} (h : ∀ x ∈ l, f x = g x) : (l.map f).sum = (l.map g).sum := by rw [List.map_congr_left h]

/-- The sets with the item a are those without it, and it. -/
theorem with_item : ∀ n : Fin 7, ∀ a : Fin 6, a.val < n.val → (List.range (2 ^ n.val)).filter (fun s : Nat => s.testBit a.val) = ((List.range (2 ^ n.val)).filter fun s : Nat => !s.testBit a.val).map fun s => s + 2 ^ a.val := by decide +kernel
/-- Edges: by the items s, the item a comes next. -/
def nextE (zs : List Int) (s a : Nat) : Bool := !s.testBit a && (lessI ((du zs)[a]?.getD 0) (s : Int) == 0)
def belowAny (zs : List Int) (s a : Nat) : Bool := (List.range zs.length).any fun b => s.testBit b && bitB ((du zs)[b]?.getD 0) a
/-- As the model asks it: a is one of s, with all below it there, and below none of s. -/
def eG (zs : List Int) (s a : Nat) : Bool := s.testBit a && ((lessI ((du zs)[a]?.getD 0) (s : Int) == 0) && !belowAny zs s a)
/-- As the program asks it: a is one of what is left, of which none is below it. -/
def eF (zs : List Int) (s a : Nat) : Bool := s.testBit a && (andI ((du zs)[a]?.getD 0) (s : Int) == 0)
theorem sub_lt {s a : Nat} (h : ¬ s = 0) : s - 2 ^ a < s := by have := Nat.two_pow_pos a; omega
/-- In how many ways the set s is lined up. -/
def cG (zs : List Int) (s : Nat) : Nat := if h : s = 0 then 1 else ((List.range zs.length).map fun a => if eG zs s a then cG zs (s - 2 ^ a) else 0).sum
termination_by s
decreasing_by exact sub_lt h
/-- In how many ways what is left is lined up. -/
def cF (zs : List Int) (s : Nat) : Nat := if h : s = 0 then 1 else ((List.range zs.length).map fun a => if eF zs s a then cF zs (s - 2 ^ a) else 0).sum
termination_by s
decreasing_by exact sub_lt h
theorem cG_zero (zs : List Int) : cG zs 0 = 1 := by rw [cG]; rfl
theorem cF_zero (zs : List Int) : cF zs 0 = 1 := by rw [cF]; rfl
theorem cG_pos {zs : List Int} {s : Nat} (h : s ≠ 0) : cG zs s = ((List.range zs.length).map fun a => if eG zs s a then cG zs (s - 2 ^ a) else 0).sum := by rw [cG, dif_neg h]
theorem cF_pos {zs : List Int} {s : Nat} (h : s ≠ 0) : cF zs s = ((List.range zs.length).map fun a => if eF zs s a then cF zs (s - 2 ^ a) else 0).sum := by rw [cF, dif_neg h]

/-- All below its items are there. -/
def Ideal (zs : List Int) (s : Nat) : Prop := ∀ a b : Nat, s.testBit b = true → bitB ((du zs)[b]?.getD 0) a = true → s.testBit a = true
theorem bit_cast (s j : Nat) : bitB (s : Int) (j : Int) = s.testBit j := by simp [bitB]
theorem less_zero {d : Int} {s : Nat} : lessI d (s : Int) = 0 ↔ ∀ j : Nat, bitB d j = true → s.testBit j = true := by
  constructor
  · intro e j hj
    have := bitB_less d (s : Int) j
    rw [e, bitB_zero, hj, bit_cast] at this
    simpa using this.symm
  · intro e
    refine bitB_ext (lessI_bd _ _).1 (Int.le_refl _) fun j => ?_
    rw [bitB_less, bitB_zero, bit_cast]
    cases h : bitB d j
    · rfl
    · rw [e j h]; rfl
theorem sub_bit_fin : ∀ s : Fin 64, ∀ a j : Fin 6, s.val.testBit a.val = true → (s.val - 2 ^ a.val).testBit j.val = (s.val.testBit j.val && !decide (a.val = j.val)) := by decide +kernel
theorem add_bit_fin : ∀ s : Fin 64, ∀ a j : Fin 6, s.val.testBit a.val = false → (s.val + 2 ^ a.val).testBit j.val = (s.val.testBit j.val || decide (a.val = j.val)) := by decide +kernel
theorem add_lt_fin : ∀ n : Fin 7, ∀ s : Fin 64, ∀ a : Fin 6, s.val < 2 ^ n.val → a.val < n.val → s.val.testBit a.val = false → s.val + 2 ^ a.val < 2 ^ n.val := by decide +kernel
theorem com_bit_fin : ∀ n : Fin 7, ∀ s : Fin 64, s.val < 2 ^ n.val → ∀ j : Fin 6, (2 ^ n.val - 1 - s.val).testBit j.val = (decide (j.val < n.val) && !s.val.testBit j.val) := by decide +kernel
theorem ge_bit_fin : ∀ s : Fin 64, ∀ a : Fin 6, s.val.testBit a.val = true → 2 ^ a.val ≤ s.val := by decide +kernel
theorem bit_lt {n s j : Nat} (hs : s < 2 ^ n) (h : s.testBit j = true) : j < n := by
  rcases Nat.lt_or_ge j n with h1 | h1
  · exact h1
  · rw [Nat.testBit_lt_two_pow (Nat.lt_of_lt_of_le hs (Nat.pow_le_pow_right (by decide) h1))] at h; cases h
theorem pow_le64 {n : Nat} (h : n ≤ 6) : 2 ^ n ≤ 64 := Nat.pow_le_pow_right (n := 2) (by decide) h
theorem sum_pick (f : Nat → Nat) (c : Nat) : ∀ N : Nat, c < N → ((List.range N).map f).sum = ((List.range N).map fun x => if x = c then 0 else f x).sum + f c
  | N + 1, hc => by
    rw [List.range_succ, List.map_append, List.sum_append, List.map_append, List.sum_append]
    by_cases h : c = N
    · subst h
      have : ((List.range c).map fun x => if x = c then 0 else f x).sum = ((List.range c).map f).sum := sum_congr fun x hx => by
        have := List.mem_range.1 hx
        rw [if_neg (by omega)]
      rw [this]
      simp
    · rw [sum_pick f c N (by omega)]
      have : ¬ N = c := fun e => h e.symm
      simp [this]
      omega
theorem du_small {zs : List Int} (h : VoP zs) {a j : Nat} (hb : bitB ((du zs)[a]?.getD 0) j = true) : j < zs.length ∧ a < zs.length := by
  rcases Nat.lt_or_ge a (du zs).length with h1 | h1
  · have := (du_sets h.sets).2 a h1
    rw [du_len] at this h1
    exact ⟨bitB_lt this.2 hb, h1⟩
  · rw [List.getElem?_eq_none h1, Option.getD_none, bitB_zero] at hb; cases hb
theorem du_irr {zs : List Int} (h : VoP zs) (a : Nat) : bitB ((du zs)[a]?.getD 0) a = false := by
  rw [du_bit h.sets]
  rcases Nat.lt_or_ge a zs.length with h1 | h1
  · exact h.irrB h1
  · rw [List.getElem?_eq_none h1, Option.getD_none, bitB_zero]
theorem sum_ne {α : Type} {f : α → Nat} : ∀ l : List α, (l.map f).sum ≠ 0 → ∃ x ∈ l, f x ≠ 0
  | [], h => absurd rfl h
  | x :: l, h => by
    by_cases hx : f x = 0
    · rw [List.map_cons, List.sum_cons, hx, Nat.zero_add] at h
      obtain ⟨y, hy, e⟩ := sum_ne l h
      exact ⟨y, by simp [hy], e⟩
    · exact ⟨x, by simp, hx⟩
theorem cG_ideal {zs : List Int} (h : VoP zs) : ∀ (k s : Nat), s ≤ k → s < 2 ^ zs.length → cG zs s ≠ 0 → Ideal zs s
  | 0, s, hk, _, _ => by
    obtain rfl : s = 0 := by omega
    intro a b hb _
    simp at hb
  | k + 1, s, hk, hN, hc => by
    by_cases h0 : s = 0
    · exact cG_ideal h k s (by omega) hN hc
    · have h6 := pow_le64 h.1
      rw [cG_pos h0] at hc
      obtain ⟨a, ha, hne⟩ := sum_ne _ hc
      have han := List.mem_range.1 ha
      have hn6 := h.1
      cases he : eG zs s a
      · simp only [he] at hne; exact absurd rfl hne
      · simp only [he, if_true] at hne
        unfold eG at he
        rw [Bool.and_eq_true, Bool.and_eq_true] at he
        obtain ⟨h1, h2, _⟩ := he
        have hge := ge_bit_fin ⟨s, by omega⟩ ⟨a, by omega⟩ h1
        simp only at hge
        have hp := Nat.two_pow_pos a
        have ih := cG_ideal h k (s - 2 ^ a) (by omega) (by omega) hne
        have hsub := less_zero.1 (show lessI ((du zs)[a]?.getD 0) (s : Int) = 0 by simpa using h2)
        have sb : ∀ j, j < 6 → (s - 2 ^ a).testBit j = (s.testBit j && !decide (a = j)) := fun j hj => sub_bit_fin ⟨s, by omega⟩ ⟨a, by omega⟩ ⟨j, hj⟩ h1
        intro x b hb hx
        have hb6 := bit_lt hN hb
        by_cases hba : a = b
        · subst hba; exact hsub x hx
        · have hx6 := (du_small h hx).1
          have := ih x b (by rw [sb b (by omega), hb]; simp [hba]) hx
          rw [sb x (by omega), Bool.and_eq_true] at this
          exact this.1
/-- From what is left back to what is there. -/
theorem cF_next {zs : List Int} (h : VoP zs) {s : Nat} (hN : s < 2 ^ zs.length) (hs : s ≠ 2 ^ zs.length - 1) :
    cF zs (2 ^ zs.length - 1 - s) = ((List.range zs.length).map fun a => if nextE zs s a then cF zs (2 ^ zs.length - 1 - (s + 2 ^ a)) else 0).sum := by
  have h6 := pow_le64 h.1
  have hn6 := h.1
  rw [cF_pos (by omega)]
  refine sum_congr fun a ha => ?_
  have han := List.mem_range.1 ha
  have cb : ∀ j, j < 6 → (2 ^ zs.length - 1 - s).testBit j = (decide (j < zs.length) && !s.testBit j) := fun j hj => com_bit_fin ⟨zs.length, by omega⟩ ⟨s, by omega⟩ hN ⟨j, hj⟩
  have e1 : eF zs (2 ^ zs.length - 1 - s) a = nextE zs s a := by
    unfold eF nextE
    rw [cb a (by omega), decide_eq_true han, Bool.true_and]
    congr 1
    have key : andI ((du zs)[a]?.getD 0) ((2 ^ zs.length - 1 - s : Nat) : Int) = 0 ↔ lessI ((du zs)[a]?.getD 0) (s : Int) = 0 := by
      rw [andI_zero, less_zero]
      constructor
      · intro e j hj
        have hjn := (du_small h hj).1
        cases hc : s.testBit j
        · have := e j (by rw [bit_cast, cb j (by omega), hc]; simp [hjn])
          rw [hj] at this; cases this
        · rfl
      · intro e j hj
        cases hd : bitB ((du zs)[a]?.getD 0) j
        · rfl
        · have hjn := (du_small h hd).1
          rw [bit_cast, cb j (by omega), e j hd] at hj
          simp at hj
    by_cases hk : lessI ((du zs)[a]?.getD 0) (s : Int) = 0
    · rw [hk, key.2 hk]
    · have hk' : ¬ andI ((du zs)[a]?.getD 0) ((2 ^ zs.length - 1 - s : Nat) : Int) = 0 := fun e => hk (key.1 e)
      rw [beq_eq_false_iff_ne.2 hk, beq_eq_false_iff_ne.2 hk']
  rw [e1, Nat.sub_sub]
theorem edge_same {zs : List Int} (h : VoP zs) {s a : Nat} (hN : s < 2 ^ zs.length) (han : a < zs.length) (hb : s.testBit a = false) (X : Nat) :
    (if nextE zs s a then cG zs s * X else 0) = if eG zs (s + 2 ^ a) a then cG zs s * X else 0 := by
  have h6 := pow_le64 h.1
  have hn6 := h.1
  have ab : ∀ j, j < 6 → (s + 2 ^ a).testBit j = (s.testBit j || decide (a = j)) := fun j hj => add_bit_fin ⟨s, by omega⟩ ⟨a, by omega⟩ ⟨j, hj⟩ hb
  by_cases hc : cG zs s = 0
  · rw [hc]; simp
  · have hid := cG_ideal h s s (Nat.le_refl _) hN hc
    have e1 : belowAny zs (s + 2 ^ a) a = false := by
      unfold belowAny
      rw [List.any_eq_false]
      intro b hbr
      have hbn := List.mem_range.1 hbr
      rw [ab b (by omega)]
      intro e
      rw [Bool.and_eq_true, Bool.or_eq_true] at e
      obtain ⟨e1 | e1, e2⟩ := e
      · have := hid a b e1 e2
        rw [hb] at this; cases this
      · have : a = b := by simpa using e1
        subst this
        rw [du_irr h] at e2; cases e2
    have e2 : lessI ((du zs)[a]?.getD 0) ((s + 2 ^ a : Nat) : Int) = 0 ↔ lessI ((du zs)[a]?.getD 0) (s : Int) = 0 := by
      rw [less_zero, less_zero]
      constructor
      · intro e j hj
        have hjn := (du_small h hj).1
        have := e j hj
        rw [ab j (by omega), Bool.or_eq_true] at this
        rcases this with h1 | h1
        · exact h1
        · have : a = j := by simpa using h1
          subst this
          rw [du_irr h] at hj; cases hj
      · intro e j hj
        have hjn := (du_small h hj).1
        rw [ab j (by omega), e j hj]
        rfl
    have e3 : nextE zs s a = eG zs (s + 2 ^ a) a := by
      unfold nextE eG
      rw [hb, ab a (by omega), hb, e1]
      by_cases hk : lessI ((du zs)[a]?.getD 0) (s : Int) = 0
      · rw [hk, e2.2 hk]; simp
      · have hk' : ¬ lessI ((du zs)[a]?.getD 0) ((s + 2 ^ a : Nat) : Int) = 0 := fun e => hk (e2.1 e)
        rw [beq_eq_false_iff_ne.2 hk, beq_eq_false_iff_ne.2 hk']; simp
    rw [e3]
/-- Counted both ways it is as many. -/
theorem count_both {zs : List Int} (h : VoP zs) : cG zs (2 ^ zs.length - 1) = cF zs (2 ^ zs.length - 1) := by
  have h6 := pow_le64 h.1
  have hn6 := h.1
  have hpos := Nat.two_pow_pos zs.length
  have P1 := sum_pick (fun s => cG zs s * cF zs (2 ^ zs.length - 1 - s)) (2 ^ zs.length - 1) (2 ^ zs.length) (by omega)
  have P2 := sum_pick (fun s => cG zs s * cF zs (2 ^ zs.length - 1 - s)) 0 (2 ^ zs.length) hpos
  have hA1 : cG zs (2 ^ zs.length - 1) * cF zs (2 ^ zs.length - 1 - (2 ^ zs.length - 1)) = cG zs (2 ^ zs.length - 1) := by rw [Nat.sub_self, cF_zero, Nat.mul_one]
  have hA2 : cG zs 0 * cF zs (2 ^ zs.length - 1 - 0) = cF zs (2 ^ zs.length - 1) := by rw [cG_zero, Nat.one_mul, Nat.sub_zero]
  rw [hA1] at P1
  rw [hA2] at P2
  have L : ((List.range (2 ^ zs.length)).map fun s => if s = 2 ^ zs.length - 1 then 0 else cG zs s * cF zs (2 ^ zs.length - 1 - s)).sum =
      ((List.range (2 ^ zs.length)).map fun s => ((List.range zs.length).map fun a => if nextE zs s a then cG zs s * cF zs (2 ^ zs.length - 1 - (s + 2 ^ a)) else 0).sum).sum := sum_congr fun s hs => by
    have hN := List.mem_range.1 hs
    by_cases he : s = 2 ^ zs.length - 1
    · rw [if_pos he]
      have : ((List.range zs.length).map fun a => if nextE zs s a then cG zs s * cF zs (2 ^ zs.length - 1 - (s + 2 ^ a)) else 0).sum = ((List.range zs.length).map fun _ => 0).sum := sum_congr fun a ha => by
        have han := List.mem_range.1 ha
        have : nextE zs s a = false := by
          unfold nextE
          rw [he, Nat.testBit_two_pow_sub_one, decide_eq_true han]
          rfl
        rw [this]; rfl
      rw [this, sum_map_zero]
    · rw [if_neg he, cF_next h hN he, ← sum_mul]
      refine sum_congr fun a _ => ?_
      cases nextE zs s a <;> simp
  have R : ((List.range (2 ^ zs.length)).map fun s => if s = 0 then 0 else cG zs s * cF zs (2 ^ zs.length - 1 - s)).sum =
      ((List.range (2 ^ zs.length)).map fun s => ((List.range zs.length).map fun a => if eG zs s a then cG zs (s - 2 ^ a) * cF zs (2 ^ zs.length - 1 - s) else 0).sum).sum := sum_congr fun s hs => by
    by_cases he : s = 0
    · rw [if_pos he]
      have : ((List.range zs.length).map fun a => if eG zs s a then cG zs (s - 2 ^ a) * cF zs (2 ^ zs.length - 1 - s) else 0).sum = ((List.range zs.length).map fun _ => 0).sum := sum_congr fun a _ => by
        have : eG zs s a = false := by unfold eG; rw [he]; simp
        rw [this]; rfl
      rw [this, sum_map_zero]
    · rw [if_neg he, cG_pos he, Nat.mul_comm, ← sum_mul]
      refine sum_congr fun a _ => ?_
      cases eG zs s a <;> simp [Nat.mul_comm]
  have M : ((List.range (2 ^ zs.length)).map fun s => ((List.range zs.length).map fun a => if nextE zs s a then cG zs s * cF zs (2 ^ zs.length - 1 - (s + 2 ^ a)) else 0).sum).sum =
      ((List.range (2 ^ zs.length)).map fun s => ((List.range zs.length).map fun a => if eG zs s a then cG zs (s - 2 ^ a) * cF zs (2 ^ zs.length - 1 - s) else 0).sum).sum := by
    refine (sum_swap _ _ _).trans (Eq.trans ?_ (sum_swap _ _ _).symm)
    refine sum_congr fun a ha => ?_
    have han := List.mem_range.1 ha
    have e1 : ((List.range (2 ^ zs.length)).map fun s => if nextE zs s a then cG zs s * cF zs (2 ^ zs.length - 1 - (s + 2 ^ a)) else 0).sum =
        (((List.range (2 ^ zs.length)).filter fun s : Nat => !s.testBit a).map fun s => if nextE zs s a then cG zs s * cF zs (2 ^ zs.length - 1 - (s + 2 ^ a)) else 0).sum := by
      rw [← sum_if]
      refine sum_congr fun s _ => ?_
      cases hb : s.testBit a
      · rfl
      · have : nextE zs s a = false := by unfold nextE; rw [hb]; rfl
        rw [this]; rfl
    have e2 : ((List.range (2 ^ zs.length)).map fun s => if eG zs s a then cG zs (s - 2 ^ a) * cF zs (2 ^ zs.length - 1 - s) else 0).sum =
        (((List.range (2 ^ zs.length)).filter fun s : Nat => s.testBit a).map fun s => if eG zs s a then cG zs (s - 2 ^ a) * cF zs (2 ^ zs.length - 1 - s) else 0).sum := by
      rw [← sum_if]
      refine sum_congr fun s _ => ?_
      cases hb : s.testBit a
      · have : eG zs s a = false := by unfold eG; rw [hb]; rfl
        rw [this]; rfl
      · rfl
    rw [e1, e2, with_item ⟨zs.length, by omega⟩ ⟨a, by omega⟩ han, List.map_map]
    refine sum_congr fun s hs => ?_
    rw [List.mem_filter] at hs
    have hN := List.mem_range.1 hs.1
    have hb : s.testBit a = false := by simpa using hs.2
    simp only [Function.comp, Nat.add_sub_cancel]
    exact edge_same h hN han hb _
  rw [L] at P1
  rw [R] at P2
  rw [P1, M] at P2
  omega
end Go.Proofs.YtmlihbcffndnbaaDoor

/- Lines counted: no number is great; the table as it fills. No program. -/
namespace Go.Proofs.YtmlihbcffndnbaaDoor

theorem sum_le {α : Type} {f : α → Nat} {c : Nat} : ∀ l : List α, (∀ x ∈ l, f x ≤ c) → (l.map f).sum ≤ l.length * c
  | [], _ => by simp
  | x :: l, h => by
    have h1 := h x (by simp)
    have h2 := sum_le l fun y hy => h y (by simp [hy])
    rw [List.map_cons, List.sum_cons, List.length_cons, Nat.add_mul]
    omega
theorem pop_sub_fin : ∀ s : Fin 64, ∀ a : Fin 6, s.val.testBit a.val = true → (popI ((s.val - 2 ^ a.val : Nat) : Int)).toNat + 1 = (popI (s.val : Int)).toNat := by decide +kernel
theorem pop_le_fin : ∀ s : Fin 64, (popI (s.val : Int)).toNat ≤ 6 := by decide +kernel
theorem cG_bd {zs : List Int} (h : VoP zs) : ∀ (k s : Nat), s ≤ k → s < 2 ^ zs.length → cG zs s ≤ 6 ^ (popI (s : Int)).toNat
  | 0, s, hk, _ => by
    obtain rfl : s = 0 := by omega
    rw [cG_zero]; decide
  | k + 1, s, hk, hN => by
    by_cases h0 : s = 0
    · exact cG_bd h k s (by omega) hN
    · have h6 := pow_le64 h.1
      have hn6 := h.1
      rw [cG_pos h0]
      obtain ⟨p, hp⟩ : ∃ p, (popI (s : Int)).toNat = p := ⟨_, rfl⟩
      have hle := sum_le (f := fun a => if eG zs s a then cG zs (s - 2 ^ a) else 0) (c := 6 ^ (p - 1)) (List.range zs.length) fun a ha => by
        have han := List.mem_range.1 ha
        cases he : eG zs s a
        · simp
        · have hb : s.testBit a = true := by unfold eG at he; rw [Bool.and_eq_true] at he; exact he.1
          have hge := ge_bit_fin ⟨s, by omega⟩ ⟨a, by omega⟩ hb
          simp only at hge
          have hpp := Nat.two_pow_pos a
          have ih := cG_bd h k (s - 2 ^ a) (by omega) (by omega)
          have hps := pop_sub_fin ⟨s, by omega⟩ ⟨a, by omega⟩ hb
          simp only at hps
          rw [hp] at hps
          simp only [if_true]
          rw [show p - 1 = (popI ((s - 2 ^ a : Nat) : Int)).toNat by omega]
          exact ih
      rw [List.length_range] at hle
      have hpos : 1 ≤ p := by
        rcases Nat.lt_or_ge 0 p with h1 | h1
        · exact h1
        · exfalso
          have : (popI (s : Int)).toNat = 0 := by omega
          have key : ∀ t : Fin 64, (popI (t.val : Int)).toNat = 0 → t.val = 0 := by decide +kernel
          exact h0 (key ⟨s, by omega⟩ this)
      rw [hp]
      have e : 6 ^ p = 6 * 6 ^ (p - 1) := by rw [← Nat.pow_succ']; congr 1; omega
      rw [e]
      exact Nat.le_trans hle (Nat.mul_le_mul_right _ hn6)
theorem cG_le {zs : List Int} (h : VoP zs) {s : Nat} (hN : s < 2 ^ zs.length) : cG zs s ≤ 46656 := by
  have h6 := pow_le64 h.1
  have h1 := cG_bd h s s (Nat.le_refl _) hN
  have h2 := pop_le_fin ⟨s, by omega⟩
  simp only at h2
  have h3 : 6 ^ (popI (s : Int)).toNat ≤ 6 ^ 6 := Nat.pow_le_pow_right (by decide) h2
  omega
/-- What is summed up of the items less than a. -/
def pg (zs : List Int) (s a : Nat) : Nat := ((List.range a).map fun b => if eG zs s b then cG zs (s - 2 ^ b) else 0).sum
theorem pg_succ (zs : List Int) (s a : Nat) : pg zs s (a + 1) = pg zs s a + (if eG zs s a then cG zs (s - 2 ^ a) else 0) := by
  unfold pg
  rw [List.range_succ, List.map_append, List.sum_append]
  simp
theorem pg_le (zs : List Int) (s : Nat) : ∀ d a : Nat, pg zs s a ≤ pg zs s (a + d)
  | 0, _ => Nat.le_refl _
  | d + 1, a => by
    have := pg_le zs s d a
    rw [show a + (d + 1) = a + d + 1 by omega, pg_succ]
    omega
theorem pg_all {zs : List Int} {s : Nat} (h : s ≠ 0) : pg zs s zs.length = cG zs s := (cG_pos h).symm
theorem pg_bd {zs : List Int} (h : VoP zs) {s a : Nat} (h0 : s ≠ 0) (hN : s < 2 ^ zs.length) (ha : a ≤ zs.length) : pg zs s a ≤ 46656 := by
  have h1 := pg_le zs s (zs.length - a) a
  rw [show a + (zs.length - a) = zs.length by omega, pg_all h0] at h1
  have := cG_le h hN
  omega
def tab (zs : List Int) (s p : Nat) : List Int := (List.range (2 ^ zs.length)).map fun i => if i < s then (cG zs i : Int) else if i = s then (p : Int) else 0
theorem tab_len (zs : List Int) (s p : Nat) : (tab zs s p).length = 2 ^ zs.length := by simp [tab]
theorem tab_get {zs : List Int} {s p i : Nat} (hi : i < 2 ^ zs.length) : (tab zs s p)[i]?.getD 0 = if i < s then (cG zs i : Int) else if i = s then (p : Int) else 0 := by simp [tab, hi]
theorem tab_set {zs : List Int} {s p q : Nat} : (tab zs s p).set s (q : Int) = tab zs s q := by
  refine List.ext_getElem (by simp [tab]) fun i h1 h2 => ?_
  rw [List.length_set, tab_len] at h1
  by_cases hi : s = i
  · subst hi
    rw [List.getElem_set_self]
    simp [tab]
  · rw [List.getElem_set_ne hi]
    have : ¬ i = s := fun e => hi e.symm
    simp [tab, this]
theorem tab_next (zs : List Int) (s : Nat) : tab zs s (cG zs s) = tab zs (s + 1) 0 := by
  unfold tab
  refine List.map_congr_left fun i _ => ?_
  by_cases h1 : i < s
  · rw [if_pos h1, if_pos (by omega)]
  · by_cases h2 : i = s
    · subst h2
      rw [if_neg h1, if_pos rfl, if_pos (by omega)]
    · rw [if_neg h1, if_neg h2, if_neg (by omega)]
      by_cases h3 : i = s + 1
      · rw [if_pos h3]; rfl
      · rw [if_neg h3]
theorem tab_start (zs : List Int) : (List.replicate (2 ^ zs.length) (0 : Int)).set 0 1 = tab zs 1 0 := by
  refine List.ext_getElem (by simp [tab]) fun i h1 h2 => ?_
  by_cases hi : 0 = i
  · subst hi
    rw [List.getElem_set_self]
    simp [tab, cG_zero]
  · rw [List.getElem_set_ne hi]
    simp [tab]
    intro h; omega
/-- In how many ways an order is lined up. -/
def linesR (zs : List Int) : Int := if vo zs then (cG zs (2 ^ zs.length - 1) : Int) else -1
end Go.Proofs.YtmlihbcffndnbaaDoor

/- Lines counted of what is left: the sum over the items that may come next; bounds. No program. -/
namespace Go.Proofs.YtmlihbcffndnbaaDoor

theorem cF_bd {zs : List Int} (h : VoP zs) : ∀ (k s : Nat), s ≤ k → s < 2 ^ zs.length → cF zs s ≤ 6 ^ (popI (s : Int)).toNat
  | k, s, hk, hN => by
    by_cases h0 : s = 0
    · subst h0
      rw [cF_zero]
      exact Nat.pos_of_ne_zero (by have := Nat.pow_pos (n := (popI ((0 : Nat) : Int)).toNat) (show 0 < 6 by omega); omega)
    · cases k with
      | zero => omega
      | succ k =>
        have h64 := Nat.lt_of_lt_of_le hN (pow_le64 h.1)
        have hn6 := h.1
        rw [cF_pos h0]
        have key : ∀ x ∈ List.range zs.length, (if eF zs s x then cF zs (s - 2 ^ x) else 0) ≤ 6 ^ ((popI (s : Int)).toNat - 1) := fun x hx => by
          have hxn : x < zs.length := by simpa using hx
          split
          · rename_i he
            unfold eF at he
            rw [Bool.and_eq_true] at he
            have hp := pop_sub_fin ⟨s, h64⟩ ⟨x, by omega⟩ he.1
            have hge := ge_bit_fin ⟨s, h64⟩ ⟨x, by omega⟩ he.1
            have hpos := Nat.two_pow_pos x
            have ih := cF_bd h k (s - 2 ^ x) (by simp only at hge; omega) (by omega)
            simp only at hp
            rw [show (popI (s : Int)).toNat - 1 = (popI ((s - 2 ^ x : Nat) : Int)).toNat by omega]
            exact ih
          · exact Nat.zero_le _
        have h1 := sum_le _ key
        have hpp : 1 ≤ (popI (s : Int)).toNat := by
          rcases Nat.lt_or_ge 0 (popI (s : Int)).toNat with h | h
          · exact h
          · exact absurd (pop_zero_fin ⟨s, h64⟩ (by simp only; omega)) h0
        rw [List.length_range] at h1
        have h2 : zs.length * 6 ^ ((popI (s : Int)).toNat - 1) ≤ 6 * 6 ^ ((popI (s : Int)).toNat - 1) := Nat.mul_le_mul_right _ h.1
        have h3 : 6 * 6 ^ ((popI (s : Int)).toNat - 1) = 6 ^ (popI (s : Int)).toNat := by
          rw [← Nat.pow_succ']; exact congrArg (6 ^ ·) (by omega)
        omega
where pop_zero_fin : ∀ s : Fin 64, (popI (s.val : Int)).toNat = 0 → s.val = 0 := by decide +kernel
theorem cF_le {zs : List Int} (h : VoP zs) {s : Nat} (hN : s < 2 ^ zs.length) : cF zs s ≤ 46656 := by
  have h64 := Nat.lt_of_lt_of_le hN (pow_le64 h.1)
  have h1 := cF_bd h s s (Nat.le_refl _) hN
  have h2 := pop_le_fin ⟨s, h64⟩
  exact Nat.le_trans h1 (Nat.pow_le_pow_right (n := 6) (by omega) h2)
/-- The items that may come next, and the sum over them. -/
def nextL (zs : List Int) (s : Nat) : List Nat := itemsL (topsTo (du zs) (s : Int) zs.length)
theorem nextL_is {zs : List Int} (h : VoP zs) (s : Nat) : nextL zs s = (List.range zs.length).filter (eF zs s) := by
  have hb := topsTo_bd (du zs) (s : Int) zs.length
  unfold nextL
  rw [← itemsTo_all hb.2 h.1]
  unfold itemsTo
  refine List.filter_congr fun a ha => ?_
  have han : a < zs.length := by simpa using ha
  rw [Bool.eq_iff_iff, topsTo_bit, bit_cast]
  unfold eF
  simp [han]
theorem nextL_mem {zs : List Int} (h : VoP zs) {s x : Nat} (hx : x ∈ nextL zs s) : x < zs.length ∧ s.testBit x = true := by
  rw [nextL_is h, List.mem_filter] at hx
  unfold eF at hx
  rw [Bool.and_eq_true] at hx
  exact ⟨by simpa using hx.1, hx.2.1⟩
/-- What has been counted when the items of a list are over. -/
def accF (zs : List Int) (s : Nat) (l : List Nat) : Nat := (l.map fun a => cF zs (s - 2 ^ a)).sum
theorem accF_snoc (zs : List Int) (s : Nat) (l : List Nat) (x : Nat) : accF zs s (l ++ [x]) = accF zs s l + cF zs (s - 2 ^ x) := by simp [accF]
theorem accF_all {zs : List Int} (h : VoP zs) {s : Nat} (h0 : s ≠ 0) : accF zs s (nextL zs s) = cF zs s := by
  rw [cF_pos h0, sum_if, nextL_is h]
  rfl
theorem accF_le {zs : List Int} (h : VoP zs) {s : Nat} (h0 : s ≠ 0) (hN : s < 2 ^ zs.length) {l : List Nat} (hl : l <+: nextL zs s) : accF zs s l ≤ 46656 := by
  obtain ⟨t, ht⟩ := hl
  have h1 := accF_all h h0
  have h2 := cF_le h hN
  rw [← ht] at h1
  unfold accF at h1 ⊢
  rw [List.map_append, List.sum_append] at h1
  omega
theorem nextL_len {zs : List Int} (h : VoP zs) (s : Nat) : (nextL zs s).length ≤ 6 := by
  rw [nextL_is h]
  have := List.length_filter_le (eF zs s) (List.range zs.length)
  have := h.1
  rw [List.length_range] at *
  omega
theorem without_fin : ∀ s : Fin 64, ∀ a : Fin 6, s.val.testBit a.val = true → lessI (s.val : Int) (powI (a.val : Int)) = ((s.val - 2 ^ a.val : Nat) : Int) := by decide +kernel
theorem without_is {s a : Nat} (hs : s < 64) (ha : a < 6) (hb : s.testBit a = true) : lessI (s : Int) (powI (a : Int)) = ((s - 2 ^ a : Nat) : Int) := without_fin ⟨s, hs⟩ ⟨a, ha⟩ hb
/-- How often the map is written at most. -/
def writes (s : Nat) : Nat := 7 ^ (popI (s : Int)).toNat
theorem writes_sub {s a : Nat} (hs : s < 64) (ha : a < 6) (hb : s.testBit a = true) : 7 * writes (s - 2 ^ a) = writes s := by
  have hp := pop_sub_fin ⟨s, hs⟩ ⟨a, ha⟩ hb
  simp only at hp
  unfold writes
  rw [← hp, Nat.pow_succ, Nat.mul_comm]
theorem writes_le {s : Nat} (hs : s < 64) : 1 ≤ writes s ∧ writes s ≤ 117649 := by
  have h := pop_le_fin ⟨s, hs⟩
  exact ⟨Nat.pow_pos (by omega), Nat.pow_le_pow_right (n := 7) (by omega) h⟩
end Go.Proofs.YtmlihbcffndnbaaDoor

/- CountLines: the model's. -/
namespace Go.Proofs.YtmlihbcffndnbaaDoor
open Go.RowKit Go.Shelf

theorem wrap_small (x : Int) (h0 : 0 ≤ x) (h1 : x < 1000000) : IntKind.i64.wrap x = x := by rw [IntKind.wrap_i64]; omega

end Go.Proofs.YtmlihbcffndnbaaDoor

/- Fractions without a common factor: the model's and the program's. -/
namespace Go.Proofs.YtmlihbcffndnbaaDoor
open Go.RowKit Go.Shelf

theorem results_cell_row2 {P : Program} {fn : Func} {p q : Tmp} {ty : TypeId} (h : fn.results = #[.cell p ty, .tmp q]) (tmps : Array Value) (w : World) (g : Nat) (t : TypeId) (cs : Array Value) (fr : Nat × Nat) (d : TypeDesc) (v : Value)
    (hp : tmps.getD p undef = .pointer (some ⟨g, 0, none⟩)) (hq : tmps.getD q undef = v) (hg : w.heap[g]? = some (.cells cs t fr))
    (hu : P.underlying ty = some d) (hd : (match d with | .struct _ | .array _ _ => true | _ => false) = true) (hi : (P.info? ty).map (·.size) = some cs.size) :
    (results fn tmps).run P w = .ok (.tuple #[.agg cs, v]) w := by
  have hp' : tmps[p]?.getD undef = .pointer (some ⟨g, 0, none⟩) := by simpa using hp
  have hq' : tmps[q]?.getD undef = v := by simpa using hq
  simp [results, h, hp', hq', asAddr, run_loadVar_row w g t ty cs fr d hg hu hd hi]

theorem wrap_nat {x : Int} {k : Nat} (h : x = (k : Int)) (hk : k ≤ 1000000) : IntKind.i64.wrap x = x := by rw [IntKind.wrap_i64]; omega

/-- A fraction, as a struct. -/
def fracV (p q : Nat) : Value := .agg #[.int .i64 (p : Int), .int .i64 (q : Int)]

end Go.Proofs.YtmlihbcffndnbaaDoor

/- HeightsOf: the model's and the program's. -/
namespace Go.Proofs.YtmlihbcffndnbaaDoor
open Go.RowKit Go.Shelf
attribute [local go_sem] Oper.semAt_some
attribute [local go_sem, local simp] wide_fn

theorem swaps_snoc (ps : List (Nat × Nat)) (a b : Nat) : swaps (ps ++ [(a, b)]) = swaps ps ++ [(b, a)] := by simp [swaps]

end Go.Proofs.YtmlihbcffndnbaaDoor

/- Ideals, as plain mathematics: what is below a set, when a set is an ideal, and how both are found pair by pair. No program. -/
namespace Go.Proofs.YtmlihbcffndnbaaDoor

/-- The set with all that is below its items less than k. -/
def belTo (ds : List Int) (s : Int) : Nat → Int
  | 0 => s
  | k + 1 => if bitB s k then orI (belTo ds s k) (ds[k]?.getD 0) else belTo ds s k
theorem belTo_yes {ds : List Int} {s : Int} {k : Nat} (h : bitB s k = true) : belTo ds s (k + 1) = orI (belTo ds s k) (ds[k]?.getD 0) := by simp [belTo, h]
theorem belTo_no {ds : List Int} {s : Int} {k : Nat} (h : bitB s k = false) : belTo ds s (k + 1) = belTo ds s k := by simp [belTo, h]
theorem belTo_bd {ds : List Int} (h : Sets ds) {s : Int} (h0 : 0 ≤ s) (h1 : s < powI ds.length) : ∀ k : Nat, k ≤ ds.length → 0 ≤ belTo ds s k ∧ belTo ds s k < powI ds.length
  | 0, _ => ⟨h0, h1⟩
  | k + 1, hk => by
    have ih := belTo_bd h h0 h1 k (by omega)
    have hz := h.2 k (by omega)
    unfold belTo
    split
    · exact orI_bd ih.1 ih.2 hz.1 hz.2
    · exact ih
theorem belTo_bit (ds : List Int) (s : Int) (j : Nat) : ∀ k : Nat, bitB (belTo ds s k) j = true ↔ bitB s j = true ∨ ∃ b : Nat, b < k ∧ bitB s b = true ∧ bitB (ds[b]?.getD 0) j = true
  | 0 => by simp [belTo]
  | k + 1 => by
    have ih := belTo_bit ds s j k
    cases hb : bitB s k
    · rw [belTo_no hb, ih]
      constructor
      · rintro (h | ⟨b, h1, h2⟩)
        · exact .inl h
        · exact .inr ⟨b, by omega, h2⟩
      · rintro (h | ⟨b, h1, h2, h3⟩)
        · exact .inl h
        · have : b ≠ k := fun e => by rw [e, hb] at h2; cases h2
          exact .inr ⟨b, by omega, h2, h3⟩
    · rw [belTo_yes hb, bitB_or, Bool.or_eq_true, ih]
      constructor
      · rintro ((h | ⟨b, h1, h2⟩) | h)
        · exact .inl h
        · exact .inr ⟨b, by omega, h2⟩
        · exact .inr ⟨k, by omega, hb, h⟩
      · rintro (h | ⟨b, h1, h2, h3⟩)
        · exact .inl (.inl h)
        · by_cases e : b = k
          · rw [e] at h3; exact .inr h3
          · exact .inl (.inr ⟨b, by omega, h2, h3⟩)
/-- The set with all that is below its items. -/
def belI (zs : List Int) (s : Int) : Int := belTo (du zs) s zs.length
theorem belI_bd {zs : List Int} (h : Sets zs) {s : Int} (h0 : 0 ≤ s) (h1 : s < powI zs.length) : 0 ≤ belI zs s ∧ belI zs s < powI zs.length := by
  have := belTo_bd (du_sets h) (s := s) h0 (by rw [du_len]; exact h1) zs.length (by rw [du_len]; exact Nat.le_refl _)
  rwa [du_len] at this
theorem belI_bit {zs : List Int} (h : Sets zs) {s : Int} (h1 : s < powI zs.length) (j : Nat) : bitB (belI zs s) j = true ↔ bitB s j = true ∨ ∃ b : Nat, bitB s b = true ∧ bitB (zs[j]?.getD 0) b = true := by
  unfold belI
  rw [belTo_bit]
  constructor
  · rintro (e | ⟨b, _, h2, h3⟩)
    · exact .inl e
    · exact .inr ⟨b, h2, by rwa [du_bit h] at h3⟩
  · rintro (e | ⟨b, h2, h3⟩)
    · exact .inl e
    · exact .inr ⟨b, bitB_lt h1 h2, h2, by rwa [du_bit h]⟩
/-- Whether the set is an ideal. -/
def idB (zs : List Int) (s : Int) : Bool := belI zs s == s
theorem idB_iff {zs : List Int} (h : Sets zs) {s : Int} (h0 : 0 ≤ s) (h1 : s < powI zs.length) : idB zs s = true ↔ ∀ a b : Nat, bitB s b = true → bitB (zs[a]?.getD 0) b = true → bitB s a = true := by
  unfold idB
  rw [beq_iff_eq]
  constructor
  · intro e a b h2 h3
    rw [← e]
    exact (belI_bit h h1 a).2 (.inr ⟨b, h2, h3⟩)
  · intro e
    refine bitB_ext (belI_bd h h0 h1).1 h0 fun j => ?_
    rw [Bool.eq_iff_iff, belI_bit h h1]
    constructor
    · rintro (e1 | ⟨b, h2, h3⟩)
      · exact e1
      · exact e j b h2 h3
    · exact .inl
/-- The model's test: the items less than k have all below them. -/
def idTo (ds : List Int) (s : Int) (k : Nat) : Bool := (List.range k).all fun a : Nat => !bitB s a || lessI (ds[a]?.getD 0) s == 0
theorem lessI_none {a b : Int} : lessI a b = 0 ↔ ∀ j : Nat, bitB a j = true → bitB b j = true := by
  constructor
  · intro h j hj
    have : bitB (lessI a b) j = false := by rw [h, bitB_zero]
    rw [bitB_less, hj] at this
    simpa using this
  · intro h
    refine bitB_ext (lessI_bd _ _).1 (Int.le_refl _) fun j => ?_
    rw [bitB_less, bitB_zero]
    cases e : bitB a j
    · rfl
    · rw [h j e]; rfl
theorem idTo_all {zs : List Int} (h : Sets zs) {s : Int} (h0 : 0 ≤ s) (h1 : s < powI zs.length) : idTo (du zs) s zs.length = idB zs s := by
  rw [Bool.eq_iff_iff, idB_iff h h0 h1]
  unfold idTo
  rw [List.all_eq_true]
  constructor
  · intro e a b h2 h3
    have hb := bitB_lt h1 h2
    have := e b (by simpa using hb)
    rw [h2] at this
    simp only [Bool.not_true, Bool.false_or, beq_iff_eq] at this
    exact lessI_none.1 this a (by rwa [du_bit h])
  · intro e b _
    cases h2 : bitB s b
    · rfl
    · simp only [Bool.not_true, Bool.false_or, beq_iff_eq]
      exact lessI_none.2 fun j hj => e j b h2 (by rwa [du_bit h] at hj)
theorem idTo_no {ds : List Int} {s : Int} {k n : Nat} (hk : k < n) (h1 : bitB s k = true) (h2 : (lessI (ds[k]?.getD 0) s == 0) = false) : idTo ds s n = false := by
  cases e : idTo ds s n
  · rfl
  · have := List.all_eq_true.1 e k (by simpa using hk)
    rw [h1, h2] at this; cases this
theorem idTo_succ {ds : List Int} {s : Int} {k : Nat} (h : idTo ds s k = true) (h2 : bitB s k = false ∨ (lessI (ds[k]?.getD 0) s == 0) = true) : idTo ds s (k + 1) = true := by
  unfold idTo at h ⊢
  rw [List.range_succ, List.all_append, h]
  rcases h2 with h2 | h2 <;> simp [h2]

/-- What is marked when a list of pairs is over. -/
def mkP (s : Int) (ps : List (Nat × Nat)) : Int := ps.foldl (fun (m : Int) (p : Nat × Nat) => if bitB m p.2 then orI m (powI p.1) else m) s
theorem mkP_yes {s : Int} {ps : List (Nat × Nat)} {a b : Nat} (h : bitB (mkP s ps) b = true) : mkP s (ps ++ [(a, b)]) = orI (mkP s ps) (powI a) := by
  unfold mkP at *
  rw [List.foldl_append]
  simp only [List.foldl_cons, List.foldl_nil]
  rw [if_pos h]
theorem mkP_no {s : Int} {ps : List (Nat × Nat)} {a b : Nat} (h : bitB (mkP s ps) b = false) : mkP s (ps ++ [(a, b)]) = mkP s ps := by
  unfold mkP at *
  rw [List.foldl_append]
  simp only [List.foldl_cons, List.foldl_nil]
  rw [if_neg (by rw [h]; decide)]
theorem mkP_bd {n : Nat} : ∀ (ps : List (Nat × Nat)) {s : Int}, (∀ p ∈ ps, p.1 < n) → 0 ≤ s → s < powI n → 0 ≤ mkP s ps ∧ mkP s ps < powI n
  | [], s, _, h0, h1 => ⟨h0, h1⟩
  | p :: ps, s, h, h0, h1 => by
    have e : mkP s (p :: ps) = mkP (if bitB s p.2 then orI s (powI p.1) else s) ps := rfl
    rw [e]
    have hp := h p (by simp)
    split
    · have := orI_bd (a := s) (b := powI p.1) (n := n) h0 h1 (Int.le_of_lt (powI_pos _)) (powI_lt hp)
      exact mkP_bd ps (fun q hq => h q (by simp [hq])) this.1 this.2
    · exact mkP_bd ps (fun q hq => h q (by simp [hq])) h0 h1
theorem mkP_inv {zs : List Int} (h : VoP zs) {s : Int} : ∀ (ps : List (Nat × Nat)) (m : Int), (∀ p ∈ ps, lt zs p.1 p.2) → (∀ j : Nat, bitB s j = true → bitB m j = true) →
    (∀ j : Nat, bitB m j = true → bitB s j = true ∨ ∃ b : Nat, bitB s b = true ∧ bitB (zs[j]?.getD 0) b = true) →
    (∀ j : Nat, bitB m j = true → bitB (mkP m ps) j = true) ∧ (∀ j : Nat, bitB (mkP m ps) j = true → bitB s j = true ∨ ∃ b : Nat, bitB s b = true ∧ bitB (zs[j]?.getD 0) b = true) ∧ ∀ p ∈ ps, bitB s p.2 = true → bitB (mkP m ps) p.1 = true
  | [], m, _, _, h2 => ⟨fun _ e => e, h2, fun p hp => by cases hp⟩
  | p :: ps, m, hp, h1, h2 => by
    have e : mkP m (p :: ps) = mkP (if bitB m p.2 then orI m (powI p.1) else m) ps := rfl
    rw [e]
    have hlt := hp p (by simp)
    cases hb : bitB m p.2
    · rw [if_neg (by decide)]
      obtain ⟨g1, g2, g3⟩ := mkP_inv h ps m (fun q hq => hp q (by simp [hq])) h1 h2
      refine ⟨g1, g2, fun q hq hs => ?_⟩
      rcases List.mem_cons.1 hq with rfl | hq
      · rw [h1 _ hs] at hb; cases hb
      · exact g3 q hq hs
    · rw [if_pos rfl]
      have hs1 : ∀ j : Nat, bitB m j = true → bitB (orI m (powI p.1)) j = true := fun j hj => by rw [bitB_or, hj]; rfl
      obtain ⟨g1, g2, g3⟩ := mkP_inv h ps (orI m (powI p.1)) (fun q hq => hp q (by simp [hq])) (fun j hj => hs1 j (h1 j hj)) (fun j hj => by
        rw [bitB_or, bitB_pow, Bool.or_eq_true, decide_eq_true_eq] at hj
        rcases hj with hj | rfl
        · exact h2 j hj
        · rcases h2 _ hb with hs | ⟨b, hs, hz⟩
          · exact .inr ⟨p.2, hs, hlt.2⟩
          · refine .inr ⟨b, hs, (h.trans hlt ⟨?_, hz⟩).2⟩
            rcases Nat.lt_or_ge p.2 zs.length with h1 | h1
            · exact h1
            · rw [List.getElem?_eq_none (by omega), Option.getD_none, bitB_zero] at hz; cases hz)
      refine ⟨fun j hj => g1 j (hs1 j hj), g2, fun q hq hs => ?_⟩
      rcases List.mem_cons.1 hq with rfl | hq
      · exact g1 _ (by rw [bitB_or, bitB_pow]; simp)
      · exact g3 q hq hs
theorem mkP_all {zs : List Int} (h : VoP zs) {s : Int} (h0 : 0 ≤ s) (h1 : s < powI zs.length) : mkP s (pairsL zs) = belI zs s := by
  obtain ⟨g1, g2, g3⟩ := mkP_inv h (s := s) (pairsL zs) s (fun p hp => by
    obtain ⟨ha, _, hb⟩ := mem_pairsL.1 (show (p.1, p.2) ∈ pairsL zs from hp)
    exact ⟨ha, hb⟩) (fun _ e => e) (fun _ e => .inl e)
  refine bitB_ext (mkP_bd (n := zs.length) _ (fun p hp => (mem_pairsL.1 (show (p.1, p.2) ∈ pairsL zs from hp)).1) h0 h1).1 (belI_bd h.sets h0 h1).1 fun j => ?_
  rw [Bool.eq_iff_iff, belI_bit h.sets h1]
  constructor
  · exact g2 j
  · rintro (e | ⟨b, hs, hz⟩)
    · exact g1 j e
    · refine g3 (j, b) (mem_pairsL.2 ⟨?_, ?_, hz⟩) hs
      · rcases Nat.lt_or_ge j zs.length with h1 | h1
        · exact h1
        · rw [List.getElem?_eq_none (by omega), Option.getD_none, bitB_zero] at hz; cases hz
      · have := bitB_lt h1 hs; have := h.1; omega

/-! What the functions answer. -/
def isIdealR (zs : List Int) (s : Int) : Bool := (vo zs && inB s 0 (powI zs.length - 1)) && idB zs s
def belowR (zs : List Int) (s : Int) : Int := if vo zs && inB s 0 (powI zs.length - 1) then belI zs s else -1
def nextI (zs : List Int) (s : Int) : Int := belI zs (topsTo (du zs) (powI zs.length - 1 - s) zs.length)
def nextR (zs : List Int) (s : Int) : Int := if isIdealR zs s then nextI zs s else -1
/-- The sets less than k for which p holds, ascending. -/
def setsTo (p : Int → Bool) (k : Nat) : List Int := ((List.range k).filter fun j : Nat => p (j : Int)).map fun j : Nat => (j : Int)
theorem setsTo_yes {p : Int → Bool} {k : Nat} (h : p (k : Int) = true) : setsTo p (k + 1) = setsTo p k ++ [(k : Int)] := by
  simp [setsTo, List.range_succ, h]
theorem setsTo_no {p : Int → Bool} {k : Nat} (h : p (k : Int) = false) : setsTo p (k + 1) = setsTo p k := by
  simp [setsTo, List.range_succ, h]
theorem setsTo_len (p : Int → Bool) (k : Nat) : (setsTo p k).length ≤ k := by
  unfold setsTo
  rw [List.length_map]
  exact Nat.le_trans (List.length_filter_le _ _) (by simp)
def idealsR (zs : List Int) : List Int := if vo zs then setsTo (idB zs) (2 ^ zs.length) else []
def apartsR (zs : List Int) : List Int := if vo zs then setsTo (apB zs) (2 ^ zs.length) else []
end Go.Proofs.YtmlihbcffndnbaaDoor

/- 'isNext': no item between two items. -/
namespace Go.Proofs.YtmlihbcffndnbaaDoor
open Go.RowKit Go.Shelf
attribute [local go_sem] Oper.semAt_some
attribute [local go_sem, local simp] wide_fn

def nextB (zs : List Int) (lo hi : Nat) : Bool := (itemsL (zs[lo]?.getD 0)).all fun x => !bitB (zs[x]?.getD 0) hi
theorem nextB_not {zs : List Int} {lo hi : Nat} {pre : List Nat} {x : Nat} (hp : pre ++ [x] <+: itemsL (zs[lo]?.getD 0)) (h : bitB (zs[x]?.getD 0) hi = true) : nextB zs lo hi = false := by
  obtain ⟨t, ht⟩ := hp
  unfold nextB
  rw [← ht]
  simp [h]

end Go.Proofs.YtmlihbcffndnbaaDoor

/- The program's pairs within a set; its tests of chains and of sets apart. -/
namespace Go.Proofs.YtmlihbcffndnbaaDoor
open Go.RowKit Go.Shelf
attribute [local go_sem] Oper.semAt_some
attribute [local go_sem, local simp] wide_fn

/-! The iterator over all sets. -/
abbrev encS (j : Nat) : Array Value := #[.int .i64 (j : Int)]
theorem range_pre {k N : Nat} (h : k < N) : List.range k ++ [k] <+: List.range N := by
  rw [← List.range_succ]
  refine ⟨(List.range N).drop (k + 1), ?_⟩
  have : List.range (k + 1) = (List.range N).take (k + 1) := by rw [List.take_range]; congr 1; omega
  rw [this, List.take_append_drop]

end Go.Proofs.YtmlihbcffndnbaaDoor

/- Rows of rows of numbers: words for memory, and what the exact laws call on them. -/
namespace Go.Proofs.YtmlihbcffndnbaaDoor
open Go.RowKit

/-- The slices vs are rows of a call's own, one after the other in blocks from lo up to less than hi, and read as rs. -/
def RowsC (w : World) : Nat → Nat → List Value → List (List Int) → Prop
  | lo, hi, [], [] => lo ≤ hi
  | lo, hi, v :: vs, r :: rs => ∃ A c mid, v = .slice A r.length c ∧ lo ≤ mid ∧ Row w lo mid A r.length r ∧ RowsC w mid hi vs rs
  | _, _, [], _ :: _ => False
  | _, _, _ :: _, [] => False

section
variable {w w' : World} {R : Nat → Prop}
theorem RowsC.le : ∀ {lo hi : Nat} {vs : List Value} {rs : List (List Int)}, RowsC w lo hi vs rs → lo ≤ hi
  | _, _, [], [], h => h
  | _, _, _ :: _, _ :: _, ⟨_, _, _, _, h1, _, h2⟩ => Nat.le_trans h1 h2.le
theorem RowsC.len : ∀ {lo hi : Nat} {vs : List Value} {rs : List (List Int)}, RowsC w lo hi vs rs → vs.length = rs.length
  | _, _, [], [], _ => rfl
  | _, _, _ :: _, _ :: _, ⟨_, _, _, _, _, _, h2⟩ => by simp [h2.len]
theorem RowsC.upd : ∀ {lo hi : Nat} {vs : List Value} {rs : List (List Int)}, RowsC w lo hi vs rs → Upd R w w' → (∀ j, R j → j < lo ∨ hi ≤ j) → RowsC w' lo hi vs rs
  | _, _, [], [], h, _, _ => h
  | _, _, _ :: _, _ :: _, ⟨A, c, mid, e, h1, hr, h2⟩, hu, hR => ⟨A, c, mid, e, h1, hr.upd hu (fun j hj => by have := hR j hj; have := h2.le; omega), h2.upd hu (fun j hj => by have := hR j hj; omega)⟩
theorem RowsC.more : ∀ {lo hi hi' : Nat} {vs : List Value} {rs : List (List Int)}, RowsC w lo hi vs rs → hi ≤ hi' → RowsC w lo hi' vs rs
  | _, _, _, [], [], h, h' => Nat.le_trans h h'
  | _, _, _, _ :: _, _ :: _, ⟨A, c, mid, e, h1, hr, h2⟩, h' => ⟨A, c, mid, e, h1, hr, h2.more h'⟩
theorem RowsC.snoc : ∀ {lo hi hi' : Nat} {vs : List Value} {rs : List (List Int)} {A : Option Addr} {c : Nat} {r : List Int}, RowsC w lo hi vs rs → Row w hi hi' A r.length r → hi ≤ hi' → RowsC w lo hi' (vs ++ [.slice A r.length c]) (rs ++ [r])
  | _, _, hi', [], [], A, c, _, h, hr, hh => ⟨A, c, hi', rfl, Nat.le_trans h hh, hr.more h (Nat.le_refl _), Nat.le_refl _⟩
  | _, _, _, _ :: _, _ :: _, _, _, _, ⟨A, c, mid, e, h1, hr1, h2⟩, hr, hh => ⟨A, c, mid, e, h1, hr1, h2.snoc hr hh⟩
/-- One of the rows, and what may be done to it. -/
theorem RowsC.at_ : ∀ {lo hi : Nat} {vs : List Value} {rs : List (List Int)}, RowsC w lo hi vs rs → ∀ j, j < rs.length →
    ∃ A c l m, vs[j]? = some (.slice A (rs[j]?.getD []).length c) ∧ lo ≤ l ∧ m ≤ hi ∧ Row w l m A (rs[j]?.getD []).length (rs[j]?.getD []) ∧
      ∀ (w' : World) (r' : List Int), r'.length = (rs[j]?.getD []).length → Upd (fun k => l ≤ k ∧ k < m) w w' → Row w' l m A r'.length r' → RowsC w' lo hi vs (rs.set j r')
  | _, _, [], [], _, j, hj => by simp at hj
  | lo, hi, v :: vs, r :: rs, ⟨A, c, mid, e, h1, hr, h2⟩, 0, _ => by
    refine ⟨A, c, lo, mid, by rw [e]; rfl, Nat.le_refl _, h2.le, hr, fun w' r' hl hu hr' => ⟨A, c, mid, ?_, h1, ?_, h2.upd hu (fun j hj => by omega)⟩⟩
    · rw [e]; simp at hl; rw [hl]
    · exact hr'
  | lo, hi, v :: vs, r :: rs, ⟨A, c, mid, e, h1, hr, h2⟩, j + 1, hj => by
    obtain ⟨A', c', l, m, g1, g2, g3, g4, g5⟩ := h2.at_ j (by simpa using hj)
    refine ⟨A', c', l, m, by simpa using g1, by omega, g3, by simpa using g4, fun w' r' hl hu hr' => ⟨A, c, mid, e, h1, hr.upd hu (fun k hk => by omega), g5 w' r' (by simpa using hl) hu hr'⟩⟩
end

/-- A row of rows of a call's own: the slice, in a block of slices; its rows. -/
def RowsR (w : World) (lo hi : Nat) (A : Option Addr) (n : Nat) (rs : List (List Int)) : Prop :=
  rs.length = n ∧ (0 < n → ∃ (g : Nat) (vs : List Value) (cs : Array Value), A = some ⟨g, 0, none⟩ ∧ lo ≤ g ∧ g < hi ∧ w.heap[g]? = some (.cells cs 22 (0, 0)) ∧ (∀ (j : Nat) (u : Value), vs[j]? = some u → cs[j]? = some u) ∧ RowsC w lo hi vs rs)
/-- A slice of slices that reads as rs, below block B. -/
def IntsS (w : World) (B : Nat) (A : Option Addr) (n : Nat) (rs : List (List Int)) : Prop :=
  rs.length = n ∧ (0 < n → ∃ b off, A = some ⟨b, off, none⟩ ∧ b < B ∧ ∀ j, j < n → ∃ A' c', w.cell? ⟨b, off + j, none⟩ = some (.slice A' (rs[j]?.getD []).length c') ∧ Ints w B A' (rs[j]?.getD []).length (rs[j]?.getD []))
section
variable {w w' : World} {lo hi n B : Nat} {A : Option Addr} {rs : List (List Int)} {R : Nat → Prop}
theorem RowsR.len (h : RowsR w lo hi A n rs) : rs.length = n := h.1
theorem RowsR.nil (w : World) (lo hi : Nat) (A : Option Addr) : RowsR w lo hi A 0 [] := ⟨rfl, fun h => absurd h (by omega)⟩
theorem RowsR.upd (h : RowsR w lo hi A n rs) (hu : Upd R w w') (hr : ∀ j, R j → j < lo ∨ hi ≤ j) : RowsR w' lo hi A n rs :=
  ⟨h.1, fun hn => by
    obtain ⟨g, vs, cs, e, h1, h2, h3, h4, h5⟩ := h.2 hn
    exact ⟨g, vs, cs, e, h1, h2, (hu.block g (Array.getElem?_eq_some_iff.1 h3).1 (fun e => by have := hr g e; omega)).trans h3, h4, h5.upd hu hr⟩⟩
theorem RowsR.below (h : RowsR w lo hi A n rs) {B : Nat} (hu : Below B w w') (hB : hi ≤ B) : RowsR w' lo hi A n rs := h.upd (Below.toUpd hu) (fun j hj => by omega)
theorem RowsR.ints (h : RowsR w lo hi A n rs) (hB : hi ≤ B) : IntsS w B A n rs :=
  ⟨h.1, fun hn => by
    obtain ⟨g, vs, cs, e, h1, h2, h3, h4, h5⟩ := h.2 hn
    refine ⟨g, 0, e, by omega, fun j hj => ?_⟩
    obtain ⟨A', c', l, m, g1, g2, g3, g4, _⟩ := h5.at_ j (by rw [h.1]; exact hj)
    exact ⟨A', c', by rw [Nat.zero_add, cell_of_row w g j _ _ (0, 0) h3]; exact h4 j _ g1, g4.ints (by omega)⟩⟩
theorem IntsS.len (h : IntsS w B A n rs) : rs.length = n := h.1
theorem IntsS.at_ (h : IntsS w B A n rs) {k : Nat} (hk : k < n) : ∃ b off, A = some ⟨b, off, none⟩ ∧ b < B ∧ ∀ j, j < n → ∃ A' c', w.cell? ⟨b, off + j, none⟩ = some (.slice A' (rs[j]?.getD []).length c') ∧ Ints w B A' (rs[j]?.getD []).length (rs[j]?.getD []) := h.2 (by omega)
theorem IntsS.drewN (h : IntsS w B A n rs) (k : Nat) : IntsS (w.drewN k) B A n rs := h
theorem IntsS.keep (h : IntsS w B A n rs) (hk : ∀ p : Addr, p.block < B → w'.cell? p = w.cell? p) : IntsS w' B A n rs :=
  ⟨h.1, fun hn => by
    obtain ⟨b, off, e, hb, hc⟩ := h.2 hn
    refine ⟨b, off, e, hb, fun j hj => ?_⟩
    obtain ⟨A', c', h1, h2⟩ := hc j hj
    exact ⟨A', c', (hk _ hb).trans h1, h2.keep hk⟩⟩
theorem IntsS.more {B' : Nat} (h : IntsS w B A n rs) (hB : B ≤ B') : IntsS w B' A n rs :=
  ⟨h.1, fun hn => by
    obtain ⟨b, off, e, hb, hc⟩ := h.2 hn
    refine ⟨b, off, e, by omega, fun j hj => ?_⟩
    obtain ⟨A', c', h1, h2⟩ := hc j hj
    exact ⟨A', c', h1, h2.more hB⟩⟩
theorem IntsS.below (h : IntsS w B A n rs) (hb : Below B w w') : IntsS w' B A n rs := h.keep fun _ hp => hb.cell hp
theorem IntsS.to (h : IntsS w B A n rs) {B' C : Nat} (hb : Below B' w w') (hB : B ≤ B') (hC : B ≤ C) : IntsS w' C A n rs := (h.below (hb.mono hB)).more hC
end

theorem quiet_any {P : Program} {f : FuncId} {args : Array Value} {w : World} {a n : Nat} {v : Value}
    (h : Calls P f args (w.drewN (a + n)) fun e w' => e = .returned v ∧ ∃ m, w' = (w.drewN (a + n)).drewN m) :
    Calls P f args (w.drewN (a + n)) fun e w'' => e = .returned v ∧ ∃ m, w'' = w.drewN (a + m) :=
  h.mono fun _ _ ⟨he, m, hm⟩ => ⟨he, n + m, by rw [hm, World.drewN_drewN, Nat.add_assoc]⟩
/-- What a function that hands back new rows does. -/
def GivesRows (w : World) (rs : List (List Int)) (e : Ending) (w' : World) : Prop := ∃ A n c, e = .returned (.slice A n c) ∧ RowsR w' w.heap.size w'.heap.size A n rs ∧ Below w.heap.size w w'
end Go.Proofs.YtmlihbcffndnbaaDoor

/- Texts that several claims share, one behind the other. -/
import Derived.Test.YtghogabmkbadjaaGxc
import Derived.Test.YtghogabmkbadjaaGc
import Derived.Test.YtghogabmkbadjaaClI
import Derived.Test.YtghogabmkbadjaaLineI
import Derived.Stop.RegionWithIn
import Derived.Test.YtghogabmkbadjaaGxe
import Derived.Test.YtghogabmkbadjaaGb
set_option linter.unusedVariables false
set_option linter.unusedSimpArgs false
/- The program's lines: tellFrom. -/
namespace Go.Proofs.Ytghogabmkbadjaa
open Go.RowKit Go.Shelf
attribute [local go_sem] Oper.semAt_some
attribute [local go_sem, local simp] wide_fn

/-- A line, and the row in which it lies. -/
abbrev Ln := List Int × Value
def lnOwn (x : Ln) (k : Nat) : Prop := x.2.ownBlock = some k
def lnHas (x : Ln) (W : World) : Prop := W.ownsRow 0 3 1 x.2 x.1.length (x.1.map (Value.int .i64))
abbrev lnEnc (x : Ln) : Array Value := #[x.2]
def lnUp (zs : List Int) (xs : List Ln) : Prop := xs.map Prod.fst <+: alL zs
def lnFull (zs : List Int) (xs : List Ln) : Prop := xs.map Prod.fst = alL zs
theorem ln_firm : HasFirm lnOwn lnHas := by
  intro x W W' h hu
  refine ⟨h.1, ?_⟩
  rcases h.2 with e | ⟨g, cap, cur, e, hg, hc, hrest⟩
  · exact .inl e
  · exact .inr ⟨g, cap, cur, e, hg, (hu.block g (Array.getElem?_eq_some_iff.1 hc).1 (fun h2 => h2 (by unfold lnOwn; rw [e]; rfl))).trans hc, hrest⟩

/-- What a round of lines does: the yield's contract. -/
def LnYield (l B : Nat) (zs : List Int) (M : Nat → Prop) (J Jx : List Ln → (Nat → Prop) → World → Prop) : Prop :=
  ∀ pre x D W, J pre D W → B ≤ W.heap.size → lnUp zs (pre ++ [x]) → lnHas x W → (∀ k, lnOwn x k → B ≤ k ∧ k < W.heap.size ∧ ¬ D k) → ∀ m, YieldAt Fence.wide m Try.prog l (lnEnc x) W fun e W' =>
      (e = .returned (.bool true) ∧ ∃ D', J (pre ++ [x]) D' W' ∧ Upd (fun k => M k ∨ D k ∨ lnOwn x k) W W' ∧ ∀ k, D' k → (D k ∨ lnOwn x k) ∨ W.heap.size ≤ k ∧ k < W'.heap.size) ∨
      (e = .returned (.bool false) ∧ ∃ D', Jx (pre ++ [x]) D' W' ∧ Upd (fun k => M k ∨ D k ∨ lnOwn x k) W W' ∧ ∀ k, D' k → (D k ∨ lnOwn x k) ∨ W.heap.size ≤ k ∧ k < W'.heap.size)
/-- What tellFrom does. -/
def LnTold (zs : List Int) (M : Nat → Prop) (J Jx : List Ln → (Nat → Prop) → World → Prop) (k : Nat) (so : List Int) (s : Int) (v : Value) (pre : List Ln) (D : Nat → Prop) (w : World) (e : Ending) (W' : World) : Prop :=
  (e = .returned (.bool true) ∧ ∃ post D', post.map Prod.fst = alG zs k so s ∧ J (pre ++ post) D' W' ∧ Upd (fun j => M j ∨ D j ∨ v.ownBlock = some j) w W' ∧ (∀ j, D' j → D j ∨ w.heap.size ≤ j ∧ j < W'.heap.size) ∧ W'.ownsRow 0 3 1 v so.length (so.map (Value.int .i64))) ∨
  (e = .returned (.bool false) ∧ ∃ post D', lnUp zs (pre ++ post) ∧ Jx (pre ++ post) D' W' ∧ Upd (fun j => M j ∨ D j ∨ v.ownBlock = some j) w W' ∧ ∀ j, D' j → D j ∨ w.heap.size ≤ j ∧ j < W'.heap.size)

set_option maxRecDepth 100000 in
set_option maxHeartbeats 4000000 in
theorem tell_last (zs : List Int) (n b m l B : Nat) (M : Nat → Prop) (J Jx : List Ln → (Nat → Prop) → World → Prop) (hJ : Firm B J) (hJx : Firm B Jx) (hY : LnYield l B zs M J Jx)
    (so : List Int) (s : Int) (v : Value) (pre : List Ln) (D : Nat → Prop) (w : World) (hn : so.length ≤ 6) (hpre : pre.map Prod.fst ++ [so] <+: alL zs) (hO : w.ownsRow 0 3 1 v so.length (so.map (Value.int .i64)))
    (hj : J pre D w) (hB : B ≤ w.heap.size) (hD : ∀ j, D j → B ≤ j ∧ j < w.heap.size) (hMb : ∀ k, M k → k < B) (hOB : ∀ j, v.ownBlock = some j → B ≤ j ∧ ¬ D j) :
    Calls Try.prog 107 #[lineV b m n, v, .int .i64 0, .func (.yield l) #[] #[]] w (LnTold zs M J Jx 0 so s v pre D w) := by
  unfold lineV
  obtain ⟨A, c, rfl, -, -⟩ := ints_of_own_at hO
  refine (callsIn_wide (n := 9)).1 ?_
  refine callsIn_of_wp Try.func107 rfl trivial ?_ rfl
  simp only [Try.ntmps107, List.size_toArray, List.length_cons, List.length_nil, Nat.reduceAdd, Nat.reduceSub, Array.replicate_succ, Array.replicate_zero, List.push_toArray, List.append_toArray, List.nil_append, List.cons_append]
  gi_wp2
  obtain ⟨W0, hW0⟩ : ∃ W0, (((((w.alloc (Obj.cells #[Value.slice (some { block := b, off := 0 }) n n, Value.map (some m)] 68)).alloc (Obj.cells #[.slice A so.length c] 22)).alloc (Obj.cells #[Value.int IntKind.i64 0] 59)).alloc (Obj.cells #[Value.func (Fn.yield l) #[] #[]] 28)).alloc (Obj.cells #[Value.bool false] 4)) = W0 := ⟨_, rfl⟩
  have hz0 : W0.heap.size = w.heap.size + 5 := by rw [← hW0]; simp
  have hu0 : Upd (fun _ => False) w W0 := by rw [← hW0]; exact (((((Upd.refl _ w).alloc _).alloc _).alloc _).alloc _).alloc _
  have bLn : Boxed W0 (w.heap.size + 1) 22 (.slice A so.length c) := by
    rw [← hW0]
    have := (((Boxed.new (w.alloc (Obj.cells #[Value.slice (some { block := b, off := 0 }) n n, Value.map (some m)] 68)) 22 (.slice A so.length c)).alloc (Obj.cells #[Value.int IntKind.i64 0] 59)).alloc (Obj.cells #[Value.func (Fn.yield l) #[] #[]] 28)).alloc (Obj.cells #[Value.bool false] 4)
    simpa only [World.size_alloc] using this
  have bTl : Boxed W0 (w.heap.size + 1 + 1 + 1) 28 (.func (.yield l) #[] #[]) := by
    rw [← hW0]
    have := (Boxed.new (((w.alloc (Obj.cells #[Value.slice (some { block := b, off := 0 }) n n, Value.map (some m)] 68)).alloc (Obj.cells #[.slice A so.length c] 22)).alloc (Obj.cells #[Value.int IntKind.i64 0] 59)) 28 (Value.func (Fn.yield l) #[] #[])).alloc (Obj.cells #[Value.bool false] 4)
    simpa only [World.size_alloc] using this
  have bRs : Boxed W0 (w.heap.size + 1 + 1 + 1 + 1) 4 (.bool false) := by
    rw [← hW0]
    have := Boxed.new ((((w.alloc (Obj.cells #[Value.slice (some { block := b, off := 0 }) n n, Value.map (some m)] 68)).alloc (Obj.cells #[.slice A so.length c] 22)).alloc (Obj.cells #[Value.int IntKind.i64 0] 59)).alloc (Obj.cells #[Value.func (Fn.yield l) #[] #[]] 28)) 4 (Value.bool false)
    simpa only [World.size_alloc] using this
  rw [hW0]
  clear hW0
  have hcL : W0.drew.cell? ⟨w.heap.size + 1, 0, none⟩ = some (.slice A so.length c) := bLn.cell
  have hcT : W0.drew.cell? ⟨w.heap.size + 1 + 1 + 1, 0, none⟩ = some (.func (.yield l) #[] #[]) := bTl.cell
  have bTd : Boxed W0.drew (w.heap.size + 1 + 1 + 1) 28 (.func (.yield l) #[] #[]) := bTl
  have bRd : Boxed W0.drew (w.heap.size + 1 + 1 + 1 + 1) 4 (.bool false) := bRs
  have hud : Upd (fun _ => False) w W0.drew := hu0.drew
  have hzd : w.heap.size < W0.drew.heap.size := by show _ < W0.heap.size; omega
  have hzl := bRs.lt
  have hOd : W0.drew.ownsRow 0 3 1 (.slice A so.length c) so.length (so.map (Value.int .i64)) :=
    (OwnS.keep (S := fun _ => True) (R := fun _ => False) ⟨fun _ _ => trivial, hO⟩ hud (fun _ _ e => e)).2
  have hjd : J pre D W0.drew := hJ _ _ _ _ hj (hud.mono fun _ _ e => e.elim)
  have H2 : ∀ (v2 : Value) (W2 : World), OwnS (fun k => W0.drew.heap.size ≤ k) W2 W0.drew.heap.size 3 v2 so → Below W0.drew.heap.size W0.drew W2 →
      Boxed W2 (w.heap.size + 1 + 1 + 1) 28 (.func (.yield l) #[] #[]) ∧ ∃ fn tmps assign body, (Instr.yield l #[v2]).run Try.prog W2 = .ok (.round l fn tmps assign body) W2 ∧
      RoundIn Fence.wide 8 Try.prog l fn tmps assign body W2 (fun e W3 => ∃ r : Bool, e = .returned (.bool r) ∧ Boxed W3 (w.heap.size + 1 + 1 + 1 + 1) 4 (.bool false) ∧ Upd (fun j => M j ∨ D j) w W3 ∧ ∃ D', ((r = true ∧ J (pre ++ [(so, v2)]) D' W3) ∨ (r = false ∧ Jx (pre ++ [(so, v2)]) D' W3)) ∧ ∀ j, D' j → D j ∨ W0.drew.heap.size ≤ j ∧ j < W3.heap.size) := by
    intro v2 W2 hO2 hB2
    have hz2 := hB2.size
    have hu2 : Upd (fun _ => False) W0.drew W2 := (Upd.refl _ _).below hB2 (fun k h1 h2 => by omega)
    have hlt2 := own_lt' hO2.2
    refine ⟨hu2.boxed bTd (fun e => e), ?_⟩
    obtain ⟨fn, tmps, assign, body, hy, hR⟩ := hY pre (so, v2) D W2 (hJ _ _ _ _ hjd (hu2.mono fun _ _ e => e.elim)) (by omega) (by unfold lnUp; rw [List.map_append]; exact hpre) (own_sooner hO2.2 (by omega)) (fun k hk => ⟨by have := hO2.1 k hk; omega, hlt2 k hk, fun e => by have := hD k e; have := hO2.1 k hk; omega⟩) 8
    refine ⟨fn, tmps, assign, body, hy, hR.mono ?_⟩
    have key : ∀ W3 (D' : Nat → Prop), Upd (fun k => M k ∨ D k ∨ lnOwn (so, v2) k) W2 W3 → (∀ k, D' k → (D k ∨ lnOwn (so, v2) k) ∨ W2.heap.size ≤ k ∧ k < W3.heap.size) →
        Boxed W3 (w.heap.size + 1 + 1 + 1 + 1) 4 (.bool false) ∧ Upd (fun j => M j ∨ D j) w W3 ∧ ∀ j, D' j → D j ∨ W0.drew.heap.size ≤ j ∧ j < W3.heap.size := by
      intro W3 D' hu3 hD3
      have hz3 := hu3.size
      have hzq : W0.drew.heap.size = W0.heap.size := rfl
      refine ⟨hu3.boxed (hu2.boxed bRd (fun e => e)) (fun e => ?_), ?_, fun j hj3 => ?_⟩
      · rcases e with e | e | e
        · have := hMb _ e; omega
        · have := hD _ e; omega
        · have := hO2.1 _ e; omega
      · refine (((hud.trans hu2).mono fun _ _ e => e.elim).trans' hu3 (fun i hi e => ?_))
        rcases e with e | e | e
        · exact .inl e
        · exact .inr e
        · have := hO2.1 _ e; omega
      · rcases hD3 j hj3 with (e | e) | e
        · exact .inl e
        · have h1 := hO2.1 _ e
          have h2 := hlt2 _ e
          exact .inr ⟨by omega, by omega⟩
        · exact .inr ⟨by omega, by omega⟩
    rintro e W3 (⟨rfl, D', hj3, hu3, hD3⟩ | ⟨rfl, D', hj3, hu3, hD3⟩)
    · obtain ⟨k1, k2, k3⟩ := key W3 D' hu3 hD3
      exact ⟨true, rfl, k1, k2, D', .inl ⟨rfl, hj3⟩, k3⟩
    · obtain ⟨k1, k2, k3⟩ := key W3 D' hu3 hD3
      exact ⟨false, rfl, k1, k2, D', .inr ⟨rfl, hj3⟩, k3⟩
  have HH := Lib.hid H2
  have hlt0 := own_lt' hO
  have fin : ∀ (v2 : Value) (r : Bool) (W3 : World), Boxed W3 (w.heap.size + 1 + 1 + 1 + 1) 4 (.bool false) → Upd (fun j => M j ∨ D j) w W3 → (∃ D', ((r = true ∧ J (pre ++ [(so, v2)]) D' W3) ∨ (r = false ∧ Jx (pre ++ [(so, v2)]) D' W3)) ∧ ∀ j, D' j → D j ∨ W0.drew.heap.size ≤ j ∧ j < W3.heap.size) →
      LnTold zs M J Jx 0 so s (.slice A so.length c) pre D w (.returned (.bool r)) (W3.setCell ⟨w.heap.size + 1 + 1 + 1 + 1, 0, none⟩ (.bool r)) := by
    rintro v2 r W3 bR3 hu3 ⟨D', hj3, hD3⟩
    have hzq : W0.drew.heap.size = W0.heap.size := rfl
    have hus : Upd (fun k => k = w.heap.size + 1 + 1 + 1 + 1) W3 (W3.setCell ⟨w.heap.size + 1 + 1 + 1 + 1, 0, none⟩ (.bool r)) := (Upd.refl (fun k => k = w.heap.size + 1 + 1 + 1 + 1) W3).setCell (p := ⟨w.heap.size + 1 + 1 + 1 + 1, 0, none⟩) (.inr rfl) _
    have hz4 := hus.size
    have hnD : ¬ D' (w.heap.size + 1 + 1 + 1 + 1) := fun e => by
      rcases hD3 _ e with e | e
      · have := hD _ e; omega
      · omega
    have hu4 : Upd (fun j => M j ∨ D j) w (W3.setCell ⟨w.heap.size + 1 + 1 + 1 + 1, 0, none⟩ (.bool r)) := hu3.trans' hus (fun i hi e => by omega)
    have hD4 : ∀ j, D' j → D j ∨ w.heap.size ≤ j ∧ j < (W3.setCell ⟨w.heap.size + 1 + 1 + 1 + 1, 0, none⟩ (.bool r)).heap.size := fun j e => (hD3 j e).elim .inl (fun e => .inr ⟨by omega, by omega⟩)
    have hu5 : Upd (fun j => M j ∨ D j ∨ (Value.slice A so.length c).ownBlock = some j) w (W3.setCell ⟨w.heap.size + 1 + 1 + 1 + 1, 0, none⟩ (.bool r)) := hu4.mono fun k _ e => e.elim .inl (fun e => .inr (.inl e))
    rcases hj3 with ⟨rfl, hj3⟩ | ⟨rfl, hj3⟩
    · refine .inl ⟨rfl, [(so, v2)], D', rfl, hJ _ _ _ _ hj3 (hus.mono fun k _ e => ⟨by omega, fun e2 => hnD (by rw [← e]; exact e2)⟩), hu5, hD4, ?_⟩
      exact (OwnS.keep (S := fun k => (Value.slice A so.length c).ownBlock = some k) ⟨fun _ h => h, hO⟩ hu4 (fun k hk e => by
        have h1 := hOB k hk
        rcases e with e | e
        · have := hMb _ e; omega
        · exact h1.2 e)).2
    · exact .inr ⟨rfl, [(so, v2)], D', by unfold lnUp; rw [List.map_append]; exact hpre, hJx _ _ _ _ hj3 (hus.mono fun k _ e => ⟨by omega, fun e2 => hnD (by rw [← e]; exact e2)⟩), hu5, hD4⟩
  have Hf := Lib.hid fin
  clear fin H2 hjd hj hu0 hO bLn bTl bRs
  gi_region_with (first
    | (gi_at_call 108; refine (callsIn_wide.2 (cloneI_own 0 _ so so.length _ hOd hn)).mono ?_; rintro e W2 ⟨v2, rfl, hO2, hB2⟩; obtain ⟨bT2, fn, tmps, assign, body, hy, hR⟩ := HH.out v2 W2 hO2 hB2; have hcT2 := bT2.cell)
    | (refine hR.mono ?_; rintro e W3 ⟨r, rfl, bR3, hu3, hEx⟩; have hcR3 := bR3.cell; have hfR3 := bR3.frozen; have HEx := Lib.hid hEx; clear hEx))
  all_goals
    gi_wp2
    have hc4 := (bR3.set (.bool r)).cell
    refine bodyPost_ret (v := .bool r) (by simp [results, Try.f107, go_sem, hc4]) rfl ?_
    exact Hf.out _ r W3 bR3 hu3 HEx.out
end Go.Proofs.Ytghogabmkbadjaa

/- Rows of lines under way: each row in a block of its own; how they are kept, grow, are read and marked. -/
namespace Go.Proofs.Ytghogabmkbadjaa
open Go.RowKit

/-- A slice of lines under way: the rows lie in blocks of their own, named by S. -/
structure LnRows (S : Nat → Prop) (w : World) (v : Value) (L : List Ln) : Prop where
  own : w.ownsRow 0 22 1 v L.length (L.map Prod.snd)
  has : ∀ x ∈ L, lnHas x w
  apart : ∀ x ∈ L, ∀ k, lnOwn x k → v.ownBlock ≠ some k
  pair : L.Pairwise fun x y => ∀ k, lnOwn x k → ¬ lnOwn y k
  inS : (∀ k, v.ownBlock = some k → S k) ∧ ∀ x ∈ L, ∀ k, lnOwn x k → S k
section
variable {S S' R : Nat → Prop} {w w' : World} {v v' : Value} {L : List Ln}
theorem lnHas_keep {x : Ln} (h : lnHas x w) (hu : Upd R w w') (hr : ∀ k, lnOwn x k → ¬ R k) : lnHas x w' := ln_firm x w w' h (hu.mono fun k _ e e2 => hr k e2 e)
theorem LnRows.nil (S : Nat → Prop) (w : World) : LnRows S w (.slice none 0 0) [] := ⟨World.ownsRow_nil _ _ _ _, fun _ h => by simp at h, fun _ h => by simp at h, List.Pairwise.nil, fun k h => by simp [Value.ownBlock] at h, fun _ h => by simp at h⟩
theorem LnRows.keep (h : LnRows S w v L) (hu : Upd R w w') (hS : ∀ k, S k → ¬ R k) : LnRows S w' v L := by
  refine ⟨⟨h.own.1, ?_⟩, fun x hx => lnHas_keep (h.has x hx) hu (fun k hk => hS k (h.inS.2 x hx k hk)), h.apart, h.pair, h.inS⟩
  rcases h.own.2 with e | ⟨g, cap, cur, e, hg, hc, hrest⟩
  · exact .inl e
  · exact .inr ⟨g, cap, cur, e, hg, (hu.block g (Array.getElem?_eq_some_iff.1 hc).1 (hS g (h.inS.1 g (by rw [e]; rfl)))).trans hc, hrest⟩
theorem LnRows.more (h : LnRows S w v L) (hS : ∀ k, S k → S' k) : LnRows S' w v L := ⟨h.own, h.has, h.apart, h.pair, fun k e => hS k (h.inS.1 k e), fun x hx k e => hS k (h.inS.2 x hx k e)⟩
theorem LnRows.lt (h : LnRows S w v L) : (∀ k, v.ownBlock = some k → k < w.heap.size) ∧ ∀ x ∈ L, ∀ k, lnOwn x k → k < w.heap.size :=
  ⟨fun k e => own_lt' h.own k e, fun x hx k e => own_lt' (h.has x hx) k e⟩
/-- One line more. -/
theorem LnRows.step {x : Ln} {o : Obj} (h : LnRows S w v L) (hx : lnHas x w) (hxS : ∀ k, lnOwn x k → ¬ S k) (hown : w'.ownsRow 0 22 1 v' (L.length + 1) (L.map Prod.snd ++ [x.2])) (hg : (w.alloc o).grownBy w' v.ownBlock) (hv : v'.ownBlock = v.ownBlock ∨ v'.ownBlock = some (w.alloc o).heap.size)
    (hS : ∀ k, S k → S' k) (hS1 : ∀ k, lnOwn x k → S' k) (hS2 : w.heap.size + 1 < w'.heap.size → S' (w.heap.size + 1)) : LnRows S' w' v' (L ++ [x]) := by
  have hxl : ∀ k, lnOwn x k → k < w.heap.size := fun k e => own_lt' hx k e
  have hL := h.lt
  have hu : Upd (fun k => v.ownBlock = some k) w w' := ((Upd.refl _ w).alloc o).grown hg (fun k e => .inr e)
  have hn : ∀ k, v'.ownBlock = some k → (v.ownBlock = some k) ∨ k = w.heap.size + 1 := fun k e => by
    rcases hv with e2 | e2
    · exact .inl (e2 ▸ e)
    · rw [e2, World.size_alloc] at e; injection e with e; exact .inr e.symm
  refine ⟨by rw [List.length_append, List.map_append]; exact hown, fun y hy => ?_, fun y hy k hk e => ?_, ?_, fun k e => ?_, fun y hy k hk => ?_⟩
  · rcases List.mem_append.1 hy with hy | hy
    · exact lnHas_keep (h.has y hy) hu (fun k hk e => h.apart y hy k hk e)
    · rw [List.mem_singleton.1 hy]
      exact lnHas_keep hx hu (fun k hk e => hxS k hk (h.inS.1 k e))
  · rcases hn k e with e2 | e2
    · rcases List.mem_append.1 hy with hy | hy
      · exact h.apart y hy k hk e2
      · rw [List.mem_singleton.1 hy] at hk; exact hxS k hk (h.inS.1 k e2)
    · rcases List.mem_append.1 hy with hy | hy
      · have := hL.2 y hy k hk; omega
      · rw [List.mem_singleton.1 hy] at hk; have := hxl k hk; omega
  · rw [List.pairwise_append]
    refine ⟨h.pair, List.pairwise_singleton _ _, fun y hy z hz k hk hk2 => ?_⟩
    rw [List.mem_singleton.1 hz] at hk2
    exact hxS k hk2 (h.inS.2 y hy k hk)
  · rcases hn k e with e2 | rfl
    · exact hS k (h.inS.1 k e2)
    · exact hS2 (own_lt' hown _ e)
  · rcases List.mem_append.1 hy with hy | hy
    · exact hS k (h.inS.2 y hy k hk)
    · rw [List.mem_singleton.1 hy] at hk; exact hS1 k hk
/-- How a row of lines is found. -/
theorem LnRows.at_ (h : LnRows S w v L) {j : Nat} {x : Ln} (hj : L[j]? = some x) : ∃ g c, v = .slice (some ⟨g, 0, none⟩) L.length c ∧ g < w.heap.size ∧ w.cell? ⟨g, j, none⟩ = some x.2 := by
  have hl : j < L.length := (List.getElem?_eq_some_iff.1 hj).1
  rcases h.own.2 with ⟨_, e⟩ | ⟨g, cap, cur, e, _, hc, _, _, _, ht⟩
  · omega
  · refine ⟨g, cap, e, (Array.getElem?_eq_some_iff.1 hc).1, ?_⟩
    rw [cell_of_row w g j _ _ (0, 0) hc, take_at (n := L.length) (by simpa using ht) hl, List.getElem?_map, hj]
    rfl
theorem LnRows.slice (h : LnRows S w v L) : ∃ A c, v = .slice A L.length c := by
  rcases h.own.2 with ⟨e, e2⟩ | ⟨g, cap, cur, e, _⟩
  · exact ⟨none, 0, by rw [e, e2]⟩
  · exact ⟨_, cap, e⟩
theorem lnHas_slice {x : Ln} (h : lnHas x w) : ∃ A c, x.2 = .slice A x.1.length c ∧ Ints w w.heap.size A x.1.length x.1 := by
  obtain ⟨A, c, e, hI, _⟩ := ints_of_own_at h
  exact ⟨A, c, e, hI⟩
theorem LnRows.ints (h : LnRows S w v L) {A : Option Addr} {c : Nat} (hv : v = .slice A L.length c) : IntsS w w.heap.size A L.length (L.map Prod.fst) := by
  refine ⟨by simp, fun hn => ?_⟩
  obtain ⟨x0, hx0⟩ : ∃ x, L[0]? = some x := ⟨L[0], List.getElem?_eq_getElem hn⟩
  obtain ⟨g, c', e, hg, _⟩ := h.at_ hx0
  rw [hv] at e
  cases e
  refine ⟨g, 0, rfl, hg, fun j hj => ?_⟩
  have hx : L[j]? = some L[j] := List.getElem?_eq_getElem hj
  obtain ⟨g', c2, e2, _, hcell⟩ := h.at_ hx
  rw [hv] at e2
  cases e2
  obtain ⟨A', c', e', hI⟩ := lnHas_slice (h.has _ (List.getElem_mem hj))
  rw [Nat.zero_add, hcell, List.getElem?_map, hx]
  exact ⟨A', c', by rw [e']; rfl, hI⟩
end

/-- The lines when the first j of them are marked. -/
def lnMk (k : Int) (L : List Ln) (j : Nat) : List Ln := List.zip (marksTo k (L.map Prod.fst) j) (L.map Prod.snd)
theorem lnMk_len (k : Int) {L : List Ln} {j : Nat} (hj : j ≤ L.length) : (lnMk k L j).length = L.length := by
  unfold lnMk
  rw [List.length_zip, marksTo_len k (by simpa using hj)]
  simp
theorem lnMk_fst (k : Int) {L : List Ln} {j : Nat} (hj : j ≤ L.length) : (lnMk k L j).map Prod.fst = marksTo k (L.map Prod.fst) j := by
  unfold lnMk
  exact List.map_fst_zip (by rw [marksTo_len k (by simpa using hj)]; simp)
theorem lnMk_snd (k : Int) {L : List Ln} {j : Nat} (hj : j ≤ L.length) : (lnMk k L j).map Prod.snd = L.map Prod.snd := by
  unfold lnMk
  exact List.map_snd_zip (by rw [marksTo_len k (by simpa using hj)]; simp)
theorem lnMk_zero (k : Int) (L : List Ln) : lnMk k L 0 = L := by
  unfold lnMk marksTo
  rw [List.take_zero, List.drop_zero]
  show List.zip (L.map Prod.fst) (L.map Prod.snd) = L
  rw [List.zip_map']
  simp
theorem lnMk_at (k : Int) {L : List Ln} {j : Nat} (hj : j < L.length) : (lnMk k L j)[j]? = some L[j] := by
  unfold lnMk
  rw [List.getElem?_zip_eq_some]
  have h1 := marksTo_get k (rs := L.map Prod.fst) (i := j) (by simpa using hj)
  have h2 : j < (marksTo k (L.map Prod.fst) j).length := by rw [marksTo_len k (by simp; omega)]; simpa using hj
  rw [List.getElem?_eq_getElem h2, List.getElem?_map, List.getElem?_eq_getElem hj] at h1
  rw [List.getElem?_eq_getElem h2, List.getElem?_map, List.getElem?_eq_getElem hj]
  exact ⟨by simpa using h1, rfl⟩
theorem zip_set1 {α β : Type} : ∀ (l : List α) (r : List β) (j : Nat) (a : α) (b : β), r[j]? = some b → (l.set j a).zip r = (l.zip r).set j (a, b)
  | [], r, j, a, b, h => by simp
  | x :: l, [], j, a, b, h => by simp at h
  | x :: l, y :: r, 0, a, b, h => by simp at h; subst h; rfl
  | x :: l, y :: r, j + 1, a, b, h => by
    have ih := zip_set1 l r j a b (by simpa using h)
    simp [ih]
theorem lnMk_succ (k : Int) {L : List Ln} {j : Nat} (hj : j < L.length) : lnMk k L (j + 1) = (lnMk k L j).set j (counted (k + tot ((L.map Prod.fst).take j)) L[j].1.length, L[j].2) := by
  have h1 := marksTo_succ k (rs := L.map Prod.fst) (i := j) (by simpa using hj)
  rw [List.getElem?_map, List.getElem?_eq_getElem hj] at h1
  have h1' : (marksTo k (L.map Prod.fst) j).set j (counted (k + tot ((L.map Prod.fst).take j)) L[j].1.length) = marksTo k (L.map Prod.fst) (j + 1) := h1
  unfold lnMk
  rw [← h1']
  exact zip_set1 _ _ _ _ _ (by rw [List.getElem?_map, List.getElem?_eq_getElem hj]; rfl)

/-- One row of lines is written anew, where it lies. -/
theorem LnRows.put {S R : Nat → Prop} {w w' : World} {v : Value} {L : List Ln} (h : LnRows S w v L) {j : Nat} {x : Ln} (hj : L[j]? = some x) (xs : List Int) (hx : lnHas (xs, x.2) w') (hu : Upd R w w') (hR : ∀ k, R k → lnOwn x k) : LnRows S w' v (L.set j (xs, x.2)) := by
  have hm : x ∈ L := List.mem_of_getElem? hj
  have hl : j < L.length := (List.getElem?_eq_some_iff.1 hj).1
  have hxj : L[j] = x := (List.getElem?_eq_some_iff.1 hj).2
  have hsnd : (L.set j (xs, x.2)).map Prod.snd = L.map Prod.snd := by
    refine List.ext_getElem? fun i => ?_
    rw [List.getElem?_map, List.getElem?_map, List.getElem?_set]
    split
    · rename_i e
      subst e
      first | rw [if_pos hl, hj] | rw [hj]
      rfl
    · rfl
  have hmem : ∀ y ∈ L.set j (xs, x.2), y = (xs, x.2) ∨ ∃ i, i ≠ j ∧ L[i]? = some y := fun y hy => by
    obtain ⟨i, hi, e⟩ := List.mem_iff_getElem.1 hy
    rw [List.getElem_set] at e
    split at e
    · exact .inl e.symm
    · rename_i hne
      rw [List.length_set] at hi
      exact .inr ⟨i, fun e2 => hne e2.symm, by rw [← e]; exact List.getElem?_eq_getElem hi⟩
  have hap : ∀ i y, i ≠ j → L[i]? = some y → ∀ k, lnOwn y k → ¬ lnOwn x k := fun i y hne hy k hk hk2 => by
    have hil := (List.getElem?_eq_some_iff.1 hy).1
    have hyi := (List.getElem?_eq_some_iff.1 hy).2
    have hp := List.pairwise_iff_getElem.1 h.pair
    rcases Nat.lt_or_gt_of_ne hne with h1 | h1
    · exact hp i j hil hl h1 k (by rw [hyi]; exact hk) (by rw [hxj]; exact hk2)
    · exact hp j i hl hil h1 k (by rw [hxj]; exact hk2) (by rw [hyi]; exact hk)
  refine ⟨?_, fun y hy => ?_, fun y hy k hk => ?_, ?_, h.inS.1, fun y hy k hk => ?_⟩
  · rw [List.length_set, hsnd]
    refine ⟨h.own.1, ?_⟩
    rcases h.own.2 with e | ⟨g, cap, cur, e, hg, hc, hrest⟩
    · exact .inl e
    · exact .inr ⟨g, cap, cur, e, hg, (hu.block g (Array.getElem?_eq_some_iff.1 hc).1 (fun hr => h.apart x hm g (hR g hr) (by rw [e]; rfl))).trans hc, hrest⟩
  · rcases hmem y hy with rfl | ⟨i, hne, hy⟩
    · exact hx
    · exact lnHas_keep (h.has y (List.mem_of_getElem? hy)) hu (fun k hk hr => hap i y hne hy k hk (hR k hr))
  · rcases hmem y hy with rfl | ⟨i, hne, hy⟩
    · exact h.apart x hm k hk
    · exact h.apart y (List.mem_of_getElem? hy) k hk
  · have hp := List.pairwise_iff_getElem.1 h.pair
    rw [List.pairwise_iff_getElem]
    intro a b ha hb hab k hk
    rw [List.length_set] at ha hb
    rw [List.getElem_set] at hk ⊢
    by_cases e1 : j = a
    · subst e1
      rw [if_pos rfl] at hk
      rw [if_neg (by omega)]
      exact hp j b ha hb hab k (by rw [hxj]; exact hk)
    · rw [if_neg e1] at hk
      by_cases e2 : j = b
      · subst e2
        rw [if_pos rfl]
        exact fun hk2 => hp a j ha hb hab k hk (by rw [hxj]; exact hk2)
      · rw [if_neg e2]
        exact hp a b ha hb hab k hk
  · rcases hmem y hy with rfl | ⟨i, hne, hy⟩
    · exact h.inS.2 x hm k hk
    · exact h.inS.2 y (List.mem_of_getElem? hy) k hk

set_option maxHeartbeats 1000000 in
theorem markIntS_cellsZ (b n c : Nat) (zs : List Int) (cur : Array Value) (k : Int) (w : World) (hA : w.heap[b]? = some (.cells cur 3 (0, 0))) (ht : cur.toList.take n = zs.map (Value.int .i64)) (hn : zs.length = n) (hbig : n ≤ 1048576) (hk0 : 0 ≤ k) (hk1 : k ≤ 1152921504606846976) :
    Calls Try.prog 18 #[.slice (some ⟨b, 0, none⟩) n c, .int .i64 k] w fun e w' => e = .returned (.int .i64 (k + n)) ∧ (∃ cur' : Array Value, w'.heap[b]? = some (.cells cur' 3 (0, 0)) ∧ cur'.toList.take n = (counted k n).map (Value.int .i64) ∧ cur'.size = cur.size) ∧ w.grownBy w' (some b) := by
  have hlen := Lib.hid hn
  clear hn
  go_enter Try.func18, Try.ntmps18
  go_wp2
  go_loopw [1, 5] (fun v i wr => ∃ j : Nat, j ≤ n ∧ i = .int .i64 j ∧ v = .int .i64 (k + j) ∧ (∃ cur' : Array Value, wr.heap[b]? = some (.cells cur' 3 (0, 0)) ∧ cur'.toList.take n = (markedTo zs k j).map (Value.int .i64) ∧ cur'.size = cur.size) ∧ w.grownBy wr (some b)) (fun _ i _ => n - (intOf i).toNat)
  case atStart => exact ⟨0, by omega, rfl, by go_num, ⟨cur, hA, ht, rfl⟩, World.grownBy.refl w _⟩
  case round =>
    obtain ⟨j, hj, rfl, rfl, ⟨cur', hc, hm, hsz⟩, hG⟩ := hrel
    rename World => wx
    have Hsz := Lib.hid hsz
    clear hsz
    by_cases hlt : j < n
    · have hl2 := markedTo_len (zs := zs) (k := k) (i := j) (by rw [hlen.out]; exact hj)
      have hcs : wx.cell? ⟨b, j, none⟩ = some (.int .i64 ((markedTo zs k j)[j]?.getD 0)) := by
        rw [cell_of_row _ b j _ _ (0, 0) hc, take_at hm hlt, List.getElem?_map, List.getElem?_eq_getElem (by rw [hl2, hlen.out]; exact hlt)]
        simp
      have hfs := frozen_of_row _ b j _ _ hc
      have Hms := Lib.hid (markedTo_succ (zs := zs) (k := k) (i := j) (by rw [hlen.out]; exact hlt))
      have Hm := Lib.hid hm
      clear hl2 hm
      go_wp2
      go_roundw
      case rel =>
        refine ⟨j + 1, by omega, by go_num, by rw [Int.natCast_add, ← Int.add_assoc]; rfl, ⟨cur'.setIfInBounds j (.int .i64 (k + (j : Int))), by simp [World.setCell, Array.getElem?_modify, hc], ?_, by rw [Array.size_setIfInBounds]; exact Hsz.out⟩, only_setCell hG (.inl rfl) _⟩
        rw [Array.toList_setIfInBounds, List.take_set, Hm.out, ← List.map_set, Hms.out]
      case measure => simp [intOf]; omega
    · obtain rfl : j = n := by omega
      go_wp2
      go_ret
      refine ⟨rfl, ⟨cur', hc, ?_, Hsz.out⟩, hG⟩
      rw [hm, markedTo, List.drop_eq_nil_of_le (by rw [hlen.out]; exact Nat.le_refl _), List.append_nil]

/-- Marks on one row of lines. -/
theorem markLn (x : Ln) (k : Int) (w : World) (h : lnHas x w) (hbig : x.1.length ≤ 1048576) (hk0 : 0 ≤ k) (hk1 : k ≤ 1152921504606846976) :
    Calls Try.prog 18 #[x.2, .int .i64 k] w fun e w' => e = .returned (.int .i64 (k + x.1.length)) ∧ lnHas (counted k x.1.length, x.2) w' ∧ Upd (lnOwn x) w w' := by
  have hl : x.1.length = x.1.length := rfl
  rcases h.2 with ⟨e, e2⟩ | ⟨g, cap, cur, e, hg, hc, h1, h2, h3, ht⟩
  · rw [e, e2]
    refine (markIntS_nil none 0 k w).mono ?_
    rintro e3 w' ⟨rfl, rfl⟩
    have : counted k 0 = [] := by simp [counted]
    exact ⟨ret_int (by simp), by rw [this]; exact World.ownsRow_nil _ _ _ _, Upd.refl _ _⟩
  · rw [e]
    refine (markIntS_cellsZ g x.1.length cap x.1 cur k w hc (by simpa using ht) rfl hbig hk0 hk1).mono ?_
    rintro e3 w' ⟨rfl, ⟨cur', hA', ht', hsz'⟩, hgr⟩
    have hcl : (counted k x.1.length).length = x.1.length := by simp [counted]
    refine ⟨rfl, ⟨by simp, .inr ⟨g, cap, cur', by rw [hcl], hg, hA', by rw [hcl]; exact h1, h2, by rw [hsz']; exact h3, by rw [hcl]; simpa using ht'⟩⟩, (Upd.refl _ _).grown hgr (fun j e5 => by cases e5; exact .inr (by unfold lnOwn; rw [e]; rfl))⟩

set_option maxHeartbeats 1000000 in
theorem markLnR (v : Value) (L : List Ln) (S : Nat → Prop) (k : Int) (w : World) (h : LnRows S w v L) (hbig : L.length ≤ 1048576) (ht : tot (L.map Prod.fst) ≤ 1048576) (hk0 : 0 ≤ k) (hk1 : k ≤ 1048576) :
    Calls Try.prog 29 #[v, .int .i64 k] w fun e w' => e = .returned (.int .i64 (k + tot (L.map Prod.fst))) ∧ (∃ L', LnRows S w' v L' ∧ L'.map Prod.fst = countedR k (L.map Prod.fst) ∧ L'.length = L.length) ∧ Upd S w w' := by
  obtain ⟨A, c, hv⟩ := h.slice
  obtain ⟨n, hn⟩ : ∃ n, L.length = n := ⟨_, rfl⟩
  have hlen := Lib.hid hn
  rw [hn] at hv hbig
  subst hv
  clear hn
  go_enter Try.func29, Try.ntmps29
  go_wp2
  go_loopw [1, 5] (fun v' i wr => ∃ j : Nat, j ≤ n ∧ i = .int .i64 j ∧ v' = .int .i64 (k + tot ((L.map Prod.fst).take j)) ∧ LnRows S wr (.slice A n c) (lnMk k L j) ∧ Upd S w wr) (fun _ i _ => n - (intOf i).toNat)
  case atStart => exact ⟨0, by omega, rfl, by simp [tot], by rw [lnMk_zero]; exact h, Upd.refl _ _⟩
  case round =>
    obtain ⟨j, hj, rfl, rfl, hR, hU⟩ := hrel
    by_cases hlt : j < n
    · have Hl := Lib.hid (show j < L.length by rw [hlen.out]; exact hlt)
      have hx := lnMk_at k Hl.out
      have hms := lnMk_succ k Hl.out
      have hge : (L.map Prod.fst)[j]?.getD [] = (L[j]'Hl.out).1 := by rw [List.getElem?_map, List.getElem?_eq_getElem Hl.out]; rfl
      generalize L[j]'Hl.out = x at hx hms hge
      obtain ⟨g, c', e, hg, hcell⟩ := hR.at_ hx
      cases e
      have hhas := hR.has _ (List.mem_of_getElem? hx)
      have hts := tot_take_succ (rs := L.map Prod.fst) (i := j) (by simpa using Hl.out)
      have hle := getD_le (rs := L.map Prod.fst) j
      have htl := tot_take_le (L.map Prod.fst) j
      rw [hge] at hts hle
      have hmk := markLn x (k + tot ((L.map Prod.fst).take j)) wr hhas (by omega) (by omega) (by omega)
      obtain ⟨A', c2, e2, hI⟩ := lnHas_slice hhas
      rw [e2] at hcell hmk
      have Hx := Lib.hid hx
      have Hms := Lib.hid hms
      have Hts := Lib.hid hts
      have HR := Lib.hid hR
      have He2 := Lib.hid e2
      clear hR hI hx hms hts hge e2 hhas
      have hxl : x.1.length ≤ 1048576 := by omega
      generalize hxn : x.1.length = q at *
      have Hxn := Lib.hid hxn
      clear hxn
      go_wp2_with fail
      refine hmk.mono ?_
      rintro e w1 ⟨rfl, hh1, hu1⟩
      have hR1 := HR.out.put Hx.out (counted (k + tot ((L.map Prod.fst).take j)) q) (by rw [He2.out]; exact hh1) hu1 (fun _ e => e)
      rw [← Hms.out] at hR1
      have hU1 : Upd S w w1 := hU.trans (hu1.mono fun i _ e => HR.out.inS.2 x (List.mem_of_getElem? Hx.out) i e)
      have HR1 := Lib.hid hR1
      clear hR1 hh1
      go_wp2
      go_roundw
      case rel => exact ⟨j + 1, by omega, by go_num, congrArg (Value.int .i64) (by rw [Hts.out]; omega), HR1.out, hU1⟩
      case measure => simp [intOf]; omega
    · obtain rfl : j = n := by omega
      have Htk := Lib.hid (show (L.map Prod.fst).take j = L.map Prod.fst by rw [List.take_of_length_le (by rw [List.length_map, hlen.out]; exact Nat.le_refl _)])
      have HR := Lib.hid hR
      clear hR
      go_wp2
      go_ret
      refine ⟨ret_int (by rw [Htk.out]), ⟨_, HR.out, ?_, by rw [lnMk_len k (by rw [hlen.out]; exact Nat.le_refl _)]⟩, hU⟩
      rw [lnMk_fst k (by rw [hlen.out]; exact Nat.le_refl _), marksTo, Htk.out, List.drop_eq_nil_of_le (by rw [List.length_map, hlen.out]; exact Nat.le_refl _), List.append_nil]
end Go.Proofs.Ytghogabmkbadjaa

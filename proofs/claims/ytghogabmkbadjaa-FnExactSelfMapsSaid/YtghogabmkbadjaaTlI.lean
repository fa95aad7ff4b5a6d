/- The program's lines: tellFrom. -/
import Derived.Test.YtghogabmkbadjaaTlM
import Derived.Test.YtghogabmkbadjaaGc
import Derived.Test.YtghogabmkbadjaaClI
import Derived.Test.YtghogabmkbadjaaLineI
import Derived.Stop.RegionWithIn
set_option linter.unusedVariables false
set_option linter.unusedSimpArgs false
namespace Go.Proofs.Ytghogabmkbadjaa
open Go.RowKit Go.Shelf
attribute [local go_sem] Oper.semAt_some
attribute [local go_sem, local simp] wide_fn

/-- A line, and the row in which it lies. -/
abbrev Ln := List Int × Value
def lnOwn (x : Ln) (k : Nat) : Prop := x.2.ownBlock = some k
def lnHas (x : Ln) (W : World) : Prop := W.ownsRow 0 3 1 x.2 x.1.length (x.1.map (Value.int .i64))
abbrev lnEnc (x : Ln) : Array Value := #[x.2]
def lnUp (zs : List Int) (xs : List Ln) : Prop := xs.map Prod.fst <+: alL zs
def lnFull (zs : List Int) (xs : List Ln) : Prop := xs.map Prod.fst = alL zs
theorem ln_firm : HasFirm lnOwn lnHas := by
  intro x W W' h hu
  refine ⟨h.1, ?_⟩
  rcases h.2 with e | ⟨g, cap, cur, e, hg, hc, hrest⟩
  · exact .inl e
  · exact .inr ⟨g, cap, cur, e, hg, (hu.block g (Array.getElem?_eq_some_iff.1 hc).1 (fun h2 => h2 (by unfold lnOwn; rw [e]; rfl))).trans hc, hrest⟩

/-- What a round of lines does: the yield's contract. -/
def LnYield (l B : Nat) (zs : List Int) (M : Nat → Prop) (J Jx : List Ln → (Nat → Prop) → World → Prop) : Prop :=
  ∀ pre x D W, J pre D W → B ≤ W.heap.size → lnUp zs (pre ++ [x]) → lnHas x W → (∀ k, lnOwn x k → B ≤ k ∧ k < W.heap.size ∧ ¬ D k) → ∀ m, YieldAt Fence.wide m Try.prog l (lnEnc x) W fun e W' =>
      (e = .returned (.bool true) ∧ ∃ D', J (pre ++ [x]) D' W' ∧ Upd (fun k => M k ∨ D k ∨ lnOwn x k) W W' ∧ ∀ k, D' k → (D k ∨ lnOwn x k) ∨ W.heap.size ≤ k ∧ k < W'.heap.size) ∨
      (e = .returned (.bool false) ∧ ∃ D', Jx (pre ++ [x]) D' W' ∧ Upd (fun k => M k ∨ D k ∨ lnOwn x k) W W' ∧ ∀ k, D' k → (D k ∨ lnOwn x k) ∨ W.heap.size ≤ k ∧ k < W'.heap.size)
/-- What tellFrom does. -/
def LnTold (zs : List Int) (M : Nat → Prop) (J Jx : List Ln → (Nat → Prop) → World → Prop) (k : Nat) (so : List Int) (s : Int) (v : Value) (pre : List Ln) (D : Nat → Prop) (w : World) (e : Ending) (W' : World) : Prop :=
  (e = .returned (.bool true) ∧ ∃ post D', post.map Prod.fst = alG zs k so s ∧ J (pre ++ post) D' W' ∧ Upd (fun j => M j ∨ D j ∨ v.ownBlock = some j) w W' ∧ (∀ j, D' j → D j ∨ w.heap.size ≤ j ∧ j < W'.heap.size) ∧ W'.ownsRow 0 3 1 v so.length (so.map (Value.int .i64))) ∨
  (e = .returned (.bool false) ∧ ∃ post D', lnUp zs (pre ++ post) ∧ Jx (pre ++ post) D' W' ∧ Upd (fun j => M j ∨ D j ∨ v.ownBlock = some j) w W' ∧ ∀ j, D' j → D j ∨ w.heap.size ≤ j ∧ j < W'.heap.size)

set_option maxRecDepth 100000 in
set_option maxHeartbeats 4000000 in
theorem tell_last (zs : List Int) (n b m l B : Nat) (M : Nat → Prop) (J Jx : List Ln → (Nat → Prop) → World → Prop) (hJ : Firm B J) (hJx : Firm B Jx) (hY : LnYield l B zs M J Jx)
    (so : List Int) (s : Int) (v : Value) (pre : List Ln) (D : Nat → Prop) (w : World) (hn : so.length ≤ 6) (hpre : pre.map Prod.fst ++ [so] <+: alL zs) (hO : w.ownsRow 0 3 1 v so.length (so.map (Value.int .i64)))
    (hj : J pre D w) (hB : B ≤ w.heap.size) (hD : ∀ j, D j → B ≤ j ∧ j < w.heap.size) (hMb : ∀ k, M k → k < B) (hOB : ∀ j, v.ownBlock = some j → B ≤ j ∧ ¬ D j) :
    Calls Try.prog 107 #[lineV b m n, v, .int .i64 0, .func (.yield l) #[] #[]] w (LnTold zs M J Jx 0 so s v pre D w) := by
  unfold lineV
  obtain ⟨A, c, rfl, -, -⟩ := ints_of_own_at hO
  refine (callsIn_wide (n := 9)).1 ?_
  refine callsIn_of_wp Try.func107 rfl trivial ?_ rfl
  simp only [Try.ntmps107, List.size_toArray, List.length_cons, List.length_nil, Nat.reduceAdd, Nat.reduceSub, Array.replicate_succ, Array.replicate_zero, List.push_toArray, List.append_toArray, List.nil_append, List.cons_append]
  gi_wp2
  obtain ⟨W0, hW0⟩ : ∃ W0, (((((w.alloc (Obj.cells #[Value.slice (some { block := b, off := 0 }) n n, Value.map (some m)] 68)).alloc (Obj.cells #[.slice A so.length c] 22)).alloc (Obj.cells #[Value.int IntKind.i64 0] 59)).alloc (Obj.cells #[Value.func (Fn.yield l) #[] #[]] 28)).alloc (Obj.cells #[Value.bool false] 4)) = W0 := ⟨_, rfl⟩
  have hz0 : W0.heap.size = w.heap.size + 5 := by rw [← hW0]; simp
  have hu0 : Upd (fun _ => False) w W0 := by rw [← hW0]; exact (((((Upd.refl _ w).alloc _).alloc _).alloc _).alloc _).alloc _
  have bLn : Boxed W0 (w.heap.size + 1) 22 (.slice A so.length c) := by
    rw [← hW0]
    have := (((Boxed.new (w.alloc (Obj.cells #[Value.slice (some { block := b, off := 0 }) n n, Value.map (some m)] 68)) 22 (.slice A so.length c)).alloc (Obj.cells #[Value.int IntKind.i64 0] 59)).alloc (Obj.cells #[Value.func (Fn.yield l) #[] #[]] 28)).alloc (Obj.cells #[Value.bool false] 4)
    simpa only [World.size_alloc] using this
  have bTl : Boxed W0 (w.heap.size + 1 + 1 + 1) 28 (.func (.yield l) #[] #[]) := by
    rw [← hW0]
    have := (Boxed.new (((w.alloc (Obj.cells #[Value.slice (some { block := b, off := 0 }) n n, Value.map (some m)] 68)).alloc (Obj.cells #[.slice A so.length c] 22)).alloc (Obj.cells #[Value.int IntKind.i64 0] 59)) 28 (Value.func (Fn.yield l) #[] #[])).alloc (Obj.cells #[Value.bool false] 4)
    simpa only [World.size_alloc] using this
  have bRs : Boxed W0 (w.heap.size + 1 + 1 + 1 + 1) 4 (.bool false) := by
    rw [← hW0]
    have := Boxed.new ((((w.alloc (Obj.cells #[Value.slice (some { block := b, off := 0 }) n n, Value.map (some m)] 68)).alloc (Obj.cells #[.slice A so.length c] 22)).alloc (Obj.cells #[Value.int IntKind.i64 0] 59)).alloc (Obj.cells #[Value.func (Fn.yield l) #[] #[]] 28)) 4 (Value.bool false)
    simpa only [World.size_alloc] using this
  rw [hW0]
  clear hW0
  have hcL : W0.drew.cell? ⟨w.heap.size + 1, 0, none⟩ = some (.slice A so.length c) := bLn.cell
  have hcT : W0.drew.cell? ⟨w.heap.size + 1 + 1 + 1, 0, none⟩ = some (.func (.yield l) #[] #[]) := bTl.cell
  have bTd : Boxed W0.drew (w.heap.size + 1 + 1 + 1) 28 (.func (.yield l) #[] #[]) := bTl
  have bRd : Boxed W0.drew (w.heap.size + 1 + 1 + 1 + 1) 4 (.bool false) := bRs
  have hud : Upd (fun _ => False) w W0.drew := hu0.drew
  have hzd : w.heap.size < W0.drew.heap.size := by show _ < W0.heap.size; omega
  have hzl := bRs.lt
  have hOd : W0.drew.ownsRow 0 3 1 (.slice A so.length c) so.length (so.map (Value.int .i64)) :=
    (OwnS.keep (S := fun _ => True) (R := fun _ => False) ⟨fun _ _ => trivial, hO⟩ hud (fun _ _ e => e)).2
  have hjd : J pre D W0.drew := hJ _ _ _ _ hj (hud.mono fun _ _ e => e.elim)
  have H2 : ∀ (v2 : Value) (W2 : World), OwnS (fun k => W0.drew.heap.size ≤ k) W2 W0.drew.heap.size 3 v2 so → Below W0.drew.heap.size W0.drew W2 →
      Boxed W2 (w.heap.size + 1 + 1 + 1) 28 (.func (.yield l) #[] #[]) ∧ ∃ fn tmps assign body, (Instr.yield l #[v2]).run Try.prog W2 = .ok (.round l fn tmps assign body) W2 ∧
      RoundIn Fence.wide 8 Try.prog l fn tmps assign body W2 (fun e W3 => ∃ r : Bool, e = .returned (.bool r) ∧ Boxed W3 (w.heap.size + 1 + 1 + 1 + 1) 4 (.bool false) ∧ Upd (fun j => M j ∨ D j) w W3 ∧ ∃ D', ((r = true ∧ J (pre ++ [(so, v2)]) D' W3) ∨ (r = false ∧ Jx (pre ++ [(so, v2)]) D' W3)) ∧ ∀ j, D' j → D j ∨ W0.drew.heap.size ≤ j ∧ j < W3.heap.size) := by
    intro v2 W2 hO2 hB2
    have hz2 := hB2.size
    have hu2 : Upd (fun _ => False) W0.drew W2 := (Upd.refl _ _).below hB2 (fun k h1 h2 => by omega)
    have hlt2 := own_lt' hO2.2
    refine ⟨hu2.boxed bTd (fun e => e), ?_⟩
    obtain ⟨fn, tmps, assign, body, hy, hR⟩ := hY pre (so, v2) D W2 (hJ _ _ _ _ hjd (hu2.mono fun _ _ e => e.elim)) (by omega) (by unfold lnUp; rw [List.map_append]; exact hpre) (own_sooner hO2.2 (by omega)) (fun k hk => ⟨by have := hO2.1 k hk; omega, hlt2 k hk, fun e => by have := hD k e; have := hO2.1 k hk; omega⟩) 8
    refine ⟨fn, tmps, assign, body, hy, hR.mono ?_⟩
    have key : ∀ W3 (D' : Nat → Prop), Upd (fun k => M k ∨ D k ∨ lnOwn (so, v2) k) W2 W3 → (∀ k, D' k → (D k ∨ lnOwn (so, v2) k) ∨ W2.heap.size ≤ k ∧ k < W3.heap.size) →
        Boxed W3 (w.heap.size + 1 + 1 + 1 + 1) 4 (.bool false) ∧ Upd (fun j => M j ∨ D j) w W3 ∧ ∀ j, D' j → D j ∨ W0.drew.heap.size ≤ j ∧ j < W3.heap.size := by
      intro W3 D' hu3 hD3
      have hz3 := hu3.size
      have hzq : W0.drew.heap.size = W0.heap.size := rfl
      refine ⟨hu3.boxed (hu2.boxed bRd (fun e => e)) (fun e => ?_), ?_, fun j hj3 => ?_⟩
      · rcases e with e | e | e
        · have := hMb _ e; omega
        · have := hD _ e; omega
        · have := hO2.1 _ e; omega
      · refine (((hud.trans hu2).mono fun _ _ e => e.elim).trans' hu3 (fun i hi e => ?_))
        rcases e with e | e | e
        · exact .inl e
        · exact .inr e
        · have := hO2.1 _ e; omega
      · rcases hD3 j hj3 with (e | e) | e
        · exact .inl e
        · have h1 := hO2.1 _ e
          have h2 := hlt2 _ e
          exact .inr ⟨by omega, by omega⟩
        · exact .inr ⟨by omega, by omega⟩
    rintro e W3 (⟨rfl, D', hj3, hu3, hD3⟩ | ⟨rfl, D', hj3, hu3, hD3⟩)
    · obtain ⟨k1, k2, k3⟩ := key W3 D' hu3 hD3
      exact ⟨true, rfl, k1, k2, D', .inl ⟨rfl, hj3⟩, k3⟩
    · obtain ⟨k1, k2, k3⟩ := key W3 D' hu3 hD3
      exact ⟨false, rfl, k1, k2, D', .inr ⟨rfl, hj3⟩, k3⟩
  have HH := Lib.hid H2
  have hlt0 := own_lt' hO
  have fin : ∀ (v2 : Value) (r : Bool) (W3 : World), Boxed W3 (w.heap.size + 1 + 1 + 1 + 1) 4 (.bool false) → Upd (fun j => M j ∨ D j) w W3 → (∃ D', ((r = true ∧ J (pre ++ [(so, v2)]) D' W3) ∨ (r = false ∧ Jx (pre ++ [(so, v2)]) D' W3)) ∧ ∀ j, D' j → D j ∨ W0.drew.heap.size ≤ j ∧ j < W3.heap.size) →
      LnTold zs M J Jx 0 so s (.slice A so.length c) pre D w (.returned (.bool r)) (W3.setCell ⟨w.heap.size + 1 + 1 + 1 + 1, 0, none⟩ (.bool r)) := by
    rintro v2 r W3 bR3 hu3 ⟨D', hj3, hD3⟩
    have hzq : W0.drew.heap.size = W0.heap.size := rfl
    have hus : Upd (fun k => k = w.heap.size + 1 + 1 + 1 + 1) W3 (W3.setCell ⟨w.heap.size + 1 + 1 + 1 + 1, 0, none⟩ (.bool r)) := (Upd.refl (fun k => k = w.heap.size + 1 + 1 + 1 + 1) W3).setCell (p := ⟨w.heap.size + 1 + 1 + 1 + 1, 0, none⟩) (.inr rfl) _
    have hz4 := hus.size
    have hnD : ¬ D' (w.heap.size + 1 + 1 + 1 + 1) := fun e => by
      rcases hD3 _ e with e | e
      · have := hD _ e; omega
      · omega
    have hu4 : Upd (fun j => M j ∨ D j) w (W3.setCell ⟨w.heap.size + 1 + 1 + 1 + 1, 0, none⟩ (.bool r)) := hu3.trans' hus (fun i hi e => by omega)
    have hD4 : ∀ j, D' j → D j ∨ w.heap.size ≤ j ∧ j < (W3.setCell ⟨w.heap.size + 1 + 1 + 1 + 1, 0, none⟩ (.bool r)).heap.size := fun j e => (hD3 j e).elim .inl (fun e => .inr ⟨by omega, by omega⟩)
    have hu5 : Upd (fun j => M j ∨ D j ∨ (Value.slice A so.length c).ownBlock = some j) w (W3.setCell ⟨w.heap.size + 1 + 1 + 1 + 1, 0, none⟩ (.bool r)) := hu4.mono fun k _ e => e.elim .inl (fun e => .inr (.inl e))
    rcases hj3 with ⟨rfl, hj3⟩ | ⟨rfl, hj3⟩
    · refine .inl ⟨rfl, [(so, v2)], D', rfl, hJ _ _ _ _ hj3 (hus.mono fun k _ e => ⟨by omega, fun e2 => hnD (by rw [← e]; exact e2)⟩), hu5, hD4, ?_⟩
      exact (OwnS.keep (S := fun k => (Value.slice A so.length c).ownBlock = some k) ⟨fun _ h => h, hO⟩ hu4 (fun k hk e => by
        have h1 := hOB k hk
        rcases e with e | e
        · have := hMb _ e; omega
        · exact h1.2 e)).2
    · exact .inr ⟨rfl, [(so, v2)], D', by unfold lnUp; rw [List.map_append]; exact hpre, hJx _ _ _ _ hj3 (hus.mono fun k _ e => ⟨by omega, fun e2 => hnD (by rw [← e]; exact e2)⟩), hu5, hD4⟩
  have Hf := Lib.hid fin
  clear fin H2 hjd hj hu0 hO bLn bTl bRs
  gi_region_with (first
    | (gi_at_call 108; refine (callsIn_wide.2 (cloneI_own 0 _ so so.length _ hOd hn)).mono ?_; rintro e W2 ⟨v2, rfl, hO2, hB2⟩; obtain ⟨bT2, fn, tmps, assign, body, hy, hR⟩ := HH.out v2 W2 hO2 hB2; have hcT2 := bT2.cell)
    | (refine hR.mono ?_; rintro e W3 ⟨r, rfl, bR3, hu3, hEx⟩; have hcR3 := bR3.cell; have hfR3 := bR3.frozen; have HEx := Lib.hid hEx; clear hEx))
  all_goals
    gi_wp2
    have hc4 := (bR3.set (.bool r)).cell
    refine bodyPost_ret (v := .bool r) (by simp [results, Try.f107, go_sem, hc4]) rfl ?_
    exact Hf.out _ r W3 bR3 hu3 HEx.out
end Go.Proofs.Ytghogabmkbadjaa

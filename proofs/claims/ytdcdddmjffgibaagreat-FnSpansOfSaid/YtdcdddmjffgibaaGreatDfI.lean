/- slices.AppendSeq, Collect over an iterator of sets; slices.Sorted; the different sets of a list: the program's. -/
import Derived.Test.YtdcdddmjffgibaaGreatVaI
import Derived.Test.YtdcdddmjffgibaaGreatGc
import Derived.Test.YtdcdddmjffgibaaGreatShl
import Derived.Test.YtdcdddmjffgibaaGreatIdls
set_option linter.unusedVariables false
set_option linter.unusedSimpArgs false
namespace Go.Proofs.YtdcdddmjffgibaaGreat
open Go.RowKit Go.Shelf
attribute [local go_sem] Oper.semAt_some
attribute [local go_sem, local simp] wide_fn

def castL (l : List Nat) : List Int := l.map fun x : Nat => (x : Int)
theorem castL_snoc (l : List Nat) (x : Nat) : castL (l ++ [x]) = castL l ++ [(x : Int)] := by simp [castL]
theorem castL_len (l : List Nat) : (castL l).length = l.length := by simp [castL]

set_option maxRecDepth 100000 in
set_option maxHeartbeats 4000000 in
theorem appendSeq_any {gf : Nat} (lb : Array Value) (L : List Nat) (hL : L.length ≤ 64) (w : World)
    (eg : ∀ args w, (callFunc gf args).run Tryz.prog w = .ok (.enter gf args) w)
    (hI : ∀ (W1 : World) (M' : Nat → Prop), Upd (fun _ => False) w W1 → (∀ k, M' k → w.heap.size ≤ k) → Iter Tryz.prog gf lb encS L M' W1) :
    Calls Tryz.prog 84 #[.slice none 0 0, .func (.func gf) #[] lb] w fun e W' => ∃ v, e = .returned v ∧ OwnS (fun k => w.heap.size ≤ k) W' w.heap.size 59 v (castL L) ∧ Below w.heap.size w W' := by
  refine (callsIn_wide (n := 9)).1 ?_
  refine callsIn_of_wp_marks Tryz.func84 rfl trivial ?_ rfl
  simp only [Tryz.ntmps84, List.size_toArray, List.length_cons, List.length_nil, Nat.reduceAdd, Nat.reduceSub, Array.replicate_succ, Array.replicate_zero, List.push_toArray, List.append_toArray, List.nil_append, List.cons_append]
  obtain ⟨i0, hi0, hz0, hz1, hz2⟩ := info_parts infoItems
  have bV := Boxed.new w 39 (.slice none 0 0)
  have hu0 : Upd (fun _ => False) w (w.alloc (.cells #[Value.slice none 0 0] 39)) := (Upd.refl _ w).alloc _
  have hzz : (w.alloc (.cells #[Value.slice none 0 0] 39)).heap.size = w.heap.size + 1 := by simp
  gi_wp2_with fail
  obtain ⟨W0, hW0⟩ : ∃ W0, (w.alloc (.cells #[Value.slice none 0 0] 39)) = W0 := ⟨_, rfl⟩
  rw [hW0] at bV hu0 hzz ⊢
  clear hW0
  refine range_out (n := 9) (gf := gf) (lb := lb) rfl eg (encs := encS) (L := L)
    (fun k => k = w.heap.size) (fun k e => by omega) (fun _ => rfl)
    (fun W1 l1 hu1 hl1 hl2 => hI W1 _ (hu0.trans' hu1 (fun i hi e => e)) (fun k e => by omega))
    (fun pre D W => ∃ v, Boxed W w.heap.size 39 v ∧ OwnS D W w.heap.size 59 v (castL pre) ∧ Upd (fun k => k = w.heap.size) W0 W)
    (fun _ _ _ _ => False)
    (fun _ D X Y hs hu => by
      obtain ⟨v, h1, h2, h3⟩ := hs
      exact ⟨v, hu.boxed h1 (fun e => by omega), h2.keep hu (fun k hk e => e.2 hk), h3.trans' hu (fun i hi e => by omega)⟩)
    (fun _ _ _ _ _ hs _ => hs)
    ⟨_, bV, OwnS.none _ _ _ _, Upd.refl _ _⟩ ?owes ?done ?stop
  case owes =>
    rintro l1 pre x D1 W hl1 hl2 hDl hD1 - hpre K hK
    gi_wp2
    refine hK _ _ (Upd.refl _ _) ?_
    rintro Wb hWb - ⟨v, bV2, hO2, hU2⟩
    clear hK
    have hsb := hU2.size
    have hszb := hWb.size
    have hpl : pre.length < 64 := by have := hpre.length_le; simp at this; omega
    have hsl : (castL pre).length < 64 := by rw [castL_len]; exact hpl
    clear hpl
    have Hs := Lib.hid (castL_snoc pre x)
    have hV2 : Upd (fun k => k = w.heap.size ∨ D1 k ∨ W.heap.size ≤ k) Wb Wb := Upd.refl _ _
    have hcV := bV2.cell
    have hfV := bV2.frozen
    have hvb : some w.heap.size ≠ v.ownBlock := by
      intro e
      have := hD1 _ (hO2.1 _ e.symm); omega
    generalize hxs : castL pre = xs at *
    clear hxs
    gi_wp2_with (gi_at_builtin; go_loud (refine wpListIn_append1 _ rfl (.tmp 8) (.tmp 10) _ rfl w.heap.size 59 i0 _ 8 Tryz.underlying39 hi0 hz0 hz1 hz2 rfl _ xs.length _ rfl (hO2.2.alloc _) Wb.heap.size 1 (.int .i64 x) rfl (cell_new _ _ _) rfl (by omega) (by omega) (by simp; omega) ?_); rintro v' w' hown' hg' hv'; obtain ⟨g', cap', rfl⟩ := ownsRow_succ hown'; have bV3 := (bV2.alloc _).kept hg' hvb; have hcV3 := bV3.cell; have hfV3 := bV3.frozen)
    rename_i w'
    have zg := hg'.size
    simp at zg
    have hst := hO2.step (S' := fun k => D1 k ∨ W.heap.size ≤ k ∧ k < w'.heap.size) hown' hv' (fun k e => .inl e) (fun h9 => .inr ⟨by omega, h9⟩)
    have hgU : Upd (fun k => k = w.heap.size) W0 w' := (hU2.alloc _).grown hg' (fun k hk => .inl (by have := hD1 _ (hO2.1 k hk); omega))
    have hbU : Upd (fun k => k = w.heap.size ∨ D1 k ∨ W.heap.size ≤ k) Wb w' := (hV2.alloc _).grown hg' (fun k hk => .inr (.inr (.inl (hO2.1 k hk))))
    have hus : Upd (fun k => k = w.heap.size) w' (w'.setCell ⟨w.heap.size, 0, none⟩ (.slice (some ⟨g', 0, none⟩) (xs.length + 1) cap')) := (Upd.refl (fun k => k = w.heap.size) w').setCell (p := ⟨w.heap.size, 0, none⟩) (.inr rfl) _
    exact ⟨fun k => D1 k ∨ W.heap.size ≤ k ∧ k < w'.heap.size, ⟨_, bV3.set _, by rw [Hs.out]; exact hst.keep hus (fun k hk e => by
        rcases hk with h9 | h9
        · have := hD1 _ h9; omega
        · omega), hgU.setCell (p := ⟨w.heap.size, 0, none⟩) (.inr rfl) _⟩,
      hbU.setCell (p := ⟨w.heap.size, 0, none⟩) (.inr (.inl rfl)) _, fun k hk => hk.elim .inl (fun h => .inr ⟨h.1, by simpa [World.setCell] using h.2⟩)⟩
  case done =>
    rintro d D1 W hd ⟨v, bV1, hO, hU⟩ hD1 hKd
    have hcV := bV1.cell
    gi_wp2
    refine leaves_marks [d] _ ⟨by simp, fun b hb => ?_⟩ (fun W' hu' => ?_)
    · rw [List.mem_singleton.1 hb]
      exact hKd
    · have hO' := hO.keep hu' (fun k hk e => by simp at e; have := hD1 k hk; omega)
      exact ⟨_, by simp [results, Tryz.f84, go_sem], v, rfl, ⟨fun k hk => by have := hD1 k (hO'.1 k hk); omega, hO'.2⟩,
        (((hu0.mono fun _ _ e => e.elim).trans' hU (fun i hi e => by omega)).trans' hu' (fun i hi e => by simp at e; omega)).toBelow (R := fun _ => False) (fun _ e => e.elim) (Nat.le_refl _)⟩
  case stop =>
    rintro d D1 co pre W hd hpre h
    exact h.elim

theorem collect_any {gf : Nat} (lb : Array Value) (L : List Nat) (hL : L.length ≤ 64) (w : World)
    (eg : ∀ args w, (callFunc gf args).run Tryz.prog w = .ok (.enter gf args) w)
    (hI : ∀ (W1 : World) (M' : Nat → Prop), Upd (fun _ => False) w W1 → (∀ k, M' k → w.heap.size ≤ k) → Iter Tryz.prog gf lb encS L M' W1) :
    Calls Tryz.prog 72 #[.func (.func gf) #[] lb] w fun e W' => ∃ v, e = .returned v ∧ OwnS (fun k => w.heap.size ≤ k) W' w.heap.size 59 v (castL L) ∧ Below w.heap.size w W' := by
  go_enter Tryz.func72, Tryz.ntmps72
  go_wp2_with fail
  refine (appendSeq_any lb L hL w eg hI).mono ?_
  rintro e w' ⟨v, rfl, hO, hB⟩
  go_wp2
  go_ret
  exact ⟨v, rfl, hO, hB⟩

/-! slices.Sort and Compact, by the shelf's contracts, over a row of the call's own. -/
theorem putRow_upd (w : World) (g off : Nat) (d : Array Int) : Upd (fun k => k = g) w (Sort.putRow (Value.int .i64) w g off d) := by
  refine ⟨rfl, rfl, rfl, by simp [Sort.putRow, Sort.mapBlock], fun k hk hr => ?_⟩
  simp only [Sort.putRow, Sort.mapBlock, Array.getElem?_modify]
  rw [if_neg (fun e => hr e.symm)]
theorem ahead_upd (w : World) (n : Nat) : Upd (fun _ => False) w (Sort.ahead w n) := by
  first | exact (Upd.refl _ w).drewN n | (unfold Sort.ahead; exact (Upd.refl _ w).drewN n)
theorem grow_upd (w : World) (os : Array Obj) : Upd (fun _ => False) w (Sort.grow w os) := by
  refine ⟨rfl, rfl, rfl, by simp [Sort.grow], fun k hk _ => ?_⟩
  simp only [Sort.grow]
  exact Array.getElem?_append_left hk
theorem holds_of_cells {w : World} {g : Nat} {xs : List Int} (hc : ∀ j, j < xs.length → w.cell? ⟨g, j, none⟩ = some (.int .i64 (xs[j]?.getD 0))) (hf : ∀ j, w.frozen? ⟨g, j, none⟩ = false) : Sort.Holds (Value.int .i64) w g 0 xs.toArray := by
  intro j hj
  have hj' : j < xs.length := by simpa using hj
  refine ⟨?_, by rw [Nat.zero_add]; exact hf j⟩
  rw [Nat.zero_add, hc j hj', List.getElem?_eq_getElem hj']
  simp [hj']
/-- The different sets of a list, ascending. -/
def difA (zs : List Int) : List Int := Lib.compact (zs.mergeSort fun x y => decide (x ≤ y))
end Go.Proofs.YtdcdddmjffgibaaGreat

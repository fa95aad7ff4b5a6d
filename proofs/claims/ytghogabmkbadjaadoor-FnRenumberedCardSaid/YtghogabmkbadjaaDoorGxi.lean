/- Texts that several claims share, one behind the other. -/
import Derived.Test.YtghogabmkbadjaaDoorGxf
import Derived.Test.YtghogabmkbadjaaDoorGc
import Derived.Test.YtghogabmkbadjaaDoorLineI
import Derived.Stop.RegionWithIn
set_option linter.unusedVariables false
set_option linter.unusedSimpArgs false
/- The program's lines: tellFrom. -/
namespace Go.Proofs.YtghogabmkbadjaaDoor
open Go.RowKit Go.Shelf
attribute [local go_sem] Oper.semAt_some
attribute [local go_sem, local simp] wide_fn

/-- A line, and the row in which it lies. -/
abbrev Ln := List Int × Value
def lnOwn (x : Ln) (k : Nat) : Prop := x.2.ownBlock = some k
def lnHas (x : Ln) (W : World) : Prop := W.ownsRow 0 3 1 x.2 x.1.length (x.1.map (Value.int .i64))
abbrev lnEnc (x : Ln) : Array Value := #[x.2]
def lnUp (zs : List Int) (xs : List Ln) : Prop := xs.map Prod.fst <+: alL zs
def lnFull (zs : List Int) (xs : List Ln) : Prop := xs.map Prod.fst = alL zs
theorem ln_firm : HasFirm lnOwn lnHas := by
  intro x W W' h hu
  refine ⟨h.1, ?_⟩
  rcases h.2 with e | ⟨g, cap, cur, e, hg, hc, hrest⟩
  · exact .inl e
  · exact .inr ⟨g, cap, cur, e, hg, (hu.block g (Array.getElem?_eq_some_iff.1 hc).1 (fun h2 => h2 (by unfold lnOwn; rw [e]; rfl))).trans hc, hrest⟩

/-- What a round of lines does: the yield's contract. -/
def LnYield (l B : Nat) (zs : List Int) (M : Nat → Prop) (J Jx : List Ln → (Nat → Prop) → World → Prop) : Prop :=
  ∀ pre x D W, J pre D W → B ≤ W.heap.size → lnUp zs (pre ++ [x]) → lnHas x W → (∀ k, lnOwn x k → B ≤ k ∧ k < W.heap.size ∧ ¬ D k) → ∀ m, YieldAt Fence.wide m Tryd.prog l (lnEnc x) W fun e W' =>
      (e = .returned (.bool true) ∧ ∃ D', J (pre ++ [x]) D' W' ∧ Upd (fun k => M k ∨ D k ∨ lnOwn x k) W W' ∧ ∀ k, D' k → (D k ∨ lnOwn x k) ∨ W.heap.size ≤ k ∧ k < W'.heap.size) ∨
      (e = .returned (.bool false) ∧ ∃ D', Jx (pre ++ [x]) D' W' ∧ Upd (fun k => M k ∨ D k ∨ lnOwn x k) W W' ∧ ∀ k, D' k → (D k ∨ lnOwn x k) ∨ W.heap.size ≤ k ∧ k < W'.heap.size)
/-- What tellFrom does. -/
def LnTold (zs : List Int) (M : Nat → Prop) (J Jx : List Ln → (Nat → Prop) → World → Prop) (k : Nat) (so : List Int) (s : Int) (v : Value) (pre : List Ln) (D : Nat → Prop) (w : World) (e : Ending) (W' : World) : Prop :=
  (e = .returned (.bool true) ∧ ∃ post D', post.map Prod.fst = alG zs k so s ∧ J (pre ++ post) D' W' ∧ Upd (fun j => M j ∨ D j ∨ v.ownBlock = some j) w W' ∧ (∀ j, D' j → D j ∨ w.heap.size ≤ j ∧ j < W'.heap.size) ∧ W'.ownsRow 0 3 1 v so.length (so.map (Value.int .i64))) ∨
  (e = .returned (.bool false) ∧ ∃ post D', lnUp zs (pre ++ post) ∧ Jx (pre ++ post) D' W' ∧ Upd (fun j => M j ∨ D j ∨ v.ownBlock = some j) w W' ∧ ∀ j, D' j → D j ∨ w.heap.size ≤ j ∧ j < W'.heap.size)

end Go.Proofs.YtghogabmkbadjaaDoor

/- Rows of lines under way: each row in a block of its own; how they are kept, grow, are read and marked. -/
namespace Go.Proofs.YtghogabmkbadjaaDoor
open Go.RowKit

/-- A slice of lines under way: the rows lie in blocks of their own, named by S. -/
structure LnRows (S : Nat → Prop) (w : World) (v : Value) (L : List Ln) : Prop where
  own : w.ownsRow 0 23 1 v L.length (L.map Prod.snd)
  has : ∀ x ∈ L, lnHas x w
  apart : ∀ x ∈ L, ∀ k, lnOwn x k → v.ownBlock ≠ some k
  pair : L.Pairwise fun x y => ∀ k, lnOwn x k → ¬ lnOwn y k
  inS : (∀ k, v.ownBlock = some k → S k) ∧ ∀ x ∈ L, ∀ k, lnOwn x k → S k
section
variable {S S' R : Nat → Prop} {w w' : World} {v v' : Value} {L : List Ln}
theorem lnHas_keep {x : Ln} (h : lnHas x w) (hu : Upd R w w') (hr : ∀ k, lnOwn x k → ¬ R k) : lnHas x w' := ln_firm x w w' h (hu.mono fun k _ e e2 => hr k e2 e)
theorem LnRows.nil (S : Nat → Prop) (w : World) : LnRows S w (.slice none 0 0) [] := ⟨World.ownsRow_nil _ _ _ _, fun _ h => by simp at h, fun _ h => by simp at h, List.Pairwise.nil, fun k h => by simp [Value.ownBlock] at h, fun _ h => by simp at h⟩
theorem LnRows.keep (h : LnRows S w v L) (hu : Upd R w w') (hS : ∀ k, S k → ¬ R k) : LnRows S w' v L := by
  refine ⟨⟨h.own.1, ?_⟩, fun x hx => lnHas_keep (h.has x hx) hu (fun k hk => hS k (h.inS.2 x hx k hk)), h.apart, h.pair, h.inS⟩
  rcases h.own.2 with e | ⟨g, cap, cur, e, hg, hc, hrest⟩
  · exact .inl e
  · exact .inr ⟨g, cap, cur, e, hg, (hu.block g (Array.getElem?_eq_some_iff.1 hc).1 (hS g (h.inS.1 g (by rw [e]; rfl)))).trans hc, hrest⟩
theorem LnRows.more (h : LnRows S w v L) (hS : ∀ k, S k → S' k) : LnRows S' w v L := ⟨h.own, h.has, h.apart, h.pair, fun k e => hS k (h.inS.1 k e), fun x hx k e => hS k (h.inS.2 x hx k e)⟩
theorem LnRows.lt (h : LnRows S w v L) : (∀ k, v.ownBlock = some k → k < w.heap.size) ∧ ∀ x ∈ L, ∀ k, lnOwn x k → k < w.heap.size :=
  ⟨fun k e => own_lt' h.own k e, fun x hx k e => own_lt' (h.has x hx) k e⟩
/-- One line more. -/
theorem LnRows.step {x : Ln} {o : Obj} (h : LnRows S w v L) (hx : lnHas x w) (hxS : ∀ k, lnOwn x k → ¬ S k) (hown : w'.ownsRow 0 23 1 v' (L.length + 1) (L.map Prod.snd ++ [x.2])) (hg : (w.alloc o).grownBy w' v.ownBlock) (hv : v'.ownBlock = v.ownBlock ∨ v'.ownBlock = some (w.alloc o).heap.size)
    (hS : ∀ k, S k → S' k) (hS1 : ∀ k, lnOwn x k → S' k) (hS2 : w.heap.size + 1 < w'.heap.size → S' (w.heap.size + 1)) : LnRows S' w' v' (L ++ [x]) := by
  have hxl : ∀ k, lnOwn x k → k < w.heap.size := fun k e => own_lt' hx k e
  have hL := h.lt
  have hu : Upd (fun k => v.ownBlock = some k) w w' := ((Upd.refl _ w).alloc o).grown hg (fun k e => .inr e)
  have hn : ∀ k, v'.ownBlock = some k → (v.ownBlock = some k) ∨ k = w.heap.size + 1 := fun k e => by
    rcases hv with e2 | e2
    · exact .inl (e2 ▸ e)
    · rw [e2, World.size_alloc] at e; injection e with e; exact .inr e.symm
  refine ⟨by rw [List.length_append, List.map_append]; exact hown, fun y hy => ?_, fun y hy k hk e => ?_, ?_, fun k e => ?_, fun y hy k hk => ?_⟩
  · rcases List.mem_append.1 hy with hy | hy
    · exact lnHas_keep (h.has y hy) hu (fun k hk e => h.apart y hy k hk e)
    · rw [List.mem_singleton.1 hy]
      exact lnHas_keep hx hu (fun k hk e => hxS k hk (h.inS.1 k e))
  · rcases hn k e with e2 | e2
    · rcases List.mem_append.1 hy with hy | hy
      · exact h.apart y hy k hk e2
      · rw [List.mem_singleton.1 hy] at hk; exact hxS k hk (h.inS.1 k e2)
    · rcases List.mem_append.1 hy with hy | hy
      · have := hL.2 y hy k hk; omega
      · rw [List.mem_singleton.1 hy] at hk; have := hxl k hk; omega
  · rw [List.pairwise_append]
    refine ⟨h.pair, List.pairwise_singleton _ _, fun y hy z hz k hk hk2 => ?_⟩
    rw [List.mem_singleton.1 hz] at hk2
    exact hxS k hk2 (h.inS.2 y hy k hk)
  · rcases hn k e with e2 | rfl
    · exact hS k (h.inS.1 k e2)
    · exact hS2 (own_lt' hown _ e)
  · rcases List.mem_append.1 hy with hy | hy
    · exact hS k (h.inS.2 y hy k hk)
    · rw [List.mem_singleton.1 hy] at hk; exact hS1 k hk
/-- How a row of lines is found. -/
theorem LnRows.at_ (h : LnRows S w v L) {j : Nat} {x : Ln} (hj : L[j]? = some x) : ∃ g c, v = .slice (some ⟨g, 0, none⟩) L.length c ∧ g < w.heap.size ∧ w.cell? ⟨g, j, none⟩ = some x.2 := by
  have hl : j < L.length := (List.getElem?_eq_some_iff.1 hj).1
  rcases h.own.2 with ⟨_, e⟩ | ⟨g, cap, cur, e, _, hc, _, _, _, ht⟩
  · omega
  · refine ⟨g, cap, e, (Array.getElem?_eq_some_iff.1 hc).1, ?_⟩
    rw [cell_of_row w g j _ _ (0, 0) hc, take_at (n := L.length) (by simpa using ht) hl, List.getElem?_map, hj]
    rfl
theorem LnRows.slice (h : LnRows S w v L) : ∃ A c, v = .slice A L.length c := by
  rcases h.own.2 with ⟨e, e2⟩ | ⟨g, cap, cur, e, _⟩
  · exact ⟨none, 0, by rw [e, e2]⟩
  · exact ⟨_, cap, e⟩
theorem lnHas_slice {x : Ln} (h : lnHas x w) : ∃ A c, x.2 = .slice A x.1.length c ∧ Ints w w.heap.size A x.1.length x.1 := by
  obtain ⟨A, c, e, hI, _⟩ := ints_of_own_at h
  exact ⟨A, c, e, hI⟩
theorem LnRows.ints (h : LnRows S w v L) {A : Option Addr} {c : Nat} (hv : v = .slice A L.length c) : IntsS w w.heap.size A L.length (L.map Prod.fst) := by
  refine ⟨by simp, fun hn => ?_⟩
  obtain ⟨x0, hx0⟩ : ∃ x, L[0]? = some x := ⟨L[0], List.getElem?_eq_getElem hn⟩
  obtain ⟨g, c', e, hg, _⟩ := h.at_ hx0
  rw [hv] at e
  cases e
  refine ⟨g, 0, rfl, hg, fun j hj => ?_⟩
  have hx : L[j]? = some L[j] := List.getElem?_eq_getElem hj
  obtain ⟨g', c2, e2, _, hcell⟩ := h.at_ hx
  rw [hv] at e2
  cases e2
  obtain ⟨A', c', e', hI⟩ := lnHas_slice (h.has _ (List.getElem_mem hj))
  rw [Nat.zero_add, hcell, List.getElem?_map, hx]
  exact ⟨A', c', by rw [e']; rfl, hI⟩
end

/-- The lines when the first j of them are marked. -/
def lnMk (k : Int) (L : List Ln) (j : Nat) : List Ln := List.zip (marksTo k (L.map Prod.fst) j) (L.map Prod.snd)
theorem lnMk_len (k : Int) {L : List Ln} {j : Nat} (hj : j ≤ L.length) : (lnMk k L j).length = L.length := by
  unfold lnMk
  rw [List.length_zip, marksTo_len k (by simpa using hj)]
  simp
theorem lnMk_fst (k : Int) {L : List Ln} {j : Nat} (hj : j ≤ L.length) : (lnMk k L j).map Prod.fst = marksTo k (L.map Prod.fst) j := by
  unfold lnMk
  exact List.map_fst_zip (by rw [marksTo_len k (by simpa using hj)]; simp)
theorem lnMk_snd (k : Int) {L : List Ln} {j : Nat} (hj : j ≤ L.length) : (lnMk k L j).map Prod.snd = L.map Prod.snd := by
  unfold lnMk
  exact List.map_snd_zip (by rw [marksTo_len k (by simpa using hj)]; simp)
theorem lnMk_zero (k : Int) (L : List Ln) : lnMk k L 0 = L := by
  unfold lnMk marksTo
  rw [List.take_zero, List.drop_zero]
  show List.zip (L.map Prod.fst) (L.map Prod.snd) = L
  rw [List.zip_map']
  simp
theorem lnMk_at (k : Int) {L : List Ln} {j : Nat} (hj : j < L.length) : (lnMk k L j)[j]? = some L[j] := by
  unfold lnMk
  rw [List.getElem?_zip_eq_some]
  have h1 := marksTo_get k (rs := L.map Prod.fst) (i := j) (by simpa using hj)
  have h2 : j < (marksTo k (L.map Prod.fst) j).length := by rw [marksTo_len k (by simp; omega)]; simpa using hj
  rw [List.getElem?_eq_getElem h2, List.getElem?_map, List.getElem?_eq_getElem hj] at h1
  rw [List.getElem?_eq_getElem h2, List.getElem?_map, List.getElem?_eq_getElem hj]
  exact ⟨by simpa using h1, rfl⟩
theorem zip_set1 {α β : Type} : ∀ (l : List α) (r : List β) (j : Nat) (a : α) (b : β), r[j]? = some b → (l.set j a).zip r = (l.zip r).set j (a, b)
  | [], r, j, a, b, h => by simp
  | x :: l, [], j, a, b, h => by simp at h
  | x :: l, y :: r, 0, a, b, h => by simp at h; subst h; rfl
  | x :: l, y :: r, j + 1, a, b, h => by
    have ih := zip_set1 l r j a b (by simpa using h)
    simp [ih]
theorem lnMk_succ (k : Int) {L : List Ln} {j : Nat} (hj : j < L.length) : lnMk k L (j + 1) = (lnMk k L j).set j (counted (k + tot ((L.map Prod.fst).take j)) L[j].1.length, L[j].2) := by
  have h1 := marksTo_succ k (rs := L.map Prod.fst) (i := j) (by simpa using hj)
  rw [List.getElem?_map, List.getElem?_eq_getElem hj] at h1
  have h1' : (marksTo k (L.map Prod.fst) j).set j (counted (k + tot ((L.map Prod.fst).take j)) L[j].1.length) = marksTo k (L.map Prod.fst) (j + 1) := h1
  unfold lnMk
  rw [← h1']
  exact zip_set1 _ _ _ _ _ (by rw [List.getElem?_map, List.getElem?_eq_getElem hj]; rfl)

/-- One row of lines is written anew, where it lies. -/
theorem LnRows.put {S R : Nat → Prop} {w w' : World} {v : Value} {L : List Ln} (h : LnRows S w v L) {j : Nat} {x : Ln} (hj : L[j]? = some x) (xs : List Int) (hx : lnHas (xs, x.2) w') (hu : Upd R w w') (hR : ∀ k, R k → lnOwn x k) : LnRows S w' v (L.set j (xs, x.2)) := by
  have hm : x ∈ L := List.mem_of_getElem? hj
  have hl : j < L.length := (List.getElem?_eq_some_iff.1 hj).1
  have hxj : L[j] = x := (List.getElem?_eq_some_iff.1 hj).2
  have hsnd : (L.set j (xs, x.2)).map Prod.snd = L.map Prod.snd := by
    refine List.ext_getElem? fun i => ?_
    rw [List.getElem?_map, List.getElem?_map, List.getElem?_set]
    split
    · rename_i e
      subst e
      first | rw [if_pos hl, hj] | rw [hj]
      rfl
    · rfl
  have hmem : ∀ y ∈ L.set j (xs, x.2), y = (xs, x.2) ∨ ∃ i, i ≠ j ∧ L[i]? = some y := fun y hy => by
    obtain ⟨i, hi, e⟩ := List.mem_iff_getElem.1 hy
    rw [List.getElem_set] at e
    split at e
    · exact .inl e.symm
    · rename_i hne
      rw [List.length_set] at hi
      exact .inr ⟨i, fun e2 => hne e2.symm, by rw [← e]; exact List.getElem?_eq_getElem hi⟩
  have hap : ∀ i y, i ≠ j → L[i]? = some y → ∀ k, lnOwn y k → ¬ lnOwn x k := fun i y hne hy k hk hk2 => by
    have hil := (List.getElem?_eq_some_iff.1 hy).1
    have hyi := (List.getElem?_eq_some_iff.1 hy).2
    have hp := List.pairwise_iff_getElem.1 h.pair
    rcases Nat.lt_or_gt_of_ne hne with h1 | h1
    · exact hp i j hil hl h1 k (by rw [hyi]; exact hk) (by rw [hxj]; exact hk2)
    · exact hp j i hl hil h1 k (by rw [hxj]; exact hk2) (by rw [hyi]; exact hk)
  refine ⟨?_, fun y hy => ?_, fun y hy k hk => ?_, ?_, h.inS.1, fun y hy k hk => ?_⟩
  · rw [List.length_set, hsnd]
    refine ⟨h.own.1, ?_⟩
    rcases h.own.2 with e | ⟨g, cap, cur, e, hg, hc, hrest⟩
    · exact .inl e
    · exact .inr ⟨g, cap, cur, e, hg, (hu.block g (Array.getElem?_eq_some_iff.1 hc).1 (fun hr => h.apart x hm g (hR g hr) (by rw [e]; rfl))).trans hc, hrest⟩
  · rcases hmem y hy with rfl | ⟨i, hne, hy⟩
    · exact hx
    · exact lnHas_keep (h.has y (List.mem_of_getElem? hy)) hu (fun k hk hr => hap i y hne hy k hk (hR k hr))
  · rcases hmem y hy with rfl | ⟨i, hne, hy⟩
    · exact h.apart x hm k hk
    · exact h.apart y (List.mem_of_getElem? hy) k hk
  · have hp := List.pairwise_iff_getElem.1 h.pair
    rw [List.pairwise_iff_getElem]
    intro a b ha hb hab k hk
    rw [List.length_set] at ha hb
    rw [List.getElem_set] at hk ⊢
    by_cases e1 : j = a
    · subst e1
      rw [if_pos rfl] at hk
      rw [if_neg (by omega)]
      exact hp j b ha hb hab k (by rw [hxj]; exact hk)
    · rw [if_neg e1] at hk
      by_cases e2 : j = b
      · subst e2
        rw [if_pos rfl]
        exact fun hk2 => hp a j ha hb hab k hk (by rw [hxj]; exact hk2)
      · rw [if_neg e2]
        exact hp a b ha hb hab k hk
  · rcases hmem y hy with rfl | ⟨i, hne, hy⟩
    · exact h.inS.2 x hm k hk
    · exact h.inS.2 y (List.mem_of_getElem? hy) k hk

end Go.Proofs.YtghogabmkbadjaaDoor

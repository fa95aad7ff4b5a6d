/- Rows of orders under way: each order in a block of its own. -/
import Derived.Test.YtghogabmkbadjabGxk
import Derived.Test.YtghogabmkbadjabGxn
set_option linter.unusedVariables false
set_option linter.unusedSimpArgs false
namespace Go.Proofs.Ytghogabmkbadjab
open Go.RowKit Go.Shelf

def ordV (n : Nat) (b : Nat) : Value := .slice (some ⟨b, 0, none⟩) n n
/-- A slice of the orders of the lines rs, in blocks of D. -/
def OrdB (n : Nat) (D : Nat → Prop) (W : World) (v : Value) (rs : List (List Int)) (bs : List Nat) : Prop := bs.length = rs.length ∧ W.ownsRow 0 49 1 v rs.length (bs.map (ordV n)) ∧ (∀ b ∈ bs, D b ∧ v.ownBlock ≠ some b) ∧ (∀ (j : Nat) (b : Nat), bs[j]? = some b → Arr W b 76 (meL n [rs[j]?.getD []])) ∧ (∀ k, v.ownBlock = some k → D k)
def OrdR (n : Nat) (D : Nat → Prop) (W : World) (v : Value) (rs : List (List Int)) : Prop := ∃ bs : List Nat, OrdB n D W v rs bs
section
variable {n : Nat} {D D' R : Nat → Prop} {W W' : World} {v v' : Value} {rs : List (List Int)}
theorem OrdR.nil (n : Nat) (D : Nat → Prop) (W : World) : OrdR n D W (.slice none 0 0) [] := ⟨[], rfl, World.ownsRow_nil _ _ _ _, fun b hb => by simp at hb, fun j b e => by simp at e, fun k h => by simp [Value.ownBlock] at h⟩
theorem OrdR.keep (h : OrdR n D W v rs) (hu : Upd R W W') (hD : ∀ k, D k → ¬ R k) : OrdR n D W' v rs := by
  obtain ⟨bs, h1, h2, h3, h4, h5⟩ := h
  exact ⟨bs, h1, ownP_keep h2 hu (fun k hk => hD k (h5 k hk)), h3, fun j b e => (h4 j b e).upd hu (hD b (h3 b (List.mem_of_getElem? e)).1), h5⟩
theorem OrdB.keep {bs : List Nat} (h : OrdB n D W v rs bs) (hu : Upd R W W') (hD : ∀ k, D k → ¬ R k) : OrdB n D W' v rs bs := by
  obtain ⟨h1, h2, h3, h4, h5⟩ := h
  exact ⟨h1, ownP_keep h2 hu (fun k hk => hD k (h5 k hk)), h3, fun j b e => (h4 j b e).upd hu (hD b (h3 b (List.mem_of_getElem? e)).1), h5⟩
theorem OrdR.more (h : OrdR n D W v rs) (hD : ∀ k, D k → D' k) : OrdR n D' W v rs := by
  obtain ⟨bs, h1, h2, h3, h4, h5⟩ := h
  exact ⟨bs, h1, h2, fun b hb => ⟨hD b (h3 b hb).1, (h3 b hb).2⟩, h4, fun k e => hD k (h5 k e)⟩
/-- One order more. -/
theorem OrdB.step {o : Obj} {g : Nat} {r : List Int} {bs : List Nat} (h : OrdB n D W v rs bs) (hg : Arr W g 76 (meL n [r])) (hgD : ¬ D g) (hown : W'.ownsRow 0 49 1 v' (rs.length + 1) (bs.map (ordV n) ++ [ordV n g])) (hw : (W.alloc o).grownBy W' v.ownBlock) (hv : v'.ownBlock = v.ownBlock ∨ v'.ownBlock = some (W.alloc o).heap.size)
    (hS : ∀ k, D k → D' k) (hS1 : D' g) (hS2 : W.heap.size + 1 < W'.heap.size → D' (W.heap.size + 1)) : OrdR n D' W' v' (rs ++ [r]) := by
  obtain ⟨h1, h2, h3, h4, h5⟩ := h
  have hu : Upd (fun k => v.ownBlock = some k) W W' := ((Upd.refl _ W).alloc o).grown hw (fun k e => .inr e)
  have hgl := hg.lt
  have hn : ∀ k, v'.ownBlock = some k → (v.ownBlock = some k) ∨ k = W.heap.size + 1 := fun k e => by
    rcases hv with e2 | e2
    · exact .inl (e2 ▸ e)
    · rw [e2, World.size_alloc] at e; injection e with e; exact .inr e.symm
  have hlt : ∀ (j b : Nat), bs[j]? = some b → b < W.heap.size := fun j b e => (h4 j b e).lt
  refine ⟨bs ++ [g], by simp [h1], by rw [List.length_append, List.map_append]; exact hown, fun b hb => ?_, fun j b e => ?_, fun k e => ?_⟩
  · rcases List.mem_append.1 hb with hb | hb
    · refine ⟨hS b (h3 b hb).1, fun e => ?_⟩
      rcases hn b e with e2 | e2
      · exact (h3 b hb).2 e2
      · obtain ⟨j, hj⟩ := List.getElem?_of_mem hb
        have := hlt j b hj
        omega
    · rw [List.mem_singleton.1 hb]
      refine ⟨hS1, fun e => ?_⟩
      rcases hn g e with e2 | e2
      · exact hgD (h5 g e2)
      · omega
  · rcases Nat.lt_or_ge j bs.length with hj | hj
    · rw [List.getElem?_append_left hj] at e
      rw [List.getElem?_append_left (by omega)]
      exact (h4 j b e).upd hu (fun e2 => (h3 b (List.mem_of_getElem? e)).2 e2)
    · rw [List.getElem?_append_right hj] at e
      have hj0 : j - bs.length = 0 := by
        rcases Nat.eq_zero_or_pos (j - bs.length) with h9 | h9
        · exact h9
        · rw [List.getElem?_eq_none (by simp; omega)] at e; cases e
      rw [hj0] at e
      cases e
      rw [List.getElem?_append_right (by omega), show j - rs.length = 0 by omega]
      exact hg.upd hu (fun e2 => hgD (h5 g e2))
  · rcases hn k e with e2 | rfl
    · exact hS k (h5 k e2)
    · exact hS2 (own_lt' hown _ e)
/-- What the search wants of it. -/
theorem OrdR.ints (h : OrdR n D W v rs) : ∃ A c, v = .slice A rs.length c ∧ rs.length ≤ c ∧ IntsS W W.heap.size A rs.length (rs.map fun r => meL n [r]) := by
  obtain ⟨bs, h1, h2, h3, h4, h5⟩ := h
  rcases h2.2 with ⟨e, e2⟩ | ⟨g, cap, cur, e, hg, hc, hx1, hx2, hx3, ht⟩
  · exact ⟨none, 0, by rw [e, e2], by omega, by simp, fun h0 => absurd h0 (by omega)⟩
  · refine ⟨_, cap, e, by omega, by simp, fun h0 => ⟨g, 0, rfl, (Array.getElem?_eq_some_iff.1 hc).1, fun j hj => ?_⟩⟩
    have hjb : bs[j]? = some bs[j] := List.getElem?_eq_getElem (by omega)
    have hA := h4 j _ hjb
    have hgi : (rs.map fun r => meL n [r])[j]?.getD [] = meL n [rs[j]?.getD []] := by
      rw [List.getElem?_map, List.getElem?_eq_getElem hj]; rfl
    refine ⟨some ⟨bs[j], 0, none⟩, n, ?_, ?_⟩
    · rw [Nat.zero_add, cell_of_row W g j _ _ (0, 0) hc, take_at (n := rs.length) (by simpa using ht) hj, List.getElem?_map, hjb, hgi, meL_len]
      rfl
    · rw [hgi, meL_len]
      exact hA.ints' hA.lt (meL_len _ _)
end
end Go.Proofs.Ytghogabmkbadjab

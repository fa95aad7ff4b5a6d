/- Rows under way, each as long as it is, that were grown by append themselves. -/
import Derived.Test.YtghogabmkbadjabGd
import Derived.Test.YtghogabmkbadjabGxc
set_option linter.unusedVariables false
set_option linter.unusedSimpArgs false
namespace Go.Proofs.Ytghogabmkbadjab
open Go.RowKit Go.Shelf

def RwX (w : World) (B : Nat) (v : Value) (rs : List (List Int)) : Prop :=
  B ≤ w.heap.size ∧ ∃ vs, w.ownsRow B 22 1 v rs.length vs ∧ ∀ i, i < rs.length → ∃ A c lo hi, vs[i]? = some (.slice A (rs[i]?.getD []).length c) ∧ RowC w lo hi A (rs[i]?.getD []).length (rs[i]?.getD []) ∧ B ≤ lo ∧ hi ≤ w.heap.size ∧ ∀ k, v.ownBlock = some k → k < lo ∨ hi ≤ k
section
variable {w w' : World} {B : Nat} {v : Value} {rs : List (List Int)}
theorem RwX.new (w : World) : RwX (w.alloc (.cells #[] 22)) w.heap.size (.slice (some ⟨w.heap.size, 0, none⟩) 0 0) [] := ⟨by simp, [], own_new _ _, fun i hi => by simp at hi⟩
theorem RwX.keep {R : Nat → Prop} (h : RwX w B v rs) (hu : Upd R w w') (hR : ∀ j, R j → j < B) : RwX w' B v rs := by
  obtain ⟨h0, vs, h1, h2⟩ := h
  refine ⟨Nat.le_trans h0 hu.size, vs, ⟨h1.1, ?_⟩, fun i hi => ?_⟩
  · rcases h1.2 with e | ⟨g, cap, cur, rfl, hg, hc, hrest⟩
    · exact .inl e
    · exact .inr ⟨g, cap, cur, rfl, hg, (hu.block g (Array.getElem?_eq_some_iff.1 hc).1 (fun e => by have := hR _ e; omega)).trans hc, hrest⟩
  · obtain ⟨A, c, lo, hi', e1, e2, e5, e3, e4⟩ := h2 i hi
    exact ⟨A, c, lo, hi', e1, e2.upd hu (fun j e => .inl (by have := hR j e; omega)), e5, Nat.le_trans e3 hu.size, e4⟩
theorem RwX.own (h : RwX w B v rs) : ∀ k, v.ownBlock = some k → B ≤ k ∧ k < w.heap.size := by
  obtain ⟨_, vs, h1, _⟩ := h
  intro k hk
  rcases h1.2 with ⟨rfl, _⟩ | ⟨g, cap, cur, rfl, hg, hc, _⟩
  · cases hk
  · cases hk; exact ⟨hg, (Array.getElem?_eq_some_iff.1 hc).1⟩
theorem RwX.ints (h : RwX w B v rs) : ∃ A c, v = .slice A rs.length c ∧ IntsS w w.heap.size A rs.length rs ∧ rs.length ≤ c := by
  obtain ⟨_, vs, h1, h2⟩ := h
  rcases h1.2 with ⟨rfl, hn⟩ | ⟨g, cap, cur, rfl, hg, hc, hcap, _, _, ht⟩
  · obtain rfl : rs = [] := List.eq_nil_of_length_eq_zero hn
    exact ⟨none, 0, rfl, ⟨rfl, fun h => absurd h (by simp)⟩, Nat.le_refl _⟩
  · refine ⟨_, cap, rfl, ⟨rfl, fun _ => ⟨g, 0, rfl, (Array.getElem?_eq_some_iff.1 hc).1, fun j hj => ?_⟩⟩, hcap⟩
    obtain ⟨A, c, lo, hi, e1, e2, e5, e3, e4⟩ := h2 j hj
    refine ⟨A, c, ?_, e2.ints e3⟩
    rw [Nat.zero_add, cell_of_row _ _ _ _ _ _ hc]
    rw [← ht, List.getElem?_take] at e1
    split at e1
    · simpa using e1
    · cases e1
theorem RwX.step {n : Nat} {A : Option Addr} {c lo : Nat} {xs : List Int} {v' : Value} {u : Value} {vs : List Value} (h0 : B ≤ w.heap.size) (h1 : w.ownsRow B 22 1 v rs.length vs)
    (h2 : ∀ i, i < rs.length → ∃ A c lo hi, vs[i]? = some (.slice A (rs[i]?.getD []).length c) ∧ RowC w lo hi A (rs[i]?.getD []).length (rs[i]?.getD []) ∧ B ≤ lo ∧ hi ≤ w.heap.size ∧ ∀ k, v.ownBlock = some k → k < lo ∨ hi ≤ k)
    (hx : RowC w lo w.heap.size A n xs) (hlo : B ≤ lo) (hv : ∀ k, v.ownBlock = some k → k < lo) (hown : w'.ownsRow B 22 1 v' (rs.length + 1) (vs ++ [.slice A n c])) (hg : (w.alloc (.cells #[u] 22)).grownBy w' v.ownBlock)
    (hv' : v'.ownBlock = v.ownBlock ∨ v'.ownBlock = some (w.alloc (.cells #[u] 22)).heap.size) : RwX w' B v' (rs ++ [xs]) := by
  have hu : Upd (fun k => v.ownBlock = some k) w w' := ((Upd.refl _ w).alloc _).grown hg (fun k hk => .inr hk)
  have hl : vs.length = rs.length := by simpa using h1.1
  have hz := hu.size
  have hxl := hx.len
  subst hxl
  refine ⟨by omega, vs ++ [.slice A xs.length c], by rw [List.length_append]; exact hown, fun i hi => ?_⟩
  rw [List.length_append, List.length_singleton] at hi
  rcases Nat.lt_or_ge i rs.length with h | h
  · obtain ⟨A', c', lo', hi', e1, e2, e5, e3, e4⟩ := h2 i h
    rw [List.getElem?_append_left h]
    refine ⟨A', c', lo', hi', by rw [List.getElem?_append_left (by omega)]; exact e1, e2.upd hu (fun j e => e4 j e), e5, by omega, fun k hk => ?_⟩
    rcases hv' with e | e
    · exact e4 k (e ▸ hk)
    · rw [e] at hk; simp at hk; omega
  · obtain rfl : i = rs.length := by omega
    rw [List.getElem?_append_right (Nat.le_refl _), Nat.sub_self, List.getElem?_cons_zero, Option.getD_some]
    refine ⟨A, c, lo, w.heap.size, by rw [List.getElem?_append_right (by omega), hl]; simp, hx.upd hu (fun j e => .inl (hv j e)), hlo, by omega, fun k hk => ?_⟩
    rcases hv' with e | e
    · exact .inl (hv k (e ▸ hk))
    · rw [e] at hk; simp at hk; omega
end
end Go.Proofs.Ytghogabmkbadjab

/- Rows of numbers under way, that grow by append: where they lie; what has been read of them; rows whose cells alone are told. -/
import Derived.Test.YtghogabmkbadjaaAppend
import Derived.Test.YtghogabmkbadjaaGa
import Derived.Test.YtghogabmkbadjaaCovers
set_option linter.unusedVariables false
set_option linter.unusedSimpArgs false
namespace Go.Proofs.Ytghogabmkbadjaa
open Go.RowKit

/-- A row of numbers under way, in a block that S names. -/
def OwnS (S : Nat → Prop) (w : World) (B : Nat) (e : TypeId) (v : Value) (xs : List Int) : Prop := (∀ k, v.ownBlock = some k → S k) ∧ w.ownsRow B e 1 v xs.length (xs.map (Value.int .i64))
section
variable {S R : Nat → Prop} {w w' : World} {B : Nat} {e : TypeId} {v : Value} {xs : List Int}
theorem OwnS.keep (h : OwnS S w B e v xs) (hu : Upd R w w') (hS : ∀ k, S k → ¬ R k) : OwnS S w' B e v xs := by
  obtain ⟨h0, h1⟩ := h
  refine ⟨h0, h1.1, ?_⟩
  rcases h1.2 with e | ⟨g, cap, cur, rfl, hg, hc, hrest⟩
  · exact .inl e
  · exact .inr ⟨g, cap, cur, rfl, hg, (hu.block g (Array.getElem?_eq_some_iff.1 hc).1 (hS g (h0 g rfl))).trans hc, hrest⟩
theorem OwnS.none (S : Nat → Prop) (w : World) (B : Nat) (e : TypeId) : OwnS S w B e (.slice none 0 0) [] := ⟨fun k hk => by simp [Value.ownBlock] at hk, rfl, .inl ⟨rfl, rfl⟩⟩
theorem own_lt' {base n : Nat} {ys : List Value} (h : w.ownsRow base e 1 v n ys) : ∀ g, v.ownBlock = some g → g < w.heap.size := fun g hg => by
  rcases h.2 with ⟨rfl, _⟩ | ⟨g', cap, cur, rfl, _, hc, _⟩
  · simp [Value.ownBlock] at hg
  · simp [Value.ownBlock] at hg; subst hg; exact (Array.getElem?_eq_some_iff.1 hc).1
theorem OwnS.step {S' : Nat → Prop} {x : Int} {o : Obj} {v' : Value} (h : OwnS S w B e v xs) (hown : w'.ownsRow B e 1 v' (xs.length + 1) (xs.map (Value.int .i64) ++ [.int .i64 x])) (hv : v'.ownBlock = v.ownBlock ∨ v'.ownBlock = some (w.alloc o).heap.size)
    (hS : ∀ k, S k → S' k) (hS1 : w.heap.size + 1 < w'.heap.size → S' (w.heap.size + 1)) : OwnS S' w' B e v' (xs ++ [x]) :=
  ⟨fun k hk => by
    rcases hv with e | e
    · exact hS k (h.1 k (e ▸ hk))
    · have hlt := own_lt' hown k hk
      rw [e] at hk; simp at hk; subst hk; exact hS1 hlt, by rw [List.length_append, List.map_append]; exact hown⟩
end

/-- A row whose cells are told, in a block from lo up to less than hi (empty ones may lie anywhere). -/
def RowC (w : World) (lo hi : Nat) (A : Option Addr) (n : Nat) (xs : List Int) : Prop :=
  xs.length = n ∧ (0 < n → ∃ b, A = some ⟨b, 0, none⟩ ∧ lo ≤ b ∧ b < hi ∧ ∀ j, j < n → w.cell? ⟨b, j, none⟩ = some (.int .i64 (xs[j]?.getD 0)))
section
variable {w w' : World} {lo hi n : Nat} {A : Option Addr} {xs : List Int} {R : Nat → Prop}
theorem RowC.len (h : RowC w lo hi A n xs) : xs.length = n := h.1
theorem RowC.nil (w : World) (lo hi : Nat) (A : Option Addr) : RowC w lo hi A 0 [] := ⟨rfl, fun h => absurd h (by omega)⟩
theorem RowC.ints (h : RowC w lo hi A n xs) {B : Nat} (hB : hi ≤ B) : Ints w B A n xs :=
  ⟨h.1, fun hn => by
    obtain ⟨b, e, _, hb, hc⟩ := h.2 hn
    exact ⟨b, 0, e, by omega, fun j hj => by rw [Nat.zero_add]; exact hc j hj⟩⟩
theorem RowC.upd (h : RowC w lo hi A n xs) (hu : Upd R w w') (hr : ∀ j, R j → j < lo ∨ hi ≤ j) : RowC w' lo hi A n xs :=
  ⟨h.1, fun hn => by
    obtain ⟨b, e, hl, hb, hc⟩ := h.2 hn
    exact ⟨b, e, hl, hb, fun j hj => hu.cell (hc j hj) (fun hr' => by have := hr b hr'; omega)⟩⟩
theorem RowC.below {B : Nat} (h : RowC w lo hi A n xs) (hu : Below B w w') (hB : hi ≤ B) : RowC w' lo hi A n xs := h.upd (Below.toUpd hu) (fun j hj => by omega)
theorem RowC.more {lo' hi' : Nat} (h : RowC w lo hi A n xs) (h1 : lo' ≤ lo) (h2 : hi ≤ hi') : RowC w lo' hi' A n xs :=
  ⟨h.1, fun hn => by
    obtain ⟨b, e, hl, hb, hc⟩ := h.2 hn
    exact ⟨b, e, by omega, by omega, hc⟩⟩
theorem Row.told (h : Row w lo hi A n xs) : RowC w lo hi A n xs :=
  ⟨h.1, fun hn => by
    obtain ⟨b, ys, e, hl, hb, hA⟩ := h.2 hn
    exact ⟨b, e, hl, hb, fun j hj => by
      have hl := h.1
      rw [hA.cell (by rw [List.length_append]; omega), List.getElem?_append_left (by omega)]⟩⟩
/-- A grown row's cells. -/
theorem rowC_of_own {base m : Nat} {e : TypeId} {v : Value} (h : w.ownsRow base e 1 v m (xs.map (Value.int .i64))) : ∃ A c, v = .slice A m c ∧ RowC w base w.heap.size A m xs := by
  obtain ⟨A, c, rfl, hI, hA⟩ := ints_of_own_at h
  refine ⟨A, c, rfl, hI.1, fun hn => ?_⟩
  rcases h.2 with ⟨e, _⟩ | ⟨g, cap, cur, e, hg, hgc, _⟩
  · cases e; omega
  · cases e
    refine ⟨g, rfl, hg, (Array.getElem?_eq_some_iff.1 hgc).1, fun j hj => ?_⟩
    obtain ⟨b, off, e1, hb, hc⟩ := hI.2 hn
    cases e1
    have := hc j hj
    rwa [Nat.zero_add] at this
end
/-- What a function that hands back a new row of numbers does: its cells told. -/
def GivesRowC (w : World) (xs : List Int) (e : Ending) (w' : World) : Prop := ∃ A n c, e = .returned (.slice A n c) ∧ RowC w' w.heap.size w'.heap.size A n xs ∧ Below w.heap.size w w'
end Go.Proofs.Ytghogabmkbadjaa

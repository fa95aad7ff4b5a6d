/- Rows of rows of numbers: words for memory, and what the exact laws call on them. -/
import Derived.Test.YtipdmaggfbfnlaaHelp
import Derived.Maps.AppendAt
set_option linter.unusedVariables false
set_option linter.unusedSimpArgs false
namespace Go.Proofs.Ytipdmaggfbfnlaa
open Go.RowKit

/-- The slices vs are rows of a call's own, one after the other in blocks from lo up to less than hi, and read as rs. -/
def RowsC (w : World) : Nat → Nat → List Value → List (List Int) → Prop
  | lo, hi, [], [] => lo ≤ hi
  | lo, hi, v :: vs, r :: rs => ∃ A c mid, v = .slice A r.length c ∧ lo ≤ mid ∧ Row w lo mid A r.length r ∧ RowsC w mid hi vs rs
  | _, _, [], _ :: _ => False
  | _, _, _ :: _, [] => False

section
variable {w w' : World} {R : Nat → Prop}
theorem RowsC.le : ∀ {lo hi : Nat} {vs : List Value} {rs : List (List Int)}, RowsC w lo hi vs rs → lo ≤ hi
  | _, _, [], [], h => h
  | _, _, _ :: _, _ :: _, ⟨_, _, _, _, h1, _, h2⟩ => Nat.le_trans h1 h2.le
theorem RowsC.len : ∀ {lo hi : Nat} {vs : List Value} {rs : List (List Int)}, RowsC w lo hi vs rs → vs.length = rs.length
  | _, _, [], [], _ => rfl
  | _, _, _ :: _, _ :: _, ⟨_, _, _, _, _, _, h2⟩ => by simp [h2.len]
theorem RowsC.upd : ∀ {lo hi : Nat} {vs : List Value} {rs : List (List Int)}, RowsC w lo hi vs rs → Upd R w w' → (∀ j, R j → j < lo ∨ hi ≤ j) → RowsC w' lo hi vs rs
  | _, _, [], [], h, _, _ => h
  | _, _, _ :: _, _ :: _, ⟨A, c, mid, e, h1, hr, h2⟩, hu, hR => ⟨A, c, mid, e, h1, hr.upd hu (fun j hj => by have := hR j hj; have := h2.le; omega), h2.upd hu (fun j hj => by have := hR j hj; omega)⟩
theorem RowsC.more : ∀ {lo hi hi' : Nat} {vs : List Value} {rs : List (List Int)}, RowsC w lo hi vs rs → hi ≤ hi' → RowsC w lo hi' vs rs
  | _, _, _, [], [], h, h' => Nat.le_trans h h'
  | _, _, _, _ :: _, _ :: _, ⟨A, c, mid, e, h1, hr, h2⟩, h' => ⟨A, c, mid, e, h1, hr, h2.more h'⟩
theorem RowsC.snoc : ∀ {lo hi hi' : Nat} {vs : List Value} {rs : List (List Int)} {A : Option Addr} {c : Nat} {r : List Int}, RowsC w lo hi vs rs → Row w hi hi' A r.length r → hi ≤ hi' → RowsC w lo hi' (vs ++ [.slice A r.length c]) (rs ++ [r])
  | _, _, hi', [], [], A, c, _, h, hr, hh => ⟨A, c, hi', rfl, Nat.le_trans h hh, hr.more h (Nat.le_refl _), Nat.le_refl _⟩
  | _, _, _, _ :: _, _ :: _, _, _, _, ⟨A, c, mid, e, h1, hr1, h2⟩, hr, hh => ⟨A, c, mid, e, h1, hr1, h2.snoc hr hh⟩
/-- One of the rows, and what may be done to it. -/
theorem RowsC.at_ : ∀ {lo hi : Nat} {vs : List Value} {rs : List (List Int)}, RowsC w lo hi vs rs → ∀ j, j < rs.length →
    ∃ A c l m, vs[j]? = some (.slice A (rs[j]?.getD []).length c) ∧ lo ≤ l ∧ m ≤ hi ∧ Row w l m A (rs[j]?.getD []).length (rs[j]?.getD []) ∧
      ∀ (w' : World) (r' : List Int), r'.length = (rs[j]?.getD []).length → Upd (fun k => l ≤ k ∧ k < m) w w' → Row w' l m A r'.length r' → RowsC w' lo hi vs (rs.set j r')
  | _, _, [], [], _, j, hj => by simp at hj
  | lo, hi, v :: vs, r :: rs, ⟨A, c, mid, e, h1, hr, h2⟩, 0, _ => by
    refine ⟨A, c, lo, mid, by rw [e]; rfl, Nat.le_refl _, h2.le, hr, fun w' r' hl hu hr' => ⟨A, c, mid, ?_, h1, ?_, h2.upd hu (fun j hj => by omega)⟩⟩
    · rw [e]; simp at hl; rw [hl]
    · exact hr'
  | lo, hi, v :: vs, r :: rs, ⟨A, c, mid, e, h1, hr, h2⟩, j + 1, hj => by
    obtain ⟨A', c', l, m, g1, g2, g3, g4, g5⟩ := h2.at_ j (by simpa using hj)
    refine ⟨A', c', l, m, by simpa using g1, by omega, g3, by simpa using g4, fun w' r' hl hu hr' => ⟨A, c, mid, e, h1, hr.upd hu (fun k hk => by omega), g5 w' r' (by simpa using hl) hu hr'⟩⟩
end

/-- A row of rows of a call's own: the slice, in a block of slices; its rows. -/
def RowsR (w : World) (lo hi : Nat) (A : Option Addr) (n : Nat) (rs : List (List Int)) : Prop :=
  rs.length = n ∧ (0 < n → ∃ (g : Nat) (vs : List Value) (cs : Array Value), A = some ⟨g, 0, none⟩ ∧ lo ≤ g ∧ g < hi ∧ w.heap[g]? = some (.cells cs 22 (0, 0)) ∧ (∀ (j : Nat) (u : Value), vs[j]? = some u → cs[j]? = some u) ∧ RowsC w lo hi vs rs)
/-- A slice of slices that reads as rs, below block B. -/
def IntsS (w : World) (B : Nat) (A : Option Addr) (n : Nat) (rs : List (List Int)) : Prop :=
  rs.length = n ∧ (0 < n → ∃ b off, A = some ⟨b, off, none⟩ ∧ b < B ∧ ∀ j, j < n → ∃ A' c', w.cell? ⟨b, off + j, none⟩ = some (.slice A' (rs[j]?.getD []).length c') ∧ Ints w B A' (rs[j]?.getD []).length (rs[j]?.getD []))
section
variable {w w' : World} {lo hi n B : Nat} {A : Option Addr} {rs : List (List Int)} {R : Nat → Prop}
theorem RowsR.len (h : RowsR w lo hi A n rs) : rs.length = n := h.1
theorem RowsR.nil (w : World) (lo hi : Nat) (A : Option Addr) : RowsR w lo hi A 0 [] := ⟨rfl, fun h => absurd h (by omega)⟩
theorem RowsR.upd (h : RowsR w lo hi A n rs) (hu : Upd R w w') (hr : ∀ j, R j → j < lo ∨ hi ≤ j) : RowsR w' lo hi A n rs :=
  ⟨h.1, fun hn => by
    obtain ⟨g, vs, cs, e, h1, h2, h3, h4, h5⟩ := h.2 hn
    exact ⟨g, vs, cs, e, h1, h2, (hu.block g (Array.getElem?_eq_some_iff.1 h3).1 (fun e => by have := hr g e; omega)).trans h3, h4, h5.upd hu hr⟩⟩
theorem RowsR.below (h : RowsR w lo hi A n rs) {B : Nat} (hu : Below B w w') (hB : hi ≤ B) : RowsR w' lo hi A n rs := h.upd (Below.toUpd hu) (fun j hj => by omega)
theorem RowsR.ints (h : RowsR w lo hi A n rs) (hB : hi ≤ B) : IntsS w B A n rs :=
  ⟨h.1, fun hn => by
    obtain ⟨g, vs, cs, e, h1, h2, h3, h4, h5⟩ := h.2 hn
    refine ⟨g, 0, e, by omega, fun j hj => ?_⟩
    obtain ⟨A', c', l, m, g1, g2, g3, g4, _⟩ := h5.at_ j (by rw [h.1]; exact hj)
    exact ⟨A', c', by rw [Nat.zero_add, cell_of_row w g j _ _ (0, 0) h3]; exact h4 j _ g1, g4.ints (by omega)⟩⟩
theorem IntsS.len (h : IntsS w B A n rs) : rs.length = n := h.1
theorem IntsS.at_ (h : IntsS w B A n rs) {k : Nat} (hk : k < n) : ∃ b off, A = some ⟨b, off, none⟩ ∧ b < B ∧ ∀ j, j < n → ∃ A' c', w.cell? ⟨b, off + j, none⟩ = some (.slice A' (rs[j]?.getD []).length c') ∧ Ints w B A' (rs[j]?.getD []).length (rs[j]?.getD []) := h.2 (by omega)
theorem IntsS.drewN (h : IntsS w B A n rs) (k : Nat) : IntsS (w.drewN k) B A n rs := h
theorem IntsS.keep (h : IntsS w B A n rs) (hk : ∀ p : Addr, p.block < B → w'.cell? p = w.cell? p) : IntsS w' B A n rs :=
  ⟨h.1, fun hn => by
    obtain ⟨b, off, e, hb, hc⟩ := h.2 hn
    refine ⟨b, off, e, hb, fun j hj => ?_⟩
    obtain ⟨A', c', h1, h2⟩ := hc j hj
    exact ⟨A', c', (hk _ hb).trans h1, h2.keep hk⟩⟩
theorem IntsS.more {B' : Nat} (h : IntsS w B A n rs) (hB : B ≤ B') : IntsS w B' A n rs :=
  ⟨h.1, fun hn => by
    obtain ⟨b, off, e, hb, hc⟩ := h.2 hn
    refine ⟨b, off, e, by omega, fun j hj => ?_⟩
    obtain ⟨A', c', h1, h2⟩ := hc j hj
    exact ⟨A', c', h1, h2.more hB⟩⟩
theorem IntsS.below (h : IntsS w B A n rs) (hb : Below B w w') : IntsS w' B A n rs := h.keep fun _ hp => hb.cell hp
theorem IntsS.to (h : IntsS w B A n rs) {B' C : Nat} (hb : Below B' w w') (hB : B ≤ B') (hC : B ≤ C) : IntsS w' C A n rs := (h.below (hb.mono hB)).more hC
end

theorem quiet_any {P : Program} {f : FuncId} {args : Array Value} {w : World} {a n : Nat} {v : Value}
    (h : Calls P f args (w.drewN (a + n)) fun e w' => e = .returned v ∧ ∃ m, w' = (w.drewN (a + n)).drewN m) :
    Calls P f args (w.drewN (a + n)) fun e w'' => e = .returned v ∧ ∃ m, w'' = w.drewN (a + m) :=
  h.mono fun _ _ ⟨he, m, hm⟩ => ⟨he, n + m, by rw [hm, World.drewN_drewN, Nat.add_assoc]⟩
/-- What a function that hands back new rows does. -/
def GivesRows (w : World) (rs : List (List Int)) (e : Ending) (w' : World) : Prop := ∃ A n c, e = .returned (.slice A n c) ∧ RowsR w' w.heap.size w'.heap.size A n rs ∧ Below w.heap.size w w'
end Go.Proofs.Ytipdmaggfbfnlaa

/- Texts that several claims share, one behind the other. -/
import Derived.Test.YtmlihbcffndnbaaDoorAppend
import Derived.Test.YtmlihbcffndnbaaDoorGb
import Derived.Test.YtmlihbcffndnbaaDoorGa
set_option linter.unusedVariables false
set_option linter.unusedSimpArgs false
/- CoversOf: the model's. -/
namespace Go.Proofs.YtmlihbcffndnbaaDoor
open Go.RowKit

/-- What is left of the items above a when what is above the first b of them is taken away. -/
def coverTo (zs : List Int) (a : Nat) : Nat → Int
  | 0 => zs[a]?.getD 0
  | b + 1 => if bitB (zs[a]?.getD 0) b then lessI (coverTo zs a b) (zs[b]?.getD 0) else coverTo zs a b
theorem coverTo_bd {zs : List Int} (h : Sets zs) {a : Nat} (ha : a < zs.length) : ∀ b : Nat, 0 ≤ coverTo zs a b ∧ coverTo zs a b ≤ zs[a]?.getD 0
  | 0 => ⟨(h.bd a ha).1, Int.le_refl _⟩
  | b + 1 => by
    have ih := coverTo_bd h ha b
    unfold coverTo
    split
    · have := lessI_bd (coverTo zs a b) (zs[b]?.getD 0)
      omega
    · exact ih
theorem coverTo_yes {zs : List Int} {a b : Nat} (h : bitB (zs[a]?.getD 0) b = true) : coverTo zs a (b + 1) = lessI (coverTo zs a b) (zs[b]?.getD 0) := by simp [coverTo, h]
theorem coverTo_no {zs : List Int} {a b : Nat} (h : bitB (zs[a]?.getD 0) b = false) : coverTo zs a (b + 1) = coverTo zs a b := by simp [coverTo, h]

theorem own_new (w : World) (e : TypeId) : (w.alloc (.cells #[] e)).ownsRow w.heap.size e 1 (.slice (some ⟨w.heap.size, 0, none⟩) 0 0) 0 [] :=
  ⟨rfl, .inr ⟨w.heap.size, 0, #[], rfl, Nat.le_refl _, by show (w.heap.push _)[w.heap.size]? = _; simp, Nat.le_refl _, by simp [maxLen], rfl, rfl⟩⟩
theorem cell_new (w : World) (e : TypeId) (u : Value) : (w.alloc (.cells #[u] e)).cell? ⟨w.heap.size, 0, none⟩ = some u := (Boxed.new w e u).cell
theorem own_base {w : World} {base n : Nat} {e : TypeId} {v : Value} {xs : List Value} (h : w.ownsRow base e 1 v n xs) : ∀ k, v.ownBlock = some k → base ≤ k := fun k hk => by
  rcases h.2 with ⟨rfl, _⟩ | ⟨g, cap, cur, rfl, hg, _⟩
  · cases hk
  · cases hk; exact hg

end Go.Proofs.YtmlihbcffndnbaaDoor

/- 'listOf': the items of a set. -/
namespace Go.Proofs.YtmlihbcffndnbaaDoor
open Go.RowKit

/-- Shifted past all items. -/
theorem shr_over {s : Int} {j : Nat} (h0 : 0 ≤ s) : (0 < s / 2 ^ j) ↔ powI j ≤ s := by
  have hp : (0 : Int) < 2 ^ j := Int.pow_pos (by omega)
  unfold powI
  rw [Int.toNat_natCast]
  constructor
  · intro h
    by_cases hs : 2 ^ j ≤ s
    · exact hs
    · rw [Int.ediv_eq_zero_of_lt h0 (by omega)] at h; omega
  · intro h
    exact Int.lt_iff_add_one_le.2 ((Int.le_ediv_iff_mul_le hp).2 (by omega))

end Go.Proofs.YtmlihbcffndnbaaDoor

/- Rows of rows under way: each row in a block of its own, their slices in a row that grows by append. -/
namespace Go.Proofs.YtmlihbcffndnbaaDoor
open Go.RowKit

theorem infoRow_parts : ∃ i : TypeInfo, Tryd.prog.info? 22 = some i ∧ i.zero = some (.slice none 0 0) ∧ i.size = 1 ∧ i.bytes = 24 := by
  have h := infoRow
  cases hi : Tryd.prog.info? 22 with
  | none => rw [hi] at h; cases h
  | some i =>
    rw [hi] at h
    simp only [Option.map_some, Option.some.injEq, Prod.mk.injEq] at h
    exact ⟨i, rfl, h.1, h.2.1, h.2.2⟩

section
variable {w w' : World} {lo hi : Nat}
/-- What turns one block of slices leaves the rows. -/
theorem RowsC.grown : ∀ {lo hi : Nat} {vs : List Value} {rs : List (List Int)}, RowsC w lo hi vs rs → hi ≤ w.heap.size → ∀ {row : Option Nat}, w.grownBy w' row →
    (∀ g, row = some g → ∃ cs, w.heap[g]? = some (.cells cs 22 (0, 0))) → RowsC w' lo hi vs rs
  | _, _, [], [], h, _, _, _, _ => h
  | _, _, _ :: _, _ :: _, ⟨A, c, mid, e, h1, hr, h2⟩, hh, row, hg, ht => by
    refine ⟨A, c, mid, e, h1, ⟨hr.1, fun hn => ?_⟩, h2.grown hh hg ht⟩
    obtain ⟨b, ys, eb, hl, hb, hA⟩ := hr.2 hn
    refine ⟨b, ys, eb, hl, hb, (hg.block b hA.lt (fun e => ?_)).trans hA⟩
    obtain ⟨cs, hcs⟩ := ht b e.symm
    unfold Arr at hA
    rw [hcs] at hA
    cases hA

theorem RowsC.sooner : ∀ {lo lo' hi : Nat} {vs : List Value} {rs : List (List Int)}, RowsC w lo hi vs rs → lo' ≤ lo → RowsC w lo' hi vs rs
  | _, _, _, [], [], h, h' => Nat.le_trans h' h
  | _, _, _, _ :: _, _ :: _, ⟨A, c, mid, e, h1, hr, h2⟩, h' => ⟨A, c, mid, e, Nat.le_trans h' h1, hr.more h' (Nat.le_refl _), h2⟩
theorem RowsR.sooner {lo lo' hi n : Nat} {A : Option Addr} {rs : List (List Int)} (h : RowsR w lo hi A n rs) (hl : lo' ≤ lo) : RowsR w lo' hi A n rs :=
  ⟨h.1, fun hn => by
    obtain ⟨g, vs, cs, e, h1, h2, h3, h4, h5⟩ := h.2 hn
    exact ⟨g, vs, cs, e, by omega, h2, h3, h4, h5.sooner hl⟩⟩

/-- The rows so far: v is their row, all in blocks from B on. -/
def Rowed (w : World) (B : Nat) (v : Value) (rs : List (List Int)) : Prop := ∃ vs, w.ownsRow B 22 1 v rs.length vs ∧ RowsC w B w.heap.size vs rs ∧ B ≤ w.heap.size
theorem Rowed.base {B : Nat} {v : Value} {rs : List (List Int)} (h : Rowed w B v rs) : ∀ k, v.ownBlock = some k → B ≤ k := by
  obtain ⟨vs, h1, _⟩ := h
  exact own_base h1
theorem Rowed.new (w : World) : Rowed (w.alloc (.cells #[] 22)) w.heap.size (.slice (some ⟨w.heap.size, 0, none⟩) 0 0) [] := ⟨[], own_new _ _, by simp [RowsC], by simp⟩
theorem own_block {base n : Nat} {e : TypeId} {v : Value} {xs : List Value} (h : w.ownsRow base e 1 v n xs) : ∀ g, v.ownBlock = some g → ∃ cs, w.heap[g]? = some (.cells cs e (0, 0)) := fun k hk => by
  rcases h.2 with ⟨rfl, _⟩ | ⟨g, cap, cur, rfl, hg, hc, _⟩
  · cases hk
  · cases hk; exact ⟨cur, hc⟩
theorem Rowed.keep {B : Nat} {v : Value} {rs : List (List Int)} {R : Nat → Prop} (h : Rowed w B v rs) (hu : Upd R w w') (hr : ∀ j, R j → j < B ∨ w.heap.size ≤ j) : Rowed w' B v rs := by
  obtain ⟨vs, h1, h2, h3⟩ := h
  refine ⟨vs, ?_, (h2.upd hu hr).more hu.size, Nat.le_trans h3 hu.size⟩
  refine ⟨h1.1, ?_⟩
  rcases h1.2 with e | ⟨g, cap, cur, rfl, hg, hc, hrest⟩
  · exact .inl e
  · exact .inr ⟨g, cap, cur, rfl, hg, (hu.block g (Array.getElem?_eq_some_iff.1 hc).1 (fun e => by have := hr g e; have := (Array.getElem?_eq_some_iff.1 hc).1; omega)).trans hc, hrest⟩
/-- A row of two, and its slice appended. -/
theorem Rowed.step {B n : Nat} {v v' : Value} {rs : List (List Int)} {vs : List Value} {a b : Int} (h1 : w.ownsRow B 22 1 v n vs) (hn : n = rs.length) (h2 : RowsC w B w.heap.size vs rs) (hB : B ≤ w.heap.size)
    (hown : w'.ownsRow B 22 1 v' (n + 1) (vs ++ [.slice (some ⟨w.heap.size, 0, none⟩) 2 2]))
    (hg : ((w.alloc (.cells #[.int .i64 a, .int .i64 b] 3)).alloc (.cells #[.slice (some ⟨w.heap.size, 0, none⟩) 2 2] 22)).grownBy w' v.ownBlock) : Rowed w' B v' (rs ++ [[a, b]]) := by
  have hu : Upd (fun _ => False) w ((w.alloc (.cells #[.int .i64 a, .int .i64 b] 3)).alloc (.cells #[.slice (some ⟨w.heap.size, 0, none⟩) 2 2] 22)) := ((Upd.refl _ w).alloc _).alloc _
  have h3 := h2.upd hu (fun j e => e.elim)
  have hA : Arr (w.alloc (.cells #[.int .i64 a, .int .i64 b] 3)) w.heap.size 3 [a, b] := heap_alloc_new w _
  have h4 := h3.snoc (hi' := w.heap.size + 1 + 1) (r := [a, b]) (c := 2) (Row.of (hA.alloc _) rfl (Nat.le_refl _) (by omega)) (by omega)
  have h5 := h4.grown (by simp) hg (own_block (h1.alloc _ |>.alloc _))
  refine ⟨_, by rw [List.length_append, ← hn]; exact hown, h5.more (by have := hg.size; simpa using this), by have := hg.size; simp at this; omega⟩
/-- At the end. -/
theorem Rowed.rows {B : Nat} {v : Value} {rs : List (List Int)} (h : Rowed w B v rs) : ∃ A c, v = .slice A rs.length c ∧ RowsR w B w.heap.size A rs.length rs := by
  obtain ⟨vs, h1, h2, h3⟩ := h
  rcases h1.2 with ⟨rfl, hn⟩ | ⟨g, cap, cur, rfl, hg, hc, _, _, _, ht⟩
  · obtain rfl : rs = [] := List.eq_nil_of_length_eq_zero hn
    exact ⟨none, 0, rfl, RowsR.nil _ _ _ _⟩
  · refine ⟨_, cap, rfl, rfl, fun _ => ⟨g, vs, cur, rfl, hg, (Array.getElem?_eq_some_iff.1 hc).1, hc, fun j u hj => ?_, h2⟩⟩
    rw [← ht, List.getElem?_take] at hj
    split at hj
    · simpa using hj
    · cases hj
end
end Go.Proofs.YtmlihbcffndnbaaDoor

/- CoversOf: the model's and the program's. -/
namespace Go.Proofs.YtmlihbcffndnbaaDoor
open Go.RowKit Go.Shelf
attribute [local go_sem] Oper.semAt_some
attribute [local go_sem, local simp] wide_fn

theorem coverTo_bit {zs : List Int} {a x : Nat} : ∀ b : Nat, bitB (coverTo zs a b) x = (bitB (zs[a]?.getD 0) x && (List.range b).all fun y => !(bitB (zs[a]?.getD 0) y && bitB (zs[y]?.getD 0) x))
  | 0 => by simp [coverTo]
  | b + 1 => by
    have ih := coverTo_bit (zs := zs) (a := a) (x := x) b
    rw [List.range_succ, List.all_append, List.all_cons, List.all_nil, Bool.and_true]
    cases h : bitB (zs[a]?.getD 0) b
    · rw [coverTo_no h, ih]; simp
    · rw [coverTo_yes h, bitB_less, ih, Bool.and_assoc]; simp
theorem coverTo_items {zs : List Int} (h : Sets zs) {a : Nat} (ha : a < zs.length) : itemsL (coverTo zs a zs.length) = (itemsL (zs[a]?.getD 0)).filter (nextB zs a) := by
  unfold itemsL itemsTo
  rw [List.filter_filter]
  refine List.filter_congr fun x hx => ?_
  rw [coverTo_bit, Bool.and_comm]
  congr 1
  unfold nextB
  rw [Bool.eq_iff_iff]
  simp only [List.all_eq_true, List.mem_range, Bool.not_eq_true', itemsL, mem_itemsTo, Bool.and_eq_false_iff]
  constructor
  · rintro h1 y ⟨_, hy⟩
    have hyn := bitB_lt (h.2 a ha).2 hy
    rcases h1 y hyn with h2 | h2
    · rw [hy] at h2; cases h2
    · exact h2
  · intro h1 y hy
    cases hb : bitB (zs[a]?.getD 0) y
    · exact .inl rfl
    · exact .inr (h1 y ⟨by have := h.1; omega, hb⟩)

def rowOf (p : Nat × Nat) : List Int := [(p.1 : Int), (p.2 : Int)]
def covTo (zs : List Int) (k : Nat) : List (Nat × Nat) := (List.range k).flatMap fun a => (itemsL (coverTo zs a zs.length)).map fun b => (a, b)
theorem covTo_succ (zs : List Int) (k : Nat) : covTo zs (k + 1) = covTo zs k ++ (itemsL (coverTo zs k zs.length)).map fun b => (k, b) := by simp [covTo, List.range_succ]
theorem covTo_len {zs : List Int} : ∀ k : Nat, (covTo zs k).length ≤ 6 * k
  | 0 => by simp [covTo]
  | k + 1 => by
    have ih := covTo_len (zs := zs) k
    have h1 : (itemsL (coverTo zs k zs.length)).length ≤ 6 := Nat.le_trans (List.length_filter_le _ _) (by simp)
    rw [covTo_succ]
    simp
    omega
def coverB (zs : List Int) (p : Nat × Nat) : Bool := nextB zs p.1 p.2
theorem cov_pairs {zs : List Int} (h : Sets zs) : covTo zs zs.length = (pairsL zs).filter (coverB zs) := by
  have key : ∀ k, k ≤ zs.length → covTo zs k = (pairsTo zs k).filter (coverB zs) := fun k => by
    induction k with
    | zero => intro _; rfl
    | succ k ih =>
      intro hk
      rw [covTo_succ, pairsTo_succ, List.filter_append, ih (by omega), coverTo_items h (by omega), List.filter_map]
      rfl
  exact key _ (Nat.le_refl _)
def coversR (zs : List Int) : List (List Int) := if vo zs then (covTo zs zs.length).map rowOf else []
theorem pairs_len {zs : List Int} (h : zs.length ≤ 6) : (pairsL zs).length ≤ 36 := by
  have key : ∀ k, (pairsTo zs k).length ≤ 6 * k := fun k => by
    induction k with
    | zero => simp [pairsTo]
    | succ k ih =>
      have h1 : (itemsL (zs[k]?.getD 0)).length ≤ 6 := Nat.le_trans (List.length_filter_le _ _) (by simp)
      rw [pairsTo_succ]
      simp
      omega
  have := key zs.length
  unfold pairsL
  omega
def covAt (zs : List Int) (n a j : Nat) : List (List Int) := (covTo zs a).map rowOf ++ ((itemsL (coverTo zs a n)).take j).map fun b => rowOf (a, b)
theorem covAt_zero (zs : List Int) (n a : Nat) : covAt zs n a 0 = (covTo zs a).map rowOf := by simp [covAt]
theorem covAt_all {zs : List Int} {n a : Nat} (h : zs.length = n) : covAt zs n a (itemsL (coverTo zs a n)).length = (covTo zs (a + 1)).map rowOf := by
  subst h
  simp [covAt, covTo_succ, Function.comp_def]
theorem covAt_succ {zs : List Int} {n a j : Nat} (hj : j < (itemsL (coverTo zs a n)).length) : covAt zs n a j ++ [[(a : Int), ((itemsL (coverTo zs a n)).map fun x : Nat => (x : Int))[j]?.getD 0]] = covAt zs n a (j + 1) := by
  rw [covAt, covAt, List.take_succ_eq_append_getElem hj, List.map_append, ← List.append_assoc]
  simp [rowOf, hj]
theorem covAt_len {zs : List Int} {n a j : Nat} (ha : a < 6) : (covAt zs n a j).length ≤ 36 := by
  have h1 := covTo_len (zs := zs) a
  have h2 : (itemsL (coverTo zs a n)).length ≤ 6 := Nat.le_trans (List.length_filter_le _ _) (by simp)
  have h3 : ((itemsL (coverTo zs a n)).take j).length ≤ 6 := by rw [List.length_take]; omega
  simp only [covAt, List.length_append, List.length_map]
  omega

theorem own_lt {w : World} {B : Nat} {v : Value} {rs : List (List Int)} (h : Rowed w B v rs) : ∀ k, v.ownBlock = some k → k < w.heap.size := fun k hk => by
  obtain ⟨vs, h1, _⟩ := h
  obtain ⟨cs, hcs⟩ := own_block h1 k hk
  exact (Array.getElem?_eq_some_iff.1 hcs).1
theorem cell_new2 (w : World) (o : Obj) (e : TypeId) (u : Value) : ((w.alloc o).alloc (.cells #[u] e)).cell? ⟨w.heap.size + 1, 0, none⟩ = some u := by
  have h := cell_new (w.alloc o) e u
  rwa [World.size_alloc] at h
end Go.Proofs.YtmlihbcffndnbaaDoor

/- The model's tests of chains and of sets apart. -/
namespace Go.Proofs.YtmlihbcffndnbaaDoor
open Go.RowKit

theorem relB_comm (zs : List Int) (a b : Nat) : relB zs a b = relB zs b a := by unfold relB; rw [Bool.or_comm]
/-- The item at place a of a set. -/
def itAt (s : Int) (a : Nat) : Nat := (itemsL s)[a]?.getD 0
theorem itAt_mem {s : Int} {a : Nat} (ha : a < (itemsL s).length) : itAt s a ∈ itemsL s := by
  unfold itAt; rw [List.getElem?_eq_getElem ha]; exact List.getElem_mem ha
theorem itAt_cast {s : Int} {a : Nat} (ha : a < (itemsL s).length) : (((itemsL s).map fun x : Nat => (x : Int))[a]?.getD 0) = (itAt s a : Int) := by
  unfold itAt; rw [List.getElem?_map, List.getElem?_eq_getElem ha]; rfl
theorem itAt_lt {n : Nat} {s : Int} {a : Nat} (hn : n ≤ 6) (h1 : s < powI n) (ha : a < (itemsL s).length) : itAt s a < n := by
  have hpn := powI_le6 (n := (n : Int)) (by omega)
  exact bitB_lt h1 ((mem_itemsL (by omega)).1 (itAt_mem ha))
theorem chB_of {zs : List Int} {s : Int} (h : ∀ a, a < (itemsL s).length → ∀ b, b < a → relB zs (itAt s a) (itAt s b) = true) : chB zs s = true := by
  unfold chB
  rw [decide_eq_true_eq]
  refine List.pairwise_iff_getElem.2 fun i j hi hj hij => ?_
  have := h j hj i hij
  rw [relB_comm] at this
  simpa [itAt, hi, hj] using this
theorem chB_not {zs : List Int} {s : Int} {a b : Nat} (ha : a < (itemsL s).length) (hb : b < a) (h : relB zs (itAt s a) (itAt s b) = false) : chB zs s = false := by
  unfold chB
  rw [decide_eq_false_iff_not]
  intro hc
  have := List.pairwise_iff_getElem.1 hc b a (by omega) ha hb
  rw [relB_comm] at this
  simp [itAt, ha, Nat.lt_trans hb ha] at h
  simp [h] at this
theorem apB_of {zs : List Int} {s : Int} (h : ∀ a, a < (itemsL s).length → (andI (zs[itAt s a]?.getD 0) s == 0) = true) : apB zs s = true := by
  unfold apB
  rw [List.all_eq_true]
  intro x hx
  obtain ⟨i, hi, rfl⟩ := List.getElem_of_mem hx
  have := h i hi
  simpa [itAt, hi] using this
theorem apB_not {zs : List Int} {s : Int} {a : Nat} (ha : a < (itemsL s).length) (h : (andI (zs[itAt s a]?.getD 0) s == 0) = false) : apB zs s = false := by
  unfold apB
  cases hc : (itemsL s).all fun a => andI (zs[a]?.getD 0) s == 0 with
  | false => rfl
  | true => rw [List.all_eq_true.1 hc _ (itAt_mem ha)] at h; cases h

end Go.Proofs.YtmlihbcffndnbaaDoor

/- Rows of numbers under way, that grow by append: where they lie; what has been read of them; rows whose cells alone are told. -/
namespace Go.Proofs.YtmlihbcffndnbaaDoor
open Go.RowKit

/-- A row of numbers under way, in a block that S names. -/
def OwnS (S : Nat → Prop) (w : World) (B : Nat) (e : TypeId) (v : Value) (xs : List Int) : Prop := (∀ k, v.ownBlock = some k → S k) ∧ w.ownsRow B e 1 v xs.length (xs.map (Value.int .i64))
section
variable {S R : Nat → Prop} {w w' : World} {B : Nat} {e : TypeId} {v : Value} {xs : List Int}
theorem OwnS.keep (h : OwnS S w B e v xs) (hu : Upd R w w') (hS : ∀ k, S k → ¬ R k) : OwnS S w' B e v xs := by
  obtain ⟨h0, h1⟩ := h
  refine ⟨h0, h1.1, ?_⟩
  rcases h1.2 with e | ⟨g, cap, cur, rfl, hg, hc, hrest⟩
  · exact .inl e
  · exact .inr ⟨g, cap, cur, rfl, hg, (hu.block g (Array.getElem?_eq_some_iff.1 hc).1 (hS g (h0 g rfl))).trans hc, hrest⟩
theorem OwnS.none (S : Nat → Prop) (w : World) (B : Nat) (e : TypeId) : OwnS S w B e (.slice none 0 0) [] := ⟨fun k hk => by simp [Value.ownBlock] at hk, rfl, .inl ⟨rfl, rfl⟩⟩
theorem own_lt' {base n : Nat} {ys : List Value} (h : w.ownsRow base e 1 v n ys) : ∀ g, v.ownBlock = some g → g < w.heap.size := fun g hg => by
  rcases h.2 with ⟨rfl, _⟩ | ⟨g', cap, cur, rfl, _, hc, _⟩
  · simp [Value.ownBlock] at hg
  · simp [Value.ownBlock] at hg; subst hg; exact (Array.getElem?_eq_some_iff.1 hc).1
theorem OwnS.step {S' : Nat → Prop} {x : Int} {o : Obj} {v' : Value} (h : OwnS S w B e v xs) (hown : w'.ownsRow B e 1 v' (xs.length + 1) (xs.map (Value.int .i64) ++ [.int .i64 x])) (hv : v'.ownBlock = v.ownBlock ∨ v'.ownBlock = some (w.alloc o).heap.size)
    (hS : ∀ k, S k → S' k) (hS1 : w.heap.size + 1 < w'.heap.size → S' (w.heap.size + 1)) : OwnS S' w' B e v' (xs ++ [x]) :=
  ⟨fun k hk => by
    rcases hv with e | e
    · exact hS k (h.1 k (e ▸ hk))
    · have hlt := own_lt' hown k hk
      rw [e] at hk; simp at hk; subst hk; exact hS1 hlt, by rw [List.length_append, List.map_append]; exact hown⟩
end

/-- A row whose cells are told, in a block from lo up to less than hi (empty ones may lie anywhere). -/
def RowC (w : World) (lo hi : Nat) (A : Option Addr) (n : Nat) (xs : List Int) : Prop :=
  xs.length = n ∧ (0 < n → ∃ b, A = some ⟨b, 0, none⟩ ∧ lo ≤ b ∧ b < hi ∧ ∀ j, j < n → w.cell? ⟨b, j, none⟩ = some (.int .i64 (xs[j]?.getD 0)))
section
variable {w w' : World} {lo hi n : Nat} {A : Option Addr} {xs : List Int} {R : Nat → Prop}
theorem RowC.len (h : RowC w lo hi A n xs) : xs.length = n := h.1
theorem RowC.nil (w : World) (lo hi : Nat) (A : Option Addr) : RowC w lo hi A 0 [] := ⟨rfl, fun h => absurd h (by omega)⟩
theorem RowC.ints (h : RowC w lo hi A n xs) {B : Nat} (hB : hi ≤ B) : Ints w B A n xs :=
  ⟨h.1, fun hn => by
    obtain ⟨b, e, _, hb, hc⟩ := h.2 hn
    exact ⟨b, 0, e, by omega, fun j hj => by rw [Nat.zero_add]; exact hc j hj⟩⟩
theorem RowC.upd (h : RowC w lo hi A n xs) (hu : Upd R w w') (hr : ∀ j, R j → j < lo ∨ hi ≤ j) : RowC w' lo hi A n xs :=
  ⟨h.1, fun hn => by
    obtain ⟨b, e, hl, hb, hc⟩ := h.2 hn
    exact ⟨b, e, hl, hb, fun j hj => hu.cell (hc j hj) (fun hr' => by have := hr b hr'; omega)⟩⟩
theorem RowC.below {B : Nat} (h : RowC w lo hi A n xs) (hu : Below B w w') (hB : hi ≤ B) : RowC w' lo hi A n xs := h.upd (Below.toUpd hu) (fun j hj => by omega)
theorem RowC.more {lo' hi' : Nat} (h : RowC w lo hi A n xs) (h1 : lo' ≤ lo) (h2 : hi ≤ hi') : RowC w lo' hi' A n xs :=
  ⟨h.1, fun hn => by
    obtain ⟨b, e, hl, hb, hc⟩ := h.2 hn
    exact ⟨b, e, by omega, by omega, hc⟩⟩
theorem Row.told (h : Row w lo hi A n xs) : RowC w lo hi A n xs :=
  ⟨h.1, fun hn => by
    obtain ⟨b, ys, e, hl, hb, hA⟩ := h.2 hn
    exact ⟨b, e, hl, hb, fun j hj => by
      have hl := h.1
      rw [hA.cell (by rw [List.length_append]; omega), List.getElem?_append_left (by omega)]⟩⟩
/-- A grown row's cells. -/
theorem rowC_of_own {base m : Nat} {e : TypeId} {v : Value} (h : w.ownsRow base e 1 v m (xs.map (Value.int .i64))) : ∃ A c, v = .slice A m c ∧ RowC w base w.heap.size A m xs := by
  obtain ⟨A, c, rfl, hI, hA⟩ := ints_of_own_at h
  refine ⟨A, c, rfl, hI.1, fun hn => ?_⟩
  rcases h.2 with ⟨e, _⟩ | ⟨g, cap, cur, e, hg, hgc, _⟩
  · cases e; omega
  · cases e
    refine ⟨g, rfl, hg, (Array.getElem?_eq_some_iff.1 hgc).1, fun j hj => ?_⟩
    obtain ⟨b, off, e1, hb, hc⟩ := hI.2 hn
    cases e1
    have := hc j hj
    rwa [Nat.zero_add] at this
end
/-- What a function that hands back a new row of numbers does: its cells told. -/
def GivesRowC (w : World) (xs : List Int) (e : Ending) (w' : World) : Prop := ∃ A n c, e = .returned (.slice A n c) ∧ RowC w' w.heap.size w'.heap.size A n xs ∧ Below w.heap.size w w'
end Go.Proofs.YtmlihbcffndnbaaDoor

/- Orders beside each other, and one above the other: as both sides tell them. No program. -/
namespace Go.Proofs.YtmlihbcffndnbaaDoor
open Go.RowKit

/-- The sets of items behind n other ones. -/
def shl (n : Nat) (ys : List Int) : List Int := ys.map fun y => y * powI n
theorem shl_len (n : Nat) (ys : List Int) : (shl n ys).length = ys.length := by simp [shl]
theorem shl_get (n : Nat) (ys : List Int) {k : Nat} (hk : k < ys.length) : (shl n ys)[k]?.getD 0 = (ys[k]?.getD 0) * powI n := by
  unfold shl
  rw [List.getElem?_map, List.getElem?_eq_getElem hk]; rfl
theorem take_snocJ (l : List Int) {k : Nat} (hk : k < l.length) : l.take (k + 1) = l.take k ++ [l[k]?.getD 0] := by
  rw [List.take_succ_eq_append_getElem hk, List.getElem?_eq_getElem hk]; rfl
theorem shl_snoc (n : Nat) (ys : List Int) {k : Nat} (hk : k < ys.length) : (shl n ys).take (k + 1) = (shl n ys).take k ++ [(ys[k]?.getD 0) * powI n] := by
  rw [take_snocJ _ (by rw [shl_len]; exact hk), shl_get n ys hk]
/-- All items of the second order, behind n. -/
def behI (n m : Nat) : Int := (powI m - 1) * powI n
def uqS (n m : Nat) (over : Bool) (z : Int) : Int := if over then orI z (behI n m) else z
def uqL (n m : Nat) (over : Bool) (zs : List Int) : List Int := zs.map (uqS n m over)
theorem uqL_len (n m : Nat) (over : Bool) (zs : List Int) : (uqL n m over zs).length = zs.length := by simp [uqL]
theorem uqL_get (n m : Nat) (over : Bool) (zs : List Int) {k : Nat} (hk : k < zs.length) : (uqL n m over zs)[k]?.getD 0 = uqS n m over (zs[k]?.getD 0) := by
  unfold uqL
  rw [List.getElem?_map, List.getElem?_eq_getElem hk]; rfl
theorem uqL_snoc (n m : Nat) (over : Bool) (zs : List Int) {k : Nat} (hk : k < zs.length) : (uqL n m over zs).take (k + 1) = (uqL n m over zs).take k ++ [uqS n m over (zs[k]?.getD 0)] := by
  rw [take_snocJ _ (by rw [uqL_len]; exact hk), uqL_get n m over zs hk]
theorem uqL_false (n m : Nat) (zs : List Int) : uqL n m false zs = zs := by
  unfold uqL
  have : uqS n m false = id := by funext z; rfl
  rw [this, List.map_id]
def bothL (zs ys : List Int) (over : Bool) : List Int := uqL zs.length ys.length over zs ++ shl zs.length ys
theorem bothL_len (zs ys : List Int) (over : Bool) : (bothL zs ys over).length = zs.length + ys.length := by unfold bothL; rw [List.length_append, uqL_len, shl_len]
def bothB (zs ys : List Int) : Bool := vo zs && (vo ys && decide (zs.length + ys.length ≤ 6))
def bothR (zs ys : List Int) (over : Bool) : List Int := if bothB zs ys then bothL zs ys over else []
theorem bothR_le (zs ys : List Int) (over : Bool) : (bothR zs ys over).length ≤ 1048576 := by
  unfold bothR
  split
  · rename_i h
    unfold bothB at h
    simp only [Bool.and_eq_true, decide_eq_true_eq] at h
    rw [bothL_len]; omega
  · simp
theorem bothB_parts {zs ys : List Int} (h : bothB zs ys = true) : VoP zs ∧ VoP ys ∧ zs.length + ys.length ≤ 6 := by
  unfold bothB at h
  simp only [Bool.and_eq_true, decide_eq_true_eq] at h
  exact ⟨by simpa [vo] using h.1, by simpa [vo] using h.2.1, h.2.2⟩
theorem powI_add6 : ∀ n : Fin 7, ∀ m : Fin 7, powI (n.val : Int) * powI (m.val : Int) = powI ((n.val + m.val : Nat) : Int) := by decide +kernel
theorem beh_fin : ∀ n : Fin 7, ∀ m : Fin 7, n.val + m.val ≤ 6 → 0 ≤ behI n.val m.val ∧ behI n.val m.val < 64 ∧ lessI (powI ((n.val + m.val : Nat) : Int) - 1) (powI (n.val : Int) - 1) = behI n.val m.val := by decide +kernel
theorem beh_bd {n m : Nat} (h : n + m ≤ 6) : 0 ≤ behI n m ∧ behI n m < 64 := ⟨(beh_fin ⟨n, by omega⟩ ⟨m, by omega⟩ h).1, (beh_fin ⟨n, by omega⟩ ⟨m, by omega⟩ h).2.1⟩
theorem beh_less {n m : Nat} (h : n + m ≤ 6) : lessI (powI ((n + m : Nat) : Int) - 1) (powI (n : Int) - 1) = behI n m := (beh_fin ⟨n, by omega⟩ ⟨m, by omega⟩ h).2.2
theorem shl_bd {n m : Nat} {z : Int} (h0 : 0 ≤ z) (h1 : z < powI m) (h : n + m ≤ 6) : 0 ≤ z * powI n ∧ z * powI n < 64 := by
  have hp := powI_pos (n : Int)
  have e := powI_add6 ⟨n, by omega⟩ ⟨m, by omega⟩
  have h64 := powI_le6 (n := ((n + m : Nat) : Int)) (by omega)
  simp only at e
  refine ⟨Int.mul_nonneg h0 (by omega), ?_⟩
  have h2 : (z + 1) * powI n ≤ powI m * powI n := Int.mul_le_mul_of_nonneg_right (by omega) (by omega)
  rw [Int.add_mul, Int.one_mul, Int.mul_comm (powI m), e] at h2
  omega
end Go.Proofs.YtmlihbcffndnbaaDoor

/- Rows that grew by append: their block has spare cells behind; marking them. -/
namespace Go.Proofs.YtmlihbcffndnbaaDoor
open Go.RowKit

/-- A row at the head of a block of numbers' cells, in a block from lo up to less than hi (empty ones may lie anywhere). -/
def RowV (w : World) (lo hi : Nat) (A : Option Addr) (n : Nat) (xs : List Int) : Prop :=
  xs.length = n ∧ (0 < n → ∃ b cur, A = some ⟨b, 0, none⟩ ∧ lo ≤ b ∧ b < hi ∧ w.heap[b]? = some (.cells cur 3 (0, 0)) ∧ cur.toList.take n = xs.map (Value.int .i64))
section
variable {w w' : World} {lo hi n : Nat} {A : Option Addr} {xs : List Int} {R : Nat → Prop}
theorem RowV.len (h : RowV w lo hi A n xs) : xs.length = n := h.1
theorem RowV.nil (w : World) (lo hi : Nat) (A : Option Addr) : RowV w lo hi A 0 [] := ⟨rfl, fun h => absurd h (by omega)⟩
theorem RowV.upd (h : RowV w lo hi A n xs) (hu : Upd R w w') (hr : ∀ j, R j → j < lo ∨ hi ≤ j) : RowV w' lo hi A n xs :=
  ⟨h.1, fun hn => by
    obtain ⟨b, cur, e, hl, hb, hc, ht⟩ := h.2 hn
    exact ⟨b, cur, e, hl, hb, (hu.block b (Array.getElem?_eq_some_iff.1 hc).1 (fun hr' => by have := hr b hr'; omega)).trans hc, ht⟩⟩
theorem RowV.below {B : Nat} (h : RowV w lo hi A n xs) (hu : Below B w w') (hB : hi ≤ B) : RowV w' lo hi A n xs := h.upd (Below.toUpd hu) (fun j hj => by omega)
theorem RowV.more {lo' hi' : Nat} (h : RowV w lo hi A n xs) (h1 : lo' ≤ lo) (h2 : hi ≤ hi') : RowV w lo' hi' A n xs :=
  ⟨h.1, fun hn => by
    obtain ⟨b, cur, e, hl, hb, hc⟩ := h.2 hn
    exact ⟨b, cur, e, by omega, by omega, hc⟩⟩
theorem take_at {cur : Array Value} {n j : Nat} {ys : List Value} (h : cur.toList.take n = ys) (hj : j < n) : cur[j]? = ys[j]? := by
  rw [← h, List.getElem?_take, if_pos hj, Array.getElem?_toList]
theorem RowV.told (h : RowV w lo hi A n xs) : RowC w lo hi A n xs :=
  ⟨h.1, fun hn => by
    obtain ⟨b, cur, e, hl, hb, hc, ht⟩ := h.2 hn
    refine ⟨b, e, hl, hb, fun j hj => ?_⟩
    have hj2 : j < xs.length := by rw [h.1]; exact hj
    rw [cell_of_row w b j _ _ (0, 0) hc, take_at ht hj, List.getElem?_map, List.getElem?_eq_getElem hj2]
    simp⟩
theorem RowV.ints (h : RowV w lo hi A n xs) {B : Nat} (hB : hi ≤ B) : Ints w B A n xs := h.told.ints hB
theorem rowV_of_own {base m : Nat} {v : Value} (h : w.ownsRow base 3 1 v m (xs.map (Value.int .i64))) : ∃ A c, v = .slice A m c ∧ RowV w base w.heap.size A m xs := by
  have hl : xs.length = m := by simpa using h.1
  rcases h.2 with ⟨rfl, rfl⟩ | ⟨g, cap, cur, rfl, hg, hc, _, _, _, ht⟩
  · obtain rfl : xs = [] := List.eq_nil_of_length_eq_zero hl
    exact ⟨none, 0, rfl, RowV.nil _ _ _ _⟩
  · exact ⟨_, cap, rfl, hl, fun _ => ⟨g, cur, rfl, hg, (Array.getElem?_eq_some_iff.1 hc).1, hc, by simpa using ht⟩⟩
end

/-- What a function that hands back a new row of numbers does. -/
def GivesRowV (w : World) (xs : List Int) (e : Ending) (w' : World) : Prop := ∃ A n c, e = .returned (.slice A n c) ∧ RowV w' w.heap.size w'.heap.size A n xs ∧ Below w.heap.size w w'
/-- What a function that hands back a new row and whether there is one does. -/
def GivesAtV (w : World) (xs : List Int) (t : Bool) (e : Ending) (w' : World) : Prop := ∃ A n c, e = .returned (.tuple #[.slice A n c, .bool t]) ∧ RowV w' w.heap.size w'.heap.size A n xs ∧ Below w.heap.size w w'
theorem RowV.set0 {w : World} {lo hi n : Nat} {A : Option Addr} {xs : List Int} (h : RowV w lo hi A n xs) {b : Nat} (hA : A = some ⟨b, 0, none⟩) (v : Int) : RowV (w.setCell ⟨b, 0, none⟩ (.int .i64 v)) lo hi A n (xs.set 0 v) :=
  ⟨by rw [List.length_set]; exact h.1, fun hn => by
    obtain ⟨b', cur, e, hl, hb, hc, ht⟩ := h.2 hn
    rw [hA] at e
    cases e
    exact ⟨b, cur.setIfInBounds 0 (.int .i64 v), hA, hl, hb, by simp [World.setCell, Array.getElem?_modify, hc], by rw [Array.toList_setIfInBounds, List.take_set, ht, ← List.map_set]⟩⟩
theorem RowV.cell {w : World} {lo hi n : Nat} {A : Option Addr} {xs : List Int} (h : RowV w lo hi A n xs) (hn : 0 < n) : ∃ b, A = some ⟨b, 0, none⟩ ∧ lo ≤ b ∧ b < hi ∧ (∀ j, w.frozen? ⟨b, j, none⟩ = false) ∧ ∀ j, j < n → w.cell? ⟨b, j, none⟩ = some (.int .i64 (xs[j]?.getD 0)) := by
  obtain ⟨b, cur, e, hl, hb, hc, ht⟩ := h.2 hn
  obtain ⟨b', e', _, _, hcell⟩ := h.told.2 hn
  rw [e] at e'
  cases e'
  exact ⟨b, e, hl, hb, fun j => frozen_of_row _ _ j _ _ hc, hcell⟩
end Go.Proofs.YtmlihbcffndnbaaDoor

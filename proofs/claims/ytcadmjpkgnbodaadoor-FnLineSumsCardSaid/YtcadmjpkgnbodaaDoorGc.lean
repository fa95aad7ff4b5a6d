/- Texts that several claims share, one behind the other. -/
import Derived.Test.YtcadmjpkgnbodaaDoorGa
import Derived.Deep.RegionLaw
import Derived.Deep.AppendLies
import Derived.Maps.AppendAt
import Derived.Test.YtcadmjpkgnbodaaDoorGb
import Derived.StillTailTactics
/- One element put at its place: an append of any number of elements, as a step of a region that draws its order. -/
namespace Go.Proofs.YtcadmjpkgnbodaaDoor
open Go.RowKit

section
variable {P : Program} (w : World)
theorem own_form {w : World} {base n : Nat} {e : TypeId} {v : Value} {xs : List Value} (h : w.ownsRow base e 1 v n xs) (hv : v ≠ .slice none 0 0) : ∃ g cap, v = .slice (some ⟨g, 0, none⟩) n cap ∧ base ≤ g ∧ g < w.heap.size ∧ n ≤ cap ∧ cap ≤ maxLen := by
  rcases h.2 with ⟨e, _⟩ | ⟨g, cap, cur, rfl, hg, hc, h1, h2, _⟩
  · exact absurd e hv
  · exact ⟨g, cap, rfl, hg, (Array.getElem?_eq_some_iff.1 hc).1, h1, h2⟩
theorem step_append_any {ops : Array Oper} {o : Oper} {a : Act} {K : Act → World → Prop} {Q : Exit → Act → World → Prop} {E : Prop} (hgd : o.guard = none) (s x : Operand) (t : TypeId)
    (ho : o.op = .call { callee := .builtin .append, args := #[s, x], argTypes := #[t, t] })
    (base : Nat) (e : TypeId) (i : TypeInfo) (z : Value) (bytes : Nat) (ht : P.underlying t = some (.slice e)) (hi : P.info? e = some i) (hz : i.zero = some z)
    (hsize : i.size = 1) (hby : i.bytes = bytes) (hzs : z.cells.size = 1)
    (v : Value) (n : Nat) (xs : List Value) (hs : a.eval s = v) (hv : v ≠ .slice none 0 0) (hown : w.ownsRow base e 1 v n xs)
    (ad : Addr) (m c : Nat) (news : List Value) (hx : a.eval x = .slice (some ad) m c) (hl : news.length = m) (hnews : ∀ j u, news[j]? = some u → w.cell? (ad.add j) = some u) (h1 : ∀ u ∈ news, u.oneCell' = true)
    (h63 : n + m ≤ maxLen) (hbytes : (n + m) * bytes ≤ 140737488355328) (hbase : base ≤ w.heap.size)
    (h : ∀ g cap w', w'.ownsRow base e 1 (.slice (some ⟨g, 0, none⟩) (n + m) cap) (n + m) (xs ++ news) → w.grownBy w' v.ownBlock → base ≤ g → g < w'.heap.size → n + m ≤ cap → cap ≤ maxLen → K (a.put o.dst (.slice (some ⟨g, 0, none⟩) (n + m) cap)) w') :
    if Region.wanted o (yielded ops a.tmps) = true then Oper.wp P o a w K Q else E := by
  have hw : Region.wanted o (yielded ops a.tmps) = true := by simp [Region.wanted, hgd]
  rw [if_pos hw]
  obtain ⟨v', w', hr, h2, h3, h4, _⟩ := run_append_own_at (P := P) w base t o.type e i z 1 bytes ht hi hz hsize hby hzs (by omega) v n xs hown ad m c news (by omega) hnews h1 h63 hbytes hbase
  obtain ⟨g, cap, rfl, hg, hlt, hnc, hcm⟩ := own_form h2 (fun e => hv (h4.1 e).1)
  unfold Oper.wp execOp
  simp only [ho, resolve, invoke, builtin, Sem.run_bind, Sem.run_pure, Result.andThen_ok, List.map_toArray, List.map_cons, List.map_nil, hs, hx, hr]
  exact h g cap w' h2 h3 hg hlt hnc hcm
theorem own_sooner {w : World} {b b' n : Nat} {e : TypeId} {v : Value} {xs : List Value} (h : w.ownsRow b e 1 v n xs) (hb : b' ≤ b) : w.ownsRow b' e 1 v n xs := by
  refine ⟨h.1, ?_⟩
  rcases h.2 with h1 | ⟨g, cap, cur, rfl, hg, hrest⟩
  · exact .inl h1
  · exact .inr ⟨g, cap, cur, rfl, by omega, hrest⟩
end
/-- The row's numbers from one place on, or up to one: as what is appended. -/
theorem news_at {w w' : World} {B b k n : Nat} {ts zs : List Int} (hc : ∀ j, j < n → w.cell? ⟨b, j, none⟩ = some (.int .i64 (ts[j]?.getD 0))) (hu : Upd (fun k => B ≤ k) w w') (hb : b < B) {ad : Addr}
    (had : ∀ j, j < zs.length → ad.add j = ⟨b, k + j, none⟩) (hz : ∀ j, j < zs.length → zs[j]?.getD 0 = ts[k + j]?.getD 0) (hl : k + zs.length ≤ n) :
    ∀ j u, (zs.map (Value.int .i64))[j]? = some u → w'.cell? (ad.add j) = some u := fun j u hu' => by
  rw [List.getElem?_map] at hu'
  cases hg : zs[j]? with
  | none => rw [hg] at hu'; cases hu'
  | some z =>
    have hj : j < zs.length := (List.getElem?_eq_some_iff.1 hg).1
    rw [hg] at hu'
    simp only [Option.map_some, Option.some.injEq] at hu'
    rw [had j hj, hu.cell (hc (k + j) (by omega)) (by simp; omega), ← hz j hj, hg, ← hu']
    rfl
theorem news_one {w : World} {ad : Addr} {u : Value} (h : w.cell? ad = some u) : ∀ j u', [u][j]? = some u' → w.cell? (ad.add j) = some u' := fun j u' hu => by
  cases j with
  | zero => simp at hu; subst hu; simpa [Addr.add] using h
  | succ j => simp at hu
theorem cell_new_alloc (w : World) (e : TypeId) (u : Value) (o : Obj) : ((w.alloc (.cells #[u] e)).alloc o).cell? ⟨w.heap.size, 0, none⟩ = some u :=
  (World.cell?_of_block (Below.heap_alloc _ _ _ (by simp))).trans (cell_new w e u)
theorem own_new2 (w : World) (o : Obj) (e : TypeId) : ((w.alloc o).alloc (.cells #[] e)).ownsRow w.heap.size e 1 (.slice (some ⟨w.heap.size + 1, 0, none⟩) 0 0) 0 [] := by
  have h := own_new (w.alloc o) e
  rw [World.size_alloc] at h
  exact own_sooner h (by omega)
theorem own_cells {w : World} {base n g cap : Nat} {e : TypeId} {zs : List Int} (h : w.ownsRow base e 1 (.slice (some ⟨g, 0, none⟩) n cap) n (zs.map (Value.int .i64))) :
    zs.length = n ∧ ∀ j, j < n → w.cell? ⟨g, j, none⟩ = some (.int .i64 (zs[j]?.getD 0)) := by
  obtain ⟨A, c, e, hI⟩ := ints_of_own h
  cases e
  refine ⟨hI.len, fun j hj => ?_⟩
  obtain ⟨b, off, e, _, hc⟩ := hI.at_ hj
  cases e
  simpa using hc j hj
theorem own_ge {w : World} {B n : Nat} {e : TypeId} {v : Value} {xs : List Value} (h : w.ownsRow B e 1 v n xs) : ∀ k, v.ownBlock = some k → B ≤ k := own_base h
end Go.Proofs.YtcadmjpkgnbodaaDoor

/- Rows that grew by append: their block has spare cells behind; marking them. -/
namespace Go.Proofs.YtcadmjpkgnbodaaDoor
open Go.RowKit

/-- A row at the head of a block of numbers' cells, in a block from lo up to less than hi (empty ones may lie anywhere). -/
def RowV (w : World) (lo hi : Nat) (A : Option Addr) (n : Nat) (xs : List Int) : Prop :=
  xs.length = n ∧ (0 < n → ∃ b cur, A = some ⟨b, 0, none⟩ ∧ lo ≤ b ∧ b < hi ∧ w.heap[b]? = some (.cells cur 3 (0, 0)) ∧ cur.toList.take n = xs.map (Value.int .i64))
section
variable {w w' : World} {lo hi n : Nat} {A : Option Addr} {xs : List Int} {R : Nat → Prop}
theorem RowV.len (h : RowV w lo hi A n xs) : xs.length = n := h.1
theorem RowV.nil (w : World) (lo hi : Nat) (A : Option Addr) : RowV w lo hi A 0 [] := ⟨rfl, fun h => absurd h (by omega)⟩
theorem RowV.upd (h : RowV w lo hi A n xs) (hu : Upd R w w') (hr : ∀ j, R j → j < lo ∨ hi ≤ j) : RowV w' lo hi A n xs :=
  ⟨h.1, fun hn => by
    obtain ⟨b, cur, e, hl, hb, hc, ht⟩ := h.2 hn
    exact ⟨b, cur, e, hl, hb, (hu.block b (Array.getElem?_eq_some_iff.1 hc).1 (fun hr' => by have := hr b hr'; omega)).trans hc, ht⟩⟩
theorem RowV.below {B : Nat} (h : RowV w lo hi A n xs) (hu : Below B w w') (hB : hi ≤ B) : RowV w' lo hi A n xs := h.upd (Below.toUpd hu) (fun j hj => by omega)
theorem RowV.more {lo' hi' : Nat} (h : RowV w lo hi A n xs) (h1 : lo' ≤ lo) (h2 : hi ≤ hi') : RowV w lo' hi' A n xs :=
  ⟨h.1, fun hn => by
    obtain ⟨b, cur, e, hl, hb, hc⟩ := h.2 hn
    exact ⟨b, cur, e, by omega, by omega, hc⟩⟩
theorem take_at {cur : Array Value} {n j : Nat} {ys : List Value} (h : cur.toList.take n = ys) (hj : j < n) : cur[j]? = ys[j]? := by
  rw [← h, List.getElem?_take, if_pos hj, Array.getElem?_toList]
theorem RowV.told (h : RowV w lo hi A n xs) : RowC w lo hi A n xs :=
  ⟨h.1, fun hn => by
    obtain ⟨b, cur, e, hl, hb, hc, ht⟩ := h.2 hn
    refine ⟨b, e, hl, hb, fun j hj => ?_⟩
    have hj2 : j < xs.length := by rw [h.1]; exact hj
    rw [cell_of_row w b j _ _ (0, 0) hc, take_at ht hj, List.getElem?_map, List.getElem?_eq_getElem hj2]
    simp⟩
theorem RowV.ints (h : RowV w lo hi A n xs) {B : Nat} (hB : hi ≤ B) : Ints w B A n xs := h.told.ints hB
theorem rowV_of_own {base m : Nat} {v : Value} (h : w.ownsRow base 3 1 v m (xs.map (Value.int .i64))) : ∃ A c, v = .slice A m c ∧ RowV w base w.heap.size A m xs := by
  have hl : xs.length = m := by simpa using h.1
  rcases h.2 with ⟨rfl, rfl⟩ | ⟨g, cap, cur, rfl, hg, hc, _, _, _, ht⟩
  · obtain rfl : xs = [] := List.eq_nil_of_length_eq_zero hl
    exact ⟨none, 0, rfl, RowV.nil _ _ _ _⟩
  · exact ⟨_, cap, rfl, hl, fun _ => ⟨g, cur, rfl, hg, (Array.getElem?_eq_some_iff.1 hc).1, hc, by simpa using ht⟩⟩
end

/-- What a function that hands back a new row of numbers does. -/
def GivesRowV (w : World) (xs : List Int) (e : Ending) (w' : World) : Prop := ∃ A n c, e = .returned (.slice A n c) ∧ RowV w' w.heap.size w'.heap.size A n xs ∧ Below w.heap.size w w'
/-- What a function that hands back a new row and whether there is one does. -/
def GivesAtV (w : World) (xs : List Int) (t : Bool) (e : Ending) (w' : World) : Prop := ∃ A n c, e = .returned (.tuple #[.slice A n c, .bool t]) ∧ RowV w' w.heap.size w'.heap.size A n xs ∧ Below w.heap.size w w'
theorem RowV.set0 {w : World} {lo hi n : Nat} {A : Option Addr} {xs : List Int} (h : RowV w lo hi A n xs) {b : Nat} (hA : A = some ⟨b, 0, none⟩) (v : Int) : RowV (w.setCell ⟨b, 0, none⟩ (.int .i64 v)) lo hi A n (xs.set 0 v) :=
  ⟨by rw [List.length_set]; exact h.1, fun hn => by
    obtain ⟨b', cur, e, hl, hb, hc, ht⟩ := h.2 hn
    rw [hA] at e
    cases e
    exact ⟨b, cur.setIfInBounds 0 (.int .i64 v), hA, hl, hb, by simp [World.setCell, Array.getElem?_modify, hc], by rw [Array.toList_setIfInBounds, List.take_set, ht, ← List.map_set]⟩⟩
theorem RowV.cell {w : World} {lo hi n : Nat} {A : Option Addr} {xs : List Int} (h : RowV w lo hi A n xs) (hn : 0 < n) : ∃ b, A = some ⟨b, 0, none⟩ ∧ lo ≤ b ∧ b < hi ∧ (∀ j, w.frozen? ⟨b, j, none⟩ = false) ∧ ∀ j, j < n → w.cell? ⟨b, j, none⟩ = some (.int .i64 (xs[j]?.getD 0)) := by
  obtain ⟨b, cur, e, hl, hb, hc, ht⟩ := h.2 hn
  obtain ⟨b', e', _, _, hcell⟩ := h.told.2 hn
  rw [e] at e'
  cases e'
  exact ⟨b, e, hl, hb, fun j => frozen_of_row _ _ j _ _ hc, hcell⟩
end Go.Proofs.YtcadmjpkgnbodaaDoor

/- slices.Clone of an order; a row under way whose cells are stored into; what a list of sets tells, of two lists. -/
namespace Go.Proofs.YtcadmjpkgnbodaaDoor
open Go.RowKit Go.Shelf
attribute [local go_sem] Oper.semAt_some
attribute [local go_sem, local simp] wide_fn

section
variable {P : Program} (w : World)
theorem wpList_appendK {ops : Array Oper} {rest : List Oper} {o : Oper} {a : Act} {Q : Exit → Act → World → Prop} (hgd : o.guard = none) (s x : Operand) (t : TypeId)
    (ho : o.op = .call { callee := .builtin .append, args := #[s, x], argTypes := #[t, t] })
    (base : Nat) (e : TypeId) (i : TypeInfo) (z : Value) (bytes : Nat) (ht : P.underlying t = some (.slice e)) (hi : P.info? e = some i) (hz : i.zero = some z)
    (hsize : i.size = 1) (hby : i.bytes = bytes) (hzs : z.cells.size = 1)
    (v : Value) (n : Nat) (xs : List Value) (hs : a.eval s = v) (hown : w.ownsRow base e 1 v n xs)
    (ad : Addr) (m c : Nat) (news : List Value) (hx : a.eval x = .slice (some ad) m c) (hl : news.length = m) (hnews : ∀ j u, news[j]? = some u → w.cell? (ad.add j) = some u) (h1 : ∀ u ∈ news, u.oneCell' = true)
    (h63 : n + m ≤ maxLen) (hbytes : (n + m) * bytes ≤ 140737488355328) (hbase : base ≤ w.heap.size)
    (h : ∀ v' w', w'.ownsRow base e 1 v' (n + m) (xs ++ news) → w.grownBy w' v.ownBlock → wpList P ops Q rest (a.put o.dst v') w') : wpList P ops Q (o :: rest) a w := by
  obtain ⟨v', w', hrun, h2, h3, _, _⟩ := run_append_own_at (P := P) w base t o.type e i z 1 bytes ht hi hz hsize hby hzs (by omega) v n xs hown ad m c news (by omega) hnews h1 h63 hbytes hbase
  refine wpList_plain hgd fun K hK => ?_
  unfold Oper.wp execOp
  simp only [ho, resolve, invoke, builtin, Sem.run_bind, Sem.run_pure, Result.andThen_ok, List.map_toArray, List.map_cons, List.map_nil, hs, hx, hrun]
  exact hK _ _ (h v' w' h2 h3)
end
theorem addr_add3 (b k j : Nat) : (⟨b, k, none⟩ : Addr).add j = ⟨b, k + j, none⟩ := by unfold Addr.add; split <;> simp_all
theorem own_set {w : World} {base n g cap : Nat} {e : TypeId} {xs : List Value} (h : w.ownsRow base e 1 (.slice (some ⟨g, 0, none⟩) n cap) n xs) (k : Nat) (u : Value) :
    (w.setCell ⟨g, k, none⟩ u).ownsRow base e 1 (.slice (some ⟨g, 0, none⟩) n cap) n (xs.set k u) := by
  refine ⟨by rw [List.length_set]; exact h.1, ?_⟩
  rcases h.2 with ⟨e, _⟩ | ⟨g', cap', cur, e, hg, hc, h1, h2, h3, ht⟩
  · cases e
  · cases e
    refine .inr ⟨g, cap, cur.setIfInBounds k u, rfl, hg, by simp [World.setCell, Array.getElem?_modify, hc], h1, h2, by simpa using h3, ?_⟩
    rw [Array.toList_setIfInBounds, List.take_set, ht]
theorem own_cell {w : World} {base n g cap : Nat} {e : TypeId} {zs : List Int} (h : w.ownsRow base e 1 (.slice (some ⟨g, 0, none⟩) n cap) n (zs.map (Value.int .i64))) : (∀ j, j < n → w.cell? ⟨g, j, none⟩ = some (.int .i64 (zs[j]?.getD 0))) ∧ (∀ j, w.frozen? ⟨g, j, none⟩ = false) ∧ g < w.heap.size := by
  refine ⟨(own_cells h).2, fun j => ?_, own_lt' h g rfl⟩
  rcases h.2 with ⟨e, _⟩ | ⟨g', cap', cur, e, hg, hc, _⟩
  · cases e
  · cases e
    exact frozen_of_row _ _ j _ _ hc
theorem own_some {w : World} {base n : Nat} {e : TypeId} {v : Value} {xs : List Value} (h : w.ownsRow base e 1 v n xs) (hn : 0 < n) : ∃ g cap, v = .slice (some ⟨g, 0, none⟩) n cap := by
  rcases h.2 with ⟨_, e⟩ | ⟨g, cap, cur, e, _⟩
  · omega
  · exact ⟨g, cap, e⟩

/-- What reading two lists gives. -/
def Reads2 (zs ys : List Int) (n m : Nat) (w : World) (e : Ending) (w' : World) : Prop :=
  Below w.heap.size w w' ∧ ((vo zs = true ∧ vo ys = true ∧ ∃ b b', e = .returned (.tuple #[.slice (some ⟨b, 0, none⟩) n n, .slice (some ⟨b', 0, none⟩) m m, .bool true]) ∧ Arr w' b 37 zs ∧ Arr w' b' 37 ys) ∨
    ((vo zs && vo ys) = false ∧ ∃ A k A' k', e = .returned (.tuple #[.slice A k k, .slice A' k' k', .bool false])))
end Go.Proofs.YtcadmjpkgnbodaaDoor

/- OrderOf: what follows. -/
namespace Go.Proofs.YtcadmjpkgnbodaaDoor
open Go.RowKit Go.Shelf

/-- One step: what is above m is put above l, if m is. -/
def fol1 (m : Nat) (d : List Int) (l : Nat) : List Int := if bitB (d[l]?.getD 0) m then d.set l (orI (d[l]?.getD 0) (d[m]?.getD 0)) else d
def folIn (m : Nat) (d : List Int) (b : Nat) : List Int := (List.range b).foldl (fol1 m) d
def folTo (n : Nat) (d : List Int) (a : Nat) : List Int := (List.range a).foldl (fun d m => folIn m d n) d
theorem folIn_succ (m : Nat) (d : List Int) (b : Nat) : folIn m d (b + 1) = fol1 m (folIn m d b) b := by simp [folIn, List.range_succ]
theorem folTo_succ (n : Nat) (d : List Int) (a : Nat) : folTo n d (a + 1) = folIn a (folTo n d a) n := by simp [folTo, List.range_succ]
def Fit (n : Nat) (d : List Int) : Prop := d.length = n ∧ ∀ j : Nat, 0 ≤ d[j]?.getD 0 ∧ d[j]?.getD 0 < powI n
theorem fol1_fit {n m l : Nat} {d : List Int} (h : Fit n d) : Fit n (fol1 m d l) := by
  unfold fol1
  split
  · refine ⟨by simpa using h.1, fun j => ?_⟩
    by_cases hj : l = j
    · subst hj
      by_cases hl : l < d.length
      · rw [List.getElem?_set_self hl]
        exact orI_bd (h.2 _).1 (h.2 _).2 (h.2 _).1 (h.2 _).2
      · rw [List.set_eq_of_length_le (by omega)]
        exact h.2 _
    · rw [List.getElem?_set_ne hj]
      exact h.2 j
  · exact h
theorem folIn_fit {n m : Nat} {d : List Int} (h : Fit n d) : ∀ b : Nat, Fit n (folIn m d b)
  | 0 => h
  | b + 1 => by rw [folIn_succ]; exact fol1_fit (folIn_fit h b)
theorem folTo_fit {n : Nat} {d : List Int} (h : Fit n d) : ∀ a : Nat, Fit n (folTo n d a)
  | 0 => h
  | a + 1 => by rw [folTo_succ]; exact folIn_fit (folTo_fit h a) n
theorem base_fit {n : Nat} {ps : List (Nat × Nat)} (h : ∀ p ∈ ps, p.1 < n) : Fit n (downP n ps) := ⟨downP_len _ _, fun j => downP_bd h j⟩

end Go.Proofs.YtcadmjpkgnbodaaDoor

/- OrderOf: the program's and the model's. -/
namespace Go.Proofs.YtcadmjpkgnbodaaDoor
open Go.RowKit Go.Shelf

/-- Whether a row is a pair of numbers of items. -/
def pairOk (n : Int) (r : List Int) : Bool := decide (r.length = 2) && inB (r[0]?.getD 0) 0 (n - 1) && inB (r[1]?.getD 0) 0 (n - 1)
def prOf (r : List Int) : Nat × Nat := ((r[1]?.getD 0).toNat, (r[0]?.getD 0).toNat)
def baseR (n : Nat) (rs : List (List Int)) : List Int := downP n (rs.map prOf)
def closR (n : Nat) (rs : List (List Int)) : List Int := folTo n (baseR n rs) n
def ordOk (n : Int) (rs : List (List Int)) : Bool := inB n 0 6 && rs.all (pairOk n) && vo (closR n.toNat rs)
def ordL (n : Int) (rs : List (List Int)) : List Int := if ordOk n rs then closR n.toNat rs else []
def GivesOrder (w : World) (n : Int) (rs : List (List Int)) (e : Ending) (w' : World) : Prop :=
  ∃ A m c, e = .returned (.tuple #[.slice A m c, .bool (ordOk n rs)]) ∧ Row w' w.heap.size w'.heap.size A m (ordL n rs) ∧ Below w.heap.size w w'

theorem inB_iff {a l h : Int} : inB a l h = true ↔ l ≤ a ∧ a ≤ h := by simp [inB]
theorem pairOk_iff {n : Int} {r : List Int} : pairOk n r = true ↔ r.length = 2 ∧ ((0 : Int) ≤ r[0]?.getD 0 ∧ r[0]?.getD 0 ≤ n - 1) ∧ ((0 : Int) ≤ r[1]?.getD 0 ∧ r[1]?.getD 0 ≤ n - 1) := by
  simp [pairOk, inB_iff, and_assoc]
theorem baseR_fit {n : Nat} {rs : List (List Int)} (h : ∀ r ∈ rs, pairOk n r = true) : Fit n (baseR n rs) ∧ Sets (baseR n rs) ∨ 6 < n := by
  by_cases hn : n ≤ 6
  · have hf : Fit n (baseR n rs) := base_fit (fun p hp => by
      obtain ⟨r, hr, rfl⟩ := List.mem_map.1 hp
      have := pairOk_iff.1 (h r hr)
      show (r[1]?.getD 0).toNat < n
      omega)
    exact .inl ⟨hf, by rw [hf.1]; exact hn, fun a _ => by rw [hf.1]; exact hf.2 a⟩
  · exact .inr (by omega)
theorem baseR_snoc (n : Nat) (rs : List (List Int)) (r : List Int) : baseR n (rs ++ [r]) = (baseR n rs).set (r[0]?.getD 0).toNat (orI ((baseR n rs)[(r[0]?.getD 0).toNat]?.getD 0) (powI (r[1]?.getD 0).toNat)) := by
  rw [baseR, List.map_append, List.map_singleton, downP_snoc]; rfl
theorem take_snoc {rs : List (List Int)} {k : Nat} (hk : k < rs.length) : rs.take k ++ [rs[k]?.getD []] = rs.take (k + 1) := by
  rw [List.take_succ_eq_append_getElem hk, List.getElem?_eq_getElem hk]; rfl
theorem fit_sets {n : Nat} {d : List Int} (h : Fit n d) (hn : n ≤ 6) : Sets d := ⟨by rw [h.1]; exact hn, fun a _ => by rw [h.1]; exact h.2 a⟩
theorem ord_no {n : Int} {rs : List (List Int)} {k : Nat} (hk : k < rs.length) (h : pairOk n (rs[k]?.getD []) = false) : ordOk n rs = false := by
  unfold ordOk
  rw [List.getElem?_eq_getElem hk, Option.getD_some] at h
  have : rs.all (pairOk n) = false := by
    rw [Bool.eq_false_iff]
    intro ha
    rw [List.all_eq_true.1 ha _ (List.getElem_mem hk)] at h
    cases h
  rw [this]; simp
theorem none_order {w w' : World} {n : Int} {rs : List (List Int)} (h : ordOk n rs = false) (hB : Below w.heap.size w w') : GivesOrder w n rs (.returned (.tuple #[.slice none 0 0, .bool false])) w' :=
  ⟨none, 0, 0, by rw [h], by rw [ordL, h]; exact Row.nil _ _ _ _, hB⟩

end Go.Proofs.YtcadmjpkgnbodaaDoor

/- What follows: the closure by single items is transitive, and is the least one; of next ones it is the order. No program. -/
namespace Go.Proofs.YtcadmjpkgnbodaaDoor

/-- Whether d holds the pair. -/
def qB (d : List Int) (a b : Nat) : Prop := bitB (d[a]?.getD 0) b = true
theorem qB_lt {n : Nat} {d : List Int} (h : d.length = n) {a b : Nat} (hq : qB d a b) : a < n := by
  rcases Nat.lt_or_ge a n with h1 | h1
  · exact h1
  · unfold qB at hq
    rw [List.getElem?_eq_none (by omega), Option.getD_none, bitB_zero] at hq
    cases hq
theorem fol1_q {m l : Nat} {d : List Int} (hl : l < d.length) (a b : Nat) : qB (fol1 m d l) a b ↔ qB d a b ∨ (a = l ∧ qB d l m ∧ qB d m b) := by
  unfold fol1
  split
  · rename_i h
    unfold qB
    by_cases ha : l = a
    · subst ha
      rw [List.getElem?_set_self hl, Option.getD_some, bitB_or, Bool.or_eq_true]
      simp [h]
    · rw [List.getElem?_set_ne ha]
      have : ¬ a = l := fun e => ha e.symm
      simp [this]
  · rename_i h
    unfold qB
    simp [h]
theorem folIn_len (m : Nat) (d : List Int) : ∀ b : Nat, (folIn m d b).length = d.length
  | 0 => rfl
  | b + 1 => by
    rw [folIn_succ]
    unfold fol1
    split
    · rw [List.length_set, folIn_len m d b]
    · exact folIn_len m d b
theorem folIn_q {m : Nat} {d : List Int} : ∀ b' : Nat, b' ≤ d.length → ∀ a b : Nat, qB (folIn m d b') a b ↔ qB d a b ∨ (a < b' ∧ qB d a m ∧ qB d m b)
  | 0, _, a, b => by simp [folIn]
  | b' + 1, h, a, b => by
    have ih := folIn_q (m := m) (d := d) b' (by omega)
    rw [folIn_succ, fol1_q (by rw [folIn_len]; omega), ih a b, ih b' m, ih m b]
    constructor
    · rintro ((h1 | ⟨h1, h2⟩) | ⟨rfl, (h1 | ⟨h1, _⟩), (h2 | ⟨_, _, h2⟩)⟩)
      · exact .inl h1
      · exact .inr ⟨by omega, h2⟩
      · exact .inr ⟨by omega, h1, h2⟩
      · exact .inr ⟨by omega, h1, h2⟩
      · omega
      · omega
    · rintro (h1 | ⟨h1, h2, h3⟩)
      · exact .inl (.inl h1)
      · rcases Nat.lt_or_ge a b' with h4 | h4
        · exact .inl (.inr ⟨h4, h2, h3⟩)
        · obtain rfl : a = b' := by omega
          exact .inr ⟨rfl, .inl h2, .inl h3⟩
theorem folTo_len (n : Nat) (d : List Int) : ∀ k : Nat, (folTo n d k).length = d.length
  | 0 => rfl
  | k + 1 => by rw [folTo_succ, folIn_len, folTo_len n d k]
theorem folTo_q {n : Nat} {d : List Int} (hd : d.length = n) (k a b : Nat) : qB (folTo n d (k + 1)) a b ↔ qB (folTo n d k) a b ∨ (qB (folTo n d k) a k ∧ qB (folTo n d k) k b) := by
  rw [folTo_succ, folIn_q n (by rw [folTo_len, hd]; exact Nat.le_refl _)]
  constructor
  · rintro (h | ⟨_, h⟩)
    · exact .inl h
    · exact .inr h
  · rintro (h | h)
    · exact .inl h
    · exact .inr ⟨qB_lt (by rw [folTo_len, hd]) h.1, h⟩
theorem folTo_base {n : Nat} {d : List Int} (hd : d.length = n) {a b : Nat} (h : qB d a b) : ∀ k : Nat, qB (folTo n d k) a b
  | 0 => h
  | k + 1 => (folTo_q hd k a b).2 (.inl (folTo_base hd h k))
theorem folTo_trans {n : Nat} {d : List Int} (hd : d.length = n) : ∀ k x : Nat, x < k → ∀ a b : Nat, qB (folTo n d k) a x → qB (folTo n d k) x b → qB (folTo n d k) a b
  | 0, _, h, _, _, _, _ => by omega
  | k + 1, x, hx, a, b, h1, h2 => by
    have ih := folTo_trans hd k
    rw [folTo_q hd] at h1 h2 ⊢
    rcases Nat.lt_or_ge x k with hk | hk
    · rcases h1 with h1 | ⟨h1, h1'⟩ <;> rcases h2 with h2 | ⟨h2, h2'⟩
      · exact .inl (ih x hk a b h1 h2)
      · exact .inr ⟨ih x hk a k h1 h2, h2'⟩
      · exact .inr ⟨h1, ih x hk k b h1' h2⟩
      · exact .inr ⟨h1, h2'⟩
    · obtain rfl : x = k := by omega
      have g1 : qB (folTo n d x) a x := by rcases h1 with h | h; exact h; exact h.1
      have g2 : qB (folTo n d x) x b := by rcases h2 with h | h; exact h; exact h.2
      exact .inr ⟨g1, g2⟩
theorem folTo_le {n : Nat} {d : List Int} (hd : d.length = n) {P : Nat → Nat → Prop} (hP : ∀ a b c, P a b → P b c → P a c) (h : ∀ a b, qB d a b → P a b) : ∀ k a b : Nat, qB (folTo n d k) a b → P a b
  | 0, a, b, hq => h a b hq
  | k + 1, a, b, hq => by
    have ih := folTo_le hd hP h k
    rcases (folTo_q hd k a b).1 hq with h1 | ⟨h1, h2⟩
    · exact ih a b h1
    · exact hP _ _ _ (ih a k h1) (ih k b h2)

theorem baseR_q {n : Nat} {rs : List (List Int)} (h : ∀ r ∈ rs, pairOk n r = true) (a b : Nat) : qB (baseR n rs) a b ↔ ∃ r ∈ rs, (r[0]?.getD 0).toNat = a ∧ (r[1]?.getD 0).toNat = b := by
  unfold qB baseR
  rw [downP_bit (fun p hp => by
    obtain ⟨r, hr, rfl⟩ := List.mem_map.1 hp
    have := pairOk_iff.1 (h r hr)
    show (r[0]?.getD 0).toNat < n
    omega), List.mem_map]
  constructor
  · rintro ⟨r, hr, e⟩
    simp only [prOf, Prod.mk.injEq] at e
    exact ⟨r, hr, e.2, e.1⟩
  · rintro ⟨r, hr, e1, e2⟩
    exact ⟨r, hr, by simp [prOf, e1, e2]⟩
theorem baseR_len (n : Nat) (rs : List (List Int)) : (baseR n rs).length = n := downP_len _ _
theorem closR_len (n : Nat) (rs : List (List Int)) : (closR n rs).length = n := by unfold closR; rw [folTo_len, baseR_len]
/-- Each pair is in the order. -/
theorem closR_has {n : Nat} {rs : List (List Int)} (h : ∀ r ∈ rs, pairOk n r = true) {r : List Int} (hr : r ∈ rs) : bitB ((closR n rs)[(r[0]?.getD 0).toNat]?.getD 0) (r[1]?.getD 0) = true := by
  have hq := folTo_base (baseR_len n rs) ((baseR_q h _ _).2 ⟨r, hr, rfl, rfl⟩) n
  have hp := pairOk_iff.1 (h r hr)
  unfold qB at hq
  rw [Int.toNat_of_nonneg hp.2.2.1] at hq
  exact hq

/-- Each pair of the order follows from next ones. -/
theorem covers_make {zs : List Int} (h : VoP zs) : ∀ (k a b : Nat), lt zs a b → rank zs b - rank zs a ≤ k → qB (closR zs.length (coversR zs)) a b := by
  have hcr : coversR zs = (covTo zs zs.length).map rowOf := by unfold coversR; rw [vo_true h]; rfl
  have hall : ∀ r ∈ coversR zs, pairOk zs.length r = true := fun r hr => by
    rw [hcr] at hr
    obtain ⟨p, hp, rfl⟩ := List.mem_map.1 hr
    rw [cov_pairs h.sets] at hp
    obtain ⟨h1, h2, _⟩ := h.sets.pair (a := p.1) (b := p.2) ((List.mem_filter.1 hp).1)
    rw [pairOk_iff]
    simp [rowOf]
    omega
  have hbase : ∀ a b, lt zs a b → nextB zs a b = true → qB (closR zs.length (coversR zs)) a b := fun a b hl hn => by
    refine folTo_base (baseR_len _ _) ((baseR_q hall a b).2 ⟨rowOf (a, b), ?_, by simp [rowOf], by simp [rowOf]⟩) _
    rw [hcr, cov_pairs h.sets]
    exact List.mem_map.2 ⟨(a, b), List.mem_filter.2 ⟨pairs_lt h hl, hn⟩, rfl⟩
  intro k
  induction k with
  | zero =>
    intro a b hl hk
    have := rank_lt h hl
    omega
  | succ k ih =>
    intro a b hl hk
    cases hn : nextB zs a b with
    | true => exact hbase a b hl hn
    | false =>
      unfold nextB at hn
      rw [List.all_eq_false] at hn
      obtain ⟨x, hx, hb⟩ := hn
      have hzb := h.sets.bd a hl.1
      have hxa : lt zs a x := ⟨hl.1, (mem_itemsL hzb.2).1 hx⟩
      have hxn := h.lt_n hxa
      have hxb : lt zs x b := ⟨hxn, by simpa using hb⟩
      have r1 := rank_lt h hxa
      have r2 := rank_lt h hxb
      exact folTo_trans (baseR_len _ _) _ x hxn a b (ih a x hxa (by omega)) (ih x b hxb (by omega))
theorem covers_ok {zs : List Int} (h : VoP zs) : ∀ r ∈ coversR zs, pairOk zs.length r = true := fun r hr => by
  have hcr : coversR zs = (covTo zs zs.length).map rowOf := by unfold coversR; rw [vo_true h]; rfl
  rw [hcr] at hr
  obtain ⟨p, hp, rfl⟩ := List.mem_map.1 hr
  rw [cov_pairs h.sets] at hp
  obtain ⟨h1, h2, _⟩ := h.sets.pair (a := p.1) (b := p.2) ((List.mem_filter.1 hp).1)
  rw [pairOk_iff]
  simp [rowOf]
  omega
theorem clos_covers {zs : List Int} (h : VoP zs) : closR zs.length (coversR zs) = zs := by
  have hok := covers_ok h
  have hcr : coversR zs = (covTo zs zs.length).map rowOf := by unfold coversR; rw [vo_true h]; rfl
  have hfit : Fit zs.length (closR zs.length (coversR zs)) := folTo_fit (((baseR_fit hok).resolve_right (by have := h.1; omega)).1) _
  refine List.ext_getElem (by rw [closR_len]) fun a h1 h2 => ?_
  have e1 : (closR zs.length (coversR zs))[a]?.getD 0 = (closR zs.length (coversR zs))[a] := by rw [List.getElem?_eq_getElem h1]; rfl
  have e2 : zs[a]?.getD 0 = zs[a] := by rw [List.getElem?_eq_getElem h2]; rfl
  rw [← e1, ← e2]
  refine bitB_ext (hfit.2 a).1 (h.bd a h2).1 fun b => ?_
  rw [Bool.eq_iff_iff]
  constructor
  · intro hq
    refine (folTo_le (baseR_len _ _) (P := lt zs) (fun x y z => h.trans) (fun x y hxy => ?_) _ a b hq).2
    obtain ⟨r, hr, rfl, rfl⟩ := (baseR_q hok x y).1 hxy
    rw [hcr] at hr
    obtain ⟨p, hp, rfl⟩ := List.mem_map.1 hr
    rw [cov_pairs h.sets] at hp
    have := lt_pairs ((List.mem_filter.1 hp).1)
    simpa [rowOf] using this
  · intro hb
    exact covers_make h _ a b ⟨h2, hb⟩ (Nat.le_refl _)
theorem ord_covers {zs : List Int} (h : VoP zs) : ordOk zs.length (coversR zs) = true ∧ ordL zs.length (coversR zs) = zs := by
  have hok : ordOk (zs.length : Int) (coversR zs) = true := by
    unfold ordOk
    rw [Int.toNat_natCast, clos_covers h, vo_true h, List.all_eq_true.2 (covers_ok h)]
    have := h.1
    simp [inB]
    omega
  refine ⟨hok, ?_⟩
  unfold ordL
  rw [if_pos hok, Int.toNat_natCast, clos_covers h]
theorem covers_few {zs : List Int} (h : VoP zs) : (coversR zs).length ≤ 1048576 ∧ ∀ r ∈ coversR zs, r.length ≤ 1048576 := by
  refine ⟨?_, fun r hr => by have := (pairOk_iff.1 (covers_ok h r hr)).1; omega⟩
  have hcr : coversR zs = (covTo zs zs.length).map rowOf := by unfold coversR; rw [vo_true h]; rfl
  have h1 := covTo_len (zs := zs) zs.length
  have h2 := h.1
  rw [hcr, List.length_map]
  omega
/-- What an order made of pairs is. -/
theorem ord_is {n : Int} {rs : List (List Int)} (h : ordOk n rs = true) : VoP (ordL n rs) ∧ ((ordL n rs).length : Int) = n ∧ (∀ r ∈ rs, pairOk n r = true) ∧
    ∀ r ∈ rs, bitB ((ordL n rs)[(r[0]?.getD 0).toNat]?.getD 0) (r[1]?.getD 0) = true := by
  have h' := h
  unfold ordOk at h
  simp only [Bool.and_eq_true, List.all_eq_true] at h
  obtain ⟨⟨h1, h2⟩, h3⟩ := h
  have hn := inB_iff.1 h1
  have e : ordL n rs = closR n.toNat rs := by unfold ordL; rw [if_pos h']
  have hN : ((n.toNat : Nat) : Int) = n := by omega
  refine ⟨by rw [e]; simpa [vo] using h3, by rw [e, closR_len]; exact hN, h2, fun r hr => ?_⟩
  rw [e]
  exact closR_has (fun r hr => by rw [hN]; exact h2 r hr) hr
end Go.Proofs.YtcadmjpkgnbodaaDoor

/- Lattices: as both sides tell them. No program. -/
namespace Go.Proofs.YtcadmjpkgnbodaaDoor

def JoinsOk (ds : List Int) : Prop := ∀ a, a < ds.length → ∀ b, b < ds.length → 0 ≤ joinI ds a b
instance (ds : List Int) : Decidable (JoinsOk ds) := by unfold JoinsOk; exact inferInstance
def latB (zs : List Int) : Bool := decide (0 < zs.length) && (decide (JoinsOk zs) && decide (JoinsOk (du zs)))
def latR (zs : List Int) : Bool := vo zs && latB zs
theorem join_self {ds : List Int} {a : Nat} (ha : a < ds.length) : 0 ≤ joinI ds a a := by
  rcases jnI_cases (zs := ds) (s := upR ds a a) with ⟨_, h⟩ | ⟨c, e, _⟩
  · exfalso
    have h1 := h a ha
    have h2 : jnB ds (upR ds a a) a = true := by
      unfold jnB
      have e1 : bitB (upR ds a a) a = true := by
        unfold upR
        rw [bitB_and, atUp_bit]
        simp
      have e2 : lessI (upR ds a a) (atUp ds a) = 0 := lessI_none.2 fun j hj => by
        unfold upR at hj
        rw [bitB_and, Bool.and_eq_true] at hj
        exact hj.1
      rw [e1, e2]
      rfl
    rw [h2] at h1
    cases h1
  · show 0 ≤ jnI ds (upR ds a a)
    omega
theorem joins_half {ds : List Int} (h : ∀ a, a < ds.length → ∀ b, b < a → 0 ≤ joinI ds a b) : JoinsOk ds := fun a ha b hb => by
  rcases Nat.lt_trichotomy b a with h1 | h1 | h1
  · exact h a ha b h1
  · subst h1; exact join_self hb
  · rw [join_swap]; exact h b hb a h1
theorem lattice_not {zs ds : List Int} {a b : Nat} (hd : ds = zs ∨ ds = du zs) (ha : a < zs.length) (hb : b < zs.length) (h : joinI ds a b < 0) : latB zs = false := by
  have hn : ¬ JoinsOk ds := fun hok => by
    have := hok a (by rcases hd with e | e <;> rw [e] <;> first | exact ha | (rw [du_len]; exact ha)) b (by rcases hd with e | e <;> rw [e] <;> first | exact hb | (rw [du_len]; exact hb))
    omega
  unfold latB
  rcases hd with e | e <;> subst e
  · rw [decide_eq_false hn]; simp
  · rw [decide_eq_false hn]; simp
theorem lattice_is {zs : List Int} (h1 : JoinsOk zs) (h2 : JoinsOk (du zs)) : latB zs = decide (0 < zs.length) := by
  unfold latB
  rw [decide_eq_true h1, decide_eq_true h2]
  simp
end Go.Proofs.YtcadmjpkgnbodaaDoor

/- Cuts of a lattice: they are as many as items. No program. -/
namespace Go.Proofs.YtcadmjpkgnbodaaDoor

/-- The join of two items, as what is at or above both. -/
theorem join_char {ds : List Int} (h : VoP ds) (hj : JoinsOk ds) {a b : Nat} (ha : a < ds.length) (hb : b < ds.length) :
    ∃ c : Nat, c < ds.length ∧ ∀ i : Nat, (bitB (atUp ds a) i = true ∧ bitB (atUp ds b) i = true) ↔ bitB (atUp ds c) i = true := by
  have h0 := hj a ha b hb
  rcases jnI_cases (zs := ds) (s := upR ds a b) with ⟨e, _⟩ | ⟨c, e, hc, hb2⟩
  · exfalso
    have : joinI ds a b = -1 := e
    omega
  · unfold jnB at hb2
    rw [Bool.and_eq_true, beq_iff_eq] at hb2
    refine ⟨c, hc, fun i => ⟨fun hi => ?_, fun hi => ?_⟩⟩
    · refine lessI_none.1 hb2.2 i ?_
      unfold upR
      rw [bitB_and, Bool.and_eq_true]
      exact hi
    · have h1 := hb2.1
      unfold upR at h1
      rw [bitB_and, Bool.and_eq_true] at h1
      exact ⟨at_trans h h1.1 hi, at_trans h h1.2 hi⟩
/-- What is at or above all of a set is what is at or above one item, if the set is not empty. -/
theorem joins_char {ds : List Int} (h : VoP ds) (hj : JoinsOk ds) (t : Int) : ∀ k : Nat, k ≤ ds.length → (∀ a : Nat, a < k → bitB t a = false) ∨
    ∃ c : Nat, c < ds.length ∧ ∀ i : Nat, (∀ a : Nat, a < k → bitB t a = true → bitB (atUp ds a) i = true) ↔ bitB (atUp ds c) i = true
  | 0, _ => .inl fun a ha => by omega
  | k + 1, hk => by
    have ih := joins_char h hj t k (by omega)
    cases hb : bitB t (k : Int)
    · rcases ih with ih | ⟨c, hc, ih⟩
      · refine .inl fun a ha => ?_
        by_cases e : a = k
        · subst e; exact hb
        · exact ih a (by omega)
      · refine .inr ⟨c, hc, fun i => ?_⟩
        rw [← ih i]
        refine ⟨fun g a ha hs => g a (by omega) hs, fun g a ha hs => ?_⟩
        by_cases e : a = k
        · subst e; rw [hb] at hs; cases hs
        · exact g a (by omega) hs
    · rcases ih with ih | ⟨c, hc, ih⟩
      · refine .inr ⟨k, by omega, fun i => ⟨fun g => g k (by omega) hb, fun g a ha hs => ?_⟩⟩
        by_cases e : a = k
        · subst e; exact g
        · rw [ih a (by omega)] at hs; cases hs
      · obtain ⟨d, hd, hdc⟩ := join_char h hj hc (show k < ds.length by omega)
        refine .inr ⟨d, hd, fun i => ?_⟩
        rw [← hdc i, ← ih i]
        refine ⟨fun g => ⟨fun a ha hs => g a (by omega) hs, g k (by omega) hb⟩, fun g a ha hs => ?_⟩
        by_cases e : a = k
        · subst e; exact g.2
        · exact g.1 a (by omega) hs
/-- One item at or above all. -/
theorem lat_top {ds : List Int} (h : VoP ds) (hn : 0 < ds.length) (hj : JoinsOk ds) : ∃ c : Nat, c < ds.length ∧ ∀ a : Nat, a < ds.length → bitB (atUp ds a) c = true := by
  rcases joins_char h hj (powI ds.length - 1) ds.length (Nat.le_refl _) with g | ⟨c, hc, g⟩
  · have := g 0 hn
    rw [all_bits', decide_eq_false_iff_not] at this
    exact absurd hn this
  · exact ⟨c, hc, fun a ha => (g c).2 (at_self _ _) a ha (by rw [all_bits', decide_eq_true_eq]; exact ha)⟩
theorem latB_parts {zs : List Int} (h : latB zs = true) : 0 < zs.length ∧ JoinsOk zs ∧ JoinsOk (du zs) := by
  unfold latB at h
  rw [Bool.and_eq_true, Bool.and_eq_true, decide_eq_true_eq, decide_eq_true_eq, decide_eq_true_eq] at h
  exact h
theorem lat_du {zs : List Int} (h : VoP zs) (hl : latB zs = true) : latR (du zs) = true := by
  obtain ⟨h1, h2, h3⟩ := latB_parts hl
  unfold latR
  rw [vo_true (du_vo h), lattice_is h3 (by rw [du_du h]; exact h2), du_len, decide_eq_true h1]
  rfl
/-- Each cut of a lattice is what is at or below an item. -/
theorem cut_lat {zs : List Int} (h : VoP zs) (hl : latB zs = true) {s : Int} (hs : s ∈ cutsR zs) : ∃ c : Nat, c < zs.length ∧ s = atUp (du zs) c := by
  obtain ⟨h1, h2, h3⟩ := latB_parts hl
  obtain ⟨s0, s1, hc⟩ := (mem_cuts h).1 hs
  have hsb : ∀ i : Nat, bitB s i = true ↔ i < zs.length ∧ ∀ a : Nat, a < zs.length → bitB (comTo zs s zs.length) a = true → bitB (atUp (du zs) a) i = true := fun i => by
    unfold cutB at hc
    rw [beq_iff_eq] at hc
    have e : comTo (du zs) (comTo zs s zs.length) zs.length = s := hc
    have g := comTo_bit (du zs) (comTo zs s zs.length) i zs.length
    rw [e, du_len] at g
    exact g
  rcases joins_char (du_vo h) h3 (comTo zs s zs.length) zs.length (by rw [du_len]; exact Nat.le_refl _) with g | ⟨c, hc2, g⟩
  · exfalso
    obtain ⟨c, hc3, ht⟩ := lat_top h h1 h2
    have := g c hc3
    rw [Bool.eq_false_iff] at this
    exact this ((comTo_bit _ _ _ _).2 ⟨hc3, fun a ha _ => ht a ha⟩)
  · rw [du_len] at hc2
    have hb := atUp_bd (du_sets h.sets) (a := c) (by rw [du_len]; exact hc2)
    refine ⟨c, hc2, bitB_ext s0 hb.1 fun i => ?_⟩
    rw [Bool.eq_iff_iff, hsb i]
    refine ⟨fun k => (g i).1 k.2, fun k => ⟨?_, (g i).2 k⟩⟩
    rw [at_du h.sets, atUp_bit, Bool.or_eq_true, decide_eq_true_eq] at k
    rcases k with k | k
    · exact bit_none k
    · omega
theorem cuts_lat {zs : List Int} (h : VoP zs) (hl : latB zs = true) : (cutsR zs).length = zs.length := by
  have h1 := cuts_many h
  have h2 := inj_len (fun s : Int => s) (cutsR zs) ((List.range zs.length).map fun c => atUp (du zs) c) (cuts_nodup zs) (fun s hs => by
    obtain ⟨c, hc, e⟩ := cut_lat h hl hs
    exact List.mem_map.2 ⟨c, by simpa using hc, e.symm⟩) (fun s _ t _ e => e)
  rw [List.length_map, List.length_range] at h2
  omega
end Go.Proofs.YtcadmjpkgnbodaaDoor

/- The reader of pseudo-random numbers. -/
namespace Go.Proofs.YtcadmjpkgnbodaaDoor
open Go.RowKit Go.Shelf

set_option maxHeartbeats 1000000 in
theorem newReader_any (A : Option Addr) (n c : Nat) (bs : List Int) (w : World) (h : Byts w w.heap.size A n bs) (hcap : n ≤ c) (hbig : n ≤ 1152921504606846976) :
    Calls Tryd.prog 11 #[.slice A n c] w fun e w' => e = .returned (.pointer (some ⟨w.heap.size, 0, none⟩)) ∧ w' = w.alloc (.cells #[.slice A (min n 2000) c, .int .i64 0] 47) := by
  by_cases hn : n ≤ 2000
  · go_enter Tryd.func11, Tryd.ntmps11
    go_wp2
    go_ret
    exact ⟨rfl, by rw [Nat.min_eq_left hn]⟩
  · obtain ⟨b, off, rfl, hb, hc⟩ := h.at_ (k := 0) (by omega)
    go_enter Tryd.func11, Tryd.ntmps11
    go_wp2
    go_ret
    exact ⟨rfl, by rw [Nat.min_eq_right (by omega)]⟩

theorem bits_xor {a b : Int} (h0 : 0 ≤ a) (h1 : a < 4611686018427387904) (g0 : 0 ≤ b) (g1 : b < 4611686018427387904) : bits .xor .i64 a b = ((a.toNat ^^^ b.toNat : Nat) : Int) := by
  obtain ⟨a, rfl⟩ := Int.eq_ofNat_of_zero_le h0
  obtain ⟨b, rfl⟩ := Int.eq_ofNat_of_zero_le g0
  have hx : a ^^^ b < 2 ^ 62 := Nat.xor_lt_two_pow (by omega) (by omega)
  show IntKind.i64.wrap ((BitVec.ofInt 64 (a : Int) ^^^ BitVec.ofInt 64 (b : Int)).toNat : Int) = _
  rw [BitVec.toNat_xor, ofInt_i64n a (by omega), ofInt_i64n b (by omega), IntKind.wrap_i64]
  simp only [Int.toNat_natCast]
  omega

/-- The reader in block R, at position p, over at most 2000 bytes that lie below it. -/
def Rd (w : World) (R p : Nat) : Prop := ∃ A m c bs, m ≤ 2000 ∧ w.heap[R]? = some (.cells #[.slice A m c, .int .i64 (p : Int)] 47 (0, 0)) ∧ Byts w R A m bs
theorem Rd.lt {w : World} {R p : Nat} (h : Rd w R p) : R < w.heap.size := by
  obtain ⟨_, _, _, _, _, hh, _⟩ := h
  exact (Array.getElem?_eq_some_iff.1 hh).1
theorem Rd.upd {w w' : World} {R p : Nat} {S : Nat → Prop} (h : Rd w R p) (hu : Upd S w w') (hS : ∀ k, S k → R < k) : Rd w' R p := by
  have hl := h.lt
  obtain ⟨A, m, c, bs, hm, hh, hb⟩ := h
  exact ⟨A, m, c, bs, hm, (hu.block R hl (fun e => by have := hS R e; omega)).trans hh, hb.keep fun q hq => World.cell?_of_block (hu.block _ (by omega) (fun e => by have := hS _ e; omega))⟩
theorem Rd.below {w w' : World} {R p B : Nat} (h : Rd w R p) (hb : Below B w w') (hB : R < B) : Rd w' R p := h.upd (Below.toUpd hb) (fun k hk => by omega)

/-- What a picked number is. -/
def Picked (n v : Int) : Prop := (1 ≤ n → 0 ≤ v ∧ v < n) ∧ (n < 1 → v = 0)
theorem picked_mod {n x : Int} (hn : 1 ≤ n) (_hx : 0 ≤ x) : Picked n (x % n) :=
  ⟨fun _ => ⟨Int.emod_nonneg _ (by omega), Int.emod_lt_of_pos _ (by omega)⟩, fun h => by omega⟩

theorem picked_tmod {n x : Int} (hn : 1 ≤ n) (hx : 0 ≤ x) : Picked n (x.tmod n) :=
  ⟨fun _ => ⟨Int.tmod_nonneg _ hx, Int.tmod_lt_of_pos _ (by omega)⟩, fun h => by omega⟩

set_option maxRecDepth 100000 in
set_option maxHeartbeats 4000000 in
theorem pick_any (R p : Nat) (n : Int) (w : World) (h : Rd w R p) (hp : p ≤ 1000000) :
    Calls Tryd.prog 22 #[.pointer (some ⟨R, 0, none⟩), .int .i64 n] w fun e w' => ∃ v, e = .returned (.int .i64 v) ∧ Picked n v ∧ Rd w' R (p + 1) ∧ Upd (fun k => k = R) w w' := by
  obtain ⟨A, m, c, bs, hm, hh, hb⟩ := h
  have hc0 : w.cell? ⟨R, 0, none⟩ = some (.slice A m c) := by rw [cell_of_row w R 0 _ _ (0, 0) hh]; rfl
  have hc1 : w.cell? ⟨R, 1, none⟩ = some (.int .i64 (p : Int)) := by rw [cell_of_row w R 1 _ _ (0, 0) hh]; rfl
  have hf1 : w.frozen? ⟨R, 1, none⟩ = false := by simp [World.frozen?, hh]
  have hU : Upd (fun k => k = R) w (w.setCell ⟨R, 1, none⟩ (.int .i64 ((p : Int) + 1))) := (Upd.refl (fun k => k = R) w).setCell (p := ⟨R, 1, none⟩) (.inr rfl) _
  have hRd : Rd (w.setCell ⟨R, 1, none⟩ (.int .i64 ((p : Int) + 1))) R (p + 1) := ⟨A, m, c, bs, hm, by
    simp [World.setCell, Array.getElem?_modify, hh], hb.keep fun q hq => World.cell?_of_block (hU.block _ (by have := (Array.getElem?_eq_some_iff.1 hh).1; omega) (fun e => by omega))⟩
  by_cases hn : n < 1
  · go_enter Tryd.func22, Tryd.ntmps22
    go_wp2
    go_ret
    exact ⟨0, rfl, ⟨fun h => by omega, fun _ => rfl⟩, hRd, hU⟩
  · by_cases hm0 : m = 0
    · subst hm0
      go_enter Tryd.func22, Tryd.ntmps22
      go_wp2
      go_ret
      exact ⟨0, rfl, ⟨fun h => ⟨Int.le_refl _, by omega⟩, fun _ => rfl⟩, hRd, hU⟩
    · by_cases hpm : p < m
      · obtain ⟨b, off, rfl, hbb, hc⟩ := hb.at_ hpm
        have hcb := hc p hpm
        have hbd := hb.bd p
        have hcb' : (w.setCell ⟨R, 1, none⟩ (.int .i64 ((p : Int) + 1))).cell? ⟨b, off + p, none⟩ = some (.int .u8 (bs[p]?.getD 0)) := (World.cell?_of_block (hU.block b (by have := (Array.getElem?_eq_some_iff.1 hh).1; omega) (fun e => by omega))).trans hcb
        clear hc
        have hpk := picked_mod (n := n) (x := bs[p]?.getD 0) (by omega) hbd.1
        go_enter Tryd.func22, Tryd.ntmps22
        go_wp2
        go_ret
        exact ⟨_, rfl, hpk, hRd, hU⟩
      · obtain ⟨b, off, rfl, hbb, hc⟩ := hb.at_ (k := 0) (by omega)
        have hRl := (Array.getElem?_eq_some_iff.1 hh).1
        have hc' : ∀ j, j < m → (w.setCell ⟨R, 1, none⟩ (.int .i64 ((p : Int) + 1))).cell? ⟨b, off + j, none⟩ = some (.int .u8 (bs[j]?.getD 0)) := fun j hj => (World.cell?_of_block (hU.block b (by omega) (fun e => by omega))).trans (hc j hj)
        have k1 := hc' (p % m) (Nat.mod_lt _ (by omega))
        have k2 := hc' ((p * 7 + 3) % m) (Nat.mod_lt _ (by omega))
        have d1 := hb.bd (p % m)
        have d2 := hb.bd ((p * 7 + 3) % m)
        have e1 : (p : Int) % (m : Int) = ((p % m : Nat) : Int) := by simp
        have e2 : ((p : Int) * 7 + 3) % (m : Int) = (((p * 7 + 3) % m : Nat) : Int) := by simp
        have e3 : (p : Int) / (m : Int) = ((p / m : Nat) : Int) := by simp
        have l1 : p % m < m := Nat.mod_lt _ (by omega)
        have l2 : (p * 7 + 3) % m < m := Nat.mod_lt _ (by omega)
        have l3 : p / m ≤ p := Nat.div_le_self _ _
        clear hc hc'
        generalize p % m = q1 at *
        generalize (p * 7 + 3) % m = q2 at *
        generalize p / m = q3 at *
        generalize bs[q1]?.getD 0 = x1 at *
        generalize bs[q2]?.getD 0 = x2 at *
        go_enter Tryd.func22, Tryd.ntmps22
        go_wp2
        go_region
        have hx := bits_xor (a := x1 * 131 + x2 * 1117 + (p : Int) * 29 + (q3 : Int) * 53) (b := (x1 * 131 + x2 * 1117 + (p : Int) * 29 + (q3 : Int) * 53) / 64) (by omega) (by omega) (by omega) (by omega)
        go_wp2
        go_ret
        exact ⟨_, rfl, picked_mod (by omega) (by omega), hRd, hU.drew⟩

set_option maxHeartbeats 1000000 in
/-- One of a list's numbers. -/
theorem one_any (R p : Nat) (A : Option Addr) (n c B : Nat) (zs : List Int) (w : World) (h : Rd w R p) (hp : p ≤ 1000000) (hI : Ints w B A n zs) (hRB : ∀ b off, A = some ⟨b, off, none⟩ → b ≠ R) (hn : 0 < n) (hbig : n ≤ 1152921504606846976) :
    Calls Tryd.prog 24 #[.pointer (some ⟨R, 0, none⟩), .slice A n c] w fun e w' => ∃ v, e = .returned (.int .i64 v) ∧ v ∈ zs ∧ Rd w' R (p + 1) ∧ Upd (fun k => k = R) w w' := by
  have hlen := Lib.hid hI.len
  obtain ⟨b, off, rfl, hb, hc⟩ := hI.at_ (k := 0) hn
  have hbR := hRB b off rfl
  go_enter Tryd.func24, Tryd.ntmps24
  go_wp2_with fail
  refine (pick_any R p n w h hp).mono ?_
  rintro e w1 ⟨v, rfl, hv, hR1, hU1⟩
  obtain ⟨h0, h1⟩ := hv.1 (by omega)
  obtain ⟨k, rfl⟩ := Int.eq_ofNat_of_zero_le h0
  have hk : k < n := by omega
  have hck := hU1.cell (hc k hk) hbR
  clear hc
  go_wp2
  go_ret
  refine ⟨_, rfl, ?_, hR1, hU1⟩
  have hkl : k < zs.length := by rw [hlen.out]; exact hk
  rw [List.getElem?_eq_getElem hkl, Option.getD_some]
  exact List.getElem_mem hkl
end Go.Proofs.YtcadmjpkgnbodaaDoor

/- Pairs that are drawn. -/
namespace Go.Proofs.YtcadmjpkgnbodaaDoor
open Go.RowKit Go.Shelf

theorem draw_own_lt {w : World} {B : Nat} {v : Value} {rs : List (List Int)} (h : Rowed w B v rs) : ∀ k, v.ownBlock = some k → k < w.heap.size := fun k hk => by
  obtain ⟨vs, h1, _⟩ := h
  obtain ⟨cs, hcs⟩ := own_block h1 k hk
  exact (Array.getElem?_eq_some_iff.1 hcs).1
theorem draw_cell_new2 (w : World) (o : Obj) (e : TypeId) (u : Value) : ((w.alloc o).alloc (.cells #[u] e)).cell? ⟨w.heap.size + 1, 0, none⟩ = some u := by
  have h := cell_new (w.alloc o) e u
  rwa [World.size_alloc] at h

set_option maxRecDepth 100000 in
set_option maxHeartbeats 4000000 in
theorem somePairs_any (R p : Nat) (n : Int) (w : World) (h : Rd w R p) (hp : p ≤ 900000) :
    Calls Tryd.prog 36 #[.pointer (some ⟨R, 0, none⟩), .int .i64 n] w fun e w' => ∃ v rs q, e = .returned v ∧ Rowed w' w.heap.size v rs ∧ (rs.length ≤ 9 ∧ ∀ r ∈ rs, r.length = 2) ∧ q ≤ 19 ∧ Rd w' R (p + q) ∧ Upd (fun k => k = R) w w' := by
  obtain ⟨i0, hi0, hz0, hz1, hz2⟩ := infoRow_parts
  have hRl := h.lt
  go_enter Tryd.func36, Tryd.ntmps36
  go_wp2_with fail
  have R1 := Rowed.new w
  have R2 := R1.keep ((Upd.refl (fun _ => False) (w.alloc (.cells #[] 23))).alloc (.cells #[Value.int .i64 3, .int .i64 4, .int .i64 2, .int .i64 5, .int .i64 1, .int .i64 7, .int .i64 0, .int .i64 9] 3)) (fun _ e => e.elim)
  have hu1 : Upd (fun k => k = R) w ((w.alloc (.cells #[] 23)).alloc (.cells #[Value.int .i64 3, .int .i64 4, .int .i64 2, .int .i64 5, .int .i64 1, .int .i64 7, .int .i64 0, .int .i64 9] 3)) := ((Upd.refl _ _).alloc _).alloc _
  have hL : Arr ((w.alloc (.cells #[] 23)).alloc (.cells #[Value.int .i64 3, .int .i64 4, .int .i64 2, .int .i64 5, .int .i64 1, .int .i64 7, .int .i64 0, .int .i64 9] 3)) (w.heap.size + 1) 3 [3, 4, 2, 5, 1, 7, 0, 9] := by
    have := heap_alloc_new (w.alloc (.cells #[] 23)) (.cells #[Value.int .i64 3, .int .i64 4, .int .i64 2, .int .i64 5, .int .i64 1, .int .i64 7, .int .i64 0, .int .i64 9] 3)
    rw [World.size_alloc] at this
    exact this
  have hR1 := h.upd (((Upd.refl (fun _ => False) w).alloc (.cells #[] 23)).alloc (.cells #[Value.int .i64 3, .int .i64 4, .int .i64 2, .int .i64 5, .int .i64 1, .int .i64 7, .int .i64 0, .int .i64 9] 3)) (fun _ e => e.elim)
  obtain ⟨W1, hW1⟩ : ∃ W1, (w.alloc (.cells #[] 23)).alloc (.cells #[Value.int .i64 3, .int .i64 4, .int .i64 2, .int .i64 5, .int .i64 1, .int .i64 7, .int .i64 0, .int .i64 9] 3) = W1 := ⟨_, rfl⟩
  rw [hW1] at R2 hu1 hL hR1 ⊢
  clear hW1 R1
  refine (one_any R p _ 8 8 _ _ W1 hR1 (by omega) (hL.ints' (n := 8) hL.lt rfl) (fun b off e => by cases e; omega) (by omega) (by omega)).mono ?_
  rintro e w2 ⟨v0, rfl, hv0, hR2, hU2⟩
  have hv9 : 0 ≤ v0 ∧ v0 ≤ 9 := by simp at hv0; omega
  obtain ⟨K, rfl⟩ := Int.eq_ofNat_of_zero_le hv9.1
  have R3 := R2.keep hU2 (fun j e => by omega)
  have hu2 := hu1.trans hU2
  clear hv0 hL R2 hU2 hR1 hu1
  go_wp2
  go_loopw [5, 6] (fun v i wr => ∃ (k p' : Nat) (rs : List (List Int)), k ≤ 9 ∧ i = .int .i64 k ∧ rs.length + k ≤ 9 ∧ (∀ r ∈ rs, r.length = 2) ∧ p ≤ p' ∧ p' + 2 * k ≤ p + 19 ∧ Rowed wr w.heap.size v rs ∧ Rd wr R p' ∧ Upd (fun k => k = R) w wr) (fun _ i _ => (intOf i).toNat)
  case atStart => exact ⟨K, p + 1, [], by omega, rfl, by simp; omega, (fun r hr => by simp at hr), by omega, by omega, R3, hR2, hu2⟩
  case round =>
    clear R3 hR2 hu2
    obtain ⟨k, p', rs, hk, rfl, hlen, hall, hpp, hp', hRo, hRd, hU⟩ := hrel
    have zU := hU.size
    by_cases hlt : 0 < k
    · go_wp2_with fail
      refine (pick_any R p' n _ hRd (by omega)).mono ?_
      rintro e w3 ⟨a, rfl, ha, hRd3, hU3⟩
      go_wp2_with fail
      refine (pick_any R (p' + 1) n _ hRd3 (by omega)).mono ?_
      rintro e w4 ⟨b, rfl, hb, hRd4, hU4⟩
      have hU34 := hU3.trans hU4
      have hRo4 := hRo.keep hU34 (fun j e => by omega)
      have hUw := hU.trans hU34
      obtain ⟨vs, hown, hC, hb1⟩ := hRo4
      have Hall := Lib.hid hall
      clear hall hRo hU hU3 hU4 hU34 hRd hRd3
      by_cases hab : b < a
      · go_wp2_with (at_builtin; go_loud (refine wpList_append1 _ rfl (.tmp 31) (.tmp 35) _ rfl w.heap.size 23 i0 _ 24 Tryd.underlying61 hi0 hz0 hz1 hz2 rfl _ rs.length _ rfl ((hown.alloc _).alloc _) (w4.heap.size + 1) 1 (.slice (some ⟨w4.heap.size, 0, none⟩) 2 2) rfl (draw_cell_new2 _ _ _ _) rfl (by omega) (by omega) (by simp; omega) ?_); rintro v' w' hown' hg' -)
        go_roundw
        case rel => exact ⟨k - 1, p' + 1 + 1, rs ++ [[b, a]], by omega, by go_num, by simp; omega, (fun r hr => by
          rcases List.mem_append.1 hr with hr | hr
          · exact Hall.out r hr
          · rw [List.mem_singleton.1 hr]; rfl), by omega, by omega, Rowed.step hown rfl hC hb1 hown' hg', hRd4.upd ((((Upd.refl (fun k => w.heap.size ≤ k) w4).alloc _).alloc _).grown hg' (fun k hk => .inr (own_base hown k hk))) (fun k hk => by omega), hUw.trans' ((((Upd.refl (fun k => w.heap.size ≤ k) w4).alloc _).alloc _).grown hg' (fun k hk => .inr (own_base hown k hk))) (fun i hi e => by omega)⟩
        case measure => simp [intOf]; omega
      · by_cases hab2 : a < b
        · go_wp2_with (at_builtin; go_loud (refine wpList_append1 _ rfl (.tmp 31) (.tmp 35) _ rfl w.heap.size 23 i0 _ 24 Tryd.underlying61 hi0 hz0 hz1 hz2 rfl _ rs.length _ rfl ((hown.alloc _).alloc _) (w4.heap.size + 1) 1 (.slice (some ⟨w4.heap.size, 0, none⟩) 2 2) rfl (draw_cell_new2 _ _ _ _) rfl (by omega) (by omega) (by simp; omega) ?_); rintro v' w' hown' hg' -)
          go_roundw
          case rel => exact ⟨k - 1, p' + 1 + 1, rs ++ [[a, b]], by omega, by go_num, by simp; omega, (fun r hr => by
            rcases List.mem_append.1 hr with hr | hr
            · exact Hall.out r hr
            · rw [List.mem_singleton.1 hr]; rfl), by omega, by omega, Rowed.step hown rfl hC hb1 hown' hg', hRd4.upd ((((Upd.refl (fun k => w.heap.size ≤ k) w4).alloc _).alloc _).grown hg' (fun k hk => .inr (own_base hown k hk))) (fun k hk => by omega), hUw.trans' ((((Upd.refl (fun k => w.heap.size ≤ k) w4).alloc _).alloc _).grown hg' (fun k hk => .inr (own_base hown k hk))) (fun i hi e => by omega)⟩
          case measure => simp [intOf]; omega
        · go_wp2
          go_roundw
          case rel => exact ⟨k - 1, p' + 1 + 1, rs, by omega, by go_num, by omega, Hall.out, by omega, by omega, ⟨vs, hown, hC, hb1⟩, hRd4, hUw⟩
          case measure => simp [intOf]; omega
    · obtain rfl : k = 0 := by omega
      go_wp2
      go_ret
      exact ⟨_, rs, p' - p, rfl, hRo, ⟨by omega, hall⟩, by omega, by rw [show p + (p' - p) = p' by omega]; exact hRd, hU⟩
end Go.Proofs.YtcadmjpkgnbodaaDoor

/- A list of pairs that is drawn is short. -/
namespace Go.Proofs.YtcadmjpkgnbodaaDoor
open Go.RowKit Go.Shelf

theorem Rowed.step1 {w w' : World} {B n : Nat} {v v' : Value} {rs : List (List Int)} {vs : List Value} {a : Int} (h1 : w.ownsRow B 23 1 v n vs) (hn : n = rs.length) (h2 : RowsC w B w.heap.size vs rs) (hB : B ≤ w.heap.size)
    (hown : w'.ownsRow B 23 1 v' (n + 1) (vs ++ [.slice (some ⟨w.heap.size, 0, none⟩) 1 1]))
    (hg : ((w.alloc (.cells #[.int .i64 a] 3)).alloc (.cells #[.slice (some ⟨w.heap.size, 0, none⟩) 1 1] 23)).grownBy w' v.ownBlock) : Rowed w' B v' (rs ++ [[a]]) := by
  have hu : Upd (fun _ => False) w ((w.alloc (.cells #[.int .i64 a] 3)).alloc (.cells #[.slice (some ⟨w.heap.size, 0, none⟩) 1 1] 23)) := ((Upd.refl _ w).alloc _).alloc _
  have h3 := h2.upd hu (fun j e => e.elim)
  have hA : Arr (w.alloc (.cells #[.int .i64 a] 3)) w.heap.size 3 [a] := heap_alloc_new w _
  have h4 := h3.snoc (hi' := w.heap.size + 1 + 1) (r := [a]) (c := 1) (Row.of (hA.alloc _) rfl (Nat.le_refl _) (by omega)) (by omega)
  have h5 := h4.grown (by simp) hg (own_block (h1.alloc _ |>.alloc _))
  refine ⟨_, by rw [List.length_append, ← hn]; exact hown, h5.more (by have := hg.size; simpa using this), by have := hg.size; simp at this; omega⟩

/-- Rows that read: few, and short. -/
def Few (w : World) (v : Value) (rs : List (List Int)) : Prop := ∃ A c, v = .slice A rs.length c ∧ IntsS w w.heap.size A rs.length rs ∧ rs.length ≤ 1048576 ∧ ∀ r ∈ rs, r.length ≤ 1048576
theorem Rowed.few {w : World} {B : Nat} {v : Value} {rs : List (List Int)} (h : Rowed w B v rs) (hl : rs.length ≤ 1048576) (hr : ∀ r ∈ rs, r.length ≤ 2) : Few w v rs := by
  obtain ⟨A, c, rfl, hR⟩ := h.rows
  exact ⟨A, c, rfl, hR.ints (Nat.le_refl _), hl, fun r h => by have := hr r h; omega⟩
end Go.Proofs.YtcadmjpkgnbodaaDoor

/- OrderOf: the model's. -/
namespace Go.Proofs.YtcadmjpkgnbodaaDoor
open Go.RowKit Go.Shelf

set_option maxRecDepth 100000 in
set_option maxHeartbeats 4000000 in
theorem specOrderOf_any (n : Int) (A : Option Addr) (m c : Nat) (rs : List (List Int)) (w : World) (h : IntsS w w.heap.size A m rs) (hm : m ≤ 1048576) (hr : ∀ r ∈ rs, r.length ≤ 1048576) :
    Calls Tryd.prog 37 #[.int .i64 n, .slice A m c] w (GivesOrder w n rs) := by
  have hlen := Lib.hid h.len
  cases hin : inB n 0 6
  · have Ho := Lib.hid (show ordOk n rs = false by simp [ordOk, hin])
    have Hin := Lib.hid hin
    clear hin
    go_enter Tryd.func37, Tryd.ntmps37
    go_wp2_with (go_at_call 29; refine (inRange_any _ _ _ _).mono ?_; rw [Hin.out]; rintro e w' ⟨rfl, rfl⟩)
    go_ret2
    exact none_order Ho.out (Below.refl _ _)
  have Hin := Lib.hid hin
  have hnn := inB_iff.1 hin
  clear hin
  obtain ⟨N, rfl⟩ := Int.eq_ofNat_of_zero_le hnn.1
  have hN : N ≤ 6 := by omega
  clear hnn
  have hmk := run_make_row' (P := Tryd.prog) 23 3 (.int .i64 0) 8 Tryd.underlying23 infoInt rfl .i64 .i64 N (by omega) (by omega)
  go_enter Tryd.func37, Tryd.ntmps37
  go_wp2_with (go_at_call 29; refine (inRange_any _ _ _ _).mono ?_; rw [Hin.out]; rintro e w' ⟨rfl, rfl⟩)
  have hA1 := Arr.new w 3 N
  have hB1 : Below w.heap.size w (w.alloc (.cells (madeCells #[.int .i64 0] N) 3)) := (Below.refl _ _).alloc (Nat.le_refl _) _
  obtain ⟨W1, hW1⟩ : ∃ W1, w.alloc (.cells (madeCells #[.int .i64 0] N) 3) = W1 := ⟨_, rfl⟩
  rw [hW1] at hA1 hB1 ⊢
  clear hW1 hmk
  go_loopw [7] (fun i wr => ∃ k : Nat, k ≤ m ∧ i = .int .i64 k ∧ (∀ r ∈ rs.take k, pairOk N r = true) ∧ Arr wr w.heap.size 3 (baseR N (rs.take k)) ∧ Below w.heap.size w wr) (fun i _ => m - (intOf i).toNat)
  case atStart => exact ⟨0, by omega, rfl, (fun r hr => by simp at hr), hA1, hB1⟩
  case round =>
    obtain ⟨k, hk, rfl, hall, hAr, hB⟩ := hrel
    by_cases hlt : k < m
    · have hkl := Lib.hid (show k < rs.length by rw [hlen.out]; exact hlt)
      obtain ⟨b, off, rfl, hb, hc⟩ := (h.below hB).at_ hlt
      obtain ⟨A', c', hcell, hI⟩ := hc k hlt
      have Hc := Lib.hid hc
      clear hc
      have Hts := Lib.hid (take_snoc hkl.out)
      have hml : (rs[k]?.getD []).length ≤ 1048576 := by
        rw [List.getElem?_eq_getElem hkl.out]
        exact hr _ (List.getElem_mem _)
      have hno := fun hp => ord_no (n := N) (rs := rs) hkl.out hp
      generalize rs[k]?.getD [] = r at *
      by_cases h2 : r.length = 2
      · have hI2 : Ints wr w.heap.size A' 2 r := by rw [h2] at hI; exact hI
        rw [h2] at hcell
        obtain ⟨b', off', rfl, hb', hc'⟩ := hI2.at_ (k := 0) (by omega)
        have hc0 := hc' 0 (by omega)
        have hc1 := hc' 1 (by omega)
        rw [Nat.add_zero] at hc0
        clear hc'
        have Hpo := Lib.hid (show pairOk N r = (inB (r[0]?.getD 0) 0 (N - 1) && inB (r[1]?.getD 0) 0 (N - 1)) by simp [pairOk, h2])
        have Hs := Lib.hid (baseR_snoc N (rs.take k) r)
        obtain ⟨hfit, -⟩ : Fit N (baseR N (rs.take k)) ∧ Sets (baseR N (rs.take k)) := (baseR_fit hall).resolve_right (by omega)
        generalize r[0]?.getD 0 = x0 at *
        generalize r[1]?.getD 0 = y0 at *
        clear h2 hml hI
        cases hx : inB x0 0 (N - 1)
        · have Hx := Lib.hid hx
          have Ho := Lib.hid (hno (by rw [Hpo.out, hx]; rfl))
          clear hx hno
          go_wp2_with (go_at_call 29; refine (inRange_any _ _ _ _).mono ?_; rw [Hx.out]; rintro e w' ⟨rfl, rfl⟩)
          go_ret2
          exact none_order Ho.out hB
        cases hy : inB y0 0 (N - 1)
        · have Hx := Lib.hid hx
          have Hy := Lib.hid hy
          have Ho := Lib.hid (hno (by rw [Hpo.out, hx, hy]; rfl))
          clear hx hy hno
          go_wp2_with (go_at_call 29; refine (inRange_any _ _ _ _).mono ?_; (first | rw [Hx.out] | rw [Hy.out]); rintro e w' ⟨rfl, rfl⟩)
          go_ret2
          exact none_order Ho.out hB
        have Hx := Lib.hid hx
        have Hy := Lib.hid hy
        have Hp := Lib.hid (show pairOk N r = true by rw [Hpo.out, hx, hy]; rfl)
        have h0 := inB_iff.1 hx
        have h1 := inB_iff.1 hy
        clear hx hy hno
        have Hall := Lib.hid (show ∀ r' ∈ rs.take k ++ [r], pairOk N r' = true from fun r' hr' => by
          rcases List.mem_append.1 hr' with h9 | h9
          · exact hall r' h9
          · rw [List.mem_singleton.1 h9]; exact Hp.out)
        obtain ⟨x, rfl⟩ := Int.eq_ofNat_of_zero_le h0.1
        obtain ⟨y, rfl⟩ := Int.eq_ofNat_of_zero_le h1.1
        have hxN : x < N := by omega
        have hyN : y < N := by omega
        clear h0 h1
        simp only [Int.toNat_natCast] at Hs
        have hcs := hAr.cell (k := x) (by rw [hfit.1]; exact hxN)
        have hfs := hAr.frozen x
        have hbd := hfit.2 x
        have hpn := powI_le6 (n := (N : Int)) (by omega)
        have hpy := powI_le6 (n := (y : Int)) (by omega)
        have hpp := powI_pos (y : Int)
        clear hfit
        generalize hD : baseR N (rs.take k) = D at *
        have HD := Lib.hid hD
        clear hD
        have hor : bits .or .i64 (D[x]?.getD 0) (powI y) = orI (D[x]?.getD 0) (powI y) := bits_or (by omega) (by omega) (by omega) (by omega)
        go_wp2_with (go_at_call 29; refine (inRange_any _ _ _ _).mono ?_; (first | rw [Hx.out] | rw [Hy.out]); rintro e w' ⟨rfl, rfl⟩)
        have hpw : ∀ W, Calls Tryd.prog 23 #[.int .i64 (y : Int)] W fun e w'' => e = .returned (.int .i64 (powI y)) ∧ w'' = W := fun W =>
          (power_any _ _ (by omega) (by omega)).mono (by rintro e w' ⟨rfl, rfl⟩; exact ⟨rfl, rfl⟩)
        obtain ⟨W2, hW2⟩ : ∃ W2, wr.drew = W2 := ⟨_, rfl⟩
        have kcell : W2.cell? ⟨b, off + k, none⟩ = some (.slice (some ⟨b', off', none⟩) 2 c') := by rw [← hW2]; exact hcell
        have kc0 : W2.cell? ⟨b', off', none⟩ = some (.int .i64 (x : Int)) := by rw [← hW2]; exact hc0
        have kc1 : W2.cell? ⟨b', off' + 1, none⟩ = some (.int .i64 (y : Int)) := by rw [← hW2]; exact hc1
        have kcs : W2.cell? ⟨w.heap.size, x, none⟩ = some (.int .i64 (D[x]?.getD 0)) := by rw [← hW2]; exact hcs
        have kfs : W2.frozen? ⟨w.heap.size, x, none⟩ = false := by rw [← hW2]; exact hfs
        have kAr : Arr W2 w.heap.size 3 D := by rw [← hW2]; exact hAr
        have kB : Below w.heap.size w W2 := by rw [← hW2]; exact hB.drew
        refine wp_region_still_tail 25 (by kernel_rfl) (by kernel_rfl) ?_
        simp only [List.take_succ_cons, List.take_zero, List.drop_succ_cons, List.drop_zero]
        change wpStill _ _ wr.drew (fun a' => wpList _ _ _ _ a' wr.drew) _ _
        rw [hW2]
        clear hW2 hcell hc0 hc1 hcs hfs hAr hB
        repeat (first | still_step | still_call (hpw _))
        refine wpStill_nil ?_
        go_wp2
        go_roundw
        case rel => exact ⟨k + 1, by omega, by go_num, by rw [← Hts.out]; exact Hall.out, by rw [← Hts.out, Hs.out]; exact kAr.set _ _, kB.setCell (p := ⟨w.heap.size, x, none⟩) (Nat.le_refl _) _⟩
        case measure => simp [intOf]; omega
      · have Ho := Lib.hid (hno (by simp [pairOk, h2]))
        have hmi : ((r.length : Int) != 2) = true := by simp; omega
        clear hno
        generalize r.length = q at *
        go_wp2
        go_ret2
        exact none_order Ho.out hB
    · obtain rfl : k = m := by omega
      have htk : rs.take k = rs := List.take_of_length_le (by rw [hlen.out]; exact Nat.le_refl _)
      rw [htk] at hall hAr
      obtain ⟨hfit, -⟩ : Fit N (baseR N rs) ∧ Sets (baseR N rs) := (baseR_fit hall).resolve_right (by omega)
      have Hok := Lib.hid (show ordOk N rs = vo (closR N rs) by
        rw [ordOk, show rs.all (pairOk N) = true from List.all_eq_true.2 hall, Hin.out]; simp)
      have zB := hB.size
      clear hlen h hm
      go_wp2
      go_loopw [8] (fun i wr => ∃ a : Nat, a ≤ N ∧ i = .int .i64 a ∧ Arr wr w.heap.size 3 (folTo N (baseR N rs) a) ∧ Below w.heap.size w wr) (fun i _ => N - (intOf i).toNat)
      case atStart => exact ⟨0, by omega, rfl, hAr, hB⟩
      case round =>
        clear hAr hB zB
        obtain ⟨a, ha, rfl, hAr, hB⟩ := hrel
        by_cases hak : a < N
        · have hF := folTo_fit hfit a
          generalize hD0 : folTo N (baseR N rs) a = d0 at *
          have HD0 := Lib.hid hD0
          clear hD0
          go_wp2
          go_loopw [9] (fun i wr => ∃ l : Nat, l ≤ N ∧ i = .int .i64 l ∧ Arr wr w.heap.size 3 (folIn a d0 l) ∧ Below w.heap.size w wr) (fun i _ => N - (intOf i).toNat)
          case atStart => exact ⟨0, by omega, rfl, hAr, hB⟩
          case round =>
            clear hAr hB
            obtain ⟨l, hl, rfl, hAr, hB⟩ := hrel
            by_cases hlk : l < N
            · have hFi := folIn_fit (m := a) hF l
              have Hs := Lib.hid (folIn_succ a d0 l)
              generalize hD : folIn a d0 l = D at *
              have HD := Lib.hid hD
              clear hD
              have hpn := powI_le6 (n := (N : Int)) (by omega)
              have hl1 := hFi.2 l
              have ha1 := hFi.2 a
              have hcl := hAr.cell (k := l) (by rw [hFi.1]; exact hlk)
              have hca := hAr.cell (k := a) (by rw [hFi.1]; exact hak)
              have hfl := hAr.frozen l
              clear hFi
              cases hbit : bitB (D[l]?.getD 0) a
              · have Hb := Lib.hid hbit
                have hbi : (bitI (D[l]?.getD 0) a == 1) = false := by rw [bitI_one, hbit]
                clear hbit
                go_wp2_with (go_at_call 30; refine (bit_any _ _ _ (by omega) (by omega) (by omega) (by omega)).mono ?_; rintro e w' ⟨rfl, rfl⟩)
                go_roundw
                case rel => exact ⟨l + 1, by omega, by go_num, by rw [Hs.out, fol1, Hb.out]; exact hAr, hB⟩
                case measure => simp [intOf]; omega
              · have Hb := Lib.hid hbit
                have hbi : (bitI (D[l]?.getD 0) a == 1) = true := by rw [bitI_one, hbit]
                clear hbit
                have hor : bits .or .i64 (D[l]?.getD 0) (D[a]?.getD 0) = orI (D[l]?.getD 0) (D[a]?.getD 0) := bits_or (by omega) (by omega) (by omega) (by omega)
                go_wp2_with (go_at_call 30; refine (bit_any _ _ _ (by omega) (by omega) (by omega) (by omega)).mono ?_; rintro e w' ⟨rfl, rfl⟩)
                go_region
                all_goals
                  go_wp2
                  go_roundw
                  case rel => exact ⟨l + 1, by omega, by go_num, by rw [Hs.out, fol1, Hb.out]; exact hAr.set _ _, (hB.setCell (p := ⟨w.heap.size, l, none⟩) (Nat.le_refl _) _).drew⟩
                  case measure => simp [intOf]; omega
            · obtain rfl : l = N := by omega
              have Hs := Lib.hid (folTo_succ l (baseR l rs) a)
              go_wp2
              go_roundw
              case rel => exact ⟨a + 1, by omega, by go_num, by rw [Hs.out, HD0.out]; exact hAr, hB⟩
              case measure => simp [intOf]; omega
        · obtain rfl : a = N := by omega
          have Hf := Lib.hid (folTo_fit hfit a)
          have hl2 := hAr.lt
          go_wp2_with fail
          refine (validOrder_any _ _ _ _ _ _ (hAr.ints' hAr.lt Hf.out.1) (by omega)).mono ?_
          rintro e w3 ⟨rfl, mm, hmm⟩
          have hA3 : Arr w3 w.heap.size 3 (folTo a (baseR a rs) a) := by rw [hmm]; exact hAr
          have hB3 : Below w.heap.size w w3 := by rw [hmm]; exact below_drewN hB _
          clear hmm hAr hB
          cases hvo : vo (closR a rs)
          · have Ho := Lib.hid (show ordOk a rs = false by rw [Hok.out]; exact hvo)
            have Hv := Lib.hid (show vo (folTo a (baseR a rs) a) = false from hvo)
            clear hvo
            rw [Hv.out]
            go_wp2
            go_ret2
            exact none_order Ho.out hB3
          · have Ho := Lib.hid (show ordOk a rs = true by rw [Hok.out]; exact hvo)
            have Hv := Lib.hid (show vo (folTo a (baseR a rs) a) = true from hvo)
            clear hvo
            rw [Hv.out]
            go_wp2
            go_ret2
            exact ⟨_, a, a, by rw [Ho.out]; rfl, by rw [ordL, Ho.out]; exact Row.of hA3 Hf.out.1 (Nat.le_refl _) hA3.lt, hB3⟩
end Go.Proofs.YtcadmjpkgnbodaaDoor

/- An order under new numbers: what the drawing needs of it. -/
namespace Go.Proofs.YtcadmjpkgnbodaaDoor
open Go.RowKit Go.Shelf

/-- Small numbers: each is a set of at most six. -/
def Small (os : List Int) : Prop := ∀ j : Nat, 0 ≤ os[j]?.getD 0 ∧ os[j]?.getD 0 < 64
theorem Small.zero (n : Nat) : Small (List.replicate n 0) := fun j => by
  have : (List.replicate n (0 : Int))[j]?.getD 0 = 0 := by by_cases h : j < n <;> simp [h]
  omega
theorem Small.set {os : List Int} (h : Small os) {k : Nat} {v : Int} (h0 : 0 ≤ v) (h1 : v < 64) : Small (os.set k v) := fun j => by
  by_cases hk : k = j
  · subst hk
    by_cases hl : k < os.length
    · rw [List.getElem?_set_self hl]; exact ⟨h0, h1⟩
    · rw [List.set_eq_of_length_le (by omega)]; exact h k
  · rw [List.getElem?_set_ne hk]; exact h j

set_option maxRecDepth 100000 in
set_option maxHeartbeats 4000000 in
theorem renumbered_any (A A' : Option Addr) (n c m c' : Nat) (zs ts : List Int) (w : World) (h : Ints w w.heap.size A n zs) (h' : Ints w w.heap.size A' m ts) (hn6 : n ≤ 6) (hnm : n ≤ m) (hz : Small zs) (ht : ∀ j, j < n → 0 ≤ ts[j]?.getD 0 ∧ ts[j]?.getD 0 < n) :
    Calls Tryd.prog 38 #[.slice A n c, .slice A' m c'] w fun e w' => ∃ os, e = .returned (.slice (some ⟨w.heap.size, 0, none⟩) n n) ∧ os.length = n ∧ Arr w' w.heap.size 3 os ∧ Below w.heap.size w w' := by
  have hmk := run_make_row' (P := Tryd.prog) 23 3 (.int .i64 0) 8 Tryd.underlying23 infoInt rfl .i64 .i64 n (by omega) (by omega)
  go_enter Tryd.func38, Tryd.ntmps38
  go_wp2
  have hA1 := Arr.new w 3 n
  have hB1 : Below w.heap.size w (w.alloc (.cells (madeCells #[.int .i64 0] n) 3)) := (Below.refl _ _).alloc (Nat.le_refl _) _
  obtain ⟨W1, hW1⟩ : ∃ W1, w.alloc (.cells (madeCells #[.int .i64 0] n) 3) = W1 := ⟨_, rfl⟩
  rw [hW1] at hA1 hB1 ⊢
  clear hW1 hmk
  go_loopw [6] (fun i wr => ∃ (k : Nat) (os : List Int), k ≤ n ∧ i = .int .i64 k ∧ os.length = n ∧ Small os ∧ Arr wr w.heap.size 3 os ∧ Below w.heap.size w wr) (fun i _ => n - (intOf i).toNat)
  case atStart => exact ⟨0, _, by omega, rfl, by simp, Small.zero n, hA1, hB1⟩
  case round =>
    clear hA1 hB1
    obtain ⟨k, os, hk, rfl, hlen, hsm, hAr, hB⟩ := hrel
    by_cases hlt : k < n
    · go_wp2
      go_loopw [7] (fun i wr => ∃ (j : Nat) (os : List Int), j ≤ n ∧ i = .int .i64 j ∧ os.length = n ∧ Small os ∧ Arr wr w.heap.size 3 os ∧ Below w.heap.size w wr) (fun i _ => n - (intOf i).toNat)
      case atStart => exact ⟨0, os, by omega, rfl, hlen, hsm, hAr, hB⟩
      case round =>
        clear hlen hsm hAr hB
        obtain ⟨j, os, hj, rfl, hlen, hsm, hAr, hB⟩ := hrel
        by_cases hjn : j < n
        · obtain ⟨b, off, rfl, hbw, hc⟩ := (h.below hB).at_ hlt
          have hck := hc k hlt
          obtain ⟨b', off', rfl, hbw', hc'⟩ := (h'.below hB).at_ (k := k) (by omega)
          have htk := hc' k (by omega)
          have htj := hc' j (by omega)
          have hzk := hz k
          have hkm : k < m := by omega
          have hjm : j < m := by omega
          have t1 := ht k hlt
          have t2 := ht j hjn
          clear hc hc'
          generalize zs[k]?.getD 0 = z at *
          generalize ts[k]?.getD 0 = tk at *
          generalize ts[j]?.getD 0 = tj at *
          obtain ⟨x, rfl⟩ := Int.eq_ofNat_of_zero_le t1.1
          obtain ⟨y, rfl⟩ := Int.eq_ofNat_of_zero_le t2.1
          have hxn : x < n := by omega
          have hyn : y < n := by omega
          have hcs := hAr.cell (k := x) (by omega)
          have hfs := hAr.frozen x
          have hox := hsm x
          cases hb : bitB z j
          · have hbi : (bitI z j == 1) = false := by rw [bitI_one, hb]
            go_wp2_with (go_at_call 30; refine (bit_any _ _ _ (by omega) (by omega) (by omega) (by omega)).mono ?_; rintro e w' ⟨rfl, rfl⟩)
            go_roundw
            case rel => exact ⟨j + 1, os, by omega, by go_num, hlen, hsm, hAr, hB⟩
            case measure => simp [intOf]; omega
          · have hbi : (bitI z j == 1) = true := by rw [bitI_one, hb]
            have hpw : ∀ W, Calls Tryd.prog 23 #[.int .i64 (y : Int)] W fun e w'' => e = .returned (.int .i64 (powI y)) ∧ w'' = W := fun W => (power_any _ _ (by omega) (by omega)).mono fun _ _ ⟨h1, h2⟩ => ⟨h1, h2.symm⟩
            have hpk : powI (y : Int) < 64 := powI_lt (k := y) (n := 6) (by omega)
            have hpp := powI_pos (y : Int)
            have hsn := fun v h0 h1 => hsm.set (k := x) (v := v) h0 h1
            generalize os[x]?.getD 0 = d at *
            have hor : bits .or .i64 d (powI y) = orI d (powI y) := bits_or (by omega) (by omega) (by omega) (by omega)
            have hob := orI_bd (a := d) (b := powI y) (n := 6) hox.1 (by simpa [powI] using hox.2) (Int.le_of_lt hpp) (by simpa [powI] using hpk)
            have hob6 : 0 ≤ orI d (powI y) ∧ orI d (powI y) < 64 := by simpa [powI] using hob
            go_wp2_with (go_at_call 30; refine (bit_any _ _ _ (by omega) (by omega) (by omega) (by omega)).mono ?_; rintro e w' ⟨rfl, rfl⟩)
            obtain ⟨W2, hW2⟩ : ∃ W2, wr.drew = W2 := ⟨_, rfl⟩
            have k1 : W2.cell? ⟨b', off' + k, none⟩ = some (.int .i64 (x : Int)) := by rw [← hW2]; exact htk
            have k2 : W2.cell? ⟨b', off' + j, none⟩ = some (.int .i64 (y : Int)) := by rw [← hW2]; exact htj
            have k3 : W2.cell? ⟨w.heap.size, x, none⟩ = some (.int .i64 d) := by rw [← hW2]; exact hcs
            have k4 : W2.frozen? ⟨w.heap.size, x, none⟩ = false := by rw [← hW2]; exact hfs
            have kAr : Arr W2 w.heap.size 3 os := by rw [← hW2]; exact hAr
            have kB : Below w.heap.size w W2 := by rw [← hW2]; exact hB.drew
            refine wp_region_still_tail 19 (by kernel_rfl) (by kernel_rfl) ?_
            simp only [List.take_succ_cons, List.take_zero, List.drop_succ_cons, List.drop_zero]
            change wpStill _ _ wr.drew (fun a' => wpList _ _ _ _ a' wr.drew) _ _
            rw [hW2]
            clear hW2 htk htj hcs hfs hAr hB
            repeat (first | still_step | still_call (hpw _))
            refine wpStill_nil ?_
            go_wp2
            go_roundw
            case rel => exact ⟨j + 1, os.set x (orI d (powI y)), by omega, by go_num, by simpa using hlen, hsn _ hob6.1 hob6.2, kAr.set _ _, kB.setCell (p := ⟨w.heap.size, x, none⟩) (Nat.le_refl _) _⟩
            case measure => simp [intOf]; omega
        · obtain rfl : j = n := by omega
          go_wp2
          go_roundw
          case rel => exact ⟨k + 1, os, by omega, by go_num, hlen, hsm, hAr, hB⟩
          case measure => simp [intOf]; omega
    · obtain rfl : k = n := by omega
      go_wp2
      go_ret
      exact ⟨os, rfl, hlen, hAr, hB⟩
end Go.Proofs.YtcadmjpkgnbodaaDoor

/- An order that is drawn. -/
namespace Go.Proofs.YtcadmjpkgnbodaaDoor
open Go.RowKit Go.Shelf

theorem addr_add (b k j : Nat) : (⟨b, k, none⟩ : Addr).add j = ⟨b, k + j, none⟩ := by unfold Addr.add; split <;> simp_all
/-- Pairs that are written out: a block each, then the row of their slices. -/
def litA (w : World) : List (Int × Int) → World
  | [] => w
  | r :: rs => litA (w.alloc (.cells #[.int .i64 r.1, .int .i64 r.2] 3)) rs
def litV (b : Nat) : List (Int × Int) → List Value
  | [] => []
  | _ :: rs => .slice (some ⟨b, 0, none⟩) 2 2 :: litV (b + 1) rs
def litN (b : Nat) : List (Int × Int) → Nat
  | [] => b
  | _ :: rs => litN (b + 1) rs
def litW (w : World) (rs : List (Int × Int)) : World := (litA w rs).alloc (.cells (litV w.heap.size rs).toArray 23)
theorem litA_upd : ∀ (rs : List (Int × Int)) (w : World), Upd (fun _ => False) w (litA w rs)
  | [], w => Upd.refl _ w
  | _ :: rs, w => (((Upd.refl (fun _ => False) w).alloc _)).trans (litA_upd rs _)
theorem litA_size : ∀ (rs : List (Int × Int)) (w : World), (litA w rs).heap.size = litN w.heap.size rs ∧ litN w.heap.size rs = w.heap.size + rs.length
  | [], w => ⟨rfl, rfl⟩
  | r :: rs, w => by
    have h := litA_size rs (w.alloc (.cells #[.int .i64 r.1, .int .i64 r.2] 3))
    rw [World.size_alloc] at h
    refine ⟨h.1, ?_⟩
    show litN (w.heap.size + 1) rs = _
    rw [h.2, List.length_cons]; omega
theorem litA_row : ∀ (rs : List (Int × Int)) (w : World) (j : Nat) (hj : j < rs.length), Arr (litA w rs) (w.heap.size + j) 3 [rs[j].1, rs[j].2]
  | [], _, j, hj => by simp at hj
  | r :: rs, w, 0, _ => by
    have hA : Arr (w.alloc (.cells #[.int .i64 r.1, .int .i64 r.2] 3)) w.heap.size 3 [r.1, r.2] := heap_alloc_new w _
    exact hA.upd (litA_upd rs _) (fun e => e)
  | r :: rs, w, j + 1, hj => by
    have h := litA_row rs (w.alloc (.cells #[.int .i64 r.1, .int .i64 r.2] 3)) j (by simpa using hj)
    rw [World.size_alloc, show w.heap.size + 1 + j = w.heap.size + (j + 1) by omega] at h
    exact h
theorem litV_get : ∀ (rs : List (Int × Int)) (b j : Nat), j < rs.length → (litV b rs)[j]? = some (.slice (some ⟨b + j, 0, none⟩) 2 2)
  | [], _, j, hj => by simp at hj
  | _ :: rs, b, 0, _ => rfl
  | _ :: rs, b, j + 1, hj => by
    have h := litV_get rs (b + 1) j (by simpa using hj)
    rw [show b + 1 + j = b + (j + 1) by omega] at h
    simpa [litV] using h
theorem litRows (w : World) (rs : List (Int × Int)) : IntsS (litW w rs) (litW w rs).heap.size (some ⟨litN w.heap.size rs, 0, none⟩) rs.length (rs.map fun r => [r.1, r.2]) := by
  refine ⟨by simp, fun _ => ⟨litN w.heap.size rs, 0, rfl, by unfold litW; rw [World.size_alloc, (litA_size rs w).1]; omega, fun j hj => ?_⟩⟩
  have hA := (litA_row rs w j hj).alloc (.cells (litV w.heap.size rs).toArray 23)
  have hg : (rs.map fun r => [r.1, r.2])[j]?.getD [] = [rs[j].1, rs[j].2] := by simp [hj]
  rw [hg]
  refine ⟨_, 2, ?_, hA.ints (by have := hA.lt; exact this)⟩
  have hc := heap_alloc_new (litA w rs) (.cells (litV w.heap.size rs).toArray 23)
  rw [(litA_size rs w).1] at hc
  rw [Nat.zero_add]
  refine (cell_of_row _ _ _ _ _ _ hc).trans ?_
  simpa using litV_get rs w.heap.size j hj
theorem litW_upd (w : World) (rs : List (Int × Int)) : Upd (fun _ => False) w (litW w rs) := (litA_upd rs w).alloc _

theorem ordL_small (n : Int) (rs : List (List Int)) : Small (ordL n rs) ∧ ((ordL n rs).length = 0 ∨ ((ordL n rs).length : Int) = n) ∧ (ordL n rs).length ≤ 6 := by
  cases hok : ordOk n rs with
  | false => simp [ordL, hok, Small]
  | true =>
    obtain ⟨h1, h2, _⟩ := ord_is hok
    refine ⟨fun j => ?_, .inr h2, h1.1⟩
    by_cases hj : j < (ordL n rs).length
    · exact h1.bd j hj
    · rw [List.getElem?_eq_none (by omega)]; simp

set_option maxRecDepth 100000 in
set_option maxHeartbeats 8000000 in
theorem goodOrder_any (R p : Nat) (w : World) (h : Rd w R p) (hp : p ≤ 800000) :
    Calls Tryd.prog 21 #[.pointer (some ⟨R, 0, none⟩), .int .i64 6] w fun e w' => ∃ A n c zs q, e = .returned (.slice A n c) ∧ n ≤ 6 ∧ Row w' w.heap.size w'.heap.size A n zs ∧ q ≤ 100 ∧ Rd w' R (p + q) ∧ Upd (fun k => k = R) w w' := by
  have hRl := h.lt
  obtain ⟨i0, hi0, hz0, hz1, hz2⟩ := infoRow_parts
  obtain ⟨i1, hi1, hzi1, hsi1, hbi1⟩ := info_parts infoInt
  go_enter Tryd.func21, Tryd.ntmps21
  go_wp2_with fail
  have hu1 : Upd (fun k => k = R) w (w.alloc (.cells #[Value.int .i64 4, .int .i64 5, .int .i64 6, .int .i64 3, .int .i64 5, .int .i64 6, .int .i64 2, .int .i64 1, .int .i64 4, .int .i64 0] 3)) := (Upd.refl _ _).alloc _
  have hL : Arr (w.alloc (.cells #[Value.int .i64 4, .int .i64 5, .int .i64 6, .int .i64 3, .int .i64 5, .int .i64 6, .int .i64 2, .int .i64 1, .int .i64 4, .int .i64 0] 3)) w.heap.size 3 [4, 5, 6, 3, 5, 6, 2, 1, 4, 0] := heap_alloc_new w _
  have hR1 := h.upd ((Upd.refl (fun _ => False) w).alloc (.cells #[Value.int .i64 4, .int .i64 5, .int .i64 6, .int .i64 3, .int .i64 5, .int .i64 6, .int .i64 2, .int .i64 1, .int .i64 4, .int .i64 0] 3)) (fun _ e => e.elim)
  obtain ⟨W1, hW1⟩ : ∃ W1, w.alloc (.cells #[Value.int .i64 4, .int .i64 5, .int .i64 6, .int .i64 3, .int .i64 5, .int .i64 6, .int .i64 2, .int .i64 1, .int .i64 4, .int .i64 0] 3) = W1 := ⟨_, rfl⟩
  rw [hW1] at hu1 hL hR1 ⊢
  clear hW1
  refine (one_any R p _ 10 10 _ _ W1 hR1 (by omega) (hL.ints' (n := 10) hL.lt rfl) (fun b off e => by cases e; omega) (by omega) (by omega)).mono ?_
  rintro e w2 ⟨v0, rfl, hv0, hR2, hU2⟩
  have hv9 : 0 ≤ v0 ∧ v0 ≤ 6 := by simp at hv0; omega
  obtain ⟨K, rfl⟩ := Int.eq_ofNat_of_zero_le hv9.1
  have hu2 := hu1.trans hU2
  clear hv0 hL hU2 hR1 hu1
  have hK6 : K ≤ 6 := by omega
  have hRw2 : Upd (fun k => k = R) w w2 := hu2
  clear hu2 hv9
  go_wp2_with fail
  refine (somePairs_any R (p + 1) K w2 hR2 (by omega)).mono ?_
  rintro e w3 ⟨v3, rs3, q3, rfl, hRo3, ⟨hl3, hr3⟩, hq3, hR3, hU3⟩
  have hRw3 := hRw2.trans hU3
  have hz2' := hRw2.size
  have hz3' := hRw3.size
  clear hR2
  go_wp2_with fail
  refine (pick_any R (p + 1 + q3) 10 w3 hR3 (by omega)).mono ?_
  rintro e w4 ⟨x, rfl, hx, hR4, hU4⟩
  have hRw4 := hRw3.trans hU4
  have hz4' := hRw4.size
  have hRo4 := hRo3.keep hU4 (fun j e => by omega)
  have hF4 := hRo4.few (by omega) (fun r hr => by rw [hr3 r hr]; omega)
  clear hRo3 hRo4
  have hx9 := hx.1 (by omega)
  clear hx hR3
  by_cases x0 : x = 0
  · subst x0
    go_wp2_with fail
    have hL := litRows w4 [(0, 3), (0, 4), (1, 3), (1, 5), (2, 4), (2, 5)]
    have hup := litW_upd w4 [(0, 3), (0, 4), (1, 3), (1, 5), (2, 4), (2, 5)]
    refine (specOrderOf_any 6 _ 6 6 _ (litW w4 [(0, 3), (0, 4), (1, 3), (1, 5), (2, 4), (2, 5)]) hL (by simp) (by simp)).mono ?_
    rintro e w5 ⟨A5, m5, c5, rfl, r5, hB5⟩
    have hzL := hup.size
    have hRw5 := (hRw4.trans (hup.mono fun _ _ e => e.elim)).below hB5 (fun k h1 h2 => by omega)
    have hR5 := (hR4.upd hup (fun _ e => e.elim)).below hB5 (by omega)
    have hr5 := r5.more (lo' := w.heap.size) (by omega) (Nat.le_refl _)
    have hos := ordL_small 6 (([(0, 3), (0, 4), (1, 3), (1, 5), (2, 4), (2, 5)] : List (Int × Int)).map fun r => [r.1, r.2])
    obtain ⟨zs5, hzs5⟩ : ∃ zs5, ordL 6 (([(0, 3), (0, 4), (1, 3), (1, 5), (2, 4), (2, 5)] : List (Int × Int)).map fun r => [r.1, r.2]) = zs5 := ⟨_, rfl⟩
    rw [hzs5] at hos hr5
    obtain ⟨hsm, hml, hm6⟩ := hos
    rw [hr5.len] at hml hm6
    have hob : ∃ bb : Bool, ordOk 6 (([(0, 3), (0, 4), (1, 3), (1, 5), (2, 4), (2, 5)] : List (Int × Int)).map fun r => [r.1, r.2]) = bb := ⟨_, rfl⟩
    obtain ⟨bb, hbb⟩ := hob
    rw [hbb]
    generalize hp5 : p + 1 + q3 + 1 = p5 at *
    have hp5' : p5 ≤ p + 40 := by omega
    obtain ⟨N, hN1', hN2'⟩ : ∃ N : Nat, N ≤ 6 ∧ 6 ≤ N := ⟨6, Nat.le_refl _, Nat.le_refl _⟩
    clear r5 hL hB5 hR4 hRw4 hup hzL
    go_wp2_with fail
    refine (pick_any R p5 3 w5 hR5 (by omega)).mono ?_
    rintro e w6 ⟨y, rfl, hy, hR6, hU6⟩
    have hRw6 := hRw5.trans hU6
    have hz6 := hRw6.size
    have hr6 := hr5.upd hU6 (fun j e => by omega)
    by_cases hyn : y = 0 ∧ 1 < N
    · obtain ⟨rfl, hN1⟩ := hyn
      try have hK1 : (1 : Int) < (K : Int) := by omega
      go_wp2_with fail
      go_loopw [10, 11] (fun v i wr => ∃ (k bt cp : Nat) (ts : List Int), k ≤ N ∧ i = .int .i64 k ∧ v = .slice (some ⟨bt, 0, none⟩) k cp ∧ (k ≤ cp ∧ cp ≤ maxLen) ∧ (bt < wr.heap.size ∧ w6.heap.size ≤ bt) ∧ ts.length = k ∧ (∀ x ∈ ts, (0 : Int) ≤ x ∧ x < k) ∧ (∀ j, j < k → wr.cell? ⟨bt, j, none⟩ = some (.int .i64 (ts[j]?.getD 0))) ∧ Rd wr R (p5 + 1 + k) ∧ Upd (fun k => k = R) w6 wr) (fun _ i _ => N - (intOf i).toNat)
      case atStart => exact ⟨0, w6.heap.size, 0, [], by omega, rfl, rfl, ⟨by omega, by simp [maxLen]⟩, ⟨by simp, by omega⟩, rfl, (fun x hx => by simp at hx), fun j hj => by omega, hR6.upd ((Upd.refl (fun _ => False) w6).alloc _) (fun _ e => e.elim), (Upd.refl _ _).alloc _⟩
      case round =>
        obtain ⟨k, bt, cp, ts, hk, rfl, rfl, ⟨hkc, hcm⟩, ⟨hbt, hbt6⟩, htl, htb, htc, hRd, hU⟩ := hrel
        have zU := hU.size
        by_cases hlt : k < N
        · go_wp2_with fail
          refine (pick_any R (p5 + 1 + k) (k + 1) _ hRd (by omega)).mono ?_
          rintro e w7 ⟨y, rfl, hy, hR7, hU7⟩
          have hy2 := hy.1 (by omega)
          obtain ⟨h, rfl⟩ := Int.eq_ofNat_of_zero_le hy2.1
          have hhk : h ≤ k := by omega
          have htc7 : ∀ j, j < k → w7.cell? ⟨bt, j, none⟩ = some (.int .i64 (ts[j]?.getD 0)) := fun j hj => hU7.cell (htc j hj) (by simp; omega)
          have hUw7 := hU.trans hU7
          have z7 := hU7.size
          clear hy hy2 htc hU hU7 hRd
          go_wp2_with fail
          obtain ⟨AD, hAD⟩ : ∃ AD, (if cp = h then some (⟨bt, 0, none⟩ : Addr) else some ⟨bt, h, none⟩) = some AD := by split <;> exact ⟨_, rfl⟩
          have hadd : ∀ j, j < (ts.drop h).length → AD.add j = ⟨bt, h + j, none⟩ := fun j hj => by
            have hne : ¬ cp = h := fun e => by simp at hj; omega
            rw [if_neg hne] at hAD
            cases hAD
            exact addr_add ..
          have hadd0 : ∀ j, j < (ts.take h).length → (⟨bt, 0, none⟩ : Addr).add j = ⟨bt, 0 + j, none⟩ := fun j hj => addr_add ..
          have htk : (ts.take h).length = h := by simp; omega
          have htd : (ts.drop h).length = k - h := by simp; omega
          have hgt : ∀ j, j < (ts.take h).length → (ts.take h)[j]?.getD 0 = ts[0 + j]?.getD 0 := fun j hj => by rw [Nat.zero_add, List.getElem?_take_of_lt (by omega)]
          have hgd : ∀ j, j < (ts.drop h).length → (ts.drop h)[j]?.getD 0 = ts[h + j]?.getD 0 := fun j hj => by rw [List.getElem?_drop]
          have hone : ∀ (zs : List Int), ∀ u ∈ zs.map (Value.int .i64), u.oneCell' = true := fun zs u hu => by
            obtain ⟨z, _, rfl⟩ := List.mem_map.1 hu; rfl
          have hbt7 : bt < w7.heap.size := by omega
          have hkN : k < 6 := by omega
          have hhc : h ≤ cp := by omega
          have hhc' : (h : Int) ≤ (cp : Int) := by omega
          have hhk' : (h : Int) ≤ (k : Int) := by omega
          go_region_law (first
            | (refine step_append_any _ rfl (.tmp 94) (.tmp 97) _ (by rfl) w7.heap.size 3 i1 _ 8 Tryd.underlying23 hi1 hzi1 hsi1 hbi1 rfl (.slice (some ⟨_, 0, none⟩) 0 0) 0 [] (by rfl) (by simp) (by first | exact own_new2 _ _ _ | exact own_sooner (own_new _ _) (by first | (simp; done) | (simp; omega)) | exact own_sooner ((own_new _ _).alloc _) (by first | (simp; done) | (simp; omega))) ⟨bt, 0, none⟩ h cp _ (by rfl) (by rw [List.length_map]; exact htk) (news_at htc7 (by repeat' (first | exact Upd.refl _ _ | assumption | refine Upd.alloc ?_ _ | refine Upd.drew ?_)) hbt7 hadd0 hgt (by omega)) (hone _) (by simp [maxLen]; omega) (by omega) (by first | (simp; done) | (simp; omega)) ?_; intro g1 cap1 x1 hown1 hgrow1 hg1 hl1 hc1 hm1; rw [Nat.zero_add] at hown1; have hU1 : Upd (fun k => w7.heap.size ≤ k) w7 x1 := Upd.grown (by repeat' (first | exact Upd.refl _ _ | assumption | refine Upd.alloc ?_ _ | refine Upd.drew ?_)) hgrow1 (fun q hq => by simp [Value.ownBlock] at hq; omega))
            | (refine step_append_any _ rfl (.tmp 98) (.tmp 100) _ (by rfl) w7.heap.size 3 i1 _ 8 Tryd.underlying23 hi1 hzi1 hsi1 hbi1 rfl (.slice (some ⟨g1, 0, none⟩) h cap1) h _ (by rfl) (by simp) (by first | exact hown1 | exact hown1.alloc _) ⟨_, 0, none⟩ 1 1 [.int .i64 (k : Int)] (by rfl) rfl (by first | exact news_one (cell_new _ _ _) | exact news_one ((hgrow1.cell_far _ (by first | (simp; done) | (simp; omega)) (by simp [Value.ownBlock])).trans (draw_cell_new2 _ _ _ _)) | exact news_one ((hgrow1.cell_far _ (by first | (simp; done) | (simp; omega)) (by simp [Value.ownBlock])).trans (cell_new _ _ _)) | exact news_one ((hgrow1.cell_far _ (by first | (simp; done) | (simp; omega)) (by simp [Value.ownBlock])).trans (cell_new_alloc _ _ _ _)) | exact news_one ((hgrow1.cell_far _ (by first | (simp; done) | (simp; omega)) (by simp [Value.ownBlock])).trans (cell_new _ _ _))) (by simp [Value.oneCell']) (by simp [maxLen]; omega) (by omega) (by have := hU1.size; simp; omega) ?_; intro g2 cap2 x2 hown2 hgrow2 hg2 hl2 hc2 hm2; have hU2 : Upd (fun k => w7.heap.size ≤ k) w7 x2 := Upd.grown (by repeat' (first | exact Upd.refl _ _ | assumption | refine Upd.alloc ?_ _ | refine Upd.drew ?_)) hgrow2 (fun q hq => by simp [Value.ownBlock] at hq; omega))
            | (refine step_append_any _ rfl (.tmp 101) (.tmp 104) _ (by rfl) w7.heap.size 3 i1 _ 8 Tryd.underlying23 hi1 hzi1 hsi1 hbi1 rfl (.slice (some ⟨g2, 0, none⟩) (h + 1) cap2) (h + 1) _ (by rfl) (by simp) hown2 AD (k - h) _ _ (by simp [Act.eval]; rfl) (by rw [List.length_map]; exact htd) (news_at htc7 hU2 hbt7 hadd hgd (by omega)) (hone _) (by simp [maxLen]; omega) (by omega) (by have := hU2.size; omega) ?_; intro g3 cap3 x3 hown3 hgrow3 hg3 hl3 hc3 hm3; have hU3 : Upd (fun k => w7.heap.size ≤ k) w7 x3 := Upd.grown hU2 hgrow3 (fun q hq => by simp [Value.ownBlock] at hq; omega)))
          all_goals
            have e3 : ([] ++ (ts.take h).map (Value.int .i64) ++ [Value.int .i64 (k : Int)]) ++ (ts.drop h).map (Value.int .i64) = (ts.take h ++ [(k : Int)] ++ ts.drop h).map (Value.int .i64) := by simp
            rw [e3] at hown3
            have hn3 : h + 1 + (k - h) = k + 1 := by omega
            rw [hn3] at hown3 hc3
            obtain ⟨hl3', hc3'⟩ := own_cells hown3
            simp only [hn3]
            have htb' : ∀ x ∈ ts.take h ++ [(k : Int)] ++ ts.drop h, (0 : Int) ≤ x ∧ x < ((k + 1 : Nat) : Int) := fun x hx => by
              rcases List.mem_append.1 hx with hx | hx
              · rcases List.mem_append.1 hx with hx | hx
                · have := htb x (List.mem_of_mem_take hx); omega
                · have := List.mem_singleton.1 hx; omega
              · have := htb x (List.mem_of_mem_drop hx); omega
            have hR8 : Rd x3 R (p5 + 1 + (k + 1)) := hR7.upd hU3 (fun q hq => by omega)
            have hU8 : Upd (fun k => k = R) w6 x3 := hUw7.trans' hU3 (fun i hi e => by omega)
            go_wp2
            go_roundw
            case rel => exact ⟨k + 1, g3, cap3, ts.take h ++ [(k : Int)] ++ ts.drop h, by omega, by go_num, rfl, ⟨hc3, hm3⟩, ⟨hl3, by omega⟩, hl3', htb', hc3', hR8, hU8⟩
            case measure => simp [intOf]; omega
        · obtain rfl : k = N := by omega
          go_wp2_with fail
          refine (renumbered_any A5 (some ⟨bt, 0, none⟩) m5 c5 k cp zs5 ts wr ((hr6.upd hU (fun j e => by omega)).ints (by have := hU6.size; omega)) ⟨htl, fun _ => ⟨bt, 0, rfl, hbt, fun j hj => by rw [Nat.zero_add]; exact htc j hj⟩⟩ hm6 (by omega) hsm (fun j hj => by
            have hjl : j < ts.length := by omega
            have := htb ts[j] (List.getElem_mem hjl)
            rw [List.getElem?_eq_getElem hjl, Option.getD_some]
            omega)).mono ?_
          rintro e w8 ⟨os, rfl, hos, hArr, hB8⟩
          go_wp2
          go_ret
          exact ⟨_, m5, m5, os, p5 + 1 + k - p, rfl, by omega, Row.of hArr hos (by omega) hArr.lt, by omega, by rw [show p + (p5 + 1 + k - p) = p5 + 1 + k by omega]; exact hRd.below hB8 (by omega), (hRw6.trans hU).below hB8 (fun k h1 h2 => by omega)⟩
    · by_cases hy0 : y = 0
      · subst hy0
        have hN1 : ¬ 1 < N := fun e => hyn ⟨rfl, e⟩
        first
          | (exfalso; omega)
          | (go_wp2; go_ret; exact ⟨A5, m5, c5, zs5, p5 + 1 - p, rfl, by omega, hr6.more (Nat.le_refl _) hU6.size, by omega, by rw [show p + (p5 + 1 - p) = p5 + 1 by omega]; exact hR6, hRw6⟩)
      · go_wp2
        go_ret
        exact ⟨A5, m5, c5, zs5, p5 + 1 - p, rfl, by omega, hr6.more (Nat.le_refl _) hU6.size, by omega, by rw [show p + (p5 + 1 - p) = p5 + 1 by omega]; exact hR6, hRw6⟩
  by_cases x1 : x = 1
  · subst x1
    go_wp2_with fail
    have hL := litRows w4 [(0, 2), (1, 2), (1, 3)]
    have hup := litW_upd w4 [(0, 2), (1, 2), (1, 3)]
    refine (specOrderOf_any 4 _ 3 3 _ (litW w4 [(0, 2), (1, 2), (1, 3)]) hL (by simp) (by simp)).mono ?_
    rintro e w5 ⟨A5, m5, c5, rfl, r5, hB5⟩
    have hzL := hup.size
    have hRw5 := (hRw4.trans (hup.mono fun _ _ e => e.elim)).below hB5 (fun k h1 h2 => by omega)
    have hR5 := (hR4.upd hup (fun _ e => e.elim)).below hB5 (by omega)
    have hr5 := r5.more (lo' := w.heap.size) (by omega) (Nat.le_refl _)
    have hos := ordL_small 4 (([(0, 2), (1, 2), (1, 3)] : List (Int × Int)).map fun r => [r.1, r.2])
    obtain ⟨zs5, hzs5⟩ : ∃ zs5, ordL 4 (([(0, 2), (1, 2), (1, 3)] : List (Int × Int)).map fun r => [r.1, r.2]) = zs5 := ⟨_, rfl⟩
    rw [hzs5] at hos hr5
    obtain ⟨hsm, hml, hm6⟩ := hos
    rw [hr5.len] at hml hm6
    have hob : ∃ bb : Bool, ordOk 4 (([(0, 2), (1, 2), (1, 3)] : List (Int × Int)).map fun r => [r.1, r.2]) = bb := ⟨_, rfl⟩
    obtain ⟨bb, hbb⟩ := hob
    rw [hbb]
    generalize hp5 : p + 1 + q3 + 1 = p5 at *
    have hp5' : p5 ≤ p + 40 := by omega
    obtain ⟨N, hN1', hN2'⟩ : ∃ N : Nat, N ≤ 4 ∧ 4 ≤ N := ⟨4, Nat.le_refl _, Nat.le_refl _⟩
    clear r5 hL hB5 hR4 hRw4 hup hzL
    go_wp2_with fail
    refine (pick_any R p5 3 w5 hR5 (by omega)).mono ?_
    rintro e w6 ⟨y, rfl, hy, hR6, hU6⟩
    have hRw6 := hRw5.trans hU6
    have hz6 := hRw6.size
    have hr6 := hr5.upd hU6 (fun j e => by omega)
    by_cases hyn : y = 0 ∧ 1 < N
    · obtain ⟨rfl, hN1⟩ := hyn
      try have hK1 : (1 : Int) < (K : Int) := by omega
      go_wp2_with fail
      go_loopw [10, 11] (fun v i wr => ∃ (k bt cp : Nat) (ts : List Int), k ≤ N ∧ i = .int .i64 k ∧ v = .slice (some ⟨bt, 0, none⟩) k cp ∧ (k ≤ cp ∧ cp ≤ maxLen) ∧ (bt < wr.heap.size ∧ w6.heap.size ≤ bt) ∧ ts.length = k ∧ (∀ x ∈ ts, (0 : Int) ≤ x ∧ x < k) ∧ (∀ j, j < k → wr.cell? ⟨bt, j, none⟩ = some (.int .i64 (ts[j]?.getD 0))) ∧ Rd wr R (p5 + 1 + k) ∧ Upd (fun k => k = R) w6 wr) (fun _ i _ => N - (intOf i).toNat)
      case atStart => exact ⟨0, w6.heap.size, 0, [], by omega, rfl, rfl, ⟨by omega, by simp [maxLen]⟩, ⟨by simp, by omega⟩, rfl, (fun x hx => by simp at hx), fun j hj => by omega, hR6.upd ((Upd.refl (fun _ => False) w6).alloc _) (fun _ e => e.elim), (Upd.refl _ _).alloc _⟩
      case round =>
        obtain ⟨k, bt, cp, ts, hk, rfl, rfl, ⟨hkc, hcm⟩, ⟨hbt, hbt6⟩, htl, htb, htc, hRd, hU⟩ := hrel
        have zU := hU.size
        by_cases hlt : k < N
        · go_wp2_with fail
          refine (pick_any R (p5 + 1 + k) (k + 1) _ hRd (by omega)).mono ?_
          rintro e w7 ⟨y, rfl, hy, hR7, hU7⟩
          have hy2 := hy.1 (by omega)
          obtain ⟨h, rfl⟩ := Int.eq_ofNat_of_zero_le hy2.1
          have hhk : h ≤ k := by omega
          have htc7 : ∀ j, j < k → w7.cell? ⟨bt, j, none⟩ = some (.int .i64 (ts[j]?.getD 0)) := fun j hj => hU7.cell (htc j hj) (by simp; omega)
          have hUw7 := hU.trans hU7
          have z7 := hU7.size
          clear hy hy2 htc hU hU7 hRd
          go_wp2_with fail
          obtain ⟨AD, hAD⟩ : ∃ AD, (if cp = h then some (⟨bt, 0, none⟩ : Addr) else some ⟨bt, h, none⟩) = some AD := by split <;> exact ⟨_, rfl⟩
          have hadd : ∀ j, j < (ts.drop h).length → AD.add j = ⟨bt, h + j, none⟩ := fun j hj => by
            have hne : ¬ cp = h := fun e => by simp at hj; omega
            rw [if_neg hne] at hAD
            cases hAD
            exact addr_add ..
          have hadd0 : ∀ j, j < (ts.take h).length → (⟨bt, 0, none⟩ : Addr).add j = ⟨bt, 0 + j, none⟩ := fun j hj => addr_add ..
          have htk : (ts.take h).length = h := by simp; omega
          have htd : (ts.drop h).length = k - h := by simp; omega
          have hgt : ∀ j, j < (ts.take h).length → (ts.take h)[j]?.getD 0 = ts[0 + j]?.getD 0 := fun j hj => by rw [Nat.zero_add, List.getElem?_take_of_lt (by omega)]
          have hgd : ∀ j, j < (ts.drop h).length → (ts.drop h)[j]?.getD 0 = ts[h + j]?.getD 0 := fun j hj => by rw [List.getElem?_drop]
          have hone : ∀ (zs : List Int), ∀ u ∈ zs.map (Value.int .i64), u.oneCell' = true := fun zs u hu => by
            obtain ⟨z, _, rfl⟩ := List.mem_map.1 hu; rfl
          have hbt7 : bt < w7.heap.size := by omega
          have hkN : k < 6 := by omega
          have hhc : h ≤ cp := by omega
          have hhc' : (h : Int) ≤ (cp : Int) := by omega
          have hhk' : (h : Int) ≤ (k : Int) := by omega
          go_region_law (first
            | (refine step_append_any _ rfl (.tmp 94) (.tmp 97) _ (by rfl) w7.heap.size 3 i1 _ 8 Tryd.underlying23 hi1 hzi1 hsi1 hbi1 rfl (.slice (some ⟨_, 0, none⟩) 0 0) 0 [] (by rfl) (by simp) (by first | exact own_new2 _ _ _ | exact own_sooner (own_new _ _) (by first | (simp; done) | (simp; omega)) | exact own_sooner ((own_new _ _).alloc _) (by first | (simp; done) | (simp; omega))) ⟨bt, 0, none⟩ h cp _ (by rfl) (by rw [List.length_map]; exact htk) (news_at htc7 (by repeat' (first | exact Upd.refl _ _ | assumption | refine Upd.alloc ?_ _ | refine Upd.drew ?_)) hbt7 hadd0 hgt (by omega)) (hone _) (by simp [maxLen]; omega) (by omega) (by first | (simp; done) | (simp; omega)) ?_; intro g1 cap1 x1 hown1 hgrow1 hg1 hl1 hc1 hm1; rw [Nat.zero_add] at hown1; have hU1 : Upd (fun k => w7.heap.size ≤ k) w7 x1 := Upd.grown (by repeat' (first | exact Upd.refl _ _ | assumption | refine Upd.alloc ?_ _ | refine Upd.drew ?_)) hgrow1 (fun q hq => by simp [Value.ownBlock] at hq; omega))
            | (refine step_append_any _ rfl (.tmp 98) (.tmp 100) _ (by rfl) w7.heap.size 3 i1 _ 8 Tryd.underlying23 hi1 hzi1 hsi1 hbi1 rfl (.slice (some ⟨g1, 0, none⟩) h cap1) h _ (by rfl) (by simp) (by first | exact hown1 | exact hown1.alloc _) ⟨_, 0, none⟩ 1 1 [.int .i64 (k : Int)] (by rfl) rfl (by first | exact news_one (cell_new _ _ _) | exact news_one ((hgrow1.cell_far _ (by first | (simp; done) | (simp; omega)) (by simp [Value.ownBlock])).trans (draw_cell_new2 _ _ _ _)) | exact news_one ((hgrow1.cell_far _ (by first | (simp; done) | (simp; omega)) (by simp [Value.ownBlock])).trans (cell_new _ _ _)) | exact news_one ((hgrow1.cell_far _ (by first | (simp; done) | (simp; omega)) (by simp [Value.ownBlock])).trans (cell_new_alloc _ _ _ _)) | exact news_one ((hgrow1.cell_far _ (by first | (simp; done) | (simp; omega)) (by simp [Value.ownBlock])).trans (cell_new _ _ _))) (by simp [Value.oneCell']) (by simp [maxLen]; omega) (by omega) (by have := hU1.size; simp; omega) ?_; intro g2 cap2 x2 hown2 hgrow2 hg2 hl2 hc2 hm2; have hU2 : Upd (fun k => w7.heap.size ≤ k) w7 x2 := Upd.grown (by repeat' (first | exact Upd.refl _ _ | assumption | refine Upd.alloc ?_ _ | refine Upd.drew ?_)) hgrow2 (fun q hq => by simp [Value.ownBlock] at hq; omega))
            | (refine step_append_any _ rfl (.tmp 101) (.tmp 104) _ (by rfl) w7.heap.size 3 i1 _ 8 Tryd.underlying23 hi1 hzi1 hsi1 hbi1 rfl (.slice (some ⟨g2, 0, none⟩) (h + 1) cap2) (h + 1) _ (by rfl) (by simp) hown2 AD (k - h) _ _ (by simp [Act.eval]; rfl) (by rw [List.length_map]; exact htd) (news_at htc7 hU2 hbt7 hadd hgd (by omega)) (hone _) (by simp [maxLen]; omega) (by omega) (by have := hU2.size; omega) ?_; intro g3 cap3 x3 hown3 hgrow3 hg3 hl3 hc3 hm3; have hU3 : Upd (fun k => w7.heap.size ≤ k) w7 x3 := Upd.grown hU2 hgrow3 (fun q hq => by simp [Value.ownBlock] at hq; omega)))
          all_goals
            have e3 : ([] ++ (ts.take h).map (Value.int .i64) ++ [Value.int .i64 (k : Int)]) ++ (ts.drop h).map (Value.int .i64) = (ts.take h ++ [(k : Int)] ++ ts.drop h).map (Value.int .i64) := by simp
            rw [e3] at hown3
            have hn3 : h + 1 + (k - h) = k + 1 := by omega
            rw [hn3] at hown3 hc3
            obtain ⟨hl3', hc3'⟩ := own_cells hown3
            simp only [hn3]
            have htb' : ∀ x ∈ ts.take h ++ [(k : Int)] ++ ts.drop h, (0 : Int) ≤ x ∧ x < ((k + 1 : Nat) : Int) := fun x hx => by
              rcases List.mem_append.1 hx with hx | hx
              · rcases List.mem_append.1 hx with hx | hx
                · have := htb x (List.mem_of_mem_take hx); omega
                · have := List.mem_singleton.1 hx; omega
              · have := htb x (List.mem_of_mem_drop hx); omega
            have hR8 : Rd x3 R (p5 + 1 + (k + 1)) := hR7.upd hU3 (fun q hq => by omega)
            have hU8 : Upd (fun k => k = R) w6 x3 := hUw7.trans' hU3 (fun i hi e => by omega)
            go_wp2
            go_roundw
            case rel => exact ⟨k + 1, g3, cap3, ts.take h ++ [(k : Int)] ++ ts.drop h, by omega, by go_num, rfl, ⟨hc3, hm3⟩, ⟨hl3, by omega⟩, hl3', htb', hc3', hR8, hU8⟩
            case measure => simp [intOf]; omega
        · obtain rfl : k = N := by omega
          go_wp2_with fail
          refine (renumbered_any A5 (some ⟨bt, 0, none⟩) m5 c5 k cp zs5 ts wr ((hr6.upd hU (fun j e => by omega)).ints (by have := hU6.size; omega)) ⟨htl, fun _ => ⟨bt, 0, rfl, hbt, fun j hj => by rw [Nat.zero_add]; exact htc j hj⟩⟩ hm6 (by omega) hsm (fun j hj => by
            have hjl : j < ts.length := by omega
            have := htb ts[j] (List.getElem_mem hjl)
            rw [List.getElem?_eq_getElem hjl, Option.getD_some]
            omega)).mono ?_
          rintro e w8 ⟨os, rfl, hos, hArr, hB8⟩
          go_wp2
          go_ret
          exact ⟨_, m5, m5, os, p5 + 1 + k - p, rfl, by omega, Row.of hArr hos (by omega) hArr.lt, by omega, by rw [show p + (p5 + 1 + k - p) = p5 + 1 + k by omega]; exact hRd.below hB8 (by omega), (hRw6.trans hU).below hB8 (fun k h1 h2 => by omega)⟩
    · by_cases hy0 : y = 0
      · subst hy0
        have hN1 : ¬ 1 < N := fun e => hyn ⟨rfl, e⟩
        first
          | (exfalso; omega)
          | (go_wp2; go_ret; exact ⟨A5, m5, c5, zs5, p5 + 1 - p, rfl, by omega, hr6.more (Nat.le_refl _) hU6.size, by omega, by rw [show p + (p5 + 1 - p) = p5 + 1 by omega]; exact hR6, hRw6⟩)
      · go_wp2
        go_ret
        exact ⟨A5, m5, c5, zs5, p5 + 1 - p, rfl, by omega, hr6.more (Nat.le_refl _) hU6.size, by omega, by rw [show p + (p5 + 1 - p) = p5 + 1 by omega]; exact hR6, hRw6⟩
  by_cases x2 : x = 2
  · subst x2
    go_wp2_with fail
    have R4 := Rowed.new w4
    go_loopw [6, 7] (fun v i wr => ∃ (i' : Nat) (rs : List (List Int)), i = .int .i64 i' ∧ (1 ≤ i' ∧ (i' ≤ K ∨ i' = 1)) ∧ rs.length + 1 = i' ∧ (∀ r ∈ rs, r.length = 2) ∧ Rowed wr w4.heap.size v rs ∧ Rd wr R (p + 1 + q3 + 1 + rs.length) ∧ Upd (fun k => k = R) w wr) (fun _ i _ => K + 1 - (intOf i).toNat)
    case atStart => exact ⟨1, [], rfl, ⟨by omega, .inr rfl⟩, rfl, (fun r hr => by simp at hr), R4, hR4.upd ((Upd.refl (fun _ => False) w4).alloc _) (fun _ e => e.elim), hRw4.alloc _⟩
    case round =>
      clear hR4 R4
      obtain ⟨i', rs, rfl, ⟨hia, hib⟩, hrl, hall, hRo, hRd, hU⟩ := hrel
      have zU := hU.size
      by_cases hlt : i' < K
      · go_wp2_with fail
        refine (pick_any R (p + 1 + q3 + 1 + rs.length) i' _ hRd (by omega)).mono ?_
        rintro e w5 ⟨a, rfl, -, hR5, hU5⟩
        have hRo5 := hRo.keep hU5 (fun j e => by omega)
        have hUw := hU.trans hU5
        have z5 := hU5.size
        obtain ⟨vs, hown, hC, hb1⟩ := hRo5
        clear hRo hRd hU hU5
        go_wp2_with (at_builtin; go_loud (refine wpList_append1 _ rfl (.tmp 46) (.tmp 52) _ rfl w4.heap.size 23 i0 _ 24 Tryd.underlying61 hi0 hz0 hz1 hz2 rfl _ rs.length _ rfl ((hown.alloc _).alloc _) (w5.heap.size + 1) 1 (.slice (some ⟨w5.heap.size, 0, none⟩) 2 2) rfl (draw_cell_new2 _ _ _ _) rfl (by omega) (by omega) (by simp; omega) ?_); rintro v' w' hown' hg' -)
        have hall' : ∀ r ∈ rs ++ [[a, (i' : Int)]], r.length = 2 := fun r hr => by
          rcases List.mem_append.1 hr with hr | hr
          · exact hall r hr
          · rw [List.mem_singleton.1 hr]; rfl
        have hUg : Upd (fun k => w4.heap.size ≤ k) w5 w' := (((Upd.refl (fun k => w4.heap.size ≤ k) w5).alloc _).alloc _).grown hg' (fun k hk => .inr (own_base hown k hk))
        have hR9 : Rd w' R (p + 1 + q3 + 1 + (rs ++ [[a, (i' : Int)]]).length) := by
          rw [List.length_append]; exact hR5.upd hUg (fun k hk => by omega)
        have hU9 : Upd (fun k => k = R) w w' := hUw.trans' hUg (fun i hi e => by omega)
        have hl9 : (rs ++ [[a, (i' : Int)]]).length + 1 = i' + 1 := by simp; omega
        go_roundw
        case rel => exact ⟨i' + 1, rs ++ [[a, (i' : Int)]], by go_num, ⟨by omega, .inl (by omega)⟩, hl9, hall', Rowed.step hown rfl hC hb1 hown' hg', hR9, hU9⟩
        case measure => simp [intOf]; omega
      · have hF := hRo.few (by omega) (fun r hr => by rw [hall r hr]; omega)
        obtain ⟨A3, c3, rfl, hI4, hl4, hr4⟩ := hF
        go_wp2_with fail
        refine (specOrderOf_any K A3 _ c3 rs wr hI4 hl4 hr4).mono ?_
        rintro e w5 ⟨A5, m5, c5, rfl, r5, hB5⟩
        have hRw5 := hU.below hB5 (fun k h1 h2 => by omega)
        have hR5 := hRd.below hB5 (by omega)
        have hr5 := r5.more (lo' := w.heap.size) zU (Nat.le_refl _)
        obtain ⟨hsm, hml, hm6⟩ := ordL_small K rs
        rw [r5.len] at hml hm6
        generalize ordL (K : Int) rs = zs5 at *
        generalize hp5 : p + 1 + q3 + 1 + rs.length = p5 at *
        have hp5' : p5 ≤ p + 40 := by omega
        obtain ⟨N, hN1', hN2'⟩ : ∃ N : Nat, N ≤ K ∧ K ≤ N := ⟨K, Nat.le_refl _, Nat.le_refl _⟩
        clear r5 hI4 hB5 hRd hU hr4 hl4 hRo
        go_wp2_with fail
        refine (pick_any R p5 3 w5 hR5 (by omega)).mono ?_
        rintro e w6 ⟨y, rfl, hy, hR6, hU6⟩
        have hRw6 := hRw5.trans hU6
        have hz6 := hRw6.size
        have hr6 := hr5.upd hU6 (fun j e => by omega)
        by_cases hyn : y = 0 ∧ 1 < N
        · obtain ⟨rfl, hN1⟩ := hyn
          try have hK1 : (1 : Int) < (K : Int) := by omega
          go_wp2_with fail
          go_loopw [10, 11] (fun v i wr => ∃ (k bt cp : Nat) (ts : List Int), k ≤ N ∧ i = .int .i64 k ∧ v = .slice (some ⟨bt, 0, none⟩) k cp ∧ (k ≤ cp ∧ cp ≤ maxLen) ∧ (bt < wr.heap.size ∧ w6.heap.size ≤ bt) ∧ ts.length = k ∧ (∀ x ∈ ts, (0 : Int) ≤ x ∧ x < k) ∧ (∀ j, j < k → wr.cell? ⟨bt, j, none⟩ = some (.int .i64 (ts[j]?.getD 0))) ∧ Rd wr R (p5 + 1 + k) ∧ Upd (fun k => k = R) w6 wr) (fun _ i _ => N - (intOf i).toNat)
          case atStart => exact ⟨0, w6.heap.size, 0, [], by omega, rfl, rfl, ⟨by omega, by simp [maxLen]⟩, ⟨by simp, by omega⟩, rfl, (fun x hx => by simp at hx), fun j hj => by omega, hR6.upd ((Upd.refl (fun _ => False) w6).alloc _) (fun _ e => e.elim), (Upd.refl _ _).alloc _⟩
          case round =>
            obtain ⟨k, bt, cp, ts, hk, rfl, rfl, ⟨hkc, hcm⟩, ⟨hbt, hbt6⟩, htl, htb, htc, hRd, hU⟩ := hrel
            have zU := hU.size
            by_cases hlt : k < N
            · go_wp2_with fail
              refine (pick_any R (p5 + 1 + k) (k + 1) _ hRd (by omega)).mono ?_
              rintro e w7 ⟨y, rfl, hy, hR7, hU7⟩
              have hy2 := hy.1 (by omega)
              obtain ⟨h, rfl⟩ := Int.eq_ofNat_of_zero_le hy2.1
              have hhk : h ≤ k := by omega
              have htc7 : ∀ j, j < k → w7.cell? ⟨bt, j, none⟩ = some (.int .i64 (ts[j]?.getD 0)) := fun j hj => hU7.cell (htc j hj) (by simp; omega)
              have hUw7 := hU.trans hU7
              have z7 := hU7.size
              clear hy hy2 htc hU hU7 hRd
              go_wp2_with fail
              obtain ⟨AD, hAD⟩ : ∃ AD, (if cp = h then some (⟨bt, 0, none⟩ : Addr) else some ⟨bt, h, none⟩) = some AD := by split <;> exact ⟨_, rfl⟩
              have hadd : ∀ j, j < (ts.drop h).length → AD.add j = ⟨bt, h + j, none⟩ := fun j hj => by
                have hne : ¬ cp = h := fun e => by simp at hj; omega
                rw [if_neg hne] at hAD
                cases hAD
                exact addr_add ..
              have hadd0 : ∀ j, j < (ts.take h).length → (⟨bt, 0, none⟩ : Addr).add j = ⟨bt, 0 + j, none⟩ := fun j hj => addr_add ..
              have htk : (ts.take h).length = h := by simp; omega
              have htd : (ts.drop h).length = k - h := by simp; omega
              have hgt : ∀ j, j < (ts.take h).length → (ts.take h)[j]?.getD 0 = ts[0 + j]?.getD 0 := fun j hj => by rw [Nat.zero_add, List.getElem?_take_of_lt (by omega)]
              have hgd : ∀ j, j < (ts.drop h).length → (ts.drop h)[j]?.getD 0 = ts[h + j]?.getD 0 := fun j hj => by rw [List.getElem?_drop]
              have hone : ∀ (zs : List Int), ∀ u ∈ zs.map (Value.int .i64), u.oneCell' = true := fun zs u hu => by
                obtain ⟨z, _, rfl⟩ := List.mem_map.1 hu; rfl
              have hbt7 : bt < w7.heap.size := by omega
              have hkN : k < 6 := by omega
              have hhc : h ≤ cp := by omega
              have hhc' : (h : Int) ≤ (cp : Int) := by omega
              have hhk' : (h : Int) ≤ (k : Int) := by omega
              go_region_law (first
                | (refine step_append_any _ rfl (.tmp 94) (.tmp 97) _ (by rfl) w7.heap.size 3 i1 _ 8 Tryd.underlying23 hi1 hzi1 hsi1 hbi1 rfl (.slice (some ⟨_, 0, none⟩) 0 0) 0 [] (by rfl) (by simp) (by first | exact own_new2 _ _ _ | exact own_sooner (own_new _ _) (by first | (simp; done) | (simp; omega)) | exact own_sooner ((own_new _ _).alloc _) (by first | (simp; done) | (simp; omega))) ⟨bt, 0, none⟩ h cp _ (by rfl) (by rw [List.length_map]; exact htk) (news_at htc7 (by repeat' (first | exact Upd.refl _ _ | assumption | refine Upd.alloc ?_ _ | refine Upd.drew ?_)) hbt7 hadd0 hgt (by omega)) (hone _) (by simp [maxLen]; omega) (by omega) (by first | (simp; done) | (simp; omega)) ?_; intro g1 cap1 x1 hown1 hgrow1 hg1 hl1 hc1 hm1; rw [Nat.zero_add] at hown1; have hU1 : Upd (fun k => w7.heap.size ≤ k) w7 x1 := Upd.grown (by repeat' (first | exact Upd.refl _ _ | assumption | refine Upd.alloc ?_ _ | refine Upd.drew ?_)) hgrow1 (fun q hq => by simp [Value.ownBlock] at hq; omega))
                | (refine step_append_any _ rfl (.tmp 98) (.tmp 100) _ (by rfl) w7.heap.size 3 i1 _ 8 Tryd.underlying23 hi1 hzi1 hsi1 hbi1 rfl (.slice (some ⟨g1, 0, none⟩) h cap1) h _ (by rfl) (by simp) (by first | exact hown1 | exact hown1.alloc _) ⟨_, 0, none⟩ 1 1 [.int .i64 (k : Int)] (by rfl) rfl (by first | exact news_one (cell_new _ _ _) | exact news_one ((hgrow1.cell_far _ (by first | (simp; done) | (simp; omega)) (by simp [Value.ownBlock])).trans (draw_cell_new2 _ _ _ _)) | exact news_one ((hgrow1.cell_far _ (by first | (simp; done) | (simp; omega)) (by simp [Value.ownBlock])).trans (cell_new _ _ _)) | exact news_one ((hgrow1.cell_far _ (by first | (simp; done) | (simp; omega)) (by simp [Value.ownBlock])).trans (cell_new_alloc _ _ _ _)) | exact news_one ((hgrow1.cell_far _ (by first | (simp; done) | (simp; omega)) (by simp [Value.ownBlock])).trans (cell_new _ _ _))) (by simp [Value.oneCell']) (by simp [maxLen]; omega) (by omega) (by have := hU1.size; simp; omega) ?_; intro g2 cap2 x2 hown2 hgrow2 hg2 hl2 hc2 hm2; have hU2 : Upd (fun k => w7.heap.size ≤ k) w7 x2 := Upd.grown (by repeat' (first | exact Upd.refl _ _ | assumption | refine Upd.alloc ?_ _ | refine Upd.drew ?_)) hgrow2 (fun q hq => by simp [Value.ownBlock] at hq; omega))
                | (refine step_append_any _ rfl (.tmp 101) (.tmp 104) _ (by rfl) w7.heap.size 3 i1 _ 8 Tryd.underlying23 hi1 hzi1 hsi1 hbi1 rfl (.slice (some ⟨g2, 0, none⟩) (h + 1) cap2) (h + 1) _ (by rfl) (by simp) hown2 AD (k - h) _ _ (by simp [Act.eval]; rfl) (by rw [List.length_map]; exact htd) (news_at htc7 hU2 hbt7 hadd hgd (by omega)) (hone _) (by simp [maxLen]; omega) (by omega) (by have := hU2.size; omega) ?_; intro g3 cap3 x3 hown3 hgrow3 hg3 hl3 hc3 hm3; have hU3 : Upd (fun k => w7.heap.size ≤ k) w7 x3 := Upd.grown hU2 hgrow3 (fun q hq => by simp [Value.ownBlock] at hq; omega)))
              all_goals
                have e3 : ([] ++ (ts.take h).map (Value.int .i64) ++ [Value.int .i64 (k : Int)]) ++ (ts.drop h).map (Value.int .i64) = (ts.take h ++ [(k : Int)] ++ ts.drop h).map (Value.int .i64) := by simp
                rw [e3] at hown3
                have hn3 : h + 1 + (k - h) = k + 1 := by omega
                rw [hn3] at hown3 hc3
                obtain ⟨hl3', hc3'⟩ := own_cells hown3
                simp only [hn3]
                have htb' : ∀ x ∈ ts.take h ++ [(k : Int)] ++ ts.drop h, (0 : Int) ≤ x ∧ x < ((k + 1 : Nat) : Int) := fun x hx => by
                  rcases List.mem_append.1 hx with hx | hx
                  · rcases List.mem_append.1 hx with hx | hx
                    · have := htb x (List.mem_of_mem_take hx); omega
                    · have := List.mem_singleton.1 hx; omega
                  · have := htb x (List.mem_of_mem_drop hx); omega
                have hR8 : Rd x3 R (p5 + 1 + (k + 1)) := hR7.upd hU3 (fun q hq => by omega)
                have hU8 : Upd (fun k => k = R) w6 x3 := hUw7.trans' hU3 (fun i hi e => by omega)
                go_wp2
                go_roundw
                case rel => exact ⟨k + 1, g3, cap3, ts.take h ++ [(k : Int)] ++ ts.drop h, by omega, by go_num, rfl, ⟨hc3, hm3⟩, ⟨hl3, by omega⟩, hl3', htb', hc3', hR8, hU8⟩
                case measure => simp [intOf]; omega
            · obtain rfl : k = N := by omega
              go_wp2_with fail
              refine (renumbered_any A5 (some ⟨bt, 0, none⟩) m5 c5 k cp zs5 ts wr ((hr6.upd hU (fun j e => by omega)).ints (by have := hU6.size; omega)) ⟨htl, fun _ => ⟨bt, 0, rfl, hbt, fun j hj => by rw [Nat.zero_add]; exact htc j hj⟩⟩ hm6 (by omega) hsm (fun j hj => by
                have hjl : j < ts.length := by omega
                have := htb ts[j] (List.getElem_mem hjl)
                rw [List.getElem?_eq_getElem hjl, Option.getD_some]
                omega)).mono ?_
              rintro e w8 ⟨os, rfl, hos, hArr, hB8⟩
              go_wp2
              go_ret
              exact ⟨_, m5, m5, os, p5 + 1 + k - p, rfl, by omega, Row.of hArr hos (by omega) hArr.lt, by omega, by rw [show p + (p5 + 1 + k - p) = p5 + 1 + k by omega]; exact hRd.below hB8 (by omega), (hRw6.trans hU).below hB8 (fun k h1 h2 => by omega)⟩
        · by_cases hy0 : y = 0
          · subst hy0
            have hN1 : ¬ 1 < N := fun e => hyn ⟨rfl, e⟩
            first
              | (exfalso; omega)
              | (go_wp2; go_ret; exact ⟨A5, m5, c5, zs5, p5 + 1 - p, rfl, by omega, hr6.more (Nat.le_refl _) hU6.size, by omega, by rw [show p + (p5 + 1 - p) = p5 + 1 by omega]; exact hR6, hRw6⟩)
          · go_wp2
            go_ret
            exact ⟨A5, m5, c5, zs5, p5 + 1 - p, rfl, by omega, hr6.more (Nat.le_refl _) hU6.size, by omega, by rw [show p + (p5 + 1 - p) = p5 + 1 by omega]; exact hR6, hRw6⟩
  by_cases x3 : x = 3
  · subst x3
    go_wp2_with fail
    have hL := litRows w4 [(0, 1), (0, 2), (0, 3), (1, 4), (2, 4), (3, 4)]
    have hup := litW_upd w4 [(0, 1), (0, 2), (0, 3), (1, 4), (2, 4), (3, 4)]
    refine (specOrderOf_any 5 _ 6 6 _ (litW w4 [(0, 1), (0, 2), (0, 3), (1, 4), (2, 4), (3, 4)]) hL (by simp) (by simp)).mono ?_
    rintro e w5 ⟨A5, m5, c5, rfl, r5, hB5⟩
    have hzL := hup.size
    have hRw5 := (hRw4.trans (hup.mono fun _ _ e => e.elim)).below hB5 (fun k h1 h2 => by omega)
    have hR5 := (hR4.upd hup (fun _ e => e.elim)).below hB5 (by omega)
    have hr5 := r5.more (lo' := w.heap.size) (by omega) (Nat.le_refl _)
    have hos := ordL_small 5 (([(0, 1), (0, 2), (0, 3), (1, 4), (2, 4), (3, 4)] : List (Int × Int)).map fun r => [r.1, r.2])
    obtain ⟨zs5, hzs5⟩ : ∃ zs5, ordL 5 (([(0, 1), (0, 2), (0, 3), (1, 4), (2, 4), (3, 4)] : List (Int × Int)).map fun r => [r.1, r.2]) = zs5 := ⟨_, rfl⟩
    rw [hzs5] at hos hr5
    obtain ⟨hsm, hml, hm6⟩ := hos
    rw [hr5.len] at hml hm6
    have hob : ∃ bb : Bool, ordOk 5 (([(0, 1), (0, 2), (0, 3), (1, 4), (2, 4), (3, 4)] : List (Int × Int)).map fun r => [r.1, r.2]) = bb := ⟨_, rfl⟩
    obtain ⟨bb, hbb⟩ := hob
    rw [hbb]
    generalize hp5 : p + 1 + q3 + 1 = p5 at *
    have hp5' : p5 ≤ p + 40 := by omega
    obtain ⟨N, hN1', hN2'⟩ : ∃ N : Nat, N ≤ 5 ∧ 5 ≤ N := ⟨5, Nat.le_refl _, Nat.le_refl _⟩
    clear r5 hL hB5 hR4 hRw4 hup hzL
    go_wp2_with fail
    refine (pick_any R p5 3 w5 hR5 (by omega)).mono ?_
    rintro e w6 ⟨y, rfl, hy, hR6, hU6⟩
    have hRw6 := hRw5.trans hU6
    have hz6 := hRw6.size
    have hr6 := hr5.upd hU6 (fun j e => by omega)
    by_cases hyn : y = 0 ∧ 1 < N
    · obtain ⟨rfl, hN1⟩ := hyn
      try have hK1 : (1 : Int) < (K : Int) := by omega
      go_wp2_with fail
      go_loopw [10, 11] (fun v i wr => ∃ (k bt cp : Nat) (ts : List Int), k ≤ N ∧ i = .int .i64 k ∧ v = .slice (some ⟨bt, 0, none⟩) k cp ∧ (k ≤ cp ∧ cp ≤ maxLen) ∧ (bt < wr.heap.size ∧ w6.heap.size ≤ bt) ∧ ts.length = k ∧ (∀ x ∈ ts, (0 : Int) ≤ x ∧ x < k) ∧ (∀ j, j < k → wr.cell? ⟨bt, j, none⟩ = some (.int .i64 (ts[j]?.getD 0))) ∧ Rd wr R (p5 + 1 + k) ∧ Upd (fun k => k = R) w6 wr) (fun _ i _ => N - (intOf i).toNat)
      case atStart => exact ⟨0, w6.heap.size, 0, [], by omega, rfl, rfl, ⟨by omega, by simp [maxLen]⟩, ⟨by simp, by omega⟩, rfl, (fun x hx => by simp at hx), fun j hj => by omega, hR6.upd ((Upd.refl (fun _ => False) w6).alloc _) (fun _ e => e.elim), (Upd.refl _ _).alloc _⟩
      case round =>
        obtain ⟨k, bt, cp, ts, hk, rfl, rfl, ⟨hkc, hcm⟩, ⟨hbt, hbt6⟩, htl, htb, htc, hRd, hU⟩ := hrel
        have zU := hU.size
        by_cases hlt : k < N
        · go_wp2_with fail
          refine (pick_any R (p5 + 1 + k) (k + 1) _ hRd (by omega)).mono ?_
          rintro e w7 ⟨y, rfl, hy, hR7, hU7⟩
          have hy2 := hy.1 (by omega)
          obtain ⟨h, rfl⟩ := Int.eq_ofNat_of_zero_le hy2.1
          have hhk : h ≤ k := by omega
          have htc7 : ∀ j, j < k → w7.cell? ⟨bt, j, none⟩ = some (.int .i64 (ts[j]?.getD 0)) := fun j hj => hU7.cell (htc j hj) (by simp; omega)
          have hUw7 := hU.trans hU7
          have z7 := hU7.size
          clear hy hy2 htc hU hU7 hRd
          go_wp2_with fail
          obtain ⟨AD, hAD⟩ : ∃ AD, (if cp = h then some (⟨bt, 0, none⟩ : Addr) else some ⟨bt, h, none⟩) = some AD := by split <;> exact ⟨_, rfl⟩
          have hadd : ∀ j, j < (ts.drop h).length → AD.add j = ⟨bt, h + j, none⟩ := fun j hj => by
            have hne : ¬ cp = h := fun e => by simp at hj; omega
            rw [if_neg hne] at hAD
            cases hAD
            exact addr_add ..
          have hadd0 : ∀ j, j < (ts.take h).length → (⟨bt, 0, none⟩ : Addr).add j = ⟨bt, 0 + j, none⟩ := fun j hj => addr_add ..
          have htk : (ts.take h).length = h := by simp; omega
          have htd : (ts.drop h).length = k - h := by simp; omega
          have hgt : ∀ j, j < (ts.take h).length → (ts.take h)[j]?.getD 0 = ts[0 + j]?.getD 0 := fun j hj => by rw [Nat.zero_add, List.getElem?_take_of_lt (by omega)]
          have hgd : ∀ j, j < (ts.drop h).length → (ts.drop h)[j]?.getD 0 = ts[h + j]?.getD 0 := fun j hj => by rw [List.getElem?_drop]
          have hone : ∀ (zs : List Int), ∀ u ∈ zs.map (Value.int .i64), u.oneCell' = true := fun zs u hu => by
            obtain ⟨z, _, rfl⟩ := List.mem_map.1 hu; rfl
          have hbt7 : bt < w7.heap.size := by omega
          have hkN : k < 6 := by omega
          have hhc : h ≤ cp := by omega
          have hhc' : (h : Int) ≤ (cp : Int) := by omega
          have hhk' : (h : Int) ≤ (k : Int) := by omega
          go_region_law (first
            | (refine step_append_any _ rfl (.tmp 94) (.tmp 97) _ (by rfl) w7.heap.size 3 i1 _ 8 Tryd.underlying23 hi1 hzi1 hsi1 hbi1 rfl (.slice (some ⟨_, 0, none⟩) 0 0) 0 [] (by rfl) (by simp) (by first | exact own_new2 _ _ _ | exact own_sooner (own_new _ _) (by first | (simp; done) | (simp; omega)) | exact own_sooner ((own_new _ _).alloc _) (by first | (simp; done) | (simp; omega))) ⟨bt, 0, none⟩ h cp _ (by rfl) (by rw [List.length_map]; exact htk) (news_at htc7 (by repeat' (first | exact Upd.refl _ _ | assumption | refine Upd.alloc ?_ _ | refine Upd.drew ?_)) hbt7 hadd0 hgt (by omega)) (hone _) (by simp [maxLen]; omega) (by omega) (by first | (simp; done) | (simp; omega)) ?_; intro g1 cap1 x1 hown1 hgrow1 hg1 hl1 hc1 hm1; rw [Nat.zero_add] at hown1; have hU1 : Upd (fun k => w7.heap.size ≤ k) w7 x1 := Upd.grown (by repeat' (first | exact Upd.refl _ _ | assumption | refine Upd.alloc ?_ _ | refine Upd.drew ?_)) hgrow1 (fun q hq => by simp [Value.ownBlock] at hq; omega))
            | (refine step_append_any _ rfl (.tmp 98) (.tmp 100) _ (by rfl) w7.heap.size 3 i1 _ 8 Tryd.underlying23 hi1 hzi1 hsi1 hbi1 rfl (.slice (some ⟨g1, 0, none⟩) h cap1) h _ (by rfl) (by simp) (by first | exact hown1 | exact hown1.alloc _) ⟨_, 0, none⟩ 1 1 [.int .i64 (k : Int)] (by rfl) rfl (by first | exact news_one (cell_new _ _ _) | exact news_one ((hgrow1.cell_far _ (by first | (simp; done) | (simp; omega)) (by simp [Value.ownBlock])).trans (draw_cell_new2 _ _ _ _)) | exact news_one ((hgrow1.cell_far _ (by first | (simp; done) | (simp; omega)) (by simp [Value.ownBlock])).trans (cell_new _ _ _)) | exact news_one ((hgrow1.cell_far _ (by first | (simp; done) | (simp; omega)) (by simp [Value.ownBlock])).trans (cell_new_alloc _ _ _ _)) | exact news_one ((hgrow1.cell_far _ (by first | (simp; done) | (simp; omega)) (by simp [Value.ownBlock])).trans (cell_new _ _ _))) (by simp [Value.oneCell']) (by simp [maxLen]; omega) (by omega) (by have := hU1.size; simp; omega) ?_; intro g2 cap2 x2 hown2 hgrow2 hg2 hl2 hc2 hm2; have hU2 : Upd (fun k => w7.heap.size ≤ k) w7 x2 := Upd.grown (by repeat' (first | exact Upd.refl _ _ | assumption | refine Upd.alloc ?_ _ | refine Upd.drew ?_)) hgrow2 (fun q hq => by simp [Value.ownBlock] at hq; omega))
            | (refine step_append_any _ rfl (.tmp 101) (.tmp 104) _ (by rfl) w7.heap.size 3 i1 _ 8 Tryd.underlying23 hi1 hzi1 hsi1 hbi1 rfl (.slice (some ⟨g2, 0, none⟩) (h + 1) cap2) (h + 1) _ (by rfl) (by simp) hown2 AD (k - h) _ _ (by simp [Act.eval]; rfl) (by rw [List.length_map]; exact htd) (news_at htc7 hU2 hbt7 hadd hgd (by omega)) (hone _) (by simp [maxLen]; omega) (by omega) (by have := hU2.size; omega) ?_; intro g3 cap3 x3 hown3 hgrow3 hg3 hl3 hc3 hm3; have hU3 : Upd (fun k => w7.heap.size ≤ k) w7 x3 := Upd.grown hU2 hgrow3 (fun q hq => by simp [Value.ownBlock] at hq; omega)))
          all_goals
            have e3 : ([] ++ (ts.take h).map (Value.int .i64) ++ [Value.int .i64 (k : Int)]) ++ (ts.drop h).map (Value.int .i64) = (ts.take h ++ [(k : Int)] ++ ts.drop h).map (Value.int .i64) := by simp
            rw [e3] at hown3
            have hn3 : h + 1 + (k - h) = k + 1 := by omega
            rw [hn3] at hown3 hc3
            obtain ⟨hl3', hc3'⟩ := own_cells hown3
            simp only [hn3]
            have htb' : ∀ x ∈ ts.take h ++ [(k : Int)] ++ ts.drop h, (0 : Int) ≤ x ∧ x < ((k + 1 : Nat) : Int) := fun x hx => by
              rcases List.mem_append.1 hx with hx | hx
              · rcases List.mem_append.1 hx with hx | hx
                · have := htb x (List.mem_of_mem_take hx); omega
                · have := List.mem_singleton.1 hx; omega
              · have := htb x (List.mem_of_mem_drop hx); omega
            have hR8 : Rd x3 R (p5 + 1 + (k + 1)) := hR7.upd hU3 (fun q hq => by omega)
            have hU8 : Upd (fun k => k = R) w6 x3 := hUw7.trans' hU3 (fun i hi e => by omega)
            go_wp2
            go_roundw
            case rel => exact ⟨k + 1, g3, cap3, ts.take h ++ [(k : Int)] ++ ts.drop h, by omega, by go_num, rfl, ⟨hc3, hm3⟩, ⟨hl3, by omega⟩, hl3', htb', hc3', hR8, hU8⟩
            case measure => simp [intOf]; omega
        · obtain rfl : k = N := by omega
          go_wp2_with fail
          refine (renumbered_any A5 (some ⟨bt, 0, none⟩) m5 c5 k cp zs5 ts wr ((hr6.upd hU (fun j e => by omega)).ints (by have := hU6.size; omega)) ⟨htl, fun _ => ⟨bt, 0, rfl, hbt, fun j hj => by rw [Nat.zero_add]; exact htc j hj⟩⟩ hm6 (by omega) hsm (fun j hj => by
            have hjl : j < ts.length := by omega
            have := htb ts[j] (List.getElem_mem hjl)
            rw [List.getElem?_eq_getElem hjl, Option.getD_some]
            omega)).mono ?_
          rintro e w8 ⟨os, rfl, hos, hArr, hB8⟩
          go_wp2
          go_ret
          exact ⟨_, m5, m5, os, p5 + 1 + k - p, rfl, by omega, Row.of hArr hos (by omega) hArr.lt, by omega, by rw [show p + (p5 + 1 + k - p) = p5 + 1 + k by omega]; exact hRd.below hB8 (by omega), (hRw6.trans hU).below hB8 (fun k h1 h2 => by omega)⟩
    · by_cases hy0 : y = 0
      · subst hy0
        have hN1 : ¬ 1 < N := fun e => hyn ⟨rfl, e⟩
        first
          | (exfalso; omega)
          | (go_wp2; go_ret; exact ⟨A5, m5, c5, zs5, p5 + 1 - p, rfl, by omega, hr6.more (Nat.le_refl _) hU6.size, by omega, by rw [show p + (p5 + 1 - p) = p5 + 1 by omega]; exact hR6, hRw6⟩)
      · go_wp2
        go_ret
        exact ⟨A5, m5, c5, zs5, p5 + 1 - p, rfl, by omega, hr6.more (Nat.le_refl _) hU6.size, by omega, by rw [show p + (p5 + 1 - p) = p5 + 1 by omega]; exact hR6, hRw6⟩
  obtain ⟨A3, c3, rfl, hI4, hl4, hr4⟩ := hF4
  go_wp2_with fail
  refine (specOrderOf_any K A3 _ c3 rs3 w4 hI4 hl4 hr4).mono ?_
  rintro e w5 ⟨A5, m5, c5, rfl, r5, hB5⟩
  have hRw5 := hRw4.below hB5 (fun k h1 h2 => by omega)
  have hR5 := hR4.below hB5 (by omega)
  have hr5 := r5.more (lo' := w.heap.size) hz4' (Nat.le_refl _)
  obtain ⟨hsm, hml, hm6⟩ := ordL_small K rs3
  rw [r5.len] at hml hm6
  generalize ordL (K : Int) rs3 = zs5 at *
  generalize hp5 : p + 1 + q3 + 1 = p5 at *
  have hp5' : p5 ≤ p + 40 := by omega
  obtain ⟨N, hN1', hN2'⟩ : ∃ N : Nat, N ≤ K ∧ K ≤ N := ⟨K, Nat.le_refl _, Nat.le_refl _⟩
  clear r5 hI4 hB5 hR4 hRw4 hr4 hl4
  go_wp2_with fail
  refine (pick_any R p5 3 w5 hR5 (by omega)).mono ?_
  rintro e w6 ⟨y, rfl, hy, hR6, hU6⟩
  have hRw6 := hRw5.trans hU6
  have hz6 := hRw6.size
  have hr6 := hr5.upd hU6 (fun j e => by omega)
  by_cases hyn : y = 0 ∧ 1 < N
  · obtain ⟨rfl, hN1⟩ := hyn
    try have hK1 : (1 : Int) < (K : Int) := by omega
    go_wp2_with fail
    go_loopw [10, 11] (fun v i wr => ∃ (k bt cp : Nat) (ts : List Int), k ≤ N ∧ i = .int .i64 k ∧ v = .slice (some ⟨bt, 0, none⟩) k cp ∧ (k ≤ cp ∧ cp ≤ maxLen) ∧ (bt < wr.heap.size ∧ w6.heap.size ≤ bt) ∧ ts.length = k ∧ (∀ x ∈ ts, (0 : Int) ≤ x ∧ x < k) ∧ (∀ j, j < k → wr.cell? ⟨bt, j, none⟩ = some (.int .i64 (ts[j]?.getD 0))) ∧ Rd wr R (p5 + 1 + k) ∧ Upd (fun k => k = R) w6 wr) (fun _ i _ => N - (intOf i).toNat)
    case atStart => exact ⟨0, w6.heap.size, 0, [], by omega, rfl, rfl, ⟨by omega, by simp [maxLen]⟩, ⟨by simp, by omega⟩, rfl, (fun x hx => by simp at hx), fun j hj => by omega, hR6.upd ((Upd.refl (fun _ => False) w6).alloc _) (fun _ e => e.elim), (Upd.refl _ _).alloc _⟩
    case round =>
      obtain ⟨k, bt, cp, ts, hk, rfl, rfl, ⟨hkc, hcm⟩, ⟨hbt, hbt6⟩, htl, htb, htc, hRd, hU⟩ := hrel
      have zU := hU.size
      by_cases hlt : k < N
      · go_wp2_with fail
        refine (pick_any R (p5 + 1 + k) (k + 1) _ hRd (by omega)).mono ?_
        rintro e w7 ⟨y, rfl, hy, hR7, hU7⟩
        have hy2 := hy.1 (by omega)
        obtain ⟨h, rfl⟩ := Int.eq_ofNat_of_zero_le hy2.1
        have hhk : h ≤ k := by omega
        have htc7 : ∀ j, j < k → w7.cell? ⟨bt, j, none⟩ = some (.int .i64 (ts[j]?.getD 0)) := fun j hj => hU7.cell (htc j hj) (by simp; omega)
        have hUw7 := hU.trans hU7
        have z7 := hU7.size
        clear hy hy2 htc hU hU7 hRd
        go_wp2_with fail
        obtain ⟨AD, hAD⟩ : ∃ AD, (if cp = h then some (⟨bt, 0, none⟩ : Addr) else some ⟨bt, h, none⟩) = some AD := by split <;> exact ⟨_, rfl⟩
        have hadd : ∀ j, j < (ts.drop h).length → AD.add j = ⟨bt, h + j, none⟩ := fun j hj => by
          have hne : ¬ cp = h := fun e => by simp at hj; omega
          rw [if_neg hne] at hAD
          cases hAD
          exact addr_add ..
        have hadd0 : ∀ j, j < (ts.take h).length → (⟨bt, 0, none⟩ : Addr).add j = ⟨bt, 0 + j, none⟩ := fun j hj => addr_add ..
        have htk : (ts.take h).length = h := by simp; omega
        have htd : (ts.drop h).length = k - h := by simp; omega
        have hgt : ∀ j, j < (ts.take h).length → (ts.take h)[j]?.getD 0 = ts[0 + j]?.getD 0 := fun j hj => by rw [Nat.zero_add, List.getElem?_take_of_lt (by omega)]
        have hgd : ∀ j, j < (ts.drop h).length → (ts.drop h)[j]?.getD 0 = ts[h + j]?.getD 0 := fun j hj => by rw [List.getElem?_drop]
        have hone : ∀ (zs : List Int), ∀ u ∈ zs.map (Value.int .i64), u.oneCell' = true := fun zs u hu => by
          obtain ⟨z, _, rfl⟩ := List.mem_map.1 hu; rfl
        have hbt7 : bt < w7.heap.size := by omega
        have hkN : k < 6 := by omega
        have hhc : h ≤ cp := by omega
        have hhc' : (h : Int) ≤ (cp : Int) := by omega
        have hhk' : (h : Int) ≤ (k : Int) := by omega
        go_region_law (first
          | (refine step_append_any _ rfl (.tmp 94) (.tmp 97) _ (by rfl) w7.heap.size 3 i1 _ 8 Tryd.underlying23 hi1 hzi1 hsi1 hbi1 rfl (.slice (some ⟨_, 0, none⟩) 0 0) 0 [] (by rfl) (by simp) (by first | exact own_new2 _ _ _ | exact own_sooner (own_new _ _) (by first | (simp; done) | (simp; omega)) | exact own_sooner ((own_new _ _).alloc _) (by first | (simp; done) | (simp; omega))) ⟨bt, 0, none⟩ h cp _ (by rfl) (by rw [List.length_map]; exact htk) (news_at htc7 (by repeat' (first | exact Upd.refl _ _ | assumption | refine Upd.alloc ?_ _ | refine Upd.drew ?_)) hbt7 hadd0 hgt (by omega)) (hone _) (by simp [maxLen]; omega) (by omega) (by first | (simp; done) | (simp; omega)) ?_; intro g1 cap1 x1 hown1 hgrow1 hg1 hl1 hc1 hm1; rw [Nat.zero_add] at hown1; have hU1 : Upd (fun k => w7.heap.size ≤ k) w7 x1 := Upd.grown (by repeat' (first | exact Upd.refl _ _ | assumption | refine Upd.alloc ?_ _ | refine Upd.drew ?_)) hgrow1 (fun q hq => by simp [Value.ownBlock] at hq; omega))
          | (refine step_append_any _ rfl (.tmp 98) (.tmp 100) _ (by rfl) w7.heap.size 3 i1 _ 8 Tryd.underlying23 hi1 hzi1 hsi1 hbi1 rfl (.slice (some ⟨g1, 0, none⟩) h cap1) h _ (by rfl) (by simp) (by first | exact hown1 | exact hown1.alloc _) ⟨_, 0, none⟩ 1 1 [.int .i64 (k : Int)] (by rfl) rfl (by first | exact news_one (cell_new _ _ _) | exact news_one ((hgrow1.cell_far _ (by first | (simp; done) | (simp; omega)) (by simp [Value.ownBlock])).trans (draw_cell_new2 _ _ _ _)) | exact news_one ((hgrow1.cell_far _ (by first | (simp; done) | (simp; omega)) (by simp [Value.ownBlock])).trans (cell_new _ _ _)) | exact news_one ((hgrow1.cell_far _ (by first | (simp; done) | (simp; omega)) (by simp [Value.ownBlock])).trans (cell_new_alloc _ _ _ _)) | exact news_one ((hgrow1.cell_far _ (by first | (simp; done) | (simp; omega)) (by simp [Value.ownBlock])).trans (cell_new _ _ _))) (by simp [Value.oneCell']) (by simp [maxLen]; omega) (by omega) (by have := hU1.size; simp; omega) ?_; intro g2 cap2 x2 hown2 hgrow2 hg2 hl2 hc2 hm2; have hU2 : Upd (fun k => w7.heap.size ≤ k) w7 x2 := Upd.grown (by repeat' (first | exact Upd.refl _ _ | assumption | refine Upd.alloc ?_ _ | refine Upd.drew ?_)) hgrow2 (fun q hq => by simp [Value.ownBlock] at hq; omega))
          | (refine step_append_any _ rfl (.tmp 101) (.tmp 104) _ (by rfl) w7.heap.size 3 i1 _ 8 Tryd.underlying23 hi1 hzi1 hsi1 hbi1 rfl (.slice (some ⟨g2, 0, none⟩) (h + 1) cap2) (h + 1) _ (by rfl) (by simp) hown2 AD (k - h) _ _ (by simp [Act.eval]; rfl) (by rw [List.length_map]; exact htd) (news_at htc7 hU2 hbt7 hadd hgd (by omega)) (hone _) (by simp [maxLen]; omega) (by omega) (by have := hU2.size; omega) ?_; intro g3 cap3 x3 hown3 hgrow3 hg3 hl3 hc3 hm3; have hU3 : Upd (fun k => w7.heap.size ≤ k) w7 x3 := Upd.grown hU2 hgrow3 (fun q hq => by simp [Value.ownBlock] at hq; omega)))
        all_goals
          have e3 : ([] ++ (ts.take h).map (Value.int .i64) ++ [Value.int .i64 (k : Int)]) ++ (ts.drop h).map (Value.int .i64) = (ts.take h ++ [(k : Int)] ++ ts.drop h).map (Value.int .i64) := by simp
          rw [e3] at hown3
          have hn3 : h + 1 + (k - h) = k + 1 := by omega
          rw [hn3] at hown3 hc3
          obtain ⟨hl3', hc3'⟩ := own_cells hown3
          simp only [hn3]
          have htb' : ∀ x ∈ ts.take h ++ [(k : Int)] ++ ts.drop h, (0 : Int) ≤ x ∧ x < ((k + 1 : Nat) : Int) := fun x hx => by
            rcases List.mem_append.1 hx with hx | hx
            · rcases List.mem_append.1 hx with hx | hx
              · have := htb x (List.mem_of_mem_take hx); omega
              · have := List.mem_singleton.1 hx; omega
            · have := htb x (List.mem_of_mem_drop hx); omega
          have hR8 : Rd x3 R (p5 + 1 + (k + 1)) := hR7.upd hU3 (fun q hq => by omega)
          have hU8 : Upd (fun k => k = R) w6 x3 := hUw7.trans' hU3 (fun i hi e => by omega)
          go_wp2
          go_roundw
          case rel => exact ⟨k + 1, g3, cap3, ts.take h ++ [(k : Int)] ++ ts.drop h, by omega, by go_num, rfl, ⟨hc3, hm3⟩, ⟨hl3, by omega⟩, hl3', htb', hc3', hR8, hU8⟩
          case measure => simp [intOf]; omega
      · obtain rfl : k = N := by omega
        go_wp2_with fail
        refine (renumbered_any A5 (some ⟨bt, 0, none⟩) m5 c5 k cp zs5 ts wr ((hr6.upd hU (fun j e => by omega)).ints (by have := hU6.size; omega)) ⟨htl, fun _ => ⟨bt, 0, rfl, hbt, fun j hj => by rw [Nat.zero_add]; exact htc j hj⟩⟩ hm6 (by omega) hsm (fun j hj => by
          have hjl : j < ts.length := by omega
          have := htb ts[j] (List.getElem_mem hjl)
          rw [List.getElem?_eq_getElem hjl, Option.getD_some]
          omega)).mono ?_
        rintro e w8 ⟨os, rfl, hos, hArr, hB8⟩
        go_wp2
        go_ret
        exact ⟨_, m5, m5, os, p5 + 1 + k - p, rfl, by omega, Row.of hArr hos (by omega) hArr.lt, by omega, by rw [show p + (p5 + 1 + k - p) = p5 + 1 + k by omega]; exact hRd.below hB8 (by omega), (hRw6.trans hU).below hB8 (fun k h1 h2 => by omega)⟩
  · by_cases hy0 : y = 0
    · subst hy0
      have hN1 : ¬ 1 < N := fun e => hyn ⟨rfl, e⟩
      first
        | (exfalso; omega)
        | (go_wp2; go_ret; exact ⟨A5, m5, c5, zs5, p5 + 1 - p, rfl, by omega, hr6.more (Nat.le_refl _) hU6.size, by omega, by rw [show p + (p5 + 1 - p) = p5 + 1 by omega]; exact hR6, hRw6⟩)
    · go_wp2
      go_ret
      exact ⟨A5, m5, c5, zs5, p5 + 1 - p, rfl, by omega, hr6.more (Nat.le_refl _) hU6.size, by omega, by rw [show p + (p5 + 1 - p) = p5 + 1 by omega]; exact hR6, hRw6⟩
end Go.Proofs.YtcadmjpkgnbodaaDoor

/- A list that is drawn, an order most often. -/
namespace Go.Proofs.YtcadmjpkgnbodaaDoor
open Go.RowKit Go.Shelf

set_option maxRecDepth 100000 in
set_option maxHeartbeats 4000000 in
theorem someOrder_any (R p : Nat) (w : World) (h : Rd w R p) (hp : p ≤ 700000) :
    Calls Tryd.prog 10 #[.pointer (some ⟨R, 0, none⟩), .int .i64 6] w fun e w' => ∃ A n c zs q, e = .returned (.slice A n c) ∧ n ≤ 7 ∧ Row w' w.heap.size w'.heap.size A n zs ∧ q ≤ 110 ∧ Rd w' R (p + q) ∧ Upd (fun k => k = R) w w' := by
  have hRl := h.lt
  go_enter Tryd.func10, Tryd.ntmps10
  go_wp2_with fail
  refine (goodOrder_any R p w h (by omega)).mono ?_
  rintro e w1 ⟨A, n, c, zs, q, rfl, hn6, r1, hq, hR1, hU1⟩
  have z1 := hU1.size
  by_cases hn : 0 < n
  · obtain ⟨b, ys, rfl, hb0, hb1, hAr⟩ := r1.2 hn
    have hlen := Lib.hid r1.len
    clear r1
    go_wp2_with fail
    refine (pick_any R (p + q) n w1 hR1 (by omega)).mono ?_
    rintro e w2 ⟨k, rfl, hk, hR2, hU2⟩
    obtain ⟨k0, k1⟩ := hk.1 (by omega)
    obtain ⟨k, rfl⟩ := Int.eq_ofNat_of_zero_le k0
    have hA2 := hAr.upd hU2 (by omega)
    have z2 := hU2.size
    have hUw2 := hU1.trans hU2
    clear hk hR1 hAr hU2
    go_wp2_with fail
    refine (pick_any R (p + q + 1) 40 w2 hR2 (by omega)).mono ?_
    rintro e w3 ⟨x, rfl, -, hR3, hU3⟩
    have hA3 := hA2.upd hU3 (by omega)
    have z3 := hU3.size
    have hUw3 := hUw2.trans hU3
    clear hR2 hA2 hU3 hUw2
    have hkl : k < (zs ++ ys).length := by rw [List.length_append, hlen.out]; omega
    have hck := hA3.cell hkl
    have hfk := hA3.frozen k
    have hset : ∀ v : Int, (zs ++ ys).set k v = zs.set k v ++ ys := fun v => List.set_append_left _ _ (by rw [hlen.out]; omega)
    have hpk : ∀ w, Calls Tryd.prog 23 #[.int .i64 (k : Int)] w fun e w' => e = .returned (.int .i64 (powI k)) ∧ w = w' := fun w => power_any _ _ (by omega) (by omega)
    have hpn : ∀ w, Calls Tryd.prog 23 #[.int .i64 (n : Int)] w fun e w' => e = .returned (.int .i64 (powI n)) ∧ w = w' := fun w => power_any _ _ (by omega) (by omega)
    by_cases x0 : x = 0
    · subst x0
      obtain ⟨z, hz⟩ : ∃ z, (zs ++ ys)[k]?.getD 0 = z := ⟨_, rfl⟩
      rw [hz] at hck
      have hRd : Rd w3.drew R (p + q + 1 + 1) := hR3
      have hcel : ∀ w4, Upd (fun k => k = R) w3.drew w4 → w4.cell? ⟨b, k, none⟩ = some (.int .i64 z) ∧ w4.frozen? ⟨b, k, none⟩ = false := fun w4 hU4 =>
        ⟨hU4.cell (p := ⟨b, k, none⟩) hck (by simp; omega), (hA3.drew.upd hU4 (by omega)).frozen k⟩
      have hfin : ∀ w4 xv, Upd (fun k => k = R) w3.drew w4 → Rd w4 R (p + q + 1 + 1 + 1) →
          Row (w4.setCell ⟨b, k, none⟩ (.int .i64 xv)) w.heap.size (w4.setCell ⟨b, k, none⟩ (.int .i64 xv)).heap.size (some ⟨b, 0, none⟩) n (zs.set k xv) ∧
          Rd (w4.setCell ⟨b, k, none⟩ (.int .i64 xv)) R (p + (q + 3)) ∧ Upd (fun k => k = R) w (w4.setCell ⟨b, k, none⟩ (.int .i64 xv)) := fun w4 xv hU4 hR4 => by
        have hA4 := hA3.drew.upd hU4 (by omega)
        have z4 : w3.heap.size ≤ w4.heap.size := hU4.size
        have hU4' := hUw3.drew.trans hU4
        have hA6 := hA4.set k xv
        rw [hset] at hA6
        have hU6 : Upd (fun i => w.heap.size ≤ i ∧ i = b) w4 (w4.setCell ⟨b, k, none⟩ (.int .i64 xv)) := (Upd.refl (fun i => w.heap.size ≤ i ∧ i = b) w4).setCell (p := ⟨b, k, none⟩) (.inr ⟨hb0, rfl⟩) _
        refine ⟨⟨by simpa using hlen.out, fun _ => ⟨b, ys, rfl, hb0, by simp [World.setCell]; omega, hA6⟩⟩, ?_, hU4'.trans' hU6 (fun i hi e => by omega)⟩
        rw [show p + (q + 3) = p + q + 1 + 1 + 1 by omega]; exact hR4.upd hU6 (fun i hi => by omega)
      have hpick : Calls Tryd.prog 22 #[.pointer (some ⟨R, 0, none⟩), .int .i64 (n : Int)] w3.drew fun e w' => ∃ v, e = .returned (.int .i64 v) ∧ 0 ≤ v ∧ v < n ∧ Rd w' R (p + q + 1 + 1 + 1) ∧ Upd (fun k => k = R) w3.drew w' := by
        refine (pick_any R (p + q + 1 + 1) n _ hRd (by omega)).mono ?_
        rintro e w4 ⟨v, rfl, hv, hR4, hU4⟩
        exact ⟨v, rfl, (hv.1 (by omega)).1, (hv.1 (by omega)).2, hR4, hU4⟩
      have hq : q + 3 ≤ 110 := by omega
      have hn7 : n ≤ 7 := by omega
      clear hpk hpn hRd hset hR3 hA3 hUw3 hz hlen hkl hRl h hp hU1 z1 hb0 hb1 z2 z3
      go_wp2
      go_region_with (first
        | (go_at_call 22; refine hpick.mono ?_; rintro e w4 ⟨v, rfl, hv0, hv1, hR4, hU4⟩; obtain ⟨hck4, hfk4⟩ := hcel w4 hU4)
        | (go_at_call 23; refine (power_any _ _ (by omega) (by omega)).mono ?_; rintro e w' ⟨rfl, rfl⟩))
      all_goals
        obtain ⟨hf1, hf2, hf3⟩ := hfin w4 (bits .xor .i64 z (powI v)) hU4 hR4
        clear hfin hcel hpick hck hfk hck4 hfk4 hR4 hU4
        obtain ⟨W5, hW5⟩ : ∃ W5, w4.setCell ⟨b, k, none⟩ (.int .i64 (bits .xor .i64 z (powI v))) = W5 := ⟨_, rfl⟩
        rw [hW5] at hf1 hf2 hf3 ⊢
        obtain ⟨xv, hxv⟩ : ∃ xv, bits .xor .i64 z (powI v) = xv := ⟨_, rfl⟩
        rw [hxv] at hf1 ⊢
        clear hW5 hxv
        go_wp2
        go_ret
        exact ⟨_, n, c, _, q + 3, rfl, hn7, hf1, hq, hf2, hf3⟩
    · by_cases x1 : x = 1
      · subst x1
        go_wp2_with (first
          | (go_at_call 23; with_reducible refine (hpn _).mono ?_; rintro e w' ⟨rfl, rfl⟩)
          | (go_at_call 23; with_reducible refine (hpk _).mono ?_; rintro e w' ⟨rfl, rfl⟩))
        have hL : Arr (w3.alloc (.cells #[Value.int .i64 (-1), .int .i64 (powI n), .int .i64 (powI k)] 3)) w3.heap.size 3 [-1, powI n, powI k] := heap_alloc_new w3 _
        have hup : Upd (fun _ => False) w3 (w3.alloc (.cells #[Value.int .i64 (-1), .int .i64 (powI n), .int .i64 (powI k)] 3)) := (Upd.refl _ _).alloc _
        obtain ⟨W4, hW4⟩ : ∃ W4, w3.alloc (.cells #[Value.int .i64 (-1), .int .i64 (powI n), .int .i64 (powI k)] 3) = W4 := ⟨_, rfl⟩
        rw [hW4] at hL hup ⊢
        clear hW4
        have z4 := hup.size
        refine (one_any R (p + q + 1 + 1) _ 3 3 _ _ W4 (hR3.upd hup (fun _ e => e.elim)) (by omega) (hL.ints' (n := 3) hL.lt rfl) (fun b off e => by cases e; omega) (by omega) (by omega)).mono ?_
        rintro e w5 ⟨v, rfl, -, hR5, hU5⟩
        have hA5 := (hA3.upd hup (fun e => e)).upd hU5 (by omega)
        have z5 := hU5.size
        have hck5 := hA5.cell hkl
        have hfk5 := hA5.frozen k
        have hU5' := (hUw3.trans (hup.mono fun _ _ e => e.elim)).trans hU5
        go_wp2
        go_ret
        have hA6 := hA5.set k v
        rw [hset] at hA6
        have hU6 : Upd (fun i => w.heap.size ≤ i ∧ i = b) w5 (w5.setCell ⟨b, k, none⟩ (.int .i64 v)) := (Upd.refl (fun i => w.heap.size ≤ i ∧ i = b) w5).setCell (p := ⟨b, k, none⟩) (.inr ⟨hb0, rfl⟩) _
        exact ⟨_, n, c, zs.set k v, q + 3, rfl, by omega, ⟨by simpa using hlen.out, fun _ => ⟨b, ys, rfl, hb0, by simp [World.setCell]; omega, hA6⟩⟩, by omega, hR5.upd hU6 (fun i hi => by omega), hU5'.trans' hU6 (fun i hi e => by omega)⟩
      · by_cases x2 : x = 2
        · subst x2
          have hmk := run_make_row' (P := Tryd.prog) 23 3 (.int .i64 0) 8 Tryd.underlying23 infoInt rfl .i64 .i64 7 (by omega) (by omega)
          simp only [Int.cast_ofNat_Int] at hmk
          go_wp2
          go_ret
          exact ⟨_, 7, 7, List.replicate 7 0, q + 2, rfl, by omega, Row.of (Arr.new w3 3 7) (by simp) (by omega) (by simp), by omega, hR3.upd ((Upd.refl (fun _ => False) w3).alloc _) (fun _ e => e.elim), hUw3.alloc _⟩
        · go_wp2
          go_ret
          exact ⟨_, n, c, zs, q + 2, rfl, by omega, ⟨hlen.out, fun _ => ⟨b, ys, rfl, hb0, by omega, hA3⟩⟩, by omega, hR3, hUw3⟩
  · obtain rfl : n = 0 := by omega
    go_wp2
    go_ret
    exact ⟨A, 0, c, zs, q, rfl, by omega, r1, by omega, hR1, hU1⟩
end Go.Proofs.YtcadmjpkgnbodaaDoor

/- Arguments that are drawn: a new reader, and what is drawn reads as numbers. -/
namespace Go.Proofs.YtcadmjpkgnbodaaDoor
open Go.RowKit Go.Shelf

/-- A list that is drawn reads as numbers, few of them. -/
def Drawn (w : World) (e : Ending) (w' : World) : Prop := ∃ A n c zs, e = .returned (.slice A n c) ∧ n ≤ 7 ∧ Ints w' w'.heap.size A n zs ∧ Below w.heap.size w w'
theorem newReader_rd {A : Option Addr} {m c : Nat} {bs : List Int} {w : World} (h : Byts w w.heap.size A m bs) (hcap : m ≤ c) (hbig : m ≤ 1152921504606846976) :
    Calls Tryd.prog 11 #[.slice A m c] w fun e w' => e = .returned (.pointer (some ⟨w.heap.size, 0, none⟩)) ∧ Rd w' w.heap.size 0 ∧ Below w.heap.size w w' ∧ w.heap.size < w'.heap.size := by
  refine (newReader_any A m c bs w h hcap hbig).mono ?_
  rintro e w0 ⟨rfl, rfl⟩
  exact ⟨rfl, ⟨A, min m 2000, c, bs.take (min m 2000), by omega, heap_alloc_new w _, (h.take (by omega)).below (((Below.refl w.heap.size w).alloc (Nat.le_refl _)) _)⟩, (Below.refl w.heap.size w).alloc (Nat.le_refl _) _, by simp⟩
end Go.Proofs.YtcadmjpkgnbodaaDoor

/- The arguments of LineSums, drawn. -/
namespace Go.Proofs.YtcadmjpkgnbodaaDoor
open Go.RowKit Go.Shelf

theorem drawLineSums_any (A : Option Addr) (m c : Nat) (bs : List Int) (w : World) (h : Byts w w.heap.size A m bs) (hcap : m ≤ c) (hbig : m ≤ 1152921504606846976) :
    Calls Tryd.prog 4 #[.slice A m c] w (Drawn w) := by
  go_enter Tryd.func4, Tryd.ntmps4
  go_wp2_with fail
  refine (newReader_rd h hcap hbig).mono ?_
  rintro e w0 ⟨rfl, hR, hB, hz⟩
  go_wp2_with fail
  refine (someOrder_any _ 0 w0 hR (by omega)).mono ?_
  rintro e w1 ⟨A', n, c', zs, q, rfl, hn, r, -, -, hU⟩
  go_wp2
  go_ret
  exact ⟨A', n, c', zs, rfl, hn, r.ints (Nat.le_refl _), hB.trans (hU.toBelow (fun k e => by omega) (by omega))⟩
end Go.Proofs.YtcadmjpkgnbodaaDoor

/- 'equalInts': whether two lists are equal. -/
namespace Go.Proofs.YtcadmjpkgnbodaaDoor
open Go.RowKit

set_option maxHeartbeats 1000000 in
/-- Whether two lists are equal. -/
theorem equalInts_any (A A' : Option Addr) (n c n' c' B B' : Nat) (xs ys : List Int) (w : World) (hA : Ints w B A n xs) (hA' : Ints w B' A' n' ys) (hbig : n ≤ 1152921504606846976) (hbig' : n' ≤ 1152921504606846976) :
    Calls Tryd.prog 6 #[.slice A n c, .slice A' n' c'] w fun e w' => e = .returned (.bool (decide (xs = ys))) ∧ ∃ m, w' = w.drewN m := by
  have hlen := Lib.hid hA.len
  have hlen' := Lib.hid hA'.len
  by_cases hnn : n = n'
  · subst hnn
    go_enter Tryd.func6, Tryd.ntmps6
    go_wp2
    go_loopw [5] (fun i wr => ∃ k m : Nat, k ≤ n ∧ i = .int .i64 k ∧ (∀ a, a < k → xs[a]?.getD 0 = ys[a]?.getD 0) ∧ wr = w.drewN m) (fun i _ => n - (intOf i).toNat)
    case atStart => exact ⟨0, 0, by omega, rfl, fun a ha => by omega, rfl⟩
    case round =>
      obtain ⟨k, m, hk, rfl, hok, rfl⟩ := hrel
      have Hok := Lib.hid hok
      clear hok
      by_cases hlt : k < n
      · obtain ⟨b, off, rfl, _, hc⟩ := hA.at_ hlt
        obtain ⟨b', off', rfl, _, hc'⟩ := hA'.at_ hlt
        have hck := hc k hlt
        have hck' := hc' k hlt
        have Hc := Lib.hid hc
        have Hc' := Lib.hid hc'
        clear hc hc'
        cases hne : (xs[k]?.getD 0 != ys[k]?.getD 0)
        · have Heq := Lib.hid (show xs[k]?.getD 0 = ys[k]?.getD 0 by simpa [bne] using hne)
          go_wp2
          go_quiet (fail)
          go_wp2
          go_roundw
          case rel => exact ⟨k + 1, _, by omega, by go_num, all_snoc Hok.out Heq.out, rfl⟩
          case measure => simp [intOf]; omega
        · have Hne := Lib.hid (show decide (xs = ys) = false by
            simp only [decide_eq_false_iff_not]; rintro rfl; simp at hne)
          go_wp2
          go_quiet (fail)
          go_wp2
          go_ret
          exact ⟨ret_bool Hne.out.symm, by first | exact ⟨_, rfl⟩ | exact ⟨_, World.drewN_drewN ..⟩⟩
      · obtain rfl : k = n := by omega
        have Heq := Lib.hid (show decide (xs = ys) = true by
          simp only [decide_eq_true_eq]
          refine List.ext_getElem? fun i => ?_
          by_cases hi : i < xs.length
          · have h1 := Hok.out i (by rw [← hlen.out]; exact hi)
            have hi' : i < ys.length := by rw [hlen'.out, ← hlen.out]; exact hi
            rw [List.getElem?_eq_getElem hi, List.getElem?_eq_getElem hi'] at h1 ⊢
            simpa using h1
          · rw [List.getElem?_eq_none (by omega), List.getElem?_eq_none (by rw [hlen'.out, ← hlen.out]; omega)])
        go_wp2
        go_ret
        exact ⟨ret_bool Heq.out.symm, _, rfl⟩
  · have Hne := Lib.hid (show decide (xs = ys) = false by
      simp only [decide_eq_false_iff_not]; rintro rfl; exact hnn (hlen.out.symm.trans hlen'.out))
    have hnb : ((n : Int) != (n' : Int)) = true := by simp; omega
    go_enter Tryd.func6, Tryd.ntmps6
    go_wp2
    go_ret
    exact ⟨ret_bool Hne.out.symm, 0, rfl⟩
theorem equalSame_any (A A' : Option Addr) (n c n' c' B B' : Nat) (xs : List Int) (w : World) (hA : Ints w B A n xs) (hA' : Ints w B' A' n' xs) (hbig : n ≤ 1152921504606846976) (hbig' : n' ≤ 1152921504606846976) :
    Calls Tryd.prog 6 #[.slice A n c, .slice A' n' c'] w fun e w' => e = .returned (.bool true) ∧ Below w.heap.size w w' := by
  have h := below_quiet (equalInts_any A A' n c n' c' B B' xs xs w hA hA' hbig hbig')
  refine h.mono ?_
  rintro e w' ⟨rfl, hB⟩
  exact ⟨by simp, hB⟩
end Go.Proofs.YtcadmjpkgnbodaaDoor

/- Even lattices: as both sides tell them. No program. -/
namespace Go.Proofs.YtcadmjpkgnbodaaDoor

def goesOver (zs : List Int) (a b c : Nat) : Bool := joinI (du zs) a (joinI zs b c).toNat == joinI zs (joinI (du zs) a b).toNat (joinI (du zs) a c).toNat
def EvenAll (zs : List Int) : Prop := ∀ a, a < zs.length → ∀ b, b < zs.length → ∀ c, c < zs.length → goesOver zs a b c = true
instance (zs : List Int) : Decidable (EvenAll zs) := by unfold EvenAll; exact inferInstance
def evenR (zs : List Int) : Bool := latR zs && decide (EvenAll zs)
theorem joins_at {ds : List Int} {n : Nat} (h : JoinsOk ds) (hl : ds.length = n) {a b : Nat} (ha : a < n) (hb : b < n) : ∃ j : Nat, joinI ds a b = j ∧ j < n := by
  have h1 := h a (by omega) b (by omega)
  have h2 := joinI_bd ds a b
  exact ⟨(joinI ds a b).toNat, by omega, by omega⟩
theorem lat_parts {zs : List Int} (h : latR zs = true) : VoP zs ∧ 0 < zs.length ∧ JoinsOk zs ∧ JoinsOk (du zs) := by
  unfold latR latB at h
  rw [Bool.and_eq_true, Bool.and_eq_true, Bool.and_eq_true, decide_eq_true_eq, decide_eq_true_eq, decide_eq_true_eq] at h
  exact ⟨by simpa [vo] using h.1, h.2.1, h.2.2.1, h.2.2.2⟩
end Go.Proofs.YtcadmjpkgnbodaaDoor

/- Ideals within a set are as many as ciN tells. No program. -/
namespace Go.Proofs.YtcadmjpkgnbodaaDoor

theorem bit_nat {x : Int} (_hx : 0 ≤ x) (j : Nat) : bitB x (j : Int) = x.toNat.testBit j := by simp [bitB]
theorem lessN_bit (s : Nat) (z : Int) (j : Nat) : (lessN s z).testBit j = ((s.testBit j && !decide (low s = j)) && !bitB z j) := by
  unfold lessN
  rw [← bit_nat (lessI_bd _ _).1, bitB_less, bitB_less, bitB_pow, bit_cast]
/-- An ideal within a set. -/
def IdP (zs : List Int) (s t : Nat) : Prop := (∀ j, t.testBit j = true → s.testBit j = true) ∧ ∀ a b : Nat, t.testBit b = true → s.testBit a = true → bitB (zs[a]?.getD 0) b = true → t.testBit a = true
open Classical in
noncomputable def ids (zs : List Int) (s : Nat) : List Nat := (List.range 64).filter fun t => decide (IdP zs s t)
theorem mem_ids {zs : List Int} {s t : Nat} : t ∈ ids zs s ↔ t < 64 ∧ IdP zs s t := by simp [ids]
theorem ids_nodup (zs : List Int) (s : Nat) : (ids zs s).Nodup := List.nodup_range.filter _
theorem idP_lt {zs : List Int} {s t : Nat} (h : IdP zs s t) (hs : s < 64) : t < 64 := Nat.lt_pow_two_of_testBit (n := 6) _ fun i hi => by
  cases e : t.testBit i
  · rfl
  · have := bit_lt (n := 6) hs (h.1 i e); omega
theorem ids_zero (zs : List Int) : (ids zs 0).length = 1 := by
  have h1 := inj_len (fun t : Nat => t) (ids zs 0) [0] (ids_nodup _ _) (fun t ht => by
    have := (mem_ids.1 ht).2.1
    have : t = 0 := Nat.eq_of_testBit_eq fun j => by
      cases e : t.testBit j
      · simp
      · have := this j e; simp at this
    simp [this]) (fun _ _ _ _ e => e)
  have h2 := inj_len (fun t : Nat => t) [0] (ids zs 0) (by simp) (fun t ht => by
    obtain rfl : t = 0 := by simpa using ht
    exact mem_ids.2 ⟨by omega, fun j hj => hj, fun a b hb => by simp at hb⟩) (fun _ _ _ _ e => e)
  simp at h1 h2
  omega
theorem ids_split {zs : List Int} (h : VoP zs) {s a u d : Nat} (hs : s < 64) (hb : s.testBit a = true)
    (hu : ∀ j, u.testBit j = ((s.testBit j && !decide (a = j)) && !bitB (zs[a]?.getD 0) j)) (hd : ∀ j, d.testBit j = ((s.testBit j && !decide (a = j)) && !bitB (zs[j]?.getD 0) a)) :
    (ids zs s).length = (ids zs u).length + (ids zs d).length := by
  have hu1 : ∀ j, u.testBit j = true ↔ s.testBit j = true ∧ a ≠ j ∧ bitB (zs[a]?.getD 0) j = false := fun j => by rw [hu]; simp [and_assoc]
  have hd1 : ∀ j, d.testBit j = true ↔ s.testBit j = true ∧ a ≠ j ∧ bitB (zs[j]?.getD 0) a = false := fun j => by rw [hd]; simp [and_assoc]
  have hlen : ((ids zs u).map (Sum.inl (β := Nat)) ++ (ids zs d).map (Sum.inr (α := Nat))).length = (ids zs u).length + (ids zs d).length := by simp
  have tr : ∀ {x y z : Nat}, bitB (zs[x]?.getD 0) y = true → bitB (zs[y]?.getD 0) z = true → bitB (zs[x]?.getD 0) z = true := fun h1 h2 => (h.trans ⟨bit_none h1, h1⟩ ⟨bit_none h2, h2⟩).2
  have hin : ∀ t, IdP zs s t → t.testBit a = true → ∀ j, t.testBit j = true ↔ ((t &&& d).testBit j = true ∨ (s.testBit j = true ∧ d.testBit j = false)) := fun t ht ha j => by
    rw [Nat.testBit_and, Bool.and_eq_true]
    constructor
    · intro e
      cases e2 : d.testBit j
      · exact .inr ⟨ht.1 j e, rfl⟩
      · exact .inl ⟨e, rfl⟩
    · rintro (e | ⟨e1, e2⟩)
      · exact e.1
      · rw [hd, e1, Bool.true_and] at e2
        by_cases e3 : a = j
        · subst e3; exact ha
        · cases e4 : bitB (zs[j]?.getD 0) a
          · rw [e4] at e2; simp [e3] at e2
          · exact ht.2 j a ha e1 e4
  have h1 := inj_len (fun t : Nat => if t.testBit a then (Sum.inr (t &&& d) : Nat ⊕ Nat) else Sum.inl t) (ids zs s) ((ids zs u).map (Sum.inl (β := Nat)) ++ (ids zs d).map (Sum.inr (α := Nat))) (ids_nodup _ _) (fun t ht => by
    obtain ⟨t6, ht⟩ := mem_ids.1 ht
    rw [List.mem_append]
    cases e : t.testBit a
    · refine .inl ?_
      simp only [Bool.false_eq_true, if_false]
      refine List.mem_map_of_mem (mem_ids.2 ⟨t6, fun j hj => (hu1 j).2 ⟨ht.1 j hj, fun e2 => (by subst e2; rw [e] at hj; cases hj), ?_⟩, fun x y hy hx hz => ht.2 x y hy ((hu1 x).1 hx).1 hz⟩)
      cases e2 : bitB (zs[a]?.getD 0) j
      · rfl
      · rw [ht.2 a j hj hb e2] at e; cases e
    · refine .inr ?_
      simp only [if_true]
      refine List.mem_map_of_mem (mem_ids.2 ⟨Nat.lt_of_le_of_lt Nat.and_le_left t6, fun j hj => ?_, fun x y hy hx hz => ?_⟩)
      · rw [Nat.testBit_and, Bool.and_eq_true] at hj; exact hj.2
      · rw [Nat.testBit_and, Bool.and_eq_true] at hy ⊢
        exact ⟨ht.2 x y hy.1 ((hd1 x).1 hx).1 hz, hx⟩) (fun t ht t2 ht2 e => by
    obtain ⟨-, ht⟩ := mem_ids.1 ht
    obtain ⟨-, ht2⟩ := mem_ids.1 ht2
    cases e1 : t.testBit a <;> cases e2 : t2.testBit a <;> simp [e1, e2] at e
    · exact e
    · refine Nat.eq_of_testBit_eq fun j => ?_
      rw [Bool.eq_iff_iff, hin t ht e1 j, hin t2 ht2 e2 j, e])
  have h2 := inj_len (fun x : Nat ⊕ Nat => match x with | .inl t => t | .inr t => t ||| (s ^^^ d)) ((ids zs u).map (Sum.inl (β := Nat)) ++ (ids zs d).map (Sum.inr (α := Nat))) (ids zs s) (by
      rw [List.nodup_append]
      refine ⟨?_, ?_, ?_⟩
      · exact List.Pairwise.map _ (fun x y hxy e => hxy (Sum.inl.inj e)) (ids_nodup zs u)
      · exact List.Pairwise.map _ (fun x y hxy e => hxy (Sum.inr.inj e)) (ids_nodup zs d)
      · intro x hx y hy e
        obtain ⟨t, -, rfl⟩ := List.mem_map.1 hx
        obtain ⟨t2, -, rfl⟩ := List.mem_map.1 hy
        cases e) (fun x hx => by
    rw [List.mem_append] at hx
    rcases hx with hx | hx
    · obtain ⟨t, ht, rfl⟩ := List.mem_map.1 hx
      obtain ⟨t6, ht⟩ := mem_ids.1 ht
      refine mem_ids.2 ⟨t6, fun j hj => ((hu1 j).1 (ht.1 j hj)).1, fun x y hy hx hz => ht.2 x y hy ((hu1 x).2 ⟨hx, fun e => ?_, ?_⟩) hz⟩
      · subst e
        have := ((hu1 y).1 (ht.1 y hy)).2.2
        rw [hz] at this; cases this
      · cases e : bitB (zs[a]?.getD 0) x
        · rfl
        · have := ((hu1 y).1 (ht.1 y hy)).2.2
          rw [tr e hz] at this; cases this
    · obtain ⟨t, ht, rfl⟩ := List.mem_map.1 hx
      obtain ⟨t6, ht⟩ := mem_ids.1 ht
      have hg : ∀ j, (t ||| (s ^^^ d)).testBit j = true ↔ t.testBit j = true ∨ (s.testBit j = true ∧ d.testBit j = false) := fun j => by
        rw [Nat.testBit_or, Nat.testBit_xor, Bool.or_eq_true]
        have := hd1 j
        cases e1 : s.testBit j <;> cases e2 : d.testBit j <;> simp_all
      have hp : IdP zs s (t ||| (s ^^^ d)) := by
        refine ⟨fun j hj => ?_, fun x y hy hx hz => ?_⟩
        · rcases (hg j).1 hj with e | e
          · exact ((hd1 j).1 (ht.1 j e)).1
          · exact e.1
        · refine (hg x).2 ?_
          cases e : d.testBit x
          · exact .inr ⟨hx, rfl⟩
          · refine .inl ?_
            rcases (hg y).1 hy with e2 | ⟨e2, e3⟩
            · exact ht.2 x y e2 e hz
            · exfalso
              have hx1 := (hd1 x).1 e
              rw [hd, e2, Bool.true_and] at e3
              by_cases e4 : a = y
              · subst e4; rw [hx1.2.2] at hz; cases hz
              · cases e5 : bitB (zs[y]?.getD 0) a
                · rw [e5] at e3; simp [e4] at e3
                · rw [tr hz e5] at hx1; cases hx1.2.2
      exact mem_ids.2 ⟨idP_lt hp hs, hp⟩) (fun x hx y hy e => by
    rw [List.mem_append] at hx hy
    have hg : ∀ t j, (t ||| (s ^^^ d)).testBit j = true ↔ t.testBit j = true ∨ (s.testBit j = true ∧ d.testBit j = false) := fun t j => by
      rw [Nat.testBit_or, Nat.testBit_xor, Bool.or_eq_true]
      have := hd1 j
      cases e1 : s.testBit j <;> cases e2 : d.testBit j <;> simp_all
    have hda : d.testBit a = false := by rw [hd]; simp
    rcases hx with hx | hx
    · obtain ⟨t, ht, rfl⟩ := List.mem_map.1 hx
      rcases hy with hy | hy
      · obtain ⟨t2, ht2, rfl⟩ := List.mem_map.1 hy
        exact congrArg _ e
      · exfalso
        obtain ⟨t2, ht2, rfl⟩ := List.mem_map.1 hy
        have e : t = t2 ||| (s ^^^ d) := e
        have h3 := (hg t2 a).2 (.inr ⟨hb, hda⟩)
        rw [← e] at h3
        exact ((hu1 a).1 ((mem_ids.1 ht).2.1 a h3)).2.1 rfl
    · obtain ⟨t, ht, rfl⟩ := List.mem_map.1 hx
      rcases hy with hy | hy
      · exfalso
        obtain ⟨t2, ht2, rfl⟩ := List.mem_map.1 hy
        have e : t ||| (s ^^^ d) = t2 := e
        have h3 := (hg t a).2 (.inr ⟨hb, hda⟩)
        rw [e] at h3
        exact ((hu1 a).1 ((mem_ids.1 ht2).2.1 a h3)).2.1 rfl
      · obtain ⟨t2, ht2, rfl⟩ := List.mem_map.1 hy
        have e : t ||| (s ^^^ d) = t2 ||| (s ^^^ d) := e
        refine congrArg _ (Nat.eq_of_testBit_eq fun j => ?_)
        rw [Bool.eq_iff_iff]
        have k1 := hg t j
        have k2 := hg t2 j
        rw [e] at k1
        constructor
        · intro e1
          rcases k2.1 (k1.2 (.inl e1)) with e3 | e3
          · exact e3
          · rw [(mem_ids.1 ht).2.1 j e1] at e3; cases e3.2
        · intro e1
          rcases k1.1 (k2.2 (.inl e1)) with e3 | e3
          · exact e3
          · rw [(mem_ids.1 ht2).2.1 j e1] at e3; cases e3.2)
  omega
theorem ciN_ids {zs : List Int} (h : VoP zs) : ∀ (k s : Nat), s ≤ k → s < 64 → ciN zs s = (ids zs s).length
  | 0, s, hk, _ => by
    obtain rfl : s = 0 := by omega
    rw [ciN_zero, ids_zero]
  | k + 1, s, hk, h1 => by
    by_cases h0 : s = 0
    · subst h0; rw [ciN_zero, ids_zero]
    · have hu := lessN_lt (zs[low s]?.getD 0) h0 h1
      have hd := lessN_lt ((du zs)[low s]?.getD 0) h0 h1
      rw [ciN_pos h0 h1, ciN_ids h k _ (by omega) (by omega), ciN_ids h k _ (by omega) (by omega)]
      refine (ids_split h h1 (low_fin ⟨s, h1⟩ h0).2 (fun j => lessN_bit s _ j) (fun j => ?_)).symm
      rw [lessN_bit, du_bit h.sets]
/-- All ideals of an order are as many as the program and the model count. -/
theorem ideals_ci {zs : List Int} (h : VoP zs) : (idealsR zs).length = ciN zs (2 ^ zs.length - 1) := by
  have h64 : (2 : Nat) ^ zs.length ≤ 64 := Nat.pow_le_pow_right (n := 2) (by decide) h.1
  rw [ciN_ids h 64 _ (by omega) (by omega)]
  have hm : ∀ t : Nat, t ∈ ids zs (2 ^ zs.length - 1) ↔ (t : Int) ∈ idealsR zs := fun t => by
    rw [mem_ids]
    unfold idealsR
    rw [vo_true h, if_pos rfl, setsTo_mem]
    constructor
    · rintro ⟨-, h1, h2⟩
      have hlt : t < 2 ^ zs.length := Nat.lt_pow_two_of_testBit _ fun i hi => by
        cases e : t.testBit i
        · rfl
        · have := h1 i e
          rw [Nat.testBit_two_pow_sub_one, decide_eq_true_eq] at this; omega
      refine ⟨t, hlt, (idB_iff h.sets (by omega) (by rw [pow_cast]; omega)).2 fun a b hb hz => ?_, rfl⟩
      rw [bit_cast] at hb ⊢
      exact h2 a b hb (by rw [Nat.testBit_two_pow_sub_one, decide_eq_true_eq]; exact bit_none hz) hz
    · rintro ⟨j, hj, hi, e⟩
      obtain rfl : j = t := by omega
      refine ⟨by omega, fun i hi2 => ?_, fun a b hb _ hz => ?_⟩
      · rw [Nat.testBit_two_pow_sub_one, decide_eq_true_eq]; exact bit_lt hj hi2
      · have := (idB_iff h.sets (by omega) (by rw [pow_cast]; omega)).1 hi a b (by rw [bit_cast]; exact hb) hz
        rwa [bit_cast] at this
  have hnd : (idealsR zs).Nodup := by
    unfold idealsR
    split
    · exact setsTo_nodup _ _
    · exact List.nodup_nil
  have h1 := inj_len (fun t : Nat => (t : Int)) (ids zs (2 ^ zs.length - 1)) (idealsR zs) (ids_nodup _ _) (fun t ht => (hm t).1 ht) (fun _ _ _ _ e => by omega)
  have h2 := inj_len (fun t : Int => t.toNat) (idealsR zs) (ids zs (2 ^ zs.length - 1)) hnd (fun t ht => by
    refine (hm t.toNat).2 ?_
    have h0 : 0 ≤ t := by
      unfold idealsR at ht
      rw [vo_true h, if_pos rfl, setsTo_mem] at ht
      obtain ⟨j, -, -, e⟩ := ht; omega
    rwa [Int.toNat_of_nonneg h0]) (fun x hx y hy e => by
    unfold idealsR at hx hy
    rw [vo_true h, if_pos rfl, setsTo_mem] at hx hy
    obtain ⟨j, -, -, e1⟩ := hx
    obtain ⟨j2, -, -, e2⟩ := hy
    omega)
  omega
end Go.Proofs.YtcadmjpkgnbodaaDoor

/- Even lattices are the ideals of their singles (mathematics). No program. -/
namespace Go.Proofs.YtcadmjpkgnbodaaDoor
set_option linter.unusedSectionVars false

theorem pop_one_fin : ∀ s : Fin 64, popI (s.val : Int) = 1 → ∀ a b : Fin 6, s.val.testBit a.val = true → s.val.testBit b.val = true → a = b := by decide +kernel
theorem pop_one {s : Int} (h0 : 0 ≤ s) (h1 : s < 64) (hp : popI s = 1) {a b : Nat} (ha : bitB s a = true) (hb : bitB s b = true) : a = b := by
  obtain ⟨s, rfl⟩ := Int.eq_ofNat_of_zero_le h0
  rw [bit_cast] at ha hb
  have h6 : s < 2 ^ 6 := by omega
  have := pop_one_fin ⟨s, h6⟩ hp ⟨a, bit_lt h6 ha⟩ ⟨b, bit_lt h6 hb⟩ ha hb
  exact congrArg Fin.val this
theorem pop_two_fin : ∀ s : Fin 64, popI (s.val : Int) ≠ 1 → s.val = 0 ∨ ∃ a b : Fin 6, a ≠ b ∧ s.val.testBit a.val = true ∧ s.val.testBit b.val = true := by decide +kernel
theorem pop_two {s : Int} (h0 : 0 ≤ s) (h1 : s < 64) (hp : popI s ≠ 1) : s = 0 ∨ ∃ a b : Nat, a ≠ b ∧ bitB s a = true ∧ bitB s b = true := by
  obtain ⟨s, rfl⟩ := Int.eq_ofNat_of_zero_le h0
  have h6 : s < 2 ^ 6 := by omega
  rcases pop_two_fin ⟨s, h6⟩ hp with e | ⟨a, b, hab, ha, hb⟩
  · left; exact congrArg _ e
  · refine .inr ⟨a.val, b.val, fun e => hab (Fin.ext e), ?_, ?_⟩
    · rw [bit_cast]; exact ha
    · rw [bit_cast]; exact hb
section
variable {zs : List Int} (h : VoP zs)
include h
theorem lt_at {a b : Nat} (hl : bitB (zs[a]?.getD 0) b = true) : bitB (atUp zs a) b = true := by rw [atUp_bit, hl]; rfl
theorem tops_small (a : Nat) : 0 ≤ topsTo zs ((du zs)[a]?.getD 0) zs.length ∧ topsTo zs ((du zs)[a]?.getD 0) zs.length < 64 := by
  have h1 := topsTo_bd zs ((du zs)[a]?.getD 0) zs.length
  have h2 := powI_le6 (n := (zs.length : Int)) (by have := h.1; omega)
  omega
/-- All below a single are at or below one item, which is below it. -/
theorem single_low {j : Nat} (hj : j < zs.length) (hs : snB zs j = true) : ∃ c : Nat, bitB (zs[c]?.getD 0) j = true ∧ ∀ x : Nat, bitB (zs[x]?.getD 0) j = true → bitB (atUp zs x) c = true := by
  unfold snB at hs
  rw [beq_iff_eq] at hs
  have hb := tops_small h j
  have hd1 : (du zs)[j]?.getD 0 < powI zs.length := by
    have := ((du_sets h.sets).2 j (by rw [du_len]; exact hj)).2
    rwa [du_len] at this
  have hex : ∃ c : Nat, bitB (topsTo zs ((du zs)[j]?.getD 0) zs.length) c = true := by
    refine Classical.byContradiction fun hn => ?_
    have : topsTo zs ((du zs)[j]?.getD 0) zs.length = 0 := bitB_ext hb.1 (by omega) fun i => by
      rw [bitB_zero]
      cases e : bitB (topsTo zs ((du zs)[j]?.getD 0) zs.length) i
      · rfl
      · exact absurd ⟨i, e⟩ hn
    rw [this] at hs
    exact absurd hs (by decide)
  obtain ⟨c, hc⟩ := hex
  refine ⟨c, by have := ((topsTo_bit c _).1 hc).2.1; rwa [du_bit h.sets] at this, fun x hx => ?_⟩
  obtain ⟨t, ht, e⟩ := top_over h hd1 _ x (Nat.le_refl _) (by rw [du_bit h.sets]; exact hx)
  obtain rfl := pop_one hb.1 hb.2 hs hc ht
  rcases e with rfl | e
  · exact at_self _ _
  · exact lt_at h e.2
/-- An item is told by the singles at or below it. -/
theorem singles_le (hn : 0 < zs.length) (h2 : JoinsOk zs) (h3 : JoinsOk (du zs)) : ∀ (m a b : Nat), rank zs a ≤ m → a < zs.length → b < zs.length →
    (∀ j : Nat, j < zs.length → snB zs j = true → bitB (atUp zs j) a = true → bitB (atUp zs j) b = true) → bitB (atUp zs a) b = true := fun m => by
  induction m using Nat.strongRecOn with
  | ind m ih =>
    intro a b hm ha hb hsub
    cases hs : snB zs a
    · have hbd := tops_small h a
      have hd1 : (du zs)[a]?.getD 0 < powI zs.length := by
        have := ((du_sets h.sets).2 a (by rw [du_len]; exact ha)).2
        rwa [du_len] at this
      have hlow : ∀ c : Nat, bitB (zs[c]?.getD 0) a = true → bitB (atUp zs c) b = true := fun c hc => by
        have hr := rank_lt h ⟨bit_none hc, hc⟩
        exact ih (rank zs c) (by omega) c b (Nat.le_refl _) (bit_none hc) hb fun j hj hsj hjc => hsub j hj hsj (at_trans h hjc (lt_at h hc))
      rcases pop_two hbd.1 hbd.2 (by unfold snB at hs; rw [beq_eq_false_iff_ne] at hs; exact hs) with e | ⟨c1, c2, hne, hc1, hc2⟩
      · obtain ⟨c, hc, hbot⟩ := lat_top (du_vo h) (by rw [du_len]; exact hn) h3
        rw [du_len] at hc hbot
        have hca := hbot a ha
        rw [at_du h.sets] at hca
        by_cases hca2 : c = a
        · subst hca2
          have := hbot b hb
          rwa [at_du h.sets] at this
        · exfalso
          have hlt := at_or hca (fun e => hca2 e.symm)
          obtain ⟨t, ht, -⟩ := top_over h hd1 _ c (Nat.le_refl _) (by rw [du_bit h.sets]; exact hlt)
          rw [e, bitB_zero] at ht
          cases ht
      · have t1 := (topsTo_bit c1 _).1 hc1
        have t2 := (topsTo_bit c2 _).1 hc2
        have l1 := t1.2.1
        have l2 := t2.2.1
        rw [du_bit h.sets] at l1 l2
        obtain ⟨v, hv, hch⟩ := join_char h h2 t1.1 t2.1
        have hva := (hch a).1 ⟨lt_at h l1, lt_at h l2⟩
        have hvb := (hch b).1 ⟨hlow c1 l1, hlow c2 l2⟩
        have hvv := (hch v).2 (at_self _ _)
        by_cases e : a = v
        · rw [e]; exact hvb
        · exfalso
          have hlt := at_or hva e
          have key : ∀ c : Nat, bitB (topsTo zs ((du zs)[a]?.getD 0) zs.length) c = true → bitB (atUp zs c) v = true → v = c := fun c hc hcv => by
            refine Classical.byContradiction fun hne2 => ?_
            have := andI_zero.1 ((topsTo_bit c _).1 hc).2.2 v (by rw [du_bit h.sets]; exact hlt)
            rw [at_or hcv hne2] at this
            cases this
          exact hne ((key c1 hc1 hvv.1).symm.trans (key c2 hc2 hvv.2))
    · exact hsub a ha hs (at_self _ _)
omit h in
/-- The join with its value. -/
theorem join_val {ds : List Int} (hd : VoP ds) (hj : JoinsOk ds) {a b : Nat} (ha : a < ds.length) (hb : b < ds.length) :
    ∃ c : Nat, joinI ds a b = (c : Int) ∧ c < ds.length ∧ ∀ i : Nat, (bitB (atUp ds a) i = true ∧ bitB (atUp ds b) i = true) ↔ bitB (atUp ds c) i = true := by
  have h0 := hj a ha b hb
  rcases jnI_cases (zs := ds) (s := upR ds a b) with ⟨e, _⟩ | ⟨c, e, hc, hb2⟩
  · exfalso
    have : joinI ds a b = -1 := e
    omega
  · unfold jnB at hb2
    rw [Bool.and_eq_true, beq_iff_eq] at hb2
    refine ⟨c, e, hc, fun i => ⟨fun hi => ?_, fun hi => ?_⟩⟩
    · refine lessI_none.1 hb2.2 i ?_
      unfold upR
      rw [bitB_and, Bool.and_eq_true]
      exact hi
    · have h1 := hb2.1
      unfold upR at h1
      rw [bitB_and, Bool.and_eq_true] at h1
      exact ⟨at_trans hd h1.1 hi, at_trans hd h1.2 hi⟩
/-- A single below a join is below one of the two. -/
theorem single_prime (h2 : JoinsOk zs) (h3 : JoinsOk (du zs)) (he : EvenAll zs) {j x y v : Nat} (hj : j < zs.length) (hs : snB zs j = true) (hx : x < zs.length) (hy : y < zs.length)
    (hv : joinI zs x y = (v : Int)) (hvn : v < zs.length) (hjv : bitB (atUp zs j) v = true) : bitB (atUp zs j) x = true ∨ bitB (atUp zs j) y = true := by
  have hl : (du zs).length = zs.length := du_len zs
  obtain ⟨p, ep, hp, cp⟩ := join_val (du_vo h) h3 (show j < (du zs).length by omega) (show x < (du zs).length by omega)
  obtain ⟨q, eq, hq, cq⟩ := join_val (du_vo h) h3 (show j < (du zs).length by omega) (show y < (du zs).length by omega)
  obtain ⟨m, em, hm, cm⟩ := join_val (du_vo h) h3 (show j < (du zs).length by omega) (show v < (du zs).length by omega)
  obtain ⟨r, er, hr, cr⟩ := join_val h h2 (show p < zs.length by omega) (show q < zs.length by omega)
  simp only [at_du h.sets] at cp cq cm
  have hg := he j hj x hx y hy
  unfold goesOver at hg
  rw [beq_iff_eq, hv, ep, eq, Int.toNat_natCast, Int.toNat_natCast, Int.toNat_natCast, em, er] at hg
  obtain rfl : m = r := by omega
  have hjm : j = m := at_asym h ((cm j).1 ⟨at_self _ _, hjv⟩) ((cm m).2 (at_self _ _)).1
  subst hjm
  refine Classical.byContradiction fun hn => ?_
  rw [not_or] at hn
  have p1 := (cp p).2 (at_self _ _)
  have q1 := (cq q).2 (at_self _ _)
  obtain ⟨c, hc, hall⟩ := single_low h hj hs
  have pj : j ≠ p := fun e => hn.1 (by have := p1.2; rwa [← e] at this)
  have qj : j ≠ q := fun e => hn.2 (by have := q1.2; rwa [← e] at this)
  have hjc := (cr c).1 ⟨hall p (at_or p1.1 pj), hall q (at_or q1.1 qj)⟩
  have := at_asym h hjc (lt_at h hc)
  subst this
  exact h.irr ⟨hj, hc⟩
theorem joins_prime (h2 : JoinsOk zs) (h3 : JoinsOk (du zs)) (he : EvenAll zs) (t : Nat) : ∀ k : Nat, k ≤ zs.length → (∀ a : Nat, a < k → t.testBit a = false) ∨
    ∃ c : Nat, c < zs.length ∧ (∀ a : Nat, a < k → t.testBit a = true → bitB (atUp zs a) c = true) ∧ ∀ j : Nat, j < zs.length → snB zs j = true → bitB (atUp zs j) c = true → ∃ a : Nat, a < k ∧ t.testBit a = true ∧ bitB (atUp zs j) a = true
  | 0, _ => .inl fun a ha => by omega
  | k + 1, hk => by
    have ih := joins_prime h2 h3 he t k (by omega)
    cases hb : t.testBit k
    · rcases ih with ih | ⟨c, hc, i1, i2⟩
      · refine .inl fun a ha => ?_
        by_cases e : a = k
        · subst e; exact hb
        · exact ih a (by omega)
      · refine .inr ⟨c, hc, fun a ha hs => ?_, fun j hj hs hjc => ?_⟩
        · by_cases e : a = k
          · subst e; rw [hb] at hs; cases hs
          · exact i1 a (by omega) hs
        · obtain ⟨a, ha, h5⟩ := i2 j hj hs hjc
          exact ⟨a, by omega, h5⟩
    · rcases ih with ih | ⟨c, hc, i1, i2⟩
      · refine .inr ⟨k, by omega, fun a ha hs => ?_, fun j hj hs hjc => ⟨k, by omega, hb, hjc⟩⟩
        by_cases e : a = k
        · subst e; exact at_self _ _
        · rw [ih a (by omega)] at hs; cases hs
      · obtain ⟨d, ed, hd, cd⟩ := join_val h h2 hc (show k < zs.length by omega)
        have hdd := (cd d).2 (at_self _ _)
        refine .inr ⟨d, hd, fun a ha hs => ?_, fun j hj hs hjd => ?_⟩
        · by_cases e : a = k
          · subst e; exact hdd.2
          · exact at_trans h (i1 a (by omega) hs) hdd.1
        · rcases single_prime h h2 h3 he hj hs hc (by omega) ed hd hjd with e | e
          · obtain ⟨a, ha, h5⟩ := i2 j hj hs e
            exact ⟨a, by omega, h5⟩
          · exact ⟨k, by omega, hb, e⟩
/-- The singles at or below an item. -/
def dnN (zs : List Int) (c : Nat) : Nat := (andI (snTo zs zs.length) (atUp (du zs) c)).toNat
def snN (zs : List Int) : Nat := (snTo zs zs.length).toNat
theorem snN_bit (j : Nat) : (snN zs).testBit j = (decide (j < zs.length) && snB zs j) := by
  unfold snN
  rw [← bit_nat (snTo_bd zs _).1, snTo_bit]
theorem dnN_bit (c j : Nat) : (dnN zs c).testBit j = ((decide (j < zs.length) && snB zs j) && bitB (atUp zs j) c) := by
  unfold dnN
  rw [← bit_nat (by unfold andI; omega), bitB_and, snTo_bit, at_du h.sets]
/-- Ideals of singles are as many as items. -/
theorem birk (hl : latB zs = true) (he : EvenAll zs) : (ids zs (snN zs)).length = zs.length := by
  obtain ⟨hn, h2, h3⟩ := latB_parts hl
  have hs64 : snN zs < 64 := by
    have h1 := snTo_bd zs zs.length
    have h2 := powI_le6 (n := (zs.length : Int)) (by have := h.1; omega)
    unfold snN
    omega
  have hid : ∀ c : Nat, IdP zs (snN zs) (dnN zs c) := fun c => ⟨fun j hj => by
    rw [dnN_bit h, Bool.and_eq_true] at hj
    rw [snN_bit h]; exact hj.1, fun a b hb ha hz => by
    rw [dnN_bit h, Bool.and_eq_true] at hb ⊢
    rw [snN_bit h] at ha
    exact ⟨ha, at_trans h (lt_at h hz) hb.2⟩⟩
  have k1 := inj_len (dnN zs) (List.range zs.length) (ids zs (snN zs)) List.nodup_range (fun c _ => mem_ids.2 ⟨idP_lt (hid c) hs64, hid c⟩) (fun a ha b hb e => by
    have ha' : a < zs.length := by simpa using ha
    have hb' : b < zs.length := by simpa using hb
    have key : ∀ x y : Nat, dnN zs x = dnN zs y → ∀ j : Nat, j < zs.length → snB zs j = true → bitB (atUp zs j) x = true → bitB (atUp zs j) y = true := fun x y e j hj hsj hjx => by
      have e1 := dnN_bit h x j
      have e2 := dnN_bit h y j
      rw [e, e2, decide_eq_true hj, hsj, hjx] at e1
      simpa using e1
    exact at_asym h (singles_le h hn h2 h3 _ a b (Nat.le_refl _) ha' hb' (key a b e)) (singles_le h hn h2 h3 _ b a (Nat.le_refl _) hb' ha' (key b a e.symm)))
  have k2 := inj_len (fun t : Nat => t) (ids zs (snN zs)) ((List.range zs.length).map (dnN zs)) (ids_nodup _ _) (fun t ht => by
    obtain ⟨-, ht⟩ := mem_ids.1 ht
    have hsn : ∀ j, t.testBit j = true → j < zs.length ∧ snB zs j = true := fun j hj => by
      have := ht.1 j hj
      rw [snN_bit h, Bool.and_eq_true, decide_eq_true_eq] at this
      exact this
    rw [List.mem_map]
    rcases joins_prime h h2 h3 he t zs.length (Nat.le_refl _) with g | ⟨c, hc, g1, g2⟩
    · obtain ⟨c, hc, hbot⟩ := lat_top (du_vo h) (by rw [du_len]; exact hn) h3
      rw [du_len] at hc hbot
      refine ⟨c, by simpa using hc, Nat.eq_of_testBit_eq fun j => ?_⟩
      have hf : t.testBit j = false := by
        cases e : t.testBit j
        · rfl
        · rw [g j (hsn j e).1] at e; cases e
      rw [hf, Bool.eq_false_iff]
      intro e
      rw [dnN_bit h, Bool.and_eq_true, Bool.and_eq_true, decide_eq_true_eq] at e
      obtain ⟨x, hx, -⟩ := single_low h e.1.1 e.1.2
      have hcj := hbot j e.1.1
      rw [at_du h.sets] at hcj
      have := at_asym h e.2 hcj
      subst this
      have hcx := hbot x (bit_none hx)
      rw [at_du h.sets] at hcx
      have := at_asym h hcx (lt_at h hx)
      subst this
      exact h.irr ⟨e.1.1, hx⟩
    · refine ⟨c, by simpa using hc, Nat.eq_of_testBit_eq fun j => ?_⟩
      rw [Bool.eq_iff_iff, dnN_bit h, Bool.and_eq_true, Bool.and_eq_true, decide_eq_true_eq]
      constructor
      · rintro ⟨⟨hj, hsj⟩, hjc⟩
        obtain ⟨a, ha, hta, hja⟩ := g2 j hj hsj hjc
        by_cases e : j = a
        · subst e; exact hta
        · exact ht.2 j a hta (by rw [snN_bit h, hsj, decide_eq_true hj]; rfl) (at_or hja (fun e2 => e e2.symm))
      · intro e
        exact ⟨hsn j e, g1 j (hsn j e).1 e⟩) (fun _ _ _ _ e => e)
  rw [List.length_map, List.length_range] at k2
  rw [List.length_range] at k1
  omega
end
end Go.Proofs.YtcadmjpkgnbodaaDoor

/- Parts of an order: what PartOf's and ValidOrder's own laws ask. No program. -/
namespace Go.Proofs.YtcadmjpkgnbodaaDoor

theorem left_all (n : Nat) : leftL n (2 ^ n - 1) = List.range n := by
  unfold leftL
  rw [List.filter_eq_self]
  intro a ha
  rw [Nat.testBit_two_pow_sub_one]
  simpa using ha
theorem ext_bits {xs ys : List Int} {n : Nat} (hx : xs.length = n) (hy : ys.length = n) (x0 : ∀ i, i < n → 0 ≤ xs[i]?.getD 0) (y0 : ∀ i, i < n → 0 ≤ ys[i]?.getD 0)
    (h : ∀ i j : Nat, i < n → bitB (xs[i]?.getD 0) j = bitB (ys[i]?.getD 0) j) : xs = ys := by
  refine List.ext_getElem? fun i => ?_
  rcases Nat.lt_or_ge i n with hi | hi
  · have e1 : xs[i]? = some (xs[i]?.getD 0) := by rw [List.getElem?_eq_getElem (by omega)]; rfl
    have e2 : ys[i]? = some (ys[i]?.getD 0) := by rw [List.getElem?_eq_getElem (by omega)]; rfl
    rw [e1, e2, bitB_ext (x0 i hi) (y0 i hi) (fun j => h i j hi)]
  · rw [List.getElem?_eq_none (by omega), List.getElem?_eq_none (by omega)]
theorem range_get {n i : Nat} (hi : i < n) : (List.range n)[i]?.getD 0 = i := by simp [hi]
theorem range_Inc (zs : List Int) : Inc zs (List.range zs.length) := ⟨range_inc _, fun a ha => by simpa using ha⟩
theorem ind_all {zs : List Int} (h : VoP zs) : ind zs (List.range zs.length) = zs := by
  have hi := range_Inc zs
  refine ext_bits (n := zs.length) (by rw [ind_len, List.length_range]) rfl (fun i hi' => ((ind_vo h hi).bd i (by rw [ind_len, List.length_range]; exact hi')).1) (fun i hi' => (h.bd i hi').1) fun i j hi' => ?_
  rw [Bool.eq_iff_iff, ind_bit (by rw [List.length_range]; exact hi'), List.length_range, range_get hi']
  constructor
  · rintro ⟨hj, e⟩; rwa [range_get hj] at e
  · intro e
    have hj : j < zs.length := bitB_lt (h.sets.2 i hi').2 e
    exact ⟨hj, by rw [range_get hj]; exact e⟩
theorem part_whole {zs : List Int} (h : VoP zs) : partR zs (powI zs.length - 1) = zs := by
  have hp := powI_pos (zs.length : Int)
  have e : (powI zs.length - 1).toNat = 2 ^ zs.length - 1 := by
    have : powI (zs.length : Int) = ((2 ^ zs.length : Nat) : Int) := by simp [powI]
    omega
  unfold partR
  rw [vo_true h, in_set h (by omega) (by omega), Bool.and_true, if_pos rfl, e, left_all, ind_all h]
theorem part_in {zs : List Int} {s : Int} (h : VoP zs) (h0 : 0 ≤ s) (h1 : s < powI zs.length) : partR zs s = ind zs (leftL zs.length s.toNat) := by
  unfold partR
  rw [vo_true h, in_set h h0 h1, Bool.and_true, if_pos rfl]
theorem part_vo {zs : List Int} {s : Int} (h : VoP zs) (h0 : 0 ≤ s) (h1 : s < powI zs.length) : VoP (partR zs s) := by
  rw [part_in h h0 h1]
  exact ind_vo h (leftL_inc zs _)
theorem vo_nil : VoP [] := ⟨by simp, fun a ha => by simp at ha, fun a ha => by simp at ha⟩
theorem part_vo' {zs : List Int} (h : VoP zs) (s : Int) : VoP (partR zs s) := by
  unfold partR
  split
  · exact ind_vo h (leftL_inc zs _)
  · exact vo_nil
theorem part_len {zs : List Int} {s : Int} (h : VoP zs) (h0 : 0 ≤ s) (h1 : s < powI zs.length) : ((partR zs s).length : Int) = popI s := by
  rw [part_in h h0 h1, ind_len]
  obtain ⟨k, rfl⟩ := Int.eq_ofNat_of_zero_le h0
  have hk : k < 2 ^ zs.length := by unfold powI at h1; simp at h1; exact_mod_cast h1
  rw [Int.toNat_natCast, left_pop h.1 hk]
theorem du_ind {zs : List Int} (h : VoP zs) {l : List Nat} (hl : Inc zs l) : ind (du zs) l = du (ind zs l) := by
  have hi := ind_vo h hl
  have hl2 : Inc (du zs) l := ⟨hl.inc, fun a ha => by rw [du_len]; exact hl.lt a ha⟩
  have hi2 := ind_vo (du_vo h) hl2
  have hd := du_vo hi
  refine ext_bits (n := l.length) (ind_len _ _) (by rw [du_len, ind_len]) (fun i hi' => (hi2.bd i (by rw [ind_len]; exact hi')).1) (fun i hi' => (hd.bd i (by rw [du_len, ind_len]; exact hi')).1) fun i j hi' => ?_
  rw [Bool.eq_iff_iff, ind_bit hi', du_bit h.sets, du_bit hi.sets]
  constructor
  · rintro ⟨hj, e⟩; exact (ind_bit hj).2 ⟨hi', e⟩
  · intro e
    have hj : j < l.length := by have := bit_none e; rwa [ind_len] at this
    exact ⟨hj, ((ind_bit hj).1 e).2⟩
theorem part_du {zs : List Int} {s : Int} (h : VoP zs) (h0 : 0 ≤ s) (h1 : s < powI zs.length) : partR (du zs) s = du (partR zs s) := by
  rw [part_in h h0 h1, part_in (du_vo h) h0 (by rw [du_len]; exact h1), du_len, du_ind h (leftL_inc zs _)]
/-! As many pairs at most. -/
theorem sum_sub {f g : Nat → Nat} : ∀ {l m : List Nat}, l.Sublist m → (∀ a ∈ l, f a ≤ g a) → (l.map f).sum ≤ (m.map g).sum
  | _, _, .slnil, _ => Nat.le_refl _
  | l, b :: m, .cons _ hs, hf => by
    have := sum_sub hs hf
    rw [List.map_cons, List.sum_cons]
    omega
  | a :: l, _ :: m, .cons_cons _ hs, hf => by
    have h1 := sum_sub hs (fun x hx => hf x (List.mem_cons_of_mem _ hx))
    have h2 := hf a (by simp)
    rw [List.map_cons, List.sum_cons, List.map_cons, List.sum_cons]
    omega
theorem cl_sub {r : Nat → Nat → Bool} {l m : List Nat} (h : l.Sublist m) : cl r l l ≤ cl r m m :=
  sum_sub h fun a _ => (h.filter (r a)).length_le
theorem get_range (l : List Nat) : (List.range l.length).map (fun i => l[i]?.getD 0) = l := by
  refine List.ext_getElem? fun i => ?_
  rcases Nat.lt_or_ge i l.length with hi | hi
  · rw [List.getElem?_map, List.getElem?_range hi, List.getElem?_eq_getElem hi, Option.map_some, List.getElem?_eq_getElem hi]; rfl
  · rw [List.getElem?_eq_none (by simpa using hi), List.getElem?_eq_none hi]
theorem map_at (l : List Nat) (f : Nat → Nat) : (List.range l.length).map (fun i => f (l[i]?.getD 0)) = l.map f := by
  conv => rhs; rw [← get_range l]
  rw [List.map_map]
  rfl
theorem filter_at (l : List Nat) (p : Nat → Bool) : ((List.range l.length).filter fun i => p (l[i]?.getD 0)).length = (l.filter p).length := by
  conv => rhs; rw [← get_range l]
  rw [List.filter_map, List.length_map]
  rfl
theorem prs_ind {zs : List Int} {l : List Nat} : prs (ind zs l) = cl (upB zs) l l := by
  unfold prs cl
  rw [ind_len, ← map_at l]
  congr 1
  refine List.map_congr_left fun i hi => ?_
  have hil : i < l.length := by simpa using hi
  rw [← filter_at l]
  congr 1
  refine List.filter_congr fun j hj => ?_
  have hjl : j < l.length := by simpa using hj
  unfold upB
  rw [Bool.eq_iff_iff, ind_bit hil]
  exact ⟨fun h => h.2, fun h => ⟨hjl, h⟩⟩
theorem part_pairs {zs : List Int} {s : Int} (h : VoP zs) (h0 : 0 ≤ s) (h1 : s < powI zs.length) : countR (partR zs s) ≤ countR zs := by
  have hv := part_vo h h0 h1
  unfold countR
  rw [vo_true h, vo_true hv]
  simp only [if_true]
  rw [popTo_prs h.sets, popTo_prs hv.sets, part_in h h0 h1, prs_ind]
  have : cl (upB zs) (leftL zs.length s.toNat) (leftL zs.length s.toNat) ≤ prs zs := cl_sub (List.filter_sublist ..)
  exact_mod_cast this
end Go.Proofs.YtcadmjpkgnbodaaDoor

/- Even lattices: turned round they are even; ideals of a part are ideals within its set. No program. -/
namespace Go.Proofs.YtcadmjpkgnbodaaDoor

theorem even_du {zs : List Int} (h : VoP zs) (hl : latB zs = true) (he : EvenAll zs) : EvenAll (du zs) := by
  obtain ⟨hn, h2, h3⟩ := latB_parts hl
  have hdl : (du zs).length = zs.length := du_len zs
  intro a ha b hb c hc
  rw [hdl] at ha hb hc
  unfold goesOver
  rw [du_du h]
  obtain ⟨m, em, hm, cm⟩ := join_val (du_vo h) h3 (show b < (du zs).length by omega) (show c < (du zs).length by omega)
  obtain ⟨x, ex, hx, cx⟩ := join_val h h2 ha hb
  obtain ⟨y, ey, hy, cy⟩ := join_val h h2 ha hc
  obtain ⟨w, ew, hw, cw⟩ := join_val h h2 ha (show m < zs.length by omega)
  obtain ⟨v, ev, hv, cv⟩ := join_val (du_vo h) h3 (show x < (du zs).length by omega) (show y < (du zs).length by omega)
  simp only [at_du h.sets] at cm cv
  rw [em, Int.toNat_natCast, ex, ey, Int.toNat_natCast, Int.toNat_natCast, ew, ev, beq_iff_eq]
  have xx := (cx x).2 (at_self _ _)
  have yy := (cy y).2 (at_self _ _)
  have ww := (cw w).2 (at_self _ _)
  have mm := (cm m).2 (at_self _ _)
  have h1 : bitB (atUp zs w) v = true := (cw v).1 ⟨(cv a).1 ⟨xx.1, yy.1⟩, (cv m).1 ⟨at_trans h mm.1 xx.2, at_trans h mm.2 yy.2⟩⟩
  have vv := (cv v).2 (at_self _ _)
  have h4 : bitB (atUp zs v) w = true := singles_le h hn h2 h3 _ v w (Nat.le_refl _) (by omega) hw fun j hj hs hjv => by
    rcases single_prime h h2 h3 he hj hs ha hb ex hx (at_trans h hjv vv.1) with k1 | k1
    · exact at_trans h k1 ww.1
    · rcases single_prime h h2 h3 he hj hs ha hc ey hy (at_trans h hjv vv.2) with k2 | k2
      · exact at_trans h k2 ww.1
      · exact at_trans h ((cm j).1 ⟨k1, k2⟩) ww.2
  exact congrArg _ (at_asym h h1 h4)
/-- A number of given bits. -/
def mkN (p : Nat → Bool) : Nat → Nat
  | 0 => 0
  | k + 1 => if p k then mkN p k ||| 2 ^ k else mkN p k
theorem mkN_bit (p : Nat → Bool) (j : Nat) : ∀ k : Nat, (mkN p k).testBit j = (decide (j < k) && p j)
  | 0 => by simp [mkN]
  | k + 1 => by
    have ih := mkN_bit p j k
    by_cases e : j = k
    · subst e
      cases hp : p j
      · simp [mkN, hp, ih]
      · simp [mkN, hp, ih, Nat.testBit_or]
    · have h1 : (j < k + 1) ↔ (j < k) := by omega
      have h2 : ¬ k = j := fun e2 => e e2.symm
      cases hp : p k
      · simp [mkN, hp, ih, h1]
      · simp [mkN, hp, ih, h1, Nat.testBit_or, h2]
theorem mem_left {n s a : Nat} : a ∈ leftL n s ↔ a < n ∧ s.testBit a = true := by simp [leftL]
theorem left_at {n s a : Nat} (h1 : a < n) (h2 : s.testBit a = true) : ∃ k : Nat, k < (leftL n s).length ∧ (leftL n s)[k]?.getD 0 = a := by
  obtain ⟨k, hk, e⟩ := List.getElem_of_mem (mem_left.2 ⟨h1, h2⟩)
  exact ⟨k, hk, by rw [List.getElem?_eq_getElem hk]; exact e⟩
theorem left_get {n s k : Nat} (hk : k < (leftL n s).length) : (leftL n s)[k]?.getD 0 < n ∧ s.testBit ((leftL n s)[k]?.getD 0) = true := by
  rw [List.getElem?_eq_getElem hk]
  exact mem_left.1 (List.getElem_mem hk)
theorem ids_ind {zs : List Int} (h : VoP zs) {s : Nat} (hs : s < 2 ^ zs.length) : (ids (ind zs (leftL zs.length s)) (2 ^ (leftL zs.length s).length - 1)).length = (ids zs s).length := by
  have h64 : (2 : Nat) ^ zs.length ≤ 64 := Nat.pow_le_pow_right (n := 2) (by decide) h.1
  have hi := leftL_inc zs s
  have hat : ∀ k, k < (leftL zs.length s).length → (leftL zs.length s)[k]?.getD 0 < zs.length ∧ s.testBit ((leftL zs.length s)[k]?.getD 0) = true := fun k hk => left_get hk
  have hof : ∀ a, s.testBit a = true → ∃ k : Nat, k < (leftL zs.length s).length ∧ (leftL zs.length s)[k]?.getD 0 = a := fun a ha => left_at (bit_lt hs ha) ha
  have hll := hi.len_le
  generalize leftL zs.length s = l at *
  have hl6 : l.length ≤ 6 := Nat.le_trans hll h.1
  have hm64 : (2 : Nat) ^ l.length ≤ 64 := Nat.pow_le_pow_right (n := 2) (by decide) hl6
  have hfull : ∀ j, (2 ^ l.length - 1).testBit j = true ↔ j < l.length := fun j => by rw [Nat.testBit_two_pow_sub_one, decide_eq_true_eq]
  have hex : ∀ t a, (ex l t).testBit a = true ↔ ∃ i, i < l.length ∧ t.testBit i = true ∧ l[i]?.getD 0 = a := fun t a => exTo_bit l t a l.length
  have k1 := inj_len (ex l) (ids (ind zs l) (2 ^ l.length - 1)) (ids zs s) (ids_nodup _ _) (fun t ht => by
    obtain ⟨-, ht⟩ := mem_ids.1 ht
    have hp : IdP zs s (ex l t) := by
      refine ⟨fun j hj => ?_, fun a b hb ha hz => ?_⟩
      · obtain ⟨i, hi1, -, e⟩ := (hex t j).1 hj
        rw [← e]; exact (hat i hi1).2
      · obtain ⟨i, hi1, hti, e⟩ := (hex t b).1 hb
        obtain ⟨k, hk, e2⟩ := hof a ha
        refine (hex t a).2 ⟨k, hk, ht.2 k i hti ((hfull k).2 hk) ((ind_bit hk).2 ⟨hi1, ?_⟩), e2⟩
        rw [e, e2]; exact hz
    exact mem_ids.2 ⟨idP_lt hp (by omega), hp⟩) (fun t ht t2 ht2 e => by
    obtain ⟨-, ht⟩ := mem_ids.1 ht
    obtain ⟨-, ht2⟩ := mem_ids.1 ht2
    refine Nat.eq_of_testBit_eq fun k => ?_
    by_cases hk : k < l.length
    · rw [← ex_at hi hk, ← ex_at hi hk, e]
    · have f : ∀ t, IdP (ind zs l) (2 ^ l.length - 1) t → t.testBit k = false := fun t ht => by
        cases e2 : t.testBit k
        · rfl
        · exact absurd ((hfull k).1 (ht.1 k e2)) hk
      rw [f t ht, f t2 ht2])
  have k2 := inj_len (fun u : Nat => mkN (fun k => u.testBit (l[k]?.getD 0)) l.length) (ids zs s) (ids (ind zs l) (2 ^ l.length - 1)) (ids_nodup _ _) (fun u hu => by
    obtain ⟨-, hu⟩ := mem_ids.1 hu
    have hp : IdP (ind zs l) (2 ^ l.length - 1) (mkN (fun k => u.testBit (l[k]?.getD 0)) l.length) := by
      refine ⟨fun j hj => ?_, fun a b hb ha hz => ?_⟩
      · rw [mkN_bit, Bool.and_eq_true, decide_eq_true_eq] at hj
        exact (hfull j).2 hj.1
      · rw [mkN_bit, Bool.and_eq_true, decide_eq_true_eq] at hb ⊢
        have hal := (hfull a).1 ha
        exact ⟨hal, hu.2 _ _ hb.2 (hat a hal).2 ((ind_bit hal).1 hz).2⟩
    exact mem_ids.2 ⟨idP_lt hp (by omega), hp⟩) (fun u hu u2 hu2 e => by
    obtain ⟨-, hu⟩ := mem_ids.1 hu
    obtain ⟨-, hu2⟩ := mem_ids.1 hu2
    have e : mkN (fun k => u.testBit (l[k]?.getD 0)) l.length = mkN (fun k => u2.testBit (l[k]?.getD 0)) l.length := e
    have key : ∀ k, k < l.length → u.testBit (l[k]?.getD 0) = u2.testBit (l[k]?.getD 0) := fun k hk => by
      have e1 := mkN_bit (fun k => u.testBit (l[k]?.getD 0)) k l.length
      have e2 := mkN_bit (fun k => u2.testBit (l[k]?.getD 0)) k l.length
      rw [e, e2, decide_eq_true hk] at e1
      simpa using e1.symm
    refine Nat.eq_of_testBit_eq fun a => ?_
    cases ha : s.testBit a
    · have f : ∀ u, IdP zs s u → u.testBit a = false := fun u hu => by
        cases e2 : u.testBit a
        · rfl
        · rw [hu.1 a e2] at ha; cases ha
      rw [f u hu, f u2 hu2]
    · obtain ⟨k, hk, rfl⟩ := hof a ha
      exact key k hk)
  omega
/-- The main theorem: as many ideals of the part of the singles as items. -/
theorem even_ideals {zs : List Int} (h : VoP zs) (hl : latB zs = true) (he : EvenAll zs) : countIdealsR (partR zs (snTo zs zs.length)) = zs.length := by
  have hb := snTo_bd zs zs.length
  have hpv := part_vo h hb.1 hb.2
  have hs : snN zs < 2 ^ zs.length := by
    have := pow_cast zs.length
    unfold snN
    omega
  have h64 : (2 : Nat) ^ (partR zs (snTo zs zs.length)).length ≤ 64 := Nat.pow_le_pow_right (n := 2) (by decide) hpv.1
  unfold countIdealsR
  rw [vo_true hpv, if_pos rfl, ciN_ids hpv 64 _ (by omega) (by omega), part_in h hb.1 hb.2, ind_len, ids_ind h (show (snTo zs zs.length).toNat < 2 ^ zs.length from hs)]
  exact congrArg _ (birk h hl he)
end Go.Proofs.YtcadmjpkgnbodaaDoor

/- Ideals: the model's. -/
namespace Go.Proofs.YtcadmjpkgnbodaaDoor
open Go.RowKit Go.Shelf
attribute [local go_sem] Oper.semAt_some
attribute [local go_sem, local simp] wide_fn

end Go.Proofs.YtcadmjpkgnbodaaDoor

/- Ideals: both sides. -/
namespace Go.Proofs.YtcadmjpkgnbodaaDoor
end Go.Proofs.YtcadmjpkgnbodaaDoor

/- IdealsOf: the model's and the program's. -/
namespace Go.Proofs.YtcadmjpkgnbodaaDoor
open Go.RowKit Go.Shelf
attribute [local go_sem] Oper.semAt_some
attribute [local go_sem, local simp] wide_fn

set_option maxRecDepth 100000 in
set_option maxHeartbeats 4000000 in
theorem oideals_any (A : Option Addr) (n c : Nat) (zs : List Int) (hvo : VoP zs) (w : World) (hA : Ints w w.heap.size A n zs) :
    Calls Tryd.prog 27 #[.slice A n c] w fun e W' => ∃ A' m c', e = .returned (.slice A' m c') ∧ Ints W' W'.heap.size A' m (setsTo (idB zs) (2 ^ n)) ∧ Below w.heap.size w W' := by
  refine (callsIn_wide (n := 9)).1 ?_
  refine callsIn_of_wp_marks Tryd.func27 rfl trivial ?_ rfl
  simp only [Tryd.ntmps27, List.size_toArray, List.length_cons, List.length_nil, Nat.reduceAdd, Nat.reduceSub, Array.replicate_succ, Array.replicate_zero, List.push_toArray, List.append_toArray, List.nil_append, List.cons_append]
  obtain ⟨i0, hi0, hz0, hz1, hz2⟩ := info_parts infoItems
  have hlen := Lib.hid hA.len
  have hn6 : n ≤ 6 := by have := hvo.1; rw [hlen.out] at this; exact this
  have hp6 : (2 : Nat) ^ n ≤ 2 ^ 6 := Nat.pow_le_pow_right (by decide) hn6
  have hN := Lib.hid (show powI n = ((2 ^ n : Nat) : Int) by simp [powI])
  gi_wp2_with (gi_at_call 40; refine (callsIn_wide.2 (sets_any _ _ _ _)).mono ?_; rintro e w' ⟨rfl, rfl⟩)
  have bO := ((Boxed.new w 33 (.slice A n c)).alloc (.cells #[Value.slice none 0 0] 32)).alloc (.cells #[Value.slice A n c] 33)
  have bV := (Boxed.new (w.alloc (.cells #[Value.slice A n c] 33)) 32 (.slice none 0 0)).alloc (.cells #[Value.slice A n c] 33)
  have bE := Boxed.new ((w.alloc (.cells #[Value.slice A n c] 33)).alloc (.cells #[Value.slice none 0 0] 32)) 33 (.slice A n c)
  have hu0 : Upd (fun _ => False) w (((w.alloc (.cells #[Value.slice A n c] 33)).alloc (.cells #[Value.slice none 0 0] 32)).alloc (.cells #[Value.slice A n c] 33)) := (((Upd.refl _ w).alloc _).alloc _).alloc _
  have hzz : (((w.alloc (.cells #[Value.slice A n c] 33)).alloc (.cells #[Value.slice none 0 0] 32)).alloc (.cells #[Value.slice A n c] 33)).heap.size = w.heap.size + 3 := by simp
  simp only [World.size_alloc] at bV bE
  obtain ⟨W0, hW0⟩ : ∃ W0, (((w.alloc (.cells #[Value.slice A n c] 33)).alloc (.cells #[Value.slice none 0 0] 32)).alloc (.cells #[Value.slice A n c] 33)) = W0 := ⟨_, rfl⟩
  rw [hW0] at bO bV bE hu0 hzz ⊢
  clear hW0
  have hA0 : Ints W0 w.heap.size A n zs := hA.below (hu0.toBelow (fun _ e => e.elim) (Nat.le_refl _))
  refine range_out (n := 9) (gf := 51) (lb := #[.pointer (some ⟨w.heap.size + 1 + 1, 0, none⟩)]) rfl (enters_of Tryd.func51 (by kernel_rfl) rfl) (encs := encS) (L := List.range (2 ^ n))
    (fun k => k = w.heap.size + 1) (fun k e => by omega) (fun _ => rfl)
    (fun W1 l1 hu1 hl1 hl2 => sets_iter _ _ _ hn6 _ _ W1 (hu1.boxed bE (fun e => e)))
    (fun pre D W => ∃ v, Boxed W (w.heap.size + 1) 32 v ∧ OwnS D W w.heap.size 37 v (setsTo (idB zs) pre.length) ∧ Upd (fun k => k = w.heap.size + 1) W0 W)
    (fun _ _ _ _ => False)
    (fun _ D X Y hs hu => by
      obtain ⟨v, h1, h2, h3⟩ := hs
      exact ⟨v, hu.boxed h1 (fun e => by omega), h2.keep hu (fun k hk e => e.2 hk), h3.trans' hu (fun i hi e => by omega)⟩)
    (fun _ _ _ _ _ hs _ => hs)
    ⟨_, bV, OwnS.none _ _ _ _, Upd.refl _ _⟩ ?owes ?done ?stop
  case owes =>
    rintro l1 pre x D1 W hl1 hl2 hDl hD1 - hpre K hK
    gi_wp2
    refine hK _ _ (Upd.refl _ _) ?_
    rintro Wb hWb - ⟨v, bV1, hO, hU⟩
    clear hK
    obtain ⟨hx, hxN⟩ := range_at hpre
    subst hx
    have hNo := hN.out
    have hsb := hU.size
    have hszb := hWb.size
    have hcO := (hU.boxed bO (by omega)).cell
    have hsl := setsTo_len (idB zs) pre.length
    have hAb : Ints Wb w.heap.size A n zs := hA0.below (hU.toBelow (fun k e => by omega) (by omega))
    clear hpre
    generalize hq : pre.length = q at *
    have Hq := Lib.hid hq
    clear hq
    gi_wp2_with fail
    refine (CallsIn.inRound l1 (callsIn_wide.2 (oisIdeal_any _ n _ zs q hvo Wb (hAb.more (by omega)) (by omega) (by omega)))).mono ?_
    rintro e W2 ⟨rfl, hB2⟩
    have z2 := hB2.size
    have bV2 := (Below.toUpd hB2).boxed bV1 (fun e => by omega)
    have hO2 := hO.keep (Below.toUpd hB2) (fun k hk e => by have := hD1 k hk; omega)
    have hU2 := hU.below hB2 (fun k h1 h2 => by omega)
    have hV2 : Upd (fun k => k = w.heap.size + 1 ∨ D1 k ∨ W.heap.size ≤ k) Wb W2 := (Below.toUpd hB2).mono (fun k hk e => by omega)
    clear hAb
    cases hid : idB zs (q : Int)
    · have Hs := Lib.hid (setsTo_no (p := idB zs) hid)
      gi_wp2
      exact ⟨D1, ⟨v, bV2, by rw [List.length_append, List.length_singleton, Hq.out, Hs.out]; exact hO2, hU2⟩, hV2, fun k hk => .inl hk⟩
    · have Hs := Lib.hid (setsTo_yes (p := idB zs) hid)
      have hcV := bV2.cell
      have hfV := bV2.frozen
      have hvb : some (w.heap.size + 1) ≠ v.ownBlock := by
        intro e
        have := hD1 _ (hO2.1 _ e.symm); omega
      generalize hxs : setsTo (idB zs) q = xs at *
      clear hxs
      gi_wp2_with (gi_at_builtin; go_loud (refine wpListIn_append1 _ rfl (.tmp 11) (.tmp 13) _ rfl w.heap.size 37 i0 _ 8 Tryd.underlying32 hi0 hz0 hz1 hz2 rfl _ xs.length _ rfl (hO2.2.alloc _) W2.heap.size 1 (.int .i64 q) rfl (cell_new _ _ _) rfl (by omega) (by omega) (by simp; omega) ?_); rintro v' w' hown' hg' hv'; obtain ⟨g', cap', rfl⟩ := ownsRow_succ hown'; have bV3 := (bV2.alloc _).kept hg' hvb; have hcV3 := bV3.cell; have hfV3 := bV3.frozen)
      rename_i w'
      have zg := hg'.size
      simp at zg
      have hst := hO2.step (S' := fun k => D1 k ∨ W.heap.size ≤ k ∧ k < w'.heap.size) hown' hv' (fun k e => .inl e) (fun h9 => .inr ⟨by omega, h9⟩)
      have hgU : Upd (fun k => k = w.heap.size + 1) W0 w' := (hU2.alloc _).grown hg' (fun k hk => .inl (by have := hD1 _ (hO2.1 k hk); omega))
      have hbU : Upd (fun k => k = w.heap.size + 1 ∨ D1 k ∨ W.heap.size ≤ k) Wb w' := (hV2.alloc _).grown hg' (fun k hk => .inr (.inr (.inl (hO2.1 k hk))))
      have hus : Upd (fun k => k = w.heap.size + 1) w' (w'.setCell ⟨w.heap.size + 1, 0, none⟩ (.slice (some ⟨g', 0, none⟩) (xs.length + 1) cap')) := (Upd.refl (fun k => k = w.heap.size + 1) w').setCell (p := ⟨w.heap.size + 1, 0, none⟩) (.inr rfl) _
      exact ⟨fun k => D1 k ∨ W.heap.size ≤ k ∧ k < w'.heap.size, ⟨_, bV3.set _, by rw [List.length_append, List.length_singleton, Hq.out, Hs.out]; exact hst.keep hus (fun k hk e => by
          rcases hk with h9 | h9
          · have := hD1 _ h9; omega
          · omega), hgU.setCell (p := ⟨w.heap.size + 1, 0, none⟩) (.inr rfl) _⟩,
        hbU.setCell (p := ⟨w.heap.size + 1, 0, none⟩) (.inr (.inl rfl)) _, fun k hk => hk.elim .inl (fun h => .inr ⟨h.1, by simpa [World.setCell] using h.2⟩)⟩
  case done =>
    rintro d D1 W hd ⟨v, bV1, hO, hU⟩ hD1 hKd
    have hcV := bV1.cell
    rw [List.length_range] at hO
    gi_wp2
    refine leaves_marks [d] _ ⟨by simp, fun b hb => ?_⟩ (fun W' hu' => ?_)
    · rw [List.mem_singleton.1 hb]
      exact hKd
    · have hO' := hO.keep hu' (fun k hk e => by simp at e; have := hD1 k hk; omega)
      obtain ⟨A', c', rfl, hI⟩ := ints_of_own hO'.2
      exact ⟨_, by simp [results, Tryd.f27, go_sem], A', _, c', rfl, hI,
        (((hu0.mono fun _ _ e => e.elim).trans' hU (fun i hi e => by omega)).trans' hu' (fun i hi e => by simp at e; omega)).toBelow (R := fun _ => False) (fun _ e => e.elim) (Nat.le_refl _)⟩
  case stop =>
    rintro d D1 co pre W hd hpre h
    exact h.elim

theorem idealsR_le (zs : List Int) : (idealsR zs).length ≤ 1048576 := by
  unfold idealsR
  cases hv : vo zs
  · simp
  · have hvo : VoP zs := by simpa [vo] using hv
    have h1 : (2 : Nat) ^ zs.length ≤ 2 ^ 6 := Nat.pow_le_pow_right (by decide) hvo.1
    have h2 := setsTo_len (idB zs) (2 ^ zs.length)
    simp only [if_true]
    omega
end Go.Proofs.YtcadmjpkgnbodaaDoor

/- Numberings of items: item by item (the model), and number by number over the ideals (the program): as many. No program. -/
namespace Go.Proofs.YtcadmjpkgnbodaaDoor

def cmpB (st : Bool) (x y : Int) : Bool := if st then decide (x < y) else decide (x ≤ y)
theorem cmpB_le {st : Bool} {x y : Int} (h : cmpB st x y = true) : x ≤ y := by cases st <;> simp [cmpB] at h <;> omega
theorem cmpB_lt (st : Bool) {x y : Int} (h : x < y) : cmpB st x y = true := by cases st <;> simp [cmpB] <;> omega
abbrev atG (g : List Int) (a : Nat) : Int := g[a]?.getD 0
/-- The pair of items is numbered as it may. -/
def twB (st : Bool) (zs g : List Int) (a : Nat) (x : Int) (b : Nat) : Bool := (!upw zs b a || cmpB st (atG g b) x) && (!upw zs a b || cmpB st x (atG g b))
def fineB (st : Bool) (zs g : List Int) (x : Int) : Bool := (List.range g.length).all (twB st zs g g.length x)
/-- In how many ways the items that are left are numbered. -/
def mN (st : Bool) (zs : List Int) (k : Nat) : Nat → List Int → Nat
  | 0, _ => 1
  | f + 1, g => ((List.range k).map fun x : Nat => if fineB st zs g ((x : Int) + 1) then mN st zs k f (g ++ [(x : Int) + 1]) else 0).sum
def mL (st : Bool) (zs : List Int) (k : Nat) : Nat → List Int → List (List Int)
  | 0, g => [g]
  | f + 1, g => (List.range k).flatMap fun x : Nat => if fineB st zs g ((x : Int) + 1) then mL st zs k f (g ++ [(x : Int) + 1]) else []
theorem mL_len (st : Bool) (zs : List Int) (k : Nat) : ∀ (f : Nat) (g : List Int), (mL st zs k f g).length = mN st zs k f g
  | 0, _ => rfl
  | f + 1, g => by
    rw [mL, mN, List.length_flatMap]
    congr 1
    refine List.map_congr_left fun x _ => ?_
    split
    · exact mL_len st zs k f _
    · rfl
/-- A numbering from item m on is as it may be. -/
def OkN (st : Bool) (zs : List Int) (k m : Nat) (l : List Int) : Prop := ∀ a, m ≤ a → a < l.length → 1 ≤ atG l a ∧ atG l a ≤ k ∧ ∀ b, b < a → twB st zs l a (atG l a) b = true
theorem atG_app {g : List Int} {a : Nat} (h : List Int) (ha : a < g.length) : atG (g ++ h) a = atG g a := by unfold atG; rw [List.getElem?_append_left ha]
theorem atG_new (g : List Int) (x : Int) : atG (g ++ [x]) g.length = x := by simp [atG]
theorem mem_mL {st : Bool} {zs : List Int} {k : Nat} : ∀ (f : Nat) (g l : List Int), l ∈ mL st zs k f g ↔ l.length = g.length + f ∧ (∀ a, a < g.length → atG l a = atG g a) ∧ OkN st zs k g.length l
  | 0, g, l => by
    rw [mL, List.mem_singleton]
    constructor
    · rintro rfl
      exact ⟨rfl, fun a _ => rfl, fun a h1 h2 => by omega⟩
    · rintro ⟨h1, h2, -⟩
      apply List.ext_getElem h1
      intro i j1 j2
      have := h2 i j2
      simpa [atG, j1, j2] using this
  | f + 1, g, l => by
    rw [mL, List.mem_flatMap]
    constructor
    · rintro ⟨x, hx, hl⟩
      rw [List.mem_range] at hx
      cases hf : fineB st zs g ((x : Int) + 1)
      · rw [hf] at hl; simp at hl
      · rw [hf, if_pos rfl, mem_mL f] at hl
        obtain ⟨h1, h2, h3⟩ := hl
        rw [List.length_append, List.length_singleton] at h1 h2 h3
        have hg : ∀ a, a < g.length → atG l a = atG g a := fun a ha => by rw [h2 a (by omega), atG_app _ ha]
        refine ⟨by omega, hg, fun a h4 h5 => ?_⟩
        rcases Nat.lt_or_ge g.length a with h6 | h6
        · exact h3 a (by omega) h5
        · obtain rfl : a = g.length := by omega
          have e := h2 g.length (by omega)
          rw [atG_new] at e
          rw [e]
          refine ⟨by omega, by omega, fun b hb => ?_⟩
          have := List.all_eq_true.1 hf b (List.mem_range.2 hb)
          unfold twB at *
          rw [hg b hb]
          exact this
    · rintro ⟨h1, h2, h3⟩
      obtain ⟨h4, h5, h6⟩ := h3 g.length (Nat.le_refl _) (by omega)
      obtain ⟨x, hx⟩ : ∃ x : Nat, atG l g.length = (x : Int) + 1 := ⟨(atG l g.length - 1).toNat, by omega⟩
      rw [hx] at h5 h6
      have hf : fineB st zs g ((x : Int) + 1) = true := List.all_eq_true.2 fun b hb => by
        have hb := List.mem_range.1 hb
        have := h6 b hb
        unfold twB at *
        rw [h2 b hb] at this
        exact this
      refine ⟨x, List.mem_range.2 (by omega), ?_⟩
      rw [hf, if_pos rfl, mem_mL f, List.length_append, List.length_singleton]
      refine ⟨by omega, fun a ha => ?_, fun a h7 h8 => h3 a (by omega) h8⟩
      rcases Nat.lt_or_ge a g.length with h9 | h9
      · rw [atG_app _ h9]; exact h2 a h9
      · obtain rfl : a = g.length := by omega
        rw [atG_new]; exact hx
theorem mL_nodup (st : Bool) (zs : List Int) (k : Nat) : ∀ (f : Nat) (g : List Int), (mL st zs k f g).Nodup
  | 0, g => by simp [mL]
  | f + 1, g => by
    rw [mL]
    unfold List.Nodup
    rw [List.pairwise_flatMap]
    constructor
    · intro x _
      split
      · exact mL_nodup st zs k f _
      · exact List.Pairwise.nil
    · refine List.Pairwise.imp ?_ (List.nodup_range (n := k))
      intro x y hxy l1 h1 l2 h2 e
      subst e
      split at h1
      · split at h2
        · have e1 := ((mem_mL f _ _).1 h1).2.1 g.length (by simp)
          have e2 := ((mem_mL f _ _).1 h2).2.1 g.length (by simp)
          rw [atG_new] at e1 e2
          omega
        · simp at h2
      · simp at h1

/-! Number by number. -/
def idl (zs : List Int) : List Nat := (List.range (2 ^ zs.length)).filter fun j => idB zs (j : Int)
theorem mem_idl {zs : List Int} {t : Nat} : t ∈ idl zs ↔ t < 2 ^ zs.length ∧ idB zs (t : Int) = true := by simp [idl]
def inB' (ms : Int → Bool) (s t : Nat) : Bool := lessI (t : Int) (s : Int) == 0 && ms (lessI (s : Int) (t : Int))
def pN (ms : Int → Bool) (zs : List Int) : Nat → Nat → Nat
  | 0, s => if s = 0 then 1 else 0
  | k + 1, s => ((idl zs).map fun t => if inB' ms s t then pN ms zs k t else 0).sum
def rai (n : Nat) (s t k : Nat) (g : List Int) : List Int := (List.range n).map fun x => if s.testBit x && !t.testBit x then (k : Int) + 1 else atG g x
def pL (ms : Int → Bool) (zs : List Int) : Nat → Nat → List (List Int)
  | 0, s => if s = 0 then [List.replicate zs.length 0] else []
  | k + 1, s => (idl zs).flatMap fun t => if inB' ms s t then (pL ms zs k t).map (rai zs.length s t k) else []
theorem pL_len (ms : Int → Bool) (zs : List Int) : ∀ (k s : Nat), (pL ms zs k s).length = pN ms zs k s
  | 0, s => by rw [pL, pN]; split <;> rfl
  | k + 1, s => by
    rw [pL, pN, List.length_flatMap]
    congr 1
    refine List.map_congr_left fun t _ => ?_
    split
    · rw [List.length_map]; exact pL_len ms zs k t
    · rfl
theorem rai_at {n s t k x : Nat} (g : List Int) (hx : x < n) : atG (rai n s t k g) x = if s.testBit x && !t.testBit x then (k : Int) + 1 else atG g x := by
  simp [rai, atG, hx]
theorem rai_len (n s t k : Nat) (g : List Int) : (rai n s t k g).length = n := by simp [rai]
/-- The items of s are numbered up to k. -/
def GdN (st : Bool) (zs : List Int) (k s : Nat) (g : List Int) : Prop :=
  g.length = zs.length ∧ (∀ x, x < zs.length → s.testBit x = false → atG g x = 0) ∧ (∀ x, x < zs.length → s.testBit x = true → 1 ≤ atG g x ∧ atG g x ≤ k) ∧ ∀ x y, s.testBit x = true → s.testBit y = true → upw zs x y = true → cmpB st (atG g x) (atG g y) = true
theorem in_iff {s t : Nat} : (lessI (t : Int) (s : Int) == 0) = true ↔ ∀ j, t.testBit j = true → s.testBit j = true := by
  rw [beq_iff_eq, lessI_none]
  simp only [bit_cast]
theorem idN_iff {zs : List Int} (h : VoP zs) {t : Nat} (ht : t < 2 ^ zs.length) : idB zs (t : Int) = true ↔ ∀ a b : Nat, t.testBit b = true → upw zs a b = true → t.testBit a = true := by
  rw [idB_iff h.sets (by omega) (by rw [pow_cast]; omega)]
  simp only [bit_cast]
  rfl
theorem less_bit (s t j : Nat) : bitB (lessI (s : Int) (t : Int)) (j : Int) = (s.testBit j && !t.testBit j) := by rw [bitB_less, bit_cast, bit_cast]
theorem less_64 {s t : Nat} (hs : s < 64) : lessI (s : Int) (t : Int) < 64 := by have := lessI_bd (s : Int) (t : Int); omega
/-- What may have one number. -/
def msOf (st : Bool) (zs : List Int) (r : Int) : Bool := if st then apB zs r else true
theorem ms_ok {st : Bool} {zs : List Int} {s t : Nat} (hs : s < 64) (h : st = true → ∀ a b : Nat, s.testBit a = true → t.testBit a = false → s.testBit b = true → t.testBit b = false → upw zs a b = false) : msOf st zs (lessI (s : Int) (t : Int)) = true := by
  unfold msOf
  cases st
  · rfl
  · simp only [if_true]
    rw [apB_iff (less_64 hs)]
    intro a b ha hb
    rw [less_bit, Bool.and_eq_true, Bool.not_eq_true'] at ha hb
    exact h rfl a b ha.1 ha.2 hb.1 hb.2
theorem ms_no {zs : List Int} {s t : Nat} (hs : s < 64) (h : msOf true zs (lessI (s : Int) (t : Int)) = true) {a b : Nat} (a1 : s.testBit a = true) (a2 : t.testBit a = false) (b1 : s.testBit b = true) (b2 : t.testBit b = false) : upw zs a b = false := by
  unfold msOf at h
  simp only [if_true] at h
  exact (apB_iff (less_64 hs)).1 h a b (by rw [less_bit, a1, a2]; rfl) (by rw [less_bit, b1, b2]; rfl)
theorem mem_pL {st : Bool} {zs : List Int} (h : VoP zs) : ∀ (k s : Nat), s < 2 ^ zs.length → idB zs (s : Int) = true → ∀ g : List Int, g ∈ pL (msOf st zs) zs k s ↔ GdN st zs k s g
  | 0, s, hs, hi, g => by
    rw [pL]
    have hz : ∀ j, (0 : Nat).testBit j = false := fun j => Nat.zero_testBit j
    by_cases h0 : s = 0
    · subst h0
      rw [if_pos rfl, List.mem_singleton]
      constructor
      · rintro rfl
        refine ⟨by simp, fun x hx _ => by simp [atG, hx], fun x _ hb => by rw [hz] at hb; simp at hb, fun x y hb => by rw [hz] at hb; simp at hb⟩
      · rintro ⟨h1, h2, -, -⟩
        apply List.ext_getElem
        · simp [h1]
        · intro i j1 j2
          have := h2 i (by omega) (hz i)
          simpa [atG, j1] using this
    · rw [if_neg h0]
      constructor
      · intro hm; simp at hm
      · rintro ⟨-, -, h3, -⟩
        exfalso
        have : ∃ j, s.testBit j = true := by
          apply Classical.byContradiction
          intro hno
          refine h0 (Nat.eq_of_testBit_eq fun j => ?_)
          rw [hz]
          cases e : s.testBit j
          · rfl
          · exact absurd ⟨j, e⟩ hno
        obtain ⟨j, hj⟩ := this
        have hjn : j < zs.length := bit_lt hs hj
        have := h3 j hjn hj
        omega
  | k + 1, s, hs, hi, g => by
    have h64 : (2 : Nat) ^ zs.length ≤ 64 := Nat.pow_le_pow_right (n := 2) (by decide) h.1
    rw [pL, List.mem_flatMap]
    have hiS := (idN_iff h hs).1 hi
    constructor
    · rintro ⟨t, ht, hg⟩
      obtain ⟨t1, t2⟩ := mem_idl.1 ht
      cases hin : inB' (msOf st zs) s t
      · rw [hin] at hg; simp at hg
      · rw [hin, if_pos rfl, List.mem_map] at hg
        obtain ⟨g', hg', rfl⟩ := hg
        obtain ⟨q1, q2, q3, q4⟩ := (mem_pL h k t t1 t2 g').1 hg'
        unfold inB' at hin
        rw [Bool.and_eq_true, in_iff] at hin
        obtain ⟨hsub, hms⟩ := hin
        have hiT := (idN_iff h t1).1 t2
        have hval : ∀ x, x < zs.length → s.testBit x = true → t.testBit x = false → atG (rai zs.length s t k g') x = (k : Int) + 1 := fun x hx h1 h2 => by rw [rai_at _ hx, h1, h2]; rfl
        have hold : ∀ x, x < zs.length → t.testBit x = true → atG (rai zs.length s t k g') x = atG g' x := fun x hx h2 => by rw [rai_at _ hx, h2]; simp
        refine ⟨rai_len _ _ _ _ _, fun x hx hb => ?_, fun x hx hb => ?_, fun x y hx hy hxy => ?_⟩
        · have htx : t.testBit x = false := by
            cases e : t.testBit x
            · rfl
            · rw [hsub x e] at hb; simp at hb
          rw [rai_at _ hx, hb]
          simp only [Bool.false_and, Bool.false_eq_true, if_false]
          exact q2 x hx htx
        · cases htx : t.testBit x
          · rw [hval x hx hb htx]; omega
          · rw [hold x hx htx]
            have := q3 x hx htx
            omega
        · have hxn : x < zs.length := bit_lt hs hx
          have hyn : y < zs.length := bit_lt hs hy
          cases hty : t.testBit y
          · rw [hval y hyn hy hty]
            cases htx : t.testBit x
            · rw [hval x hxn hx htx]
              cases st
              · simp [cmpB]
              · have := ms_no (by omega) hms hx htx hy hty
                rw [hxy] at this; simp at this
            · rw [hold x hxn htx]
              have := q3 x hxn htx
              exact cmpB_lt st (by omega)
          · have htx := hiT x y hty hxy
            rw [hold x hxn htx, hold y hyn hty]
            exact q4 x y htx hty hxy
    · rintro ⟨q1, q2, q3, q4⟩
      have hb : ∀ j, (mkN (fun x => s.testBit x && decide (atG g x ≤ k)) zs.length).testBit j = true ↔ s.testBit j = true ∧ atG g j ≤ k := fun j => by
        rw [mkN_bit]
        simp only [Bool.and_eq_true, decide_eq_true_iff]
        exact ⟨fun e => e.2, fun e => ⟨bit_lt hs e.1, e⟩⟩
      obtain ⟨t, ht⟩ : ∃ t, mkN (fun x => s.testBit x && decide (atG g x ≤ k)) zs.length = t := ⟨_, rfl⟩
      rw [ht] at hb
      have t1 : t < 2 ^ zs.length := Nat.lt_pow_two_of_testBit _ fun j hj => by
        cases e : t.testBit j
        · rfl
        · have := bit_lt hs ((hb j).1 e).1; omega
      have hsub : ∀ j, t.testBit j = true → s.testBit j = true := fun j e => ((hb j).1 e).1
      have hnot : ∀ j, s.testBit j = true → t.testBit j = false → atG g j = (k : Int) + 1 := fun j e1 e2 => by
        have h1 := (q3 j (bit_lt hs e1) e1).2
        have h2 : ¬ atG g j ≤ k := fun e3 => by rw [(hb j).2 ⟨e1, e3⟩] at e2; simp at e2
        omega
      have t2 : idB zs (t : Int) = true := (idN_iff h t1).2 fun a b e1 e2 => by
        obtain ⟨e3, e4⟩ := (hb b).1 e1
        have e5 := hiS a b e3 e2
        exact (hb a).2 ⟨e5, by have := cmpB_le (q4 a b e5 e3 e2); omega⟩
      refine ⟨t, mem_idl.2 ⟨t1, t2⟩, ?_⟩
      have hin : inB' (msOf st zs) s t = true := by
        unfold inB'
        rw [Bool.and_eq_true, in_iff]
        refine ⟨hsub, ms_ok (by omega) fun hst a b a1 a2 b1 b2 => ?_⟩
        subst hst
        cases e : upw zs a b
        · rfl
        · have := q4 a b a1 b1 e
          rw [hnot a a1 a2, hnot b b1 b2] at this
          simp [cmpB] at this
      rw [hin, if_pos rfl, List.mem_map]
      have hgat : ∀ x, x < zs.length → atG ((List.range zs.length).map fun x => if t.testBit x then atG g x else 0) x = if t.testBit x then atG g x else 0 := fun x hx => by simp [atG, hx]
      refine ⟨(List.range zs.length).map fun x => if t.testBit x then atG g x else 0, (mem_pL h k t t1 t2 _).2 ⟨by simp, fun x hx e => ?_, fun x hx e => ?_, fun x y hx hy hxy => ?_⟩, ?_⟩
      · rw [hgat x hx, e]; rfl
      · rw [hgat x hx, e, if_pos rfl]
        exact ⟨(q3 x hx (hsub x e)).1, ((hb x).1 e).2⟩
      · rw [hgat x (bit_lt t1 hx), hgat y (bit_lt t1 hy), hx, hy, if_pos rfl, if_pos rfl]
        exact q4 x y (hsub x hx) (hsub y hy) hxy
      · apply List.ext_getElem
        · rw [rai_len, q1]
        · intro i j1 j2
          have hin' : i < zs.length := by rw [rai_len] at j1; exact j1
          have e := rai_at (s := s) (t := t) (k := k) ((List.range zs.length).map fun x => if t.testBit x then atG g x else 0) hin'
          rw [hgat i hin'] at e
          have e' : atG (rai zs.length s t k ((List.range zs.length).map fun x => if t.testBit x then atG g x else 0)) i = atG g i := by
            rw [e]
            cases h1 : s.testBit i
            · have h2 : t.testBit i = false := by
                cases e2 : t.testBit i
                · rfl
                · rw [hsub i e2] at h1; simp at h1
              rw [h2]
              simp only [Bool.false_and, Bool.false_eq_true, if_false]
              exact (q2 i hin' h1).symm
            · cases h2 : t.testBit i
              · simp only [Bool.not_false, Bool.and_self, if_true]
                exact (hnot i h1 h2).symm
              · simp
          simpa [atG, j1, j2] using e'
theorem pL_nodup {st : Bool} {zs : List Int} (h : VoP zs) : ∀ (k s : Nat), s < 2 ^ zs.length → idB zs (s : Int) = true → (pL (msOf st zs) zs k s).Nodup
  | 0, s, _, _ => by rw [pL]; split <;> simp
  | k + 1, s, hs, hi => by
    rw [pL]
    unfold List.Nodup
    rw [List.pairwise_flatMap]
    constructor
    · intro t ht
      obtain ⟨t1, t2⟩ := mem_idl.1 ht
      split
      · rw [List.pairwise_map]
        refine (pL_nodup h k t t1 t2).imp_of_mem fun {g1 g2} m1 m2 hne e => hne ?_
        obtain ⟨p1, p2, -, -⟩ := (mem_pL h k t t1 t2 g1).1 m1
        obtain ⟨q1, q2, -, -⟩ := (mem_pL h k t t1 t2 g2).1 m2
        apply List.ext_getElem (by omega)
        intro i j1 j2
        have hx : i < zs.length := by omega
        have e' : atG (rai zs.length s t k g1) i = atG (rai zs.length s t k g2) i := by rw [e]
        rw [rai_at _ hx, rai_at _ hx] at e'
        have : atG g1 i = atG g2 i := by
          cases hb : t.testBit i
          · rw [p2 i hx hb, q2 i hx hb]
          · rw [hb] at e'; simpa using e'
        simpa [atG, j1, j2] using this
      · exact List.Pairwise.nil
    · refine List.Pairwise.imp_of_mem ?_ (show (idl zs).Nodup from List.Pairwise.filter _ (List.nodup_range (n := 2 ^ zs.length)))
      intro t u ht hu htu g1 h1 g2 h2 e
      subst e
      obtain ⟨t1, t2⟩ := mem_idl.1 ht
      obtain ⟨u1, u2⟩ := mem_idl.1 hu
      split at h1
      · rename_i i1
        split at h2
        · rename_i i2
          unfold inB' at i1 i2
          rw [Bool.and_eq_true, in_iff] at i1 i2
          obtain ⟨a, ha, ea⟩ := List.mem_map.1 h1
          obtain ⟨b, hb, eb⟩ := List.mem_map.1 h2
          obtain ⟨-, -, a3, -⟩ := (mem_pL h k t t1 t2 a).1 ha
          obtain ⟨-, -, b3, -⟩ := (mem_pL h k u u1 u2 b).1 hb
          refine htu (Nat.eq_of_testBit_eq fun j => ?_)
          have key : ∀ {p q : Nat} {gp gq : List Int}, p < 2 ^ zs.length → (∀ j, p.testBit j = true → s.testBit j = true) → (∀ x, x < zs.length → p.testBit x = true → 1 ≤ atG gp x ∧ atG gp x ≤ k) → rai zs.length s p k gp = g1 → rai zs.length s q k gq = g1 → p.testBit j = true → q.testBit j = true := fun {p q gp gq} hp hsub h3 e1 e2 hj => by
            have hjn : j < zs.length := bit_lt hp hj
            have v1 : atG g1 j = atG gp j := by rw [← e1, rai_at _ hjn, hj]; simp
            cases hq : q.testBit j
            · have v2 : atG g1 j = (k : Int) + 1 := by rw [← e2, rai_at _ hjn, hq, hsub j hj]; rfl
              have := h3 j hjn hj
              omega
            · rfl
          rw [Bool.eq_iff_iff]
          exact ⟨key t1 i1.1 a3 ea eb, key u1 i2.1 b3 eb ea⟩
        · simp at h2
      · simp at h1
/-- Both counts are one. -/
theorem num_both {st : Bool} {zs : List Int} (h : VoP zs) (k : Nat) : mN st zs k zs.length [] = pN (msOf st zs) zs k (2 ^ zs.length - 1) := by
  have hp : 0 < (2 : Nat) ^ zs.length := Nat.pow_pos (by decide)
  have hall : ∀ j, (2 ^ zs.length - 1 : Nat).testBit j = decide (j < zs.length) := fun j => by rw [Nat.testBit_two_pow_sub_one]
  have hlt : 2 ^ zs.length - 1 < 2 ^ zs.length := by omega
  have hid : idB zs ((2 ^ zs.length - 1 : Nat) : Int) = true := (idN_iff h hlt).2 fun a b _ hab => by
    rw [hall]
    exact decide_eq_true (upw_lt.1 hab).1
  rw [← mL_len, ← pL_len]
  have hsame : ∀ g, g ∈ mL st zs k zs.length [] ↔ g ∈ pL (msOf st zs) zs k (2 ^ zs.length - 1) := fun g => by
    rw [mem_mL, mem_pL h k _ hlt hid]
    simp only [List.length_nil, Nat.zero_add]
    constructor
    · rintro ⟨h1, -, h3⟩
      refine ⟨h1, fun x hx hb => ?_, fun x hx _ => ?_, fun x y hx hy hxy => ?_⟩
      · rw [hall, decide_eq_false_iff_not] at hb; omega
      · have := h3 x (by omega) (by omega)
        exact ⟨this.1, this.2.1⟩
      · rw [hall, decide_eq_true_iff] at hx hy
        have hne : x ≠ y := fun e => by subst e; exact h.irr (upw_lt.1 hxy)
        rcases Nat.lt_or_gt_of_ne hne with hlt | hlt
        · have := (h3 y (by omega) (by omega)).2.2 x hlt
          unfold twB at this
          rw [hxy] at this
          simp only [Bool.not_true, Bool.false_or, Bool.and_eq_true] at this
          exact this.1
        · have := (h3 x (by omega) (by omega)).2.2 y hlt
          unfold twB at this
          rw [hxy] at this
          simp only [Bool.not_true, Bool.false_or, Bool.and_eq_true] at this
          exact this.2
    · rintro ⟨h1, -, h3, h4⟩
      refine ⟨h1, fun a ha => by omega, fun a _ ha => ?_⟩
      have hb : ∀ x, x < zs.length → (2 ^ zs.length - 1 : Nat).testBit x = true := fun x hx => by rw [hall]; exact decide_eq_true hx
      have := h3 a (by omega) (hb a (by omega))
      refine ⟨this.1, this.2, fun b hba => ?_⟩
      unfold twB
      rw [Bool.and_eq_true]
      constructor
      · cases e : upw zs b a
        · rfl
        · simpa using h4 b a (hb b (by omega)) (hb a (by omega)) e
      · cases e : upw zs a b
        · rfl
        · simpa using h4 a b (hb a (by omega)) (hb b (by omega)) e
  have l1 := inj_len (fun g : List Int => g) _ _ (mL_nodup st zs k zs.length []) (fun g hg => (hsame g).1 hg) (fun _ _ _ _ e => e)
  have l2 := inj_len (fun g : List Int => g) _ _ (pL_nodup (st := st) h k _ hlt hid) (fun g hg => (hsame g).2 hg) (fun _ _ _ _ e => e)
  omega
end Go.Proofs.YtcadmjpkgnbodaaDoor

/- Numberings: what the own laws of LineSums and FallsBelow ask of them (mathematics). -/
namespace Go.Proofs.YtcadmjpkgnbodaaDoor

/-- What is counted: all the items numbered up to k, as it may be. -/
def nuL (st : Bool) (zs : List Int) (k : Nat) : List (List Int) := mL st zs k zs.length []
def nuN (st : Bool) (zs : List Int) (k : Nat) : Nat := mN st zs k zs.length []
theorem nuL_len (st : Bool) (zs : List Int) (k : Nat) : (nuL st zs k).length = nuN st zs k := mL_len st zs k _ _
theorem nuL_nodup (st : Bool) (zs : List Int) (k : Nat) : (nuL st zs k).Nodup := mL_nodup st zs k _ _
theorem mem_nuL {st : Bool} {zs : List Int} (h : VoP zs) {k : Nat} {g : List Int} : g ∈ nuL st zs k ↔ g.length = zs.length ∧ (∀ a, a < zs.length → 1 ≤ atG g a ∧ atG g a ≤ k) ∧ ∀ a b, lt zs a b → cmpB st (atG g a) (atG g b) = true := by
  unfold nuL
  rw [mem_mL]
  simp only [List.length_nil, Nat.zero_add]
  constructor
  · rintro ⟨h1, -, h3⟩
    refine ⟨h1, fun a ha => ⟨(h3 a (by omega) (by omega)).1, (h3 a (by omega) (by omega)).2.1⟩, fun x y hl => ?_⟩
    have hx := hl.1
    have hy := h.lt_n hl
    have hu := upw_lt.2 hl
    have hne : x ≠ y := fun e => by subst e; exact h.irr hl
    rcases Nat.lt_or_gt_of_ne hne with hlt | hlt
    · have := (h3 y (by omega) (by omega)).2.2 x hlt
      unfold twB at this
      rw [hu] at this
      simp only [Bool.not_true, Bool.false_or, Bool.and_eq_true] at this
      exact this.1
    · have := (h3 x (by omega) (by omega)).2.2 y hlt
      unfold twB at this
      rw [hu] at this
      simp only [Bool.not_true, Bool.false_or, Bool.and_eq_true] at this
      exact this.2
  · rintro ⟨h1, h2, h3⟩
    refine ⟨h1, fun a ha => by omega, fun a _ ha => ⟨(h2 a (by omega)).1, (h2 a (by omega)).2, fun b hba => ?_⟩⟩
    unfold twB
    rw [Bool.and_eq_true]
    constructor
    · cases e : upw zs b a
      · rfl
      · simpa using h3 b a (upw_lt.1 e)
    · cases e : upw zs a b
      · rfl
      · simpa using h3 a b (upw_lt.1 e)
/-- Numbers turned round. -/
def flipG (k : Nat) (g : List Int) : List Int := g.map fun x => (k : Int) + 1 - x
theorem flip_at {k : Nat} {g : List Int} {a : Nat} (ha : a < g.length) : atG (flipG k g) a = (k : Int) + 1 - atG g a := by
  unfold flipG atG
  rw [List.getElem?_map, List.getElem?_eq_getElem ha]; rfl
theorem map_inj' {f : Int → Int} (hf : ∀ x y, f x = f y → x = y) : ∀ l m : List Int, l.map f = m.map f → l = m
  | [], [], _ => rfl
  | [], _ :: _, h => by simp at h
  | _ :: _, [], h => by simp at h
  | x :: l, y :: m, h => by
    rw [List.map_cons, List.map_cons, List.cons.injEq] at h
    rw [hf x y h.1, map_inj' hf l m h.2]
theorem cmp_flip (st : Bool) (c x y : Int) : cmpB st (c - y) (c - x) = cmpB st x y := by
  unfold cmpB
  cases st
  · simp only [Bool.false_eq_true, if_false]; rw [Bool.eq_iff_iff, decide_eq_true_iff, decide_eq_true_iff]; omega
  · simp only [if_true]; rw [Bool.eq_iff_iff, decide_eq_true_iff, decide_eq_true_iff]; omega
theorem nuN_le {st : Bool} {zs : List Int} (h : VoP zs) (k : Nat) : nuN st zs k ≤ nuN st (du zs) k := by
  rw [← nuL_len, ← nuL_len]
  refine inj_len (flipG k) _ _ (nuL_nodup _ _ _) (fun g hg => ?_) (fun g1 h1 g2 h2 e => ?_)
  · obtain ⟨h1, h2, h3⟩ := (mem_nuL h).1 hg
    refine (mem_nuL (du_vo h)).2 ⟨by unfold flipG; rw [List.length_map, h1, du_len], fun a ha => ?_, fun a b hl => ?_⟩
    · rw [du_len] at ha
      rw [flip_at (by omega)]
      have := h2 a ha
      omega
    · have hl' := (du_lt h b a).1 hl
      have hb := hl'.1
      have ha := h.lt_n hl'
      rw [flip_at (by omega), flip_at (by omega), cmp_flip]
      exact h3 b a hl'
  · unfold flipG at e
    exact map_inj' (fun x y hxy => by omega) _ _ e
/-- The order turned round is numbered in as many ways. -/
theorem nuN_du {st : Bool} {zs : List Int} (h : VoP zs) (k : Nat) : nuN st (du zs) k = nuN st zs k := by
  have h1 := nuN_le (st := st) h k
  have h2 := nuN_le (st := st) (du_vo h) k
  rw [du_du h] at h2
  omega
/-- More numbers, more ways. -/
theorem nuN_more {st : Bool} {zs : List Int} (h : VoP zs) {k k' : Nat} (hk : k ≤ k') : nuN st zs k ≤ nuN st zs k' := by
  rw [← nuL_len, ← nuL_len]
  refine inj_len (fun g => g) _ _ (nuL_nodup _ _ _) (fun g hg => ?_) (fun _ _ _ _ e => e)
  obtain ⟨h1, h2, h3⟩ := (mem_nuL h).1 hg
  exact (mem_nuL h).2 ⟨h1, fun a ha => ⟨(h2 a ha).1, by have := (h2 a ha).2; omega⟩, h3⟩
/-- Growing upward is fewer ways. -/
theorem nuN_strict {zs : List Int} (h : VoP zs) (k : Nat) : nuN true zs k ≤ nuN false zs k := by
  rw [← nuL_len, ← nuL_len]
  refine inj_len (fun g => g) _ _ (nuL_nodup _ _ _) (fun g hg => ?_) (fun _ _ _ _ e => e)
  obtain ⟨h1, h2, h3⟩ := (mem_nuL h).1 hg
  refine (mem_nuL h).2 ⟨h1, h2, fun a b hl => ?_⟩
  have := h3 a b hl
  simp [cmpB] at this ⊢
  omega
/-- There is a way just if there are as many numbers as the longest chain has items. -/
theorem nuN_none {zs : List Int} (h : VoP zs) (k : Nat) : nuN true zs k = 0 ↔ (k : Int) < longI zs := by
  rw [← nuL_len]
  constructor
  · intro h0
    have hnil := List.eq_nil_of_length_eq_zero h0
    rcases Int.lt_or_le (k : Int) (longI zs) with hk | hk
    · exact hk
    · exfalso
      have : ((List.range zs.length).map fun a => hgt zs a + 1) ∈ nuL true zs k := by
        have hat : ∀ a, a < zs.length → atG ((List.range zs.length).map fun a => hgt zs a + 1) a = hgt zs a + 1 := fun a ha => by simp [atG, ha]
        refine (mem_nuL h).2 ⟨by simp, fun a ha => ?_, fun a b hl => ?_⟩
        · rw [hat a ha]
          have h1 := hgt_nn zs a
          have h2 := longI_gt ha
          omega
        · rw [hat a hl.1, hat b (h.lt_n hl)]
          have := hgt_up h hl
          simp [cmpB]; omega
      rw [hnil] at this
      simp at this
  · intro hk
    refine Nat.eq_zero_of_not_pos fun hpos => ?_
    obtain ⟨g, hg⟩ := List.exists_mem_of_length_pos hpos
    obtain ⟨h1, h2, h3⟩ := (mem_nuL h).1 hg
    have hup : ∀ (m b : Nat), rank zs b ≤ m → b < zs.length → hgt zs b + 1 ≤ atG g b := fun m => by
      induction m with
      | zero =>
        intro b hr hb
        rcases hgt_eq h hb with e | ⟨a, hl, e⟩
        · rw [e]; have := (h2 b hb).1; omega
        · have := rank_lt h hl; omega
      | succ m ih =>
        intro b hr hb
        rcases hgt_eq h hb with e | ⟨a, hl, e⟩
        · rw [e]; have := (h2 b hb).1; omega
        · have h4 := ih a (by have := rank_lt h hl; omega) hl.1
          have h5 := h3 a b hl
          simp [cmpB] at h5
          omega
    unfold longI at hk
    rcases maxL_eq (hgt zs) (List.range zs.length) with e | ⟨a, ha, e⟩
    · rw [e] at hk; omega
    · have ha' := List.mem_range.1 ha
      have h4 := hup _ a (Nat.le_refl _) ha'
      have h5 := (h2 a ha').2
      rw [e] at hk
      omega
/-- One number has one way. -/
theorem nuN_one {zs : List Int} (h : VoP zs) : nuN false zs 1 = 1 := by
  rw [← nuL_len]
  have hone : ∀ g, g ∈ nuL false zs 1 ↔ g = List.replicate zs.length 1 := fun g => by
    rw [mem_nuL h]
    constructor
    · rintro ⟨h1, h2, -⟩
      apply List.ext_getElem
      · simp [h1]
      · intro i j1 j2
        have := h2 i (by omega)
        have e : atG g i = g[i] := by simp [atG, j1]
        rw [e] at this
        simp
        omega
    · rintro rfl
      have hat : ∀ a, a < zs.length → atG (List.replicate zs.length 1) a = 1 := fun a ha => by simp [atG, ha]
      refine ⟨by simp, fun a ha => by rw [hat a ha]; omega, fun a b hl => by rw [hat a hl.1, hat b (h.lt_n hl)]; simp [cmpB]⟩
  have l1 := inj_len (fun g : List Int => g) (nuL false zs 1) [List.replicate zs.length 1] (nuL_nodup _ _ _) (fun g hg => by rw [(hone g).1 hg]; simp) (fun _ _ _ _ e => e)
  have l2 := inj_len (fun g : List Int => g) [List.replicate zs.length 1] (nuL false zs 1) (by simp) (fun g hg => by rw [List.mem_singleton] at hg; exact (hone g).2 hg) (fun _ _ _ _ e => e)
  simp at l1 l2
  omega
theorem sum_ones {α : Type} (g : α → Nat) : ∀ l : List α, (∀ x ∈ l, g x = 1) → (l.map g).sum = l.length
  | [], _ => rfl
  | x :: l, h => by
    rw [List.map_cons, List.sum_cons, h x (by simp), sum_ones g l fun y hy => h y (by simp [hy]), List.length_cons]; omega
/-- Two numbers have as many ways as there are ideals. -/
theorem nuN_two {zs : List Int} (h : VoP zs) : nuN false zs 2 = ciN zs (2 ^ zs.length - 1) := by
  have h64 : (2 : Nat) ^ zs.length ≤ 64 := Nat.pow_le_pow_right (n := 2) (by decide) h.1
  have hp : 0 < (2 : Nat) ^ zs.length := Nat.pow_pos (by decide)
  have hms : ∀ r, msOf false zs r = true := fun r => rfl
  have hz : idB zs ((0 : Nat) : Int) = true := (idN_iff h hp).2 fun a b hb => by rw [Nat.zero_testBit] at hb; cases hb
  have h1 : ∀ t, t < 2 ^ zs.length → pN (msOf false zs) zs 1 t = 1 := fun t ht => by
    rw [pN]
    have hsplit : ∀ l : List Nat, l.Nodup → (0 : Nat) ∈ l → (l.map fun u => if inB' (msOf false zs) t u then pN (msOf false zs) zs 0 u else 0).sum = 1 := fun l => by
      induction l with
      | nil => intro _ h0; simp at h0
      | cons u l ih =>
        intro hn h0
        rw [List.map_cons, List.sum_cons]
        rw [List.nodup_cons] at hn
        by_cases hu : u = 0
        · subst hu
          have e1 : inB' (msOf false zs) t 0 = true := by
            unfold inB'
            rw [Bool.and_eq_true, in_iff]
            exact ⟨fun j hj => (by rw [Nat.zero_testBit] at hj; cases hj), rfl⟩
          have e2 : (l.map fun u => if inB' (msOf false zs) t u then pN (msOf false zs) zs 0 u else 0).sum = 0 := by
            have : ∀ v ∈ l, (if inB' (msOf false zs) t v then pN (msOf false zs) zs 0 v else 0) = 0 := fun v hv => by
              have : v ≠ 0 := fun e => hn.1 (e ▸ hv)
              simp [pN, this]
            rw [List.map_congr_left this]
            clear this ih hn h0
            induction l with
            | nil => rfl
            | cons v l ih => rw [List.map_cons, List.sum_cons, ih]
          rw [e1, e2]; simp [pN]
        · have h0' : (0 : Nat) ∈ l := (List.mem_cons.1 h0).resolve_left fun e => hu e.symm
          rw [ih hn.2 h0']
          simp [pN, hu]
    exact hsplit _ (List.Pairwise.filter _ (List.nodup_range (n := 2 ^ zs.length))) (mem_idl.2 ⟨hp, hz⟩)
  have hall : ∀ j, (2 ^ zs.length - 1 : Nat).testBit j = decide (j < zs.length) := fun j => by rw [Nat.testBit_two_pow_sub_one]
  have h2 : nuN false zs 2 = (idl zs).length := by
    unfold nuN
    rw [num_both h]
    rw [pN]
    refine sum_ones _ _ fun t ht => ?_
    obtain ⟨t1, -⟩ := mem_idl.1 ht
    have e1 : inB' (msOf false zs) (2 ^ zs.length - 1) t = true := by
      unfold inB'
      rw [Bool.and_eq_true, in_iff]
      exact ⟨fun j hj => by rw [hall]; exact decide_eq_true (bit_lt t1 hj), rfl⟩
    rw [e1, if_pos rfl]
    exact h1 t t1
  rw [h2, ← ideals_ci h]
  unfold idealsR idl setsTo
  rw [vo_true h, if_pos rfl, List.length_map]
end Go.Proofs.YtcadmjpkgnbodaaDoor

/- slices.Values over a list of sets: an iterator. -/
namespace Go.Proofs.YtcadmjpkgnbodaaDoor
open Go.RowKit Go.Shelf
attribute [local go_sem] Oper.semAt_some

theorem values_any (A : Option Addr) (n c : Nat) (w : World) :
    Calls Tryd.prog 43 #[.slice A n c] w fun e w' => e = .returned (.func (.func 52) #[] #[.pointer (some ⟨w.heap.size, 0, none⟩)]) ∧ w' = w.alloc (.cells #[.slice A n c] 32) := by
  go_enter Tryd.func43, Tryd.ntmps43
  go_wp2
  go_ret
  exact ⟨rfl, rfl⟩
theorem take_step {L : List Nat} {k : Nat} (hk : k < L.length) : L.take (k + 1) = L.take k ++ [L[k]?.getD 0] ∧ L.take k ++ [L[k]?.getD 0] <+: L := by
  have e : L.take (k + 1) = L.take k ++ [L[k]?.getD 0] := by rw [List.take_succ_eq_append_getElem hk, List.getElem?_eq_getElem hk]; rfl
  exact ⟨e, e ▸ List.take_prefix _ _⟩

set_option maxRecDepth 100000 in
set_option maxHeartbeats 2000000 in
theorem values_iter (A : Option Addr) (n c : Nat) (L : List Nat) (b : Nat) (M : Nat → Prop) (w : World) (hb : Boxed w b 32 (.slice A n c)) (hM : ¬ M b) (hI : Ints w w.heap.size A n (L.map fun x : Nat => (x : Int))) (hMA : ∀ a, A = some a → ¬ M a.block) (hn : n ≤ 64) :
    Iter Tryd.prog 52 #[.pointer (some ⟨b, 0, none⟩)] encS L M w := fun l J Jx hJ hJx hY h0 => by
  have Hlen := Lib.hid (show L.length = n by have := hI.len; simpa using this)
  have hc := hb.cell
  refine (callsIn_wide (n := 9)).1 ?_
  refine callsIn_of_wp Tryd.func52 rfl trivial ?_ rfl
  simp only [Tryd.ntmps52, List.size_toArray, List.length_cons, List.length_nil, Nat.reduceAdd, Nat.reduceSub, Array.replicate_succ, Array.replicate_zero, List.push_toArray, List.append_toArray, List.nil_append, List.cons_append]
  gi_wp2
  clear hc
  gi_loopw [7] (fun i wr => ∃ (k : Nat) (D : Nat → Prop), k ≤ n ∧ i = .int .i64 k ∧ J (L.take k) D wr ∧ (∀ j, D j → w.heap.size ≤ j) ∧ Upd M w wr) (fun i _ => n - (intOf i).toNat)
  case atStart => exact ⟨0, _, by omega, rfl, h0, fun _ e => e.elim, Upd.refl _ _⟩
  case round =>
    obtain ⟨k, D, hk, rfl, hj, hD, hU⟩ := hrel
    have hsz := hU.size
    by_cases hlt : k < n
    · obtain ⟨Hj, hpre⟩ := take_step (L := L) (k := k) (by rw [Hlen.out]; exact hlt)
      have HJ := Lib.hid Hj
      clear Hj
      obtain ⟨bl, off, rfl, hbl, hcs⟩ := hI.at_ hlt
      have hMb : ¬ M bl := hMA ⟨bl, off, none⟩ rfl
      have hck := hU.cell (hcs k hlt) hMb
      rw [show ((L.map fun x : Nat => (x : Int))[k]?.getD 0) = ((L[k]?.getD 0 : Nat) : Int) by rw [List.getElem?_map]; cases L[k]? <;> rfl] at hck
      clear hcs
      obtain ⟨fn, tmps, assign, body, hy, hR⟩ := hY (L.take k) (L[k]?.getD 0) D wr hj hsz hpre 8
      generalize L[k]?.getD 0 = x at *
      gi_wp2_with fail
      refine hR.mono ?_
      rintro e W3 (⟨rfl, D', hJ3, hU3, hD'⟩ | ⟨rfl, D', hJ3, hU3, hD'⟩)
      · have hz3 := hU3.size
        have hU4 : Upd M w W3 := hU.trans' hU3 (fun i hi e => e.elim id (fun e => by have := hD i e; omega))
        have hD4 : ∀ j, D' j → w.heap.size ≤ j := fun j hj => (hD' j hj).elim (hD j) (fun h => by omega)
        gi_wp2
        go_roundw
        case rel => exact ⟨k + 1, D', by omega, by go_num, by rw [HJ.out]; exact hJ3, hD4, hU4⟩
        case measure => simp [intOf]; omega
      · gi_wp2
        refine bodyPost_ret (results_none rfl _ _ _) rfl ?_
        exact ⟨⟨_, rfl⟩, .inr ⟨_, D', hpre, hJ3⟩⟩
    · obtain rfl : k = n := by omega
      have hfull : L.take k = L := by rw [← Hlen.out]; exact List.take_length
      gi_wp2
      go_end0
      exact ⟨⟨_, rfl⟩, .inl ⟨D, by rw [← hfull]; exact hj⟩⟩
end Go.Proofs.YtcadmjpkgnbodaaDoor

/- Numberings: what the program sums up. -/
namespace Go.Proofs.YtcadmjpkgnbodaaDoor
open Go.RowKit Go.Shelf
attribute [local go_sem] Oper.semAt_some
attribute [local go_sem, local simp] wide_fn

/-- What tells whether items may share a number: a function value that does so wherever the order stands. -/
def Shares (F : Value) (zs : List Int) (q : Nat) (ms : Int → Bool) : Prop := ∃ f bs, F = .func (.func f) bs #[] ∧ (∀ args w, (callFunc f args).run Tryd.prog w = .ok (.enter f args) w) ∧
  ∀ (s : Int) (w : World), 0 ≤ s → s < powI zs.length → Arr w q 37 zs → Calls Tryd.prog f (bs ++ #[.int .i64 s]) w fun e w' => e = .returned (.bool (ms s)) ∧ Below w.heap.size w w'

set_option maxRecDepth 100000 in
set_option maxHeartbeats 4000000 in
theorem more1_any (zs : List Int) (q n : Nat) (F : Value) (ms : Int → Bool) (hF : Shares F zs q ms) (I S C Z s t N : Nat) (v1 : Value) (cs : List Int) (w : World) (hs : s < 64) (hsn : (s : Int) < powI zs.length) (ht : t < 64)
    (bI : Boxed w I 37 (.int .i64 (s : Int))) (bS : w.heap[S]? = some (.cells #[v1, F] 52 (0, 0))) (bC : Boxed w C 23 (.slice (some ⟨Z, 0, none⟩) N N)) (hA : Arr w q 37 zs) (hZ : Arr w Z 3 cs) (hcl : cs.length = N) (htN : t < N) :
    Calls Tryd.prog 44 #[.int .i64 (t : Int), .pointer (some ⟨I, 0, none⟩), .pointer (some ⟨S, 0, none⟩), .pointer (some ⟨C, 0, none⟩)] w fun e w' => e = .returned (.int .i64 (if inB' ms s t then cs[t]?.getD 0 else 0)) ∧ Below w.heap.size w w' := by
  obtain ⟨f, bs, rfl, hef, hcall⟩ := hF
  have hcI := bI.cell
  have hcC := bC.cell
  have hcF : w.cell? ⟨S, 1, none⟩ = some (.func (.func f) bs #[]) := by rw [cell_of_row _ _ 1 _ _ (0, 0) bS]; rfl
  have hwi := fun w => within_any (t : Int) (s : Int) w (by omega) (by omega) (by omega) (by omega)
  have hless := less_64 (t := t) hs
  have hlb := lessI_bd (s : Int) (t : Int)
  have han : bits .andNot .i64 (s : Int) (t : Int) = lessI (s : Int) (t : Int) := bits_less (by omega) (by omega) (by omega) (by omega)
  have hms := hcall (lessI (s : Int) (t : Int)) w hlb.1 (by have := hlb.2; omega) hA
  clear hsn
  have Hin := Lib.hid (show inB' ms s t = (lessI (t : Int) (s : Int) == 0 && ms (lessI (s : Int) (t : Int))) from rfl)
  generalize lessI (s : Int) (t : Int) = r at *
  obtain ⟨R, hR⟩ : ∃ R : Int, R = (if inB' ms s t then cs[t]?.getD 0 else 0) := ⟨_, rfl⟩
  rw [← hR]
  cases c1 : (lessI (t : Int) (s : Int) == 0)
  · have Hf := Lib.hid (show R = 0 by rw [hR, show inB' ms s t = false by rw [Hin.out, c1]; rfl]; rfl)
    clear hR
    rw [c1] at hwi
    clear c1
    go_enter Tryd.func44, Tryd.ntmps44
    go_wp2_with (go_at_call 39; refine (hwi _).mono ?_; rintro e w' ⟨rfl, rfl⟩)
    go_ret
    exact ⟨ret_int (by rw [Hf.out] <;> first | rfl | simp), Below.refl _ _⟩
  · rw [c1] at hwi
    cases c2 : ms r
    · have Hf := Lib.hid (show R = 0 by rw [hR, show inB' ms s t = false by rw [Hin.out, c1, c2]; rfl]; rfl)
      clear hR
      rw [c2] at hms
      clear c1 c2
      go_enter Tryd.func44, Tryd.ntmps44
      go_wp2_with (go_at_call 39; refine (hwi _).mono ?_; rintro e w' ⟨rfl, rfl⟩)
      refine hms.mono ?_
      rintro e w' ⟨rfl, hB⟩
      go_wp2_with fail
      go_ret
      exact ⟨ret_int (by rw [Hf.out] <;> first | rfl | simp), hB⟩
    · have Hf := Lib.hid (show R = cs[t]?.getD 0 by rw [hR, show inB' ms s t = true by rw [Hin.out, c1, c2]; rfl]; rfl)
      clear hR
      rw [c2] at hms
      clear c1 c2
      go_enter Tryd.func44, Tryd.ntmps44
      go_wp2_with (go_at_call 39; refine (hwi _).mono ?_; rintro e w' ⟨rfl, rfl⟩)
      refine hms.mono ?_
      rintro e w' ⟨rfl, hB⟩
      have hcC2 := ((Below.toUpd hB).boxed bC (fun e => by have := bC.lt; omega)).cell
      have hcZ2 := (hZ.below hB hZ.lt).cell (k := t) (by omega)
      go_wp2_with fail
      go_ret
      exact ⟨ret_int (by rw [Hf.out, List.getElem?_eq_getElem (by omega : t < cs.length)]; rfl), hB⟩

/-! Both function values that there are. -/
set_option maxRecDepth 100000 in
set_option maxHeartbeats 4000000 in
theorem shares_all (zs : List Int) (q : Nat) : Shares (.func (.func 14) #[] #[]) zs q (fun _ => true) := by
  refine ⟨_, _, rfl, enters_of Tryd.func14 (by kernel_rfl) rfl, ?_⟩
  intro s w h0 h1 hA
  show Calls Tryd.prog 14 #[.int .i64 s] w _
  go_enter Tryd.func14, Tryd.ntmps14
  go_wp2_with fail
  go_ret
  exact ⟨rfl, Below.refl _ _⟩
end Go.Proofs.YtcadmjpkgnbodaaDoor

/- SignOf: the program's and the model's. -/
namespace Go.Proofs.YtcadmjpkgnbodaaDoor
open Go.RowKit Go.Shelf
attribute [local go_sem] Oper.semAt_some
attribute [local go_sem, local simp] wide_fn

theorem ends_parts {zs : List Int} {a b : Int} (h : endsB zs a b = true) : VoP zs ∧ ∃ x y : Nat, a = x ∧ b = y ∧ x < zs.length ∧ y < zs.length := by
  unfold endsB isIt inB at h
  simp only [Bool.and_eq_true, decide_eq_true_eq] at h
  obtain ⟨h1, h2, h3⟩ := h
  exact ⟨by simpa [vo] using h1, a.toNat, b.toNat, by omega, by omega, by omega, by omega⟩
theorem signR_no {zs : List Int} {a b : Int} (h : endsB zs a b = false) : signR zs a b = -1000 := by
  unfold endsB at h
  unfold signR; rw [h]; rfl
theorem signR_yes {zs : List Int} {x y : Nat} (h : endsB zs (x : Int) (y : Int) = true) : signR zs (x : Int) (y : Int) = muI zs x y := by
  unfold endsB at h
  unfold signR; rw [h]; rfl

theorem signOf_in {zs : List Int} {n : Nat} (h : zs.length = n) {x y : Nat} (hv : vo zs = true) (hx : x < n) (hy : y < n) : signR zs (x : Int) (y : Int) = muI zs x y := by
  refine signR_yes ?_
  unfold endsB isIt inB
  rw [hv, h, decide_eq_true (by omega), decide_eq_true (by omega)]; rfl
end Go.Proofs.YtcadmjpkgnbodaaDoor

/- UndoSums: the program's. -/
namespace Go.Proofs.YtcadmjpkgnbodaaDoor
open Go.RowKit Go.Shelf
attribute [local go_sem] Oper.semAt_some
attribute [local go_sem, local simp] wide_fn

theorem lsum_all (g : Nat → Int) {n : Nat} (hn : n ≤ 6) : lsum g (itemsL (powI n - 1)) = smTo g n := by
  have hp := powI_pos (n : Int)
  rw [← itemsTo_all (n := n) (by omega) hn, lsum_items]
  refine smTo_congr _ fun c hc => ?_
  rw [all_bits', decide_eq_true hc]; rfl

end Go.Proofs.YtcadmjpkgnbodaaDoor

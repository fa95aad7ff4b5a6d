/- Texts that several claims share, one behind the other. -/
import Derived.Test.YtghogabmkbadjaaGa
import Derived.Deep.RegionLaw
import Derived.Deep.AppendLies
import Derived.Maps.AppendAt
set_option linter.unusedVariables false
set_option linter.unusedSimpArgs false
/- One element put at its place: an append of any number of elements, as a step of a region that draws its order. -/
namespace Go.Proofs.Ytghogabmkbadjaa
open Go.RowKit

section
variable {P : Program} (w : World)
theorem own_form {w : World} {base n : Nat} {e : TypeId} {v : Value} {xs : List Value} (h : w.ownsRow base e 1 v n xs) (hv : v ≠ .slice none 0 0) : ∃ g cap, v = .slice (some ⟨g, 0, none⟩) n cap ∧ base ≤ g ∧ g < w.heap.size ∧ n ≤ cap ∧ cap ≤ maxLen := by
  rcases h.2 with ⟨e, _⟩ | ⟨g, cap, cur, rfl, hg, hc, h1, h2, _⟩
  · exact absurd e hv
  · exact ⟨g, cap, rfl, hg, (Array.getElem?_eq_some_iff.1 hc).1, h1, h2⟩
theorem step_append_any {ops : Array Oper} {o : Oper} {a : Act} {K : Act → World → Prop} {Q : Exit → Act → World → Prop} {E : Prop} (hgd : o.guard = none) (s x : Operand) (t : TypeId)
    (ho : o.op = .call { callee := .builtin .append, args := #[s, x], argTypes := #[t, t] })
    (base : Nat) (e : TypeId) (i : TypeInfo) (z : Value) (bytes : Nat) (ht : P.underlying t = some (.slice e)) (hi : P.info? e = some i) (hz : i.zero = some z)
    (hsize : i.size = 1) (hby : i.bytes = bytes) (hzs : z.cells.size = 1)
    (v : Value) (n : Nat) (xs : List Value) (hs : a.eval s = v) (hv : v ≠ .slice none 0 0) (hown : w.ownsRow base e 1 v n xs)
    (ad : Addr) (m c : Nat) (news : List Value) (hx : a.eval x = .slice (some ad) m c) (hl : news.length = m) (hnews : ∀ j u, news[j]? = some u → w.cell? (ad.add j) = some u) (h1 : ∀ u ∈ news, u.oneCell' = true)
    (h63 : n + m ≤ maxLen) (hbytes : (n + m) * bytes ≤ 140737488355328) (hbase : base ≤ w.heap.size)
    (h : ∀ g cap w', w'.ownsRow base e 1 (.slice (some ⟨g, 0, none⟩) (n + m) cap) (n + m) (xs ++ news) → w.grownBy w' v.ownBlock → base ≤ g → g < w'.heap.size → n + m ≤ cap → cap ≤ maxLen → K (a.put o.dst (.slice (some ⟨g, 0, none⟩) (n + m) cap)) w') :
    if Region.wanted o (yielded ops a.tmps) = true then Oper.wp P o a w K Q else E := by
  have hw : Region.wanted o (yielded ops a.tmps) = true := by simp [Region.wanted, hgd]
  rw [if_pos hw]
  obtain ⟨v', w', hr, h2, h3, h4, _⟩ := run_append_own_at (P := P) w base t o.type e i z 1 bytes ht hi hz hsize hby hzs (by omega) v n xs hown ad m c news (by omega) hnews h1 h63 hbytes hbase
  obtain ⟨g, cap, rfl, hg, hlt, hnc, hcm⟩ := own_form h2 (fun e => hv (h4.1 e).1)
  unfold Oper.wp execOp
  simp only [ho, resolve, invoke, builtin, Sem.run_bind, Sem.run_pure, Result.andThen_ok, List.map_toArray, List.map_cons, List.map_nil, hs, hx, hr]
  exact h g cap w' h2 h3 hg hlt hnc hcm
theorem own_sooner {w : World} {b b' n : Nat} {e : TypeId} {v : Value} {xs : List Value} (h : w.ownsRow b e 1 v n xs) (hb : b' ≤ b) : w.ownsRow b' e 1 v n xs := by
  refine ⟨h.1, ?_⟩
  rcases h.2 with h1 | ⟨g, cap, cur, rfl, hg, hrest⟩
  · exact .inl h1
  · exact .inr ⟨g, cap, cur, rfl, by omega, hrest⟩
end
/-- The row's numbers from one place on, or up to one: as what is appended. -/
theorem news_at {w w' : World} {B b k n : Nat} {ts zs : List Int} (hc : ∀ j, j < n → w.cell? ⟨b, j, none⟩ = some (.int .i64 (ts[j]?.getD 0))) (hu : Upd (fun k => B ≤ k) w w') (hb : b < B) {ad : Addr}
    (had : ∀ j, j < zs.length → ad.add j = ⟨b, k + j, none⟩) (hz : ∀ j, j < zs.length → zs[j]?.getD 0 = ts[k + j]?.getD 0) (hl : k + zs.length ≤ n) :
    ∀ j u, (zs.map (Value.int .i64))[j]? = some u → w'.cell? (ad.add j) = some u := fun j u hu' => by
  rw [List.getElem?_map] at hu'
  cases hg : zs[j]? with
  | none => rw [hg] at hu'; cases hu'
  | some z =>
    have hj : j < zs.length := (List.getElem?_eq_some_iff.1 hg).1
    rw [hg] at hu'
    simp only [Option.map_some, Option.some.injEq] at hu'
    rw [had j hj, hu.cell (hc (k + j) (by omega)) (by simp; omega), ← hz j hj, hg, ← hu']
    rfl
theorem news_one {w : World} {ad : Addr} {u : Value} (h : w.cell? ad = some u) : ∀ j u', [u][j]? = some u' → w.cell? (ad.add j) = some u' := fun j u' hu => by
  cases j with
  | zero => simp at hu; subst hu; simpa [Addr.add] using h
  | succ j => simp at hu
theorem cell_new_alloc (w : World) (e : TypeId) (u : Value) (o : Obj) : ((w.alloc (.cells #[u] e)).alloc o).cell? ⟨w.heap.size, 0, none⟩ = some u :=
  (World.cell?_of_block (Below.heap_alloc _ _ _ (by simp))).trans (cell_new w e u)
theorem own_new2 (w : World) (o : Obj) (e : TypeId) : ((w.alloc o).alloc (.cells #[] e)).ownsRow w.heap.size e 1 (.slice (some ⟨w.heap.size + 1, 0, none⟩) 0 0) 0 [] := by
  have h := own_new (w.alloc o) e
  rw [World.size_alloc] at h
  exact own_sooner h (by omega)
theorem own_cells {w : World} {base n g cap : Nat} {e : TypeId} {zs : List Int} (h : w.ownsRow base e 1 (.slice (some ⟨g, 0, none⟩) n cap) n (zs.map (Value.int .i64))) :
    zs.length = n ∧ ∀ j, j < n → w.cell? ⟨g, j, none⟩ = some (.int .i64 (zs[j]?.getD 0)) := by
  obtain ⟨A, c, e, hI⟩ := ints_of_own h
  cases e
  refine ⟨hI.len, fun j hj => ?_⟩
  obtain ⟨b, off, e, _, hc⟩ := hI.at_ hj
  cases e
  simpa using hc j hj
theorem own_ge {w : World} {B n : Nat} {e : TypeId} {v : Value} {xs : List Value} (h : w.ownsRow B e 1 v n xs) : ∀ k, v.ownBlock = some k → B ≤ k := own_base h
end Go.Proofs.Ytghogabmkbadjaa

/- Rows that grew by append: their block has spare cells behind; marking them. -/
namespace Go.Proofs.Ytghogabmkbadjaa
open Go.RowKit

/-- A row at the head of a block of numbers' cells, in a block from lo up to less than hi (empty ones may lie anywhere). -/
def RowV (w : World) (lo hi : Nat) (A : Option Addr) (n : Nat) (xs : List Int) : Prop :=
  xs.length = n ∧ (0 < n → ∃ b cur, A = some ⟨b, 0, none⟩ ∧ lo ≤ b ∧ b < hi ∧ w.heap[b]? = some (.cells cur 3 (0, 0)) ∧ cur.toList.take n = xs.map (Value.int .i64))
section
variable {w w' : World} {lo hi n : Nat} {A : Option Addr} {xs : List Int} {R : Nat → Prop}
theorem RowV.len (h : RowV w lo hi A n xs) : xs.length = n := h.1
theorem RowV.nil (w : World) (lo hi : Nat) (A : Option Addr) : RowV w lo hi A 0 [] := ⟨rfl, fun h => absurd h (by omega)⟩
theorem RowV.upd (h : RowV w lo hi A n xs) (hu : Upd R w w') (hr : ∀ j, R j → j < lo ∨ hi ≤ j) : RowV w' lo hi A n xs :=
  ⟨h.1, fun hn => by
    obtain ⟨b, cur, e, hl, hb, hc, ht⟩ := h.2 hn
    exact ⟨b, cur, e, hl, hb, (hu.block b (Array.getElem?_eq_some_iff.1 hc).1 (fun hr' => by have := hr b hr'; omega)).trans hc, ht⟩⟩
theorem RowV.below {B : Nat} (h : RowV w lo hi A n xs) (hu : Below B w w') (hB : hi ≤ B) : RowV w' lo hi A n xs := h.upd (Below.toUpd hu) (fun j hj => by omega)
theorem RowV.more {lo' hi' : Nat} (h : RowV w lo hi A n xs) (h1 : lo' ≤ lo) (h2 : hi ≤ hi') : RowV w lo' hi' A n xs :=
  ⟨h.1, fun hn => by
    obtain ⟨b, cur, e, hl, hb, hc⟩ := h.2 hn
    exact ⟨b, cur, e, by omega, by omega, hc⟩⟩
theorem take_at {cur : Array Value} {n j : Nat} {ys : List Value} (h : cur.toList.take n = ys) (hj : j < n) : cur[j]? = ys[j]? := by
  rw [← h, List.getElem?_take, if_pos hj, Array.getElem?_toList]
theorem RowV.told (h : RowV w lo hi A n xs) : RowC w lo hi A n xs :=
  ⟨h.1, fun hn => by
    obtain ⟨b, cur, e, hl, hb, hc, ht⟩ := h.2 hn
    refine ⟨b, e, hl, hb, fun j hj => ?_⟩
    have hj2 : j < xs.length := by rw [h.1]; exact hj
    rw [cell_of_row w b j _ _ (0, 0) hc, take_at ht hj, List.getElem?_map, List.getElem?_eq_getElem hj2]
    simp⟩
theorem RowV.ints (h : RowV w lo hi A n xs) {B : Nat} (hB : hi ≤ B) : Ints w B A n xs := h.told.ints hB
theorem rowV_of_own {base m : Nat} {v : Value} (h : w.ownsRow base 3 1 v m (xs.map (Value.int .i64))) : ∃ A c, v = .slice A m c ∧ RowV w base w.heap.size A m xs := by
  have hl : xs.length = m := by simpa using h.1
  rcases h.2 with ⟨rfl, rfl⟩ | ⟨g, cap, cur, rfl, hg, hc, _, _, _, ht⟩
  · obtain rfl : xs = [] := List.eq_nil_of_length_eq_zero hl
    exact ⟨none, 0, rfl, RowV.nil _ _ _ _⟩
  · exact ⟨_, cap, rfl, hl, fun _ => ⟨g, cur, rfl, hg, (Array.getElem?_eq_some_iff.1 hc).1, hc, by simpa using ht⟩⟩
end

set_option maxHeartbeats 1000000 in
theorem markIntS_cells (b n c : Nat) (zs : List Int) (cur : Array Value) (k : Int) (w : World) (hA : w.heap[b]? = some (.cells cur 3 (0, 0))) (ht : cur.toList.take n = zs.map (Value.int .i64)) (hn : zs.length = n) (hbig : n ≤ 1048576) (hk0 : 0 ≤ k) (hk1 : k ≤ 1152921504606846976) :
    Calls Try.prog 18 #[.slice (some ⟨b, 0, none⟩) n c, .int .i64 k] w fun e w' => e = .returned (.int .i64 (k + n)) ∧ (∃ cur' : Array Value, w'.heap[b]? = some (.cells cur' 3 (0, 0)) ∧ cur'.toList.take n = (counted k n).map (Value.int .i64)) ∧ w.grownBy w' (some b) := by
  have hlen := Lib.hid hn
  clear hn
  go_enter Try.func18, Try.ntmps18
  go_wp2
  go_loopw [1, 5] (fun v i wr => ∃ j : Nat, j ≤ n ∧ i = .int .i64 j ∧ v = .int .i64 (k + j) ∧ (∃ cur' : Array Value, wr.heap[b]? = some (.cells cur' 3 (0, 0)) ∧ cur'.toList.take n = (markedTo zs k j).map (Value.int .i64)) ∧ w.grownBy wr (some b)) (fun _ i _ => n - (intOf i).toNat)
  case atStart => exact ⟨0, by omega, rfl, by go_num, ⟨cur, hA, ht⟩, World.grownBy.refl w _⟩
  case round =>
    obtain ⟨j, hj, rfl, rfl, ⟨cur', hc, hm⟩, hG⟩ := hrel
    rename World => wx
    by_cases hlt : j < n
    · have hl2 := markedTo_len (zs := zs) (k := k) (i := j) (by rw [hlen.out]; exact hj)
      have hcs : wx.cell? ⟨b, j, none⟩ = some (.int .i64 ((markedTo zs k j)[j]?.getD 0)) := by
        rw [cell_of_row _ b j _ _ (0, 0) hc, take_at hm hlt, List.getElem?_map, List.getElem?_eq_getElem (by rw [hl2, hlen.out]; exact hlt)]
        simp
      have hfs := frozen_of_row _ b j _ _ hc
      have Hms := Lib.hid (markedTo_succ (zs := zs) (k := k) (i := j) (by rw [hlen.out]; exact hlt))
      have Hm := Lib.hid hm
      clear hl2 hm
      go_wp2
      go_roundw
      case rel =>
        refine ⟨j + 1, by omega, by go_num, by rw [Int.natCast_add, ← Int.add_assoc]; rfl, ⟨cur'.setIfInBounds j (.int .i64 (k + (j : Int))), by simp [World.setCell, Array.getElem?_modify, hc], ?_⟩, only_setCell hG (.inl rfl) _⟩
        rw [Array.toList_setIfInBounds, List.take_set, Hm.out, ← List.map_set, Hms.out]
      case measure => simp [intOf]; omega
    · obtain rfl : j = n := by omega
      go_wp2
      go_ret
      refine ⟨rfl, ⟨cur', hc, ?_⟩, hG⟩
      rw [hm, markedTo, List.drop_eq_nil_of_le (by rw [hlen.out]; exact Nat.le_refl _), List.append_nil]

theorem markIntS_rowV (A : Option Addr) (n c lo hi : Nat) (xs : List Int) (k : Int) (w : World) (h : RowV w lo hi A n xs) (hbig : n ≤ 1048576) (hk0 : 0 ≤ k) (hk1 : k ≤ 1152921504606846976) :
    Calls Try.prog 18 #[.slice A n c, .int .i64 k] w fun e w' => e = .returned (.int .i64 (k + n)) ∧ RowV w' lo hi A n (counted k n) ∧ Upd (fun j => lo ≤ j ∧ j < hi) w w' := by
  by_cases hn : 0 < n
  · obtain ⟨b, cur, rfl, hl, hb, hA, ht⟩ := h.2 hn
    refine (markIntS_cells b n c xs cur k w hA ht h.1 hbig hk0 hk1).mono ?_
    rintro e w' ⟨rfl, ⟨cur', hA', ht'⟩, hg⟩
    exact ⟨rfl, ⟨by simp [counted], fun _ => ⟨b, cur', rfl, hl, hb, hA', ht'⟩⟩, (Upd.refl _ _).grown hg (fun j e => by cases e; exact .inr ⟨hl, hb⟩)⟩
  · obtain rfl : n = 0 := by omega
    refine (markIntS_nil A c k w).mono ?_
    rintro e w' ⟨rfl, rfl⟩
    exact ⟨ret_int (by simp), by simpa [counted] using RowV.nil _ lo hi A, Upd.refl _ _⟩
/-- What a function that hands back a new row of numbers does. -/
def GivesRowV (w : World) (xs : List Int) (e : Ending) (w' : World) : Prop := ∃ A n c, e = .returned (.slice A n c) ∧ RowV w' w.heap.size w'.heap.size A n xs ∧ Below w.heap.size w w'
/-- What a function that hands back a new row and whether there is one does. -/
def GivesAtV (w : World) (xs : List Int) (t : Bool) (e : Ending) (w' : World) : Prop := ∃ A n c, e = .returned (.tuple #[.slice A n c, .bool t]) ∧ RowV w' w.heap.size w'.heap.size A n xs ∧ Below w.heap.size w w'
theorem RowV.set0 {w : World} {lo hi n : Nat} {A : Option Addr} {xs : List Int} (h : RowV w lo hi A n xs) {b : Nat} (hA : A = some ⟨b, 0, none⟩) (v : Int) : RowV (w.setCell ⟨b, 0, none⟩ (.int .i64 v)) lo hi A n (xs.set 0 v) :=
  ⟨by rw [List.length_set]; exact h.1, fun hn => by
    obtain ⟨b', cur, e, hl, hb, hc, ht⟩ := h.2 hn
    rw [hA] at e
    cases e
    exact ⟨b, cur.setIfInBounds 0 (.int .i64 v), hA, hl, hb, by simp [World.setCell, Array.getElem?_modify, hc], by rw [Array.toList_setIfInBounds, List.take_set, ht, ← List.map_set]⟩⟩
theorem RowV.cell {w : World} {lo hi n : Nat} {A : Option Addr} {xs : List Int} (h : RowV w lo hi A n xs) (hn : 0 < n) : ∃ b, A = some ⟨b, 0, none⟩ ∧ lo ≤ b ∧ b < hi ∧ (∀ j, w.frozen? ⟨b, j, none⟩ = false) ∧ ∀ j, j < n → w.cell? ⟨b, j, none⟩ = some (.int .i64 (xs[j]?.getD 0)) := by
  obtain ⟨b, cur, e, hl, hb, hc, ht⟩ := h.2 hn
  obtain ⟨b', e', _, _, hcell⟩ := h.told.2 hn
  rw [e] at e'
  cases e'
  exact ⟨b, e, hl, hb, fun j => frozen_of_row _ _ j _ _ hc, hcell⟩
end Go.Proofs.Ytghogabmkbadjaa

/- slices.Clone of an order; a row under way whose cells are stored into; what a list of sets tells, of two lists. -/
namespace Go.Proofs.Ytghogabmkbadjaa
open Go.RowKit Go.Shelf
attribute [local go_sem] Oper.semAt_some
attribute [local go_sem, local simp] wide_fn

section
variable {P : Program} (w : World)
theorem wpList_appendK {ops : Array Oper} {rest : List Oper} {o : Oper} {a : Act} {Q : Exit → Act → World → Prop} (hgd : o.guard = none) (s x : Operand) (t : TypeId)
    (ho : o.op = .call { callee := .builtin .append, args := #[s, x], argTypes := #[t, t] })
    (base : Nat) (e : TypeId) (i : TypeInfo) (z : Value) (bytes : Nat) (ht : P.underlying t = some (.slice e)) (hi : P.info? e = some i) (hz : i.zero = some z)
    (hsize : i.size = 1) (hby : i.bytes = bytes) (hzs : z.cells.size = 1)
    (v : Value) (n : Nat) (xs : List Value) (hs : a.eval s = v) (hown : w.ownsRow base e 1 v n xs)
    (ad : Addr) (m c : Nat) (news : List Value) (hx : a.eval x = .slice (some ad) m c) (hl : news.length = m) (hnews : ∀ j u, news[j]? = some u → w.cell? (ad.add j) = some u) (h1 : ∀ u ∈ news, u.oneCell' = true)
    (h63 : n + m ≤ maxLen) (hbytes : (n + m) * bytes ≤ 140737488355328) (hbase : base ≤ w.heap.size)
    (h : ∀ v' w', w'.ownsRow base e 1 v' (n + m) (xs ++ news) → w.grownBy w' v.ownBlock → wpList P ops Q rest (a.put o.dst v') w') : wpList P ops Q (o :: rest) a w := by
  obtain ⟨v', w', hrun, h2, h3, _, _⟩ := run_append_own_at (P := P) w base t o.type e i z 1 bytes ht hi hz hsize hby hzs (by omega) v n xs hown ad m c news (by omega) hnews h1 h63 hbytes hbase
  refine wpList_plain hgd fun K hK => ?_
  unfold Oper.wp execOp
  simp only [ho, resolve, invoke, builtin, Sem.run_bind, Sem.run_pure, Result.andThen_ok, List.map_toArray, List.map_cons, List.map_nil, hs, hx, hrun]
  exact hK _ _ (h v' w' h2 h3)
end
theorem addr_add3 (b k j : Nat) : (⟨b, k, none⟩ : Addr).add j = ⟨b, k + j, none⟩ := by unfold Addr.add; split <;> simp_all
theorem own_set {w : World} {base n g cap : Nat} {e : TypeId} {xs : List Value} (h : w.ownsRow base e 1 (.slice (some ⟨g, 0, none⟩) n cap) n xs) (k : Nat) (u : Value) :
    (w.setCell ⟨g, k, none⟩ u).ownsRow base e 1 (.slice (some ⟨g, 0, none⟩) n cap) n (xs.set k u) := by
  refine ⟨by rw [List.length_set]; exact h.1, ?_⟩
  rcases h.2 with ⟨e, _⟩ | ⟨g', cap', cur, e, hg, hc, h1, h2, h3, ht⟩
  · cases e
  · cases e
    refine .inr ⟨g, cap, cur.setIfInBounds k u, rfl, hg, by simp [World.setCell, Array.getElem?_modify, hc], h1, h2, by simpa using h3, ?_⟩
    rw [Array.toList_setIfInBounds, List.take_set, ht]
theorem own_cell {w : World} {base n g cap : Nat} {e : TypeId} {zs : List Int} (h : w.ownsRow base e 1 (.slice (some ⟨g, 0, none⟩) n cap) n (zs.map (Value.int .i64))) : (∀ j, j < n → w.cell? ⟨g, j, none⟩ = some (.int .i64 (zs[j]?.getD 0))) ∧ (∀ j, w.frozen? ⟨g, j, none⟩ = false) ∧ g < w.heap.size := by
  refine ⟨(own_cells h).2, fun j => ?_, own_lt' h g rfl⟩
  rcases h.2 with ⟨e, _⟩ | ⟨g', cap', cur, e, hg, hc, _⟩
  · cases e
  · cases e
    exact frozen_of_row _ _ j _ _ hc
theorem own_some {w : World} {base n : Nat} {e : TypeId} {v : Value} {xs : List Value} (h : w.ownsRow base e 1 v n xs) (hn : 0 < n) : ∃ g cap, v = .slice (some ⟨g, 0, none⟩) n cap := by
  rcases h.2 with ⟨_, e⟩ | ⟨g, cap, cur, e, _⟩
  · omega
  · exact ⟨g, cap, e⟩

set_option maxRecDepth 100000 in
set_option maxHeartbeats 2000000 in
theorem clone_own (b n c : Nat) (zs : List Int) (w : World) (hA : Arr w b 59 zs) (hlen : zs.length = n) (hn : n ≤ 6) :
    Calls Try.prog 81 #[.slice (some ⟨b, 0, none⟩) n c] w fun e w' => ∃ v, e = .returned v ∧ OwnS (fun k => w.heap.size ≤ k) w' w.heap.size 59 v zs ∧ Below w.heap.size w w' := by
  obtain ⟨i0, hi0, hz0, hz1, hz2⟩ := info_parts infoItems
  have hlt := hA.lt
  have hcell : ∀ j, j < n → w.cell? ⟨b, j, none⟩ = some (.int .i64 (zs[j]?.getD 0)) := fun j hj => hA.cell (by omega)
  have Hl := Lib.hid hlen
  clear hlen
  have hcmp : ∀ w : World, (binOp BinOp.eql 44 (Value.slice (some ⟨b, 0, none⟩) n c) (Value.slice none 0 0)).run Try.prog w = .ok (.bool false) w := fun w => by first | rfl | kernel_rfl | simp [binOp]
  go_enter Try.func81, Try.ntmps81
  have hown := own_new w 59
  have hU1 : Upd (fun _ => False) w (w.alloc (.cells #[] 59)) := (Upd.refl _ w).alloc _
  have hz1' : (w.alloc (.cells #[] 59)).heap.size = w.heap.size + 1 := by simp
  have hnews : ∀ j u, (zs.map (Value.int .i64))[j]? = some u → (w.alloc (.cells #[] 59)).cell? ((⟨b, 0, none⟩ : Addr).add j) = some u := news_at hcell (hU1.mono (S := fun k => w.heap.size ≤ k) (fun _ _ e => e.elim)) hlt (fun j hj => addr_add3 ..) (fun j hj => by rw [Nat.zero_add]) (by rw [Hl.out]; omega)
  go_wp2_with (at_builtin; refine wpList_appendK _ rfl (.tmp 5) (.tmp 6) _ rfl w.heap.size 59 i0 _ 8 Try.underlying44 hi0 hz0 hz1 hz2 rfl _ 0 [] rfl hown ⟨b, 0, none⟩ n c _ rfl (by rw [List.length_map]; exact Hl.out) hnews (fun u hu => by obtain ⟨z, _, rfl⟩ := List.mem_map.1 hu; rfl) (by simp [maxLen]; omega) (by omega) (by simp) ?_; intro v' w' hown' hg')
  go_ret
  rw [Nat.zero_add, List.nil_append] at hown'
  refine ⟨v', rfl, ⟨fun k hk => own_ge hown' k hk, by rw [Hl.out]; exact hown'⟩, ?_⟩
  exact ((hU1.mono (S := fun k => w.heap.size ≤ k) (fun _ _ e => e.elim)).grown hg' (fun k hk => by simp [Value.ownBlock, Act.eval] at hk; exact .inl (by omega))).toBelow (fun k e => e) (Nat.le_refl _)

/-- What reading two lists gives. -/
def Reads2 (zs ys : List Int) (n m : Nat) (w : World) (e : Ending) (w' : World) : Prop :=
  Below w.heap.size w w' ∧ ((vo zs = true ∧ vo ys = true ∧ ∃ b b', e = .returned (.tuple #[.slice (some ⟨b, 0, none⟩) n n, .slice (some ⟨b', 0, none⟩) m m, .bool true]) ∧ Arr w' b 59 zs ∧ Arr w' b' 59 ys) ∨
    ((vo zs && vo ys) = false ∧ ∃ A k A' k', e = .returned (.tuple #[.slice A k k, .slice A' k' k', .bool false])))
end Go.Proofs.Ytghogabmkbadjaa

/- Texts that several claims share, one behind the other. -/
import Derived.Test.YtghogabmkbadjabGb
import Derived.Test.YtghogabmkbadjabGa
import Derived.OrdersHeld
import Derived.Deep.RegionHeld3
import Derived.Test.YtghogabmkbadjabGc
set_option linter.unusedVariables false
set_option linter.unusedSimpArgs false
/- All lines of an order as one list, item by item: it holds just the lines, each one once. No program. -/
namespace Go.Proofs.Ytghogabmkbadjab

def stA2 (zs : List Int) (s x : Int) : Bool := inB x 0 ((zs.length : Int) - 1) && (!bitB s x && (lessI ((du zs)[x.toNat]?.getD 0) s == 0))
/-- The lines that go on with k items where s are lined up as so. -/
def alG (zs : List Int) : Nat → List Int → Int → List (List Int)
  | 0, so, _ => [so]
  | k + 1, so, s => (List.range zs.length).flatMap fun a : Nat => if stA2 zs s a then alG zs k (so ++ [(a : Int)]) (orI s (powI a)) else []
def okT (zs : List Int) : Int → List Int → Bool
  | _, [] => true
  | s, x :: t => stA2 zs s x && okT zs (orI s (powI x)) t
theorem alG_mem (zs : List Int) : ∀ (k : Nat) (so : List Int) (s : Int) (l : List Int), l ∈ alG zs k so s ↔ ∃ t, t.length = k ∧ l = so ++ t ∧ okT zs s t = true
  | 0, so, s, l => by
    rw [alG, List.mem_singleton]
    constructor
    · rintro rfl; exact ⟨[], rfl, by simp, rfl⟩
    · rintro ⟨t, h1, rfl, _⟩
      rw [List.eq_nil_of_length_eq_zero h1, List.append_nil]
  | k + 1, so, s, l => by
    rw [alG, List.mem_flatMap]
    constructor
    · rintro ⟨a, ha, h⟩
      cases h1 : stA2 zs s (a : Int)
      · rw [h1] at h; simp at h
      · rw [h1, if_pos rfl, alG_mem zs k] at h
        obtain ⟨t, h2, rfl, h3⟩ := h
        exact ⟨(a : Int) :: t, by simp [h2], by simp, by rw [okT, h1, h3]; rfl⟩
    · rintro ⟨t, h1, rfl, h2⟩
      cases t with
      | nil => simp at h1
      | cons x t =>
        rw [okT, Bool.and_eq_true] at h2
        have hx : (0 : Int) ≤ x ∧ x ≤ (zs.length : Int) - 1 := by
          have := h2.1
          unfold stA2 at this
          rw [Bool.and_eq_true] at this
          simpa [inB] using this.1
        obtain ⟨a, rfl⟩ := Int.eq_ofNat_of_zero_le hx.1
        refine ⟨a, List.mem_range.2 (by omega), ?_⟩
        rw [show stA2 zs s (a : Int) = true from h2.1, if_pos rfl, alG_mem zs k]
        exact ⟨t, by simpa using h1, by simp, h2.2⟩
theorem alG_nodup (zs : List Int) : ∀ (k : Nat) (so : List Int) (s : Int), (alG zs k so s).Nodup
  | 0, so, s => by rw [alG]; simp
  | k + 1, so, s => by
    rw [alG]
    unfold List.flatMap
    refine List.pairwise_flatten.2 ⟨fun l hl => ?_, ?_⟩
    · obtain ⟨a, _, rfl⟩ := List.mem_map.1 hl
      split
      · exact alG_nodup zs k _ _
      · exact List.Pairwise.nil
    · rw [List.pairwise_map]
      refine List.Pairwise.imp_of_mem (R := (· < ·)) ?_ (List.pairwise_lt_range)
      intro a b _ _ hab x hx y hy e
      subst e
      split at hx
      · split at hy
        · obtain ⟨t, _, e1, _⟩ := (alG_mem zs k _ _ _).1 hx
          obtain ⟨t', _, e2, _⟩ := (alG_mem zs k _ _ _).1 hy
          rw [e1, List.append_assoc, List.append_assoc] at e2
          have := List.append_cancel_left e2
          simp at this
          omega
        · cases hy
      · cases hx
theorem ok_steps (zs : List Int) : ∀ (t so : List Int), (∀ i, i < t.length → stepOk zs (so ++ t) (so.length + i) = true) ↔ okT zs (doneTo (so ++ t) so.length) t = true
  | [], so => by simp [okT]
  | x :: t, so => by
    have h0 : (so ++ x :: t)[so.length]?.getD 0 = x := by simp
    have hs : stepOk zs (so ++ x :: t) so.length = stA2 zs (doneTo (so ++ x :: t) so.length) x := by unfold stepOk stA2; rw [h0]
    have ih := ok_steps zs t (so ++ [x])
    rw [List.append_assoc, List.singleton_append, List.length_append, List.length_singleton] at ih
    have hd : doneTo (so ++ x :: t) (so.length + 1) = orI (doneTo (so ++ x :: t) so.length) (powI x) := by
      show orI _ (powI ((so ++ x :: t)[so.length]?.getD 0)) = _
      rw [h0]
    rw [hd] at ih
    rw [okT, Bool.and_eq_true, ← ih, ← hs]
    constructor
    · intro h
      exact ⟨h 0 (by simp), fun i hi => by have := h (i + 1) (by simp; omega); rwa [show so.length + 1 + i = so.length + (i + 1) by omega]⟩
    · rintro ⟨h1, h2⟩ i hi
      cases i with
      | zero => exact h1
      | succ i =>
        have := h2 i (by simpa using hi)
        rwa [show so.length + 1 + i = so.length + (i + 1) by omega] at this
/-- All lines. -/
def alL (zs : List Int) : List (List Int) := alG zs zs.length [] 0
theorem alL_mem (zs l : List Int) : l ∈ alL zs ↔ lineB zs l = true := by
  unfold alL
  rw [alG_mem]
  have h := ok_steps zs l []
  rw [List.nil_append] at h
  have hd : doneTo l ([] : List Int).length = 0 := rfl
  rw [hd] at h
  constructor
  · rintro ⟨t, h1, e, h2⟩
    rw [List.nil_append] at e
    subst e
    exact lineB_yes h1 rfl fun k hk => by
      have := h.2 h2 k (by omega)
      simpa using this
  · intro hl
    have hl' := hl
    unfold lineB at hl'
    rw [Bool.and_eq_true, decide_eq_true_eq, List.all_eq_true] at hl'
    exact ⟨l, hl'.1, by simp, h.1 fun i hi => by
      have := hl'.2 i (List.mem_range.2 hi)
      simpa using this⟩
theorem alL_nodup (zs : List Int) : (alL zs).Nodup := alG_nodup zs _ _ _
end Go.Proofs.Ytghogabmkbadjab

/- Rows of numbers under way, that grow by append: where they lie; what has been read of them; rows whose cells alone are told. -/
namespace Go.Proofs.Ytghogabmkbadjab
open Go.RowKit

/-- A row of numbers under way, in a block that S names. -/
def OwnS (S : Nat → Prop) (w : World) (B : Nat) (e : TypeId) (v : Value) (xs : List Int) : Prop := (∀ k, v.ownBlock = some k → S k) ∧ w.ownsRow B e 1 v xs.length (xs.map (Value.int .i64))
section
variable {S R : Nat → Prop} {w w' : World} {B : Nat} {e : TypeId} {v : Value} {xs : List Int}
theorem OwnS.keep (h : OwnS S w B e v xs) (hu : Upd R w w') (hS : ∀ k, S k → ¬ R k) : OwnS S w' B e v xs := by
  obtain ⟨h0, h1⟩ := h
  refine ⟨h0, h1.1, ?_⟩
  rcases h1.2 with e | ⟨g, cap, cur, rfl, hg, hc, hrest⟩
  · exact .inl e
  · exact .inr ⟨g, cap, cur, rfl, hg, (hu.block g (Array.getElem?_eq_some_iff.1 hc).1 (hS g (h0 g rfl))).trans hc, hrest⟩
theorem OwnS.none (S : Nat → Prop) (w : World) (B : Nat) (e : TypeId) : OwnS S w B e (.slice none 0 0) [] := ⟨fun k hk => by simp [Value.ownBlock] at hk, rfl, .inl ⟨rfl, rfl⟩⟩
theorem own_lt' {base n : Nat} {ys : List Value} (h : w.ownsRow base e 1 v n ys) : ∀ g, v.ownBlock = some g → g < w.heap.size := fun g hg => by
  rcases h.2 with ⟨rfl, _⟩ | ⟨g', cap, cur, rfl, _, hc, _⟩
  · simp [Value.ownBlock] at hg
  · simp [Value.ownBlock] at hg; subst hg; exact (Array.getElem?_eq_some_iff.1 hc).1
theorem OwnS.step {S' : Nat → Prop} {x : Int} {o : Obj} {v' : Value} (h : OwnS S w B e v xs) (hown : w'.ownsRow B e 1 v' (xs.length + 1) (xs.map (Value.int .i64) ++ [.int .i64 x])) (hv : v'.ownBlock = v.ownBlock ∨ v'.ownBlock = some (w.alloc o).heap.size)
    (hS : ∀ k, S k → S' k) (hS1 : w.heap.size + 1 < w'.heap.size → S' (w.heap.size + 1)) : OwnS S' w' B e v' (xs ++ [x]) :=
  ⟨fun k hk => by
    rcases hv with e | e
    · exact hS k (h.1 k (e ▸ hk))
    · have hlt := own_lt' hown k hk
      rw [e] at hk; simp at hk; subst hk; exact hS1 hlt, by rw [List.length_append, List.map_append]; exact hown⟩
end

/-- A row whose cells are told, in a block from lo up to less than hi (empty ones may lie anywhere). -/
def RowC (w : World) (lo hi : Nat) (A : Option Addr) (n : Nat) (xs : List Int) : Prop :=
  xs.length = n ∧ (0 < n → ∃ b, A = some ⟨b, 0, none⟩ ∧ lo ≤ b ∧ b < hi ∧ ∀ j, j < n → w.cell? ⟨b, j, none⟩ = some (.int .i64 (xs[j]?.getD 0)))
section
variable {w w' : World} {lo hi n : Nat} {A : Option Addr} {xs : List Int} {R : Nat → Prop}
theorem RowC.len (h : RowC w lo hi A n xs) : xs.length = n := h.1
theorem RowC.nil (w : World) (lo hi : Nat) (A : Option Addr) : RowC w lo hi A 0 [] := ⟨rfl, fun h => absurd h (by omega)⟩
theorem RowC.ints (h : RowC w lo hi A n xs) {B : Nat} (hB : hi ≤ B) : Ints w B A n xs :=
  ⟨h.1, fun hn => by
    obtain ⟨b, e, _, hb, hc⟩ := h.2 hn
    exact ⟨b, 0, e, by omega, fun j hj => by rw [Nat.zero_add]; exact hc j hj⟩⟩
theorem RowC.upd (h : RowC w lo hi A n xs) (hu : Upd R w w') (hr : ∀ j, R j → j < lo ∨ hi ≤ j) : RowC w' lo hi A n xs :=
  ⟨h.1, fun hn => by
    obtain ⟨b, e, hl, hb, hc⟩ := h.2 hn
    exact ⟨b, e, hl, hb, fun j hj => hu.cell (hc j hj) (fun hr' => by have := hr b hr'; omega)⟩⟩
theorem RowC.below {B : Nat} (h : RowC w lo hi A n xs) (hu : Below B w w') (hB : hi ≤ B) : RowC w' lo hi A n xs := h.upd (Below.toUpd hu) (fun j hj => by omega)
theorem RowC.more {lo' hi' : Nat} (h : RowC w lo hi A n xs) (h1 : lo' ≤ lo) (h2 : hi ≤ hi') : RowC w lo' hi' A n xs :=
  ⟨h.1, fun hn => by
    obtain ⟨b, e, hl, hb, hc⟩ := h.2 hn
    exact ⟨b, e, by omega, by omega, hc⟩⟩
theorem Row.told (h : Row w lo hi A n xs) : RowC w lo hi A n xs :=
  ⟨h.1, fun hn => by
    obtain ⟨b, ys, e, hl, hb, hA⟩ := h.2 hn
    exact ⟨b, e, hl, hb, fun j hj => by
      have hl := h.1
      rw [hA.cell (by rw [List.length_append]; omega), List.getElem?_append_left (by omega)]⟩⟩
/-- A grown row's cells. -/
theorem rowC_of_own {base m : Nat} {e : TypeId} {v : Value} (h : w.ownsRow base e 1 v m (xs.map (Value.int .i64))) : ∃ A c, v = .slice A m c ∧ RowC w base w.heap.size A m xs := by
  obtain ⟨A, c, rfl, hI, hA⟩ := ints_of_own_at h
  refine ⟨A, c, rfl, hI.1, fun hn => ?_⟩
  rcases h.2 with ⟨e, _⟩ | ⟨g, cap, cur, e, hg, hgc, _⟩
  · cases e; omega
  · cases e
    refine ⟨g, rfl, hg, (Array.getElem?_eq_some_iff.1 hgc).1, fun j hj => ?_⟩
    obtain ⟨b, off, e1, hb, hc⟩ := hI.2 hn
    cases e1
    have := hc j hj
    rwa [Nat.zero_add] at this
end
/-- What a function that hands back a new row of numbers does: its cells told. -/
def GivesRowC (w : World) (xs : List Int) (e : Ending) (w' : World) : Prop := ∃ A n c, e = .returned (.slice A n c) ∧ RowC w' w.heap.size w'.heap.size A n xs ∧ Below w.heap.size w w'
end Go.Proofs.Ytghogabmkbadjab

/- One element appended to a row that others share: where it fits the row stays where it is, with its capacity; else it moves. A row is as it was once what was appended is taken as not there. -/
namespace Go.Proofs.Ytghogabmkbadjab
open Go.RowKit

section
variable {P : Program} {w : World}
theorem run_append1c (t ty : TypeId)
    (base : Nat) (e : TypeId) (i : TypeInfo) (z : Value) (bytes : Nat) (ht : P.underlying t = some (.slice e)) (hi : P.info? e = some i) (hz : i.zero = some z)
    (hsize : i.size = 1) (hby : i.bytes = bytes) (hzs : z.cells.size = 1)
    (v : Value) (n : Nat) (xs : List Value) (hown : w.ownsRow base e 1 v n xs)
    (b c : Nat) (u : Value) (hu : w.cell? ⟨b, 0, none⟩ = some u) (h1 : u.oneCell' = true)
    (h63 : n + 1 ≤ 1152921504606846976) (hbytes : (n + 1) * bytes ≤ 140737488355328) (hbase : base ≤ w.heap.size) :
    ∃ v' w', (Builtin.append_ #[t, t] ty #[v, .slice (some ⟨b, 0, none⟩) 1 c]).run P w = .ok v' w' ∧ w'.ownsRow base e 1 v' (n + 1) (xs ++ [u]) ∧ w.grownBy w' v.ownBlock ∧
      ((∃ g cap, v = .slice (some ⟨g, 0, none⟩) n cap ∧ v' = .slice (some ⟨g, 0, none⟩) (n + 1) cap) ∨ v'.ownBlock = some w.heap.size ∧ w.grownBy w' none) := by
  have hnews : ∀ j u', [u][j]? = some u' → w.cell? ((⟨b, 0, none⟩ : Addr).add j) = some u' := fun j u' hj => by
    cases j with
    | zero => simp at hj; subst hj; simpa [Addr.add] using hu
    | succ j => simp at hj
  have h1' : ∀ u' ∈ [u], u'.oneCell' = true := fun u' hu' => by rw [List.mem_singleton.1 hu']; exact h1
  obtain ⟨v', w', hrun, h2, h3, _, h5⟩ := run_append_own_at (P := P) w base t ty e i z 1 bytes ht hi hz hsize hby hzs (by omega) v n xs hown ⟨b, 0, none⟩ 1 c [u] (by simp) hnews h1' (by simp only [maxLen]; omega) hbytes hbase
  refine ⟨v', w', hrun, h2, h3, ?_⟩
  rcases hown.2 with ⟨rfl, rfl⟩ | ⟨g, cap, cur, rfl, hbg, hg, hnc, hcm, hcs, htake⟩
  · right
    rcases h5 with h5 | h5
    · rcases h2.2 with ⟨_, e2⟩ | ⟨g', cap', cur', rfl, _⟩
      · omega
      · simp [Value.ownBlock] at h5
    · exact ⟨h5, h3⟩
  · by_cases hroom : n + 1 ≤ cap
    · have hr := run_append_room (P := P) w t ty e i ht hi g n cap cur hg ⟨b, 0, none⟩ 1 c [u] (by simp [hsize]) hnews h1' hroom (by rw [hsize, hcs]; simp; omega)
      rw [hr] at hrun
      injection hrun with e1 e2
      exact .inl ⟨g, cap, rfl, e1.symm⟩
    · have holds : ∀ j u, xs[j]? = some u → w.cell? ((⟨g, 0, none⟩ : Addr).add j) = some u := hown.cells (g := g) rfl
      have hr := run_append_grow (P := P) w t ty e i z ht hi hz ⟨g, 0, none⟩ n cap xs (by rw [hown.1, hsize]) holds ⟨b, 0, none⟩ 1 c [u] (by simp [hsize]) hnews (by omega) (by omega) (growslice_fits (by omega) (by rw [hby]; exact hbytes))
      rw [hr] at hrun
      injection hrun with e1 e2
      right
      rw [← e1, ← e2]
      exact ⟨rfl, rfl, rfl, rfl, by simp, fun k hk _ => Below.heap_alloc w.drew _ k hk⟩
theorem step_append1c {ops : Array Oper} {o : Oper} {a : Act} {K : Act → World → Prop} {Q : Exit → Act → World → Prop} {E : Prop} (hgd : o.guard = none) (s x : Operand) (t : TypeId)
    (ho : o.op = .call { callee := .builtin .append, args := #[s, x], argTypes := #[t, t] })
    (base : Nat) (e : TypeId) (i : TypeInfo) (z : Value) (bytes : Nat) (ht : P.underlying t = some (.slice e)) (hi : P.info? e = some i) (hz : i.zero = some z)
    (hsize : i.size = 1) (hby : i.bytes = bytes) (hzs : z.cells.size = 1)
    (v : Value) (n : Nat) (xs : List Value) (hs : a.eval s = v) (hown : w.ownsRow base e 1 v n xs)
    (b c : Nat) (u : Value) (hx : a.eval x = .slice (some ⟨b, 0, none⟩) 1 c) (hu : w.cell? ⟨b, 0, none⟩ = some u) (h1 : u.oneCell' = true)
    (h63 : n + 1 ≤ 1152921504606846976) (hbytes : (n + 1) * bytes ≤ 140737488355328) (hbase : base ≤ w.heap.size)
    (h : ∀ v' w', w'.ownsRow base e 1 v' (n + 1) (xs ++ [u]) → w.grownBy w' v.ownBlock → ((∃ g cap, v = .slice (some ⟨g, 0, none⟩) n cap ∧ v' = .slice (some ⟨g, 0, none⟩) (n + 1) cap) ∨ v'.ownBlock = some w.heap.size ∧ w.grownBy w' none) → K (a.put o.dst v') w') :
    if Region.wanted o (yielded ops a.tmps) = true then Oper.wp P o a w K Q else E := by
  have hw : Region.wanted o (yielded ops a.tmps) = true := by simp [Region.wanted, hgd]
  rw [if_pos hw]
  obtain ⟨v', w', hrun, h2, h3, h5⟩ := run_append1c (P := P) (w := w) t o.type base e i z bytes ht hi hz hsize hby hzs v n xs hown b c u hu h1 h63 hbytes hbase
  unfold Oper.wp execOp
  simp only [ho, resolve, invoke, builtin, Sem.run_bind, Sem.run_pure, Result.andThen_ok, List.map_toArray, List.map_cons, List.map_nil, hs, hx, hrun]
  exact h v' w' h2 h3 h5
end

/-- What was appended is taken as not there. -/
theorem own_back {w : World} {B n : Nat} {e : TypeId} {g cap : Nat} {xs : List Value} {u : Value} (h : w.ownsRow B e 1 (.slice (some ⟨g, 0, none⟩) (n + 1) cap) (n + 1) (xs ++ [u])) : w.ownsRow B e 1 (.slice (some ⟨g, 0, none⟩) n cap) n xs := by
  have hl : xs.length = n := by have := h.1; simp at this; exact this
  rcases h.2 with ⟨e, _⟩ | ⟨g', cap', cur, e, hg, hc, h1, h2, h3, ht⟩
  · cases e
  · cases e
    refine ⟨by omega, .inr ⟨g, cap, cur, rfl, hg, hc, by omega, h2, h3, ?_⟩⟩
    have : (cur.toList.take ((n + 1) * 1)).take (n * 1) = (xs ++ [u]).take (n * 1) := by rw [ht]
    rw [List.take_take, Nat.min_eq_left (by omega)] at this
    rw [this, Nat.mul_one, ← hl, List.take_left]
end Go.Proofs.Ytghogabmkbadjab

/- A line backwards is one of the order turned round, as plain mathematics. No program. -/
namespace Go.Proofs.Ytghogabmkbadjab

section
variable {zs ls : List Int}
theorem add_bit {s a j : Nat} (hs : s < 64) (ha : a < 6) (hb : s.testBit a = false) (h64 : s + 2 ^ a < 64) : (s + 2 ^ a).testBit j = (s.testBit j || decide (a = j)) := by
  rcases Nat.lt_or_ge j 6 with hj | hj
  · exact add_bit_fin ⟨s, hs⟩ ⟨a, ha⟩ ⟨j, hj⟩ hb
  · have h6 : ∀ t : Nat, t < 64 → t.testBit j = false := fun t ht => Nat.testBit_lt_two_pow (Nat.lt_of_lt_of_le (show t < 2 ^ 6 by omega) (Nat.pow_le_pow_right (by decide) hj))
    rw [h6 _ h64, h6 _ hs, decide_eq_false (by omega)]; rfl
theorem line_add (hv : VoP zs) (hs : ∀ k, k < zs.length → stepOk zs ls k = true) {k : Nat} (hk : k < zs.length) (j : Nat) : (dN ls (k + 1)).testBit j = ((dN ls k).testBit j || decide (itN ls k = j)) := by
  have hn6 := hv.1
  have hp64 := pow_le64 hn6
  have hok : ∀ i, i < k → stepOk zs ls i = true := fun i hi => hs i (by omega)
  have h1 := (d_is hok).2
  have h2 := (d_is (zs := zs) (ls := ls) (k := k + 1) fun i hi => hs i (by omega)).2
  have h3 := (it_is (hs k hk)).2
  have e := d_succ hv hok (hs k hk)
  rw [e] at h2 ⊢
  exact add_bit (by omega) (by omega) (d_new hok (hs k hk)) (by omega)
theorem line_ideal (hv : VoP zs) (hs : ∀ k, k < zs.length → stepOk zs ls k = true) : ∀ k : Nat, k ≤ zs.length → Ideal zs (dN ls k)
  | 0, _ => fun a b hb _ => by
    have e : dN ls 0 = 0 := rfl
    rw [e, Nat.zero_testBit] at hb; cases hb
  | k + 1, hk => fun a b hb hd => by
    rw [line_add hv hs hk] at hb ⊢
    rcases Bool.or_eq_true _ _ ▸ hb with h | h
    · rw [line_ideal hv hs k (by omega) a b h hd]; rfl
    · have hx := of_decide_eq_true h
      subst hx
      have h2 := (nextE_new (line_next hv hs (show k < zs.length from hk))).2
      rw [beq_iff_eq, less_zero] at h2
      rw [h2 a hd]; rfl
theorem back_at (hl : ls.length = zs.length) {k : Nat} (hk : k < zs.length) : ls.reverse[k]?.getD 0 = ls[zs.length - 1 - k]?.getD 0 := by
  rw [List.getElem?_reverse (by omega), hl]
theorem back_done (hv : VoP zs) (hl : ls.length = zs.length) (hs : ∀ k, k < zs.length → stepOk zs ls k = true) : ∀ k : Nat, k ≤ zs.length → doneTo ls.reverse k = ((2 ^ zs.length - 1 - dN ls (zs.length - k) : Nat) : Int)
  | 0, _ => by rw [Nat.sub_zero, line_full hv hs]; rfl
  | k + 1, hk => by
    have hn6 := hv.1
    have hp64 := pow_le64 hn6
    have ih := back_done hv hl hs k (by omega)
    have hm : zs.length - 1 - k < zs.length := by omega
    have e1 : zs.length - k = zs.length - 1 - k + 1 := by omega
    have e2 : zs.length - (k + 1) = zs.length - 1 - k := by omega
    have hok : ∀ i, i < zs.length - 1 - k → stepOk zs ls i = true := fun i hi => hs i (by omega)
    have h2 := (d_is (zs := zs) (ls := ls) (k := zs.length - 1 - k + 1) fun i hi => hs i (by omega)).2
    have e3 := d_succ hv hok (hs _ hm)
    have h3 := it_is (hs _ hm)
    have hb : (2 ^ zs.length - 1 - dN ls (zs.length - 1 - k + 1)).testBit (itN ls (zs.length - 1 - k)) = false := by
      rw [com_bit hn6 h2 (by omega), line_add hv hs hm]; simp
    unfold doneTo
    rw [ih, e1, e2, back_at hl (show k < zs.length from hk), h3.1, or_is (by omega) (by omega) hb]
    have hpx := Nat.two_pow_pos (itN ls (zs.length - 1 - k))
    congr 1
    omega
theorem back_step (hv : VoP zs) (hl : ls.length = zs.length) (hs : ∀ k, k < zs.length → stepOk zs ls k = true) {k : Nat} (hk : k < zs.length) : stepOk (du zs) ls.reverse k = true := by
  have hn6 := hv.1
  have hp64 := pow_le64 hn6
  have hm : zs.length - 1 - k < zs.length := by omega
  have e1 : zs.length - k = zs.length - 1 - k + 1 := by omega
  have hok : ∀ i, i < zs.length - 1 - k → stepOk zs ls i = true := fun i hi => hs i (by omega)
  have h2 := (d_is (zs := zs) (ls := ls) (k := zs.length - 1 - k + 1) fun i hi => hs i (by omega)).2
  have h3 := it_is (hs _ hm)
  have hnw := d_new hok (hs _ hm)
  have hI := line_ideal hv hs (zs.length - 1 - k) (by omega)
  have hb : (2 ^ zs.length - 1 - dN ls (zs.length - 1 - k + 1)).testBit (itN ls (zs.length - 1 - k)) = false := by
    rw [com_bit hn6 h2 (by omega), line_add hv hs hm]; simp
  unfold stepOk
  rw [back_at hl hk, back_done hv hl hs k (by omega), e1, h3.1, Int.toNat_natCast, bit_cast, hb, du_len, du_du hv]
  have hless : (lessI (zs[itN ls (zs.length - 1 - k)]?.getD 0) ((2 ^ zs.length - 1 - dN ls (zs.length - 1 - k + 1) : Nat) : Int) == 0) = true := by
    rw [beq_iff_eq, less_zero]
    intro j hj
    have hj2 : j < zs.length := by
      have := du_small hv (a := j) (j := itN ls (zs.length - 1 - k)) (by rw [du_bit hv.sets]; exact hj)
      exact this.2
    rw [com_bit hn6 h2 (by omega), decide_eq_true hj2, Bool.true_and, line_add hv hs hm]
    have hne : itN ls (zs.length - 1 - k) ≠ j := fun e => by
      have := hv.irrB h3.2
      rw [e] at hj this
      rw [hj] at this; cases this
    rw [decide_eq_false hne, Bool.or_false]
    cases e : (dN ls (zs.length - 1 - k)).testBit j
    · rfl
    · have := hI (itN ls (zs.length - 1 - k)) j e (by rw [du_bit hv.sets]; exact hj)
      rw [hnw] at this; cases this
  rw [hless]
  simp [inB]; omega
/-- A line backwards is one of the order turned round. -/
theorem line_back (hv : VoP zs) (hl : lineB zs ls = true) : lineB (du zs) ls.reverse = true := by
  obtain ⟨h1, hs⟩ := line_steps hl
  exact lineB_yes (m := zs.length) (by simp [h1]) (by rw [du_len]) fun k hk => back_step hv h1 hs hk
end
end Go.Proofs.Ytghogabmkbadjab

/- Orders beside each other, and one above the other: as both sides tell them. No program. -/
namespace Go.Proofs.Ytghogabmkbadjab
open Go.RowKit

/-- The sets of items behind n other ones. -/
def shl (n : Nat) (ys : List Int) : List Int := ys.map fun y => y * powI n
theorem shl_len (n : Nat) (ys : List Int) : (shl n ys).length = ys.length := by simp [shl]
theorem shl_get (n : Nat) (ys : List Int) {k : Nat} (hk : k < ys.length) : (shl n ys)[k]?.getD 0 = (ys[k]?.getD 0) * powI n := by
  unfold shl
  rw [List.getElem?_map, List.getElem?_eq_getElem hk]; rfl
theorem take_snocJ (l : List Int) {k : Nat} (hk : k < l.length) : l.take (k + 1) = l.take k ++ [l[k]?.getD 0] := by
  rw [List.take_succ_eq_append_getElem hk, List.getElem?_eq_getElem hk]; rfl
theorem shl_snoc (n : Nat) (ys : List Int) {k : Nat} (hk : k < ys.length) : (shl n ys).take (k + 1) = (shl n ys).take k ++ [(ys[k]?.getD 0) * powI n] := by
  rw [take_snocJ _ (by rw [shl_len]; exact hk), shl_get n ys hk]
/-- All items of the second order, behind n. -/
def behI (n m : Nat) : Int := (powI m - 1) * powI n
def uqS (n m : Nat) (over : Bool) (z : Int) : Int := if over then orI z (behI n m) else z
def uqL (n m : Nat) (over : Bool) (zs : List Int) : List Int := zs.map (uqS n m over)
theorem uqL_len (n m : Nat) (over : Bool) (zs : List Int) : (uqL n m over zs).length = zs.length := by simp [uqL]
theorem uqL_get (n m : Nat) (over : Bool) (zs : List Int) {k : Nat} (hk : k < zs.length) : (uqL n m over zs)[k]?.getD 0 = uqS n m over (zs[k]?.getD 0) := by
  unfold uqL
  rw [List.getElem?_map, List.getElem?_eq_getElem hk]; rfl
theorem uqL_snoc (n m : Nat) (over : Bool) (zs : List Int) {k : Nat} (hk : k < zs.length) : (uqL n m over zs).take (k + 1) = (uqL n m over zs).take k ++ [uqS n m over (zs[k]?.getD 0)] := by
  rw [take_snocJ _ (by rw [uqL_len]; exact hk), uqL_get n m over zs hk]
theorem uqL_false (n m : Nat) (zs : List Int) : uqL n m false zs = zs := by
  unfold uqL
  have : uqS n m false = id := by funext z; rfl
  rw [this, List.map_id]
def bothL (zs ys : List Int) (over : Bool) : List Int := uqL zs.length ys.length over zs ++ shl zs.length ys
theorem bothL_len (zs ys : List Int) (over : Bool) : (bothL zs ys over).length = zs.length + ys.length := by unfold bothL; rw [List.length_append, uqL_len, shl_len]
def bothB (zs ys : List Int) : Bool := vo zs && (vo ys && decide (zs.length + ys.length ≤ 6))
def bothR (zs ys : List Int) (over : Bool) : List Int := if bothB zs ys then bothL zs ys over else []
theorem bothR_le (zs ys : List Int) (over : Bool) : (bothR zs ys over).length ≤ 1048576 := by
  unfold bothR
  split
  · rename_i h
    unfold bothB at h
    simp only [Bool.and_eq_true, decide_eq_true_eq] at h
    rw [bothL_len]; omega
  · simp
theorem bothB_parts {zs ys : List Int} (h : bothB zs ys = true) : VoP zs ∧ VoP ys ∧ zs.length + ys.length ≤ 6 := by
  unfold bothB at h
  simp only [Bool.and_eq_true, decide_eq_true_eq] at h
  exact ⟨by simpa [vo] using h.1, by simpa [vo] using h.2.1, h.2.2⟩
theorem powI_add6 : ∀ n : Fin 7, ∀ m : Fin 7, powI (n.val : Int) * powI (m.val : Int) = powI ((n.val + m.val : Nat) : Int) := by decide +kernel
theorem beh_fin : ∀ n : Fin 7, ∀ m : Fin 7, n.val + m.val ≤ 6 → 0 ≤ behI n.val m.val ∧ behI n.val m.val < 64 ∧ lessI (powI ((n.val + m.val : Nat) : Int) - 1) (powI (n.val : Int) - 1) = behI n.val m.val := by decide +kernel
theorem beh_bd {n m : Nat} (h : n + m ≤ 6) : 0 ≤ behI n m ∧ behI n m < 64 := ⟨(beh_fin ⟨n, by omega⟩ ⟨m, by omega⟩ h).1, (beh_fin ⟨n, by omega⟩ ⟨m, by omega⟩ h).2.1⟩
theorem beh_less {n m : Nat} (h : n + m ≤ 6) : lessI (powI ((n + m : Nat) : Int) - 1) (powI (n : Int) - 1) = behI n m := (beh_fin ⟨n, by omega⟩ ⟨m, by omega⟩ h).2.2
theorem shl_bd {n m : Nat} {z : Int} (h0 : 0 ≤ z) (h1 : z < powI m) (h : n + m ≤ 6) : 0 ≤ z * powI n ∧ z * powI n < 64 := by
  have hp := powI_pos (n : Int)
  have e := powI_add6 ⟨n, by omega⟩ ⟨m, by omega⟩
  have h64 := powI_le6 (n := ((n + m : Nat) : Int)) (by omega)
  simp only at e
  refine ⟨Int.mul_nonneg h0 (by omega), ?_⟩
  have h2 : (z + 1) * powI n ≤ powI m * powI n := Int.mul_le_mul_of_nonneg_right (by omega) (by omega)
  rw [Int.add_mul, Int.one_mul, Int.mul_comm (powI m), e] at h2
  omega
end Go.Proofs.Ytghogabmkbadjab

/- Pairs of items of two orders: as both sides tell them. No program. -/
namespace Go.Proofs.Ytghogabmkbadjab
open Go.RowKit

/-- The pair k is above the pair i, or it. -/
def tmA (zs ys : List Int) (m i k : Nat) : Bool := bitB (orI (zs[i / m]?.getD 0) (powI ((i / m : Nat) : Int))) ((k / m : Nat) : Int) && bitB (orI (ys[i % m]?.getD 0) (powI ((i % m : Nat) : Int))) ((k % m : Nat) : Int)
def tmTo (zs ys : List Int) (m i : Nat) : Nat → Int
  | 0 => 0
  | k + 1 => if (i != k && tmA zs ys m i k) = true then orI (tmTo zs ys m i k) (powI (k : Int)) else tmTo zs ys m i k
theorem tmTo_bd (zs ys : List Int) (m i : Nat) : ∀ k : Nat, 0 ≤ tmTo zs ys m i k ∧ tmTo zs ys m i k < powI (k : Int)
  | 0 => ⟨Int.le_refl _, show (0 : Int) < powI ((0 : Nat) : Int) from powI_pos _⟩
  | k + 1 => by
    have ih := tmTo_bd zs ys m i k
    have h1 : powI (k : Int) < powI ((k + 1 : Nat) : Int) := powI_lt (Nat.lt_succ_self k)
    have hp := powI_pos (k : Int)
    unfold tmTo
    split
    · exact orI_bd ih.1 (by omega) (by omega) h1
    · omega
theorem tmTo_bit (zs ys : List Int) (m i j : Nat) : ∀ k : Nat, bitB (tmTo zs ys m i k) (j : Int) = (decide (j < k) && (i != j && tmA zs ys m i j))
  | 0 => by simp [tmTo, bitB_zero]
  | k + 1 => by
    have ih := tmTo_bit zs ys m i j k
    unfold tmTo
    by_cases hjk : j = k
    · subst hjk
      split
      · rename_i h; rw [bitB_or, bitB_pow, h]; simp
      · rename_i h
        rw [ih]
        have h' : (i != j && tmA zs ys m i j) = false := by simpa using h
        rw [h']; simp
    · have e1 : decide (j < k + 1) = decide (j < k) := by
        by_cases h : j < k
        · rw [decide_eq_true h, decide_eq_true (by omega)]
        · rw [decide_eq_false h, decide_eq_false (by omega)]
      rw [e1]
      split
      · rw [bitB_or, ih, bitB_pow, decide_eq_false (p := k = j) (fun e => hjk e.symm), Bool.or_false]
      · exact ih
def tmL (zs ys : List Int) : List Int := (List.range (zs.length * ys.length)).map fun i => tmTo zs ys ys.length i (zs.length * ys.length)
theorem tmL_len (zs ys : List Int) : (tmL zs ys).length = zs.length * ys.length := by simp [tmL]
theorem tmL_get (zs ys : List Int) {n m i : Nat} (hn : zs.length = n) (hm : ys.length = m) (hi : i < n * m) : (tmL zs ys)[i]?.getD 0 = tmTo zs ys m i (n * m) := by
  subst hn; subst hm
  unfold tmL
  rw [List.getElem?_map, List.getElem?_range hi]; rfl
theorem tmL_snoc (zs ys : List Int) {n m i : Nat} (hn : zs.length = n) (hm : ys.length = m) (hi : i < n * m) : (tmL zs ys).take (i + 1) = (tmL zs ys).take i ++ [tmTo zs ys m i (n * m)] := by
  rw [List.take_succ_eq_append_getElem (by rw [tmL_len, hn, hm]; exact hi)]
  have := tmL_get zs ys hn hm hi
  rw [List.getElem?_eq_getElem (by rw [tmL_len, hn, hm]; exact hi)] at this
  rw [← this]; rfl
def timesB (zs ys : List Int) : Bool := vo zs && (vo ys && decide (zs.length * ys.length ≤ 6))
def timesR (zs ys : List Int) : List Int := if timesB zs ys then tmL zs ys else []
theorem timesR_le (zs ys : List Int) : (timesR zs ys).length ≤ 1048576 := by
  unfold timesR
  split
  · rename_i h
    unfold timesB at h
    simp only [Bool.and_eq_true, decide_eq_true_eq] at h
    rw [tmL_len]; omega
  · simp
theorem timesB_parts {zs ys : List Int} (h : timesB zs ys = true) : VoP zs ∧ VoP ys ∧ zs.length * ys.length ≤ 6 := by
  unfold timesB at h
  simp only [Bool.and_eq_true, decide_eq_true_eq] at h
  exact ⟨by simpa [vo] using h.1, by simpa [vo] using h.2.1, h.2.2⟩
end Go.Proofs.Ytghogabmkbadjab

/- Pairs of items of two orders: as the program gathers them. No program. -/
namespace Go.Proofs.Ytghogabmkbadjab
open Go.RowKit

/-- What has been gathered for a pair when the items of a list are over. -/
def accP (m : Nat) (yq : Int) (pre : List Nat) : Int := pre.foldl (fun acc h => orI acc (yq * powI ((h * m : Nat) : Int))) 0
theorem accP_snoc (m : Nat) (yq : Int) (pre : List Nat) (h : Nat) : accP m yq (pre ++ [h]) = orI (accP m yq pre) (yq * powI ((h * m : Nat) : Int)) := by simp [accP]
theorem mulpow_bit {y : Int} (h0 : 0 ≤ y) (d k : Nat) : bitB (y * powI (d : Int)) (k : Int) = (decide (d ≤ k) && bitB y ((k - d : Nat) : Int)) := by
  obtain ⟨u, rfl⟩ := Int.eq_ofNat_of_zero_le h0
  have e : ((u : Int) * powI (d : Int)).toNat = u * 2 ^ d := by
    have : (u : Int) * powI (d : Int) = ((u * 2 ^ d : Nat) : Int) := by simp [powI]
    rw [this, Int.toNat_natCast]
  unfold bitB
  rw [e, Int.toNat_natCast, Int.toNat_natCast, Int.toNat_natCast, Nat.mul_comm, Nat.testBit_two_pow_mul]
theorem mulpow_bd {n m h : Nat} {yq : Int} (h0 : 0 ≤ yq) (h1 : yq < powI (m : Int)) (hh : h < n) : 0 ≤ yq * powI ((h * m : Nat) : Int) ∧ yq * powI ((h * m : Nat) : Int) < powI ((n * m : Nat) : Int) := by
  have hp := powI_pos ((h * m : Nat) : Int)
  refine ⟨Int.mul_nonneg h0 (by omega), ?_⟩
  have h2 : (yq + 1) * powI ((h * m : Nat) : Int) ≤ powI (m : Int) * powI ((h * m : Nat) : Int) := Int.mul_le_mul_of_nonneg_right (by omega) (by omega)
  have e : powI (m : Int) * powI ((h * m : Nat) : Int) = powI ((m + h * m : Nat) : Int) := by unfold powI; rw [Int.toNat_natCast, Int.toNat_natCast, Int.toNat_natCast, Int.pow_add]
  have h3 : powI ((m + h * m : Nat) : Int) ≤ powI ((n * m : Nat) : Int) := powI_le (by
    have : m + h * m = (h + 1) * m := by rw [Nat.add_mul, Nat.one_mul, Nat.add_comm]
    rw [this]
    exact_mod_cast Nat.mul_le_mul_right m hh)
  rw [e, Int.add_mul, Int.one_mul] at h2
  omega
theorem accP_bd {n m : Nat} {yq : Int} (h0 : 0 ≤ yq) (h1 : yq < powI (m : Int)) : ∀ pre : List Nat, (∀ h ∈ pre, h < n) → 0 ≤ accP m yq pre ∧ accP m yq pre < powI ((n * m : Nat) : Int) := fun pre => by
  have key : ∀ l : List Nat, (∀ h ∈ l.reverse, h < n) → 0 ≤ accP m yq l.reverse ∧ accP m yq l.reverse < powI ((n * m : Nat) : Int) := fun l => by
    induction l with
    | nil => intro _; exact ⟨Int.le_refl _, powI_pos _⟩
    | cons x l ih =>
      intro hl
      rw [List.reverse_cons] at hl ⊢
      have ih := ih fun h hh => hl h (by simp at hh ⊢; exact .inl hh)
      have hb := mulpow_bd (n := n) (h := x) h0 h1 (hl x (by simp))
      rw [accP_snoc]
      exact orI_bd ih.1 ih.2 hb.1 hb.2
  intro h
  have := key pre.reverse (by rw [List.reverse_reverse]; exact h)
  rwa [List.reverse_reverse] at this
theorem accP_bit {m : Nat} {yq : Int} (h0 : 0 ≤ yq) (k : Nat) : ∀ pre : List Nat, bitB (accP m yq pre) (k : Int) = pre.any fun h => decide (h * m ≤ k) && bitB yq ((k - h * m : Nat) : Int) := fun pre => by
  have key : ∀ l : List Nat, bitB (accP m yq l.reverse) (k : Int) = l.reverse.any fun h => decide (h * m ≤ k) && bitB yq ((k - h * m : Nat) : Int) := fun l => by
    induction l with
    | nil => simp [accP, bitB_zero]
    | cons x l ih => rw [List.reverse_cons, accP_snoc, bitB_or, ih, mulpow_bit h0, List.any_append]; simp
  have := key pre.reverse
  rwa [List.reverse_reverse] at this
theorem acc_done {zs ys : List Int} {n m a b : Nat} (_hn : zs.length = n) (_hm : ys.length = m) (_hnm : n * m ≤ 6) (hz : 0 ≤ orI (zs[a]?.getD 0) (powI (a : Int)) ∧ orI (zs[a]?.getD 0) (powI (a : Int)) < powI (n : Int)) (hz64 : orI (zs[a]?.getD 0) (powI (a : Int)) < 64)
    (hy : 0 ≤ orI (ys[b]?.getD 0) (powI (b : Int)) ∧ orI (ys[b]?.getD 0) (powI (b : Int)) < powI (m : Int)) (hbm : b < m) :
    lessI (accP m (orI (ys[b]?.getD 0) (powI (b : Int))) (itemsL (orI (zs[a]?.getD 0) (powI (a : Int))))) (powI ((a * m + b : Nat) : Int)) = tmTo zs ys m (a * m + b) (n * m) := by
  have hm0 : 0 < m := by omega
  have hd : (a * m + b) / m = a := by rw [Nat.mul_comm, Nat.mul_add_div hm0, Nat.div_eq_of_lt hbm, Nat.add_zero]
  have hr : (a * m + b) % m = b := by rw [Nat.mul_comm, Nat.mul_add_mod, Nat.mod_eq_of_lt hbm]
  have htb := tmTo_bd zs ys m (a * m + b) (n * m)
  refine bitB_ext (lessI_bd _ _).1 htb.1 fun k => ?_
  rw [bitB_less, bitB_pow, accP_bit hy.1, tmTo_bit]
  unfold tmA
  rw [hd, hr]
  have key : ((itemsL (orI (zs[a]?.getD 0) (powI (a : Int)))).any fun h => decide (h * m ≤ k) && bitB (orI (ys[b]?.getD 0) (powI (b : Int))) ((k - h * m : Nat) : Int)) =
      (bitB (orI (zs[a]?.getD 0) (powI (a : Int))) ((k / m : Nat) : Int) && bitB (orI (ys[b]?.getD 0) (powI (b : Int))) ((k % m : Nat) : Int)) := by
    rw [Bool.eq_iff_iff, List.any_eq_true, Bool.and_eq_true]
    constructor
    · rintro ⟨h, hh, h2⟩
      rw [Bool.and_eq_true, decide_eq_true_eq] at h2
      obtain ⟨r, rfl⟩ : ∃ r, k = h * m + r := ⟨k - h * m, by omega⟩
      have hb := bitB_lt hy.2 h2.2
      rw [Nat.add_sub_cancel_left] at hb h2
      have e1 : (h * m + r) / m = h := by rw [Nat.mul_comm, Nat.mul_add_div hm0, Nat.div_eq_of_lt hb, Nat.add_zero]
      have e2 : (h * m + r) % m = r := by rw [Nat.mul_comm, Nat.mul_add_mod, Nat.mod_eq_of_lt hb]
      rw [e1, e2]
      exact ⟨(mem_itemsL hz64).1 hh, h2.2⟩
    · rintro ⟨h1, h2⟩
      refine ⟨k / m, (mem_itemsL hz64).2 h1, ?_⟩
      rw [Bool.and_eq_true, decide_eq_true_eq]
      have e : k / m * m + k % m = k := by rw [Nat.mul_comm]; exact Nat.div_add_mod k m
      refine ⟨by omega, ?_⟩
      have : k - k / m * m = k % m := by omega
      rw [this]; exact h2
  rw [key]
  cases h1 : bitB (orI (zs[a]?.getD 0) (powI (a : Int))) ((k / m : Nat) : Int)
  · simp
  · have hkn : k / m < n := bitB_lt hz.2 h1
    have hk : k < n * m := (Nat.div_lt_iff_lt_mul hm0).1 hkn
    rw [decide_eq_true hk]
    cases bitB (orI (ys[b]?.getD 0) (powI (b : Int))) ((k % m : Nat) : Int) <;> simp
    by_cases e : a * m + b = k <;> simp [e]
end Go.Proofs.Ytghogabmkbadjab

/- Pairs of items of two orders: an order, its greatest chain, turned round (mathematics). No program. -/
namespace Go.Proofs.Ytghogabmkbadjab
open Go.RowKit

/-- At or below. -/
def leq (zs : List Int) (a b : Nat) : Prop := a = b ∨ lt zs a b
theorem lt_irr' {zs : List Int} (h : VoP zs) {a : Nat} : ¬ lt zs a a := h.irr
theorem leq_trans {zs : List Int} (h : VoP zs) {a b c : Nat} (h1 : leq zs a b) (h2 : leq zs b c) : leq zs a c := by
  rcases h1 with rfl | h1
  · exact h2
  · rcases h2 with rfl | h2
    · exact .inr h1
    · exact .inr (h.trans h1 h2)
theorem leq_asym {zs : List Int} (h : VoP zs) {a b : Nat} (h1 : leq zs a b) (h2 : leq zs b a) : a = b := by
  rcases h1 with e | h1
  · exact e
  · rcases h2 with e | h2
    · exact e.symm
    · exact absurd (h.trans h1 h2) h.irr
theorem leq_bit {zs : List Int} {a b : Nat} (ha : a < zs.length) : bitB (orI (zs[a]?.getD 0) (powI (a : Int))) (b : Int) = true ↔ leq zs a b := by
  rw [bitB_or, bitB_pow, Bool.or_eq_true, decide_eq_true_eq]
  unfold leq lt
  constructor
  · rintro (h | h)
    · exact .inr ⟨ha, h⟩
    · exact .inl h
  · rintro (h | h)
    · exact .inr h
    · exact .inl h.2
theorem leq_hgt {zs : List Int} (h : VoP zs) {a b : Nat} (h1 : leq zs a b) : hgt zs a ≤ hgt zs b := by
  rcases h1 with rfl | h1
  · exact Int.le_refl _
  · have := hgt_up h h1; omega
section
variable {zs ys : List Int} {n m : Nat}
theorem tm_lt (hn : zs.length = n) (hm : ys.length = m) {i k : Nat} : lt (tmL zs ys) i k ↔ i < n * m ∧ k < n * m ∧ i ≠ k ∧ leq zs (i / m) (k / m) ∧ leq ys (i % m) (k % m) := by
  unfold lt
  rw [tmL_len, hn, hm]
  constructor
  · rintro ⟨hi, hb⟩
    rw [tmL_get zs ys hn hm hi, tmTo_bit] at hb
    have hm0 : 0 < m := by
      rcases Nat.eq_zero_or_pos m with e | e
      · rw [e, Nat.mul_zero] at hi; omega
      · exact e
    unfold tmA at hb
    simp only [Bool.and_eq_true, decide_eq_true_eq, bne_iff_ne] at hb
    obtain ⟨hk, hne, h1, h2⟩ := hb
    exact ⟨hi, hk, hne, (leq_bit (by rw [hn]; exact (Nat.div_lt_iff_lt_mul hm0).2 hi)).1 h1, (leq_bit (by rw [hm]; exact Nat.mod_lt _ hm0)).1 h2⟩
  · rintro ⟨hi, hk, hne, h1, h2⟩
    have hm0 : 0 < m := by
      rcases Nat.eq_zero_or_pos m with e | e
      · rw [e, Nat.mul_zero] at hi; omega
      · exact e
    refine ⟨hi, ?_⟩
    rw [tmL_get zs ys hn hm hi, tmTo_bit]
    unfold tmA
    simp only [Bool.and_eq_true, decide_eq_true_eq, bne_iff_ne]
    exact ⟨hk, hne, (leq_bit (by rw [hn]; exact (Nat.div_lt_iff_lt_mul hm0).2 hi)).2 h1, (leq_bit (by rw [hm]; exact Nat.mod_lt _ hm0)).2 h2⟩
theorem pair_eq {m i k : Nat} (h1 : i / m = k / m) (h2 : i % m = k % m) : i = k := by
  have e1 := Nat.div_add_mod i m
  have e2 := Nat.div_add_mod k m
  rw [h1, h2] at e1
  omega
theorem tm_bits (hn : zs.length = n) (hm : ys.length = m) {i k : Nat} (hi : i < n * m) : bitB ((tmL zs ys)[i]?.getD 0) (k : Int) = true ↔ lt (tmL zs ys) i k := by
  unfold lt
  rw [tmL_len, hn, hm]
  exact ⟨fun h => ⟨hi, h⟩, fun h => h.2⟩
theorem tm_vo (hn : zs.length = n) (hm : ys.length = m) (hv : VoP zs) (hv' : VoP ys) (h6 : n * m ≤ 6) : VoP (tmL zs ys) := by
  have hl : (tmL zs ys).length = n * m := by rw [tmL_len, hn, hm]
  refine ⟨by rw [hl]; exact h6, fun a ha => ?_, fun a ha b hb => ?_⟩
  · rw [hl] at ha
    have hb := tmTo_bd zs ys m a (n * m)
    have e : bitB ((tmL zs ys)[a]?.getD 0) (a : Int) = false := by
      cases e : bitB ((tmL zs ys)[a]?.getD 0) (a : Int)
      · rfl
      · exact absurd rfl ((tm_lt hn hm).1 ((tm_bits hn hm ha).1 e)).2.2.1
    unfold okA inB
    rw [e, tmL_get zs ys hn hm ha, hl]
    simp only [Bool.not_false, Bool.and_true, decide_eq_true_eq]
    omega
  · rw [hl] at ha hb
    unfold okP
    cases e : bitB ((tmL zs ys)[a]?.getD 0) (b : Int)
    · rfl
    · obtain ⟨_, _, hne, h1, h2⟩ := (tm_lt hn hm).1 ((tm_bits hn hm ha).1 e)
      have hl1 : lessI ((tmL zs ys)[b]?.getD 0) ((tmL zs ys)[a]?.getD 0) = 0 := by
        refine bitB_ext (lessI_bd _ _).1 (Int.le_refl _) fun j => ?_
        rw [bitB_less, bitB_zero]
        cases e1 : bitB ((tmL zs ys)[b]?.getD 0) (j : Int)
        · rfl
        · obtain ⟨_, hj, hne2, h3, h4⟩ := (tm_lt hn hm).1 ((tm_bits hn hm hb).1 e1)
          have : lt (tmL zs ys) a j := (tm_lt hn hm).2 ⟨ha, hj, fun ej => by
            subst ej
            exact hne (pair_eq (leq_asym hv h1 h3) (leq_asym hv' h2 h4)), leq_trans hv h1 h3, leq_trans hv' h2 h4⟩
          rw [(tm_bits hn hm ha).2 this]; rfl
      have h2' : bitB ((tmL zs ys)[b]?.getD 0) (a : Int) = false := by
        cases e2 : bitB ((tmL zs ys)[b]?.getD 0) (a : Int)
        · rfl
        · obtain ⟨_, _, _, h3, h4⟩ := (tm_lt hn hm).1 ((tm_bits hn hm hb).1 e2)
          exact absurd (pair_eq (leq_asym hv h1 h3) (leq_asym hv' h2 h4)) hne
      rw [hl1, h2']; rfl
theorem mk_div {m a b : Nat} (hb : b < m) : (a * m + b) / m = a := by rw [Nat.mul_comm, Nat.mul_add_div (by omega), Nat.div_eq_of_lt hb, Nat.add_zero]
theorem mk_mod {m a b : Nat} (hb : b < m) : (a * m + b) % m = b := by rw [Nat.mul_comm, Nat.mul_add_mod, Nat.mod_eq_of_lt hb]
theorem mk_lt {n m a b : Nat} (ha : a < n) (hb : b < m) : a * m + b < n * m := by
  have h1 : (a + 1) * m ≤ n * m := Nat.mul_le_mul_right m ha
  rw [Nat.add_mul, Nat.one_mul] at h1
  omega
theorem lt_len {zs : List Int} (h : VoP zs) {a b : Nat} (hl : lt zs a b) : a < zs.length ∧ b < zs.length := ⟨hl.1, h.lt_n hl⟩
theorem tm_hgt_ge (hn : zs.length = n) (hm : ys.length = m) (hv : VoP zs) (hv' : VoP ys) (h6 : n * m ≤ 6) : ∀ (d a b : Nat), a < n → b < m → hgt zs a + hgt ys b = (d : Int) → hgt zs a + hgt ys b ≤ hgt (tmL zs ys) (a * m + b)
  | 0, a, b, ha, hb, hd => by have := hgt_nn (tmL zs ys) (a * m + b); omega
  | d + 1, a, b, ha, hb, hd => by
    have hV := tm_vo hn hm hv hv' h6
    rcases hgt_eq hv (b := a) (by rw [hn]; exact ha) with e | ⟨a', h1, h2⟩
    · rcases hgt_eq hv' (b := b) (by rw [hm]; exact hb) with e' | ⟨b', h1, h2⟩
      · omega
      · have hb' := (lt_len hv' h1).1
        rw [hm] at hb'
        have ih := tm_hgt_ge hn hm hv hv' h6 d a b' ha hb' (by omega)
        have hl : lt (tmL zs ys) (a * m + b') (a * m + b) := (tm_lt hn hm).2 ⟨mk_lt ha hb', mk_lt ha hb, fun e => by
          have : b' = b := by omega
          subst this; exact absurd h1 hv'.irr, .inl (by rw [mk_div hb', mk_div hb]), .inr (by rw [mk_mod hb', mk_mod hb]; exact h1)⟩
        have := hgt_up hV hl
        omega
    · have ha' := (lt_len hv h1).1
      rw [hn] at ha'
      have ih := tm_hgt_ge hn hm hv hv' h6 d a' b ha' hb (by omega)
      have hl : lt (tmL zs ys) (a' * m + b) (a * m + b) := (tm_lt hn hm).2 ⟨mk_lt ha' hb, mk_lt ha hb, fun e => by
        have e1 := mk_div (a := a') hb
        rw [e, mk_div hb] at e1
        subst e1; exact absurd h1 hv.irr, .inr (by rw [mk_div hb, mk_div hb]; exact h1), .inl (by rw [mk_mod hb, mk_mod hb])⟩
      have := hgt_up hV hl
      omega
theorem tm_hgt_le (hn : zs.length = n) (hm : ys.length = m) (hv : VoP zs) (hv' : VoP ys) (h6 : n * m ≤ 6) : ∀ (d i : Nat), i < n * m → hgt (tmL zs ys) i = (d : Int) → hgt (tmL zs ys) i ≤ hgt zs (i / m) + hgt ys (i % m)
  | 0, i, hi, hd => by have h1 := hgt_nn zs (i / m); have h2 := hgt_nn ys (i % m); omega
  | d + 1, i, hi, hd => by
    have hV := tm_vo hn hm hv hv' h6
    rcases hgt_eq hV (b := i) (by rw [tmL_len, hn, hm]; exact hi) with e | ⟨j, h1, h2⟩
    · have h1 := hgt_nn zs (i / m); have h2 := hgt_nn ys (i % m); omega
    · obtain ⟨hj, _, hne, h3, h4⟩ := (tm_lt hn hm).1 h1
      have ih := tm_hgt_le hn hm hv hv' h6 d j hj (by omega)
      rcases h3 with e3 | h3
      · rcases h4 with e4 | h4
        · exact absurd (pair_eq e3 e4) hne
        · have := hgt_up hv' h4
          rw [e3] at ih
          omega
      · have := hgt_up hv h3
        have := leq_hgt hv' h4
        omega
theorem tm_hgt (hn : zs.length = n) (hm : ys.length = m) (hv : VoP zs) (hv' : VoP ys) (h6 : n * m ≤ 6) {i : Nat} (hi : i < n * m) : hgt (tmL zs ys) i = hgt zs (i / m) + hgt ys (i % m) := by
  have hm0 : 0 < m := by
    rcases Nat.eq_zero_or_pos m with e | e
    · rw [e, Nat.mul_zero] at hi; omega
    · exact e
  have ha : i / m < n := (Nat.div_lt_iff_lt_mul hm0).2 hi
  have hb : i % m < m := Nat.mod_lt _ hm0
  obtain ⟨d, hd⟩ := Int.eq_ofNat_of_zero_le (hgt_nn (tmL zs ys) i)
  obtain ⟨d', hd'⟩ := Int.eq_ofNat_of_zero_le (show 0 ≤ hgt zs (i / m) + hgt ys (i % m) by have h1 := hgt_nn zs (i / m); have h2 := hgt_nn ys (i % m); omega)
  have h1 := tm_hgt_le hn hm hv hv' h6 d i hi hd
  have h2 := tm_hgt_ge hn hm hv hv' h6 d' (i / m) (i % m) ha hb hd'
  have e : i / m * m + i % m = i := by rw [Nat.mul_comm]; exact Nat.div_add_mod i m
  rw [e] at h2
  omega
theorem tm_long (hn : zs.length = n) (hm : ys.length = m) (hv : VoP zs) (hv' : VoP ys) (h6 : n * m ≤ 6) (h0 : 0 < n * m) : longI (tmL zs ys) = longI zs + longI ys - 1 := by
  have hl : (tmL zs ys).length = n * m := by rw [tmL_len, hn, hm]
  have hm0 : 0 < m := by
    rcases Nat.eq_zero_or_pos m with e | e
    · rw [e, Nat.mul_zero] at h0; omega
    · exact e
  have hn0 : 0 < n := by
    rcases Nat.eq_zero_or_pos n with e | e
    · rw [e, Nat.zero_mul] at h0; omega
    · exact e
  unfold longI
  rw [hl, hn, hm]
  have g1 := maxL_ge (hgt (tmL zs ys)) (List.range (n * m))
  have g2 := maxL_ge (hgt zs) (List.range n)
  have g3 := maxL_ge (hgt ys) (List.range m)
  refine Int.le_antisymm ?_ ?_
  · rcases maxL_eq (hgt (tmL zs ys)) (List.range (n * m)) with e | ⟨i, hi, e⟩
    · have := g1.2 0 (by simpa using h0)
      have := hgt_nn (tmL zs ys) 0
      omega
    · have hi := List.mem_range.1 hi
      rw [e, tm_hgt hn hm hv hv' h6 hi]
      have h1 := g2.2 (i / m) (List.mem_range.2 ((Nat.div_lt_iff_lt_mul hm0).2 hi))
      have h2 := g3.2 (i % m) (List.mem_range.2 (Nat.mod_lt _ hm0))
      omega
  · rcases maxL_eq (hgt zs) (List.range n) with e | ⟨a, ha, e⟩
    · have := g2.2 0 (by simpa using hn0)
      have := hgt_nn zs 0
      omega
    · rcases maxL_eq (hgt ys) (List.range m) with e' | ⟨b, hb, e'⟩
      · have := g3.2 0 (by simpa using hm0)
        have := hgt_nn ys 0
        omega
      · have ha := List.mem_range.1 ha
        have hb := List.mem_range.1 hb
        have h1 := g1.2 (a * m + b) (List.mem_range.2 (mk_lt ha hb))
        rw [tm_hgt hn hm hv hv' h6 (mk_lt ha hb), mk_div hb, mk_mod hb] at h1
        omega
theorem du_leq (h : VoP zs) {a b : Nat} : leq (du zs) a b ↔ leq zs b a := by
  unfold leq
  rw [du_lt h]
  exact ⟨fun e => e.imp Eq.symm id, fun e => e.imp Eq.symm id⟩
theorem tm_du (hn : zs.length = n) (hm : ys.length = m) (hv : VoP zs) (hv' : VoP ys) (h6 : n * m ≤ 6) : du (tmL zs ys) = tmL (du zs) (du ys) := by
  have hV := tm_vo hn hm hv hv' h6
  have hn' : (du zs).length = n := by rw [du_len, hn]
  have hm' : (du ys).length = m := by rw [du_len, hm]
  have hV' := tm_vo hn' hm' (du_vo hv) (du_vo hv') h6
  have hl : (du (tmL zs ys)).length = n * m := by rw [du_len, tmL_len, hn, hm]
  have hl' : (tmL (du zs) (du ys)).length = n * m := by rw [tmL_len, hn', hm']
  refine List.ext_getElem (by rw [hl, hl']) fun i h1 h2 => ?_
  have hi : i < n * m := by rw [← hl]; exact h1
  have e1 := (du_vo hV).bd i h1
  have e2 := hV'.bd i h2
  have hb : ∀ k : Nat, bitB ((du (tmL zs ys))[i]?.getD 0) (k : Int) = bitB ((tmL (du zs) (du ys))[i]?.getD 0) (k : Int) := fun k => by
    have key : lt (du (tmL zs ys)) i k ↔ lt (tmL (du zs) (du ys)) i k := by
      rw [du_lt hV, tm_lt hn hm, tm_lt hn' hm', du_leq hv, du_leq hv']
      constructor
      · rintro ⟨a1, a2, a3, a4, a5⟩; exact ⟨a2, a1, fun e => a3 e.symm, a4, a5⟩
      · rintro ⟨a1, a2, a3, a4, a5⟩; exact ⟨a2, a1, fun e => a3 e.symm, a4, a5⟩
    unfold lt at key
    rw [hl, hl'] at key
    rw [Bool.eq_iff_iff]
    exact ⟨fun e => (key.1 ⟨hi, e⟩).2, fun e => (key.2 ⟨hi, e⟩).2⟩
  have := bitB_ext e1.1 e2.1 hb
  rwa [List.getElem?_eq_getElem h1, List.getElem?_eq_getElem h2, Option.getD_some, Option.getD_some] at this
end
end Go.Proofs.Ytghogabmkbadjab

/- Orders beside each other, and one above the other: orders, their longest chains and widest sets apart (mathematics). No program. -/
namespace Go.Proofs.Ytghogabmkbadjab
open Go.RowKit

theorem onesB_fin : ∀ m : Fin 7, ∀ j : Fin 7, bitB (powI (m.val : Int) - 1) (j.val : Int) = decide (j.val < m.val) := by decide +kernel
theorem onesB_bit {m : Nat} (hm : m ≤ 6) (j : Nat) : bitB (powI (m : Int) - 1) (j : Int) = decide (j < m) := by
  rcases Nat.lt_or_ge j 7 with h | h
  · exact onesB_fin ⟨m, by omega⟩ ⟨j, h⟩
  · have hp := powI_pos (m : Int)
    cases e : bitB (powI (m : Int) - 1) (j : Int)
    · rw [decide_eq_false (by omega)]
    · have := bitB_lt (n := m) (by omega : powI (m : Int) - 1 < powI (m : Int)) e
      omega
section
variable {zs ys : List Int} {n m : Nat} {over : Bool}
theorem both_get1 (hn : zs.length = n) (hm : ys.length = m) {a : Nat} (ha : a < n) : (bothL zs ys over)[a]?.getD 0 = uqS n m over (zs[a]?.getD 0) := by
  unfold bothL
  rw [List.getElem?_append_left (by rw [uqL_len, hn]; exact ha), hn, hm]
  exact uqL_get n m over zs (by rw [hn]; exact ha)
theorem both_get2 (hn : zs.length = n) (hm : ys.length = m) {b : Nat} (hb : b < m) : (bothL zs ys over)[n + b]?.getD 0 = (ys[b]?.getD 0) * powI n := by
  unfold bothL
  rw [List.getElem?_append_right (by rw [uqL_len, hn]; omega), uqL_len, hn, Nat.add_sub_cancel_left]
  exact shl_get n ys (by rw [hm]; exact hb)
theorem beh_bit (h6 : n + m ≤ 6) (j : Nat) : bitB (behI n m) (j : Int) = (decide (n ≤ j) && decide (j - n < m)) := by
  unfold behI
  have hp := powI_pos (m : Int)
  rw [mulpow_bit (by omega), onesB_bit (by omega)]
theorem both_lt (hn : zs.length = n) (hm : ys.length = m) (hv : VoP zs) (hv' : VoP ys) (h6 : n + m ≤ 6) {a b : Nat} :
    lt (bothL zs ys over) a b ↔ (a < n ∧ b < n ∧ lt zs a b) ∨ (n ≤ a ∧ n ≤ b ∧ lt ys (a - n) (b - n)) ∨ (over = true ∧ a < n ∧ n ≤ b ∧ b < n + m) := by
  have hl : (bothL zs ys over).length = n + m := by rw [bothL_len, hn, hm]
  unfold lt
  rw [hl]
  rcases Nat.lt_or_ge a n with ha | ha
  · rw [both_get1 hn hm ha]
    have hz := hv.bd a (by rw [hn]; exact ha)
    have hlt : bitB (zs[a]?.getD 0) (b : Int) = true → b < n := fun e => by
      have := bitB_lt (hv.sets.2 a (by rw [hn]; exact ha)).2 e
      rw [hn] at this; exact this
    cases over
    · unfold uqS
      simp only [Bool.false_eq_true, if_false, false_and, or_false]
      constructor
      · rintro ⟨_, e⟩; exact .inl ⟨ha, hlt e, by rw [hn]; exact ha, e⟩
      · rintro (⟨_, _, _, e⟩ | ⟨h1, _⟩)
        · exact ⟨by omega, e⟩
        · omega
    · unfold uqS
      simp only [if_true, true_and]
      rw [bitB_or, beh_bit h6, Bool.or_eq_true, Bool.and_eq_true, decide_eq_true_eq, decide_eq_true_eq]
      constructor
      · rintro ⟨_, e | ⟨h1, h2⟩⟩
        · exact .inl ⟨ha, hlt e, by rw [hn]; exact ha, e⟩
        · exact .inr (.inr ⟨ha, h1, by omega⟩)
      · rintro (⟨_, _, _, e⟩ | ⟨h1, _⟩ | ⟨_, h1, h2⟩)
        · exact ⟨by omega, .inl e⟩
        · omega
        · exact ⟨by omega, .inr ⟨h1, by omega⟩⟩
  · constructor
    · rintro ⟨h1, e⟩
      obtain ⟨c, rfl⟩ : ∃ c, a = n + c := ⟨a - n, by omega⟩
      have hc : c < m := by omega
      have hy := hv'.bd c (by rw [hm]; exact hc)
      rw [both_get2 hn hm hc, mulpow_bit hy.1, Bool.and_eq_true, decide_eq_true_eq] at e
      exact .inr (.inl ⟨ha, e.1, by rw [Nat.add_sub_cancel_left, hm]; exact hc, by rw [Nat.add_sub_cancel_left]; exact e.2⟩)
    · rintro (⟨h1, _⟩ | ⟨_, h1, h2, e⟩ | ⟨_, h1, _⟩)
      · omega
      · obtain ⟨c, rfl⟩ : ∃ c, a = n + c := ⟨a - n, by omega⟩
        rw [Nat.add_sub_cancel_left] at h2 e
        rw [hm] at h2
        have hy := hv'.bd c (by rw [hm]; exact h2)
        refine ⟨by omega, ?_⟩
        rw [both_get2 hn hm h2, mulpow_bit hy.1, decide_eq_true h1]
        exact e
      · omega
theorem both_bd (hn : zs.length = n) (hm : ys.length = m) (hv : VoP zs) (hv' : VoP ys) (h6 : n + m ≤ 6) {a : Nat} (ha : a < n + m) : 0 ≤ (bothL zs ys over)[a]?.getD 0 ∧ (bothL zs ys over)[a]?.getD 0 < powI ((n + m : Nat) : Int) := by
  have e6 := powI_add6 ⟨n, by omega⟩ ⟨m, by omega⟩
  simp only at e6
  have hle : powI (n : Int) ≤ powI ((n + m : Nat) : Int) := powI_le (by omega)
  have hpn := powI_pos (n : Int)
  rcases Nat.lt_or_ge a n with h | h
  · rw [both_get1 hn hm h]
    have hz := hv.sets.2 a (by rw [hn]; exact h)
    rw [hn] at hz
    unfold uqS
    split
    · have hb := beh_bd h6
      have hb2 : behI n m < powI ((n + m : Nat) : Int) := by
        unfold behI
        rw [Int.sub_mul, Int.one_mul, Int.mul_comm (powI (m : Int)), e6]
        omega
      exact orI_bd hz.1 (by omega) hb.1 hb2
    · omega
  · obtain ⟨c, rfl⟩ : ∃ c, a = n + c := ⟨a - n, by omega⟩
    have hc : c < m := by omega
    have hy := hv'.sets.2 c (by rw [hm]; exact hc)
    rw [hm] at hy
    rw [both_get2 hn hm hc]
    have h2 : (ys[c]?.getD 0 + 1) * powI (n : Int) ≤ powI (m : Int) * powI (n : Int) := Int.mul_le_mul_of_nonneg_right (by omega) (by omega)
    rw [Int.add_mul, Int.one_mul, Int.mul_comm (powI (m : Int)), e6] at h2
    exact ⟨Int.mul_nonneg hy.1 (by omega), by omega⟩
/-- A list of sets whose relation is one of orders is an order. -/
theorem vo_of_lt {B : List Int} (h6 : B.length ≤ 6) (hb : ∀ a, a < B.length → 0 ≤ B[a]?.getD 0 ∧ B[a]?.getD 0 < powI B.length) (hi : ∀ a, ¬ lt B a a) (ht : ∀ a b c, lt B a b → lt B b c → lt B a c) : VoP B := by
  have has : ∀ a b, lt B a b → ¬ lt B b a := fun a b h1 h2 => hi a (ht a b a h1 h2)
  refine ⟨h6, fun a ha => ?_, fun a ha b hb' => ?_⟩
  · have h1 := hb a ha
    have e : bitB (B[a]?.getD 0) (a : Int) = false := by
      cases e : bitB (B[a]?.getD 0) (a : Int)
      · rfl
      · exact absurd ⟨ha, e⟩ (hi a)
    unfold okA inB
    rw [e]
    simp only [Bool.not_false, Bool.and_true, decide_eq_true_eq]
    omega
  · unfold okP
    cases e : bitB (B[a]?.getD 0) (b : Int)
    · rfl
    · have hl1 : lessI (B[b]?.getD 0) (B[a]?.getD 0) = 0 := by
        refine bitB_ext (lessI_bd _ _).1 (Int.le_refl _) fun j => ?_
        rw [bitB_less, bitB_zero]
        cases e1 : bitB (B[b]?.getD 0) (j : Int)
        · rfl
        · rw [(ht a b j ⟨ha, e⟩ ⟨hb', e1⟩).2]; rfl
      have h2' : bitB (B[b]?.getD 0) (a : Int) = false := by
        cases e2 : bitB (B[b]?.getD 0) (a : Int)
        · rfl
        · exact absurd ⟨hb', e2⟩ (has a b ⟨ha, e⟩)
      rw [hl1, h2']; rfl
theorem both_vo (hn : zs.length = n) (hm : ys.length = m) (hv : VoP zs) (hv' : VoP ys) (h6 : n + m ≤ 6) : VoP (bothL zs ys over) := by
  have hl : (bothL zs ys over).length = n + m := by rw [bothL_len, hn, hm]
  refine vo_of_lt (by rw [hl]; exact h6) (fun a ha => by rw [hl] at ha ⊢; exact both_bd hn hm hv hv' h6 ha) (fun a h => ?_) (fun a b c h1 h2 => ?_)
  · rcases (both_lt hn hm hv hv' h6).1 h with ⟨_, _, h⟩ | ⟨_, _, h⟩ | ⟨_, h1, h2, _⟩
    · exact hv.irr h
    · exact hv'.irr h
    · omega
  · rcases (both_lt hn hm hv hv' h6).1 h1 with ⟨a1, a2, a3⟩ | ⟨a1, a2, a3⟩ | ⟨a1, a2, a3, a4⟩
    · rcases (both_lt hn hm hv hv' h6).1 h2 with ⟨b1, b2, b3⟩ | ⟨b1, b2, b3⟩ | ⟨b1, b2, b3, b4⟩
      · exact (both_lt hn hm hv hv' h6).2 (.inl ⟨a1, b2, hv.trans a3 b3⟩)
      · omega
      · exact (both_lt hn hm hv hv' h6).2 (.inr (.inr ⟨b1, a1, b3, b4⟩))
    · rcases (both_lt hn hm hv hv' h6).1 h2 with ⟨b1, b2, b3⟩ | ⟨b1, b2, b3⟩ | ⟨b1, b2, b3, b4⟩
      · omega
      · exact (both_lt hn hm hv hv' h6).2 (.inr (.inl ⟨a1, b2, hv'.trans a3 b3⟩))
      · omega
    · rcases (both_lt hn hm hv hv' h6).1 h2 with ⟨b1, b2, b3⟩ | ⟨b1, b2, b3⟩ | ⟨b1, b2, b3, b4⟩
      · omega
      · have := (lt_len hv' b3).2
        rw [hm] at this
        exact (both_lt hn hm hv hv' h6).2 (.inr (.inr ⟨a1, a2, b2, by omega⟩))
      · omega
end
/-- Heights are told by what they do. -/
theorem hgt_unique {B : List Int} (h : VoP B) (f : Nat → Int) (h0 : ∀ b, 0 ≤ f b) (hu : ∀ a b, lt B a b → f a + 1 ≤ f b) (he : ∀ b, b < B.length → f b = 0 ∨ ∃ a, lt B a b ∧ f b = f a + 1) {b : Nat} (hb : b < B.length) : hgt B b = f b := by
  have k1 : ∀ (d b : Nat), b < B.length → hgt B b = (d : Int) → hgt B b ≤ f b := fun d => by
    induction d with
    | zero => intro b _ hd; have := h0 b; omega
    | succ d ih =>
      intro b hb hd
      rcases hgt_eq h hb with e | ⟨a, h1, h2⟩
      · have := h0 b; omega
      · have := ih a h1.1 (by omega)
        have := hu a b h1
        omega
  have k2 : ∀ (d b : Nat), b < B.length → f b = (d : Int) → f b ≤ hgt B b := fun d => by
    induction d with
    | zero => intro b _ hd; have := hgt_nn B b; omega
    | succ d ih =>
      intro b hb hd
      rcases he b hb with e | ⟨a, h1, h2⟩
      · have := hgt_nn B b; omega
      · have := ih a h1.1 (by omega)
        have := hgt_up h h1
        omega
  obtain ⟨d, hd⟩ := Int.eq_ofNat_of_zero_le (hgt_nn B b)
  obtain ⟨d', hd'⟩ := Int.eq_ofNat_of_zero_le (h0 b)
  have := k1 d b hb hd
  have := k2 d' b hb hd'
  omega
end Go.Proofs.Ytghogabmkbadjab

/- Orders beside each other, and one above the other: longest chains, widest sets apart (mathematics). No program. -/
namespace Go.Proofs.Ytghogabmkbadjab
open Go.RowKit

section
variable {zs ys : List Int} {n m : Nat} {over : Bool}
theorem long_top {zs : List Int} (_h : VoP zs) (h0 : 0 < zs.length) : ∃ a, a < zs.length ∧ longI zs = hgt zs a + 1 := by
  unfold longI
  rcases maxL_eq (hgt zs) (List.range zs.length) with e | ⟨a, ha, e⟩
  · have := (maxL_ge (hgt zs) (List.range zs.length)).2 0 (List.mem_range.2 h0)
    have := hgt_nn zs 0
    omega
  · exact ⟨a, List.mem_range.1 ha, e⟩
theorem long_le {zs : List Int} {a : Nat} (ha : a < zs.length) : hgt zs a + 1 ≤ longI zs := (maxL_ge (hgt zs) (List.range zs.length)).2 a (List.mem_range.2 ha)
theorem long_none {zs : List Int} (h : zs.length = 0) : longI zs = 0 := by unfold longI; rw [h]; rfl
theorem long_is {B : List Int} {k : Int} (h0 : 0 ≤ k) (hle : ∀ a, a < B.length → hgt B a + 1 ≤ k) (hex : 0 < k → ∃ a, a < B.length ∧ hgt B a + 1 = k) : longI B = k := by
  refine Int.le_antisymm ?_ ?_
  · unfold longI
    rcases maxL_eq (hgt B) (List.range B.length) with e | ⟨a, ha, e⟩
    · omega
    · have := hle a (List.mem_range.1 ha); omega
  · rcases Int.lt_or_le 0 k with h | h
    · obtain ⟨a, ha, e⟩ := hex h
      have := long_le ha
      omega
    · have := longI_nn B; omega
theorem both_hgt (hn : zs.length = n) (hm : ys.length = m) (hv : VoP zs) (hv' : VoP ys) (h6 : n + m ≤ 6) {a : Nat} (ha : a < n + m) :
    hgt (bothL zs ys over) a = if a < n then hgt zs a else (if over then longI zs else 0) + hgt ys (a - n) := by
  have hl : (bothL zs ys over).length = n + m := by rw [bothL_len, hn, hm]
  refine hgt_unique (both_vo hn hm hv hv' h6) (fun a => if a < n then hgt zs a else (if over then longI zs else 0) + hgt ys (a - n)) (fun b => ?_) (fun a b h => ?_) (fun b hb => ?_) (by rw [hl]; exact ha)
  · have h1 := hgt_nn zs b
    have h2 := hgt_nn ys (b - n)
    have h3 := longI_nn zs
    try simp only
    split
    · omega
    · split <;> omega
  · rcases (both_lt hn hm hv hv' h6).1 h with ⟨h1, h2, h3⟩ | ⟨h1, h2, h3⟩ | ⟨h1, h2, h3, h4⟩
    · have := hgt_up hv h3
      simp only [if_pos h1, if_pos h2]; omega
    · have := hgt_up hv' h3
      simp only [if_neg (show ¬ a < n by omega), if_neg (show ¬ b < n by omega)]; omega
    · have e1 := long_le (zs := zs) (a := a) (by rw [hn]; exact h2)
      have e2 := hgt_nn ys (b - n)
      simp only [if_pos h2, if_neg (show ¬ b < n by omega), h1, if_true]; omega
  · rw [hl] at hb
    try simp only
    by_cases h1 : b < n
    · rw [if_pos h1]
      rcases hgt_eq hv (b := b) (by rw [hn]; exact h1) with e | ⟨a, h2, h3⟩
      · exact .inl e
      · have ha := h2.1
        rw [hn] at ha
        exact .inr ⟨a, (both_lt hn hm hv hv' h6).2 (.inl ⟨ha, h1, h2⟩), by rw [if_pos ha]; exact h3⟩
    · rw [if_neg h1]
      rcases hgt_eq hv' (b := b - n) (by rw [hm]; omega) with e | ⟨a, h2, h3⟩
      · cases over
        · left; simp only [Bool.false_eq_true, if_false]; omega
        · simp only [if_true]
          rcases Nat.eq_zero_or_pos n with h0 | h0
          · left; rw [long_none (by rw [hn]; exact h0), e]; rfl
          · obtain ⟨a, ha, ea⟩ := long_top hv (by rw [hn]; exact h0)
            rw [hn] at ha
            exact .inr ⟨a, (both_lt hn hm hv hv' h6).2 (.inr (.inr ⟨rfl, ha, by omega, hb⟩)), by rw [if_pos ha, ea, e]; omega⟩
      · have ha := h2.1
        rw [hm] at ha
        refine .inr ⟨n + a, (both_lt hn hm hv hv' h6).2 (.inr (.inl ⟨by omega, by omega, by rw [Nat.add_sub_cancel_left]; exact h2⟩)), ?_⟩
        rw [if_neg (show ¬ n + a < n by omega), Nat.add_sub_cancel_left, h3]
        omega
theorem bes_long (hn : zs.length = n) (hm : ys.length = m) (hv : VoP zs) (hv' : VoP ys) (h6 : n + m ≤ 6) : longI (bothL zs ys false) = max (longI zs) (longI ys) := by
  have hl : (bothL zs ys false).length = n + m := by rw [bothL_len, hn, hm]
  have g1 := longI_nn zs
  have g2 := longI_nn ys
  refine long_is (by omega) (fun a ha => ?_) (fun hk => ?_)
  · rw [hl] at ha
    rw [both_hgt hn hm hv hv' h6 ha]
    split
    · rename_i h; have := long_le (zs := zs) (a := a) (by rw [hn]; exact h); omega
    · rename_i h; have := long_le (zs := ys) (a := a - n) (by rw [hm]; omega)
      simp only [Bool.false_eq_true, if_false]; omega
  · rcases Int.le_total (longI ys) (longI zs) with h | h
    · have h0 : 0 < zs.length := by
        rcases Nat.eq_zero_or_pos zs.length with e | e
        · have := long_none e; omega
        · exact e
      obtain ⟨a, ha, ea⟩ := long_top hv h0
      rw [hn] at ha
      refine ⟨a, by rw [hl]; omega, ?_⟩
      rw [both_hgt hn hm hv hv' h6 (by omega), if_pos ha]; omega
    · have h0 : 0 < ys.length := by
        rcases Nat.eq_zero_or_pos ys.length with e | e
        · have := long_none e; omega
        · exact e
      obtain ⟨a, ha, ea⟩ := long_top hv' h0
      rw [hm] at ha
      refine ⟨n + a, by rw [hl]; omega, ?_⟩
      rw [both_hgt hn hm hv hv' h6 (by omega), if_neg (show ¬ n + a < n by omega), Nat.add_sub_cancel_left]
      simp only [Bool.false_eq_true, if_false]; omega
theorem stk_long (hn : zs.length = n) (hm : ys.length = m) (hv : VoP zs) (hv' : VoP ys) (h6 : n + m ≤ 6) : longI (bothL zs ys true) = longI zs + longI ys := by
  have hl : (bothL zs ys true).length = n + m := by rw [bothL_len, hn, hm]
  have g1 := longI_nn zs
  have g2 := longI_nn ys
  refine long_is (by omega) (fun a ha => ?_) (fun hk => ?_)
  · rw [hl] at ha
    rw [both_hgt hn hm hv hv' h6 ha]
    split
    · rename_i h; have := long_le (zs := zs) (a := a) (by rw [hn]; exact h); omega
    · rename_i h; have := long_le (zs := ys) (a := a - n) (by rw [hm]; omega)
      simp only [if_true]; omega
  · rcases Nat.eq_zero_or_pos ys.length with e | e
    · have hy := long_none e
      have h0 : 0 < zs.length := by
        rcases Nat.eq_zero_or_pos zs.length with e | e
        · have := long_none e; omega
        · exact e
      obtain ⟨a, ha, ea⟩ := long_top hv h0
      rw [hn] at ha
      refine ⟨a, by rw [hl]; omega, ?_⟩
      rw [both_hgt hn hm hv hv' h6 (by omega), if_pos ha]; omega
    · obtain ⟨a, ha, ea⟩ := long_top hv' e
      rw [hm] at ha
      refine ⟨n + a, by rw [hl]; omega, ?_⟩
      rw [both_hgt hn hm hv hv' h6 (by omega), if_neg (show ¬ n + a < n by omega), Nat.add_sub_cancel_left]
      simp only [if_true]; omega

/-! Widest sets apart: a set of both is a set of each. -/
theorem pop_split_fin : ∀ n : Fin 7, ∀ s : Fin 64, popI ((s.val : Nat) : Int) = popI ((s.val % 2 ^ n.val : Nat) : Int) + popI ((s.val / 2 ^ n.val : Nat) : Int) := by decide +kernel
theorem pop_split {n s : Nat} (hn : n ≤ 6) (hs : s < 64) : popI (s : Int) = popI ((s % 2 ^ n : Nat) : Int) + popI ((s / 2 ^ n : Nat) : Int) := pop_split_fin ⟨n, by omega⟩ ⟨s, hs⟩
theorem lo_bit (n s j : Nat) : (s % 2 ^ n).testBit j = (decide (j < n) && s.testBit j) := by rw [Nat.testBit_mod_two_pow]
theorem hi_bit (n s j : Nat) : (s / 2 ^ n).testBit j = s.testBit (n + j) := by rw [Nat.testBit_div_two_pow, Nat.add_comm]
theorem apN {B : List Int} (h6 : B.length ≤ 6) {s : Nat} (hs : s < 2 ^ B.length) : apB B (s : Int) = true ↔ ∀ a b, s.testBit a = true → s.testBit b = true → ¬ lt B a b := by
  have h64 : (2 : Nat) ^ B.length ≤ 64 := Nat.pow_le_pow_right (n := 2) (by decide) h6
  rw [apB_iff (by omega)]
  have hb : ∀ j : Nat, bitB (s : Int) (j : Int) = s.testBit j := fun j => by simp [bitB]
  have hlt : ∀ j, s.testBit j = true → j < B.length := fun j hj => by
    rcases Nat.lt_or_ge j B.length with e | e
    · exact e
    · rw [Nat.testBit_lt_two_pow (Nat.lt_of_lt_of_le hs (Nat.pow_le_pow_right (by decide) e))] at hj; cases hj
  constructor
  · intro h a b ha hb' hl
    have := h a b (by rw [hb]; exact ha) (by rw [hb]; exact hb')
    rw [hl.2] at this; cases this
  · intro h a b ha hb'
    rw [hb] at ha hb'
    cases e : bitB (B[a]?.getD 0) (b : Int)
    · rfl
    · exact absurd ⟨hlt a ha, e⟩ (h a b ha hb')
theorem both_ap (hn : zs.length = n) (hm : ys.length = m) (hv : VoP zs) (hv' : VoP ys) (h6 : n + m ≤ 6) {s : Nat} (hs : s < 2 ^ (n + m)) :
    apB (bothL zs ys over) (s : Int) = true ↔ apB zs ((s % 2 ^ n : Nat) : Int) = true ∧ apB ys ((s / 2 ^ n : Nat) : Int) = true ∧ (over = true → s % 2 ^ n = 0 ∨ s / 2 ^ n = 0) := by
  have hl : (bothL zs ys over).length = n + m := by rw [bothL_len, hn, hm]
  have hp : 0 < (2 : Nat) ^ n := Nat.pow_pos (by decide)
  have hlo : s % 2 ^ n < 2 ^ zs.length := by rw [hn]; exact Nat.mod_lt _ hp
  have hhi : s / 2 ^ n < 2 ^ ys.length := by rw [hm, Nat.div_lt_iff_lt_mul hp, ← Nat.pow_add, Nat.add_comm]; exact hs
  rw [apN (by rw [hl]; exact h6) (by rw [hl]; exact hs), apN (by omega) hlo, apN (by omega) hhi]
  constructor
  · intro h
    refine ⟨fun a b ha hb hab => ?_, fun a b ha hb hab => ?_, fun ho => ?_⟩
    · rw [lo_bit, Bool.and_eq_true, decide_eq_true_eq] at ha hb
      exact h a b ha.2 hb.2 ((both_lt hn hm hv hv' h6).2 (.inl ⟨ha.1, hb.1, hab⟩))
    · rw [hi_bit] at ha hb
      exact h (n + a) (n + b) ha hb ((both_lt hn hm hv hv' h6).2 (.inr (.inl ⟨by omega, by omega, by rw [Nat.add_sub_cancel_left, Nat.add_sub_cancel_left]; exact hab⟩)))
    · rcases Nat.eq_zero_or_pos (s % 2 ^ n) with e | e
      · exact .inl e
      · rcases Nat.eq_zero_or_pos (s / 2 ^ n) with e' | e'
        · exact .inr e'
        · exfalso
          obtain ⟨a, ha⟩ := Nat.exists_testBit_of_ne_zero (Nat.pos_iff_ne_zero.1 e)
          obtain ⟨b, hb⟩ := Nat.exists_testBit_of_ne_zero (Nat.pos_iff_ne_zero.1 e')
          have hbm : b < m := by
            rcases Nat.lt_or_ge b m with h1 | h1
            · exact h1
            · rw [Nat.testBit_lt_two_pow (Nat.lt_of_lt_of_le hhi (Nat.pow_le_pow_right (by decide) (by omega)))] at hb; cases hb
          rw [lo_bit, Bool.and_eq_true, decide_eq_true_eq] at ha
          rw [hi_bit] at hb
          exact h a (n + b) ha.2 hb ((both_lt hn hm hv hv' h6).2 (.inr (.inr ⟨ho, ha.1, by omega, by omega⟩)))
  · rintro ⟨h1, h2, h3⟩ a b ha hb hab
    rcases (both_lt hn hm hv hv' h6).1 hab with ⟨a1, a2, a3⟩ | ⟨a1, a2, a3⟩ | ⟨a1, a2, a3, a4⟩
    · exact h1 a b (by rw [lo_bit, ha, decide_eq_true a1]; rfl) (by rw [lo_bit, hb, decide_eq_true a2]; rfl) a3
    · exact h2 (a - n) (b - n) (by rw [hi_bit, show n + (a - n) = a by omega]; exact ha) (by rw [hi_bit, show n + (b - n) = b by omega]; exact hb) a3
    · rcases h3 a1 with e | e
      · have := lo_bit n s a
        rw [e, ha, decide_eq_true a2] at this; simp at this
      · have := hi_bit n s (b - n)
        rw [e, show n + (b - n) = b by omega, hb] at this; simp at this
theorem grTo_at {p : Int → Bool} (h0 : p 0 = true) : ∀ k : Nat, 0 < k → ∃ j, j < k ∧ p ((j : Nat) : Int) = true ∧ popI ((j : Nat) : Int) = grTo p k
  | 0, h => by omega
  | 1, _ => ⟨0, by omega, h0, by
      have e : p ((0 : Nat) : Int) = true := h0
      rw [grTo, if_pos e]; rfl⟩
  | k + 2, _ => by
    obtain ⟨j, hj, h1, h2⟩ := grTo_at h0 (k + 1) (by omega)
    rw [grTo]
    by_cases e : p ((k + 1 : Nat) : Int) = true
    · rw [if_pos e]
      rcases Int.le_total (grTo p (k + 1)) (popI ((k + 1 : Nat) : Int)) with h | h
      · exact ⟨k + 1, by omega, e, by omega⟩
      · exact ⟨j, by omega, h1, by omega⟩
    · rw [if_neg e]
      exact ⟨j, by omega, h1, h2⟩
theorem ap_none {B : List Int} : apB B 0 = true := by
  have := (apB_iff (zs := B) (s := 0) (by decide)).2 (fun a b ha _ => by rw [bitB_zero] at ha; cases ha)
  exact this
theorem put_lo {n s1 s2 : Nat} (h : s1 < 2 ^ n) : (s1 + 2 ^ n * s2) % 2 ^ n = s1 := by rw [Nat.add_mul_mod_self_left, Nat.mod_eq_of_lt h]
theorem put_hi {n s1 s2 : Nat} (h : s1 < 2 ^ n) : (s1 + 2 ^ n * s2) / 2 ^ n = s2 := by
  rw [Nat.add_mul_div_left _ _ (Nat.pow_pos (by decide)), Nat.div_eq_of_lt h, Nat.zero_add]
theorem put_lt {n m s1 s2 : Nat} (h1 : s1 < 2 ^ n) (h2 : s2 < 2 ^ m) : s1 + 2 ^ n * s2 < 2 ^ (n + m) := by
  have h3 : 2 ^ n * (s2 + 1) ≤ 2 ^ n * 2 ^ m := Nat.mul_le_mul_left _ h2
  rw [Nat.mul_add, Nat.mul_one, ← Nat.pow_add] at h3
  omega
theorem both_split (hn : zs.length = n) (hm : ys.length = m) (hv : VoP zs) (hv' : VoP ys) (h6 : n + m ≤ 6) {s : Nat} (hs : s < 2 ^ (n + m)) (h : apB (bothL zs ys over) (s : Int) = true) :
    popI (s : Int) = popI ((s % 2 ^ n : Nat) : Int) + popI ((s / 2 ^ n : Nat) : Int) ∧ popI ((s % 2 ^ n : Nat) : Int) ≤ grTo (apB zs) (2 ^ n) ∧ popI ((s / 2 ^ n : Nat) : Int) ≤ grTo (apB ys) (2 ^ m) ∧ (over = true → s % 2 ^ n = 0 ∨ s / 2 ^ n = 0) := by
  have h64 : (2 : Nat) ^ (n + m) ≤ 64 := Nat.pow_le_pow_right (n := 2) (by decide) h6
  have hp : 0 < (2 : Nat) ^ n := Nat.pow_pos (by decide)
  obtain ⟨h1, h2, h3⟩ := (both_ap hn hm hv hv' h6 hs).1 h
  exact ⟨pop_split (by omega) (by omega), grTo_ge h1 _ (Nat.mod_lt _ hp), grTo_ge h2 _ (by rw [Nat.div_lt_iff_lt_mul hp, ← Nat.pow_add, Nat.add_comm]; exact hs), h3⟩
theorem both_join (hn : zs.length = n) (hm : ys.length = m) (hv : VoP zs) (hv' : VoP ys) (h6 : n + m ≤ 6) {s1 s2 : Nat} (h1 : s1 < 2 ^ n) (h2 : s2 < 2 ^ m) (a1 : apB zs (s1 : Int) = true) (a2 : apB ys (s2 : Int) = true) (ho : over = true → s1 = 0 ∨ s2 = 0) :
    popI (s1 : Int) + popI (s2 : Int) ≤ grTo (apB (bothL zs ys over)) (2 ^ (n + m)) := by
  have h64 : (2 : Nat) ^ (n + m) ≤ 64 := Nat.pow_le_pow_right (n := 2) (by decide) h6
  have hlt := put_lt h1 h2
  have hap := (both_ap (over := over) hn hm hv hv' h6 hlt).2 ⟨by rw [put_lo h1]; exact a1, by rw [put_hi h1]; exact a2, fun e => by rw [put_lo h1, put_hi h1]; exact ho e⟩
  have e := pop_split (n := n) (s := s1 + 2 ^ n * s2) (by omega) (by omega)
  rw [put_lo h1, put_hi h1] at e
  rw [← e]
  exact grTo_ge hap _ hlt
theorem bes_wide (hn : zs.length = n) (hm : ys.length = m) (hv : VoP zs) (hv' : VoP ys) (h6 : n + m ≤ 6) : grTo (apB (bothL zs ys false)) (2 ^ (n + m)) = grTo (apB zs) (2 ^ n) + grTo (apB ys) (2 ^ m) := by
  have g1 := grTo_nn (apB zs) (2 ^ n)
  have g2 := grTo_nn (apB ys) (2 ^ m)
  refine Int.le_antisymm (grTo_le (by omega) _ fun j hj hp => ?_) ?_
  · obtain ⟨e, e1, e2, _⟩ := both_split hn hm hv hv' h6 hj hp
    omega
  · obtain ⟨s1, h1, a1, e1⟩ := grTo_at (ap_none (B := zs)) (2 ^ n) (Nat.pow_pos (by decide))
    obtain ⟨s2, h2, a2, e2⟩ := grTo_at (ap_none (B := ys)) (2 ^ m) (Nat.pow_pos (by decide))
    rw [← e1, ← e2]
    exact both_join hn hm hv hv' h6 h1 h2 a1 a2 (fun e => by cases e)
theorem stk_wide (hn : zs.length = n) (hm : ys.length = m) (hv : VoP zs) (hv' : VoP ys) (h6 : n + m ≤ 6) : grTo (apB (bothL zs ys true)) (2 ^ (n + m)) = max (grTo (apB zs) (2 ^ n)) (grTo (apB ys) (2 ^ m)) := by
  have g1 := grTo_nn (apB zs) (2 ^ n)
  have g2 := grTo_nn (apB ys) (2 ^ m)
  have p0 : popI ((0 : Nat) : Int) = 0 := rfl
  refine Int.le_antisymm (grTo_le (by omega) _ fun j hj hp => ?_) ?_
  · obtain ⟨e, e1, e2, e3⟩ := both_split hn hm hv hv' h6 hj hp
    rcases e3 rfl with h | h
    · rw [h, p0] at e; omega
    · rw [h, p0] at e; omega
  · obtain ⟨s1, h1, a1, e1⟩ := grTo_at (ap_none (B := zs)) (2 ^ n) (Nat.pow_pos (by decide))
    obtain ⟨s2, h2, a2, e2⟩ := grTo_at (ap_none (B := ys)) (2 ^ m) (Nat.pow_pos (by decide))
    have k1 := both_join (over := true) hn hm hv hv' h6 h1 (show 0 < 2 ^ m from Nat.pow_pos (by decide)) a1 (ap_none (B := ys)) (fun _ => .inr rfl)
    have k2 := both_join (over := true) hn hm hv hv' h6 (show 0 < 2 ^ n from Nat.pow_pos (by decide)) h2 (ap_none (B := zs)) a2 (fun _ => .inl rfl)
    rw [p0] at k1 k2
    omega
end
end Go.Proofs.Ytghogabmkbadjab

/- Three lines tell each order of at most six items whose items stand in order: by trying all of them. No program. -/
namespace Go.Proofs.Ytghogabmkbadjab

/-- An order of items that stand in order, as a number: what is below j lies in the j bits from j(j-1)/2 on. -/
def dnC (c j : Nat) : Nat := Nat.mod (Nat.shiftRight c (Nat.div (Nat.mul j (Nat.sub j 1)) 2)) (Nat.pow 2 j)
/-- Holds the numbers below i with bits in d all what c tells of them? -/
def inC (c d : Nat) : Nat → Bool
  | 0 => true
  | i + 1 => bif Nat.beq (Nat.land (Nat.shiftRight d i) 1) 0 then inC c d i else (bif Nat.beq (Nat.land (dnC c i) d) (dnC c i) then inC c d i else false)
def trC (c : Nat) : Nat → Bool
  | 0 => true
  | j + 1 => bif trC c j then inC c (dnC c j) j else false
/-- The first item of a list that can come next. -/
def nxC (c s : Nat) : List Nat → Nat
  | [] => 0
  | x :: xs => bif Nat.beq (Nat.land (Nat.shiftRight s x) 1) 0 then (bif Nat.beq (Nat.land (dnC c x) s) (dnC c x) then x else nxC c s xs) else nxC c s xs
def lnC (c : Nat) (pri : List Nat) : Nat → Nat → List Nat
  | 0, _ => []
  | k + 1, s => nxC c s pri :: lnC c pri k (Nat.lor s (Nat.pow 2 (nxC c s pri)))
/-- What stands ahead of x. -/
def bfC (x : Nat) : List Nat → Nat
  | [] => 0
  | y :: ys => bif Nat.beq y x then 0 else Nat.lor (Nat.pow 2 y) (bfC x ys)
def prC : List (List Nat × List Nat × List Nat) := [([2, 3, 4, 0, 5, 1], [4, 3, 1, 0, 5, 2], [2, 1, 5, 4, 0, 3]), ([0, 4, 3, 5, 1, 2], [1, 0, 2, 5, 3, 4], [4, 3, 2, 5, 1, 0]), ([5, 1, 0, 4, 2, 3], [3, 2, 4, 1, 0, 5], [3, 5, 2, 0, 4, 1]),
  ([0, 3, 1, 2, 5, 4], [5, 3, 1, 4, 2, 0], [2, 0, 4, 1, 5, 3]), ([4, 0, 3, 2, 5, 1], [4, 5, 0, 1, 2, 3], [1, 3, 5, 2, 0, 4]), ([3, 1, 0, 2, 4, 5], [1, 4, 3, 5, 0, 2], [5, 2, 0, 3, 4, 1]), ([3, 0, 1, 2, 4, 5], [5, 0, 2, 4, 3, 1], [4, 2, 1, 5, 3, 0]),
  ([0, 2, 4, 1, 3, 5], [5, 2, 0, 4, 3, 1], [1, 4, 5, 3, 0, 2]), ([1, 2, 5, 4, 3, 0], [4, 2, 0, 5, 3, 1], [3, 1, 5, 0, 2, 4])]
/-- All below x stand in the list. -/
def memC (x : Nat) : List Nat → Bool
  | [] => false
  | y :: ys => bif Nat.beq y x then true else memC x ys
def mmC (l : List Nat) : Nat → Bool
  | 0 => true
  | x + 1 => bif memC x l then mmC l x else false
def ltC (n : Nat) : List Nat → Bool
  | [] => true
  | y :: ys => bif Nat.blt y n then ltC n ys else false
def ndC : List Nat → Bool
  | [] => true
  | y :: ys => bif memC y ys then false else ndC ys
def pmC (n : Nat) (l : List Nat) : Bool := bif Nat.beq l.length n then (bif ltC n l then (bif ndC l then mmC l n else false) else false) else false
def tlC (c : Nat) (a b d : List Nat) : Nat → Bool
  | 0 => true
  | x + 1 => bif Nat.beq (Nat.land (bfC x a) (Nat.land (bfC x b) (bfC x d))) (dnC c x) then tlC c a b d x else false
def lt3 (n : Nat) (l : List Nat) : List Nat := l.filter (fun x => Nat.blt x n)
def tryC (n c : Nat) (a b d : List Nat) : Bool := bif tlC c a b d n then (bif pmC n a then (bif pmC n b then pmC n d else false) else false) else false
def anyC (n c : Nat) : List (List Nat × List Nat × List Nat) → Bool
  | [] => false
  | t :: ts => bif tryC n c (lnC c (lt3 n t.1) n 0) (lnC c (lt3 n t.2.1) n 0) (lnC c (lt3 n t.2.2) n 0) then true else anyC n c ts
def okC (n c : Nat) : Bool := bif trC c n then anyC n c prC else true
/-- The number is had before it is used. -/
def hadC (f : Nat → Bool) (c : Nat) : Bool := Nat.rec (f 0) (fun k _ => f (k + 1)) c
theorem hadC_eq (f : Nat → Bool) (c : Nat) : hadC f c = f c := by cases c <;> rfl
def allC (f : Nat → Bool) : Nat → Nat → Bool
  | 0, c => hadC f c
  | k + 1, c => bif allC f k (2 * c) then allC f k (2 * c + 1) else false
theorem allC_join {f : Nat → Bool} {k c : Nat} (h1 : allC f k (2 * c) = true) (h2 : allC f k (2 * c + 1) = true) : allC f (k + 1) c = true := by rw [allC, h1]; exact h2
theorem allC_of {f : Nat → Bool} : ∀ (k c : Nat), allC f k c = true → ∀ d, d < 2 ^ k → f (2 ^ k * c + d) = true
  | 0, c, h, d, hd => by
    obtain rfl : d = 0 := by simpa using hd
    rw [allC, hadC_eq] at h
    simpa using h
  | k + 1, c, h, d, hd => by
    rw [allC] at h
    cases h1 : allC f k (2 * c)
    · rw [h1] at h; cases h
    · rw [h1] at h
      have h2 : allC f k (2 * c + 1) = true := h
      have e2 : 2 ^ (k + 1) = 2 ^ k + 2 ^ k := by rw [Nat.pow_succ]; omega
      rcases Nat.lt_or_ge d (2 ^ k) with hlt | hge
      · have := allC_of k (2 * c) h1 d hlt
        rw [show 2 ^ (k + 1) * c + d = 2 ^ k * (2 * c) + d by rw [Nat.pow_succ, Nat.mul_assoc]]; exact this
      · have := allC_of k (2 * c + 1) h2 (d - 2 ^ k) (by omega)
        rw [show 2 ^ (k + 1) * c + d = 2 ^ k * (2 * c + 1) + (d - 2 ^ k) by rw [Nat.pow_succ, Nat.mul_assoc, Nat.mul_add, Nat.mul_one]; omega]; exact this
theorem all_ok5 : ∀ n : Fin 6, allC (okC n.val) (n.val * (n.val - 1) / 2) 0 = true := by decide +kernel
end Go.Proofs.Ytghogabmkbadjab

/- All orders of six items that stand in order, part 1 of 4. -/
namespace Go.Proofs.Ytghogabmkbadjab
theorem d3_0 : allC (okC 6) 9 0 = true := by decide +kernel
theorem d3_1 : allC (okC 6) 9 1 = true := by decide +kernel
theorem d3_2 : allC (okC 6) 9 2 = true := by decide +kernel
theorem d3_3 : allC (okC 6) 9 3 = true := by decide +kernel
theorem d3_4 : allC (okC 6) 9 4 = true := by decide +kernel
theorem d3_5 : allC (okC 6) 9 5 = true := by decide +kernel
theorem d3_6 : allC (okC 6) 9 6 = true := by decide +kernel
theorem d3_7 : allC (okC 6) 9 7 = true := by decide +kernel
theorem d3_8 : allC (okC 6) 9 8 = true := by decide +kernel
theorem d3_9 : allC (okC 6) 9 9 = true := by decide +kernel
theorem d3_10 : allC (okC 6) 9 10 = true := by decide +kernel
theorem d3_11 : allC (okC 6) 9 11 = true := by decide +kernel
theorem d3_12 : allC (okC 6) 9 12 = true := by decide +kernel
theorem d3_13 : allC (okC 6) 9 13 = true := by decide +kernel
theorem d3_14 : allC (okC 6) 9 14 = true := by decide +kernel
theorem d3_15 : allC (okC 6) 9 15 = true := by decide +kernel
theorem d3q_0 : allC (okC 6) 13 0 = true := (allC_join (c := 0) (allC_join (c := 0) (allC_join (c := 0) (allC_join (c := 0) d3_0 d3_1) (allC_join (c := 1) d3_2 d3_3)) (allC_join (c := 1) (allC_join (c := 2) d3_4 d3_5) (allC_join (c := 3) d3_6 d3_7))) (allC_join (c := 1) (allC_join (c := 2) (allC_join (c := 4) d3_8 d3_9) (allC_join (c := 5) d3_10 d3_11)) (allC_join (c := 3) (allC_join (c := 6) d3_12 d3_13) (allC_join (c := 7) d3_14 d3_15))))
end Go.Proofs.Ytghogabmkbadjab

/- All orders of six items that stand in order, part 2 of 4. -/
namespace Go.Proofs.Ytghogabmkbadjab
theorem d3_16 : allC (okC 6) 9 16 = true := by decide +kernel
theorem d3_17 : allC (okC 6) 9 17 = true := by decide +kernel
theorem d3_18 : allC (okC 6) 9 18 = true := by decide +kernel
theorem d3_19 : allC (okC 6) 9 19 = true := by decide +kernel
theorem d3_20 : allC (okC 6) 9 20 = true := by decide +kernel
theorem d3_21 : allC (okC 6) 9 21 = true := by decide +kernel
theorem d3_22 : allC (okC 6) 9 22 = true := by decide +kernel
theorem d3_23 : allC (okC 6) 9 23 = true := by decide +kernel
theorem d3_24 : allC (okC 6) 9 24 = true := by decide +kernel
theorem d3_25 : allC (okC 6) 9 25 = true := by decide +kernel
theorem d3_26 : allC (okC 6) 9 26 = true := by decide +kernel
theorem d3_27 : allC (okC 6) 9 27 = true := by decide +kernel
theorem d3_28 : allC (okC 6) 9 28 = true := by decide +kernel
theorem d3_29 : allC (okC 6) 9 29 = true := by decide +kernel
theorem d3_30 : allC (okC 6) 9 30 = true := by decide +kernel
theorem d3_31 : allC (okC 6) 9 31 = true := by decide +kernel
theorem d3q_1 : allC (okC 6) 13 1 = true := (allC_join (c := 1) (allC_join (c := 2) (allC_join (c := 4) (allC_join (c := 8) d3_16 d3_17) (allC_join (c := 9) d3_18 d3_19)) (allC_join (c := 5) (allC_join (c := 10) d3_20 d3_21) (allC_join (c := 11) d3_22 d3_23))) (allC_join (c := 3) (allC_join (c := 6) (allC_join (c := 12) d3_24 d3_25) (allC_join (c := 13) d3_26 d3_27)) (allC_join (c := 7) (allC_join (c := 14) d3_28 d3_29) (allC_join (c := 15) d3_30 d3_31))))
end Go.Proofs.Ytghogabmkbadjab

/- All orders of six items that stand in order, part 3 of 4. -/
namespace Go.Proofs.Ytghogabmkbadjab
theorem d3_32 : allC (okC 6) 9 32 = true := by decide +kernel
theorem d3_33 : allC (okC 6) 9 33 = true := by decide +kernel
theorem d3_34 : allC (okC 6) 9 34 = true := by decide +kernel
theorem d3_35 : allC (okC 6) 9 35 = true := by decide +kernel
theorem d3_36 : allC (okC 6) 9 36 = true := by decide +kernel
theorem d3_37 : allC (okC 6) 9 37 = true := by decide +kernel
theorem d3_38 : allC (okC 6) 9 38 = true := by decide +kernel
theorem d3_39 : allC (okC 6) 9 39 = true := by decide +kernel
theorem d3_40 : allC (okC 6) 9 40 = true := by decide +kernel
theorem d3_41 : allC (okC 6) 9 41 = true := by decide +kernel
theorem d3_42 : allC (okC 6) 9 42 = true := by decide +kernel
theorem d3_43 : allC (okC 6) 9 43 = true := by decide +kernel
theorem d3_44 : allC (okC 6) 9 44 = true := by decide +kernel
theorem d3_45 : allC (okC 6) 9 45 = true := by decide +kernel
theorem d3_46 : allC (okC 6) 9 46 = true := by decide +kernel
theorem d3_47 : allC (okC 6) 9 47 = true := by decide +kernel
theorem d3q_2 : allC (okC 6) 13 2 = true := (allC_join (c := 2) (allC_join (c := 4) (allC_join (c := 8) (allC_join (c := 16) d3_32 d3_33) (allC_join (c := 17) d3_34 d3_35)) (allC_join (c := 9) (allC_join (c := 18) d3_36 d3_37) (allC_join (c := 19) d3_38 d3_39))) (allC_join (c := 5) (allC_join (c := 10) (allC_join (c := 20) d3_40 d3_41) (allC_join (c := 21) d3_42 d3_43)) (allC_join (c := 11) (allC_join (c := 22) d3_44 d3_45) (allC_join (c := 23) d3_46 d3_47))))
end Go.Proofs.Ytghogabmkbadjab

/- All orders of six items that stand in order, part 4 of 4. -/
namespace Go.Proofs.Ytghogabmkbadjab
theorem d3_48 : allC (okC 6) 9 48 = true := by decide +kernel
theorem d3_49 : allC (okC 6) 9 49 = true := by decide +kernel
theorem d3_50 : allC (okC 6) 9 50 = true := by decide +kernel
theorem d3_51 : allC (okC 6) 9 51 = true := by decide +kernel
theorem d3_52 : allC (okC 6) 9 52 = true := by decide +kernel
theorem d3_53 : allC (okC 6) 9 53 = true := by decide +kernel
theorem d3_54 : allC (okC 6) 9 54 = true := by decide +kernel
theorem d3_55 : allC (okC 6) 9 55 = true := by decide +kernel
theorem d3_56 : allC (okC 6) 9 56 = true := by decide +kernel
theorem d3_57 : allC (okC 6) 9 57 = true := by decide +kernel
theorem d3_58 : allC (okC 6) 9 58 = true := by decide +kernel
theorem d3_59 : allC (okC 6) 9 59 = true := by decide +kernel
theorem d3_60 : allC (okC 6) 9 60 = true := by decide +kernel
theorem d3_61 : allC (okC 6) 9 61 = true := by decide +kernel
theorem d3_62 : allC (okC 6) 9 62 = true := by decide +kernel
theorem d3_63 : allC (okC 6) 9 63 = true := by decide +kernel
theorem d3q_3 : allC (okC 6) 13 3 = true := (allC_join (c := 3) (allC_join (c := 6) (allC_join (c := 12) (allC_join (c := 24) d3_48 d3_49) (allC_join (c := 25) d3_50 d3_51)) (allC_join (c := 13) (allC_join (c := 26) d3_52 d3_53) (allC_join (c := 27) d3_54 d3_55))) (allC_join (c := 7) (allC_join (c := 14) (allC_join (c := 28) d3_56 d3_57) (allC_join (c := 29) d3_58 d3_59)) (allC_join (c := 15) (allC_join (c := 30) d3_60 d3_61) (allC_join (c := 31) d3_62 d3_63))))
end Go.Proofs.Ytghogabmkbadjab

/- Three lines tell each order of at most six items whose items stand in order. No program. -/
namespace Go.Proofs.Ytghogabmkbadjab
theorem all_ok6 : allC (okC 6) 15 0 = true := allC_join (c := 0) (allC_join (c := 0) d3q_0 d3q_1) (allC_join (c := 1) d3q_2 d3q_3)
theorem ok_all {n c : Nat} (hn : n ≤ 6) (hc : c < 2 ^ (n * (n - 1) / 2)) : okC n c = true := by
  rcases Nat.lt_or_ge n 6 with h | h
  · have := allC_of _ _ (all_ok5 ⟨n, h⟩) c hc
    simpa using this
  · obtain rfl : n = 6 := by omega
    have := allC_of _ _ all_ok6 c (by simpa using hc)
    simpa using this
theorem any_some {n c : Nat} : ∀ ts, anyC n c ts = true → ∃ a b d, tryC n c a b d = true
  | [], h => by cases h
  | t :: ts, h => by
    rw [anyC] at h
    cases h1 : tryC n c (lnC c (lt3 n t.1) n 0) (lnC c (lt3 n t.2.1) n 0) (lnC c (lt3 n t.2.2) n 0)
    · rw [h1] at h; exact any_some ts h
    · exact ⟨_, _, _, h1⟩
theorem tl_of {c : Nat} {a b d : List Nat} : ∀ n, tlC c a b d n = true → ∀ x, x < n → bfC x a &&& (bfC x b &&& bfC x d) = dnC c x
  | 0, _, x, hx => absurd hx (Nat.not_lt_zero x)
  | n + 1, h, x, hx => by
    rw [tlC] at h
    cases h1 : Nat.beq (Nat.land (bfC n a) (Nat.land (bfC n b) (bfC n d))) (dnC c n)
    · rw [h1] at h; cases h
    · rw [h1] at h
      rcases Nat.lt_or_ge x n with hlt | hge
      · exact tl_of n h x hlt
      · obtain rfl : x = n := by omega
        exact Nat.eq_of_beq_eq_true h1
/-- Each order of at most six items that stand in order is told by three lines. -/
theorem three_of {n c : Nat} (hn : n ≤ 6) (hc : c < 2 ^ (n * (n - 1) / 2)) (ht : trC c n = true) :
    ∃ a b d : List Nat, pmC n a = true ∧ pmC n b = true ∧ pmC n d = true ∧ ∀ x, x < n → bfC x a &&& (bfC x b &&& bfC x d) = dnC c x := by
  have h := ok_all hn hc
  unfold okC at h
  rw [ht] at h
  obtain ⟨a, b, d, h1⟩ := any_some _ (show anyC n c prC = true from h)
  unfold tryC at h1
  cases h2 : tlC c a b d n
  · rw [h2] at h1; cases h1
  · cases h3 : pmC n a
    · rw [h2, h3] at h1; cases h1
    · cases h4 : pmC n b
      · rw [h2, h3, h4] at h1; cases h1
      · rw [h2, h3, h4] at h1
        exact ⟨a, b, d, h3, h4, h1, tl_of n h2⟩
end Go.Proofs.Ytghogabmkbadjab

/- The matching: items asked one after the other, as a function on what they have and what was seen. No program. -/
namespace Go.Proofs.Ytghogabmkbadjab

/-- From item b on, d items more are asked for a. -/
def mateG (zs : List Int) (rec : Nat → List Int → List Bool → Bool × List Int × List Bool) (a : Nat) : Nat → Nat → List Int → List Bool → Bool × List Int × List Bool
  | 0, _, has, seen => (false, has, seen)
  | d + 1, b, has, seen =>
    if !bitB (zs[a]?.getD 0) b || seen[b]?.getD false then mateG zs rec a d (b + 1) has seen
    else if has[b]?.getD 0 < 0 then (true, has.set b (a : Int), seen.set b true)
    else if (rec (has[b]?.getD 0).toNat has (seen.set b true)).1 then (true, (rec (has[b]?.getD 0).toNat has (seen.set b true)).2.1.set b (a : Int), (rec (has[b]?.getD 0).toNat has (seen.set b true)).2.2)
    else mateG zs rec a d (b + 1) (rec (has[b]?.getD 0).toNat has (seen.set b true)).2.1 (rec (has[b]?.getD 0).toNat has (seen.set b true)).2.2
def mateF (zs : List Int) : Nat → Nat → List Int → List Bool → Bool × List Int × List Bool
  | 0, _, has, seen => (false, has, seen)
  | f + 1, a, has, seen => mateG zs (mateF zs f) a zs.length 0 has seen
/-- Whom each item is had by: none, or an item. -/
def OkH (n : Nat) (has : List Int) : Prop := has.length = n ∧ ∀ j, j < n → -1 ≤ has[j]?.getD 0 ∧ has[j]?.getD 0 < (n : Int)
def unseen (s : List Bool) : Nat := (s.filter fun x => !x).length
theorem unseen_set : ∀ (s : List Bool) (b : Nat), b < s.length → s[b]?.getD false = false → unseen (s.set b true) + 1 = unseen s
  | [], b, h, _ => by simp at h
  | x :: s, 0, _, h => by
    have hx : x = false := by simpa using h
    subst hx
    simp [unseen]
  | x :: s, b + 1, h, hb => by
    have ih := unseen_set s b (by simpa using h) (by simpa using hb)
    unfold unseen at ih ⊢
    rw [List.set_cons_succ, List.filter_cons, List.filter_cons]
    cases x <;> simp <;> omega
theorem OkH.set {n a b : Nat} {has : List Int} (h : OkH n has) (ha : a < n) : OkH n (has.set b (a : Int)) := by
  refine ⟨by rw [List.length_set]; exact h.1, fun j hj => ?_⟩
  by_cases e : b = j
  · subst e
    rw [List.getElem?_set_self (by rw [h.1]; exact hj)]
    simp; omega
  · rw [List.getElem?_set_ne e]; exact h.2 j hj
/-- What a step keeps. -/
def Keeps (n : Nat) (seen : List Bool) (r : Bool × List Int × List Bool) : Prop := OkH n r.2.1 ∧ r.2.2.length = n ∧ unseen r.2.2 ≤ unseen seen
theorem mateG_ok {zs : List Int} {n : Nat} {rec : Nat → List Int → List Bool → Bool × List Int × List Bool} {a : Nat} (ha : a < n)
    (hrec : ∀ (x : Nat) (has : List Int) (seen : List Bool), x < n → OkH n has → seen.length = n → Keeps n seen (rec x has seen)) :
    ∀ (d b : Nat) (has : List Int) (seen : List Bool), b + d = n → OkH n has → seen.length = n → Keeps n seen (mateG zs rec a d b has seen)
  | 0, _, has, seen, _, h1, h2 => ⟨h1, h2, Nat.le_refl _⟩
  | d + 1, b, has, seen, hb, h1, h2 => by
    unfold mateG
    by_cases c1 : (!bitB (zs[a]?.getD 0) b || seen[b]?.getD false) = true
    · rw [if_pos c1]; exact mateG_ok ha hrec d (b + 1) has seen (by omega) h1 h2
    · rw [if_neg c1]
      have hsb : seen[b]?.getD false = false := by
        cases e : seen[b]?.getD false
        · rfl
        · rw [e] at c1; simp at c1
      have hu := unseen_set seen b (by omega) hsb
      by_cases c2 : has[b]?.getD 0 < 0
      · rw [if_pos c2]
        exact ⟨h1.set ha, by simpa using h2, by show unseen (seen.set b true) ≤ unseen seen; omega⟩
      · rw [if_neg c2]
        have hx := h1.2 b (by omega)
        obtain ⟨k1, k2, k3⟩ := hrec (has[b]?.getD 0).toNat has (seen.set b true) (by omega) h1 (by simpa using h2)
        generalize rec (has[b]?.getD 0).toNat has (seen.set b true) = r at *
        by_cases c3 : r.1 = true
        · rw [if_pos c3]; exact ⟨k1.set ha, k2, by show unseen r.2.2 ≤ unseen seen; omega⟩
        · rw [if_neg c3]
          obtain ⟨m1, m2, m3⟩ := mateG_ok (zs := zs) ha hrec d (b + 1) r.2.1 r.2.2 (by omega) k1 k2
          exact ⟨m1, m2, by omega⟩
theorem mateF_ok (zs : List Int) : ∀ (f x : Nat) (has : List Int) (seen : List Bool), x < zs.length → OkH zs.length has → seen.length = zs.length → Keeps zs.length seen (mateF zs f x has seen)
  | 0, _, _, _, _, h1, h2 => ⟨h1, h2, Nat.le_refl _⟩
  | f + 1, x, has, seen, hx, h1, h2 => by
    unfold mateF
    exact mateG_ok hx (fun y ha se hy k1 k2 => mateF_ok zs f y ha se hy k1 k2) zs.length 0 has seen (by omega) h1 h2
theorem unseen_le (s : List Bool) : unseen s ≤ s.length := List.length_filter_le _ _
/-- All items, one after the other. -/
def matesTo (zs : List Int) : Nat → List Int
  | 0 => List.replicate zs.length (-1)
  | k + 1 => (mateF zs (zs.length + 1) k (matesTo zs k) (List.replicate zs.length false)).2.1
theorem matesTo_ok (zs : List Int) : ∀ k : Nat, k ≤ zs.length → OkH zs.length (matesTo zs k)
  | 0, _ => ⟨by simp [matesTo], fun j hj => by simp [matesTo, hj]; omega⟩
  | k + 1, hk => (mateF_ok zs _ k _ _ (by omega) (matesTo_ok zs k (by omega)) (by simp)).1
/-- How many have none. -/
def noneTo (has : List Int) : Nat → Nat
  | 0 => 0
  | k + 1 => noneTo has k + (if has[k]?.getD 0 < 0 then 1 else 0)
theorem noneTo_le (has : List Int) : ∀ k : Nat, noneTo has k ≤ k
  | 0 => Nat.le_refl _
  | k + 1 => by
    have := noneTo_le has k
    unfold noneTo
    split <;> omega
def fewestR (zs : List Int) : Int := if vo zs then (noneTo (matesTo zs zs.length) zs.length : Int) else -1
end Go.Proofs.Ytghogabmkbadjab

/- The matching as the program asks: over the items of a set, with what was asked as a set. No program. -/
namespace Go.Proofs.Ytghogabmkbadjab

/-- The marks that a set tells. -/
def SeenAs (n : Nat) (seen : List Bool) (asked : Int) : Prop := seen.length = n ∧ 0 ≤ asked ∧ asked < powI n ∧ ∀ j, j < n → seen[j]?.getD false = bitB asked j
theorem SeenAs.set {n b : Nat} {seen : List Bool} {asked : Int} (h : SeenAs n seen asked) (hb : b < n) : SeenAs n (seen.set b true) (orI asked (powI (b : Int))) := by
  obtain ⟨h1, h2, h3, h4⟩ := h
  have h5 := orI_bd h2 h3 (Int.le_of_lt (powI_pos (b : Int))) (powI_lt hb)
  refine ⟨by simpa using h1, h5.1, h5.2, fun j hj => ?_⟩
  rw [bitB_or, bitB_pow]
  by_cases e : b = j
  · subst e
    rw [List.getElem?_set_self (by omega)]; simp
  · rw [List.getElem?_set_ne e, h4 j hj]; simp [e]
theorem SeenAs.none (n : Nat) : SeenAs n (List.replicate n false) 0 := ⟨by simp, Int.le_refl _, powI_pos _, fun j hj => by simp [hj, bitB_zero]⟩
/-- Where to go on, behind the items that were met. -/
def nxB (pre : List Nat) : Nat := match pre.getLast? with | none => 0 | some x => x + 1
theorem nxB_snoc (pre : List Nat) (x : Nat) : nxB (pre ++ [x]) = x + 1 := by unfold nxB; simp
theorem skip_none {zs : List Int} {rec : Nat → List Int → List Bool → Bool × List Int × List Bool} {a n : Nat} {has : List Int} {seen : List Bool} : ∀ (k b : Nat), b + k ≤ n → (∀ j, b ≤ j → j < b + k → bitB (zs[a]?.getD 0) j = false) →
    mateG zs rec a (n - b) b has seen = mateG zs rec a (n - (b + k)) (b + k) has seen
  | 0, b, _, _ => rfl
  | k + 1, b, hb, hn => by
    have h0 := hn b (Nat.le_refl _) (by omega)
    obtain ⟨d, hd⟩ : ∃ d, n - b = d + 1 := ⟨n - b - 1, by omega⟩
    have ih := skip_none (zs := zs) (rec := rec) (a := a) (n := n) (has := has) (seen := seen) k (b + 1) (by omega) (fun j h1 h2 => hn j (by omega) (by omega))
    rw [hd]
    show (if !bitB (zs[a]?.getD 0) b || seen[b]?.getD false then mateG zs rec a d (b + 1) has seen else _) = _
    rw [h0]
    simp only [Bool.not_false, Bool.true_or, if_true]
    rw [show d = n - (b + 1) by omega, ih, show b + 1 + k = b + (k + 1) by omega]
/-- Ahead of the next item of the set there is none. -/
theorem gap_none {z : Int} (hz : z < 64) {pre : List Nat} {x : Nat} (hp : pre ++ [x] <+: itemsL z) : nxB pre ≤ x ∧ ∀ j, nxB pre ≤ j → j < x → bitB z j = false := by
  have hs := itemsL_sorted z
  obtain ⟨t, ht⟩ := hp
  rw [← ht, List.append_assoc, List.pairwise_append] at hs
  obtain ⟨s1, s2, s3⟩ := hs
  simp only [List.singleton_append, List.pairwise_cons] at s2
  have hlast : ∀ y, pre.getLast? = some y → y < x := fun y hy => s3 y (List.mem_of_getLast? hy) x (by simp)
  refine ⟨?_, fun j h1 h2 => ?_⟩
  · unfold nxB
    cases e : pre.getLast? with
    | none => simp
    | some y => exact hlast y e
  · cases e : bitB z j
    · rfl
    · have hm := (mem_itemsL hz).2 e
      rw [← ht, List.append_assoc] at hm
      rcases List.mem_append.1 hm with hm | hm
      · exfalso
        unfold nxB at h1
        cases el : pre.getLast? with
        | none => rw [List.getLast?_eq_none_iff.1 el] at hm; cases hm
        | some y =>
          rw [el] at h1
          simp at h1
          obtain ⟨ys, hys⟩ := List.getLast?_eq_some_iff.1 el
          subst hys
          rcases List.mem_append.1 hm with hm | hm
          · have := (List.pairwise_append.1 s1).2.2 j hm y (by simp); omega
          · have := List.mem_singleton.1 hm; omega
      · simp only [List.singleton_append, List.mem_cons] at hm
        rcases hm with hm | hm
        · omega
        · have := s2.1 j hm; omega
/-- Behind the last item of the set there is none. -/
theorem end_none {z : Int} (hz : z < 64) {j : Nat} (h : nxB (itemsL z) ≤ j) : bitB z j = false := by
  cases e : bitB z j
  · rfl
  · have hm := (mem_itemsL hz).2 e
    unfold nxB at h
    cases el : (itemsL z).getLast? with
    | none => rw [List.getLast?_eq_none_iff.1 el] at hm; cases hm
    | some y =>
      rw [el] at h
      simp at h
      obtain ⟨ys, hys⟩ := List.getLast?_eq_some_iff.1 el
      have hs := itemsL_sorted z
      rw [hys] at hm hs
      rcases List.mem_append.1 hm with hm | hm
      · have := (List.pairwise_append.1 hs).2.2 j hm y (by simp); omega
      · have := List.mem_singleton.1 hm; omega
theorem nxB_le {z : Int} {n : Nat} (h0 : 0 ≤ z) (h1 : z < powI n) (hz : z < 64) : nxB (itemsL z) ≤ n := by
  unfold nxB
  cases el : (itemsL z).getLast? with
  | none => simp
  | some y =>
    exact bitB_lt h1 ((mem_itemsL hz).1 (List.mem_of_getLast? el))
end Go.Proofs.Ytghogabmkbadjab

/- A region that draws its order, in a round of a loop over a function, by the laws for plain machines: where nothing in it defers, and no round may outgrow. -/
namespace Go.Proofs.Ytghogabmkbadjab
open Go.RowKit

section
variable {n : Nat} {P : Program} {ops : Array Oper} {Q : Exit → Act → World → Prop} {md : Region.Mode} {S : World → Prop} {l₀ : Nat}
theorem rows_wide {row : String} {args : Array Value} {w : World} {R : Value → World → Prop} (h : Rows P row args w R) : RowsIn Fence.wide n P row args w R :=
  fun c cs _ => let ⟨v, w', r, s⟩ := h c cs; ⟨v, w', r, stepsIn_wide.2 s⟩
theorem oper_wide {o : Oper} {a : Act} {w : World} {K : Act → World → Prop} (h : o.wp P a w K Q) : o.wpIn Fence.wide n P a w K Q := by
  unfold Oper.wp at h
  refine ⟨fun _ _ => trivial, ?_⟩
  rw [show Fence.wide.round = none from rfl, Oper.semAt_none]
  generalize (execOp a.eval o).run P w = r at h ⊢
  have hd : Fence.wide.depth.isSome = true → 1 ≤ n := fun e => by cases e
  cases r with
  | ok x w' =>
    cases x with
    | value v => exact h
    | skip => exact h
    | defer d => exact h
    | enter f args => exact ⟨hd, callsIn_wide.2 h⟩
    | row row args => exact ⟨hd, rows_wide h⟩
    | _ => exact h.elim
  | halt x w' => cases x <;> exact h
theorem op_wide (hQ : ¬ LetsOut Q) {i : Nat} {a : Act} {w : World} {K K' : Act → World → Prop} (hK : ∀ a w, K a w → K' a w) (h : wpOp P ops Q i K a w) : wpOpIn Fence.wide n P ops Q i K' a w := by
  unfold wpOp at h
  unfold wpOpIn
  split
  · rename_i ho; simp only [ho] at h; exact hK _ _ h
  · rename_i o ho
    simp only [ho] at h
    split
    · rename_i hw
      simp only [hw, if_true] at h
      rcases h with h | h
      · exact Oper.wpIn_mono hK (oper_wide h)
      · exact absurd h.2 hQ
    · rename_i hw
      simp only [hw] at h
      exact ⟨fun _ _ => trivial, hK _ _ h⟩
theorem any_wide (hQ : ¬ LetsOut Q) : ∀ (fuel : Nat) (listed : Array Bool) (a : Act) (w : World), wpAny P md ops Q fuel listed a w → wpAnyIn Fence.wide n P md ops Q fuel listed a w
  | 0, _, _, _, h => h
  | fuel + 1, _, _, _, h => ⟨h.1, fun i hi => op_wide hQ (fun a w h' => any_wide hQ fuel _ a w h') (h.2 i hi)⟩
/-- The beginning, in a round: a condition S on the worlds met is shown of the world behind the draw, and handed on. -/
theorem region_held_round {id : Nat} {a : Act} {w : World} {l : List Oper} (hm : P.follows .mixedOrders = true) (hd : l.all noDefer = true) (hQ : ¬ LetsOut Q) (hS : S w.drew)
    (h : S w.drew → wpAnyH P .any l.toArray Q S l.toArray.size (Array.replicate l.toArray.size false) a w.drew) : (Code.region id l.toArray true).wpIn (Fence.wide.inRound l₀) n P Q a w :=
  wpIn_region_any hm (anyIn_round (fun _ o ho => noDefer_spec (List.all_eq_true.1 hd o (List.mem_of_getElem? (by simpa using ho)))) _ _ _ _ (any_wide hQ _ _ _ _ (wpAny_of_held _ _ _ _ (h hS))))
end

/-! A region whose last operation writes what an earlier one has read: the condition S is asked behind every operation but the last one, z, which waits for all. -/
section
variable {n : Nat} {P : Program} {ops : Array Oper} {Q : Exit → Act → World → Prop} {md : Region.Mode} {S : World → Prop} {z : Nat} {l₀ : Nat}
def anyT (P : Program) (md : Region.Mode) (ops : Array Oper) (Q : Exit → Act → World → Prop) (S : World → Prop) (z : Nat) : Nat → Array Bool → Act → World → Prop
  | 0, listed, a, w => Region.ready md ops listed = [] ∧ Q .normal a w
  | fuel + 1, listed, a, w => (Region.ready md ops listed = [] → Q .normal a w) ∧
    ∀ i ∈ Region.ready md ops listed, wpOp P ops Q i (fun a' w' => (i ≠ z → S w') ∧ anyT P md ops Q S z fuel (listed.setIfInBounds i true) a' w') a w
theorem any_of_T : ∀ (fuel : Nat) (listed : Array Bool) (a : Act) (w : World), anyT P md ops Q S z fuel listed a w → wpAny P md ops Q fuel listed a w
  | 0, _, _, _, h => h
  | fuel + 1, _, _, _, h => ⟨h.1, fun i hi => wpOp_mono (fun a' w' h' => any_of_T fuel _ a' w' h'.2) (h.2 i hi)⟩
/-- What may come up before the last one may be taken first, if it yields the same in every world met. -/
theorem anyT_first {i : Nat} {oi : Oper} {v : Value} (hi : ops[i]? = some oi) (hsel : ∀ (j : Nat) (o : Oper) cs b, ops[j]? = some o → o.op ≠ .select cs b)
    (hQ : ∀ c a w, Q (.panic c) (a.put oi.dst v) w → Q (.panic c) a w) (hs : Region.sinkB md ops z = true) (hc : Region.chainB md ops z = true) (hz : z < ops.size) (hiz : i < z) :
    ∀ (fuel : Nat) (listed : Array Bool) (a : Act) (w : World), HeadInv md ops z listed →
      (∀ j oj, ops[j]? = some oj → j ≠ i → listed.getD j true = false → (∀ e ∈ oj.after, Region.binds md e = true → e.on ≠ i) → oi.apart ops oj = true) →
      i ∈ Region.ready md ops listed → YieldsIf P ops S oi v a → S w →
      anyT P md ops Q S z fuel (listed.setIfInBounds i true) (a.put oi.dst v) w → anyT P md ops Q S z (fuel + 1) listed a w
  | fuel, listed, a, w, inv, hfree, hr, hy, hS, H => by
    have hun := (mem_ready.1 hr).1
    refine ⟨fun h => (by rw [h] at hr; cases hr), fun j hj => ?_⟩
    by_cases hji : j = i
    · rw [hji]; exact hy.wpOp hi hS ⟨fun _ => hS, H⟩
    · have hjz : j < z := by
        rcases Nat.lt_or_ge j z with h | h
        · exact h
        · exact absurd hj (tail_waits hs hc hz inv _ i rfl hiz hun j h)
      cases fuel with
      | zero =>
        have := ready_mono hj hji
        rw [H.1] at this
        cases this
      | succ fuel =>
        have h1 := H.2 j (ready_mono hj hji)
        obtain ⟨hjun, oj, hoj, hall⟩ := mem_ready.1 hj
        have hnot : ∀ e ∈ oj.after, Region.binds md e = true → e.on ≠ i := fun e he hb heq => by
          have h1 := hall e he hb
          rw [heq, getD_both hun] at h1
          cases h1
        have h2 := wpOp_putIf hoj (hfree j oj hoj hji hjun hnot) (fun cs b => hsel i oi cs b hi) (fun cs b => hsel j oj cs b hoj) hQ hy h1
        have hfree' : ∀ k ok, ops[k]? = some ok → k ≠ i → (listed.setIfInBounds j true).getD k true = false →
            (∀ e ∈ ok.after, Region.binds md e = true → e.on ≠ i) → oi.apart ops ok = true := fun k ok hk hki hkun hno => by
          refine hfree k ok hk hki ?_ hno
          by_cases hjk : j = k
          · rw [← hjk]; exact hjun
          · rw [getD_set_ne true hjk] at hkun; exact hkun
        refine wpOp_mono (fun a' w' h3 => ?_) h2
        have hS' := h3.2.1 (by omega)
        refine ⟨fun _ => hS', anyT_first hi hsel hQ hs hc hz hiz fuel (listed.setIfInBounds j true) a' w' (inv.set hj hjz) hfree' (ready_mono hr (Ne.symm hji)) h3.1 hS' ?_⟩
        rw [Array.setIfInBounds_comm _ _ hji]
        exact h3.2.2
/-- The state of a walk through the head, as a Bool. -/
def headB (md : Region.Mode) (ops : Array Oper) (z : Nat) (listed : Array Bool) : Bool :=
  listed.size == ops.size && ((List.range ops.size).all (fun j => !(listed.getD j false) || match ops[j]? with | some o => o.after.all (fun e => !(Region.binds md e) || listed.getD e.on false) | none => true) &&
    (List.range ops.size).all fun t => decide (t < z) || !(listed.getD t true))
theorem headB_inv {listed : Array Bool} (h : headB md ops z listed = true) : HeadInv md ops z listed := by
  unfold headB at h
  rw [Bool.and_eq_true, Bool.and_eq_true, List.all_eq_true, List.all_eq_true, beq_iff_eq] at h
  refine ⟨h.1, fun j oj hj hl e he hb => ?_, fun t ht htn => ?_⟩
  · have := h.2.1 j (by simpa using (Array.getElem?_eq_some_iff.1 hj).1)
    rw [hj, hl] at this
    simp only [Bool.not_true, Bool.false_or] at this
    rw [Array.all_eq_true_iff_forall_mem] at this
    have h2 := this e he
    rw [hb] at h2
    simpa using h2
  · have := h.2.2 t (by simpa using htn)
    have hlt : ¬ t < z := by omega
    simpa [hlt] using this
theorem anyT_take {i : Nat} {oi : Oper} {v : Value} {fuel : Nat} {listed : Array Bool} {a : Act} {w : World} (hi : ops[i]? = some oi)
    (hc : (Region.noSelect ops && Region.sinkB md ops z && Region.chainB md ops z && decide (z < ops.size) && decide (i < z) && headB md ops z listed && Region.free md ops listed i && (Region.ready md ops listed).contains i) = true)
    (hQ : ∀ c a w, Q (.panic c) (a.put oi.dst v) w → Q (.panic c) a w) (hy : YieldsIf P ops S oi v a) (hS : S w)
    (h : anyT P md ops Q S z fuel (listed.setIfInBounds i true) (a.put oi.dst v) w) : anyT P md ops Q S z (fuel + 1) listed a w := by
  simp only [Bool.and_eq_true, decide_eq_true_eq] at hc
  obtain ⟨⟨⟨⟨⟨⟨⟨h1, h2⟩, h3⟩, h4⟩, h5⟩, h6⟩, h7⟩, h8⟩ := hc
  exact anyT_first hi (Region.noSelect_spec h1) hQ h2 h3 h4 h5 fuel listed a w (headB_inv h6) (Region.free_spec hi h7) (by simpa using h8) hy hS h
/-- The only one that may come up: it is carried out. -/
theorem anyT_one {i : Nat} {o : Oper} {fuel : Nat} {listed : Array Bool} {a : Act} {w : World} (hr : Region.ready md ops listed = [i]) (ho : ops[i]? = some o)
    (h : ∀ K' : Act → World → Prop, Shut (∀ a w, (i ≠ z → S w) → anyT P md ops Q S z fuel (listed.setIfInBounds i true) a w → K' a w) → if Region.wanted o (yielded ops a.tmps) = true then Oper.wp P o a w K' Q else K' (a.put o.dst undef) w) :
    anyT P md ops Q S z (fuel + 1) listed a w :=
  ⟨fun h0 => (by rw [hr] at h0; cases h0), fun j hj => by
    rw [hr] at hj
    obtain rfl := List.mem_singleton.1 hj
    exact wpOp_step ho (fun K' hK => h K' (fun a w hS hW => hK a w ⟨hS, hW⟩))⟩
theorem anyT_done {listed : Array Bool} {a : Act} {w : World} (hr : Region.ready md ops listed = []) (h : Q .normal a w) : ∀ fuel, anyT P md ops Q S z fuel listed a w
  | 0 => ⟨hr, h⟩
  | _ + 1 => ⟨fun _ => h, by rw [hr]; simp⟩
theorem region_T_round {id : Nat} {a : Act} {w : World} {l : List Oper} (z : Nat) (hm : P.follows .mixedOrders = true) (hd : l.all noDefer = true) (hQ : ¬ LetsOut Q)
    (h : anyT P .any l.toArray Q S z l.toArray.size (Array.replicate l.toArray.size false) a w.drew) : (Code.region id l.toArray true).wpIn (Fence.wide.inRound l₀) n P Q a w :=
  wpIn_region_any hm (anyIn_round (fun _ o ho => noDefer_spec (List.all_eq_true.1 hd o (List.mem_of_getElem? (by simpa using ho)))) _ _ _ _ (any_wide hQ _ _ _ _ (any_of_T _ _ _ _ h)))
theorem region_T {id : Nat} {a : Act} {w : World} {l : List Oper} (z : Nat) (hm : P.follows .mixedOrders = true)
    (h : anyT P .any l.toArray Q S z l.toArray.size (Array.replicate l.toArray.size false) a w.drew) : (Code.region id l.toArray true).wp P Q a w :=
  wp_region_any hm (any_of_T _ _ _ _ h)
end
end Go.Proofs.Ytghogabmkbadjab

/- What the own laws of lines ask of the mathematics, put together. No program. -/
namespace Go.Proofs.Ytghogabmkbadjab

theorem next_some {zs : List Int} (h : VoP zs) {s : Nat} (hs : s < 2 ^ zs.length) (h0 : s ≠ 0) : nextL zs s ≠ [] := by
  intro e
  have hn6 := h.1
  have hp64 := pow_le64 hn6
  have hpi : powI (zs.length : Int) = ((2 ^ zs.length : Nat) : Int) := by simp [powI]
  have hd := du_vo h
  have ht := tops_none (zs := du zs) (s := (s : Int)) hd (by omega) (by rw [du_len, hpi]; omega)
  rw [du_len] at ht
  have hT := topsTo_bd (du zs) (s : Int) zs.length
  have hz : topsTo (du zs) (s : Int) zs.length = 0 := by
    refine bitB_ext hT.1 (Int.le_refl _) fun j => ?_
    rw [bitB_zero]
    cases hb : bitB (topsTo (du zs) (s : Int) zs.length) j
    · rfl
    · have hj := bitB_lt hT.2 hb
      have : j ∈ nextL zs s := by
        rw [nextL_is h, List.mem_filter, List.mem_range]
        refine ⟨hj, ?_⟩
        rw [topsTo_bit] at hb
        obtain ⟨_, b1, b2⟩ := hb
        rw [bit_cast] at b1
        unfold eF
        rw [b1, b2]; rfl
      rw [e] at this; cases this
  rw [hz] at ht
  have h1 : ((s : Int) == 0) = false := by simpa using h0
  rw [h1] at ht
  cases ht
theorem cF_ge1 {zs : List Int} (h : VoP zs) : ∀ (k s : Nat), s ≤ k → s < 2 ^ zs.length → 1 ≤ cF zs s
  | 0, s, hk, _ => by
    obtain rfl : s = 0 := by omega
    rw [cF_zero]; exact Nat.le_refl _
  | k + 1, s, hk, hs => by
    by_cases h0 : s = 0
    · subst h0; rw [cF_zero]; exact Nat.le_refl _
    · rw [← accF_all h h0]
      have hne := next_some h hs h0
      unfold accF
      cases hL : nextL zs s with
      | nil => exact absurd hL hne
      | cons x l =>
        have hlt := sub_lt (a := x) h0
        have ih := cF_ge1 h k (s - 2 ^ x) (by omega) (by omega)
        rw [List.map_cons, List.sum_cons]
        omega
theorem lines_facts {zs : List Int} (h : VoP zs) : ∃ F : Nat, 1 ≤ F ∧ F ≤ 46656 ∧ linesR zs = (F : Int) ∧ linesR (du zs) = (F : Int) ∧ hasAt zs ((F : Int) - 1) = true ∧ hasAt zs (F : Int) = false := by
  have hp := Nat.two_pow_pos zs.length
  have hv : vo zs = true := by simpa [vo] using h
  have hv2 : vo (du zs) = true := by simpa [vo] using du_vo h
  have hF := cF_le h (s := 2 ^ zs.length - 1) (by omega)
  have h1 := cF_ge1 h _ (2 ^ zs.length - 1) (Nat.le_refl _) (by omega)
  have h2 := count_du h
  have h3 := count_both h
  have h4 := count_both (du_vo h)
  rw [du_len] at h4
  obtain ⟨F, hFF⟩ : ∃ F, cF zs (2 ^ zs.length - 1) = F := ⟨_, rfl⟩
  rw [hFF] at hF h1 h2 h3
  refine ⟨F, h1, hF, ?_, ?_, ?_, ?_⟩
  · unfold linesR; rw [hv, if_pos rfl, h3]
  · unfold linesR; rw [hv2, if_pos rfl, du_len, h4, h2]
  · unfold hasAt; rw [hv, hFF, decide_eq_true (show (0 : Int) ≤ (F : Int) - 1 by omega), decide_eq_true (show (F : Int) - 1 < (F : Int) by omega)]; rfl
  · unfold hasAt; rw [hFF, decide_eq_false (show ¬ (F : Int) < (F : Int) by omega)]; simp
theorem atR_few (zs : List Int) (r : Int) : (atR zs r).length ≤ 6 := by
  unfold atR
  cases hh : hasAt zs r
  · simp
  · unfold hasAt at hh
    rw [Bool.and_eq_true] at hh
    have hvo : VoP zs := by simpa [vo] using hh.1
    have := hvo.1
    rw [if_pos rfl, atL_len]; omega
theorem at_facts {zs : List Int} {r : Int} (hh : hasAt zs r = true) : isLineR zs (atR zs r) = true ∧ rankR zs (atR zs r) = r := by
  have hA : atR zs r = atL zs r.toNat zs.length := by unfold atR; rw [hh]; rfl
  unfold hasAt at hh
  rw [Bool.and_eq_true, Bool.and_eq_true, decide_eq_true_eq, decide_eq_true_eq] at hh
  have hvo : VoP zs := by simpa [vo] using hh.1
  obtain ⟨h1, h2⟩ := rank_at hvo (r := r.toNat) (by omega)
  have hI : isLineR zs (atR zs r) = true := by unfold isLineR; rw [hA, hh.1, h1]; rfl
  refine ⟨hI, ?_⟩
  unfold rankR
  rw [hI, if_pos rfl, hA, atL_len, h2]
  omega
theorem rank_facts {zs ls : List Int} (h : isLineR zs ls = true) : ∃ Q F : Nat, Q < F ∧ F ≤ 46656 ∧ rankR zs ls = (Q : Int) ∧ linesR zs = (F : Int) ∧ hasAt zs (Q : Int) = true ∧ atR zs (Q : Int) = ls ∧ ls.length ≤ 6 := by
  have h' := h
  unfold isLineR at h
  rw [Bool.and_eq_true] at h
  have hvo : VoP zs := by simpa [vo] using h.1
  have hp := Nat.two_pow_pos zs.length
  have hF := cF_le hvo (s := 2 ^ zs.length - 1) (by omega)
  obtain ⟨h1, h2⟩ := at_rank hvo h.2
  have hlen := (line_steps h.2).1
  have hn6 := hvo.1
  have hH : hasAt zs (rkUp zs ls zs.length : Int) = true := by
    unfold hasAt; rw [h.1, decide_eq_true (show (0 : Int) ≤ (rkUp zs ls zs.length : Int) by omega), decide_eq_true (show (rkUp zs ls zs.length : Int) < (cF zs (2 ^ zs.length - 1) : Int) by omega)]; rfl
  refine ⟨rkUp zs ls zs.length, cF zs (2 ^ zs.length - 1), h1, hF, ?_, ?_, hH, ?_, by omega⟩
  · unfold rankR; rw [h', if_pos rfl, hlen]
  · unfold linesR; rw [h.1, if_pos rfl, count_both hvo]
  · unfold atR; rw [hH, if_pos rfl, Int.toNat_natCast]; exact h2
theorem back_fact {zs ls : List Int} (h : isLineR zs ls = true) : isLineR (du zs) ls.reverse = true := by
  unfold isLineR at h ⊢
  rw [Bool.and_eq_true] at h
  have hvo : VoP zs := by simpa [vo] using h.1
  rw [line_back hvo h.2, show vo (du zs) = true by simpa [vo] using du_vo hvo]; rfl
theorem dual_fact {zs ls : List Int} (h : isLineR zs ls = true) : dualR zs = du zs := by
  unfold isLineR at h
  rw [Bool.and_eq_true] at h
  unfold dualR
  rw [h.1]; rfl
end Go.Proofs.Ytghogabmkbadjab

/- All lines as the program tells them: what is left, and which item is next. No program. -/
namespace Go.Proofs.Ytghogabmkbadjab

/-- What is lined up (s), and what is left, of which there are k. -/
structure Lft (n : Nat) (s left : Int) (k : Nat) : Prop where
  s0 : 0 ≤ s
  s1 : s < powI n
  l0 : 0 ≤ left
  l1 : left < powI n
  bit : ∀ j : Nat, bitB left j = (decide (j < n) && !bitB s j)
  pop : popI left = k
theorem pop_all_fin : ∀ n : Fin 7, popI (powI (n.val : Int) - 1) = (n.val : Int) := by decide +kernel
theorem pop_less1_fin : ∀ s : Fin 64, ∀ a : Fin 6, bitB (s.val : Int) (a.val : Int) = true → popI (lessI (s.val : Int) (powI (a.val : Int))) = popI (s.val : Int) - 1 := by decide +kernel
theorem pop_zero_fin : ∀ s : Fin 64, popI (s.val : Int) = 0 ↔ (s.val : Int) = 0 := by decide +kernel
theorem lft_start {n : Nat} (hn : n ≤ 6) : Lft n 0 (powI n - 1) n := by
  have hp := powI_pos (n : Int)
  refine ⟨by omega, hp, by omega, by omega, fun j => ?_, pop_all_fin ⟨n, by omega⟩⟩
  rw [all_bits, bitB_zero]
  simp
theorem lft_zero {n k : Nat} {s left : Int} (hn : n ≤ 6) (h : Lft n s left k) : left = 0 ↔ k = 0 := by
  have hp := powI_le6 (n := (n : Int)) (by omega)
  have h1 := h.l1
  have h2 := h.pop
  obtain ⟨t, rfl⟩ := Int.eq_ofNat_of_zero_le h.l0
  have := pop_zero_fin ⟨t, by omega⟩
  simp only at this
  rw [← this, h2]
  omega
theorem lft_step {zs : List Int} {n k a : Nat} {s left : Int} (hlen : zs.length = n) (hn : n ≤ 6) (h : Lft n s left (k + 1)) (ha : a < n) (hs : stA2 zs s a = true) : Lft n (orI s (powI a)) (lessI left (powI a)) k := by
  have hp := powI_le6 (n := (n : Int)) (by omega)
  have hpa : powI (a : Int) < powI (n : Int) := powI_lt (by omega)
  have hp0 := powI_pos (a : Int)
  have ho := orI_bd h.s0 h.s1 (by omega) hpa
  have hl := lessI_bd left (powI a)
  have h0 := h.l0
  have h1 := h.l1
  have hsa : bitB s (a : Int) = false := by
    unfold stA2 at hs
    rw [Bool.and_eq_true, Bool.and_eq_true] at hs
    simpa using hs.2.1
  have hba : bitB left (a : Int) = true := by rw [h.bit a, hsa]; simp [ha]
  refine ⟨ho.1, ho.2, hl.1, by omega, fun j => ?_, ?_⟩
  · rw [bitB_less, bitB_or, bitB_pow, h.bit j]
    cases decide (j < n) <;> cases bitB s j <;> cases decide (a = j) <;> rfl
  · obtain ⟨t, ht⟩ := Int.eq_ofNat_of_zero_le h0
    have h2 := h.pop
    subst ht
    have := pop_less1_fin ⟨t, by omega⟩ ⟨a, by omega⟩ hba
    simp only at this
    rw [this, h2]
    omega
theorem next_bit {zs : List Int} {n k a : Nat} {s left : Int} (hvo : VoP zs) (hlen : zs.length = n) (h : Lft n s left k) (ha : a < n) : bitB (topsTo (du zs) left n) (a : Int) = stA2 zs s a := by
  have hds := (du_sets hvo.sets).2 a (by rw [du_len, hlen]; exact ha)
  rw [du_len, hlen] at hds
  have hl := h.bit a
  have hin : inB (a : Int) 0 ((zs.length : Int) - 1) = true := by simp [inB]; omega
  have key : bitB (topsTo (du zs) left n) (a : Int) = true ↔ stA2 zs s a = true := by
    rw [topsTo_bit]
    unfold stA2
    rw [hin, hl, Bool.true_and, Int.toNat_natCast]
    simp only [Bool.and_eq_true]
    have e2 : andI ((du zs)[a]?.getD 0) left = 0 ↔ (lessI ((du zs)[a]?.getD 0) s == 0) = true := by
      rw [beq_iff_eq, andI_zero]
      constructor
      · intro e
        refine bitB_ext (lessI_bd _ _).1 (Int.le_refl _) fun j => ?_
        rw [bitB_less, bitB_zero]
        cases e1 : bitB ((du zs)[a]?.getD 0) j
        · rfl
        · cases e3 : bitB s j
          · have hj := bitB_lt hds.2 e1
            have := e j (by rw [h.bit j, e3]; simp [hj])
            rw [e1] at this; cases this
          · rfl
      · intro e j hj
        rw [h.bit j, Bool.and_eq_true] at hj
        cases e1 : bitB ((du zs)[a]?.getD 0) j
        · rfl
        · have := bitB_less ((du zs)[a]?.getD 0) s j
          rw [e, bitB_zero, e1] at this
          simp at this hj
          rw [this] at hj
          simp at hj
    constructor
    · rintro ⟨_, h1, h2⟩
      exact ⟨h1.2, e2.1 h2⟩
    · rintro ⟨h1, h2⟩
      exact ⟨ha, ⟨by simpa using ha, h1⟩, e2.2 h2⟩
  cases e1 : bitB (topsTo (du zs) left n) (a : Int) <;> cases e2 : stA2 zs s a <;> simp_all
theorem filter_more {p : Nat → Bool} {n : Nat} (h : ∀ a, n ≤ a → p a = false) : ∀ d : Nat, (List.range (n + d)).filter p = (List.range n).filter p
  | 0 => rfl
  | d + 1 => by
    rw [← Nat.add_assoc, List.range_succ, List.filter_append, filter_more h d]
    simp [h (n + d) (by omega)]
/-- The items that may be next, as both sides find them. -/
def nxA (zs : List Int) (s : Int) : List Nat := (List.range zs.length).filter fun a => stA2 zs s a
theorem next_items {zs : List Int} {n k : Nat} {s left : Int} (hvo : VoP zs) (hlen : zs.length = n) (hn : n ≤ 6) (h : Lft n s left k) : itemsL (topsTo (du zs) left n) = nxA zs s := by
  unfold itemsL itemsTo nxA
  have h1 := filter_more (p := fun a => bitB (topsTo (du zs) left n) (a : Int)) (n := n) (fun a ha => by
    cases e : bitB (topsTo (du zs) left n) (a : Int)
    · rfl
    · have := ((topsTo_bit a n).1 e).1; omega) (6 - n)
  rw [show n + (6 - n) = 6 by omega] at h1
  rw [h1, hlen]
  exact List.filter_congr fun a ha => next_bit hvo hlen h (List.mem_range.1 ha)
theorem flat_if {α : Type} (p : Nat → Bool) (f : Nat → List α) : ∀ l : List Nat, (l.flatMap fun a => if p a then f a else []) = (l.filter p).flatMap f
  | [] => rfl
  | a :: l => by
    rw [List.flatMap_cons, List.filter_cons, flat_if p f l]
    cases p a
    · simp
    · simp [List.flatMap_cons]
/-- The lines behind the items of xs, one after the other. -/
def alX (zs : List Int) (k : Nat) (so : List Int) (s : Int) (xs : List Nat) : List (List Int) := xs.flatMap fun a : Nat => alG zs k (so ++ [(a : Int)]) (orI s (powI a))
theorem alX_nil (zs : List Int) (k : Nat) (so : List Int) (s : Int) : alX zs k so s [] = [] := rfl
theorem alX_snoc (zs : List Int) (k : Nat) (so : List Int) (s : Int) (xs : List Nat) (a : Nat) : alX zs k so s (xs ++ [a]) = alX zs k so s xs ++ alG zs k (so ++ [(a : Int)]) (orI s (powI a)) := by
  unfold alX; rw [List.flatMap_append]; simp
theorem alX_all (zs : List Int) (k : Nat) (so : List Int) (s : Int) : alX zs k so s (nxA zs s) = alG zs (k + 1) so s := by
  unfold alX nxA
  rw [alG, flat_if]
theorem alX_pre (zs : List Int) (k : Nat) (so : List Int) (s : Int) {xs : List Nat} (h : xs <+: nxA zs s) : alX zs k so s xs <+: alG zs (k + 1) so s := by
  obtain ⟨t, e⟩ := h
  rw [← alX_all, ← e]
  unfold alX
  rw [List.flatMap_append]
  exact List.prefix_append _ _
theorem nxA_mem {zs : List Int} {s : Int} {a : Nat} (h : a ∈ nxA zs s) : a < zs.length ∧ stA2 zs s a = true := by
  unfold nxA at h
  rw [List.mem_filter, List.mem_range] at h
  exact h
theorem alG_len (zs : List Int) : ∀ (k : Nat) (so : List Int) (s : Int) (l : List Int), l ∈ alG zs k so s → l.length = so.length + k := by
  intro k so s l h
  obtain ⟨t, h1, rfl, _⟩ := (alG_mem zs k so s l).1 h
  rw [List.length_append, h1]
end Go.Proofs.Ytghogabmkbadjab

/- What LinesOf's own law asks: all lines stand by their ranks. No program. -/
namespace Go.Proofs.Ytghogabmkbadjab

/-- One list stands ahead of another one: at the first place where they differ it has the lesser number. -/
def lexLt (x y : List Int) : Prop := ∃ (so : List Int) (a b : Int) (t u : List Int), x = so ++ a :: t ∧ y = so ++ b :: u ∧ a < b
theorem alG_lex (zs : List Int) : ∀ (k : Nat) (so : List Int) (s : Int), (alG zs k so s).Pairwise lexLt
  | 0, so, s => by rw [alG]; exact List.pairwise_singleton _ _
  | k + 1, so, s => by
    rw [alG]
    unfold List.flatMap
    refine List.pairwise_flatten.2 ⟨fun l hl => ?_, ?_⟩
    · obtain ⟨a, _, rfl⟩ := List.mem_map.1 hl
      split
      · exact alG_lex zs k _ _
      · exact List.Pairwise.nil
    · rw [List.pairwise_map]
      refine List.Pairwise.imp_of_mem (R := (· < ·)) ?_ (List.pairwise_lt_range)
      intro a b _ _ hab x hx y hy
      split at hx
      · split at hy
        · obtain ⟨t, _, e1, _⟩ := (alG_mem zs k _ _ _).1 hx
          obtain ⟨t', _, e2, _⟩ := (alG_mem zs k _ _ _).1 hy
          exact ⟨so, (a : Int), (b : Int), t, t', by rw [e1]; simp, by rw [e2]; simp, by omega⟩
        · cases hy
      · cases hx
theorem doneTo_head (so t u : List Int) : ∀ m : Nat, m ≤ so.length → doneTo (so ++ t) m = doneTo (so ++ u) m
  | 0, _ => rfl
  | m + 1, h => by
    unfold doneTo
    rw [doneTo_head so t u m (by omega), List.getElem?_append_left (by omega), List.getElem?_append_left (by omega)]
theorem rkUp_head (zs so t u : List Int) : ∀ m : Nat, m ≤ so.length → rkUp zs (so ++ t) m = rkUp zs (so ++ u) m
  | 0, _ => rfl
  | m + 1, h => by
    have hd := doneTo_head so t u m (by omega)
    have hi : (so ++ t)[m]?.getD 0 = (so ++ u)[m]?.getD 0 := by rw [List.getElem?_append_left (by omega), List.getElem?_append_left (by omega)]
    rw [rkUp_succ, rkUp_succ, rkUp_head zs so t u m (by omega)]
    unfold dN itN
    rw [hd, hi]
theorem rank_lex {zs x y : List Int} (hv : VoP zs) (hx : lineB zs x = true) (hy : lineB zs y = true) (h : lexLt x y) : rkUp zs x zs.length < rkUp zs y zs.length := by
  obtain ⟨so, a, b, t, u, rfl, rfl, hab⟩ := h
  obtain ⟨hlx, hsx⟩ := line_steps hx
  obtain ⟨hly, hsy⟩ := line_steps hy
  have hm : so.length < zs.length := by rw [List.length_append, List.length_cons] at hlx; omega
  have hax : (so ++ a :: t)[so.length]?.getD 0 = a := by simp
  have hby : (so ++ b :: u)[so.length]?.getD 0 = b := by simp
  have hix := it_is (hsx so.length hm)
  have hiy := it_is (hsy so.length hm)
  have hd : dN (so ++ a :: t) so.length = dN (so ++ b :: u) so.length := by unfold dN; rw [doneTo_head so (a :: t) (b :: u) so.length (Nat.le_refl _)]
  have h1 := line_lt hv hsx (zs.length - (so.length + 1)) (so.length + 1) (by omega)
  have h2 := rkIn_line hv hsx hm
  have h3 := rkUp_succ (zs := zs) (ls := so ++ a :: t) so.length
  have h4 := rkUp_succ (zs := zs) (ls := so ++ b :: u) so.length
  have h5 := rkUp_head zs so (a :: t) (b :: u) so.length (Nat.le_refl _)
  have hlt : itN (so ++ a :: t) so.length + 1 ≤ itN (so ++ b :: u) so.length := by
    have e1 := hix.1
    have e2 := hiy.1
    rw [hax] at e1
    rw [hby] at e2
    omega
  have h6 := rkIn_mono' (zs := zs) (D := dN (so ++ b :: u) so.length) hlt
  have h7 := rkUp_mono' (zs := zs) (ls := so ++ b :: u) (show so.length + 1 ≤ zs.length from hm)
  rw [hd] at h2 h3
  rw [← h5] at h4
  generalize rkIn zs (dN (so ++ b :: u) so.length) (itN (so ++ a :: t) so.length) = p at *
  generalize rkIn zs (dN (so ++ b :: u) so.length) (itN (so ++ b :: u) so.length) = q at *
  omega
/-- The ranks of all lines, in their order. -/
theorem ranks_all {zs : List Int} (hv : VoP zs) : (alL zs).map (fun l => rkUp zs l zs.length) = List.range (cF zs (2 ^ zs.length - 1)) := by
  refine inc_ext _ _ ?_ (range_inc _) fun r => ?_
  · rw [List.pairwise_map]
    refine List.Pairwise.imp_of_mem (R := lexLt) ?_ (alG_lex zs zs.length [] 0)
    intro x y hx hy hl
    exact rank_lex hv ((alL_mem zs x).1 hx) ((alL_mem zs y).1 hy) hl
  · rw [List.mem_map, List.mem_range]
    constructor
    · rintro ⟨l, hl, rfl⟩
      exact (at_rank hv ((alL_mem zs l).1 hl)).1
    · intro hr
      obtain ⟨h1, h2⟩ := rank_at hv hr
      exact ⟨_, (alL_mem zs _).2 h1, h2⟩
/-- Whether one row is less, as the law sees it. -/
def lessRB : List Int → List Int → Bool
  | x :: xs, y :: ys => if x = y then lessRB xs ys else decide (x < y)
  | _, _ => false
theorem lessRB_lex {x y : List Int} (h : lexLt x y) : lessRB x y = true := by
  obtain ⟨so, a, b, t, u, rfl, rfl, hab⟩ := h
  induction so with
  | nil =>
    show (if a = b then lessRB t u else decide (a < b)) = true
    rw [if_neg (by omega)]
    simpa using hab
  | cons c so ih =>
    show (if c = c then lessRB (so ++ a :: t) (so ++ b :: u) else decide (c < c)) = true
    rw [if_pos rfl]
    exact ih
/-- All that the law asks. -/
theorem lines_law {zs : List Int} (hv : VoP zs) : ((alL zs).length : Int) = linesR zs ∧ ∀ (i : Nat) (l : List Int), (alL zs)[i]? = some l → isLineR zs l = true ∧ rankR zs l = (i : Int) ∧ ∀ (j : Nat) (l' : List Int), i = j + 1 → (alL zs)[j]? = some l' → lessRB l' l = true := by
  have hr := ranks_all hv
  have hvb : vo zs = true := by unfold vo; exact decide_eq_true hv
  constructor
  · have h1 := congrArg List.length hr
    rw [List.length_map, List.length_range] at h1
    unfold linesR
    rw [hvb, if_pos rfl, count_both hv, h1]
  · intro i l hl
    have hm := (alL_mem zs l).1 (List.mem_of_getElem? hl)
    have hil := (List.getElem?_eq_some_iff.1 hl).1
    refine ⟨by unfold isLineR; rw [hvb, hm]; rfl, ?_, ?_⟩
    · have h1 := congrArg (fun z => z[i]?) hr
      simp only [List.getElem?_map, hl, Option.map_some] at h1
      have h2 := List.getElem?_eq_some_iff.1 h1.symm
      obtain ⟨h3, h4⟩ := h2
      rw [List.getElem_range] at h4
      unfold rankR isLineR
      rw [hvb, hm, (line_steps hm).1, ← h4]
      rfl
    · rintro j l' rfl hl'
      obtain ⟨hj, ej⟩ := List.getElem?_eq_some_iff.1 hl'
      obtain ⟨hi, ei⟩ := List.getElem?_eq_some_iff.1 hl
      have := List.pairwise_iff_getElem.1 (alG_lex zs zs.length [] 0) j (j + 1) hj hi (by omega)
      refine lessRB_lex ?_
      rw [← ej, ← ei]
      exact this
end Go.Proofs.Ytghogabmkbadjab

/- A range over a function that yields what lies in memory of its own (rows): 'own x' names the blocks of x, 'Has x' how it lies. The contract of such an iterator, and the law for the statement. -/
namespace Go.Proofs.Ytghogabmkbadjab
open Go.RowKit

/-- What is said of x abides the turn of all but x's own blocks. -/
def HasFirm {α : Type} (own : α → Nat → Prop) (Has : α → World → Prop) : Prop := ∀ x W W', Has x W → Upd (fun k => ¬ own x k) W W' → Has x W'

/-- The iterator's contract: lists for which Ok holds; Full tells of the whole. -/
def IterG {α : Type} (P : Program) (g : Nat) (lb : Array Value) (encs : α → Array Value) (own : α → Nat → Prop) (Has : α → World → Prop) (Ok Full : List α → Prop) (M : Nat → Prop) (w : World) : Prop :=
  ∀ (l : Nat) (J Jx : List α → (Nat → Prop) → World → Prop), Firm w.heap.size J → Firm w.heap.size Jx →
    (∀ pre x D W, J pre D W → w.heap.size ≤ W.heap.size → Ok (pre ++ [x]) → Has x W → (∀ k, own x k → w.heap.size ≤ k ∧ k < W.heap.size ∧ ¬ D k) → ∀ m, YieldAt Fence.wide m P l (encs x) W fun e W' =>
      (e = .returned (.bool true) ∧ ∃ D', J (pre ++ [x]) D' W' ∧ Upd (fun k => M k ∨ D k ∨ own x k) W W' ∧ ∀ k, D' k → (D k ∨ own x k) ∨ W.heap.size ≤ k ∧ k < W'.heap.size) ∨
      (e = .returned (.bool false) ∧ ∃ D', Jx (pre ++ [x]) D' W' ∧ Upd (fun k => M k ∨ D k ∨ own x k) W W' ∧ ∀ k, D' k → (D k ∨ own x k) ∨ W.heap.size ≤ k ∧ k < W'.heap.size)) →
    J [] (fun _ => False) w →
    Calls P g (#[.func (.yield l) #[] #[]] ++ lb) w fun e W' => (∃ v, e = .returned v) ∧ ((∃ xs D, Full xs ∧ J xs D W') ∨ ∃ pre D, Ok pre ∧ Jx pre D W')

/-- What a round owes: the assignments, then the body. -/
def RoundOwesG {α : Type} (P : Program) (m B : Nat) (encs : α → Array Value) (own : α → Nat → Prop) (Has : α → World → Prop) (ps : Array Tmp) (tmps : Array Value) (assign body : Code) (Ok : List α → Prop) (M : Nat → Prop) (J : List α → (Nat → Prop) → World → Prop) (Jx : Code → List α → (Nat → Prop) → World → Prop) : Prop :=
  ∀ (l : Nat) (pre : List α) (x : α) (D : Nat → Prop) (W : World), B ≤ l → l < W.heap.size → ¬ D l → ¬ own x l → (∀ k, D k → B ≤ k ∧ k < W.heap.size) → (∀ k, own x k → B ≤ k ∧ k < W.heap.size ∧ ¬ D k) → J pre D W → Has x W → Ok (pre ++ [x]) →
    ∀ K : Act → World → Prop,
      (∀ a' Wa, Upd (fun _ => False) W Wa → (∀ Wb, Upd (fun k => k = l) Wa Wb → (∃ r, Wb.heap[l]? = some (.loop r)) → J pre D Wb → Has x Wb → body.wpIn (Fence.wide.inRound l) m P (roundEnd M J Jx (pre ++ [x]) (fun k => D k ∨ own x k) W.heap.size Wb) a' Wb) → K a' Wa) →
      assign.wpIn (Fence.wide.inRound l) m P (Exit.then K (fun _ _ _ => False)) { tmps := (ps.zip (encs x)).foldl (fun t (p, v) => t.setIfInBounds p v) tmps, defers := [] } W

section
variable {P : Program} {n : Nat}

/-- The invariant of one round alone. -/
def oneJ {α : Type} (own : α → Nat → Prop) (Has : α → World → Prop) (J : List α → (Nat → Prop) → World → Prop) (pre : List α) (x : α) : List Unit → (Nat → Prop) → World → Prop
  | [], D, W => ∃ D0, D = (fun k => D0 k ∨ own x k) ∧ (∀ k, own x k → ¬ D0 k) ∧ J pre D0 W ∧ Has x W
  | [_], D, W => J (pre ++ [x]) D W
  | _, _, _ => False
theorem oneJ_firm {α : Type} {own : α → Nat → Prop} {Has : α → World → Prop} {J : List α → (Nat → Prop) → World → Prop} {pre : List α} {x : α} {B : Nat} (hH : HasFirm own Has) (hJ : Firm B J) : Firm B (oneJ own Has J pre x) := by
  intro s D W W' hs hu
  match s, hs with
  | [], hs =>
    obtain ⟨D0, rfl, h0, hj, hh⟩ := hs
    exact ⟨D0, rfl, h0, hJ _ _ _ _ hj (hu.mono fun k _ e => ⟨e.1, fun e2 => e.2 (.inl e2)⟩), hH _ _ _ hh (hu.mono fun k _ e e2 => e.2 (.inr e2))⟩
  | [_], hs => exact hJ _ _ _ _ hs hu

theorem round_ofG {α : Type} {l B B1 : Nat} {rec : LoopState → Option Code → Loop} {M : Nat → Prop} {encs : α → Array Value} {own : α → Nat → Prop} {Has : α → World → Prop} {ps : Array Tmp} {tmps : Array Value} {assign body : Code} {fn : Nat} {Ok : List α → Prop}
    {J : List α → (Nat → Prop) → World → Prop} {Jx : Code → List α → (Nat → Prop) → World → Prop} {rest : World → Prop}
    (hrec : ∀ st pe, (rec st pe).state = st ∧ (rec st pe).params = ps ∧ (rec st pe).fn = fn ∧ (rec st pe).tmps = tmps ∧ (rec st pe).assign = assign ∧ (rec st pe).body = body ∧ ∀ st' pe', { rec st pe with state := st', pending := pe' } = rec st' pe')
    (hrec2 : ∀ st pe st', { rec st pe with state := st' } = rec st' pe)
    (hps : ∀ x, (encs x).size = ps.size) (hH : HasFirm own Has) (hJ : Firm B J) (hJx : ∀ c, Firm B (Jx c)) (hl : B ≤ l) (hl1 : l < B1) (hM : ∀ k, M k → k < B)
    (hrest : ∀ W W', rest W → Upd (fun k => M k ∨ B1 ≤ k ∨ k = l) W W' → rest W')
    (howes : RoundOwesG P n B encs own Has ps tmps assign body Ok M J Jx)
    {pre : List α} {x : α} {D : Nat → Prop} {W : World} (hj : J pre D W) (hh : Has x W) (hlw : W.heap[l]? = some (.loop (rec .ready none))) (hD : ∀ k, D k → B1 ≤ k ∧ k < W.heap.size) (hO : ∀ k, own x k → B1 ≤ k ∧ k < W.heap.size ∧ ¬ D k) (hr : rest W) (hB1 : B1 ≤ W.heap.size) (hpre : Ok (pre ++ [x])) (m : Nat) :
    YieldAt Fence.wide m P l (encs x) W fun e W' =>
      (e = .returned (.bool true) ∧ ∃ D', (J (pre ++ [x]) D' W' ∧ W'.heap[l]? = some (.loop (rec .ready none)) ∧ (∀ k, D' k → B1 ≤ k ∧ k < W'.heap.size) ∧ rest W') ∧ Upd (fun k => M k ∨ k = l ∨ D k ∨ own x k) W W' ∧ ∀ k, D' k → (D k ∨ own x k) ∨ W.heap.size ≤ k ∧ k < W'.heap.size) ∨
      (e = .returned (.bool false) ∧ ∃ D', (∃ c, Jx c (pre ++ [x]) D' W' ∧ W'.heap[l]? = some (.loop (rec .done (some c))) ∧ (∀ k, D' k → B1 ≤ k ∧ k < W'.heap.size) ∧ rest W') ∧ Upd (fun k => M k ∨ k = l ∨ D k ∨ own x k) W W' ∧ ∀ k, D' k → (D k ∨ own x k) ∨ W.heap.size ≤ k ∧ k < W'.heap.size) := by
  have h := round_of (P := P) (n := n) (α := Unit) (l := l) (B := B) (B1 := B1) (rec := rec) (M := M) (encs := fun _ => encs x) (ps := ps) (tmps := tmps) (assign := assign) (body := body) (fn := fn) (L := [()])
    (J := oneJ own Has J pre x) (Jx := fun c _ D W => Jx c (pre ++ [x]) D W) (rest := rest) hrec hrec2 (fun _ => hps x) (oneJ_firm hH hJ) (fun c s D W W' hs hu => hJx c _ _ _ _ hs hu) hl hl1 hM hrest
    (by
      intro l' pre' x' D' W' h1 h2 h3 h4 hj' hp' K hK
      obtain rfl : pre' = [] := by
        have := hp'.length_le
        simp at this
        exact this
      obtain ⟨D0, rfl, h0, hj0, hh0⟩ := hj'
      refine howes l' pre x D0 W' h1 h2 (fun e => h3 (.inl e)) (fun e => h3 (.inr e)) (fun k hk => h4 k (.inl hk)) (fun k hk => ⟨(h4 k (.inr hk)).1, (h4 k (.inr hk)).2, h0 k hk⟩) hj0 hh0 hpre K ?_
      intro a' Wa hua hbody
      refine hK a' Wa hua ?_
      intro Wb hub hlb hjb
      obtain ⟨D1, e1, h1', hj1, hh1⟩ := hjb
      refine wpIn_mono (hbody Wb hub hlb (hJ _ _ _ _ (hJ _ _ _ _ hj0 (hua.mono fun _ _ e => e.elim)) (hub.mono fun k _ e => by rw [e]; exact ⟨h1, fun e2 => h3 (.inl e2)⟩)) hh1) ?_
      intro e a3 W3 hp
      cases e <;> exact hp)
    (pre := []) (x := ()) (D := fun k => D k ∨ own x k) (W := W) ⟨D, rfl, fun k hk => (hO k hk).2.2, hj, hh⟩ hlw (fun k hk => hk.elim (hD k) (fun e => ⟨(hO k e).1, (hO k e).2.1⟩)) hr hB1 (List.prefix_refl _) m
  obtain ⟨fn', tm, asg, bo, hy, hR⟩ := h
  exact ⟨fn', tm, asg, bo, hy, hR.mono fun e W' hp => hp⟩

/-- The statement, outside of any round. -/
theorem range_outG {α : Type} {g : Operand} {ps : Array Tmp} {assign body : Code} {Q : Exit → Act → World → Prop} {a : Act} {w : World} {gf : Nat} {lb : Array Value}
    (hg : a.eval g = .func (.func gf) #[] lb) (eg : ∀ args w, (callFunc gf args).run P w = .ok (.enter gf args) w)
    {encs : α → Array Value} {own : α → Nat → Prop} {Has : α → World → Prop} (hH : HasFirm own Has) {Ok Full : List α → Prop} (M : Nat → Prop) (hM : ∀ k, M k → k < w.heap.size) (hps : ∀ x, (encs x).size = ps.size)
    (hseq : ∀ W1 l, Upd (fun _ => False) w W1 → w.heap.size ≤ l → l < W1.heap.size → IterG P gf lb encs own Has Ok Full (fun k => M k ∨ k = l) W1)
    (J : List α → (Nat → Prop) → World → Prop) (Jx : Code → List α → (Nat → Prop) → World → Prop) (hJ : Firm w.heap.size J) (hJx : ∀ c, Firm w.heap.size (Jx c)) (h0 : J [] (fun _ => False) w)
    (howes : RoundOwesG P (n - 1 - 1) w.heap.size encs own Has ps a.tmps assign body Ok M J Jx)
    (hdone : ∀ (d : Nat) (D : Nat → Prop) (L : List α) (W : World), w.heap.size ≤ d → Full L → J L D W → (∀ k, D k → d < k ∧ k < W.heap.size) → W.heap[d]? = some (.deferred (some [])) → Q .normal { a with defers := { target := .collected d, args := #[] } :: a.defers } W)
    (hstop : ∀ (d : Nat) (D : Nat → Prop) (c : Code) (pre : List α) (W : World), w.heap.size ≤ d → Ok pre → Jx c pre D W → (∀ k, D k → d < k ∧ k < W.heap.size) → W.heap[d]? = some (.deferred (some [])) → c.wpIn Fence.wide n P Q { a with defers := { target := .collected d, args := #[] } :: a.defers } W) :
    (Code.rangeFunc g ps assign body).wpIn Fence.wide n P Q a w := by
  refine wpIn_rangeFunc ?_
  intro fn hfn
  obtain ⟨rec, hrec⟩ : ∃ rec : LoopState → Option Code → Loop, rec = fun st pe => { state := st, pending := pe, fn, tmps := a.tmps, params := ps, assign, body, defers := w.heap.size } := ⟨_, rfl⟩
  obtain ⟨W1, hW1⟩ : ∃ W1, (w.alloc (.deferred (some []))).alloc (.loop (rec .ready none)) = W1 := ⟨_, rfl⟩
  have hL1 : W1.heap[w.heap.size + 1]? = some (.loop (rec .ready none)) := by
    rw [← hW1]; have := World.alloc_heap_new (w.alloc (.deferred (some []))) (.loop (rec .ready none)); rwa [World.size_alloc] at this
  have hK1 : W1.heap[w.heap.size]? = some (.deferred (some [])) := by
    rw [← hW1]; exact (Below.heap_alloc _ _ _ (by simp)).trans (World.alloc_heap_new w _)
  have hz1 : W1.heap.size = w.heap.size + 2 := by rw [← hW1]; simp
  have hu1 : Upd (fun _ => False) w W1 := by rw [← hW1]; exact ((Upd.refl _ w).alloc _).alloc _
  have hI1 : J [] (fun _ => False) W1 := hJ _ _ _ _ h0 (hu1.mono fun _ _ e => e.elim)
  have hi := hseq W1 (w.heap.size + 1) hu1 (by omega) (by omega)
  refine ⟨w.heap.size + 1, [{ target := .collected w.heap.size, args := #[] }], W1, { target := .fn (.func gf) lb, args := #[.func (.yield (w.heap.size + 1)) #[] #[]] }, W1, gf,
    #[.func (.yield (w.heap.size + 1)) #[] #[]] ++ lb, W1, ?_, ?_, ?_, ?_, (fun h => by cases h), ?_⟩
  · rw [← hW1, hrec]; exact run_enterLoop_outer _ _ _ _ _
  · simp only [resolve, hg]
    simp [go_sem]
  · intro f' hf'; trivial
  · simp [invoke, go_sem, eg]
  · refine callsIn_wide.2 ((hi (w.heap.size + 1)
      (fun pre D W => J pre D W ∧ W.heap[w.heap.size + 1]? = some (.loop (rec .ready none)) ∧ (∀ k, D k → W1.heap.size ≤ k ∧ k < W.heap.size) ∧ W.heap[w.heap.size]? = some (.deferred (some [])))
      (fun pre D W => ∃ c, Jx c pre D W ∧ W.heap[w.heap.size + 1]? = some (.loop (rec .done (some c))) ∧ (∀ k, D k → W1.heap.size ≤ k ∧ k < W.heap.size) ∧ W.heap[w.heap.size]? = some (.deferred (some [])))
      ?_ ?_ ?_ ⟨hI1, hL1, fun _ e => e.elim, hK1⟩).mono ?_)
    · rintro s D X Y ⟨hj, hl, hD, hk⟩ hu
      exact ⟨hJ _ _ _ _ hj (hu.mono fun k _ e => ⟨by omega, e.2⟩), (hu.block _ (Array.getElem?_eq_some_iff.1 hl).1 (fun e => by omega)).trans hl, (fun k hk => by have := hD k hk; have := hu.size; omega), (hu.block _ (Array.getElem?_eq_some_iff.1 hk).1 (fun e => by omega)).trans hk⟩
    · rintro s D X Y ⟨c, hj, hl, hD, hk⟩ hu
      exact ⟨c, hJx _ _ _ _ _ hj (hu.mono fun k _ e => ⟨by omega, e.2⟩), (hu.block _ (Array.getElem?_eq_some_iff.1 hl).1 (fun e => by omega)).trans hl, (fun k hk => by have := hD k hk; have := hu.size; omega), (hu.block _ (Array.getElem?_eq_some_iff.1 hk).1 (fun e => by omega)).trans hk⟩
    · rintro pre x D W ⟨hj, hl, hD, hk⟩ hsz hpre hh hO m
      obtain ⟨fn', tm, asg, bo, hy, hR⟩ := round_ofG (P := P) (n := n - 1 - 1) (l := w.heap.size + 1) (B := w.heap.size) (B1 := W1.heap.size) (rec := rec) (M := M) (fn := fn) (encs := encs) (own := own) (Has := Has) (ps := ps) (tmps := a.tmps) (assign := assign) (body := body) (Ok := Ok) (J := J) (Jx := Jx)
        (rest := fun W => W.heap[w.heap.size]? = some (.deferred (some [])))
        (by rw [hrec]; exact fun st pe => ⟨rfl, rfl, rfl, rfl, rfl, rfl, fun _ _ => rfl⟩) (by rw [hrec]; exact fun _ _ _ => rfl) hps hH hJ hJx (by omega) (by omega) hM
        (fun X Y h hu => (hu.block _ (Array.getElem?_eq_some_iff.1 h).1 (fun e => by
          rcases e with e | e | e
          · have := hM _ e; omega
          · omega
          · omega)).trans h) howes hj hh hl hD hO hk hsz hpre m
      refine ⟨fn', tm, asg, bo, hy, hR.mono ?_⟩
      rintro e W' (⟨he, D', ⟨h1, h2, h3, h4⟩, hu, hD'⟩ | ⟨he, D', ⟨c, h1, h2, h3, h4⟩, hu, hD'⟩)
      · exact .inl ⟨he, D', ⟨h1, h2, h3, h4⟩, hu.mono fun k _ e => by rcases e with e | e | e | e <;> simp [e], hD'⟩
      · exact .inr ⟨he, D', ⟨c, h1, h2, h3, h4⟩, hu.mono fun k _ e => by rcases e with e | e | e | e <;> simp [e], hD'⟩
    · rintro e W2 ⟨⟨v, rfl⟩, (⟨L, D, hf, hj, hl, hD, hk⟩ | ⟨pre, D, hpre, c, hj, hl, hD, hk⟩)⟩
      · have hDl : ¬ D (w.heap.size + 1) := fun e => by have := hD _ e; omega
        exact ⟨none, _, by have := run_endLoop (P := P) hl (by rw [hrec]; simp); rw [hrec] at this; exact this,
          hdone _ D L _ (Nat.le_refl _) hf (hJ _ _ _ _ hj ((Upd.refl (fun k => w.heap.size ≤ k ∧ ¬ D k) _).putObj (.inr ⟨by omega, hDl⟩) _)) (fun k hk => by have := hD k hk; simp; omega) ((World.putObj_heap_other (by omega)).trans hk)⟩
      · have hDl : ¬ D (w.heap.size + 1) := fun e => by have := hD _ e; omega
        exact ⟨some c, _, by have := run_endLoop (P := P) hl (by rw [hrec]; simp); rw [hrec] at this; exact this,
          hstop _ D c pre _ (Nat.le_refl _) hpre (hJx _ _ _ _ _ hj ((Upd.refl (fun k => w.heap.size ≤ k ∧ ¬ D k) _).putObj (.inr ⟨by omega, hDl⟩) _)) (fun k hk => by have := hD k hk; simp; omega) ((World.putObj_heap_other (by omega)).trans hk)⟩
end
end Go.Proofs.Ytghogabmkbadjab

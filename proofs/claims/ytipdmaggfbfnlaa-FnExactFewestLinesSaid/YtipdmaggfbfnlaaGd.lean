/- Texts that several claims share, one behind the other. -/
import Derived.Test.YtipdmaggfbfnlaaGb
import Derived.Test.YtipdmaggfbfnlaaGa
import Derived.OrdersHeld
import Derived.Deep.RegionHeld3
import Derived.Deep.RegionLaw
import Derived.Deep.AppendLies
import Derived.Maps.AppendAt
set_option linter.unusedVariables false
set_option linter.unusedSimpArgs false
/- All lines of an order as one list, item by item: it holds just the lines, each one once. No program. -/
namespace Go.Proofs.Ytipdmaggfbfnlaa

def stA2 (zs : List Int) (s x : Int) : Bool := inB x 0 ((zs.length : Int) - 1) && (!bitB s x && (lessI ((du zs)[x.toNat]?.getD 0) s == 0))
/-- The lines that go on with k items where s are lined up as so. -/
def alG (zs : List Int) : Nat → List Int → Int → List (List Int)
  | 0, so, _ => [so]
  | k + 1, so, s => (List.range zs.length).flatMap fun a : Nat => if stA2 zs s a then alG zs k (so ++ [(a : Int)]) (orI s (powI a)) else []
def okT (zs : List Int) : Int → List Int → Bool
  | _, [] => true
  | s, x :: t => stA2 zs s x && okT zs (orI s (powI x)) t
theorem alG_mem (zs : List Int) : ∀ (k : Nat) (so : List Int) (s : Int) (l : List Int), l ∈ alG zs k so s ↔ ∃ t, t.length = k ∧ l = so ++ t ∧ okT zs s t = true
  | 0, so, s, l => by
    rw [alG, List.mem_singleton]
    constructor
    · rintro rfl; exact ⟨[], rfl, by simp, rfl⟩
    · rintro ⟨t, h1, rfl, _⟩
      rw [List.eq_nil_of_length_eq_zero h1, List.append_nil]
  | k + 1, so, s, l => by
    rw [alG, List.mem_flatMap]
    constructor
    · rintro ⟨a, ha, h⟩
      cases h1 : stA2 zs s (a : Int)
      · rw [h1] at h; simp at h
      · rw [h1, if_pos rfl, alG_mem zs k] at h
        obtain ⟨t, h2, rfl, h3⟩ := h
        exact ⟨(a : Int) :: t, by simp [h2], by simp, by rw [okT, h1, h3]; rfl⟩
    · rintro ⟨t, h1, rfl, h2⟩
      cases t with
      | nil => simp at h1
      | cons x t =>
        rw [okT, Bool.and_eq_true] at h2
        have hx : (0 : Int) ≤ x ∧ x ≤ (zs.length : Int) - 1 := by
          have := h2.1
          unfold stA2 at this
          rw [Bool.and_eq_true] at this
          simpa [inB] using this.1
        obtain ⟨a, rfl⟩ := Int.eq_ofNat_of_zero_le hx.1
        refine ⟨a, List.mem_range.2 (by omega), ?_⟩
        rw [show stA2 zs s (a : Int) = true from h2.1, if_pos rfl, alG_mem zs k]
        exact ⟨t, by simpa using h1, by simp, h2.2⟩
theorem alG_nodup (zs : List Int) : ∀ (k : Nat) (so : List Int) (s : Int), (alG zs k so s).Nodup
  | 0, so, s => by rw [alG]; simp
  | k + 1, so, s => by
    rw [alG]
    unfold List.flatMap
    refine List.pairwise_flatten.2 ⟨fun l hl => ?_, ?_⟩
    · obtain ⟨a, _, rfl⟩ := List.mem_map.1 hl
      split
      · exact alG_nodup zs k _ _
      · exact List.Pairwise.nil
    · rw [List.pairwise_map]
      refine List.Pairwise.imp_of_mem (R := (· < ·)) ?_ (List.pairwise_lt_range)
      intro a b _ _ hab x hx y hy e
      subst e
      split at hx
      · split at hy
        · obtain ⟨t, _, e1, _⟩ := (alG_mem zs k _ _ _).1 hx
          obtain ⟨t', _, e2, _⟩ := (alG_mem zs k _ _ _).1 hy
          rw [e1, List.append_assoc, List.append_assoc] at e2
          have := List.append_cancel_left e2
          simp at this
          omega
        · cases hy
      · cases hx
theorem ok_steps (zs : List Int) : ∀ (t so : List Int), (∀ i, i < t.length → stepOk zs (so ++ t) (so.length + i) = true) ↔ okT zs (doneTo (so ++ t) so.length) t = true
  | [], so => by simp [okT]
  | x :: t, so => by
    have h0 : (so ++ x :: t)[so.length]?.getD 0 = x := by simp
    have hs : stepOk zs (so ++ x :: t) so.length = stA2 zs (doneTo (so ++ x :: t) so.length) x := by unfold stepOk stA2; rw [h0]
    have ih := ok_steps zs t (so ++ [x])
    rw [List.append_assoc, List.singleton_append, List.length_append, List.length_singleton] at ih
    have hd : doneTo (so ++ x :: t) (so.length + 1) = orI (doneTo (so ++ x :: t) so.length) (powI x) := by
      show orI _ (powI ((so ++ x :: t)[so.length]?.getD 0)) = _
      rw [h0]
    rw [hd] at ih
    rw [okT, Bool.and_eq_true, ← ih, ← hs]
    constructor
    · intro h
      exact ⟨h 0 (by simp), fun i hi => by have := h (i + 1) (by simp; omega); rwa [show so.length + 1 + i = so.length + (i + 1) by omega]⟩
    · rintro ⟨h1, h2⟩ i hi
      cases i with
      | zero => exact h1
      | succ i =>
        have := h2 i (by simpa using hi)
        rwa [show so.length + 1 + i = so.length + (i + 1) by omega] at this
/-- All lines. -/
def alL (zs : List Int) : List (List Int) := alG zs zs.length [] 0
theorem alL_mem (zs l : List Int) : l ∈ alL zs ↔ lineB zs l = true := by
  unfold alL
  rw [alG_mem]
  have h := ok_steps zs l []
  rw [List.nil_append] at h
  have hd : doneTo l ([] : List Int).length = 0 := rfl
  rw [hd] at h
  constructor
  · rintro ⟨t, h1, e, h2⟩
    rw [List.nil_append] at e
    subst e
    exact lineB_yes h1 rfl fun k hk => by
      have := h.2 h2 k (by omega)
      simpa using this
  · intro hl
    have hl' := hl
    unfold lineB at hl'
    rw [Bool.and_eq_true, decide_eq_true_eq, List.all_eq_true] at hl'
    exact ⟨l, hl'.1, by simp, h.1 fun i hi => by
      have := hl'.2 i (List.mem_range.2 hi)
      simpa using this⟩
theorem alL_nodup (zs : List Int) : (alL zs).Nodup := alG_nodup zs _ _ _
end Go.Proofs.Ytipdmaggfbfnlaa

/- Rows of numbers under way, that grow by append: where they lie; what has been read of them; rows whose cells alone are told. -/
namespace Go.Proofs.Ytipdmaggfbfnlaa
open Go.RowKit

/-- A row of numbers under way, in a block that S names. -/
def OwnS (S : Nat → Prop) (w : World) (B : Nat) (e : TypeId) (v : Value) (xs : List Int) : Prop := (∀ k, v.ownBlock = some k → S k) ∧ w.ownsRow B e 1 v xs.length (xs.map (Value.int .i64))
section
variable {S R : Nat → Prop} {w w' : World} {B : Nat} {e : TypeId} {v : Value} {xs : List Int}
theorem OwnS.keep (h : OwnS S w B e v xs) (hu : Upd R w w') (hS : ∀ k, S k → ¬ R k) : OwnS S w' B e v xs := by
  obtain ⟨h0, h1⟩ := h
  refine ⟨h0, h1.1, ?_⟩
  rcases h1.2 with e | ⟨g, cap, cur, rfl, hg, hc, hrest⟩
  · exact .inl e
  · exact .inr ⟨g, cap, cur, rfl, hg, (hu.block g (Array.getElem?_eq_some_iff.1 hc).1 (hS g (h0 g rfl))).trans hc, hrest⟩
theorem OwnS.none (S : Nat → Prop) (w : World) (B : Nat) (e : TypeId) : OwnS S w B e (.slice none 0 0) [] := ⟨fun k hk => by simp [Value.ownBlock] at hk, rfl, .inl ⟨rfl, rfl⟩⟩
theorem own_lt' {base n : Nat} {ys : List Value} (h : w.ownsRow base e 1 v n ys) : ∀ g, v.ownBlock = some g → g < w.heap.size := fun g hg => by
  rcases h.2 with ⟨rfl, _⟩ | ⟨g', cap, cur, rfl, _, hc, _⟩
  · simp [Value.ownBlock] at hg
  · simp [Value.ownBlock] at hg; subst hg; exact (Array.getElem?_eq_some_iff.1 hc).1
theorem OwnS.step {S' : Nat → Prop} {x : Int} {o : Obj} {v' : Value} (h : OwnS S w B e v xs) (hown : w'.ownsRow B e 1 v' (xs.length + 1) (xs.map (Value.int .i64) ++ [.int .i64 x])) (hv : v'.ownBlock = v.ownBlock ∨ v'.ownBlock = some (w.alloc o).heap.size)
    (hS : ∀ k, S k → S' k) (hS1 : w.heap.size + 1 < w'.heap.size → S' (w.heap.size + 1)) : OwnS S' w' B e v' (xs ++ [x]) :=
  ⟨fun k hk => by
    rcases hv with e | e
    · exact hS k (h.1 k (e ▸ hk))
    · have hlt := own_lt' hown k hk
      rw [e] at hk; simp at hk; subst hk; exact hS1 hlt, by rw [List.length_append, List.map_append]; exact hown⟩
end

/-- A row whose cells are told, in a block from lo up to less than hi (empty ones may lie anywhere). -/
def RowC (w : World) (lo hi : Nat) (A : Option Addr) (n : Nat) (xs : List Int) : Prop :=
  xs.length = n ∧ (0 < n → ∃ b, A = some ⟨b, 0, none⟩ ∧ lo ≤ b ∧ b < hi ∧ ∀ j, j < n → w.cell? ⟨b, j, none⟩ = some (.int .i64 (xs[j]?.getD 0)))
section
variable {w w' : World} {lo hi n : Nat} {A : Option Addr} {xs : List Int} {R : Nat → Prop}
theorem RowC.len (h : RowC w lo hi A n xs) : xs.length = n := h.1
theorem RowC.nil (w : World) (lo hi : Nat) (A : Option Addr) : RowC w lo hi A 0 [] := ⟨rfl, fun h => absurd h (by omega)⟩
theorem RowC.ints (h : RowC w lo hi A n xs) {B : Nat} (hB : hi ≤ B) : Ints w B A n xs :=
  ⟨h.1, fun hn => by
    obtain ⟨b, e, _, hb, hc⟩ := h.2 hn
    exact ⟨b, 0, e, by omega, fun j hj => by rw [Nat.zero_add]; exact hc j hj⟩⟩
theorem RowC.upd (h : RowC w lo hi A n xs) (hu : Upd R w w') (hr : ∀ j, R j → j < lo ∨ hi ≤ j) : RowC w' lo hi A n xs :=
  ⟨h.1, fun hn => by
    obtain ⟨b, e, hl, hb, hc⟩ := h.2 hn
    exact ⟨b, e, hl, hb, fun j hj => hu.cell (hc j hj) (fun hr' => by have := hr b hr'; omega)⟩⟩
theorem RowC.below {B : Nat} (h : RowC w lo hi A n xs) (hu : Below B w w') (hB : hi ≤ B) : RowC w' lo hi A n xs := h.upd (Below.toUpd hu) (fun j hj => by omega)
theorem RowC.more {lo' hi' : Nat} (h : RowC w lo hi A n xs) (h1 : lo' ≤ lo) (h2 : hi ≤ hi') : RowC w lo' hi' A n xs :=
  ⟨h.1, fun hn => by
    obtain ⟨b, e, hl, hb, hc⟩ := h.2 hn
    exact ⟨b, e, by omega, by omega, hc⟩⟩
theorem Row.told (h : Row w lo hi A n xs) : RowC w lo hi A n xs :=
  ⟨h.1, fun hn => by
    obtain ⟨b, ys, e, hl, hb, hA⟩ := h.2 hn
    exact ⟨b, e, hl, hb, fun j hj => by
      have hl := h.1
      rw [hA.cell (by rw [List.length_append]; omega), List.getElem?_append_left (by omega)]⟩⟩
/-- A grown row's cells. -/
theorem rowC_of_own {base m : Nat} {e : TypeId} {v : Value} (h : w.ownsRow base e 1 v m (xs.map (Value.int .i64))) : ∃ A c, v = .slice A m c ∧ RowC w base w.heap.size A m xs := by
  obtain ⟨A, c, rfl, hI, hA⟩ := ints_of_own_at h
  refine ⟨A, c, rfl, hI.1, fun hn => ?_⟩
  rcases h.2 with ⟨e, _⟩ | ⟨g, cap, cur, e, hg, hgc, _⟩
  · cases e; omega
  · cases e
    refine ⟨g, rfl, hg, (Array.getElem?_eq_some_iff.1 hgc).1, fun j hj => ?_⟩
    obtain ⟨b, off, e1, hb, hc⟩ := hI.2 hn
    cases e1
    have := hc j hj
    rwa [Nat.zero_add] at this
end
/-- What a function that hands back a new row of numbers does: its cells told. -/
def GivesRowC (w : World) (xs : List Int) (e : Ending) (w' : World) : Prop := ∃ A n c, e = .returned (.slice A n c) ∧ RowC w' w.heap.size w'.heap.size A n xs ∧ Below w.heap.size w w'
end Go.Proofs.Ytipdmaggfbfnlaa

/- One element appended to a row that others share: where it fits the row stays where it is, with its capacity; else it moves. A row is as it was once what was appended is taken as not there. -/
namespace Go.Proofs.Ytipdmaggfbfnlaa
open Go.RowKit

section
variable {P : Program} {w : World}
theorem run_append1c (t ty : TypeId)
    (base : Nat) (e : TypeId) (i : TypeInfo) (z : Value) (bytes : Nat) (ht : P.underlying t = some (.slice e)) (hi : P.info? e = some i) (hz : i.zero = some z)
    (hsize : i.size = 1) (hby : i.bytes = bytes) (hzs : z.cells.size = 1)
    (v : Value) (n : Nat) (xs : List Value) (hown : w.ownsRow base e 1 v n xs)
    (b c : Nat) (u : Value) (hu : w.cell? ⟨b, 0, none⟩ = some u) (h1 : u.oneCell' = true)
    (h63 : n + 1 ≤ 1152921504606846976) (hbytes : (n + 1) * bytes ≤ 140737488355328) (hbase : base ≤ w.heap.size) :
    ∃ v' w', (Builtin.append_ #[t, t] ty #[v, .slice (some ⟨b, 0, none⟩) 1 c]).run P w = .ok v' w' ∧ w'.ownsRow base e 1 v' (n + 1) (xs ++ [u]) ∧ w.grownBy w' v.ownBlock ∧
      ((∃ g cap, v = .slice (some ⟨g, 0, none⟩) n cap ∧ v' = .slice (some ⟨g, 0, none⟩) (n + 1) cap) ∨ v'.ownBlock = some w.heap.size ∧ w.grownBy w' none) := by
  have hnews : ∀ j u', [u][j]? = some u' → w.cell? ((⟨b, 0, none⟩ : Addr).add j) = some u' := fun j u' hj => by
    cases j with
    | zero => simp at hj; subst hj; simpa [Addr.add] using hu
    | succ j => simp at hj
  have h1' : ∀ u' ∈ [u], u'.oneCell' = true := fun u' hu' => by rw [List.mem_singleton.1 hu']; exact h1
  obtain ⟨v', w', hrun, h2, h3, _, h5⟩ := run_append_own_at (P := P) w base t ty e i z 1 bytes ht hi hz hsize hby hzs (by omega) v n xs hown ⟨b, 0, none⟩ 1 c [u] (by simp) hnews h1' (by simp only [maxLen]; omega) hbytes hbase
  refine ⟨v', w', hrun, h2, h3, ?_⟩
  rcases hown.2 with ⟨rfl, rfl⟩ | ⟨g, cap, cur, rfl, hbg, hg, hnc, hcm, hcs, htake⟩
  · right
    rcases h5 with h5 | h5
    · rcases h2.2 with ⟨_, e2⟩ | ⟨g', cap', cur', rfl, _⟩
      · omega
      · simp [Value.ownBlock] at h5
    · exact ⟨h5, h3⟩
  · by_cases hroom : n + 1 ≤ cap
    · have hr := run_append_room (P := P) w t ty e i ht hi g n cap cur hg ⟨b, 0, none⟩ 1 c [u] (by simp [hsize]) hnews h1' hroom (by rw [hsize, hcs]; simp; omega)
      rw [hr] at hrun
      injection hrun with e1 e2
      exact .inl ⟨g, cap, rfl, e1.symm⟩
    · have holds : ∀ j u, xs[j]? = some u → w.cell? ((⟨g, 0, none⟩ : Addr).add j) = some u := hown.cells (g := g) rfl
      have hr := run_append_grow (P := P) w t ty e i z ht hi hz ⟨g, 0, none⟩ n cap xs (by rw [hown.1, hsize]) holds ⟨b, 0, none⟩ 1 c [u] (by simp [hsize]) hnews (by omega) (by omega) (growslice_fits (by omega) (by rw [hby]; exact hbytes))
      rw [hr] at hrun
      injection hrun with e1 e2
      right
      rw [← e1, ← e2]
      exact ⟨rfl, rfl, rfl, rfl, by simp, fun k hk _ => Below.heap_alloc w.drew _ k hk⟩
theorem step_append1c {ops : Array Oper} {o : Oper} {a : Act} {K : Act → World → Prop} {Q : Exit → Act → World → Prop} {E : Prop} (hgd : o.guard = none) (s x : Operand) (t : TypeId)
    (ho : o.op = .call { callee := .builtin .append, args := #[s, x], argTypes := #[t, t] })
    (base : Nat) (e : TypeId) (i : TypeInfo) (z : Value) (bytes : Nat) (ht : P.underlying t = some (.slice e)) (hi : P.info? e = some i) (hz : i.zero = some z)
    (hsize : i.size = 1) (hby : i.bytes = bytes) (hzs : z.cells.size = 1)
    (v : Value) (n : Nat) (xs : List Value) (hs : a.eval s = v) (hown : w.ownsRow base e 1 v n xs)
    (b c : Nat) (u : Value) (hx : a.eval x = .slice (some ⟨b, 0, none⟩) 1 c) (hu : w.cell? ⟨b, 0, none⟩ = some u) (h1 : u.oneCell' = true)
    (h63 : n + 1 ≤ 1152921504606846976) (hbytes : (n + 1) * bytes ≤ 140737488355328) (hbase : base ≤ w.heap.size)
    (h : ∀ v' w', w'.ownsRow base e 1 v' (n + 1) (xs ++ [u]) → w.grownBy w' v.ownBlock → ((∃ g cap, v = .slice (some ⟨g, 0, none⟩) n cap ∧ v' = .slice (some ⟨g, 0, none⟩) (n + 1) cap) ∨ v'.ownBlock = some w.heap.size ∧ w.grownBy w' none) → K (a.put o.dst v') w') :
    if Region.wanted o (yielded ops a.tmps) = true then Oper.wp P o a w K Q else E := by
  have hw : Region.wanted o (yielded ops a.tmps) = true := by simp [Region.wanted, hgd]
  rw [if_pos hw]
  obtain ⟨v', w', hrun, h2, h3, h5⟩ := run_append1c (P := P) (w := w) t o.type base e i z bytes ht hi hz hsize hby hzs v n xs hown b c u hu h1 h63 hbytes hbase
  unfold Oper.wp execOp
  simp only [ho, resolve, invoke, builtin, Sem.run_bind, Sem.run_pure, Result.andThen_ok, List.map_toArray, List.map_cons, List.map_nil, hs, hx, hrun]
  exact h v' w' h2 h3 h5
end

/-- What was appended is taken as not there. -/
theorem own_back {w : World} {B n : Nat} {e : TypeId} {g cap : Nat} {xs : List Value} {u : Value} (h : w.ownsRow B e 1 (.slice (some ⟨g, 0, none⟩) (n + 1) cap) (n + 1) (xs ++ [u])) : w.ownsRow B e 1 (.slice (some ⟨g, 0, none⟩) n cap) n xs := by
  have hl : xs.length = n := by have := h.1; simp at this; exact this
  rcases h.2 with ⟨e, _⟩ | ⟨g', cap', cur, e, hg, hc, h1, h2, h3, ht⟩
  · cases e
  · cases e
    refine ⟨by omega, .inr ⟨g, cap, cur, rfl, hg, hc, by omega, h2, h3, ?_⟩⟩
    have : (cur.toList.take ((n + 1) * 1)).take (n * 1) = (xs ++ [u]).take (n * 1) := by rw [ht]
    rw [List.take_take, Nat.min_eq_left (by omega)] at this
    rw [this, Nat.mul_one, ← hl, List.take_left]
end Go.Proofs.Ytipdmaggfbfnlaa

/- A line backwards is one of the order turned round, as plain mathematics. No program. -/
namespace Go.Proofs.Ytipdmaggfbfnlaa

section
variable {zs ls : List Int}
theorem add_bit {s a j : Nat} (hs : s < 64) (ha : a < 6) (hb : s.testBit a = false) (h64 : s + 2 ^ a < 64) : (s + 2 ^ a).testBit j = (s.testBit j || decide (a = j)) := by
  rcases Nat.lt_or_ge j 6 with hj | hj
  · exact add_bit_fin ⟨s, hs⟩ ⟨a, ha⟩ ⟨j, hj⟩ hb
  · have h6 : ∀ t : Nat, t < 64 → t.testBit j = false := fun t ht => Nat.testBit_lt_two_pow (Nat.lt_of_lt_of_le (show t < 2 ^ 6 by omega) (Nat.pow_le_pow_right (by decide) hj))
    rw [h6 _ h64, h6 _ hs, decide_eq_false (by omega)]; rfl
theorem line_add (hv : VoP zs) (hs : ∀ k, k < zs.length → stepOk zs ls k = true) {k : Nat} (hk : k < zs.length) (j : Nat) : (dN ls (k + 1)).testBit j = ((dN ls k).testBit j || decide (itN ls k = j)) := by
  have hn6 := hv.1
  have hp64 := pow_le64 hn6
  have hok : ∀ i, i < k → stepOk zs ls i = true := fun i hi => hs i (by omega)
  have h1 := (d_is hok).2
  have h2 := (d_is (zs := zs) (ls := ls) (k := k + 1) fun i hi => hs i (by omega)).2
  have h3 := (it_is (hs k hk)).2
  have e := d_succ hv hok (hs k hk)
  rw [e] at h2 ⊢
  exact add_bit (by omega) (by omega) (d_new hok (hs k hk)) (by omega)
theorem line_ideal (hv : VoP zs) (hs : ∀ k, k < zs.length → stepOk zs ls k = true) : ∀ k : Nat, k ≤ zs.length → Ideal zs (dN ls k)
  | 0, _ => fun a b hb _ => by
    have e : dN ls 0 = 0 := rfl
    rw [e, Nat.zero_testBit] at hb; cases hb
  | k + 1, hk => fun a b hb hd => by
    rw [line_add hv hs hk] at hb ⊢
    rcases Bool.or_eq_true _ _ ▸ hb with h | h
    · rw [line_ideal hv hs k (by omega) a b h hd]; rfl
    · have hx := of_decide_eq_true h
      subst hx
      have h2 := (nextE_new (line_next hv hs (show k < zs.length from hk))).2
      rw [beq_iff_eq, less_zero] at h2
      rw [h2 a hd]; rfl
theorem back_at (hl : ls.length = zs.length) {k : Nat} (hk : k < zs.length) : ls.reverse[k]?.getD 0 = ls[zs.length - 1 - k]?.getD 0 := by
  rw [List.getElem?_reverse (by omega), hl]
theorem back_done (hv : VoP zs) (hl : ls.length = zs.length) (hs : ∀ k, k < zs.length → stepOk zs ls k = true) : ∀ k : Nat, k ≤ zs.length → doneTo ls.reverse k = ((2 ^ zs.length - 1 - dN ls (zs.length - k) : Nat) : Int)
  | 0, _ => by rw [Nat.sub_zero, line_full hv hs]; rfl
  | k + 1, hk => by
    have hn6 := hv.1
    have hp64 := pow_le64 hn6
    have ih := back_done hv hl hs k (by omega)
    have hm : zs.length - 1 - k < zs.length := by omega
    have e1 : zs.length - k = zs.length - 1 - k + 1 := by omega
    have e2 : zs.length - (k + 1) = zs.length - 1 - k := by omega
    have hok : ∀ i, i < zs.length - 1 - k → stepOk zs ls i = true := fun i hi => hs i (by omega)
    have h2 := (d_is (zs := zs) (ls := ls) (k := zs.length - 1 - k + 1) fun i hi => hs i (by omega)).2
    have e3 := d_succ hv hok (hs _ hm)
    have h3 := it_is (hs _ hm)
    have hb : (2 ^ zs.length - 1 - dN ls (zs.length - 1 - k + 1)).testBit (itN ls (zs.length - 1 - k)) = false := by
      rw [com_bit hn6 h2 (by omega), line_add hv hs hm]; simp
    unfold doneTo
    rw [ih, e1, e2, back_at hl (show k < zs.length from hk), h3.1, or_is (by omega) (by omega) hb]
    have hpx := Nat.two_pow_pos (itN ls (zs.length - 1 - k))
    congr 1
    omega
theorem back_step (hv : VoP zs) (hl : ls.length = zs.length) (hs : ∀ k, k < zs.length → stepOk zs ls k = true) {k : Nat} (hk : k < zs.length) : stepOk (du zs) ls.reverse k = true := by
  have hn6 := hv.1
  have hp64 := pow_le64 hn6
  have hm : zs.length - 1 - k < zs.length := by omega
  have e1 : zs.length - k = zs.length - 1 - k + 1 := by omega
  have hok : ∀ i, i < zs.length - 1 - k → stepOk zs ls i = true := fun i hi => hs i (by omega)
  have h2 := (d_is (zs := zs) (ls := ls) (k := zs.length - 1 - k + 1) fun i hi => hs i (by omega)).2
  have h3 := it_is (hs _ hm)
  have hnw := d_new hok (hs _ hm)
  have hI := line_ideal hv hs (zs.length - 1 - k) (by omega)
  have hb : (2 ^ zs.length - 1 - dN ls (zs.length - 1 - k + 1)).testBit (itN ls (zs.length - 1 - k)) = false := by
    rw [com_bit hn6 h2 (by omega), line_add hv hs hm]; simp
  unfold stepOk
  rw [back_at hl hk, back_done hv hl hs k (by omega), e1, h3.1, Int.toNat_natCast, bit_cast, hb, du_len, du_du hv]
  have hless : (lessI (zs[itN ls (zs.length - 1 - k)]?.getD 0) ((2 ^ zs.length - 1 - dN ls (zs.length - 1 - k + 1) : Nat) : Int) == 0) = true := by
    rw [beq_iff_eq, less_zero]
    intro j hj
    have hj2 : j < zs.length := by
      have := du_small hv (a := j) (j := itN ls (zs.length - 1 - k)) (by rw [du_bit hv.sets]; exact hj)
      exact this.2
    rw [com_bit hn6 h2 (by omega), decide_eq_true hj2, Bool.true_and, line_add hv hs hm]
    have hne : itN ls (zs.length - 1 - k) ≠ j := fun e => by
      have := hv.irrB h3.2
      rw [e] at hj this
      rw [hj] at this; cases this
    rw [decide_eq_false hne, Bool.or_false]
    cases e : (dN ls (zs.length - 1 - k)).testBit j
    · rfl
    · have := hI (itN ls (zs.length - 1 - k)) j e (by rw [du_bit hv.sets]; exact hj)
      rw [hnw] at this; cases this
  rw [hless]
  simp [inB]; omega
/-- A line backwards is one of the order turned round. -/
theorem line_back (hv : VoP zs) (hl : lineB zs ls = true) : lineB (du zs) ls.reverse = true := by
  obtain ⟨h1, hs⟩ := line_steps hl
  exact lineB_yes (m := zs.length) (by simp [h1]) (by rw [du_len]) fun k hk => back_step hv h1 hs hk
end
end Go.Proofs.Ytipdmaggfbfnlaa

/- Orders beside each other, and one above the other: as both sides tell them. No program. -/
namespace Go.Proofs.Ytipdmaggfbfnlaa
open Go.RowKit

/-- The sets of items behind n other ones. -/
def shl (n : Nat) (ys : List Int) : List Int := ys.map fun y => y * powI n
theorem shl_len (n : Nat) (ys : List Int) : (shl n ys).length = ys.length := by simp [shl]
theorem shl_get (n : Nat) (ys : List Int) {k : Nat} (hk : k < ys.length) : (shl n ys)[k]?.getD 0 = (ys[k]?.getD 0) * powI n := by
  unfold shl
  rw [List.getElem?_map, List.getElem?_eq_getElem hk]; rfl
theorem take_snocJ (l : List Int) {k : Nat} (hk : k < l.length) : l.take (k + 1) = l.take k ++ [l[k]?.getD 0] := by
  rw [List.take_succ_eq_append_getElem hk, List.getElem?_eq_getElem hk]; rfl
theorem shl_snoc (n : Nat) (ys : List Int) {k : Nat} (hk : k < ys.length) : (shl n ys).take (k + 1) = (shl n ys).take k ++ [(ys[k]?.getD 0) * powI n] := by
  rw [take_snocJ _ (by rw [shl_len]; exact hk), shl_get n ys hk]
/-- All items of the second order, behind n. -/
def behI (n m : Nat) : Int := (powI m - 1) * powI n
def uqS (n m : Nat) (over : Bool) (z : Int) : Int := if over then orI z (behI n m) else z
def uqL (n m : Nat) (over : Bool) (zs : List Int) : List Int := zs.map (uqS n m over)
theorem uqL_len (n m : Nat) (over : Bool) (zs : List Int) : (uqL n m over zs).length = zs.length := by simp [uqL]
theorem uqL_get (n m : Nat) (over : Bool) (zs : List Int) {k : Nat} (hk : k < zs.length) : (uqL n m over zs)[k]?.getD 0 = uqS n m over (zs[k]?.getD 0) := by
  unfold uqL
  rw [List.getElem?_map, List.getElem?_eq_getElem hk]; rfl
theorem uqL_snoc (n m : Nat) (over : Bool) (zs : List Int) {k : Nat} (hk : k < zs.length) : (uqL n m over zs).take (k + 1) = (uqL n m over zs).take k ++ [uqS n m over (zs[k]?.getD 0)] := by
  rw [take_snocJ _ (by rw [uqL_len]; exact hk), uqL_get n m over zs hk]
theorem uqL_false (n m : Nat) (zs : List Int) : uqL n m false zs = zs := by
  unfold uqL
  have : uqS n m false = id := by funext z; rfl
  rw [this, List.map_id]
def bothL (zs ys : List Int) (over : Bool) : List Int := uqL zs.length ys.length over zs ++ shl zs.length ys
theorem bothL_len (zs ys : List Int) (over : Bool) : (bothL zs ys over).length = zs.length + ys.length := by unfold bothL; rw [List.length_append, uqL_len, shl_len]
def bothB (zs ys : List Int) : Bool := vo zs && (vo ys && decide (zs.length + ys.length ≤ 6))
def bothR (zs ys : List Int) (over : Bool) : List Int := if bothB zs ys then bothL zs ys over else []
theorem bothR_le (zs ys : List Int) (over : Bool) : (bothR zs ys over).length ≤ 1048576 := by
  unfold bothR
  split
  · rename_i h
    unfold bothB at h
    simp only [Bool.and_eq_true, decide_eq_true_eq] at h
    rw [bothL_len]; omega
  · simp
theorem bothB_parts {zs ys : List Int} (h : bothB zs ys = true) : VoP zs ∧ VoP ys ∧ zs.length + ys.length ≤ 6 := by
  unfold bothB at h
  simp only [Bool.and_eq_true, decide_eq_true_eq] at h
  exact ⟨by simpa [vo] using h.1, by simpa [vo] using h.2.1, h.2.2⟩
theorem powI_add6 : ∀ n : Fin 7, ∀ m : Fin 7, powI (n.val : Int) * powI (m.val : Int) = powI ((n.val + m.val : Nat) : Int) := by decide +kernel
theorem beh_fin : ∀ n : Fin 7, ∀ m : Fin 7, n.val + m.val ≤ 6 → 0 ≤ behI n.val m.val ∧ behI n.val m.val < 64 ∧ lessI (powI ((n.val + m.val : Nat) : Int) - 1) (powI (n.val : Int) - 1) = behI n.val m.val := by decide +kernel
theorem beh_bd {n m : Nat} (h : n + m ≤ 6) : 0 ≤ behI n m ∧ behI n m < 64 := ⟨(beh_fin ⟨n, by omega⟩ ⟨m, by omega⟩ h).1, (beh_fin ⟨n, by omega⟩ ⟨m, by omega⟩ h).2.1⟩
theorem beh_less {n m : Nat} (h : n + m ≤ 6) : lessI (powI ((n + m : Nat) : Int) - 1) (powI (n : Int) - 1) = behI n m := (beh_fin ⟨n, by omega⟩ ⟨m, by omega⟩ h).2.2
theorem shl_bd {n m : Nat} {z : Int} (h0 : 0 ≤ z) (h1 : z < powI m) (h : n + m ≤ 6) : 0 ≤ z * powI n ∧ z * powI n < 64 := by
  have hp := powI_pos (n : Int)
  have e := powI_add6 ⟨n, by omega⟩ ⟨m, by omega⟩
  have h64 := powI_le6 (n := ((n + m : Nat) : Int)) (by omega)
  simp only at e
  refine ⟨Int.mul_nonneg h0 (by omega), ?_⟩
  have h2 : (z + 1) * powI n ≤ powI m * powI n := Int.mul_le_mul_of_nonneg_right (by omega) (by omega)
  rw [Int.add_mul, Int.one_mul, Int.mul_comm (powI m), e] at h2
  omega
end Go.Proofs.Ytipdmaggfbfnlaa

/- Three lines tell each order of at most six items whose items stand in order: by trying all of them. No program. -/
namespace Go.Proofs.Ytipdmaggfbfnlaa

/-- An order of items that stand in order, as a number: what is below j lies in the j bits from j(j-1)/2 on. -/
def dnC (c j : Nat) : Nat := Nat.mod (Nat.shiftRight c (Nat.div (Nat.mul j (Nat.sub j 1)) 2)) (Nat.pow 2 j)
/-- Holds the numbers below i with bits in d all what c tells of them? -/
def inC (c d : Nat) : Nat → Bool
  | 0 => true
  | i + 1 => bif Nat.beq (Nat.land (Nat.shiftRight d i) 1) 0 then inC c d i else (bif Nat.beq (Nat.land (dnC c i) d) (dnC c i) then inC c d i else false)
def trC (c : Nat) : Nat → Bool
  | 0 => true
  | j + 1 => bif trC c j then inC c (dnC c j) j else false
/-- The first item of a list that can come next. -/
def nxC (c s : Nat) : List Nat → Nat
  | [] => 0
  | x :: xs => bif Nat.beq (Nat.land (Nat.shiftRight s x) 1) 0 then (bif Nat.beq (Nat.land (dnC c x) s) (dnC c x) then x else nxC c s xs) else nxC c s xs
def lnC (c : Nat) (pri : List Nat) : Nat → Nat → List Nat
  | 0, _ => []
  | k + 1, s => nxC c s pri :: lnC c pri k (Nat.lor s (Nat.pow 2 (nxC c s pri)))
/-- What stands ahead of x. -/
def bfC (x : Nat) : List Nat → Nat
  | [] => 0
  | y :: ys => bif Nat.beq y x then 0 else Nat.lor (Nat.pow 2 y) (bfC x ys)
def prC : List (List Nat × List Nat × List Nat) := [([2, 3, 4, 0, 5, 1], [4, 3, 1, 0, 5, 2], [2, 1, 5, 4, 0, 3]), ([0, 4, 3, 5, 1, 2], [1, 0, 2, 5, 3, 4], [4, 3, 2, 5, 1, 0]), ([5, 1, 0, 4, 2, 3], [3, 2, 4, 1, 0, 5], [3, 5, 2, 0, 4, 1]),
  ([0, 3, 1, 2, 5, 4], [5, 3, 1, 4, 2, 0], [2, 0, 4, 1, 5, 3]), ([4, 0, 3, 2, 5, 1], [4, 5, 0, 1, 2, 3], [1, 3, 5, 2, 0, 4]), ([3, 1, 0, 2, 4, 5], [1, 4, 3, 5, 0, 2], [5, 2, 0, 3, 4, 1]), ([3, 0, 1, 2, 4, 5], [5, 0, 2, 4, 3, 1], [4, 2, 1, 5, 3, 0]),
  ([0, 2, 4, 1, 3, 5], [5, 2, 0, 4, 3, 1], [1, 4, 5, 3, 0, 2]), ([1, 2, 5, 4, 3, 0], [4, 2, 0, 5, 3, 1], [3, 1, 5, 0, 2, 4])]
/-- All below x stand in the list. -/
def memC (x : Nat) : List Nat → Bool
  | [] => false
  | y :: ys => bif Nat.beq y x then true else memC x ys
def mmC (l : List Nat) : Nat → Bool
  | 0 => true
  | x + 1 => bif memC x l then mmC l x else false
def ltC (n : Nat) : List Nat → Bool
  | [] => true
  | y :: ys => bif Nat.blt y n then ltC n ys else false
def ndC : List Nat → Bool
  | [] => true
  | y :: ys => bif memC y ys then false else ndC ys
def pmC (n : Nat) (l : List Nat) : Bool := bif Nat.beq l.length n then (bif ltC n l then (bif ndC l then mmC l n else false) else false) else false
def tlC (c : Nat) (a b d : List Nat) : Nat → Bool
  | 0 => true
  | x + 1 => bif Nat.beq (Nat.land (bfC x a) (Nat.land (bfC x b) (bfC x d))) (dnC c x) then tlC c a b d x else false
def lt3 (n : Nat) (l : List Nat) : List Nat := l.filter (fun x => Nat.blt x n)
def tryC (n c : Nat) (a b d : List Nat) : Bool := bif tlC c a b d n then (bif pmC n a then (bif pmC n b then pmC n d else false) else false) else false
def anyC (n c : Nat) : List (List Nat × List Nat × List Nat) → Bool
  | [] => false
  | t :: ts => bif tryC n c (lnC c (lt3 n t.1) n 0) (lnC c (lt3 n t.2.1) n 0) (lnC c (lt3 n t.2.2) n 0) then true else anyC n c ts
def okC (n c : Nat) : Bool := bif trC c n then anyC n c prC else true
/-- The number is had before it is used. -/
def hadC (f : Nat → Bool) (c : Nat) : Bool := Nat.rec (f 0) (fun k _ => f (k + 1)) c
theorem hadC_eq (f : Nat → Bool) (c : Nat) : hadC f c = f c := by cases c <;> rfl
def allC (f : Nat → Bool) : Nat → Nat → Bool
  | 0, c => hadC f c
  | k + 1, c => bif allC f k (2 * c) then allC f k (2 * c + 1) else false
theorem allC_join {f : Nat → Bool} {k c : Nat} (h1 : allC f k (2 * c) = true) (h2 : allC f k (2 * c + 1) = true) : allC f (k + 1) c = true := by rw [allC, h1]; exact h2
theorem allC_of {f : Nat → Bool} : ∀ (k c : Nat), allC f k c = true → ∀ d, d < 2 ^ k → f (2 ^ k * c + d) = true
  | 0, c, h, d, hd => by
    obtain rfl : d = 0 := by simpa using hd
    rw [allC, hadC_eq] at h
    simpa using h
  | k + 1, c, h, d, hd => by
    rw [allC] at h
    cases h1 : allC f k (2 * c)
    · rw [h1] at h; cases h
    · rw [h1] at h
      have h2 : allC f k (2 * c + 1) = true := h
      have e2 : 2 ^ (k + 1) = 2 ^ k + 2 ^ k := by rw [Nat.pow_succ]; omega
      rcases Nat.lt_or_ge d (2 ^ k) with hlt | hge
      · have := allC_of k (2 * c) h1 d hlt
        rw [show 2 ^ (k + 1) * c + d = 2 ^ k * (2 * c) + d by rw [Nat.pow_succ, Nat.mul_assoc]]; exact this
      · have := allC_of k (2 * c + 1) h2 (d - 2 ^ k) (by omega)
        rw [show 2 ^ (k + 1) * c + d = 2 ^ k * (2 * c + 1) + (d - 2 ^ k) by rw [Nat.pow_succ, Nat.mul_assoc, Nat.mul_add, Nat.mul_one]; omega]; exact this
theorem all_ok5 : ∀ n : Fin 6, allC (okC n.val) (n.val * (n.val - 1) / 2) 0 = true := by decide +kernel
end Go.Proofs.Ytipdmaggfbfnlaa

/- All orders of six items that stand in order, part 1 of 4. -/
namespace Go.Proofs.Ytipdmaggfbfnlaa
theorem d3_0 : allC (okC 6) 9 0 = true := by decide +kernel
theorem d3_1 : allC (okC 6) 9 1 = true := by decide +kernel
theorem d3_2 : allC (okC 6) 9 2 = true := by decide +kernel
theorem d3_3 : allC (okC 6) 9 3 = true := by decide +kernel
theorem d3_4 : allC (okC 6) 9 4 = true := by decide +kernel
theorem d3_5 : allC (okC 6) 9 5 = true := by decide +kernel
theorem d3_6 : allC (okC 6) 9 6 = true := by decide +kernel
theorem d3_7 : allC (okC 6) 9 7 = true := by decide +kernel
theorem d3_8 : allC (okC 6) 9 8 = true := by decide +kernel
theorem d3_9 : allC (okC 6) 9 9 = true := by decide +kernel
theorem d3_10 : allC (okC 6) 9 10 = true := by decide +kernel
theorem d3_11 : allC (okC 6) 9 11 = true := by decide +kernel
theorem d3_12 : allC (okC 6) 9 12 = true := by decide +kernel
theorem d3_13 : allC (okC 6) 9 13 = true := by decide +kernel
theorem d3_14 : allC (okC 6) 9 14 = true := by decide +kernel
theorem d3_15 : allC (okC 6) 9 15 = true := by decide +kernel
theorem d3q_0 : allC (okC 6) 13 0 = true := (allC_join (c := 0) (allC_join (c := 0) (allC_join (c := 0) (allC_join (c := 0) d3_0 d3_1) (allC_join (c := 1) d3_2 d3_3)) (allC_join (c := 1) (allC_join (c := 2) d3_4 d3_5) (allC_join (c := 3) d3_6 d3_7))) (allC_join (c := 1) (allC_join (c := 2) (allC_join (c := 4) d3_8 d3_9) (allC_join (c := 5) d3_10 d3_11)) (allC_join (c := 3) (allC_join (c := 6) d3_12 d3_13) (allC_join (c := 7) d3_14 d3_15))))
end Go.Proofs.Ytipdmaggfbfnlaa

/- All orders of six items that stand in order, part 2 of 4. -/
namespace Go.Proofs.Ytipdmaggfbfnlaa
theorem d3_16 : allC (okC 6) 9 16 = true := by decide +kernel
theorem d3_17 : allC (okC 6) 9 17 = true := by decide +kernel
theorem d3_18 : allC (okC 6) 9 18 = true := by decide +kernel
theorem d3_19 : allC (okC 6) 9 19 = true := by decide +kernel
theorem d3_20 : allC (okC 6) 9 20 = true := by decide +kernel
theorem d3_21 : allC (okC 6) 9 21 = true := by decide +kernel
theorem d3_22 : allC (okC 6) 9 22 = true := by decide +kernel
theorem d3_23 : allC (okC 6) 9 23 = true := by decide +kernel
theorem d3_24 : allC (okC 6) 9 24 = true := by decide +kernel
theorem d3_25 : allC (okC 6) 9 25 = true := by decide +kernel
theorem d3_26 : allC (okC 6) 9 26 = true := by decide +kernel
theorem d3_27 : allC (okC 6) 9 27 = true := by decide +kernel
theorem d3_28 : allC (okC 6) 9 28 = true := by decide +kernel
theorem d3_29 : allC (okC 6) 9 29 = true := by decide +kernel
theorem d3_30 : allC (okC 6) 9 30 = true := by decide +kernel
theorem d3_31 : allC (okC 6) 9 31 = true := by decide +kernel
theorem d3q_1 : allC (okC 6) 13 1 = true := (allC_join (c := 1) (allC_join (c := 2) (allC_join (c := 4) (allC_join (c := 8) d3_16 d3_17) (allC_join (c := 9) d3_18 d3_19)) (allC_join (c := 5) (allC_join (c := 10) d3_20 d3_21) (allC_join (c := 11) d3_22 d3_23))) (allC_join (c := 3) (allC_join (c := 6) (allC_join (c := 12) d3_24 d3_25) (allC_join (c := 13) d3_26 d3_27)) (allC_join (c := 7) (allC_join (c := 14) d3_28 d3_29) (allC_join (c := 15) d3_30 d3_31))))
end Go.Proofs.Ytipdmaggfbfnlaa

/- All orders of six items that stand in order, part 3 of 4. -/
namespace Go.Proofs.Ytipdmaggfbfnlaa
theorem d3_32 : allC (okC 6) 9 32 = true := by decide +kernel
theorem d3_33 : allC (okC 6) 9 33 = true := by decide +kernel
theorem d3_34 : allC (okC 6) 9 34 = true := by decide +kernel
theorem d3_35 : allC (okC 6) 9 35 = true := by decide +kernel
theorem d3_36 : allC (okC 6) 9 36 = true := by decide +kernel
theorem d3_37 : allC (okC 6) 9 37 = true := by decide +kernel
theorem d3_38 : allC (okC 6) 9 38 = true := by decide +kernel
theorem d3_39 : allC (okC 6) 9 39 = true := by decide +kernel
theorem d3_40 : allC (okC 6) 9 40 = true := by decide +kernel
theorem d3_41 : allC (okC 6) 9 41 = true := by decide +kernel
theorem d3_42 : allC (okC 6) 9 42 = true := by decide +kernel
theorem d3_43 : allC (okC 6) 9 43 = true := by decide +kernel
theorem d3_44 : allC (okC 6) 9 44 = true := by decide +kernel
theorem d3_45 : allC (okC 6) 9 45 = true := by decide +kernel
theorem d3_46 : allC (okC 6) 9 46 = true := by decide +kernel
theorem d3_47 : allC (okC 6) 9 47 = true := by decide +kernel
theorem d3q_2 : allC (okC 6) 13 2 = true := (allC_join (c := 2) (allC_join (c := 4) (allC_join (c := 8) (allC_join (c := 16) d3_32 d3_33) (allC_join (c := 17) d3_34 d3_35)) (allC_join (c := 9) (allC_join (c := 18) d3_36 d3_37) (allC_join (c := 19) d3_38 d3_39))) (allC_join (c := 5) (allC_join (c := 10) (allC_join (c := 20) d3_40 d3_41) (allC_join (c := 21) d3_42 d3_43)) (allC_join (c := 11) (allC_join (c := 22) d3_44 d3_45) (allC_join (c := 23) d3_46 d3_47))))
end Go.Proofs.Ytipdmaggfbfnlaa

/- All orders of six items that stand in order, part 4 of 4. -/
namespace Go.Proofs.Ytipdmaggfbfnlaa
theorem d3_48 : allC (okC 6) 9 48 = true := by decide +kernel
theorem d3_49 : allC (okC 6) 9 49 = true := by decide +kernel
theorem d3_50 : allC (okC 6) 9 50 = true := by decide +kernel
theorem d3_51 : allC (okC 6) 9 51 = true := by decide +kernel
theorem d3_52 : allC (okC 6) 9 52 = true := by decide +kernel
theorem d3_53 : allC (okC 6) 9 53 = true := by decide +kernel
theorem d3_54 : allC (okC 6) 9 54 = true := by decide +kernel
theorem d3_55 : allC (okC 6) 9 55 = true := by decide +kernel
theorem d3_56 : allC (okC 6) 9 56 = true := by decide +kernel
theorem d3_57 : allC (okC 6) 9 57 = true := by decide +kernel
theorem d3_58 : allC (okC 6) 9 58 = true := by decide +kernel
theorem d3_59 : allC (okC 6) 9 59 = true := by decide +kernel
theorem d3_60 : allC (okC 6) 9 60 = true := by decide +kernel
theorem d3_61 : allC (okC 6) 9 61 = true := by decide +kernel
theorem d3_62 : allC (okC 6) 9 62 = true := by decide +kernel
theorem d3_63 : allC (okC 6) 9 63 = true := by decide +kernel
theorem d3q_3 : allC (okC 6) 13 3 = true := (allC_join (c := 3) (allC_join (c := 6) (allC_join (c := 12) (allC_join (c := 24) d3_48 d3_49) (allC_join (c := 25) d3_50 d3_51)) (allC_join (c := 13) (allC_join (c := 26) d3_52 d3_53) (allC_join (c := 27) d3_54 d3_55))) (allC_join (c := 7) (allC_join (c := 14) (allC_join (c := 28) d3_56 d3_57) (allC_join (c := 29) d3_58 d3_59)) (allC_join (c := 15) (allC_join (c := 30) d3_60 d3_61) (allC_join (c := 31) d3_62 d3_63))))
end Go.Proofs.Ytipdmaggfbfnlaa

/- Three lines tell each order of at most six items whose items stand in order. No program. -/
namespace Go.Proofs.Ytipdmaggfbfnlaa
theorem all_ok6 : allC (okC 6) 15 0 = true := allC_join (c := 0) (allC_join (c := 0) d3q_0 d3q_1) (allC_join (c := 1) d3q_2 d3q_3)
theorem ok_all {n c : Nat} (hn : n ≤ 6) (hc : c < 2 ^ (n * (n - 1) / 2)) : okC n c = true := by
  rcases Nat.lt_or_ge n 6 with h | h
  · have := allC_of _ _ (all_ok5 ⟨n, h⟩) c hc
    simpa using this
  · obtain rfl : n = 6 := by omega
    have := allC_of _ _ all_ok6 c (by simpa using hc)
    simpa using this
theorem any_some {n c : Nat} : ∀ ts, anyC n c ts = true → ∃ a b d, tryC n c a b d = true
  | [], h => by cases h
  | t :: ts, h => by
    rw [anyC] at h
    cases h1 : tryC n c (lnC c (lt3 n t.1) n 0) (lnC c (lt3 n t.2.1) n 0) (lnC c (lt3 n t.2.2) n 0)
    · rw [h1] at h; exact any_some ts h
    · exact ⟨_, _, _, h1⟩
theorem tl_of {c : Nat} {a b d : List Nat} : ∀ n, tlC c a b d n = true → ∀ x, x < n → bfC x a &&& (bfC x b &&& bfC x d) = dnC c x
  | 0, _, x, hx => absurd hx (Nat.not_lt_zero x)
  | n + 1, h, x, hx => by
    rw [tlC] at h
    cases h1 : Nat.beq (Nat.land (bfC n a) (Nat.land (bfC n b) (bfC n d))) (dnC c n)
    · rw [h1] at h; cases h
    · rw [h1] at h
      rcases Nat.lt_or_ge x n with hlt | hge
      · exact tl_of n h x hlt
      · obtain rfl : x = n := by omega
        exact Nat.eq_of_beq_eq_true h1
/-- Each order of at most six items that stand in order is told by three lines. -/
theorem three_of {n c : Nat} (hn : n ≤ 6) (hc : c < 2 ^ (n * (n - 1) / 2)) (ht : trC c n = true) :
    ∃ a b d : List Nat, pmC n a = true ∧ pmC n b = true ∧ pmC n d = true ∧ ∀ x, x < n → bfC x a &&& (bfC x b &&& bfC x d) = dnC c x := by
  have h := ok_all hn hc
  unfold okC at h
  rw [ht] at h
  obtain ⟨a, b, d, h1⟩ := any_some _ (show anyC n c prC = true from h)
  unfold tryC at h1
  cases h2 : tlC c a b d n
  · rw [h2] at h1; cases h1
  · cases h3 : pmC n a
    · rw [h2, h3] at h1; cases h1
    · cases h4 : pmC n b
      · rw [h2, h3, h4] at h1; cases h1
      · rw [h2, h3, h4] at h1
        exact ⟨a, b, d, h3, h4, h1, tl_of n h2⟩
end Go.Proofs.Ytipdmaggfbfnlaa

/- The matching: items asked one after the other, as a function on what they have and what was seen. No program. -/
namespace Go.Proofs.Ytipdmaggfbfnlaa

/-- From item b on, d items more are asked for a. -/
def mateG (zs : List Int) (rec : Nat → List Int → List Bool → Bool × List Int × List Bool) (a : Nat) : Nat → Nat → List Int → List Bool → Bool × List Int × List Bool
  | 0, _, has, seen => (false, has, seen)
  | d + 1, b, has, seen =>
    if !bitB (zs[a]?.getD 0) b || seen[b]?.getD false then mateG zs rec a d (b + 1) has seen
    else if has[b]?.getD 0 < 0 then (true, has.set b (a : Int), seen.set b true)
    else if (rec (has[b]?.getD 0).toNat has (seen.set b true)).1 then (true, (rec (has[b]?.getD 0).toNat has (seen.set b true)).2.1.set b (a : Int), (rec (has[b]?.getD 0).toNat has (seen.set b true)).2.2)
    else mateG zs rec a d (b + 1) (rec (has[b]?.getD 0).toNat has (seen.set b true)).2.1 (rec (has[b]?.getD 0).toNat has (seen.set b true)).2.2
def mateF (zs : List Int) : Nat → Nat → List Int → List Bool → Bool × List Int × List Bool
  | 0, _, has, seen => (false, has, seen)
  | f + 1, a, has, seen => mateG zs (mateF zs f) a zs.length 0 has seen
/-- Whom each item is had by: none, or an item. -/
def OkH (n : Nat) (has : List Int) : Prop := has.length = n ∧ ∀ j, j < n → -1 ≤ has[j]?.getD 0 ∧ has[j]?.getD 0 < (n : Int)
def unseen (s : List Bool) : Nat := (s.filter fun x => !x).length
theorem unseen_set : ∀ (s : List Bool) (b : Nat), b < s.length → s[b]?.getD false = false → unseen (s.set b true) + 1 = unseen s
  | [], b, h, _ => by simp at h
  | x :: s, 0, _, h => by
    have hx : x = false := by simpa using h
    subst hx
    simp [unseen]
  | x :: s, b + 1, h, hb => by
    have ih := unseen_set s b (by simpa using h) (by simpa using hb)
    unfold unseen at ih ⊢
    rw [List.set_cons_succ, List.filter_cons, List.filter_cons]
    cases x <;> simp <;> omega
theorem OkH.set {n a b : Nat} {has : List Int} (h : OkH n has) (ha : a < n) : OkH n (has.set b (a : Int)) := by
  refine ⟨by rw [List.length_set]; exact h.1, fun j hj => ?_⟩
  by_cases e : b = j
  · subst e
    rw [List.getElem?_set_self (by rw [h.1]; exact hj)]
    simp; omega
  · rw [List.getElem?_set_ne e]; exact h.2 j hj
/-- What a step keeps. -/
def Keeps (n : Nat) (seen : List Bool) (r : Bool × List Int × List Bool) : Prop := OkH n r.2.1 ∧ r.2.2.length = n ∧ unseen r.2.2 ≤ unseen seen
theorem mateG_ok {zs : List Int} {n : Nat} {rec : Nat → List Int → List Bool → Bool × List Int × List Bool} {a : Nat} (ha : a < n)
    (hrec : ∀ (x : Nat) (has : List Int) (seen : List Bool), x < n → OkH n has → seen.length = n → Keeps n seen (rec x has seen)) :
    ∀ (d b : Nat) (has : List Int) (seen : List Bool), b + d = n → OkH n has → seen.length = n → Keeps n seen (mateG zs rec a d b has seen)
  | 0, _, has, seen, _, h1, h2 => ⟨h1, h2, Nat.le_refl _⟩
  | d + 1, b, has, seen, hb, h1, h2 => by
    unfold mateG
    by_cases c1 : (!bitB (zs[a]?.getD 0) b || seen[b]?.getD false) = true
    · rw [if_pos c1]; exact mateG_ok ha hrec d (b + 1) has seen (by omega) h1 h2
    · rw [if_neg c1]
      have hsb : seen[b]?.getD false = false := by
        cases e : seen[b]?.getD false
        · rfl
        · rw [e] at c1; simp at c1
      have hu := unseen_set seen b (by omega) hsb
      by_cases c2 : has[b]?.getD 0 < 0
      · rw [if_pos c2]
        exact ⟨h1.set ha, by simpa using h2, by show unseen (seen.set b true) ≤ unseen seen; omega⟩
      · rw [if_neg c2]
        have hx := h1.2 b (by omega)
        obtain ⟨k1, k2, k3⟩ := hrec (has[b]?.getD 0).toNat has (seen.set b true) (by omega) h1 (by simpa using h2)
        generalize rec (has[b]?.getD 0).toNat has (seen.set b true) = r at *
        by_cases c3 : r.1 = true
        · rw [if_pos c3]; exact ⟨k1.set ha, k2, by show unseen r.2.2 ≤ unseen seen; omega⟩
        · rw [if_neg c3]
          obtain ⟨m1, m2, m3⟩ := mateG_ok (zs := zs) ha hrec d (b + 1) r.2.1 r.2.2 (by omega) k1 k2
          exact ⟨m1, m2, by omega⟩
theorem mateF_ok (zs : List Int) : ∀ (f x : Nat) (has : List Int) (seen : List Bool), x < zs.length → OkH zs.length has → seen.length = zs.length → Keeps zs.length seen (mateF zs f x has seen)
  | 0, _, _, _, _, h1, h2 => ⟨h1, h2, Nat.le_refl _⟩
  | f + 1, x, has, seen, hx, h1, h2 => by
    unfold mateF
    exact mateG_ok hx (fun y ha se hy k1 k2 => mateF_ok zs f y ha se hy k1 k2) zs.length 0 has seen (by omega) h1 h2
theorem unseen_le (s : List Bool) : unseen s ≤ s.length := List.length_filter_le _ _
/-- All items, one after the other. -/
def matesTo (zs : List Int) : Nat → List Int
  | 0 => List.replicate zs.length (-1)
  | k + 1 => (mateF zs (zs.length + 1) k (matesTo zs k) (List.replicate zs.length false)).2.1
theorem matesTo_ok (zs : List Int) : ∀ k : Nat, k ≤ zs.length → OkH zs.length (matesTo zs k)
  | 0, _ => ⟨by simp [matesTo], fun j hj => by simp [matesTo, hj]; omega⟩
  | k + 1, hk => (mateF_ok zs _ k _ _ (by omega) (matesTo_ok zs k (by omega)) (by simp)).1
/-- How many have none. -/
def noneTo (has : List Int) : Nat → Nat
  | 0 => 0
  | k + 1 => noneTo has k + (if has[k]?.getD 0 < 0 then 1 else 0)
theorem noneTo_le (has : List Int) : ∀ k : Nat, noneTo has k ≤ k
  | 0 => Nat.le_refl _
  | k + 1 => by
    have := noneTo_le has k
    unfold noneTo
    split <;> omega
def fewestR (zs : List Int) : Int := if vo zs then (noneTo (matesTo zs zs.length) zs.length : Int) else -1
end Go.Proofs.Ytipdmaggfbfnlaa

/- The matching as the program asks: over the items of a set, with what was asked as a set. No program. -/
namespace Go.Proofs.Ytipdmaggfbfnlaa

/-- The marks that a set tells. -/
def SeenAs (n : Nat) (seen : List Bool) (asked : Int) : Prop := seen.length = n ∧ 0 ≤ asked ∧ asked < powI n ∧ ∀ j, j < n → seen[j]?.getD false = bitB asked j
theorem SeenAs.set {n b : Nat} {seen : List Bool} {asked : Int} (h : SeenAs n seen asked) (hb : b < n) : SeenAs n (seen.set b true) (orI asked (powI (b : Int))) := by
  obtain ⟨h1, h2, h3, h4⟩ := h
  have h5 := orI_bd h2 h3 (Int.le_of_lt (powI_pos (b : Int))) (powI_lt hb)
  refine ⟨by simpa using h1, h5.1, h5.2, fun j hj => ?_⟩
  rw [bitB_or, bitB_pow]
  by_cases e : b = j
  · subst e
    rw [List.getElem?_set_self (by omega)]; simp
  · rw [List.getElem?_set_ne e, h4 j hj]; simp [e]
theorem SeenAs.none (n : Nat) : SeenAs n (List.replicate n false) 0 := ⟨by simp, Int.le_refl _, powI_pos _, fun j hj => by simp [hj, bitB_zero]⟩
/-- Where to go on, behind the items that were met. -/
def nxB (pre : List Nat) : Nat := match pre.getLast? with | none => 0 | some x => x + 1
theorem nxB_snoc (pre : List Nat) (x : Nat) : nxB (pre ++ [x]) = x + 1 := by unfold nxB; simp
theorem skip_none {zs : List Int} {rec : Nat → List Int → List Bool → Bool × List Int × List Bool} {a n : Nat} {has : List Int} {seen : List Bool} : ∀ (k b : Nat), b + k ≤ n → (∀ j, b ≤ j → j < b + k → bitB (zs[a]?.getD 0) j = false) →
    mateG zs rec a (n - b) b has seen = mateG zs rec a (n - (b + k)) (b + k) has seen
  | 0, b, _, _ => rfl
  | k + 1, b, hb, hn => by
    have h0 := hn b (Nat.le_refl _) (by omega)
    obtain ⟨d, hd⟩ : ∃ d, n - b = d + 1 := ⟨n - b - 1, by omega⟩
    have ih := skip_none (zs := zs) (rec := rec) (a := a) (n := n) (has := has) (seen := seen) k (b + 1) (by omega) (fun j h1 h2 => hn j (by omega) (by omega))
    rw [hd]
    show (if !bitB (zs[a]?.getD 0) b || seen[b]?.getD false then mateG zs rec a d (b + 1) has seen else _) = _
    rw [h0]
    simp only [Bool.not_false, Bool.true_or, if_true]
    rw [show d = n - (b + 1) by omega, ih, show b + 1 + k = b + (k + 1) by omega]
/-- Ahead of the next item of the set there is none. -/
theorem gap_none {z : Int} (hz : z < 64) {pre : List Nat} {x : Nat} (hp : pre ++ [x] <+: itemsL z) : nxB pre ≤ x ∧ ∀ j, nxB pre ≤ j → j < x → bitB z j = false := by
  have hs := itemsL_sorted z
  obtain ⟨t, ht⟩ := hp
  rw [← ht, List.append_assoc, List.pairwise_append] at hs
  obtain ⟨s1, s2, s3⟩ := hs
  simp only [List.singleton_append, List.pairwise_cons] at s2
  have hlast : ∀ y, pre.getLast? = some y → y < x := fun y hy => s3 y (List.mem_of_getLast? hy) x (by simp)
  refine ⟨?_, fun j h1 h2 => ?_⟩
  · unfold nxB
    cases e : pre.getLast? with
    | none => simp
    | some y => exact hlast y e
  · cases e : bitB z j
    · rfl
    · have hm := (mem_itemsL hz).2 e
      rw [← ht, List.append_assoc] at hm
      rcases List.mem_append.1 hm with hm | hm
      · exfalso
        unfold nxB at h1
        cases el : pre.getLast? with
        | none => rw [List.getLast?_eq_none_iff.1 el] at hm; cases hm
        | some y =>
          rw [el] at h1
          simp at h1
          obtain ⟨ys, hys⟩ := List.getLast?_eq_some_iff.1 el
          subst hys
          rcases List.mem_append.1 hm with hm | hm
          · have := (List.pairwise_append.1 s1).2.2 j hm y (by simp); omega
          · have := List.mem_singleton.1 hm; omega
      · simp only [List.singleton_append, List.mem_cons] at hm
        rcases hm with hm | hm
        · omega
        · have := s2.1 j hm; omega
/-- Behind the last item of the set there is none. -/
theorem end_none {z : Int} (hz : z < 64) {j : Nat} (h : nxB (itemsL z) ≤ j) : bitB z j = false := by
  cases e : bitB z j
  · rfl
  · have hm := (mem_itemsL hz).2 e
    unfold nxB at h
    cases el : (itemsL z).getLast? with
    | none => rw [List.getLast?_eq_none_iff.1 el] at hm; cases hm
    | some y =>
      rw [el] at h
      simp at h
      obtain ⟨ys, hys⟩ := List.getLast?_eq_some_iff.1 el
      have hs := itemsL_sorted z
      rw [hys] at hm hs
      rcases List.mem_append.1 hm with hm | hm
      · have := (List.pairwise_append.1 hs).2.2 j hm y (by simp); omega
      · have := List.mem_singleton.1 hm; omega
theorem nxB_le {z : Int} {n : Nat} (h0 : 0 ≤ z) (h1 : z < powI n) (hz : z < 64) : nxB (itemsL z) ≤ n := by
  unfold nxB
  cases el : (itemsL z).getLast? with
  | none => simp
  | some y =>
    exact bitB_lt h1 ((mem_itemsL hz).1 (List.mem_of_getLast? el))
end Go.Proofs.Ytipdmaggfbfnlaa

/- A region that draws its order, in a round of a loop over a function, by the laws for plain machines: where nothing in it defers, and no round may outgrow. -/
namespace Go.Proofs.Ytipdmaggfbfnlaa
open Go.RowKit

section
variable {n : Nat} {P : Program} {ops : Array Oper} {Q : Exit → Act → World → Prop} {md : Region.Mode} {S : World → Prop} {l₀ : Nat}
theorem rows_wide {row : String} {args : Array Value} {w : World} {R : Value → World → Prop} (h : Rows P row args w R) : RowsIn Fence.wide n P row args w R :=
  fun c cs _ => let ⟨v, w', r, s⟩ := h c cs; ⟨v, w', r, stepsIn_wide.2 s⟩
theorem oper_wide {o : Oper} {a : Act} {w : World} {K : Act → World → Prop} (h : o.wp P a w K Q) : o.wpIn Fence.wide n P a w K Q := by
  unfold Oper.wp at h
  refine ⟨fun _ _ => trivial, ?_⟩
  rw [show Fence.wide.round = none from rfl, Oper.semAt_none]
  generalize (execOp a.eval o).run P w = r at h ⊢
  have hd : Fence.wide.depth.isSome = true → 1 ≤ n := fun e => by cases e
  cases r with
  | ok x w' =>
    cases x with
    | value v => exact h
    | skip => exact h
    | defer d => exact h
    | enter f args => exact ⟨hd, callsIn_wide.2 h⟩
    | row row args => exact ⟨hd, rows_wide h⟩
    | _ => exact h.elim
  | halt x w' => cases x <;> exact h
theorem op_wide (hQ : ¬ LetsOut Q) {i : Nat} {a : Act} {w : World} {K K' : Act → World → Prop} (hK : ∀ a w, K a w → K' a w) (h : wpOp P ops Q i K a w) : wpOpIn Fence.wide n P ops Q i K' a w := by
  unfold wpOp at h
  unfold wpOpIn
  split
  · rename_i ho; simp only [ho] at h; exact hK _ _ h
  · rename_i o ho
    simp only [ho] at h
    split
    · rename_i hw
      simp only [hw, if_true] at h
      rcases h with h | h
      · exact Oper.wpIn_mono hK (oper_wide h)
      · exact absurd h.2 hQ
    · rename_i hw
      simp only [hw] at h
      exact ⟨fun _ _ => trivial, hK _ _ h⟩
theorem any_wide (hQ : ¬ LetsOut Q) : ∀ (fuel : Nat) (listed : Array Bool) (a : Act) (w : World), wpAny P md ops Q fuel listed a w → wpAnyIn Fence.wide n P md ops Q fuel listed a w
  | 0, _, _, _, h => h
  | fuel + 1, _, _, _, h => ⟨h.1, fun i hi => op_wide hQ (fun a w h' => any_wide hQ fuel _ a w h') (h.2 i hi)⟩
/-- The beginning, in a round: a condition S on the worlds met is shown of the world behind the draw, and handed on. -/
theorem region_held_round {id : Nat} {a : Act} {w : World} {l : List Oper} (hm : P.follows .mixedOrders = true) (hd : l.all noDefer = true) (hQ : ¬ LetsOut Q) (hS : S w.drew)
    (h : S w.drew → wpAnyH P .any l.toArray Q S l.toArray.size (Array.replicate l.toArray.size false) a w.drew) : (Code.region id l.toArray true).wpIn (Fence.wide.inRound l₀) n P Q a w :=
  wpIn_region_any hm (anyIn_round (fun _ o ho => noDefer_spec (List.all_eq_true.1 hd o (List.mem_of_getElem? (by simpa using ho)))) _ _ _ _ (any_wide hQ _ _ _ _ (wpAny_of_held _ _ _ _ (h hS))))
end

/-! A region whose last operation writes what an earlier one has read: the condition S is asked behind every operation but the last one, z, which waits for all. -/
section
variable {n : Nat} {P : Program} {ops : Array Oper} {Q : Exit → Act → World → Prop} {md : Region.Mode} {S : World → Prop} {z : Nat} {l₀ : Nat}
def anyT (P : Program) (md : Region.Mode) (ops : Array Oper) (Q : Exit → Act → World → Prop) (S : World → Prop) (z : Nat) : Nat → Array Bool → Act → World → Prop
  | 0, listed, a, w => Region.ready md ops listed = [] ∧ Q .normal a w
  | fuel + 1, listed, a, w => (Region.ready md ops listed = [] → Q .normal a w) ∧
    ∀ i ∈ Region.ready md ops listed, wpOp P ops Q i (fun a' w' => (i ≠ z → S w') ∧ anyT P md ops Q S z fuel (listed.setIfInBounds i true) a' w') a w
theorem any_of_T : ∀ (fuel : Nat) (listed : Array Bool) (a : Act) (w : World), anyT P md ops Q S z fuel listed a w → wpAny P md ops Q fuel listed a w
  | 0, _, _, _, h => h
  | fuel + 1, _, _, _, h => ⟨h.1, fun i hi => wpOp_mono (fun a' w' h' => any_of_T fuel _ a' w' h'.2) (h.2 i hi)⟩
/-- What may come up before the last one may be taken first, if it yields the same in every world met. -/
theorem anyT_first {i : Nat} {oi : Oper} {v : Value} (hi : ops[i]? = some oi) (hsel : ∀ (j : Nat) (o : Oper) cs b, ops[j]? = some o → o.op ≠ .select cs b)
    (hQ : ∀ c a w, Q (.panic c) (a.put oi.dst v) w → Q (.panic c) a w) (hs : Region.sinkB md ops z = true) (hc : Region.chainB md ops z = true) (hz : z < ops.size) (hiz : i < z) :
    ∀ (fuel : Nat) (listed : Array Bool) (a : Act) (w : World), HeadInv md ops z listed →
      (∀ j oj, ops[j]? = some oj → j ≠ i → listed.getD j true = false → (∀ e ∈ oj.after, Region.binds md e = true → e.on ≠ i) → oi.apart ops oj = true) →
      i ∈ Region.ready md ops listed → YieldsIf P ops S oi v a → S w →
      anyT P md ops Q S z fuel (listed.setIfInBounds i true) (a.put oi.dst v) w → anyT P md ops Q S z (fuel + 1) listed a w
  | fuel, listed, a, w, inv, hfree, hr, hy, hS, H => by
    have hun := (mem_ready.1 hr).1
    refine ⟨fun h => (by rw [h] at hr; cases hr), fun j hj => ?_⟩
    by_cases hji : j = i
    · rw [hji]; exact hy.wpOp hi hS ⟨fun _ => hS, H⟩
    · have hjz : j < z := by
        rcases Nat.lt_or_ge j z with h | h
        · exact h
        · exact absurd hj (tail_waits hs hc hz inv _ i rfl hiz hun j h)
      cases fuel with
      | zero =>
        have := ready_mono hj hji
        rw [H.1] at this
        cases this
      | succ fuel =>
        have h1 := H.2 j (ready_mono hj hji)
        obtain ⟨hjun, oj, hoj, hall⟩ := mem_ready.1 hj
        have hnot : ∀ e ∈ oj.after, Region.binds md e = true → e.on ≠ i := fun e he hb heq => by
          have h1 := hall e he hb
          rw [heq, getD_both hun] at h1
          cases h1
        have h2 := wpOp_putIf hoj (hfree j oj hoj hji hjun hnot) (fun cs b => hsel i oi cs b hi) (fun cs b => hsel j oj cs b hoj) hQ hy h1
        have hfree' : ∀ k ok, ops[k]? = some ok → k ≠ i → (listed.setIfInBounds j true).getD k true = false →
            (∀ e ∈ ok.after, Region.binds md e = true → e.on ≠ i) → oi.apart ops ok = true := fun k ok hk hki hkun hno => by
          refine hfree k ok hk hki ?_ hno
          by_cases hjk : j = k
          · rw [← hjk]; exact hjun
          · rw [getD_set_ne true hjk] at hkun; exact hkun
        refine wpOp_mono (fun a' w' h3 => ?_) h2
        have hS' := h3.2.1 (by omega)
        refine ⟨fun _ => hS', anyT_first hi hsel hQ hs hc hz hiz fuel (listed.setIfInBounds j true) a' w' (inv.set hj hjz) hfree' (ready_mono hr (Ne.symm hji)) h3.1 hS' ?_⟩
        rw [Array.setIfInBounds_comm _ _ hji]
        exact h3.2.2
/-- The state of a walk through the head, as a Bool. -/
def headB (md : Region.Mode) (ops : Array Oper) (z : Nat) (listed : Array Bool) : Bool :=
  listed.size == ops.size && ((List.range ops.size).all (fun j => !(listed.getD j false) || match ops[j]? with | some o => o.after.all (fun e => !(Region.binds md e) || listed.getD e.on false) | none => true) &&
    (List.range ops.size).all fun t => decide (t < z) || !(listed.getD t true))
theorem headB_inv {listed : Array Bool} (h : headB md ops z listed = true) : HeadInv md ops z listed := by
  unfold headB at h
  rw [Bool.and_eq_true, Bool.and_eq_true, List.all_eq_true, List.all_eq_true, beq_iff_eq] at h
  refine ⟨h.1, fun j oj hj hl e he hb => ?_, fun t ht htn => ?_⟩
  · have := h.2.1 j (by simpa using (Array.getElem?_eq_some_iff.1 hj).1)
    rw [hj, hl] at this
    simp only [Bool.not_true, Bool.false_or] at this
    rw [Array.all_eq_true_iff_forall_mem] at this
    have h2 := this e he
    rw [hb] at h2
    simpa using h2
  · have := h.2.2 t (by simpa using htn)
    have hlt : ¬ t < z := by omega
    simpa [hlt] using this
theorem anyT_take {i : Nat} {oi : Oper} {v : Value} {fuel : Nat} {listed : Array Bool} {a : Act} {w : World} (hi : ops[i]? = some oi)
    (hc : (Region.noSelect ops && Region.sinkB md ops z && Region.chainB md ops z && decide (z < ops.size) && decide (i < z) && headB md ops z listed && Region.free md ops listed i && (Region.ready md ops listed).contains i) = true)
    (hQ : ∀ c a w, Q (.panic c) (a.put oi.dst v) w → Q (.panic c) a w) (hy : YieldsIf P ops S oi v a) (hS : S w)
    (h : anyT P md ops Q S z fuel (listed.setIfInBounds i true) (a.put oi.dst v) w) : anyT P md ops Q S z (fuel + 1) listed a w := by
  simp only [Bool.and_eq_true, decide_eq_true_eq] at hc
  obtain ⟨⟨⟨⟨⟨⟨⟨h1, h2⟩, h3⟩, h4⟩, h5⟩, h6⟩, h7⟩, h8⟩ := hc
  exact anyT_first hi (Region.noSelect_spec h1) hQ h2 h3 h4 h5 fuel listed a w (headB_inv h6) (Region.free_spec hi h7) (by simpa using h8) hy hS h
/-- The only one that may come up: it is carried out. -/
theorem anyT_one {i : Nat} {o : Oper} {fuel : Nat} {listed : Array Bool} {a : Act} {w : World} (hr : Region.ready md ops listed = [i]) (ho : ops[i]? = some o)
    (h : ∀ K' : Act → World → Prop, Shut (∀ a w, (i ≠ z → S w) → anyT P md ops Q S z fuel (listed.setIfInBounds i true) a w → K' a w) → if Region.wanted o (yielded ops a.tmps) = true then Oper.wp P o a w K' Q else K' (a.put o.dst undef) w) :
    anyT P md ops Q S z (fuel + 1) listed a w :=
  ⟨fun h0 => (by rw [hr] at h0; cases h0), fun j hj => by
    rw [hr] at hj
    obtain rfl := List.mem_singleton.1 hj
    exact wpOp_step ho (fun K' hK => h K' (fun a w hS hW => hK a w ⟨hS, hW⟩))⟩
theorem anyT_done {listed : Array Bool} {a : Act} {w : World} (hr : Region.ready md ops listed = []) (h : Q .normal a w) : ∀ fuel, anyT P md ops Q S z fuel listed a w
  | 0 => ⟨hr, h⟩
  | _ + 1 => ⟨fun _ => h, by rw [hr]; simp⟩
theorem region_T_round {id : Nat} {a : Act} {w : World} {l : List Oper} (z : Nat) (hm : P.follows .mixedOrders = true) (hd : l.all noDefer = true) (hQ : ¬ LetsOut Q)
    (h : anyT P .any l.toArray Q S z l.toArray.size (Array.replicate l.toArray.size false) a w.drew) : (Code.region id l.toArray true).wpIn (Fence.wide.inRound l₀) n P Q a w :=
  wpIn_region_any hm (anyIn_round (fun _ o ho => noDefer_spec (List.all_eq_true.1 hd o (List.mem_of_getElem? (by simpa using ho)))) _ _ _ _ (any_wide hQ _ _ _ _ (any_of_T _ _ _ _ h)))
theorem region_T {id : Nat} {a : Act} {w : World} {l : List Oper} (z : Nat) (hm : P.follows .mixedOrders = true)
    (h : anyT P .any l.toArray Q S z l.toArray.size (Array.replicate l.toArray.size false) a w.drew) : (Code.region id l.toArray true).wp P Q a w :=
  wp_region_any hm (any_of_T _ _ _ _ h)
end
end Go.Proofs.Ytipdmaggfbfnlaa

/- One element put at its place: an append of any number of elements, as a step of a region that draws its order. -/
namespace Go.Proofs.Ytipdmaggfbfnlaa
open Go.RowKit

section
variable {P : Program} (w : World)
theorem own_form {w : World} {base n : Nat} {e : TypeId} {v : Value} {xs : List Value} (h : w.ownsRow base e 1 v n xs) (hv : v ≠ .slice none 0 0) : ∃ g cap, v = .slice (some ⟨g, 0, none⟩) n cap ∧ base ≤ g ∧ g < w.heap.size ∧ n ≤ cap ∧ cap ≤ maxLen := by
  rcases h.2 with ⟨e, _⟩ | ⟨g, cap, cur, rfl, hg, hc, h1, h2, _⟩
  · exact absurd e hv
  · exact ⟨g, cap, rfl, hg, (Array.getElem?_eq_some_iff.1 hc).1, h1, h2⟩
theorem step_append_any {ops : Array Oper} {o : Oper} {a : Act} {K : Act → World → Prop} {Q : Exit → Act → World → Prop} {E : Prop} (hgd : o.guard = none) (s x : Operand) (t : TypeId)
    (ho : o.op = .call { callee := .builtin .append, args := #[s, x], argTypes := #[t, t] })
    (base : Nat) (e : TypeId) (i : TypeInfo) (z : Value) (bytes : Nat) (ht : P.underlying t = some (.slice e)) (hi : P.info? e = some i) (hz : i.zero = some z)
    (hsize : i.size = 1) (hby : i.bytes = bytes) (hzs : z.cells.size = 1)
    (v : Value) (n : Nat) (xs : List Value) (hs : a.eval s = v) (hv : v ≠ .slice none 0 0) (hown : w.ownsRow base e 1 v n xs)
    (ad : Addr) (m c : Nat) (news : List Value) (hx : a.eval x = .slice (some ad) m c) (hl : news.length = m) (hnews : ∀ j u, news[j]? = some u → w.cell? (ad.add j) = some u) (h1 : ∀ u ∈ news, u.oneCell' = true)
    (h63 : n + m ≤ maxLen) (hbytes : (n + m) * bytes ≤ 140737488355328) (hbase : base ≤ w.heap.size)
    (h : ∀ g cap w', w'.ownsRow base e 1 (.slice (some ⟨g, 0, none⟩) (n + m) cap) (n + m) (xs ++ news) → w.grownBy w' v.ownBlock → base ≤ g → g < w'.heap.size → n + m ≤ cap → cap ≤ maxLen → K (a.put o.dst (.slice (some ⟨g, 0, none⟩) (n + m) cap)) w') :
    if Region.wanted o (yielded ops a.tmps) = true then Oper.wp P o a w K Q else E := by
  have hw : Region.wanted o (yielded ops a.tmps) = true := by simp [Region.wanted, hgd]
  rw [if_pos hw]
  obtain ⟨v', w', hr, h2, h3, h4, _⟩ := run_append_own_at (P := P) w base t o.type e i z 1 bytes ht hi hz hsize hby hzs (by omega) v n xs hown ad m c news (by omega) hnews h1 h63 hbytes hbase
  obtain ⟨g, cap, rfl, hg, hlt, hnc, hcm⟩ := own_form h2 (fun e => hv (h4.1 e).1)
  unfold Oper.wp execOp
  simp only [ho, resolve, invoke, builtin, Sem.run_bind, Sem.run_pure, Result.andThen_ok, List.map_toArray, List.map_cons, List.map_nil, hs, hx, hr]
  exact h g cap w' h2 h3 hg hlt hnc hcm
theorem own_sooner {w : World} {b b' n : Nat} {e : TypeId} {v : Value} {xs : List Value} (h : w.ownsRow b e 1 v n xs) (hb : b' ≤ b) : w.ownsRow b' e 1 v n xs := by
  refine ⟨h.1, ?_⟩
  rcases h.2 with h1 | ⟨g, cap, cur, rfl, hg, hrest⟩
  · exact .inl h1
  · exact .inr ⟨g, cap, cur, rfl, by omega, hrest⟩
end
/-- The row's numbers from one place on, or up to one: as what is appended. -/
theorem news_at {w w' : World} {B b k n : Nat} {ts zs : List Int} (hc : ∀ j, j < n → w.cell? ⟨b, j, none⟩ = some (.int .i64 (ts[j]?.getD 0))) (hu : Upd (fun k => B ≤ k) w w') (hb : b < B) {ad : Addr}
    (had : ∀ j, j < zs.length → ad.add j = ⟨b, k + j, none⟩) (hz : ∀ j, j < zs.length → zs[j]?.getD 0 = ts[k + j]?.getD 0) (hl : k + zs.length ≤ n) :
    ∀ j u, (zs.map (Value.int .i64))[j]? = some u → w'.cell? (ad.add j) = some u := fun j u hu' => by
  rw [List.getElem?_map] at hu'
  cases hg : zs[j]? with
  | none => rw [hg] at hu'; cases hu'
  | some z =>
    have hj : j < zs.length := (List.getElem?_eq_some_iff.1 hg).1
    rw [hg] at hu'
    simp only [Option.map_some, Option.some.injEq] at hu'
    rw [had j hj, hu.cell (hc (k + j) (by omega)) (by simp; omega), ← hz j hj, hg, ← hu']
    rfl
theorem news_one {w : World} {ad : Addr} {u : Value} (h : w.cell? ad = some u) : ∀ j u', [u][j]? = some u' → w.cell? (ad.add j) = some u' := fun j u' hu => by
  cases j with
  | zero => simp at hu; subst hu; simpa [Addr.add] using h
  | succ j => simp at hu
theorem cell_new_alloc (w : World) (e : TypeId) (u : Value) (o : Obj) : ((w.alloc (.cells #[u] e)).alloc o).cell? ⟨w.heap.size, 0, none⟩ = some u :=
  (World.cell?_of_block (Below.heap_alloc _ _ _ (by simp))).trans (cell_new w e u)
theorem own_new2 (w : World) (o : Obj) (e : TypeId) : ((w.alloc o).alloc (.cells #[] e)).ownsRow w.heap.size e 1 (.slice (some ⟨w.heap.size + 1, 0, none⟩) 0 0) 0 [] := by
  have h := own_new (w.alloc o) e
  rw [World.size_alloc] at h
  exact own_sooner h (by omega)
theorem own_cells {w : World} {base n g cap : Nat} {e : TypeId} {zs : List Int} (h : w.ownsRow base e 1 (.slice (some ⟨g, 0, none⟩) n cap) n (zs.map (Value.int .i64))) :
    zs.length = n ∧ ∀ j, j < n → w.cell? ⟨g, j, none⟩ = some (.int .i64 (zs[j]?.getD 0)) := by
  obtain ⟨A, c, e, hI⟩ := ints_of_own h
  cases e
  refine ⟨hI.len, fun j hj => ?_⟩
  obtain ⟨b, off, e, _, hc⟩ := hI.at_ hj
  cases e
  simpa using hc j hj
theorem own_ge {w : World} {B n : Nat} {e : TypeId} {v : Value} {xs : List Value} (h : w.ownsRow B e 1 v n xs) : ∀ k, v.ownBlock = some k → B ≤ k := own_base h
end Go.Proofs.Ytipdmaggfbfnlaa

/- A range over a function that yields what lies in memory of its own (rows): 'own x' names the blocks of x, 'Has x' how it lies. The contract of such an iterator, and the law for the statement. -/
namespace Go.Proofs.Ytipdmaggfbfnlaa
open Go.RowKit

/-- What is said of x abides the turn of all but x's own blocks. -/
def HasFirm {α : Type} (own : α → Nat → Prop) (Has : α → World → Prop) : Prop := ∀ x W W', Has x W → Upd (fun k => ¬ own x k) W W' → Has x W'

/-- The iterator's contract: lists for which Ok holds; Full tells of the whole. -/
def IterG {α : Type} (P : Program) (g : Nat) (lb : Array Value) (encs : α → Array Value) (own : α → Nat → Prop) (Has : α → World → Prop) (Ok Full : List α → Prop) (M : Nat → Prop) (w : World) : Prop :=
  ∀ (l : Nat) (J Jx : List α → (Nat → Prop) → World → Prop), Firm w.heap.size J → Firm w.heap.size Jx →
    (∀ pre x D W, J pre D W → w.heap.size ≤ W.heap.size → Ok (pre ++ [x]) → Has x W → (∀ k, own x k → w.heap.size ≤ k ∧ k < W.heap.size ∧ ¬ D k) → ∀ m, YieldAt Fence.wide m P l (encs x) W fun e W' =>
      (e = .returned (.bool true) ∧ ∃ D', J (pre ++ [x]) D' W' ∧ Upd (fun k => M k ∨ D k ∨ own x k) W W' ∧ ∀ k, D' k → (D k ∨ own x k) ∨ W.heap.size ≤ k ∧ k < W'.heap.size) ∨
      (e = .returned (.bool false) ∧ ∃ D', Jx (pre ++ [x]) D' W' ∧ Upd (fun k => M k ∨ D k ∨ own x k) W W' ∧ ∀ k, D' k → (D k ∨ own x k) ∨ W.heap.size ≤ k ∧ k < W'.heap.size)) →
    J [] (fun _ => False) w →
    Calls P g (#[.func (.yield l) #[] #[]] ++ lb) w fun e W' => (∃ v, e = .returned v) ∧ ((∃ xs D, Full xs ∧ J xs D W') ∨ ∃ pre D, Ok pre ∧ Jx pre D W')

/-- What a round owes: the assignments, then the body. -/
def RoundOwesG {α : Type} (P : Program) (m B : Nat) (encs : α → Array Value) (own : α → Nat → Prop) (Has : α → World → Prop) (ps : Array Tmp) (tmps : Array Value) (assign body : Code) (Ok : List α → Prop) (M : Nat → Prop) (J : List α → (Nat → Prop) → World → Prop) (Jx : Code → List α → (Nat → Prop) → World → Prop) : Prop :=
  ∀ (l : Nat) (pre : List α) (x : α) (D : Nat → Prop) (W : World), B ≤ l → l < W.heap.size → ¬ D l → ¬ own x l → (∀ k, D k → B ≤ k ∧ k < W.heap.size) → (∀ k, own x k → B ≤ k ∧ k < W.heap.size ∧ ¬ D k) → J pre D W → Has x W → Ok (pre ++ [x]) →
    ∀ K : Act → World → Prop,
      (∀ a' Wa, Upd (fun _ => False) W Wa → (∀ Wb, Upd (fun k => k = l) Wa Wb → (∃ r, Wb.heap[l]? = some (.loop r)) → J pre D Wb → Has x Wb → body.wpIn (Fence.wide.inRound l) m P (roundEnd M J Jx (pre ++ [x]) (fun k => D k ∨ own x k) W.heap.size Wb) a' Wb) → K a' Wa) →
      assign.wpIn (Fence.wide.inRound l) m P (Exit.then K (fun _ _ _ => False)) { tmps := (ps.zip (encs x)).foldl (fun t (p, v) => t.setIfInBounds p v) tmps, defers := [] } W

section
variable {P : Program} {n : Nat}

/-- The invariant of one round alone. -/
def oneJ {α : Type} (own : α → Nat → Prop) (Has : α → World → Prop) (J : List α → (Nat → Prop) → World → Prop) (pre : List α) (x : α) : List Unit → (Nat → Prop) → World → Prop
  | [], D, W => ∃ D0, D = (fun k => D0 k ∨ own x k) ∧ (∀ k, own x k → ¬ D0 k) ∧ J pre D0 W ∧ Has x W
  | [_], D, W => J (pre ++ [x]) D W
  | _, _, _ => False
theorem oneJ_firm {α : Type} {own : α → Nat → Prop} {Has : α → World → Prop} {J : List α → (Nat → Prop) → World → Prop} {pre : List α} {x : α} {B : Nat} (hH : HasFirm own Has) (hJ : Firm B J) : Firm B (oneJ own Has J pre x) := by
  intro s D W W' hs hu
  match s, hs with
  | [], hs =>
    obtain ⟨D0, rfl, h0, hj, hh⟩ := hs
    exact ⟨D0, rfl, h0, hJ _ _ _ _ hj (hu.mono fun k _ e => ⟨e.1, fun e2 => e.2 (.inl e2)⟩), hH _ _ _ hh (hu.mono fun k _ e e2 => e.2 (.inr e2))⟩
  | [_], hs => exact hJ _ _ _ _ hs hu

theorem round_ofG {α : Type} {l B B1 : Nat} {rec : LoopState → Option Code → Loop} {M : Nat → Prop} {encs : α → Array Value} {own : α → Nat → Prop} {Has : α → World → Prop} {ps : Array Tmp} {tmps : Array Value} {assign body : Code} {fn : Nat} {Ok : List α → Prop}
    {J : List α → (Nat → Prop) → World → Prop} {Jx : Code → List α → (Nat → Prop) → World → Prop} {rest : World → Prop}
    (hrec : ∀ st pe, (rec st pe).state = st ∧ (rec st pe).params = ps ∧ (rec st pe).fn = fn ∧ (rec st pe).tmps = tmps ∧ (rec st pe).assign = assign ∧ (rec st pe).body = body ∧ ∀ st' pe', { rec st pe with state := st', pending := pe' } = rec st' pe')
    (hrec2 : ∀ st pe st', { rec st pe with state := st' } = rec st' pe)
    (hps : ∀ x, (encs x).size = ps.size) (hH : HasFirm own Has) (hJ : Firm B J) (hJx : ∀ c, Firm B (Jx c)) (hl : B ≤ l) (hl1 : l < B1) (hM : ∀ k, M k → k < B)
    (hrest : ∀ W W', rest W → Upd (fun k => M k ∨ B1 ≤ k ∨ k = l) W W' → rest W')
    (howes : RoundOwesG P n B encs own Has ps tmps assign body Ok M J Jx)
    {pre : List α} {x : α} {D : Nat → Prop} {W : World} (hj : J pre D W) (hh : Has x W) (hlw : W.heap[l]? = some (.loop (rec .ready none))) (hD : ∀ k, D k → B1 ≤ k ∧ k < W.heap.size) (hO : ∀ k, own x k → B1 ≤ k ∧ k < W.heap.size ∧ ¬ D k) (hr : rest W) (hB1 : B1 ≤ W.heap.size) (hpre : Ok (pre ++ [x])) (m : Nat) :
    YieldAt Fence.wide m P l (encs x) W fun e W' =>
      (e = .returned (.bool true) ∧ ∃ D', (J (pre ++ [x]) D' W' ∧ W'.heap[l]? = some (.loop (rec .ready none)) ∧ (∀ k, D' k → B1 ≤ k ∧ k < W'.heap.size) ∧ rest W') ∧ Upd (fun k => M k ∨ k = l ∨ D k ∨ own x k) W W' ∧ ∀ k, D' k → (D k ∨ own x k) ∨ W.heap.size ≤ k ∧ k < W'.heap.size) ∨
      (e = .returned (.bool false) ∧ ∃ D', (∃ c, Jx c (pre ++ [x]) D' W' ∧ W'.heap[l]? = some (.loop (rec .done (some c))) ∧ (∀ k, D' k → B1 ≤ k ∧ k < W'.heap.size) ∧ rest W') ∧ Upd (fun k => M k ∨ k = l ∨ D k ∨ own x k) W W' ∧ ∀ k, D' k → (D k ∨ own x k) ∨ W.heap.size ≤ k ∧ k < W'.heap.size) := by
  have h := round_of (P := P) (n := n) (α := Unit) (l := l) (B := B) (B1 := B1) (rec := rec) (M := M) (encs := fun _ => encs x) (ps := ps) (tmps := tmps) (assign := assign) (body := body) (fn := fn) (L := [()])
    (J := oneJ own Has J pre x) (Jx := fun c _ D W => Jx c (pre ++ [x]) D W) (rest := rest) hrec hrec2 (fun _ => hps x) (oneJ_firm hH hJ) (fun c s D W W' hs hu => hJx c _ _ _ _ hs hu) hl hl1 hM hrest
    (by
      intro l' pre' x' D' W' h1 h2 h3 h4 hj' hp' K hK
      obtain rfl : pre' = [] := by
        have := hp'.length_le
        simp at this
        exact this
      obtain ⟨D0, rfl, h0, hj0, hh0⟩ := hj'
      refine howes l' pre x D0 W' h1 h2 (fun e => h3 (.inl e)) (fun e => h3 (.inr e)) (fun k hk => h4 k (.inl hk)) (fun k hk => ⟨(h4 k (.inr hk)).1, (h4 k (.inr hk)).2, h0 k hk⟩) hj0 hh0 hpre K ?_
      intro a' Wa hua hbody
      refine hK a' Wa hua ?_
      intro Wb hub hlb hjb
      obtain ⟨D1, e1, h1', hj1, hh1⟩ := hjb
      refine wpIn_mono (hbody Wb hub hlb (hJ _ _ _ _ (hJ _ _ _ _ hj0 (hua.mono fun _ _ e => e.elim)) (hub.mono fun k _ e => by rw [e]; exact ⟨h1, fun e2 => h3 (.inl e2)⟩)) hh1) ?_
      intro e a3 W3 hp
      cases e <;> exact hp)
    (pre := []) (x := ()) (D := fun k => D k ∨ own x k) (W := W) ⟨D, rfl, fun k hk => (hO k hk).2.2, hj, hh⟩ hlw (fun k hk => hk.elim (hD k) (fun e => ⟨(hO k e).1, (hO k e).2.1⟩)) hr hB1 (List.prefix_refl _) m
  obtain ⟨fn', tm, asg, bo, hy, hR⟩ := h
  exact ⟨fn', tm, asg, bo, hy, hR.mono fun e W' hp => hp⟩

/-- The statement, outside of any round. -/
theorem range_outG {α : Type} {g : Operand} {ps : Array Tmp} {assign body : Code} {Q : Exit → Act → World → Prop} {a : Act} {w : World} {gf : Nat} {lb : Array Value}
    (hg : a.eval g = .func (.func gf) #[] lb) (eg : ∀ args w, (callFunc gf args).run P w = .ok (.enter gf args) w)
    {encs : α → Array Value} {own : α → Nat → Prop} {Has : α → World → Prop} (hH : HasFirm own Has) {Ok Full : List α → Prop} (M : Nat → Prop) (hM : ∀ k, M k → k < w.heap.size) (hps : ∀ x, (encs x).size = ps.size)
    (hseq : ∀ W1 l, Upd (fun _ => False) w W1 → w.heap.size ≤ l → l < W1.heap.size → IterG P gf lb encs own Has Ok Full (fun k => M k ∨ k = l) W1)
    (J : List α → (Nat → Prop) → World → Prop) (Jx : Code → List α → (Nat → Prop) → World → Prop) (hJ : Firm w.heap.size J) (hJx : ∀ c, Firm w.heap.size (Jx c)) (h0 : J [] (fun _ => False) w)
    (howes : RoundOwesG P (n - 1 - 1) w.heap.size encs own Has ps a.tmps assign body Ok M J Jx)
    (hdone : ∀ (d : Nat) (D : Nat → Prop) (L : List α) (W : World), w.heap.size ≤ d → Full L → J L D W → (∀ k, D k → d < k ∧ k < W.heap.size) → W.heap[d]? = some (.deferred (some [])) → Q .normal { a with defers := { target := .collected d, args := #[] } :: a.defers } W)
    (hstop : ∀ (d : Nat) (D : Nat → Prop) (c : Code) (pre : List α) (W : World), w.heap.size ≤ d → Ok pre → Jx c pre D W → (∀ k, D k → d < k ∧ k < W.heap.size) → W.heap[d]? = some (.deferred (some [])) → c.wpIn Fence.wide n P Q { a with defers := { target := .collected d, args := #[] } :: a.defers } W) :
    (Code.rangeFunc g ps assign body).wpIn Fence.wide n P Q a w := by
  refine wpIn_rangeFunc ?_
  intro fn hfn
  obtain ⟨rec, hrec⟩ : ∃ rec : LoopState → Option Code → Loop, rec = fun st pe => { state := st, pending := pe, fn, tmps := a.tmps, params := ps, assign, body, defers := w.heap.size } := ⟨_, rfl⟩
  obtain ⟨W1, hW1⟩ : ∃ W1, (w.alloc (.deferred (some []))).alloc (.loop (rec .ready none)) = W1 := ⟨_, rfl⟩
  have hL1 : W1.heap[w.heap.size + 1]? = some (.loop (rec .ready none)) := by
    rw [← hW1]; have := World.alloc_heap_new (w.alloc (.deferred (some []))) (.loop (rec .ready none)); rwa [World.size_alloc] at this
  have hK1 : W1.heap[w.heap.size]? = some (.deferred (some [])) := by
    rw [← hW1]; exact (Below.heap_alloc _ _ _ (by simp)).trans (World.alloc_heap_new w _)
  have hz1 : W1.heap.size = w.heap.size + 2 := by rw [← hW1]; simp
  have hu1 : Upd (fun _ => False) w W1 := by rw [← hW1]; exact ((Upd.refl _ w).alloc _).alloc _
  have hI1 : J [] (fun _ => False) W1 := hJ _ _ _ _ h0 (hu1.mono fun _ _ e => e.elim)
  have hi := hseq W1 (w.heap.size + 1) hu1 (by omega) (by omega)
  refine ⟨w.heap.size + 1, [{ target := .collected w.heap.size, args := #[] }], W1, { target := .fn (.func gf) lb, args := #[.func (.yield (w.heap.size + 1)) #[] #[]] }, W1, gf,
    #[.func (.yield (w.heap.size + 1)) #[] #[]] ++ lb, W1, ?_, ?_, ?_, ?_, (fun h => by cases h), ?_⟩
  · rw [← hW1, hrec]; exact run_enterLoop_outer _ _ _ _ _
  · simp only [resolve, hg]
    simp [go_sem]
  · intro f' hf'; trivial
  · simp [invoke, go_sem, eg]
  · refine callsIn_wide.2 ((hi (w.heap.size + 1)
      (fun pre D W => J pre D W ∧ W.heap[w.heap.size + 1]? = some (.loop (rec .ready none)) ∧ (∀ k, D k → W1.heap.size ≤ k ∧ k < W.heap.size) ∧ W.heap[w.heap.size]? = some (.deferred (some [])))
      (fun pre D W => ∃ c, Jx c pre D W ∧ W.heap[w.heap.size + 1]? = some (.loop (rec .done (some c))) ∧ (∀ k, D k → W1.heap.size ≤ k ∧ k < W.heap.size) ∧ W.heap[w.heap.size]? = some (.deferred (some [])))
      ?_ ?_ ?_ ⟨hI1, hL1, fun _ e => e.elim, hK1⟩).mono ?_)
    · rintro s D X Y ⟨hj, hl, hD, hk⟩ hu
      exact ⟨hJ _ _ _ _ hj (hu.mono fun k _ e => ⟨by omega, e.2⟩), (hu.block _ (Array.getElem?_eq_some_iff.1 hl).1 (fun e => by omega)).trans hl, (fun k hk => by have := hD k hk; have := hu.size; omega), (hu.block _ (Array.getElem?_eq_some_iff.1 hk).1 (fun e => by omega)).trans hk⟩
    · rintro s D X Y ⟨c, hj, hl, hD, hk⟩ hu
      exact ⟨c, hJx _ _ _ _ _ hj (hu.mono fun k _ e => ⟨by omega, e.2⟩), (hu.block _ (Array.getElem?_eq_some_iff.1 hl).1 (fun e => by omega)).trans hl, (fun k hk => by have := hD k hk; have := hu.size; omega), (hu.block _ (Array.getElem?_eq_some_iff.1 hk).1 (fun e => by omega)).trans hk⟩
    · rintro pre x D W ⟨hj, hl, hD, hk⟩ hsz hpre hh hO m
      obtain ⟨fn', tm, asg, bo, hy, hR⟩ := round_ofG (P := P) (n := n - 1 - 1) (l := w.heap.size + 1) (B := w.heap.size) (B1 := W1.heap.size) (rec := rec) (M := M) (fn := fn) (encs := encs) (own := own) (Has := Has) (ps := ps) (tmps := a.tmps) (assign := assign) (body := body) (Ok := Ok) (J := J) (Jx := Jx)
        (rest := fun W => W.heap[w.heap.size]? = some (.deferred (some [])))
        (by rw [hrec]; exact fun st pe => ⟨rfl, rfl, rfl, rfl, rfl, rfl, fun _ _ => rfl⟩) (by rw [hrec]; exact fun _ _ _ => rfl) hps hH hJ hJx (by omega) (by omega) hM
        (fun X Y h hu => (hu.block _ (Array.getElem?_eq_some_iff.1 h).1 (fun e => by
          rcases e with e | e | e
          · have := hM _ e; omega
          · omega
          · omega)).trans h) howes hj hh hl hD hO hk hsz hpre m
      refine ⟨fn', tm, asg, bo, hy, hR.mono ?_⟩
      rintro e W' (⟨he, D', ⟨h1, h2, h3, h4⟩, hu, hD'⟩ | ⟨he, D', ⟨c, h1, h2, h3, h4⟩, hu, hD'⟩)
      · exact .inl ⟨he, D', ⟨h1, h2, h3, h4⟩, hu.mono fun k _ e => by rcases e with e | e | e | e <;> simp [e], hD'⟩
      · exact .inr ⟨he, D', ⟨c, h1, h2, h3, h4⟩, hu.mono fun k _ e => by rcases e with e | e | e | e <;> simp [e], hD'⟩
    · rintro e W2 ⟨⟨v, rfl⟩, (⟨L, D, hf, hj, hl, hD, hk⟩ | ⟨pre, D, hpre, c, hj, hl, hD, hk⟩)⟩
      · have hDl : ¬ D (w.heap.size + 1) := fun e => by have := hD _ e; omega
        exact ⟨none, _, by have := run_endLoop (P := P) hl (by rw [hrec]; simp); rw [hrec] at this; exact this,
          hdone _ D L _ (Nat.le_refl _) hf (hJ _ _ _ _ hj ((Upd.refl (fun k => w.heap.size ≤ k ∧ ¬ D k) _).putObj (.inr ⟨by omega, hDl⟩) _)) (fun k hk => by have := hD k hk; simp; omega) ((World.putObj_heap_other (by omega)).trans hk)⟩
      · have hDl : ¬ D (w.heap.size + 1) := fun e => by have := hD _ e; omega
        exact ⟨some c, _, by have := run_endLoop (P := P) hl (by rw [hrec]; simp); rw [hrec] at this; exact this,
          hstop _ D c pre _ (Nat.le_refl _) hpre (hJx _ _ _ _ _ hj ((Upd.refl (fun k => w.heap.size ≤ k ∧ ¬ D k) _).putObj (.inr ⟨by omega, hDl⟩) _)) (fun k hk => by have := hD k hk; simp; omega) ((World.putObj_heap_other (by omega)).trans hk)⟩
end
end Go.Proofs.Ytipdmaggfbfnlaa

/- What the own laws of lines ask of the mathematics, put together. No program. -/
namespace Go.Proofs.Ytipdmaggfbfnlaa

theorem next_some {zs : List Int} (h : VoP zs) {s : Nat} (hs : s < 2 ^ zs.length) (h0 : s ≠ 0) : nextL zs s ≠ [] := by
  intro e
  have hn6 := h.1
  have hp64 := pow_le64 hn6
  have hpi : powI (zs.length : Int) = ((2 ^ zs.length : Nat) : Int) := by simp [powI]
  have hd := du_vo h
  have ht := tops_none (zs := du zs) (s := (s : Int)) hd (by omega) (by rw [du_len, hpi]; omega)
  rw [du_len] at ht
  have hT := topsTo_bd (du zs) (s : Int) zs.length
  have hz : topsTo (du zs) (s : Int) zs.length = 0 := by
    refine bitB_ext hT.1 (Int.le_refl _) fun j => ?_
    rw [bitB_zero]
    cases hb : bitB (topsTo (du zs) (s : Int) zs.length) j
    · rfl
    · have hj := bitB_lt hT.2 hb
      have : j ∈ nextL zs s := by
        rw [nextL_is h, List.mem_filter, List.mem_range]
        refine ⟨hj, ?_⟩
        rw [topsTo_bit] at hb
        obtain ⟨_, b1, b2⟩ := hb
        rw [bit_cast] at b1
        unfold eF
        rw [b1, b2]; rfl
      rw [e] at this; cases this
  rw [hz] at ht
  have h1 : ((s : Int) == 0) = false := by simpa using h0
  rw [h1] at ht
  cases ht
theorem cF_ge1 {zs : List Int} (h : VoP zs) : ∀ (k s : Nat), s ≤ k → s < 2 ^ zs.length → 1 ≤ cF zs s
  | 0, s, hk, _ => by
    obtain rfl : s = 0 := by omega
    rw [cF_zero]; exact Nat.le_refl _
  | k + 1, s, hk, hs => by
    by_cases h0 : s = 0
    · subst h0; rw [cF_zero]; exact Nat.le_refl _
    · rw [← accF_all h h0]
      have hne := next_some h hs h0
      unfold accF
      cases hL : nextL zs s with
      | nil => exact absurd hL hne
      | cons x l =>
        have hlt := sub_lt (a := x) h0
        have ih := cF_ge1 h k (s - 2 ^ x) (by omega) (by omega)
        rw [List.map_cons, List.sum_cons]
        omega
theorem lines_facts {zs : List Int} (h : VoP zs) : ∃ F : Nat, 1 ≤ F ∧ F ≤ 46656 ∧ linesR zs = (F : Int) ∧ linesR (du zs) = (F : Int) ∧ hasAt zs ((F : Int) - 1) = true ∧ hasAt zs (F : Int) = false := by
  have hp := Nat.two_pow_pos zs.length
  have hv : vo zs = true := by simpa [vo] using h
  have hv2 : vo (du zs) = true := by simpa [vo] using du_vo h
  have hF := cF_le h (s := 2 ^ zs.length - 1) (by omega)
  have h1 := cF_ge1 h _ (2 ^ zs.length - 1) (Nat.le_refl _) (by omega)
  have h2 := count_du h
  have h3 := count_both h
  have h4 := count_both (du_vo h)
  rw [du_len] at h4
  obtain ⟨F, hFF⟩ : ∃ F, cF zs (2 ^ zs.length - 1) = F := ⟨_, rfl⟩
  rw [hFF] at hF h1 h2 h3
  refine ⟨F, h1, hF, ?_, ?_, ?_, ?_⟩
  · unfold linesR; rw [hv, if_pos rfl, h3]
  · unfold linesR; rw [hv2, if_pos rfl, du_len, h4, h2]
  · unfold hasAt; rw [hv, hFF, decide_eq_true (show (0 : Int) ≤ (F : Int) - 1 by omega), decide_eq_true (show (F : Int) - 1 < (F : Int) by omega)]; rfl
  · unfold hasAt; rw [hFF, decide_eq_false (show ¬ (F : Int) < (F : Int) by omega)]; simp
theorem atR_few (zs : List Int) (r : Int) : (atR zs r).length ≤ 6 := by
  unfold atR
  cases hh : hasAt zs r
  · simp
  · unfold hasAt at hh
    rw [Bool.and_eq_true] at hh
    have hvo : VoP zs := by simpa [vo] using hh.1
    have := hvo.1
    rw [if_pos rfl, atL_len]; omega
theorem at_facts {zs : List Int} {r : Int} (hh : hasAt zs r = true) : isLineR zs (atR zs r) = true ∧ rankR zs (atR zs r) = r := by
  have hA : atR zs r = atL zs r.toNat zs.length := by unfold atR; rw [hh]; rfl
  unfold hasAt at hh
  rw [Bool.and_eq_true, Bool.and_eq_true, decide_eq_true_eq, decide_eq_true_eq] at hh
  have hvo : VoP zs := by simpa [vo] using hh.1
  obtain ⟨h1, h2⟩ := rank_at hvo (r := r.toNat) (by omega)
  have hI : isLineR zs (atR zs r) = true := by unfold isLineR; rw [hA, hh.1, h1]; rfl
  refine ⟨hI, ?_⟩
  unfold rankR
  rw [hI, if_pos rfl, hA, atL_len, h2]
  omega
theorem rank_facts {zs ls : List Int} (h : isLineR zs ls = true) : ∃ Q F : Nat, Q < F ∧ F ≤ 46656 ∧ rankR zs ls = (Q : Int) ∧ linesR zs = (F : Int) ∧ hasAt zs (Q : Int) = true ∧ atR zs (Q : Int) = ls ∧ ls.length ≤ 6 := by
  have h' := h
  unfold isLineR at h
  rw [Bool.and_eq_true] at h
  have hvo : VoP zs := by simpa [vo] using h.1
  have hp := Nat.two_pow_pos zs.length
  have hF := cF_le hvo (s := 2 ^ zs.length - 1) (by omega)
  obtain ⟨h1, h2⟩ := at_rank hvo h.2
  have hlen := (line_steps h.2).1
  have hn6 := hvo.1
  have hH : hasAt zs (rkUp zs ls zs.length : Int) = true := by
    unfold hasAt; rw [h.1, decide_eq_true (show (0 : Int) ≤ (rkUp zs ls zs.length : Int) by omega), decide_eq_true (show (rkUp zs ls zs.length : Int) < (cF zs (2 ^ zs.length - 1) : Int) by omega)]; rfl
  refine ⟨rkUp zs ls zs.length, cF zs (2 ^ zs.length - 1), h1, hF, ?_, ?_, hH, ?_, by omega⟩
  · unfold rankR; rw [h', if_pos rfl, hlen]
  · unfold linesR; rw [h.1, if_pos rfl, count_both hvo]
  · unfold atR; rw [hH, if_pos rfl, Int.toNat_natCast]; exact h2
theorem back_fact {zs ls : List Int} (h : isLineR zs ls = true) : isLineR (du zs) ls.reverse = true := by
  unfold isLineR at h ⊢
  rw [Bool.and_eq_true] at h
  have hvo : VoP zs := by simpa [vo] using h.1
  rw [line_back hvo h.2, show vo (du zs) = true by simpa [vo] using du_vo hvo]; rfl
theorem dual_fact {zs ls : List Int} (h : isLineR zs ls = true) : dualR zs = du zs := by
  unfold isLineR at h
  rw [Bool.and_eq_true] at h
  unfold dualR
  rw [h.1]; rfl
end Go.Proofs.Ytipdmaggfbfnlaa

/- All lines as the program tells them: what is left, and which item is next. No program. -/
namespace Go.Proofs.Ytipdmaggfbfnlaa

/-- What is lined up (s), and what is left, of which there are k. -/
structure Lft (n : Nat) (s left : Int) (k : Nat) : Prop where
  s0 : 0 ≤ s
  s1 : s < powI n
  l0 : 0 ≤ left
  l1 : left < powI n
  bit : ∀ j : Nat, bitB left j = (decide (j < n) && !bitB s j)
  pop : popI left = k
theorem pop_all_fin : ∀ n : Fin 7, popI (powI (n.val : Int) - 1) = (n.val : Int) := by decide +kernel
theorem pop_less1_fin : ∀ s : Fin 64, ∀ a : Fin 6, bitB (s.val : Int) (a.val : Int) = true → popI (lessI (s.val : Int) (powI (a.val : Int))) = popI (s.val : Int) - 1 := by decide +kernel
theorem pop_zero_fin : ∀ s : Fin 64, popI (s.val : Int) = 0 ↔ (s.val : Int) = 0 := by decide +kernel
theorem lft_start {n : Nat} (hn : n ≤ 6) : Lft n 0 (powI n - 1) n := by
  have hp := powI_pos (n : Int)
  refine ⟨by omega, hp, by omega, by omega, fun j => ?_, pop_all_fin ⟨n, by omega⟩⟩
  rw [all_bits, bitB_zero]
  simp
theorem lft_zero {n k : Nat} {s left : Int} (hn : n ≤ 6) (h : Lft n s left k) : left = 0 ↔ k = 0 := by
  have hp := powI_le6 (n := (n : Int)) (by omega)
  have h1 := h.l1
  have h2 := h.pop
  obtain ⟨t, rfl⟩ := Int.eq_ofNat_of_zero_le h.l0
  have := pop_zero_fin ⟨t, by omega⟩
  simp only at this
  rw [← this, h2]
  omega
theorem lft_step {zs : List Int} {n k a : Nat} {s left : Int} (hlen : zs.length = n) (hn : n ≤ 6) (h : Lft n s left (k + 1)) (ha : a < n) (hs : stA2 zs s a = true) : Lft n (orI s (powI a)) (lessI left (powI a)) k := by
  have hp := powI_le6 (n := (n : Int)) (by omega)
  have hpa : powI (a : Int) < powI (n : Int) := powI_lt (by omega)
  have hp0 := powI_pos (a : Int)
  have ho := orI_bd h.s0 h.s1 (by omega) hpa
  have hl := lessI_bd left (powI a)
  have h0 := h.l0
  have h1 := h.l1
  have hsa : bitB s (a : Int) = false := by
    unfold stA2 at hs
    rw [Bool.and_eq_true, Bool.and_eq_true] at hs
    simpa using hs.2.1
  have hba : bitB left (a : Int) = true := by rw [h.bit a, hsa]; simp [ha]
  refine ⟨ho.1, ho.2, hl.1, by omega, fun j => ?_, ?_⟩
  · rw [bitB_less, bitB_or, bitB_pow, h.bit j]
    cases decide (j < n) <;> cases bitB s j <;> cases decide (a = j) <;> rfl
  · obtain ⟨t, ht⟩ := Int.eq_ofNat_of_zero_le h0
    have h2 := h.pop
    subst ht
    have := pop_less1_fin ⟨t, by omega⟩ ⟨a, by omega⟩ hba
    simp only at this
    rw [this, h2]
    omega
theorem next_bit {zs : List Int} {n k a : Nat} {s left : Int} (hvo : VoP zs) (hlen : zs.length = n) (h : Lft n s left k) (ha : a < n) : bitB (topsTo (du zs) left n) (a : Int) = stA2 zs s a := by
  have hds := (du_sets hvo.sets).2 a (by rw [du_len, hlen]; exact ha)
  rw [du_len, hlen] at hds
  have hl := h.bit a
  have hin : inB (a : Int) 0 ((zs.length : Int) - 1) = true := by simp [inB]; omega
  have key : bitB (topsTo (du zs) left n) (a : Int) = true ↔ stA2 zs s a = true := by
    rw [topsTo_bit]
    unfold stA2
    rw [hin, hl, Bool.true_and, Int.toNat_natCast]
    simp only [Bool.and_eq_true]
    have e2 : andI ((du zs)[a]?.getD 0) left = 0 ↔ (lessI ((du zs)[a]?.getD 0) s == 0) = true := by
      rw [beq_iff_eq, andI_zero]
      constructor
      · intro e
        refine bitB_ext (lessI_bd _ _).1 (Int.le_refl _) fun j => ?_
        rw [bitB_less, bitB_zero]
        cases e1 : bitB ((du zs)[a]?.getD 0) j
        · rfl
        · cases e3 : bitB s j
          · have hj := bitB_lt hds.2 e1
            have := e j (by rw [h.bit j, e3]; simp [hj])
            rw [e1] at this; cases this
          · rfl
      · intro e j hj
        rw [h.bit j, Bool.and_eq_true] at hj
        cases e1 : bitB ((du zs)[a]?.getD 0) j
        · rfl
        · have := bitB_less ((du zs)[a]?.getD 0) s j
          rw [e, bitB_zero, e1] at this
          simp at this hj
          rw [this] at hj
          simp at hj
    constructor
    · rintro ⟨_, h1, h2⟩
      exact ⟨h1.2, e2.1 h2⟩
    · rintro ⟨h1, h2⟩
      exact ⟨ha, ⟨by simpa using ha, h1⟩, e2.2 h2⟩
  cases e1 : bitB (topsTo (du zs) left n) (a : Int) <;> cases e2 : stA2 zs s a <;> simp_all
theorem filter_more {p : Nat → Bool} {n : Nat} (h : ∀ a, n ≤ a → p a = false) : ∀ d : Nat, (List.range (n + d)).filter p = (List.range n).filter p
  | 0 => rfl
  | d + 1 => by
    rw [← Nat.add_assoc, List.range_succ, List.filter_append, filter_more h d]
    simp [h (n + d) (by omega)]
/-- The items that may be next, as both sides find them. -/
def nxA (zs : List Int) (s : Int) : List Nat := (List.range zs.length).filter fun a => stA2 zs s a
theorem next_items {zs : List Int} {n k : Nat} {s left : Int} (hvo : VoP zs) (hlen : zs.length = n) (hn : n ≤ 6) (h : Lft n s left k) : itemsL (topsTo (du zs) left n) = nxA zs s := by
  unfold itemsL itemsTo nxA
  have h1 := filter_more (p := fun a => bitB (topsTo (du zs) left n) (a : Int)) (n := n) (fun a ha => by
    cases e : bitB (topsTo (du zs) left n) (a : Int)
    · rfl
    · have := ((topsTo_bit a n).1 e).1; omega) (6 - n)
  rw [show n + (6 - n) = 6 by omega] at h1
  rw [h1, hlen]
  exact List.filter_congr fun a ha => next_bit hvo hlen h (List.mem_range.1 ha)
theorem flat_if {α : Type} (p : Nat → Bool) (f : Nat → List α) : ∀ l : List Nat, (l.flatMap fun a => if p a then f a else []) = (l.filter p).flatMap f
  | [] => rfl
  | a :: l => by
    rw [List.flatMap_cons, List.filter_cons, flat_if p f l]
    cases p a
    · simp
    · simp [List.flatMap_cons]
/-- The lines behind the items of xs, one after the other. -/
def alX (zs : List Int) (k : Nat) (so : List Int) (s : Int) (xs : List Nat) : List (List Int) := xs.flatMap fun a : Nat => alG zs k (so ++ [(a : Int)]) (orI s (powI a))
theorem alX_nil (zs : List Int) (k : Nat) (so : List Int) (s : Int) : alX zs k so s [] = [] := rfl
theorem alX_snoc (zs : List Int) (k : Nat) (so : List Int) (s : Int) (xs : List Nat) (a : Nat) : alX zs k so s (xs ++ [a]) = alX zs k so s xs ++ alG zs k (so ++ [(a : Int)]) (orI s (powI a)) := by
  unfold alX; rw [List.flatMap_append]; simp
theorem alX_all (zs : List Int) (k : Nat) (so : List Int) (s : Int) : alX zs k so s (nxA zs s) = alG zs (k + 1) so s := by
  unfold alX nxA
  rw [alG, flat_if]
theorem alX_pre (zs : List Int) (k : Nat) (so : List Int) (s : Int) {xs : List Nat} (h : xs <+: nxA zs s) : alX zs k so s xs <+: alG zs (k + 1) so s := by
  obtain ⟨t, e⟩ := h
  rw [← alX_all, ← e]
  unfold alX
  rw [List.flatMap_append]
  exact List.prefix_append _ _
theorem nxA_mem {zs : List Int} {s : Int} {a : Nat} (h : a ∈ nxA zs s) : a < zs.length ∧ stA2 zs s a = true := by
  unfold nxA at h
  rw [List.mem_filter, List.mem_range] at h
  exact h
theorem alG_len (zs : List Int) : ∀ (k : Nat) (so : List Int) (s : Int) (l : List Int), l ∈ alG zs k so s → l.length = so.length + k := by
  intro k so s l h
  obtain ⟨t, h1, rfl, _⟩ := (alG_mem zs k so s l).1 h
  rw [List.length_append, h1]
end Go.Proofs.Ytipdmaggfbfnlaa

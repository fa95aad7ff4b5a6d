/- Texts that several claims share, one behind the other. -/
import Derived.Test.YtbhnkjclemeolaaGb
import Derived.Test.YtbhnkjclemeolaaGa
import Derived.OrdersHeld
import Derived.Deep.RegionHeld3
set_option linter.unusedVariables false
set_option linter.unusedSimpArgs false
/- A line backwards is one of the order turned round, as plain mathematics. No program. -/
namespace Go.Proofs.Ytbhnkjclemeolaa

section
variable {zs ls : List Int}
theorem add_bit {s a j : Nat} (hs : s < 64) (ha : a < 6) (hb : s.testBit a = false) (h64 : s + 2 ^ a < 64) : (s + 2 ^ a).testBit j = (s.testBit j || decide (a = j)) := by
  rcases Nat.lt_or_ge j 6 with hj | hj
  · exact add_bit_fin ⟨s, hs⟩ ⟨a, ha⟩ ⟨j, hj⟩ hb
  · have h6 : ∀ t : Nat, t < 64 → t.testBit j = false := fun t ht => Nat.testBit_lt_two_pow (Nat.lt_of_lt_of_le (show t < 2 ^ 6 by omega) (Nat.pow_le_pow_right (by decide) hj))
    rw [h6 _ h64, h6 _ hs, decide_eq_false (by omega)]; rfl
theorem line_add (hv : VoP zs) (hs : ∀ k, k < zs.length → stepOk zs ls k = true) {k : Nat} (hk : k < zs.length) (j : Nat) : (dN ls (k + 1)).testBit j = ((dN ls k).testBit j || decide (itN ls k = j)) := by
  have hn6 := hv.1
  have hp64 := pow_le64 hn6
  have hok : ∀ i, i < k → stepOk zs ls i = true := fun i hi => hs i (by omega)
  have h1 := (d_is hok).2
  have h2 := (d_is (zs := zs) (ls := ls) (k := k + 1) fun i hi => hs i (by omega)).2
  have h3 := (it_is (hs k hk)).2
  have e := d_succ hv hok (hs k hk)
  rw [e] at h2 ⊢
  exact add_bit (by omega) (by omega) (d_new hok (hs k hk)) (by omega)
theorem line_ideal (hv : VoP zs) (hs : ∀ k, k < zs.length → stepOk zs ls k = true) : ∀ k : Nat, k ≤ zs.length → Ideal zs (dN ls k)
  | 0, _ => fun a b hb _ => by
    have e : dN ls 0 = 0 := rfl
    rw [e, Nat.zero_testBit] at hb; cases hb
  | k + 1, hk => fun a b hb hd => by
    rw [line_add hv hs hk] at hb ⊢
    rcases Bool.or_eq_true _ _ ▸ hb with h | h
    · rw [line_ideal hv hs k (by omega) a b h hd]; rfl
    · have hx := of_decide_eq_true h
      subst hx
      have h2 := (nextE_new (line_next hv hs (show k < zs.length from hk))).2
      rw [beq_iff_eq, less_zero] at h2
      rw [h2 a hd]; rfl
theorem back_at (hl : ls.length = zs.length) {k : Nat} (hk : k < zs.length) : ls.reverse[k]?.getD 0 = ls[zs.length - 1 - k]?.getD 0 := by
  rw [List.getElem?_reverse (by omega), hl]
theorem back_done (hv : VoP zs) (hl : ls.length = zs.length) (hs : ∀ k, k < zs.length → stepOk zs ls k = true) : ∀ k : Nat, k ≤ zs.length → doneTo ls.reverse k = ((2 ^ zs.length - 1 - dN ls (zs.length - k) : Nat) : Int)
  | 0, _ => by rw [Nat.sub_zero, line_full hv hs]; rfl
  | k + 1, hk => by
    have hn6 := hv.1
    have hp64 := pow_le64 hn6
    have ih := back_done hv hl hs k (by omega)
    have hm : zs.length - 1 - k < zs.length := by omega
    have e1 : zs.length - k = zs.length - 1 - k + 1 := by omega
    have e2 : zs.length - (k + 1) = zs.length - 1 - k := by omega
    have hok : ∀ i, i < zs.length - 1 - k → stepOk zs ls i = true := fun i hi => hs i (by omega)
    have h2 := (d_is (zs := zs) (ls := ls) (k := zs.length - 1 - k + 1) fun i hi => hs i (by omega)).2
    have e3 := d_succ hv hok (hs _ hm)
    have h3 := it_is (hs _ hm)
    have hb : (2 ^ zs.length - 1 - dN ls (zs.length - 1 - k + 1)).testBit (itN ls (zs.length - 1 - k)) = false := by
      rw [com_bit hn6 h2 (by omega), line_add hv hs hm]; simp
    unfold doneTo
    rw [ih, e1, e2, back_at hl (show k < zs.length from hk), h3.1, or_is (by omega) (by omega) hb]
    have hpx := Nat.two_pow_pos (itN ls (zs.length - 1 - k))
    congr 1
    omega
theorem back_step (hv : VoP zs) (hl : ls.length = zs.length) (hs : ∀ k, k < zs.length → stepOk zs ls k = true) {k : Nat} (hk : k < zs.length) : stepOk (du zs) ls.reverse k = true := by
  have hn6 := hv.1
  have hp64 := pow_le64 hn6
  have hm : zs.length - 1 - k < zs.length := by omega
  have e1 : zs.length - k = zs.length - 1 - k + 1 := by omega
  have hok : ∀ i, i < zs.length - 1 - k → stepOk zs ls i = true := fun i hi => hs i (by omega)
  have h2 := (d_is (zs := zs) (ls := ls) (k := zs.length - 1 - k + 1) fun i hi => hs i (by omega)).2
  have h3 := it_is (hs _ hm)
  have hnw := d_new hok (hs _ hm)
  have hI := line_ideal hv hs (zs.length - 1 - k) (by omega)
  have hb : (2 ^ zs.length - 1 - dN ls (zs.length - 1 - k + 1)).testBit (itN ls (zs.length - 1 - k)) = false := by
    rw [com_bit hn6 h2 (by omega), line_add hv hs hm]; simp
  unfold stepOk
  rw [back_at hl hk, back_done hv hl hs k (by omega), e1, h3.1, Int.toNat_natCast, bit_cast, hb, du_len, du_du hv]
  have hless : (lessI (zs[itN ls (zs.length - 1 - k)]?.getD 0) ((2 ^ zs.length - 1 - dN ls (zs.length - 1 - k + 1) : Nat) : Int) == 0) = true := by
    rw [beq_iff_eq, less_zero]
    intro j hj
    have hj2 : j < zs.length := by
      have := du_small hv (a := j) (j := itN ls (zs.length - 1 - k)) (by rw [du_bit hv.sets]; exact hj)
      exact this.2
    rw [com_bit hn6 h2 (by omega), decide_eq_true hj2, Bool.true_and, line_add hv hs hm]
    have hne : itN ls (zs.length - 1 - k) ≠ j := fun e => by
      have := hv.irrB h3.2
      rw [e] at hj this
      rw [hj] at this; cases this
    rw [decide_eq_false hne, Bool.or_false]
    cases e : (dN ls (zs.length - 1 - k)).testBit j
    · rfl
    · have := hI (itN ls (zs.length - 1 - k)) j e (by rw [du_bit hv.sets]; exact hj)
      rw [hnw] at this; cases this
  rw [hless]
  simp [inB]; omega
/-- A line backwards is one of the order turned round. -/
theorem line_back (hv : VoP zs) (hl : lineB zs ls = true) : lineB (du zs) ls.reverse = true := by
  obtain ⟨h1, hs⟩ := line_steps hl
  exact lineB_yes (m := zs.length) (by simp [h1]) (by rw [du_len]) fun k hk => back_step hv h1 hs hk
end
end Go.Proofs.Ytbhnkjclemeolaa

/- Rows of numbers under way, that grow by append: where they lie; what has been read of them; rows whose cells alone are told. -/
namespace Go.Proofs.Ytbhnkjclemeolaa
open Go.RowKit

/-- A row of numbers under way, in a block that S names. -/
def OwnS (S : Nat → Prop) (w : World) (B : Nat) (e : TypeId) (v : Value) (xs : List Int) : Prop := (∀ k, v.ownBlock = some k → S k) ∧ w.ownsRow B e 1 v xs.length (xs.map (Value.int .i64))
section
variable {S R : Nat → Prop} {w w' : World} {B : Nat} {e : TypeId} {v : Value} {xs : List Int}
theorem OwnS.keep (h : OwnS S w B e v xs) (hu : Upd R w w') (hS : ∀ k, S k → ¬ R k) : OwnS S w' B e v xs := by
  obtain ⟨h0, h1⟩ := h
  refine ⟨h0, h1.1, ?_⟩
  rcases h1.2 with e | ⟨g, cap, cur, rfl, hg, hc, hrest⟩
  · exact .inl e
  · exact .inr ⟨g, cap, cur, rfl, hg, (hu.block g (Array.getElem?_eq_some_iff.1 hc).1 (hS g (h0 g rfl))).trans hc, hrest⟩
theorem OwnS.none (S : Nat → Prop) (w : World) (B : Nat) (e : TypeId) : OwnS S w B e (.slice none 0 0) [] := ⟨fun k hk => by simp [Value.ownBlock] at hk, rfl, .inl ⟨rfl, rfl⟩⟩
theorem own_lt' {base n : Nat} {ys : List Value} (h : w.ownsRow base e 1 v n ys) : ∀ g, v.ownBlock = some g → g < w.heap.size := fun g hg => by
  rcases h.2 with ⟨rfl, _⟩ | ⟨g', cap, cur, rfl, _, hc, _⟩
  · simp [Value.ownBlock] at hg
  · simp [Value.ownBlock] at hg; subst hg; exact (Array.getElem?_eq_some_iff.1 hc).1
theorem OwnS.step {S' : Nat → Prop} {x : Int} {o : Obj} {v' : Value} (h : OwnS S w B e v xs) (hown : w'.ownsRow B e 1 v' (xs.length + 1) (xs.map (Value.int .i64) ++ [.int .i64 x])) (hv : v'.ownBlock = v.ownBlock ∨ v'.ownBlock = some (w.alloc o).heap.size)
    (hS : ∀ k, S k → S' k) (hS1 : w.heap.size + 1 < w'.heap.size → S' (w.heap.size + 1)) : OwnS S' w' B e v' (xs ++ [x]) :=
  ⟨fun k hk => by
    rcases hv with e | e
    · exact hS k (h.1 k (e ▸ hk))
    · have hlt := own_lt' hown k hk
      rw [e] at hk; simp at hk; subst hk; exact hS1 hlt, by rw [List.length_append, List.map_append]; exact hown⟩
end

/-- A row whose cells are told, in a block from lo up to less than hi (empty ones may lie anywhere). -/
def RowC (w : World) (lo hi : Nat) (A : Option Addr) (n : Nat) (xs : List Int) : Prop :=
  xs.length = n ∧ (0 < n → ∃ b, A = some ⟨b, 0, none⟩ ∧ lo ≤ b ∧ b < hi ∧ ∀ j, j < n → w.cell? ⟨b, j, none⟩ = some (.int .i64 (xs[j]?.getD 0)))
section
variable {w w' : World} {lo hi n : Nat} {A : Option Addr} {xs : List Int} {R : Nat → Prop}
theorem RowC.len (h : RowC w lo hi A n xs) : xs.length = n := h.1
theorem RowC.nil (w : World) (lo hi : Nat) (A : Option Addr) : RowC w lo hi A 0 [] := ⟨rfl, fun h => absurd h (by omega)⟩
theorem RowC.ints (h : RowC w lo hi A n xs) {B : Nat} (hB : hi ≤ B) : Ints w B A n xs :=
  ⟨h.1, fun hn => by
    obtain ⟨b, e, _, hb, hc⟩ := h.2 hn
    exact ⟨b, 0, e, by omega, fun j hj => by rw [Nat.zero_add]; exact hc j hj⟩⟩
theorem RowC.upd (h : RowC w lo hi A n xs) (hu : Upd R w w') (hr : ∀ j, R j → j < lo ∨ hi ≤ j) : RowC w' lo hi A n xs :=
  ⟨h.1, fun hn => by
    obtain ⟨b, e, hl, hb, hc⟩ := h.2 hn
    exact ⟨b, e, hl, hb, fun j hj => hu.cell (hc j hj) (fun hr' => by have := hr b hr'; omega)⟩⟩
theorem RowC.below {B : Nat} (h : RowC w lo hi A n xs) (hu : Below B w w') (hB : hi ≤ B) : RowC w' lo hi A n xs := h.upd (Below.toUpd hu) (fun j hj => by omega)
theorem RowC.more {lo' hi' : Nat} (h : RowC w lo hi A n xs) (h1 : lo' ≤ lo) (h2 : hi ≤ hi') : RowC w lo' hi' A n xs :=
  ⟨h.1, fun hn => by
    obtain ⟨b, e, hl, hb, hc⟩ := h.2 hn
    exact ⟨b, e, by omega, by omega, hc⟩⟩
theorem Row.told (h : Row w lo hi A n xs) : RowC w lo hi A n xs :=
  ⟨h.1, fun hn => by
    obtain ⟨b, ys, e, hl, hb, hA⟩ := h.2 hn
    exact ⟨b, e, hl, hb, fun j hj => by
      have hl := h.1
      rw [hA.cell (by rw [List.length_append]; omega), List.getElem?_append_left (by omega)]⟩⟩
/-- A grown row's cells. -/
theorem rowC_of_own {base m : Nat} {e : TypeId} {v : Value} (h : w.ownsRow base e 1 v m (xs.map (Value.int .i64))) : ∃ A c, v = .slice A m c ∧ RowC w base w.heap.size A m xs := by
  obtain ⟨A, c, rfl, hI, hA⟩ := ints_of_own_at h
  refine ⟨A, c, rfl, hI.1, fun hn => ?_⟩
  rcases h.2 with ⟨e, _⟩ | ⟨g, cap, cur, e, hg, hgc, _⟩
  · cases e; omega
  · cases e
    refine ⟨g, rfl, hg, (Array.getElem?_eq_some_iff.1 hgc).1, fun j hj => ?_⟩
    obtain ⟨b, off, e1, hb, hc⟩ := hI.2 hn
    cases e1
    have := hc j hj
    rwa [Nat.zero_add] at this
end
/-- What a function that hands back a new row of numbers does: its cells told. -/
def GivesRowC (w : World) (xs : List Int) (e : Ending) (w' : World) : Prop := ∃ A n c, e = .returned (.slice A n c) ∧ RowC w' w.heap.size w'.heap.size A n xs ∧ Below w.heap.size w w'
end Go.Proofs.Ytbhnkjclemeolaa

/- Orders beside each other, and one above the other: as both sides tell them. No program. -/
namespace Go.Proofs.Ytbhnkjclemeolaa
open Go.RowKit

/-- The sets of items behind n other ones. -/
def shl (n : Nat) (ys : List Int) : List Int := ys.map fun y => y * powI n
theorem shl_len (n : Nat) (ys : List Int) : (shl n ys).length = ys.length := by simp [shl]
theorem shl_get (n : Nat) (ys : List Int) {k : Nat} (hk : k < ys.length) : (shl n ys)[k]?.getD 0 = (ys[k]?.getD 0) * powI n := by
  unfold shl
  rw [List.getElem?_map, List.getElem?_eq_getElem hk]; rfl
theorem take_snocJ (l : List Int) {k : Nat} (hk : k < l.length) : l.take (k + 1) = l.take k ++ [l[k]?.getD 0] := by
  rw [List.take_succ_eq_append_getElem hk, List.getElem?_eq_getElem hk]; rfl
theorem shl_snoc (n : Nat) (ys : List Int) {k : Nat} (hk : k < ys.length) : (shl n ys).take (k + 1) = (shl n ys).take k ++ [(ys[k]?.getD 0) * powI n] := by
  rw [take_snocJ _ (by rw [shl_len]; exact hk), shl_get n ys hk]
/-- All items of the second order, behind n. -/
def behI (n m : Nat) : Int := (powI m - 1) * powI n
def uqS (n m : Nat) (over : Bool) (z : Int) : Int := if over then orI z (behI n m) else z
def uqL (n m : Nat) (over : Bool) (zs : List Int) : List Int := zs.map (uqS n m over)
theorem uqL_len (n m : Nat) (over : Bool) (zs : List Int) : (uqL n m over zs).length = zs.length := by simp [uqL]
theorem uqL_get (n m : Nat) (over : Bool) (zs : List Int) {k : Nat} (hk : k < zs.length) : (uqL n m over zs)[k]?.getD 0 = uqS n m over (zs[k]?.getD 0) := by
  unfold uqL
  rw [List.getElem?_map, List.getElem?_eq_getElem hk]; rfl
theorem uqL_snoc (n m : Nat) (over : Bool) (zs : List Int) {k : Nat} (hk : k < zs.length) : (uqL n m over zs).take (k + 1) = (uqL n m over zs).take k ++ [uqS n m over (zs[k]?.getD 0)] := by
  rw [take_snocJ _ (by rw [uqL_len]; exact hk), uqL_get n m over zs hk]
theorem uqL_false (n m : Nat) (zs : List Int) : uqL n m false zs = zs := by
  unfold uqL
  have : uqS n m false = id := by funext z; rfl
  rw [this, List.map_id]
def bothL (zs ys : List Int) (over : Bool) : List Int := uqL zs.length ys.length over zs ++ shl zs.length ys
theorem bothL_len (zs ys : List Int) (over : Bool) : (bothL zs ys over).length = zs.length + ys.length := by unfold bothL; rw [List.length_append, uqL_len, shl_len]
def bothB (zs ys : List Int) : Bool := vo zs && (vo ys && decide (zs.length + ys.length ≤ 6))
def bothR (zs ys : List Int) (over : Bool) : List Int := if bothB zs ys then bothL zs ys over else []
theorem bothR_le (zs ys : List Int) (over : Bool) : (bothR zs ys over).length ≤ 1048576 := by
  unfold bothR
  split
  · rename_i h
    unfold bothB at h
    simp only [Bool.and_eq_true, decide_eq_true_eq] at h
    rw [bothL_len]; omega
  · simp
theorem bothB_parts {zs ys : List Int} (h : bothB zs ys = true) : VoP zs ∧ VoP ys ∧ zs.length + ys.length ≤ 6 := by
  unfold bothB at h
  simp only [Bool.and_eq_true, decide_eq_true_eq] at h
  exact ⟨by simpa [vo] using h.1, by simpa [vo] using h.2.1, h.2.2⟩
theorem powI_add6 : ∀ n : Fin 7, ∀ m : Fin 7, powI (n.val : Int) * powI (m.val : Int) = powI ((n.val + m.val : Nat) : Int) := by decide +kernel
theorem beh_fin : ∀ n : Fin 7, ∀ m : Fin 7, n.val + m.val ≤ 6 → 0 ≤ behI n.val m.val ∧ behI n.val m.val < 64 ∧ lessI (powI ((n.val + m.val : Nat) : Int) - 1) (powI (n.val : Int) - 1) = behI n.val m.val := by decide +kernel
theorem beh_bd {n m : Nat} (h : n + m ≤ 6) : 0 ≤ behI n m ∧ behI n m < 64 := ⟨(beh_fin ⟨n, by omega⟩ ⟨m, by omega⟩ h).1, (beh_fin ⟨n, by omega⟩ ⟨m, by omega⟩ h).2.1⟩
theorem beh_less {n m : Nat} (h : n + m ≤ 6) : lessI (powI ((n + m : Nat) : Int) - 1) (powI (n : Int) - 1) = behI n m := (beh_fin ⟨n, by omega⟩ ⟨m, by omega⟩ h).2.2
theorem shl_bd {n m : Nat} {z : Int} (h0 : 0 ≤ z) (h1 : z < powI m) (h : n + m ≤ 6) : 0 ≤ z * powI n ∧ z * powI n < 64 := by
  have hp := powI_pos (n : Int)
  have e := powI_add6 ⟨n, by omega⟩ ⟨m, by omega⟩
  have h64 := powI_le6 (n := ((n + m : Nat) : Int)) (by omega)
  simp only at e
  refine ⟨Int.mul_nonneg h0 (by omega), ?_⟩
  have h2 : (z + 1) * powI n ≤ powI m * powI n := Int.mul_le_mul_of_nonneg_right (by omega) (by omega)
  rw [Int.add_mul, Int.one_mul, Int.mul_comm (powI m), e] at h2
  omega
end Go.Proofs.Ytbhnkjclemeolaa

/- A region that draws its order, in a round of a loop over a function, by the laws for plain machines: where nothing in it defers, and no round may outgrow. -/
namespace Go.Proofs.Ytbhnkjclemeolaa
open Go.RowKit

section
variable {n : Nat} {P : Program} {ops : Array Oper} {Q : Exit → Act → World → Prop} {md : Region.Mode} {S : World → Prop} {l₀ : Nat}
theorem rows_wide {row : String} {args : Array Value} {w : World} {R : Value → World → Prop} (h : Rows P row args w R) : RowsIn Fence.wide n P row args w R :=
  fun c cs _ => let ⟨v, w', r, s⟩ := h c cs; ⟨v, w', r, stepsIn_wide.2 s⟩
theorem oper_wide {o : Oper} {a : Act} {w : World} {K : Act → World → Prop} (h : o.wp P a w K Q) : o.wpIn Fence.wide n P a w K Q := by
  unfold Oper.wp at h
  refine ⟨fun _ _ => trivial, ?_⟩
  rw [show Fence.wide.round = none from rfl, Oper.semAt_none]
  generalize (execOp a.eval o).run P w = r at h ⊢
  have hd : Fence.wide.depth.isSome = true → 1 ≤ n := fun e => by cases e
  cases r with
  | ok x w' =>
    cases x with
    | value v => exact h
    | skip => exact h
    | defer d => exact h
    | enter f args => exact ⟨hd, callsIn_wide.2 h⟩
    | row row args => exact ⟨hd, rows_wide h⟩
    | _ => exact h.elim
  | halt x w' => cases x <;> exact h
theorem op_wide (hQ : ¬ LetsOut Q) {i : Nat} {a : Act} {w : World} {K K' : Act → World → Prop} (hK : ∀ a w, K a w → K' a w) (h : wpOp P ops Q i K a w) : wpOpIn Fence.wide n P ops Q i K' a w := by
  unfold wpOp at h
  unfold wpOpIn
  split
  · rename_i ho; simp only [ho] at h; exact hK _ _ h
  · rename_i o ho
    simp only [ho] at h
    split
    · rename_i hw
      simp only [hw, if_true] at h
      rcases h with h | h
      · exact Oper.wpIn_mono hK (oper_wide h)
      · exact absurd h.2 hQ
    · rename_i hw
      simp only [hw] at h
      exact ⟨fun _ _ => trivial, hK _ _ h⟩
theorem any_wide (hQ : ¬ LetsOut Q) : ∀ (fuel : Nat) (listed : Array Bool) (a : Act) (w : World), wpAny P md ops Q fuel listed a w → wpAnyIn Fence.wide n P md ops Q fuel listed a w
  | 0, _, _, _, h => h
  | fuel + 1, _, _, _, h => ⟨h.1, fun i hi => op_wide hQ (fun a w h' => any_wide hQ fuel _ a w h') (h.2 i hi)⟩
/-- The beginning, in a round: a condition S on the worlds met is shown of the world behind the draw, and handed on. -/
theorem region_held_round {id : Nat} {a : Act} {w : World} {l : List Oper} (hm : P.follows .mixedOrders = true) (hd : l.all noDefer = true) (hQ : ¬ LetsOut Q) (hS : S w.drew)
    (h : S w.drew → wpAnyH P .any l.toArray Q S l.toArray.size (Array.replicate l.toArray.size false) a w.drew) : (Code.region id l.toArray true).wpIn (Fence.wide.inRound l₀) n P Q a w :=
  wpIn_region_any hm (anyIn_round (fun _ o ho => noDefer_spec (List.all_eq_true.1 hd o (List.mem_of_getElem? (by simpa using ho)))) _ _ _ _ (any_wide hQ _ _ _ _ (wpAny_of_held _ _ _ _ (h hS))))
end

/-! A region whose last operation writes what an earlier one has read: the condition S is asked behind every operation but the last one, z, which waits for all. -/
section
variable {n : Nat} {P : Program} {ops : Array Oper} {Q : Exit → Act → World → Prop} {md : Region.Mode} {S : World → Prop} {z : Nat} {l₀ : Nat}
def anyT (P : Program) (md : Region.Mode) (ops : Array Oper) (Q : Exit → Act → World → Prop) (S : World → Prop) (z : Nat) : Nat → Array Bool → Act → World → Prop
  | 0, listed, a, w => Region.ready md ops listed = [] ∧ Q .normal a w
  | fuel + 1, listed, a, w => (Region.ready md ops listed = [] → Q .normal a w) ∧
    ∀ i ∈ Region.ready md ops listed, wpOp P ops Q i (fun a' w' => (i ≠ z → S w') ∧ anyT P md ops Q S z fuel (listed.setIfInBounds i true) a' w') a w
theorem any_of_T : ∀ (fuel : Nat) (listed : Array Bool) (a : Act) (w : World), anyT P md ops Q S z fuel listed a w → wpAny P md ops Q fuel listed a w
  | 0, _, _, _, h => h
  | fuel + 1, _, _, _, h => ⟨h.1, fun i hi => wpOp_mono (fun a' w' h' => any_of_T fuel _ a' w' h'.2) (h.2 i hi)⟩
/-- What may come up before the last one may be taken first, if it yields the same in every world met. -/
theorem anyT_first {i : Nat} {oi : Oper} {v : Value} (hi : ops[i]? = some oi) (hsel : ∀ (j : Nat) (o : Oper) cs b, ops[j]? = some o → o.op ≠ .select cs b)
    (hQ : ∀ c a w, Q (.panic c) (a.put oi.dst v) w → Q (.panic c) a w) (hs : Region.sinkB md ops z = true) (hc : Region.chainB md ops z = true) (hz : z < ops.size) (hiz : i < z) :
    ∀ (fuel : Nat) (listed : Array Bool) (a : Act) (w : World), HeadInv md ops z listed →
      (∀ j oj, ops[j]? = some oj → j ≠ i → listed.getD j true = false → (∀ e ∈ oj.after, Region.binds md e = true → e.on ≠ i) → oi.apart ops oj = true) →
      i ∈ Region.ready md ops listed → YieldsIf P ops S oi v a → S w →
      anyT P md ops Q S z fuel (listed.setIfInBounds i true) (a.put oi.dst v) w → anyT P md ops Q S z (fuel + 1) listed a w
  | fuel, listed, a, w, inv, hfree, hr, hy, hS, H => by
    have hun := (mem_ready.1 hr).1
    refine ⟨fun h => (by rw [h] at hr; cases hr), fun j hj => ?_⟩
    by_cases hji : j = i
    · rw [hji]; exact hy.wpOp hi hS ⟨fun _ => hS, H⟩
    · have hjz : j < z := by
        rcases Nat.lt_or_ge j z with h | h
        · exact h
        · exact absurd hj (tail_waits hs hc hz inv _ i rfl hiz hun j h)
      cases fuel with
      | zero =>
        have := ready_mono hj hji
        rw [H.1] at this
        cases this
      | succ fuel =>
        have h1 := H.2 j (ready_mono hj hji)
        obtain ⟨hjun, oj, hoj, hall⟩ := mem_ready.1 hj
        have hnot : ∀ e ∈ oj.after, Region.binds md e = true → e.on ≠ i := fun e he hb heq => by
          have h1 := hall e he hb
          rw [heq, getD_both hun] at h1
          cases h1
        have h2 := wpOp_putIf hoj (hfree j oj hoj hji hjun hnot) (fun cs b => hsel i oi cs b hi) (fun cs b => hsel j oj cs b hoj) hQ hy h1
        have hfree' : ∀ k ok, ops[k]? = some ok → k ≠ i → (listed.setIfInBounds j true).getD k true = false →
            (∀ e ∈ ok.after, Region.binds md e = true → e.on ≠ i) → oi.apart ops ok = true := fun k ok hk hki hkun hno => by
          refine hfree k ok hk hki ?_ hno
          by_cases hjk : j = k
          · rw [← hjk]; exact hjun
          · rw [getD_set_ne true hjk] at hkun; exact hkun
        refine wpOp_mono (fun a' w' h3 => ?_) h2
        have hS' := h3.2.1 (by omega)
        refine ⟨fun _ => hS', anyT_first hi hsel hQ hs hc hz hiz fuel (listed.setIfInBounds j true) a' w' (inv.set hj hjz) hfree' (ready_mono hr (Ne.symm hji)) h3.1 hS' ?_⟩
        rw [Array.setIfInBounds_comm _ _ hji]
        exact h3.2.2
/-- The state of a walk through the head, as a Bool. -/
def headB (md : Region.Mode) (ops : Array Oper) (z : Nat) (listed : Array Bool) : Bool :=
  listed.size == ops.size && ((List.range ops.size).all (fun j => !(listed.getD j false) || match ops[j]? with | some o => o.after.all (fun e => !(Region.binds md e) || listed.getD e.on false) | none => true) &&
    (List.range ops.size).all fun t => decide (t < z) || !(listed.getD t true))
theorem headB_inv {listed : Array Bool} (h : headB md ops z listed = true) : HeadInv md ops z listed := by
  unfold headB at h
  rw [Bool.and_eq_true, Bool.and_eq_true, List.all_eq_true, List.all_eq_true, beq_iff_eq] at h
  refine ⟨h.1, fun j oj hj hl e he hb => ?_, fun t ht htn => ?_⟩
  · have := h.2.1 j (by simpa using (Array.getElem?_eq_some_iff.1 hj).1)
    rw [hj, hl] at this
    simp only [Bool.not_true, Bool.false_or] at this
    rw [Array.all_eq_true_iff_forall_mem] at this
    have h2 := this e he
    rw [hb] at h2
    simpa using h2
  · have := h.2.2 t (by simpa using htn)
    have hlt : ¬ t < z := by omega
    simpa [hlt] using this
theorem anyT_take {i : Nat} {oi : Oper} {v : Value} {fuel : Nat} {listed : Array Bool} {a : Act} {w : World} (hi : ops[i]? = some oi)
    (hc : (Region.noSelect ops && Region.sinkB md ops z && Region.chainB md ops z && decide (z < ops.size) && decide (i < z) && headB md ops z listed && Region.free md ops listed i && (Region.ready md ops listed).contains i) = true)
    (hQ : ∀ c a w, Q (.panic c) (a.put oi.dst v) w → Q (.panic c) a w) (hy : YieldsIf P ops S oi v a) (hS : S w)
    (h : anyT P md ops Q S z fuel (listed.setIfInBounds i true) (a.put oi.dst v) w) : anyT P md ops Q S z (fuel + 1) listed a w := by
  simp only [Bool.and_eq_true, decide_eq_true_eq] at hc
  obtain ⟨⟨⟨⟨⟨⟨⟨h1, h2⟩, h3⟩, h4⟩, h5⟩, h6⟩, h7⟩, h8⟩ := hc
  exact anyT_first hi (Region.noSelect_spec h1) hQ h2 h3 h4 h5 fuel listed a w (headB_inv h6) (Region.free_spec hi h7) (by simpa using h8) hy hS h
/-- The only one that may come up: it is carried out. -/
theorem anyT_one {i : Nat} {o : Oper} {fuel : Nat} {listed : Array Bool} {a : Act} {w : World} (hr : Region.ready md ops listed = [i]) (ho : ops[i]? = some o)
    (h : ∀ K' : Act → World → Prop, Shut (∀ a w, (i ≠ z → S w) → anyT P md ops Q S z fuel (listed.setIfInBounds i true) a w → K' a w) → if Region.wanted o (yielded ops a.tmps) = true then Oper.wp P o a w K' Q else K' (a.put o.dst undef) w) :
    anyT P md ops Q S z (fuel + 1) listed a w :=
  ⟨fun h0 => (by rw [hr] at h0; cases h0), fun j hj => by
    rw [hr] at hj
    obtain rfl := List.mem_singleton.1 hj
    exact wpOp_step ho (fun K' hK => h K' (fun a w hS hW => hK a w ⟨hS, hW⟩))⟩
theorem anyT_done {listed : Array Bool} {a : Act} {w : World} (hr : Region.ready md ops listed = []) (h : Q .normal a w) : ∀ fuel, anyT P md ops Q S z fuel listed a w
  | 0 => ⟨hr, h⟩
  | _ + 1 => ⟨fun _ => h, by rw [hr]; simp⟩
theorem region_T_round {id : Nat} {a : Act} {w : World} {l : List Oper} (z : Nat) (hm : P.follows .mixedOrders = true) (hd : l.all noDefer = true) (hQ : ¬ LetsOut Q)
    (h : anyT P .any l.toArray Q S z l.toArray.size (Array.replicate l.toArray.size false) a w.drew) : (Code.region id l.toArray true).wpIn (Fence.wide.inRound l₀) n P Q a w :=
  wpIn_region_any hm (anyIn_round (fun _ o ho => noDefer_spec (List.all_eq_true.1 hd o (List.mem_of_getElem? (by simpa using ho)))) _ _ _ _ (any_wide hQ _ _ _ _ (any_of_T _ _ _ _ h)))
theorem region_T {id : Nat} {a : Act} {w : World} {l : List Oper} (z : Nat) (hm : P.follows .mixedOrders = true)
    (h : anyT P .any l.toArray Q S z l.toArray.size (Array.replicate l.toArray.size false) a w.drew) : (Code.region id l.toArray true).wp P Q a w :=
  wp_region_any hm (any_of_T _ _ _ _ h)
end
end Go.Proofs.Ytbhnkjclemeolaa

/- What the own laws of lines ask of the mathematics, put together. No program. -/
namespace Go.Proofs.Ytbhnkjclemeolaa

theorem next_some {zs : List Int} (h : VoP zs) {s : Nat} (hs : s < 2 ^ zs.length) (h0 : s ≠ 0) : nextL zs s ≠ [] := by
  intro e
  have hn6 := h.1
  have hp64 := pow_le64 hn6
  have hpi : powI (zs.length : Int) = ((2 ^ zs.length : Nat) : Int) := by simp [powI]
  have hd := du_vo h
  have ht := tops_none (zs := du zs) (s := (s : Int)) hd (by omega) (by rw [du_len, hpi]; omega)
  rw [du_len] at ht
  have hT := topsTo_bd (du zs) (s : Int) zs.length
  have hz : topsTo (du zs) (s : Int) zs.length = 0 := by
    refine bitB_ext hT.1 (Int.le_refl _) fun j => ?_
    rw [bitB_zero]
    cases hb : bitB (topsTo (du zs) (s : Int) zs.length) j
    · rfl
    · have hj := bitB_lt hT.2 hb
      have : j ∈ nextL zs s := by
        rw [nextL_is h, List.mem_filter, List.mem_range]
        refine ⟨hj, ?_⟩
        rw [topsTo_bit] at hb
        obtain ⟨_, b1, b2⟩ := hb
        rw [bit_cast] at b1
        unfold eF
        rw [b1, b2]; rfl
      rw [e] at this; cases this
  rw [hz] at ht
  have h1 : ((s : Int) == 0) = false := by simpa using h0
  rw [h1] at ht
  cases ht
theorem cF_ge1 {zs : List Int} (h : VoP zs) : ∀ (k s : Nat), s ≤ k → s < 2 ^ zs.length → 1 ≤ cF zs s
  | 0, s, hk, _ => by
    obtain rfl : s = 0 := by omega
    rw [cF_zero]; exact Nat.le_refl _
  | k + 1, s, hk, hs => by
    by_cases h0 : s = 0
    · subst h0; rw [cF_zero]; exact Nat.le_refl _
    · rw [← accF_all h h0]
      have hne := next_some h hs h0
      unfold accF
      cases hL : nextL zs s with
      | nil => exact absurd hL hne
      | cons x l =>
        have hlt := sub_lt (a := x) h0
        have ih := cF_ge1 h k (s - 2 ^ x) (by omega) (by omega)
        rw [List.map_cons, List.sum_cons]
        omega
theorem lines_facts {zs : List Int} (h : VoP zs) : ∃ F : Nat, 1 ≤ F ∧ F ≤ 46656 ∧ linesR zs = (F : Int) ∧ linesR (du zs) = (F : Int) ∧ hasAt zs ((F : Int) - 1) = true ∧ hasAt zs (F : Int) = false := by
  have hp := Nat.two_pow_pos zs.length
  have hv : vo zs = true := by simpa [vo] using h
  have hv2 : vo (du zs) = true := by simpa [vo] using du_vo h
  have hF := cF_le h (s := 2 ^ zs.length - 1) (by omega)
  have h1 := cF_ge1 h _ (2 ^ zs.length - 1) (Nat.le_refl _) (by omega)
  have h2 := count_du h
  have h3 := count_both h
  have h4 := count_both (du_vo h)
  rw [du_len] at h4
  obtain ⟨F, hFF⟩ : ∃ F, cF zs (2 ^ zs.length - 1) = F := ⟨_, rfl⟩
  rw [hFF] at hF h1 h2 h3
  refine ⟨F, h1, hF, ?_, ?_, ?_, ?_⟩
  · unfold linesR; rw [hv, if_pos rfl, h3]
  · unfold linesR; rw [hv2, if_pos rfl, du_len, h4, h2]
  · unfold hasAt; rw [hv, hFF, decide_eq_true (show (0 : Int) ≤ (F : Int) - 1 by omega), decide_eq_true (show (F : Int) - 1 < (F : Int) by omega)]; rfl
  · unfold hasAt; rw [hFF, decide_eq_false (show ¬ (F : Int) < (F : Int) by omega)]; simp
theorem atR_few (zs : List Int) (r : Int) : (atR zs r).length ≤ 6 := by
  unfold atR
  cases hh : hasAt zs r
  · simp
  · unfold hasAt at hh
    rw [Bool.and_eq_true] at hh
    have hvo : VoP zs := by simpa [vo] using hh.1
    have := hvo.1
    rw [if_pos rfl, atL_len]; omega
theorem at_facts {zs : List Int} {r : Int} (hh : hasAt zs r = true) : isLineR zs (atR zs r) = true ∧ rankR zs (atR zs r) = r := by
  have hA : atR zs r = atL zs r.toNat zs.length := by unfold atR; rw [hh]; rfl
  unfold hasAt at hh
  rw [Bool.and_eq_true, Bool.and_eq_true, decide_eq_true_eq, decide_eq_true_eq] at hh
  have hvo : VoP zs := by simpa [vo] using hh.1
  obtain ⟨h1, h2⟩ := rank_at hvo (r := r.toNat) (by omega)
  have hI : isLineR zs (atR zs r) = true := by unfold isLineR; rw [hA, hh.1, h1]; rfl
  refine ⟨hI, ?_⟩
  unfold rankR
  rw [hI, if_pos rfl, hA, atL_len, h2]
  omega
theorem rank_facts {zs ls : List Int} (h : isLineR zs ls = true) : ∃ Q F : Nat, Q < F ∧ F ≤ 46656 ∧ rankR zs ls = (Q : Int) ∧ linesR zs = (F : Int) ∧ hasAt zs (Q : Int) = true ∧ atR zs (Q : Int) = ls ∧ ls.length ≤ 6 := by
  have h' := h
  unfold isLineR at h
  rw [Bool.and_eq_true] at h
  have hvo : VoP zs := by simpa [vo] using h.1
  have hp := Nat.two_pow_pos zs.length
  have hF := cF_le hvo (s := 2 ^ zs.length - 1) (by omega)
  obtain ⟨h1, h2⟩ := at_rank hvo h.2
  have hlen := (line_steps h.2).1
  have hn6 := hvo.1
  have hH : hasAt zs (rkUp zs ls zs.length : Int) = true := by
    unfold hasAt; rw [h.1, decide_eq_true (show (0 : Int) ≤ (rkUp zs ls zs.length : Int) by omega), decide_eq_true (show (rkUp zs ls zs.length : Int) < (cF zs (2 ^ zs.length - 1) : Int) by omega)]; rfl
  refine ⟨rkUp zs ls zs.length, cF zs (2 ^ zs.length - 1), h1, hF, ?_, ?_, hH, ?_, by omega⟩
  · unfold rankR; rw [h', if_pos rfl, hlen]
  · unfold linesR; rw [h.1, if_pos rfl, count_both hvo]
  · unfold atR; rw [hH, if_pos rfl, Int.toNat_natCast]; exact h2
theorem back_fact {zs ls : List Int} (h : isLineR zs ls = true) : isLineR (du zs) ls.reverse = true := by
  unfold isLineR at h ⊢
  rw [Bool.and_eq_true] at h
  have hvo : VoP zs := by simpa [vo] using h.1
  rw [line_back hvo h.2, show vo (du zs) = true by simpa [vo] using du_vo hvo]; rfl
theorem dual_fact {zs ls : List Int} (h : isLineR zs ls = true) : dualR zs = du zs := by
  unfold isLineR at h
  rw [Bool.and_eq_true] at h
  unfold dualR
  rw [h.1]; rfl
end Go.Proofs.Ytbhnkjclemeolaa

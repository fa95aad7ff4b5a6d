/- What the exact laws call: copies of lists, equality, marks. -/
import Derived.Test.YtidggolnhagfdaaDoorRead
import Derived.Deep.QuietTactic
import Derived.BigQuiet
import Derived.RegionTactic
namespace Go.Proofs.YtidggolnhagfdaaDoor
open Go.RowKit

set_option maxHeartbeats 1000000 in
/-- A copy: a new row of the same numbers. -/
theorem toIntS_any (A : Option Addr) (n c : Nat) (zs : List Int) (w : World) (hA : Ints w w.heap.size A n zs) (hbig : n ≤ 1048576) :
    Calls Tryd.prog 5 #[.slice A n c] w fun e w' => e = .returned (.slice (some ⟨w.heap.size, 0, none⟩) n n) ∧ Arr w' w.heap.size 3 zs ∧ Below w.heap.size w w' := by
  have hlen := Lib.hid hA.len
  have hmk := run_make_row' (P := Tryd.prog) 22 3 (.int .i64 0) 8 Tryd.underlying22 infoInt rfl .i64 .i64 n (by omega) (by omega)
  go_enter Tryd.func5, Tryd.ntmps5
  go_wp2
  have hA1 := Arr.new w 3 n
  have hB1 : Below w.heap.size w (w.alloc (.cells (madeCells #[.int .i64 0] n) 3)) := (Below.refl _ _).alloc (Nat.le_refl _) _
  obtain ⟨W1, hW1⟩ : ∃ W1, w.alloc (.cells (madeCells #[.int .i64 0] n) 3) = W1 := ⟨_, rfl⟩
  rw [hW1] at hA1 hB1 ⊢
  clear hW1 hmk
  go_loopw [4] (fun i wr => ∃ k : Nat, k ≤ n ∧ i = .int .i64 k ∧ Arr wr w.heap.size 3 (copied zs n k) ∧ Below w.heap.size w wr) (fun i _ => n - (intOf i).toNat)
  case atStart => exact ⟨0, by omega, rfl, by rw [copied_zero]; exact hA1, hB1⟩
  case round =>
    obtain ⟨k, hk, rfl, hAr, hB⟩ := hrel
    have Hcl := Lib.hid (copied_len hlen.out hk)
    by_cases hlt : k < n
    · obtain ⟨b, off, rfl, hbw, hc⟩ := (hA.below hB).at_ hlt
      have hck := hc k hlt
      have hcs := hAr.cell (k := k) (by rw [Hcl.out]; exact hlt)
      have hfs := hAr.frozen k
      clear hc
      have Hcp := Lib.hid (copied_succ hlen.out hlt)
      go_wp2
      go_roundw
      case rel => exact ⟨k + 1, by omega, by go_num, by rw [← Hcp.out]; exact hAr.set _ _, hB.setCell (p := ⟨w.heap.size, k, none⟩) (Nat.le_refl _) _⟩
      case measure => simp [intOf]; omega
    · obtain rfl : k = n := by omega
      have Hfull := Lib.hid (copied_full hlen.out)
      go_wp2
      go_ret
      exact ⟨rfl, by rw [← Hfull.out]; exact hAr, hB⟩

set_option maxHeartbeats 1000000 in
/-- Whether two lists are equal. -/
theorem eqIntS_any (A A' : Option Addr) (n c n' c' B B' : Nat) (xs ys : List Int) (w : World) (hA : Ints w B A n xs) (hA' : Ints w B' A' n' ys) (hbig : n ≤ 1152921504606846976) (hbig' : n' ≤ 1152921504606846976) :
    Calls Tryd.prog 7 #[.slice A n c, .slice A' n' c'] w fun e w' => e = .returned (.bool (decide (xs = ys))) ∧ ∃ m, w' = w.drewN m := by
  have hlen := Lib.hid hA.len
  have hlen' := Lib.hid hA'.len
  by_cases hnn : n = n'
  · subst hnn
    go_enter Tryd.func7, Tryd.ntmps7
    go_wp2
    go_loopw [5] (fun i wr => ∃ k m : Nat, k ≤ n ∧ i = .int .i64 k ∧ (∀ a, a < k → xs[a]?.getD 0 = ys[a]?.getD 0) ∧ wr = w.drewN m) (fun i _ => n - (intOf i).toNat)
    case atStart => exact ⟨0, 0, by omega, rfl, fun a ha => by omega, rfl⟩
    case round =>
      obtain ⟨k, m, hk, rfl, hok, rfl⟩ := hrel
      have Hok := Lib.hid hok
      clear hok
      by_cases hlt : k < n
      · obtain ⟨b, off, rfl, _, hc⟩ := hA.at_ hlt
        obtain ⟨b', off', rfl, _, hc'⟩ := hA'.at_ hlt
        have hck := hc k hlt
        have hck' := hc' k hlt
        have Hc := Lib.hid hc
        have Hc' := Lib.hid hc'
        clear hc hc'
        cases hne : (xs[k]?.getD 0 != ys[k]?.getD 0)
        · have Heq := Lib.hid (show xs[k]?.getD 0 = ys[k]?.getD 0 by simpa [bne] using hne)
          go_wp2
          go_quiet (fail)
          go_wp2
          go_roundw
          case rel => exact ⟨k + 1, _, by omega, by go_num, all_snoc Hok.out Heq.out, rfl⟩
          case measure => simp [intOf]; omega
        · have Hne := Lib.hid (show decide (xs = ys) = false by
            simp only [decide_eq_false_iff_not]; rintro rfl; simp at hne)
          go_wp2
          go_quiet (fail)
          go_wp2
          go_ret
          exact ⟨ret_bool Hne.out.symm, by first | exact ⟨_, rfl⟩ | exact ⟨_, World.drewN_drewN ..⟩⟩
      · obtain rfl : k = n := by omega
        have Heq := Lib.hid (show decide (xs = ys) = true by
          simp only [decide_eq_true_eq]
          refine List.ext_getElem? fun i => ?_
          by_cases hi : i < xs.length
          · have h1 := Hok.out i (by rw [← hlen.out]; exact hi)
            have hi' : i < ys.length := by rw [hlen'.out, ← hlen.out]; exact hi
            rw [List.getElem?_eq_getElem hi, List.getElem?_eq_getElem hi'] at h1 ⊢
            simpa using h1
          · rw [List.getElem?_eq_none (by omega), List.getElem?_eq_none (by rw [hlen'.out, ← hlen.out]; omega)])
        go_wp2
        go_ret
        exact ⟨ret_bool Heq.out.symm, _, rfl⟩
  · have Hne := Lib.hid (show decide (xs = ys) = false by
      simp only [decide_eq_false_iff_not]; rintro rfl; exact hnn (hlen.out.symm.trans hlen'.out))
    have hnb : ((n : Int) != (n' : Int)) = true := by simp; omega
    go_enter Tryd.func7, Tryd.ntmps7
    go_wp2
    go_ret
    exact ⟨ret_bool Hne.out.symm, 0, rfl⟩

/-- The numbers from k on. -/
def counted (k : Int) (n : Nat) : List Int := (List.range n).map fun (i : Nat) => k + (i : Int)
def markedTo (zs : List Int) (k : Int) (i : Nat) : List Int := counted k i ++ zs.drop i
theorem markedTo_len {zs : List Int} {k : Int} {i : Nat} (h : i ≤ zs.length) : (markedTo zs k i).length = zs.length := by simp [markedTo, counted]; omega
theorem markedTo_succ {zs : List Int} {k : Int} {i : Nat} (h : i < zs.length) : (markedTo zs k i).set i (k + (i : Int)) = markedTo zs k (i + 1) := by
  have hl : (counted k i).length = i := by simp [counted]
  rw [markedTo, List.set_append_right _ _ (by omega), hl, Nat.sub_self, List.drop_eq_getElem_cons h, List.set_cons_zero, markedTo, counted, counted, List.range_succ, List.map_append, List.append_assoc]
  rfl

/-- A call that only reads leaves what lay. -/
theorem below_quiet {P : Program} {f : FuncId} {args : Array Value} {w : World} {v : Value} (h : Calls P f args w fun e w' => e = .returned v ∧ ∃ m, w' = w.drewN m) :
    Calls P f args w fun e w' => e = .returned v ∧ Below w.heap.size w w' :=
  h.mono fun e w' ⟨he, m, hm⟩ => ⟨he, by subst hm; exact ⟨rfl, rfl, rfl, Nat.le_refl _, fun _ _ => rfl⟩⟩
theorem Ints.to {w w' : World} {B n : Nat} {A : Option Addr} {zs : List Int} (h : Ints w B A n zs) {B' : Nat} (hb : Below B' w w') (hB : B ≤ B') {C : Nat} (hC : B ≤ C) : Ints w' C A n zs := (h.below (hb.mono hB)).more hC

/-- A row of a call's own, in a block from lo up to less than hi (empty ones may lie anywhere). -/
def Row (w : World) (lo hi : Nat) (A : Option Addr) (n : Nat) (xs : List Int) : Prop :=
  xs.length = n ∧ (0 < n → ∃ b ys, A = some ⟨b, 0, none⟩ ∧ lo ≤ b ∧ b < hi ∧ Arr w b 3 (xs ++ ys))
section
variable {w w' : World} {lo hi n : Nat} {A : Option Addr} {xs : List Int} {R : Nat → Prop}
theorem Row.len (h : Row w lo hi A n xs) : xs.length = n := h.1
theorem Row.nil (w : World) (lo hi : Nat) (A : Option Addr) : Row w lo hi A 0 [] := ⟨rfl, fun h => absurd h (by omega)⟩
theorem Row.of {b : Nat} (h : Arr w b 3 xs) (hn : xs.length = n) (hlo : lo ≤ b) (hhi : b < hi) : Row w lo hi (some ⟨b, 0, none⟩) n xs := ⟨hn, fun _ => ⟨b, [], rfl, hlo, hhi, by rw [List.append_nil]; exact h⟩⟩
theorem Row.cut {b m : Nat} {ys : List Int} (h : Arr w b 3 ys) (hm : m ≤ ys.length) (hlo : lo ≤ b) (hhi : b < hi) : Row w lo hi (some ⟨b, 0, none⟩) m (ys.take m) :=
  ⟨by simp; omega, fun _ => ⟨b, ys.drop m, rfl, hlo, hhi, by rw [List.take_append_drop]; exact h⟩⟩
theorem Row.ints (h : Row w lo hi A n xs) {B : Nat} (hB : hi ≤ B) : Ints w B A n xs :=
  ⟨h.1, fun hn => by
    obtain ⟨b, ys, e, _, hb, hA⟩ := h.2 hn
    exact ⟨b, 0, e, by omega, fun j hj => by
      have hl := h.1
      rw [Nat.zero_add, hA.cell (by rw [List.length_append]; omega), List.getElem?_append_left (by omega)]⟩⟩
theorem Row.upd (h : Row w lo hi A n xs) (hu : Upd R w w') (hr : ∀ j, R j → j < lo ∨ hi ≤ j) : Row w' lo hi A n xs :=
  ⟨h.1, fun hn => by
    obtain ⟨b, ys, e, hl, hb, hA⟩ := h.2 hn
    exact ⟨b, ys, e, hl, hb, hA.upd hu (fun hr' => by have := hr b hr'; omega)⟩⟩
theorem Row.below {B : Nat} (h : Row w lo hi A n xs) (hu : Below B w w') (hB : hi ≤ B) : Row w' lo hi A n xs := h.upd (Below.toUpd hu) (fun j hj => by omega)
theorem Row.more {lo' hi' : Nat} (h : Row w lo hi A n xs) (h1 : lo' ≤ lo) (h2 : hi ≤ hi') : Row w lo' hi' A n xs :=
  ⟨h.1, fun hn => by
    obtain ⟨b, ys, e, hl, hb, hA⟩ := h.2 hn
    exact ⟨b, ys, e, by omega, by omega, hA⟩⟩
end
/-- What a function that hands back a new row of numbers does. -/
def GivesRow (w : World) (xs : List Int) (e : Ending) (w' : World) : Prop := ∃ A n c, e = .returned (.slice A n c) ∧ Row w' w.heap.size w'.heap.size A n xs ∧ Below w.heap.size w w'
theorem below_drewN {B : Nat} {a w : World} (h : Below B a w) (n : Nat) : Below B a (w.drewN n) := ⟨h.os, h.tape, h.output, h.size, h.block⟩

def IntBlk (w : World) (j : Nat) : Prop := ∃ cs, w.heap[j]? = some (.cells cs 3 (0, 0))
end Go.Proofs.YtidggolnhagfdaaDoor

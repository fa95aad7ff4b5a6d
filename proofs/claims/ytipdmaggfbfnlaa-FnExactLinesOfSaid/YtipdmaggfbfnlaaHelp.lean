/- What the exact laws call: copies of lists, equality, marks. -/
import Derived.Test.YtipdmaggfbfnlaaRead
import Derived.Deep.QuietTactic
import Derived.BigQuiet
import Derived.RegionTactic
set_option linter.unusedVariables false
set_option linter.unusedSimpArgs false
namespace Go.Proofs.Ytipdmaggfbfnlaa
open Go.RowKit

set_option maxHeartbeats 1000000 in
/-- A copy: a new row of the same numbers. -/
theorem toIntS_any (A : Option Addr) (n c : Nat) (zs : List Int) (w : World) (hA : Ints w w.heap.size A n zs) (hbig : n ≤ 1048576) :
    Calls Try.prog 15 #[.slice A n c] w fun e w' => e = .returned (.slice (some ⟨w.heap.size, 0, none⟩) n n) ∧ Arr w' w.heap.size 3 zs ∧ Below w.heap.size w w' := by
  have hlen := Lib.hid hA.len
  have hmk := run_make_row' (P := Try.prog) 22 3 (.int .i64 0) 8 Try.underlying22 infoInt rfl .i64 .i64 n (by omega) (by omega)
  go_enter Try.func15, Try.ntmps15
  go_wp2
  have hA1 := Arr.new w 3 n
  have hB1 : Below w.heap.size w (w.alloc (.cells (madeCells #[.int .i64 0] n) 3)) := (Below.refl _ _).alloc (Nat.le_refl _) _
  obtain ⟨W1, hW1⟩ : ∃ W1, w.alloc (.cells (madeCells #[.int .i64 0] n) 3) = W1 := ⟨_, rfl⟩
  rw [hW1] at hA1 hB1 ⊢
  clear hW1 hmk
  go_loopw [4] (fun i wr => ∃ k : Nat, k ≤ n ∧ i = .int .i64 k ∧ Arr wr w.heap.size 3 (copied zs n k) ∧ Below w.heap.size w wr) (fun i _ => n - (intOf i).toNat)
  case atStart => exact ⟨0, by omega, rfl, by rw [copied_zero]; exact hA1, hB1⟩
  case round =>
    obtain ⟨k, hk, rfl, hAr, hB⟩ := hrel
    have Hcl := Lib.hid (copied_len hlen.out hk)
    by_cases hlt : k < n
    · obtain ⟨b, off, rfl, hbw, hc⟩ := (hA.below hB).at_ hlt
      have hck := hc k hlt
      have hcs := hAr.cell (k := k) (by rw [Hcl.out]; exact hlt)
      have hfs := hAr.frozen k
      clear hc
      have Hcp := Lib.hid (copied_succ hlen.out hlt)
      go_wp2
      go_roundw
      case rel => exact ⟨k + 1, by omega, by go_num, by rw [← Hcp.out]; exact hAr.set _ _, hB.setCell (p := ⟨w.heap.size, k, none⟩) (Nat.le_refl _) _⟩
      case measure => simp [intOf]; omega
    · obtain rfl : k = n := by omega
      have Hfull := Lib.hid (copied_full hlen.out)
      go_wp2
      go_ret
      exact ⟨rfl, by rw [← Hfull.out]; exact hAr, hB⟩

set_option maxHeartbeats 1000000 in
/-- Whether two lists are equal. -/
theorem eqIntS_any (A A' : Option Addr) (n c n' c' B B' : Nat) (xs ys : List Int) (w : World) (hA : Ints w B A n xs) (hA' : Ints w B' A' n' ys) (hbig : n ≤ 1152921504606846976) (hbig' : n' ≤ 1152921504606846976) :
    Calls Try.prog 17 #[.slice A n c, .slice A' n' c'] w fun e w' => e = .returned (.bool (decide (xs = ys))) ∧ ∃ m, w' = w.drewN m := by
  have hlen := Lib.hid hA.len
  have hlen' := Lib.hid hA'.len
  by_cases hnn : n = n'
  · subst hnn
    go_enter Try.func17, Try.ntmps17
    go_wp2
    go_loopw [5] (fun i wr => ∃ k m : Nat, k ≤ n ∧ i = .int .i64 k ∧ (∀ a, a < k → xs[a]?.getD 0 = ys[a]?.getD 0) ∧ wr = w.drewN m) (fun i _ => n - (intOf i).toNat)
    case atStart => exact ⟨0, 0, by omega, rfl, fun a ha => by omega, rfl⟩
    case round =>
      obtain ⟨k, m, hk, rfl, hok, rfl⟩ := hrel
      have Hok := Lib.hid hok
      clear hok
      by_cases hlt : k < n
      · obtain ⟨b, off, rfl, _, hc⟩ := hA.at_ hlt
        obtain ⟨b', off', rfl, _, hc'⟩ := hA'.at_ hlt
        have hck := hc k hlt
        have hck' := hc' k hlt
        have Hc := Lib.hid hc
        have Hc' := Lib.hid hc'
        clear hc hc'
        cases hne : (xs[k]?.getD 0 != ys[k]?.getD 0)
        · have Heq := Lib.hid (show xs[k]?.getD 0 = ys[k]?.getD 0 by simpa [bne] using hne)
          go_wp2
          go_quiet (fail)
          go_wp2
          go_roundw
          case rel => exact ⟨k + 1, _, by omega, by go_num, all_snoc Hok.out Heq.out, rfl⟩
          case measure => simp [intOf]; omega
        · have Hne := Lib.hid (show decide (xs = ys) = false by
            simp only [decide_eq_false_iff_not]; rintro rfl; simp at hne)
          go_wp2
          go_quiet (fail)
          go_wp2
          go_ret
          exact ⟨ret_bool Hne.out.symm, by first | exact ⟨_, rfl⟩ | exact ⟨_, World.drewN_drewN ..⟩⟩
      · obtain rfl : k = n := by omega
        have Heq := Lib.hid (show decide (xs = ys) = true by
          simp only [decide_eq_true_eq]
          refine List.ext_getElem? fun i => ?_
          by_cases hi : i < xs.length
          · have h1 := Hok.out i (by rw [← hlen.out]; exact hi)
            have hi' : i < ys.length := by rw [hlen'.out, ← hlen.out]; exact hi
            rw [List.getElem?_eq_getElem hi, List.getElem?_eq_getElem hi'] at h1 ⊢
            simpa using h1
          · rw [List.getElem?_eq_none (by omega), List.getElem?_eq_none (by rw [hlen'.out, ← hlen.out]; omega)])
        go_wp2
        go_ret
        exact ⟨ret_bool Heq.out.symm, _, rfl⟩
  · have Hne := Lib.hid (show decide (xs = ys) = false by
      simp only [decide_eq_false_iff_not]; rintro rfl; exact hnn (hlen.out.symm.trans hlen'.out))
    have hnb : ((n : Int) != (n' : Int)) = true := by simp; omega
    go_enter Try.func17, Try.ntmps17
    go_wp2
    go_ret
    exact ⟨ret_bool Hne.out.symm, 0, rfl⟩

/-- The numbers from k on. -/
def counted (k : Int) (n : Nat) : List Int := (List.range n).map fun (i : Nat) => k + (i : Int)
def markedTo (zs : List Int) (k : Int) (i : Nat) : List Int := counted k i ++ zs.drop i
theorem markedTo_len {zs : List Int} {k : Int} {i : Nat} (h : i ≤ zs.length) : (markedTo zs k i).length = zs.length := by simp [markedTo, counted]; omega
theorem markedTo_succ {zs : List Int} {k : Int} {i : Nat} (h : i < zs.length) : (markedTo zs k i).set i (k + (i : Int)) = markedTo zs k (i + 1) := by
  have hl : (counted k i).length = i := by simp [counted]
  rw [markedTo, List.set_append_right _ _ (by omega), hl, Nat.sub_self, List.drop_eq_getElem_cons h, List.set_cons_zero, markedTo, counted, counted, List.range_succ, List.map_append, List.append_assoc]
  rfl

set_option maxHeartbeats 1000000 in
theorem markIntS_arr (b n c : Nat) (zs ys : List Int) (k : Int) (w : World) (hA : Arr w b 3 (zs ++ ys)) (hn : zs.length = n) (hbig : n ≤ 1048576) (hk0 : 0 ≤ k) (hk1 : k ≤ 1152921504606846976) :
    Calls Try.prog 26 #[.slice (some ⟨b, 0, none⟩) n c, .int .i64 k] w fun e w' => e = .returned (.int .i64 (k + n)) ∧ Arr w' b 3 (counted k n ++ ys) ∧ w.grownBy w' (some b) := by
  have hlen := Lib.hid hn
  clear hn
  go_enter Try.func26, Try.ntmps26
  go_wp2
  go_loopw [1, 5] (fun v i wr => ∃ j : Nat, j ≤ n ∧ i = .int .i64 j ∧ v = .int .i64 (k + j) ∧ Arr wr b 3 (markedTo zs k j ++ ys) ∧ w.grownBy wr (some b)) (fun _ i _ => n - (intOf i).toNat)
  case atStart => exact ⟨0, by omega, rfl, by go_num, hA, World.grownBy.refl w _⟩
  case round =>
    obtain ⟨j, hj, rfl, rfl, hAr, hG⟩ := hrel
    by_cases hlt : j < n
    · have hl2 := markedTo_len (zs := zs) (k := k) (i := j) (by rw [hlen.out]; exact hj)
      have hcs := hAr.cell (k := j) (by rw [List.length_append, hl2, hlen.out]; omega)
      have hfs := hAr.frozen j
      have Hms := Lib.hid (show (markedTo zs k j ++ ys).set j (k + (j : Int)) = markedTo zs k (j + 1) ++ ys by
        rw [List.set_append_left _ _ (by rw [hl2, hlen.out]; exact hlt), markedTo_succ (zs := zs) (k := k) (i := j) (by rw [hlen.out]; exact hlt)])
      clear hl2
      go_wp2
      go_roundw
      case rel => exact ⟨j + 1, by omega, by go_num, by rw [Int.natCast_add, ← Int.add_assoc]; rfl, by rw [← Hms.out]; exact hAr.set _ _, only_setCell hG (.inl rfl) _⟩
      case measure => simp [intOf]; omega
    · obtain rfl : j = n := by omega
      go_wp2
      go_ret
      refine ⟨rfl, ?_, hG⟩
      have e : markedTo zs k j ++ ys = counted k j ++ ys := by rw [markedTo, List.drop_eq_nil_of_le (by rw [hlen.out]; exact Nat.le_refl _), List.append_nil]
      rw [← e]
      exact hAr

theorem markIntS_nil (A : Option Addr) (c : Nat) (k : Int) (w : World) :
    Calls Try.prog 26 #[.slice A 0 c, .int .i64 k] w fun e w' => e = .returned (.int .i64 k) ∧ w = w' := by
  go_enter Try.func26, Try.ntmps26
  go_wp2
  go_loop [1, 5] (fun v i => i = .int .i64 0 ∧ v = .int .i64 k) (fun _ _ => 0)
  case atStart => exact ⟨rfl, rfl⟩
  case round =>
    obtain ⟨rfl, rfl⟩ := hrel
    go_wp2
    go_ret
    exact ⟨rfl, rfl⟩

set_option maxHeartbeats 1000000 in
theorem heldIntS_any (A : Option Addr) (n c B : Nat) (k : Int) (w : World) (hA : Ints w B A n (counted k n)) (hbig : n ≤ 1048576) (hk0 : 0 ≤ k) (hk1 : k ≤ 1152921504606846976) :
    Calls Try.prog 48 #[.slice A n c, .int .i64 k] w fun e w' => e = .returned (.int .i64 (k + n)) ∧ w = w' := by
  go_enter Try.func48, Try.ntmps48
  go_wp2
  go_loop [1, 5] (fun v i => ∃ j : Nat, j ≤ n ∧ i = .int .i64 j ∧ v = .int .i64 (k + j)) (fun _ i => n - (intOf i).toNat)
  case atStart => exact ⟨0, by omega, rfl, by go_num⟩
  case round =>
    obtain ⟨j, hj, rfl, rfl⟩ := hrel
    by_cases hlt : j < n
    · obtain ⟨b, off, rfl, _, hc⟩ := hA.at_ hlt
      have hcj : w.cell? ⟨b, off + j, none⟩ = some (.int .i64 (k + j)) := by
        rw [hc j hlt]; simp [counted, hlt]
      clear hc
      have hne : ((k + (j : Int)) != (k + (j : Int))) = false := by simp
      go_wp2
      go_round
      case rel => exact ⟨j + 1, by omega, by go_num, by rw [Int.natCast_add, ← Int.add_assoc]; rfl⟩
      case measure => simp [intOf]; omega
    · obtain rfl : j = n := by omega
      go_wp2
      go_ret
      exact ⟨rfl, rfl⟩

/-- A call that only reads leaves what lay. -/
theorem below_quiet {P : Program} {f : FuncId} {args : Array Value} {w : World} {v : Value} (h : Calls P f args w fun e w' => e = .returned v ∧ ∃ m, w' = w.drewN m) :
    Calls P f args w fun e w' => e = .returned v ∧ Below w.heap.size w w' :=
  h.mono fun e w' ⟨he, m, hm⟩ => ⟨he, by subst hm; exact ⟨rfl, rfl, rfl, Nat.le_refl _, fun _ _ => rfl⟩⟩
theorem Ints.to {w w' : World} {B n : Nat} {A : Option Addr} {zs : List Int} (h : Ints w B A n zs) {B' : Nat} (hb : Below B' w w') (hB : B ≤ B') {C : Nat} (hC : B ≤ C) : Ints w' C A n zs := (h.below (hb.mono hB)).more hC

/-- A row of a call's own, in a block from lo up to less than hi (empty ones may lie anywhere). -/
def Row (w : World) (lo hi : Nat) (A : Option Addr) (n : Nat) (xs : List Int) : Prop :=
  xs.length = n ∧ (0 < n → ∃ b ys, A = some ⟨b, 0, none⟩ ∧ lo ≤ b ∧ b < hi ∧ Arr w b 3 (xs ++ ys))
section
variable {w w' : World} {lo hi n : Nat} {A : Option Addr} {xs : List Int} {R : Nat → Prop}
theorem Row.len (h : Row w lo hi A n xs) : xs.length = n := h.1
theorem Row.nil (w : World) (lo hi : Nat) (A : Option Addr) : Row w lo hi A 0 [] := ⟨rfl, fun h => absurd h (by omega)⟩
theorem Row.of {b : Nat} (h : Arr w b 3 xs) (hn : xs.length = n) (hlo : lo ≤ b) (hhi : b < hi) : Row w lo hi (some ⟨b, 0, none⟩) n xs := ⟨hn, fun _ => ⟨b, [], rfl, hlo, hhi, by rw [List.append_nil]; exact h⟩⟩
theorem Row.cut {b m : Nat} {ys : List Int} (h : Arr w b 3 ys) (hm : m ≤ ys.length) (hlo : lo ≤ b) (hhi : b < hi) : Row w lo hi (some ⟨b, 0, none⟩) m (ys.take m) :=
  ⟨by simp; omega, fun _ => ⟨b, ys.drop m, rfl, hlo, hhi, by rw [List.take_append_drop]; exact h⟩⟩
theorem Row.ints (h : Row w lo hi A n xs) {B : Nat} (hB : hi ≤ B) : Ints w B A n xs :=
  ⟨h.1, fun hn => by
    obtain ⟨b, ys, e, _, hb, hA⟩ := h.2 hn
    exact ⟨b, 0, e, by omega, fun j hj => by
      have hl := h.1
      rw [Nat.zero_add, hA.cell (by rw [List.length_append]; omega), List.getElem?_append_left (by omega)]⟩⟩
theorem Row.upd (h : Row w lo hi A n xs) (hu : Upd R w w') (hr : ∀ j, R j → j < lo ∨ hi ≤ j) : Row w' lo hi A n xs :=
  ⟨h.1, fun hn => by
    obtain ⟨b, ys, e, hl, hb, hA⟩ := h.2 hn
    exact ⟨b, ys, e, hl, hb, hA.upd hu (fun hr' => by have := hr b hr'; omega)⟩⟩
theorem Row.below {B : Nat} (h : Row w lo hi A n xs) (hu : Below B w w') (hB : hi ≤ B) : Row w' lo hi A n xs := h.upd (Below.toUpd hu) (fun j hj => by omega)
theorem Row.more {lo' hi' : Nat} (h : Row w lo hi A n xs) (h1 : lo' ≤ lo) (h2 : hi ≤ hi') : Row w lo' hi' A n xs :=
  ⟨h.1, fun hn => by
    obtain ⟨b, ys, e, hl, hb, hA⟩ := h.2 hn
    exact ⟨b, ys, e, by omega, by omega, hA⟩⟩
end
/-- What a function that hands back a new row of numbers does. -/
def GivesRow (w : World) (xs : List Int) (e : Ending) (w' : World) : Prop := ∃ A n c, e = .returned (.slice A n c) ∧ Row w' w.heap.size w'.heap.size A n xs ∧ Below w.heap.size w w'
theorem below_drewN {B : Nat} {a w : World} (h : Below B a w) (n : Nat) : Below B a (w.drewN n) := ⟨h.os, h.tape, h.output, h.size, h.block⟩

def IntBlk (w : World) (j : Nat) : Prop := ∃ cs, w.heap[j]? = some (.cells cs 3 (0, 0))
theorem markIntS_row' (A : Option Addr) (n c lo hi : Nat) (xs : List Int) (k : Int) (w : World) (h : Row w lo hi A n xs) (hbig : n ≤ 1048576) (hk0 : 0 ≤ k) (hk1 : k ≤ 1152921504606846976) :
    Calls Try.prog 26 #[.slice A n c, .int .i64 k] w fun e w' => e = .returned (.int .i64 (k + n)) ∧ Row w' lo hi A n (counted k n) ∧ Upd (fun j => lo ≤ j ∧ j < hi ∧ IntBlk w j) w w' := by
  by_cases hn : 0 < n
  · obtain ⟨b, ys, rfl, hl, hb, hA⟩ := h.2 hn
    refine (markIntS_arr b n c xs ys k w hA h.1 hbig hk0 hk1).mono ?_
    rintro e w' ⟨rfl, hA', hg⟩
    exact ⟨rfl, ⟨by simp [counted], fun _ => ⟨b, ys, rfl, hl, hb, hA'⟩⟩, (Upd.refl _ _).grown hg (fun j e => by cases e; exact .inr ⟨hl, hb, _, hA⟩)⟩
  · obtain rfl : n = 0 := by omega
    refine (markIntS_nil A c k w).mono ?_
    rintro e w' ⟨rfl, rfl⟩
    exact ⟨ret_int (by simp), by simpa [counted] using Row.nil _ lo hi A, Upd.refl _ _⟩
theorem markIntS_row (A : Option Addr) (n c lo hi : Nat) (xs : List Int) (k : Int) (w : World) (h : Row w lo hi A n xs) (hbig : n ≤ 1048576) (hk0 : 0 ≤ k) (hk1 : k ≤ 1152921504606846976) :
    Calls Try.prog 26 #[.slice A n c, .int .i64 k] w fun e w' => e = .returned (.int .i64 (k + n)) ∧ Row w' lo hi A n (counted k n) ∧ Upd (fun j => lo ≤ j ∧ j < hi) w w' :=
  (markIntS_row' A n c lo hi xs k w h hbig hk0 hk1).mono fun _ _ ⟨h1, h2, h3⟩ => ⟨h1, h2, h3.mono fun _ _ e => ⟨e.1, e.2.1⟩⟩
end Go.Proofs.Ytipdmaggfbfnlaa

/- The program's choice of sets: a range over the order's items while they are written. -/
import Derived.Test.YtghogabmkbadjaaRangeV
import Derived.Test.YtghogabmkbadjaaOrN
import Derived.Test.YtghogabmkbadjaaEndsI
import Derived.Test.YtghogabmkbadjaaLineI
import Derived.Test.YtghogabmkbadjaaGxj
set_option linter.unusedVariables false
set_option linter.unusedSimpArgs false
namespace Go.Proofs.Ytghogabmkbadjaa
open Go.RowKit Go.Shelf
attribute [local go_sem] Oper.semAt_some
attribute [local go_sem, local simp] wide_fn

/-- The sets when the last k items have theirs. -/
def csL (zs : List Int) (n ch k : Nat) : List Int := (List.range n).map fun i => if n ≤ i + k then ((ch / 2 ^ (n * (n - 1 - i)) % 2 ^ n : Nat) : Int) else zs[i]?.getD 0
theorem csL_len (zs : List Int) (n ch k : Nat) : (csL zs n ch k).length = n := by simp [csL]
theorem csL_get {zs : List Int} {n ch k i : Nat} (h : i < n) : (csL zs n ch k)[i]?.getD 0 = if n ≤ i + k then ((ch / 2 ^ (n * (n - 1 - i)) % 2 ^ n : Nat) : Int) else zs[i]?.getD 0 := by simp [csL, h]
theorem csL_zero {zs : List Int} {n : Nat} (ch : Nat) (h : zs.length = n) : csL zs n ch 0 = zs := by
  refine List.ext_getElem (by rw [csL_len, h]) fun i h1 h2 => ?_
  have hi : i < n := by rw [csL_len] at h1; exact h1
  have e := csL_get (zs := zs) (ch := ch) (k := 0) hi
  rw [if_neg (by omega), List.getElem?_eq_getElem h1, List.getElem?_eq_getElem h2] at e
  simpa using e
theorem csL_all (zs : List Int) (n ch : Nat) : csL zs n ch n = chK n n ch := by
  unfold csL chK
  refine List.map_congr_left fun i _ => ?_
  rw [if_pos (by omega)]
theorem csL_step (zs : List Int) {n k i : Nat} (ch : Nat) (hk : k < n) (hi : n - 1 - k = i) : (csL zs n ch k).set i ((ch / 2 ^ (n * k) % 2 ^ n : Nat) : Int) = csL zs n ch (k + 1) := by
  refine List.ext_getElem (by rw [List.length_set, csL_len, csL_len]) fun j h1 h2 => ?_
  have hj : j < n := by rw [csL_len] at h2; exact h2
  have e1 := csL_get (zs := zs) (ch := ch) (k := k) hj
  have e2 := csL_get (zs := zs) (ch := ch) (k := k + 1) hj
  rw [List.getElem?_eq_getElem (by rw [csL_len]; exact hj), Option.getD_some] at e1
  rw [List.getElem?_eq_getElem h2, Option.getD_some] at e2
  rw [List.getElem_set]
  by_cases e : i = j
  · subst e
    rw [if_pos rfl, e2, if_pos (by omega), show n - 1 - i = k by omega]
  · rw [if_neg e, e1, e2]
    by_cases h : n ≤ j + k
    · rw [if_pos h, if_pos (by omega)]
    · rw [if_neg h, if_neg (by omega)]

abbrev encV (x : Nat × Int) : Array Value := #[.int .i64 (x.1 : Int), .int .i64 x.2]
def vUp (n : Nat) (pre : List (Nat × Int)) : Prop := pre.map Prod.fst <+: (List.range n).reverse
def vFull (n : Nat) (xs : List (Nat × Int)) : Prop := xs.map Prod.fst = (List.range n).reverse
def vSee (b n : Nat) (W : World) : Prop := ∃ zs, Arr W b 59 zs ∧ zs.length = n

set_option maxRecDepth 100000 in
set_option maxHeartbeats 2000000 in
theorem backward_iterV (bA n c : Nat) (b : Nat) (M : Nat → Prop) (w : World) (hb : Boxed w b 44 (.slice (some ⟨bA, 0, none⟩) n c)) (hM : ¬ M b) (hn : n ≤ 6) :
    IterV Try.prog 105 #[.pointer (some ⟨b, 0, none⟩)] encV (vUp n) (vFull n) (vSee bA n) M w := fun l J Jx hJ hJx hV hY h0 => by
  refine (callsIn_wide (n := 9)).1 ?_
  refine callsIn_of_wp Try.func105 rfl trivial ?_ rfl
  simp only [Try.ntmps105, List.size_toArray, List.length_cons, List.length_nil, Nat.reduceAdd, Nat.reduceSub, Array.replicate_succ, Array.replicate_zero, List.push_toArray, List.append_toArray, List.nil_append, List.cons_append]
  have hc0 := hb.cell
  have hw1 : IntKind.i64.wrap ((n : Int) - 1) = (n : Int) - 1 := by rw [IntKind.wrap_i64]; omega
  gi_wp2
  clear hc0
  gi_loopw [3] (fun i wr => ∃ (k : Nat) (xs : List (Nat × Int)) (D : Nat → Prop), k ≤ n ∧ i = .int .i64 ((n : Int) - 1 - k) ∧ xs.map Prod.fst = (List.range n).reverse.take k ∧ J xs D wr ∧ Upd M w wr ∧ (∀ j, D j → w.heap.size ≤ j)) (fun i _ => (intOf i + 1).toNat)
  case atStart => exact ⟨0, [], fun _ => False, by omega, by simp, by simp, by simpa using h0, Upd.refl _ _, fun _ e => e.elim⟩
  case round =>
    obtain ⟨k, xs, D, hk, rfl, hxs, hj, hU, hD⟩ := hrel
    rename World => wr
    have hlb := hb.lt
    have hbr := hU.boxed hb hM
    have hcb := hbr.cell
    by_cases hlt : k < n
    · obtain ⟨zs, hAr, hzl⟩ := hV _ _ _ hj
      have hck := hAr.cell (k := n - 1 - k) (by omega)
      have Ht := Lib.hid (rev_take n k hlt)
      have hpre0 : (List.range n).reverse.take k ++ [n - 1 - k] <+: (List.range n).reverse := by rw [Ht.out]; exact List.take_prefix _ _
      have hsz := hU.size
      have hpre : vUp n (xs ++ [(n - 1 - k, zs[n - 1 - k]?.getD 0)]) := by
        unfold vUp
        rw [List.map_append, hxs]
        exact hpre0
      have Hxs := Lib.hid (show (xs ++ [(n - 1 - k, zs[n - 1 - k]?.getD 0)]).map Prod.fst = (List.range n).reverse.take (k + 1) by rw [List.map_append, hxs]; exact Ht.out)
      obtain ⟨fn, tmps, assign, body, hy, hR⟩ := hY _ (n - 1 - k, zs[n - 1 - k]?.getD 0) D wr hj hsz hpre 8
      have hxe : (n : Int) - 1 - k = ((n - 1 - k : Nat) : Int) := by omega
      rw [hxe]
      have Hx := Lib.hid (show n - 1 - k < n by omega)
      have Hxe := Lib.hid hxe
      clear hxe hAr hpre0 hpre hxs
      generalize hx : n - 1 - k = x at *
      have Hxx := Lib.hid hx
      clear hx
      generalize zs[x]?.getD 0 = z at *
      have hxn := Hx.out
      have hge : decide ((x : Int) ≥ 0) = true := by simp
      have hw2 : IntKind.i64.wrap ((x : Int) - 1) = (x : Int) - 1 := by rw [IntKind.wrap_i64]; omega
      gi_wp2
      refine hR.mono ?_
      rintro e W3 (⟨rfl, D', hJ3, hU3, hD'⟩ | ⟨rfl, D', hJ3, hU3, hD'⟩)
      · have hz3 := hU3.size
        have hU4 : Upd M w W3 := hU.trans' hU3 (fun i hi e => e.elim id (fun e => absurd (hD i e) (by omega)))
        gi_wp2
        go_roundw
        case rel => exact ⟨k + 1, _, D', by omega, by have := Hxx.out; congr 1; omega, Hxs.out, hJ3, hU4, fun j hj => (hD' j hj).elim (hD j) (fun h => by omega)⟩
        case measure => simp [intOf]
      · gi_wp2
        refine bodyPost_ret (results_none rfl _ _ _) rfl ?_
        exact ⟨⟨_, rfl⟩, .inr ⟨_, D', by unfold vUp; rw [Hxs.out]; exact List.take_prefix _ _, hJ3⟩⟩
    · obtain rfl : k = n := by omega
      have hge : decide ((k : Int) - 1 - (k : Int) ≥ 0) = false := decide_eq_false (by omega)
      gi_wp2
      go_end0
      exact ⟨⟨_, rfl⟩, .inl ⟨xs, D, by unfold vFull; rw [hxs, List.take_of_length_le (by simp)], hj⟩⟩
end Go.Proofs.Ytghogabmkbadjaa

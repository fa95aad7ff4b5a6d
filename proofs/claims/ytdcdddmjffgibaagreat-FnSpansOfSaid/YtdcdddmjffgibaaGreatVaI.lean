/- slices.Values over a list of sets: an iterator. -/
import Derived.Test.YtdcdddmjffgibaaGreatPw
set_option linter.unusedVariables false
set_option linter.unusedSimpArgs false
namespace Go.Proofs.YtdcdddmjffgibaaGreat
open Go.RowKit Go.Shelf
attribute [local go_sem] Oper.semAt_some

theorem values_any (A : Option Addr) (n c : Nat) (w : World) :
    Calls Tryz.prog 57 #[.slice A n c] w fun e w' => e = .returned (.func (.func 74) #[] #[.pointer (some ⟨w.heap.size, 0, none⟩)]) ∧ w' = w.alloc (.cells #[.slice A n c] 39) := by
  go_enter Tryz.func57, Tryz.ntmps57
  go_wp2
  go_ret
  exact ⟨rfl, rfl⟩
theorem take_step {L : List Nat} {k : Nat} (hk : k < L.length) : L.take (k + 1) = L.take k ++ [L[k]?.getD 0] ∧ L.take k ++ [L[k]?.getD 0] <+: L := by
  have e : L.take (k + 1) = L.take k ++ [L[k]?.getD 0] := by rw [List.take_succ_eq_append_getElem hk, List.getElem?_eq_getElem hk]; rfl
  exact ⟨e, e ▸ List.take_prefix _ _⟩

set_option maxRecDepth 100000 in
set_option maxHeartbeats 2000000 in
theorem values_iter (A : Option Addr) (n c : Nat) (L : List Nat) (b : Nat) (M : Nat → Prop) (w : World) (hb : Boxed w b 39 (.slice A n c)) (hM : ¬ M b) (hI : Ints w w.heap.size A n (L.map fun x : Nat => (x : Int))) (hMA : ∀ a, A = some a → ¬ M a.block) (hn : n ≤ 64) :
    Iter Tryz.prog 74 #[.pointer (some ⟨b, 0, none⟩)] encS L M w := fun l J Jx hJ hJx hY h0 => by
  have Hlen := Lib.hid (show L.length = n by have := hI.len; simpa using this)
  have hc := hb.cell
  refine (callsIn_wide (n := 9)).1 ?_
  refine callsIn_of_wp Tryz.func74 rfl trivial ?_ rfl
  simp only [Tryz.ntmps74, List.size_toArray, List.length_cons, List.length_nil, Nat.reduceAdd, Nat.reduceSub, Array.replicate_succ, Array.replicate_zero, List.push_toArray, List.append_toArray, List.nil_append, List.cons_append]
  gi_wp2
  clear hc
  gi_loopw [7] (fun i wr => ∃ (k : Nat) (D : Nat → Prop), k ≤ n ∧ i = .int .i64 k ∧ J (L.take k) D wr ∧ (∀ j, D j → w.heap.size ≤ j) ∧ Upd M w wr) (fun i _ => n - (intOf i).toNat)
  case atStart => exact ⟨0, _, by omega, rfl, h0, fun _ e => e.elim, Upd.refl _ _⟩
  case round =>
    obtain ⟨k, D, hk, rfl, hj, hD, hU⟩ := hrel
    have hsz := hU.size
    by_cases hlt : k < n
    · obtain ⟨Hj, hpre⟩ := take_step (L := L) (k := k) (by rw [Hlen.out]; exact hlt)
      have HJ := Lib.hid Hj
      clear Hj
      obtain ⟨bl, off, rfl, hbl, hcs⟩ := hI.at_ hlt
      have hMb : ¬ M bl := hMA ⟨bl, off, none⟩ rfl
      have hck := hU.cell (hcs k hlt) hMb
      rw [show ((L.map fun x : Nat => (x : Int))[k]?.getD 0) = ((L[k]?.getD 0 : Nat) : Int) by rw [List.getElem?_map]; cases L[k]? <;> rfl] at hck
      clear hcs
      obtain ⟨fn, tmps, assign, body, hy, hR⟩ := hY (L.take k) (L[k]?.getD 0) D wr hj hsz hpre 8
      generalize L[k]?.getD 0 = x at *
      gi_wp2_with fail
      refine hR.mono ?_
      rintro e W3 (⟨rfl, D', hJ3, hU3, hD'⟩ | ⟨rfl, D', hJ3, hU3, hD'⟩)
      · have hz3 := hU3.size
        have hU4 : Upd M w W3 := hU.trans' hU3 (fun i hi e => e.elim id (fun e => by have := hD i e; omega))
        have hD4 : ∀ j, D' j → w.heap.size ≤ j := fun j hj => (hD' j hj).elim (hD j) (fun h => by omega)
        gi_wp2
        go_roundw
        case rel => exact ⟨k + 1, D', by omega, by go_num, by rw [HJ.out]; exact hJ3, hD4, hU4⟩
        case measure => simp [intOf]; omega
      · gi_wp2
        refine bodyPost_ret (results_none rfl _ _ _) rfl ?_
        exact ⟨⟨_, rfl⟩, .inr ⟨_, D', hpre, hJ3⟩⟩
    · obtain rfl : k = n := by omega
      have hfull : L.take k = L := by rw [← Hlen.out]; exact List.take_length
      gi_wp2
      go_end0
      exact ⟨⟨_, rfl⟩, .inl ⟨D, by rw [← hfull]; exact hj⟩⟩
end Go.Proofs.YtdcdddmjffgibaaGreat

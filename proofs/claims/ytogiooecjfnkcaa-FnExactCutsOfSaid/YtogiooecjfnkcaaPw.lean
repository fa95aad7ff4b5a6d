/- The program's pairs within a set; its tests of chains and of sets apart. -/
import Derived.Test.YtogiooecjfnkcaaChTall
import Derived.Test.YtogiooecjfnkcaaCount
namespace Go.Proofs.Ytogiooecjfnkcaa
open Go.RowKit Go.Shelf
attribute [local go_sem] Oper.semAt_some
attribute [local go_sem, local simp] wide_fn

/-! The iterator over all sets. -/
abbrev encS (j : Nat) : Array Value := #[.int .i64 (j : Int)]
theorem sets_any (A : Option Addr) (n c : Nat) (w : World) :
    Calls Try.prog 63 #[.slice A n c] w fun e w' => e = .returned (.func (.func 71) #[] #[.pointer (some ⟨w.heap.size, 0, none⟩)]) ∧ w' = w.alloc (.cells #[.slice A n c] 40) := by
  go_enter Try.func63, Try.ntmps63
  go_wp2
  go_ret
  exact ⟨rfl, rfl⟩

theorem range_pre {k N : Nat} (h : k < N) : List.range k ++ [k] <+: List.range N := by
  rw [← List.range_succ]
  refine ⟨(List.range N).drop (k + 1), ?_⟩
  have : List.range (k + 1) = (List.range N).take (k + 1) := by rw [List.take_range]; congr 1; omega
  rw [this, List.take_append_drop]

set_option maxRecDepth 100000 in
set_option maxHeartbeats 1000000 in
theorem sets_iter (A : Option Addr) (n c : Nat) (hn : n ≤ 6) (b : Nat) (M : Nat → Prop) (w : World) (hb : Boxed w b 40 (.slice A n c)) :
    Iter Try.prog 71 #[.pointer (some ⟨b, 0, none⟩)] encS (List.range (2 ^ n)) M w := fun l J Jx hJ hJx hY h0 => by
  refine (callsIn_wide (n := 9)).1 ?_
  refine callsIn_of_wp Try.func71 rfl trivial ?_ rfl
  simp only [Try.ntmps71, List.size_toArray, List.length_cons, List.length_nil, Nat.reduceAdd, Nat.reduceSub, Array.replicate_succ, Array.replicate_zero, List.push_toArray, List.append_toArray, List.nil_append, List.cons_append]
  have hc0 := hb.cell
  have hp6 : (2 : Nat) ^ n ≤ 2 ^ 6 := Nat.pow_le_pow_right (by decide) hn
  have hsh : wrap64 (2 ^ n) = ((2 ^ n : Nat) : Int) := by
    have e : ((2 ^ n : Nat) : Int) = 2 ^ n := by simp
    have key : ∀ q : Nat, q ≤ 2 ^ 6 → wrap64 (q : Int) = q := fun q h => IntWalk.wrap64_in _ ⟨by omega, by omega⟩
    rw [← e]
    exact key _ hp6
  generalize hN : (2 : Nat) ^ n = N at *
  clear hN
  gi_wp2
  rw [hsh]
  gi_loopw [7] (fun i wr => ∃ (k : Nat) (D : Nat → Prop), k ≤ N ∧ i = .int .i64 k ∧ J (List.range k) D wr ∧ w.heap.size ≤ wr.heap.size) (fun i _ => N - (intOf i).toNat)
  case atStart => exact ⟨0, _, by omega, rfl, h0, Nat.le_refl _⟩
  case round =>
    obtain ⟨k, D, hk, rfl, hj, hsz⟩ := hrel
    by_cases hlt : k < N
    · have Hj := Lib.hid (List.range_succ (n := k))
      have hpre := range_pre hlt
      obtain ⟨fn, tmps, assign, body, hy, hR⟩ := hY (List.range k) k D wr hj hsz hpre 8
      gi_wp2
      refine hR.mono ?_
      rintro e W3 (⟨rfl, D', hJ3, hU, hD'⟩ | ⟨rfl, D', hJ3, hU, hD'⟩)
      · have hz3 := hU.size
        gi_wp2
        go_roundw
        case rel => exact ⟨k + 1, D', by omega, by go_num, by rw [Hj.out]; exact hJ3, by omega⟩
        case measure => simp [intOf]; omega
      · gi_wp2
        refine bodyPost_ret (results_none rfl _ _ _) rfl ?_
        exact ⟨⟨_, rfl⟩, .inr ⟨_, D', hpre, hJ3⟩⟩
    · obtain rfl : k = N := by omega
      gi_wp2
      go_end0
      exact ⟨⟨_, rfl⟩, .inl ⟨D, hj⟩⟩
end Go.Proofs.Ytogiooecjfnkcaa

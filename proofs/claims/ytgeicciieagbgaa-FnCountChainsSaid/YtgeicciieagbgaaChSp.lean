/- The model's tests of chains and of sets apart. -/
import Derived.Test.YtgeicciieagbgaaChTall
import Derived.Test.YtgeicciieagbgaaListOf
import Derived.Test.YtgeicciieagbgaaVSet
namespace Go.Proofs.Ytgeicciieagbgaa
open Go.RowKit

theorem relB_comm (zs : List Int) (a b : Nat) : relB zs a b = relB zs b a := by unfold relB; rw [Bool.or_comm]
/-- The item at place a of a set. -/
def itAt (s : Int) (a : Nat) : Nat := (itemsL s)[a]?.getD 0
theorem itAt_mem {s : Int} {a : Nat} (ha : a < (itemsL s).length) : itAt s a ∈ itemsL s := by
  unfold itAt; rw [List.getElem?_eq_getElem ha]; exact List.getElem_mem ha
theorem itAt_cast {s : Int} {a : Nat} (ha : a < (itemsL s).length) : (((itemsL s).map fun x : Nat => (x : Int))[a]?.getD 0) = (itAt s a : Int) := by
  unfold itAt; rw [List.getElem?_map, List.getElem?_eq_getElem ha]; rfl
theorem itAt_lt {n : Nat} {s : Int} {a : Nat} (hn : n ≤ 6) (h1 : s < powI n) (ha : a < (itemsL s).length) : itAt s a < n := by
  have hpn := powI_le6 (n := (n : Int)) (by omega)
  exact bitB_lt h1 ((mem_itemsL (by omega)).1 (itAt_mem ha))
theorem chB_of {zs : List Int} {s : Int} (h : ∀ a, a < (itemsL s).length → ∀ b, b < a → relB zs (itAt s a) (itAt s b) = true) : chB zs s = true := by
  unfold chB
  rw [decide_eq_true_eq]
  refine List.pairwise_iff_getElem.2 fun i j hi hj hij => ?_
  have := h j hj i hij
  rw [relB_comm] at this
  simpa [itAt, hi, hj] using this
theorem chB_not {zs : List Int} {s : Int} {a b : Nat} (ha : a < (itemsL s).length) (hb : b < a) (h : relB zs (itAt s a) (itAt s b) = false) : chB zs s = false := by
  unfold chB
  rw [decide_eq_false_iff_not]
  intro hc
  have := List.pairwise_iff_getElem.1 hc b a (by omega) ha hb
  rw [relB_comm] at this
  simp [itAt, ha, Nat.lt_trans hb ha] at h
  simp [h] at this
theorem apB_of {zs : List Int} {s : Int} (h : ∀ a, a < (itemsL s).length → (andI (zs[itAt s a]?.getD 0) s == 0) = true) : apB zs s = true := by
  unfold apB
  rw [List.all_eq_true]
  intro x hx
  obtain ⟨i, hi, rfl⟩ := List.getElem_of_mem hx
  have := h i hi
  simpa [itAt, hi] using this
theorem apB_not {zs : List Int} {s : Int} {a : Nat} (ha : a < (itemsL s).length) (h : (andI (zs[itAt s a]?.getD 0) s == 0) = false) : apB zs s = false := by
  unfold apB
  cases hc : (itemsL s).all fun a => andI (zs[a]?.getD 0) s == 0 with
  | false => rfl
  | true => rw [List.all_eq_true.1 hc _ (itAt_mem ha)] at h; cases h

set_option maxHeartbeats 1000000 in
theorem specIsApart_any (A : Option Addr) (n c B : Nat) (zs : List Int) (s : Int) (hv : Sets zs) (w : World) (h : Ints w B A n zs) (hB : B ≤ w.heap.size) (h0 : 0 ≤ s) (h1 : s < powI n) :
    Calls Try.prog 92 #[.slice A n c, .int .i64 s] w fun e w' => e = .returned (.bool (apB zs s)) ∧ Below w.heap.size w w' := by
  have hlen := Lib.hid h.len
  have hn6 : n ≤ 6 := by have := hv.1; rw [hlen.out] at this; exact this
  have hpk : powI n ≤ 64 := powI_le6 (by omega)
  have hm6 := len_items s
  go_enter Try.func92, Try.ntmps92
  go_wp2_with fail
  refine (listOf_any s w h0 (by omega)).mono ?_
  rintro e w1 ⟨A', c', rfl, hL, hB1, -⟩
  have h1' := (h.below (hB1.mono hB))
  obtain ⟨m, hm⟩ : ∃ m, (itemsL s).length = m := ⟨_, rfl⟩
  have Hm := Lib.hid hm
  rw [hm] at hL hm6
  rw [hm]
  clear hm
  go_wp2
  go_loop [6] (fun i => ∃ k : Nat, k ≤ m ∧ i = .int .i64 k ∧ ∀ a, a < k → (andI (zs[itAt s a]?.getD 0) s == 0) = true) (fun i => m - (intOf i).toNat)
  case atStart => exact ⟨0, by omega, rfl, fun a ha => by omega⟩
  case round =>
    obtain ⟨k, hk, rfl, hall⟩ := hrel
    have Hall := Lib.hid hall
    clear hall
    by_cases hlt : k < m
    · obtain ⟨b, off, rfl, -, hc⟩ := hL.at_ hlt
      have hck := hc k hlt
      rw [itAt_cast (by rw [Hm.out]; exact hlt)] at hck
      have hin := itAt_lt hn6 h1 (a := k) (by rw [Hm.out]; exact hlt)
      have hz := hv.bd (itAt s k) (by rw [hlen.out]; exact hin)
      obtain ⟨b2, off2, rfl, -, hc2⟩ := h1'.at_ hin
      have hcz := hc2 _ hin
      clear hc hc2
      have hand : bits .and .i64 (zs[itAt s k]?.getD 0) s = andI (zs[itAt s k]?.getD 0) s := bits_and (by omega) (by omega) (by omega) (by omega)
      cases ha : (andI (zs[itAt s k]?.getD 0) s == 0)
      · have Hf := Lib.hid (apB_not (by rw [Hm.out]; exact hlt) ha)
        have hne : (andI (zs[itAt s k]?.getD 0) s != 0) = true := by simpa [bne] using ha
        go_wp2
        go_ret
        exact ⟨ret_bool Hf.out.symm, hB1⟩
      · have hne : (andI (zs[itAt s k]?.getD 0) s != 0) = false := by simpa [bne] using ha
        have Ha := Lib.hid ha
        go_wp2
        go_round
        case rel => exact ⟨k + 1, by omega, by go_num, all_snoc Hall.out Ha.out⟩
        case measure => simp [intOf]; omega
    · obtain rfl : k = m := by omega
      have Hf := Lib.hid (apB_of (zs := zs) (s := s) (by rw [Hm.out]; exact Hall.out))
      go_wp2
      go_ret
      exact ⟨ret_bool Hf.out.symm, hB1⟩

set_option maxHeartbeats 2000000 in
theorem specIsChain_any (A : Option Addr) (n c B : Nat) (zs : List Int) (s : Int) (hv : Sets zs) (w : World) (h : Ints w B A n zs) (hB : B ≤ w.heap.size) (h0 : 0 ≤ s) (h1 : s < powI n) :
    Calls Try.prog 91 #[.slice A n c, .int .i64 s] w fun e w' => e = .returned (.bool (chB zs s)) ∧ Below w.heap.size w w' := by
  have hlen := Lib.hid h.len
  have hn6 : n ≤ 6 := by have := hv.1; rw [hlen.out] at this; exact this
  have hpk : powI n ≤ 64 := powI_le6 (by omega)
  have hm6 := len_items s
  go_enter Try.func91, Try.ntmps91
  go_wp2_with fail
  refine (listOf_any s w h0 (by omega)).mono ?_
  rintro e w1 ⟨A', c', rfl, hL, hB1, -⟩
  have h1' := (h.below (hB1.mono hB))
  obtain ⟨m, hm⟩ : ∃ m, (itemsL s).length = m := ⟨_, rfl⟩
  have Hm := Lib.hid hm
  rw [hm] at hL hm6
  rw [hm]
  clear hm
  go_wp2
  go_loopw [6] (fun i wr => ∃ k q : Nat, k ≤ m ∧ i = .int .i64 k ∧ (∀ a, a < k → ∀ b, b < a → relB zs (itAt s a) (itAt s b) = true) ∧ wr = w1.drewN q) (fun i _ => m - (intOf i).toNat)
  case atStart => exact ⟨0, 0, by omega, rfl, fun a ha => by omega, rfl⟩
  case round =>
    obtain ⟨k, q, hk, rfl, hall, rfl⟩ := hrel
    have Hall := Lib.hid hall
    clear hall
    by_cases hlt : k < m
    · go_wp2
      go_loopw [7] (fun i wr => ∃ j q : Nat, j ≤ k ∧ i = .int .i64 j ∧ (∀ b, b < j → relB zs (itAt s k) (itAt s b) = true) ∧ wr = w1.drewN q) (fun i _ => k - (intOf i).toNat)
      case atStart => exact ⟨0, q, by omega, rfl, fun a ha => by omega, rfl⟩
      case round =>
        obtain ⟨j, q, hj, rfl, hrow, rfl⟩ := hrel
        have Hrow := Lib.hid hrow
        clear hrow
        by_cases hjk : j < k
        · obtain ⟨b, off, rfl, -, hc⟩ := hL.at_ hlt
          have hck := hc k hlt
          have hcj := hc j (by omega)
          rw [itAt_cast (by rw [Hm.out]; exact hlt)] at hck
          rw [itAt_cast (by rw [Hm.out]; omega)] at hcj
          have hik := itAt_lt hn6 h1 (a := k) (by rw [Hm.out]; exact hlt)
          have hij := itAt_lt hn6 h1 (a := j) (by rw [Hm.out]; omega)
          have hzk := hv.bd (itAt s k) (by rw [hlen.out]; exact hik)
          have hzj := hv.bd (itAt s j) (by rw [hlen.out]; exact hij)
          obtain ⟨b2, off2, rfl, -, hc2⟩ := h1'.at_ hik
          have hczk := hc2 _ hik
          have hczj := hc2 _ hij
          clear hc hc2
          have hrel : relB zs (itAt s k) (itAt s j) = (bitB (zs[itAt s k]?.getD 0) (itAt s j) || bitB (zs[itAt s j]?.getD 0) (itAt s k)) := rfl
          generalize hxk : itAt s k = xk at *
          generalize hxj : itAt s j = xj at *
          generalize zs[xk]?.getD 0 = zk at *
          generalize zs[xj]?.getD 0 = zj at *
          have Hxk := Lib.hid hxk
          have Hxj := Lib.hid hxj
          clear hxk hxj
          cases hb1 : bitB zk xj
          · have hbi1 : (bitI zk xj == 0) = true := by simp [bitI, hb1]
            cases hb2 : bitB zj xk
            · have hbi2 : (bitI zj xk == 0) = true := by simp [bitI, hb2]
              have Hf := Lib.hid (chB_not (zs := zs) (s := s) (a := k) (b := j) (by rw [Hm.out]; exact hlt) hjk (by rw [Hxk.out, Hxj.out, hrel, hb1, hb2]; rfl))
              clear hrel
              go_wp2
              go_quiet ((go_at_call 100; exact quiet_add_left (bit_any _ _ _ (by omega) (by omega) (by omega) (by omega))))
              go_wp2
              go_ret
              exact ⟨ret_bool Hf.out.symm, below_drewN (below_drewN hB1 _) _⟩
            · have hbi2 : (bitI zj xk == 0) = false := by simp [bitI, hb2]
              have Hr := Lib.hid (show relB zs xk (itAt s j) = true by rw [Hxj.out, hrel, hb1, hb2]; rfl)
              clear hrel
              go_wp2
              go_quiet ((go_at_call 100; exact quiet_add_left (bit_any _ _ _ (by omega) (by omega) (by omega) (by omega))))
              go_wp2
              go_roundw
              case rel => exact ⟨j + 1, _, by omega, by go_num, all_snoc Hrow.out Hr.out, rfl⟩
              case measure => simp [intOf]; omega
          · have hbi1 : (bitI zk xj == 0) = false := by simp [bitI, hb1]
            have Hr := Lib.hid (show relB zs xk (itAt s j) = true by rw [Hxj.out, hrel, hb1]; rfl)
            clear hrel
            go_wp2
            go_quiet ((go_at_call 100; exact quiet_add_left (bit_any _ _ _ (by omega) (by omega) (by omega) (by omega))))
            go_wp2
            go_roundw
            case rel => exact ⟨j + 1, _, by omega, by go_num, all_snoc Hrow.out Hr.out, rfl⟩
            case measure => simp [intOf]; omega
        · obtain rfl : j = k := by omega
          go_wp2
          go_roundw
          case rel => exact ⟨j + 1, q, by omega, by go_num, all_snoc Hall.out Hrow.out, rfl⟩
          case measure => simp [intOf]; omega
    · obtain rfl : k = m := by omega
      have Hf := Lib.hid (chB_of (zs := zs) (s := s) (by rw [Hm.out]; exact Hall.out))
      go_wp2
      go_ret
      exact ⟨ret_bool Hf.out.symm, below_drewN hB1 _⟩
end Go.Proofs.Ytgeicciieagbgaa

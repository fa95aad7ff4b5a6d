/- The pairs that one of two orders has: the program's. -/
import Derived.Test.YtghogabmkbadjabGxp
set_option linter.unusedVariables false
set_option linter.unusedSimpArgs false
namespace Go.Proofs.Ytghogabmkbadjab
open Go.RowKit Go.Shelf
attribute [local go_sem] Oper.semAt_some
attribute [local go_sem, local simp] wide_fn

set_option maxRecDepth 100000 in
set_option maxHeartbeats 4000000 in
theorem either_any (A : Option Addr) (n c : Nat) (xs : List Int) (A' : Option Addr) (c' : Nat) (ys : List Int) (w : World) (h : Ints w w.heap.size A n xs) (h' : Ints w w.heap.size A' n ys) (hn : n ≤ 6)
    (hx : ∀ a, a < n → 0 ≤ xs[a]?.getD 0 ∧ xs[a]?.getD 0 < powI n) (hy : ∀ a, a < n → 0 ≤ ys[a]?.getD 0 ∧ ys[a]?.getD 0 < powI n) :
    Calls Try.prog 110 #[.slice A n c, .slice A' n c'] w fun e w' => ∃ v, e = .returned v ∧ OwnS (fun k => w.heap.size ≤ k) w' w.heap.size 76 v (opL orI xs ys n) ∧ Below w.heap.size w w' := by
  have Hl := Lib.hid h.len
  have Hol := Lib.hid (fun k => opL_len orI xs ys k)
  go_enter Try.func110, Try.ntmps110
  go_wp2_with fail
  refine (clone_any A n c xs w h hn).mono ?_
  rintro e w1 ⟨v1, rfl, hO1, hB1⟩
  have z1 := hB1.size
  go_wp2_with fail
  go_loopw [12] (fun i wr => ∃ k : Nat, k ≤ n ∧ i = .int .i64 k ∧ OwnS (fun j => w.heap.size ≤ j) wr w.heap.size 76 v1 (opL orI xs ys k) ∧ Below w.heap.size w wr) (fun i _ => n - (intOf i).toNat)
  case atStart => exact ⟨0, by omega, rfl, by rw [opL_zero]; exact hO1, hB1⟩
  case round =>
    clear hO1 hB1
    obtain ⟨k, hk, rfl, hO, hB⟩ := hrel
    rename World => wr
    by_cases hlt : k < n
    · obtain ⟨b2, off2, rfl, hb2, hc2⟩ := (h'.below hB).at_ hlt
      have hck := hc2 k hlt
      clear hc2
      have hln : (opL orI xs ys k).length = n := by rw [Hol.out]; exact Hl.out
      have hOr := hO.2
      rw [hln] at hOr
      obtain ⟨g, cap, rfl⟩ := own_some hOr (by omega)
      have hgl : w.heap.size ≤ g := hO.1 g rfl
      obtain ⟨hcs, hfs, hgw⟩ := own_cell hOr
      have hcg := hcs k hlt
      have hfg := hfs k
      clear hcs hfs
      have hxy := hx k hlt
      have hyy := hy k hlt
      have Hst := Lib.hid (opL_step orI xs ys (k := k) (by rw [Hl.out]; exact hlt))
      have hxk : (opL orI xs ys k)[k]?.getD 0 = xs[k]?.getD 0 := by rw [opL_get orI xs ys k (by rw [Hl.out]; exact hlt), if_neg (by omega)]
      rw [hxk] at hcg Hst
      have Hln := Lib.hid hln
      have HOr := Lib.hid hOr
      have HS := Lib.hid hO.1
      clear hln hxk hOr hO
      have hpn := powI_le6 (n := (n : Int)) (by omega)
      have hand : bits .or .i64 (xs[k]?.getD 0) (ys[k]?.getD 0) = orI (xs[k]?.getD 0) (ys[k]?.getD 0) := bits_or (by omega) (by omega) (by omega) (by omega)
      have Hset := Lib.hid (own_setI HOr.out k (orI (xs[k]?.getD 0) (ys[k]?.getD 0)))
      rw [Hst.out] at Hset
      generalize orI (xs[k]?.getD 0) (ys[k]?.getD 0) = z at *
      generalize xs[k]?.getD 0 = x at *
      generalize ys[k]?.getD 0 = y at *
      go_wp2_with fail
      go_roundw
      case rel => exact ⟨k + 1, by omega, by go_num, ⟨HS.out, by rw [Hol.out, Hl.out]; exact Hset.out⟩, hB.setCell (p := ⟨g, k, none⟩) hgl _⟩
      case measure => simp [intOf]; omega
    · obtain rfl : k = n := by omega
      go_wp2_with fail
      go_ret
      exact ⟨v1, rfl, hO, hB⟩
end Go.Proofs.Ytghogabmkbadjab

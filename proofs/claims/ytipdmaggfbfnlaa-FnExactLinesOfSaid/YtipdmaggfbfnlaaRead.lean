/- 'readOrder': what a list tells as an order. -/
import Derived.Test.YtipdmaggfbfnlaaIsOrder
import Derived.Test.YtipdmaggfbfnlaaGa
import Derived.OwnWalk
set_option linter.unusedVariables false
set_option linter.unusedSimpArgs false
namespace Go.Proofs.Ytipdmaggfbfnlaa
open Go.RowKit

theorem infoItems : (Try.prog.info? 79).map (fun i => (i.zero, i.size, i.bytes)) = some (some (.int .i64 0), 1, 8) := by kernel_rfl
theorem infoInt : (Try.prog.info? 3).map (fun i => (i.zero, i.size, i.bytes)) = some (some (.int .i64 0), 1, 8) := by kernel_rfl

/-- What has been copied when k rounds are over. -/
def copied (zs : List Int) (n k : Nat) : List Int := zs.take k ++ List.replicate (n - k) 0
theorem copied_zero (zs : List Int) (n : Nat) : copied zs n 0 = List.replicate n 0 := by simp [copied]
theorem copied_full {zs : List Int} {n : Nat} (h : zs.length = n) : copied zs n n = zs := by subst h; simp [copied]
theorem copied_len {zs : List Int} {n k : Nat} (h : zs.length = n) (hk : k ≤ n) : (copied zs n k).length = n := by simp [copied]; omega
theorem copied_succ {zs : List Int} {n k : Nat} (h : zs.length = n) (hk : k < n) : (copied zs n k).set k (zs[k]?.getD 0) = copied zs n (k + 1) := by
  have hl : (zs.take k).length = k := by simp; omega
  rw [copied, List.set_append_right _ _ (by omega), hl, Nat.sub_self, copied, List.take_succ_eq_append_getElem (by omega), show n - k = (n - (k + 1)) + 1 from by omega, List.replicate_succ, List.set_cons_zero,
    List.getElem?_eq_getElem (by omega : k < zs.length), Option.getD_some, List.append_assoc, List.singleton_append]

/-- What 'readOrder' hands back. -/
def Reads (zs : List Int) (n : Nat) (w : World) (e : Ending) (w' : World) : Prop :=
  Below w.heap.size w w' ∧ ((vo zs = true ∧ ∃ b, e = .returned (.tuple #[.slice (some ⟨b, 0, none⟩) n n, .bool true]) ∧ w.heap.size ≤ b ∧ Arr w' b 79 zs) ∨
    (vo zs = false ∧ e = .returned (.tuple #[.slice none 0 0, .bool false])))

set_option maxHeartbeats 1000000 in
theorem readOrder_any (A : Option Addr) (n c : Nat) (zs : List Int) (w : World) (hA : Ints w w.heap.size A n zs) (hbig : n ≤ 1152921504606846976) :
    Calls Try.prog 60 #[.slice A n c] w (Reads zs n w) := by
  have hlen := Lib.hid hA.len
  by_cases h6 : n ≤ 6
  · have hmk := run_make_row' (P := Try.prog) 43 79 (.int .i64 0) 8 Try.underlying43 infoItems rfl .i64 .i64 n (by omega) (by omega)
    go_enter Try.func60, Try.ntmps60
    go_wp2
    have hA1 := Arr.new w 79 n
    have hB1 : Below w.heap.size w (w.alloc (.cells (madeCells #[.int .i64 0] n) 79)) := (Below.refl _ _).alloc (Nat.le_refl _) _
    obtain ⟨W1, hW1⟩ : ∃ W1, w.alloc (.cells (madeCells #[.int .i64 0] n) 79) = W1 := ⟨_, rfl⟩
    rw [hW1] at hA1 hB1 ⊢
    clear hW1 hmk
    go_loopw [16] (fun i wr => ∃ k : Nat, k ≤ n ∧ i = .int .i64 k ∧ (∀ a, a < k → inB (zs[a]?.getD 0) 0 (powI n - 1) = true) ∧ Arr wr w.heap.size 79 (copied zs n k) ∧ Below w.heap.size w wr) (fun i _ => n - (intOf i).toNat)
    case atStart => exact ⟨0, by omega, rfl, fun a ha => by omega, by rw [copied_zero]; exact hA1, hB1⟩
    case round =>
      obtain ⟨k, hk, rfl, hok, hAr, hB⟩ := hrel
      have Hok := Lib.hid hok
      have Hcl := Lib.hid (copied_len hlen.out hk)
      clear hok
      by_cases hlt : k < n
      · obtain ⟨b, off, rfl, hbw, hc⟩ := (hA.below hB).at_ hlt
        have hck := hc k hlt
        have hcs := hAr.cell (k := k) (by rw [Hcl.out]; exact hlt)
        have hfs := hAr.frozen k
        clear hc
        cases hin : inB (zs[k]?.getD 0) 0 (powI n - 1)
        · have Hf := Lib.hid (show vo zs = false from vo_false (VoP_not_A (k := k) (by rw [hlen.out]; exact hlt) (by rw [hlen.out]; simp [okA, hin])))
          go_wp2_with (go_at_call 101; refine (isSetOf_any _ _ _ (by omega) (by omega)).mono ?_; rintro e w' ⟨rfl, rfl⟩)
          go_ret2
          exact ⟨hB, .inr ⟨Hf.out, rfl⟩⟩
        · have Hin := Lib.hid hin
          have Hcp := Lib.hid (copied_succ hlen.out hlt)
          go_wp2_with (go_at_call 101; refine (isSetOf_any _ _ _ (by omega) (by omega)).mono ?_; rintro e w' ⟨rfl, rfl⟩)
          go_roundw
          case rel => exact ⟨k + 1, by omega, by go_num, all_snoc Hok.out Hin.out, by rw [← Hcp.out]; exact hAr.set _ _, hB.setCell (p := ⟨w.heap.size, k, none⟩) (Nat.le_refl _) _⟩
          case measure => simp [intOf]; omega
      · obtain rfl : k = n := by omega
        have Hfull := Lib.hid (copied_full hlen.out)
        have hAf : Arr wr w.heap.size 79 zs := by rw [← Hfull.out]; exact hAr
        have hSets : Sets zs := ⟨by rw [hlen.out]; exact h6, fun a ha => by
          have := Hok.out a (by rw [← hlen.out]; exact ha)
          rw [hlen.out]
          simp [inB] at this
          omega⟩
        have hlt' := hAf.lt
        have hsz := hB.size
        have HI := Lib.hid (iso_vo hSets)
        have hSets' := Lib.hid hSets
        clear hSets
        cases hv : vo zs
        · have HI2 := Lib.hid (HI.out.trans hv)
          have hiso : iso zs = false := HI2.out
          go_wp2_with (go_at_call 104; refine (isOrder_any _ _ _ zs hSets'.out _ (hAf.ints' (by omega) hlen.out)).mono ?_; rintro e w1 ⟨rfl, hb1⟩)
          go_ret2
          exact ⟨hB.trans (hb1.mono hsz), .inr ⟨hv, rfl⟩⟩
        · have HI2 := Lib.hid (HI.out.trans hv)
          have hiso : iso zs = true := HI2.out
          go_wp2_with (go_at_call 104; refine (isOrder_any _ _ _ zs hSets'.out _ (hAf.ints' (by omega) hlen.out)).mono ?_; rintro e w1 ⟨rfl, hb1⟩)
          go_ret2
          exact ⟨hB.trans (hb1.mono hsz), .inl ⟨hv, w.heap.size, rfl, Nat.le_refl _, hAf.below hb1 hlt'⟩⟩
  · have Hf := Lib.hid (show vo zs = false from vo_false fun hv => by have := hv.1; rw [hlen.out] at this; omega)
    go_enter Try.func60, Try.ntmps60
    go_wp2
    go_ret2
    exact ⟨Below.refl _ _, .inr ⟨Hf.out, rfl⟩⟩
end Go.Proofs.Ytipdmaggfbfnlaa

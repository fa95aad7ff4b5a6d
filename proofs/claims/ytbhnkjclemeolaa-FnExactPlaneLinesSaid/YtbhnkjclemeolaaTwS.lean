/- Two pairs apart, three items and one apart, zigzags: the model's. -/
import Derived.Test.YtbhnkjclemeolaaGb
import Derived.Test.YtbhnkjclemeolaaGa
set_option linter.unusedVariables false
set_option linter.unusedSimpArgs false
namespace Go.Proofs.Ytbhnkjclemeolaa
open Go.RowKit

theorem quiet_add_some {P : Program} {f : FuncId} {args : Array Value} {w : World} {a n : Nat} {v : Value}
    (h : Calls P f args (w.drewN (a + n)) fun e w' => e = .returned v ∧ ∃ m, w' = (w.drewN (a + n)).drewN m) :
    Calls P f args (w.drewN (a + n)) fun e w'' => e = .returned v ∧ ∃ m, w'' = w.drewN (a + m) :=
  h.mono fun _ _ ⟨he, m, hm⟩ => ⟨he, n + m, by rw [hm, World.drewN_drewN, Nat.add_assoc]⟩
theorem ne_cast (a b : Nat) : (((a : Int)) != ((b : Int))) = !(a == b) := by
  rw [Bool.eq_iff_iff]; simp [bne]; omega
theorem bit_one (s j : Int) {v : Bool} (h : bitB s j = v) : (bitI s j == 1) = v := by rw [bitI_one, h]

set_option maxHeartbeats 1000000 in
theorem related_any (A : Option Addr) (n c B : Nat) (zs : List Int) (hv : Sets zs) (w : World) (h : Ints w B A n zs) (a b : Nat) (ha : a < n) (hb : b < n) :
    Calls Try.prog 47 #[.slice A n c, .int .i64 (a : Int), .int .i64 (b : Int)] w fun e w' => e = .returned (.bool (relB zs a b)) ∧ w = w' := by
  have hlen := Lib.hid h.len
  have za := hv.bd a (by rw [hlen.out]; exact ha)
  have zb := hv.bd b (by rw [hlen.out]; exact hb)
  have hn6 : n ≤ 6 := by have := hv.1; rw [hlen.out] at this; exact this
  obtain ⟨bk, off, rfl, -, hc⟩ := h.at_ ha
  have hca := hc a ha
  have hcb := hc b hb
  clear hc
  have Hr := Lib.hid (show relB zs a b = (bitB (zs[a]?.getD 0) b || bitB (zs[b]?.getD 0) a) from rfl)
  generalize zs[a]?.getD 0 = xa at *
  generalize zs[b]?.getD 0 = xb at *
  cases e1 : bitB xa b
  · have hi1 := bit_one _ _ e1
    cases e2 : bitB xb a
    · have hi2 := bit_one _ _ e2
      have Hf := Lib.hid (show relB zs a b = false by rw [Hr.out, e1, e2]; rfl)
      go_enter Try.func47, Try.ntmps47
      go_wp2_with (go_at_call 49; refine (bit_any _ _ _ (by omega) (by omega) (by omega) (by omega)).mono ?_; rintro e w' ⟨rfl, rfl⟩)
      go_ret
      exact ⟨ret_bool Hf.out.symm, rfl⟩
    · have hi2 := bit_one _ _ e2
      have Hf := Lib.hid (show relB zs a b = true by rw [Hr.out, e1, e2]; rfl)
      go_enter Try.func47, Try.ntmps47
      go_wp2_with (go_at_call 49; refine (bit_any _ _ _ (by omega) (by omega) (by omega) (by omega)).mono ?_; rintro e w' ⟨rfl, rfl⟩)
      go_ret
      exact ⟨ret_bool Hf.out.symm, rfl⟩
  · have hi1 := bit_one _ _ e1
    have Hf := Lib.hid (show relB zs a b = true by rw [Hr.out, e1]; rfl)
    go_enter Try.func47, Try.ntmps47
    go_wp2_with (go_at_call 49; refine (bit_any _ _ _ (by omega) (by omega) (by omega) (by omega)).mono ?_; rintro e w' ⟨rfl, rfl⟩)
    go_ret
    exact ⟨ret_bool Hf.out.symm, rfl⟩
end Go.Proofs.Ytbhnkjclemeolaa

/- The longest chain and the widest set apart: words, and the model's helper. -/
import Derived.Test.YtgeicciieagbgaaChSp
import Derived.Test.YtgeicciieagbgaaCnt
namespace Go.Proofs.Ytgeicciieagbgaa
open Go.RowKit

theorem maxL_snoc (f : Nat → Int) (l : List Nat) (a : Nat) : maxL f (l ++ [a]) = max (maxL f l) (f a + 1) := by simp [maxL]
theorem maxL_range (f : Nat → Int) (k : Nat) : maxL f (List.range (k + 1)) = max (maxL f (List.range k)) (f k + 1) := by rw [List.range_succ, maxL_snoc]
theorem hgts_get {zs : List Int} {n k : Nat} (hk : k < n) : ((List.range n).map (hgt zs))[k]?.getD 0 = hgt zs k := by simp [hk]

set_option maxHeartbeats 1000000 in
theorem longest_any (A : Option Addr) (n c : Nat) (zs : List Int) (w : World) (h : Ints w w.heap.size A n zs) (hv : VoP zs) :
    Calls Try.prog 94 #[.slice A n c] w fun e w' => e = .returned (.int .i64 (longI zs)) ∧ Below w.heap.size w w' := by
  have hlen := Lib.hid h.len
  have hn6 : n ≤ 6 := by have := hv.1; rw [hlen.out] at this; exact this
  have hL := Lib.hid (show longI zs = maxL (hgt zs) (List.range n) by unfold longI; rw [hlen.out])
  go_enter Try.func94, Try.ntmps94
  go_wp2_with fail
  refine (levels_any A n c zs w h hv).mono ?_
  rintro e w1 ⟨rfl, hAr, hB1⟩
  go_wp2
  go_loop [3, 5] (fun t i => ∃ k : Nat, k ≤ n ∧ i = .int .i64 k ∧ t = .int .i64 (maxL (hgt zs) (List.range k))) (fun _ i => n - (intOf i).toNat)
  case atStart => exact ⟨0, by omega, rfl, rfl⟩
  case round =>
    obtain ⟨k, hk, rfl, rfl⟩ := hrel
    by_cases hlt : k < n
    · have hck := hAr.cell (k := k) (by simpa using hlt)
      rw [hgts_get hlt] at hck
      have hb0 := hgt_nn zs k
      have hb1 := hgt_bd hv (b := k) (by rw [hlen.out]; exact hlt)
      rw [hlen.out] at hb1
      have Hm := Lib.hid (maxL_range (hgt zs) k)
      generalize hq : maxL (hgt zs) (List.range k) = q at *
      generalize hgt zs k = hk' at *
      go_wp2
      all_goals go_round
      case rel => exact ⟨k + 1, by omega, by go_num, by rw [Hm.out]; first | rfl | (congr 1; omega)⟩
      case measure => simp [intOf]; omega
    · obtain rfl : k = n := by omega
      go_wp2
      go_ret
      exact ⟨ret_int hL.out.symm, hB1⟩
def longR (zs : List Int) : Int := if vo zs then longI zs else -1
def wideR (zs : List Int) : Int := if vo zs then grTo (apB zs) (setsN zs) else -1
end Go.Proofs.Ytgeicciieagbgaa

/- The greatest number of a list, 0 if there is none. -/
import Derived.Test.YtgeicciieagbgaaWide
namespace Go.Proofs.Ytgeicciieagbgaa
open Go.RowKit

def topI (zs : List Int) : Nat → Int
  | 0 => 0
  | k + 1 => max (topI zs k) (zs[k]?.getD 0)
set_option maxHeartbeats 1000000 in
theorem greatestOfL_any (A : Option Addr) (n c B : Nat) (zs : List Int) (w : World) (h : Ints w B A n zs) (hbig : n ≤ 1152921504606846976) :
    Calls Try.prog 32 #[.slice A n c] w fun e w' => e = .returned (.int .i64 (topI zs n)) ∧ w = w' := by
  go_enter Try.func32, Try.ntmps32
  go_wp2
  go_loop [3, 4] (fun t i => ∃ k : Nat, k ≤ n ∧ i = .int .i64 k ∧ t = .int .i64 (topI zs k)) (fun _ i => n - (intOf i).toNat)
  case atStart => exact ⟨0, by omega, rfl, rfl⟩
  case round =>
    obtain ⟨k, hk, rfl, rfl⟩ := hrel
    by_cases hlt : k < n
    · obtain ⟨b, off, rfl, _, hc⟩ := h.at_ hlt
      have hck := hc k hlt
      clear hc
      have Hs := Lib.hid (show topI zs (k + 1) = max (topI zs k) (zs[k]?.getD 0) from rfl)
      generalize topI zs k = q at *
      generalize zs[k]?.getD 0 = z at *
      go_wp2
      all_goals go_round
      case rel => exact ⟨k + 1, by omega, by go_num, by rw [Hs.out]; first | rfl | (congr 1; omega)⟩
      case measure => simp [intOf]; omega
    · obtain rfl : k = n := by omega
      go_wp2
      go_ret
      exact ⟨rfl, rfl⟩
theorem topI_hgt {zs : List Int} (h : VoP zs) : ∀ k : Nat, k ≤ zs.length → topI ((List.range zs.length).map (hgt zs)) k = max 0 (maxL (hgt zs) (List.range k) - 1)
  | 0, _ => by show (0 : Int) = max 0 (0 - 1); decide
  | k + 1, hk => by
    have ih := topI_hgt h k (by omega)
    have hn := hgt_nn zs k
    rw [topI, ih, hgts_get (by omega), maxL_range]
    omega
theorem topI_long {zs : List Int} (h : VoP zs) (h0 : 0 < zs.length) : topI ((List.range zs.length).map (hgt zs)) zs.length = longI zs - 1 := by
  rw [topI_hgt h _ (Nat.le_refl _)]
  have h1 := longI_gt (zs := zs) (a := 0) h0
  have h2 := hgt_nn zs 0
  unfold longI at *
  omega
end Go.Proofs.Ytgeicciieagbgaa

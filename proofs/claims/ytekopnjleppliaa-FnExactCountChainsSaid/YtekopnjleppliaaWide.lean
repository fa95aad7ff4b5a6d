/- LongestChain and WidestApart: the model's and the program's. -/
import Derived.Test.YtekopnjleppliaaChSp
import Derived.Test.YtekopnjleppliaaCnt
namespace Go.Proofs.Ytekopnjleppliaa
open Go.RowKit

theorem maxL_snoc (f : Nat → Int) (l : List Nat) (a : Nat) : maxL f (l ++ [a]) = max (maxL f l) (f a + 1) := by simp [maxL]
theorem maxL_range (f : Nat → Int) (k : Nat) : maxL f (List.range (k + 1)) = max (maxL f (List.range k)) (f k + 1) := by rw [List.range_succ, maxL_snoc]
theorem hgts_get {zs : List Int} {n k : Nat} (hk : k < n) : ((List.range n).map (hgt zs))[k]?.getD 0 = hgt zs k := by simp [hk]

set_option maxHeartbeats 1000000 in
theorem longest_any (A : Option Addr) (n c : Nat) (zs : List Int) (w : World) (h : Ints w w.heap.size A n zs) (hv : VoP zs) :
    Calls Try.prog 62 #[.slice A n c] w fun e w' => e = .returned (.int .i64 (longI zs)) ∧ Below w.heap.size w w' := by
  have hlen := Lib.hid h.len
  have hn6 : n ≤ 6 := by have := hv.1; rw [hlen.out] at this; exact this
  have hL := Lib.hid (show longI zs = maxL (hgt zs) (List.range n) by unfold longI; rw [hlen.out])
  go_enter Try.func62, Try.ntmps62
  go_wp2_with fail
  refine (levels_any A n c zs w h hv).mono ?_
  rintro e w1 ⟨rfl, hAr, hB1⟩
  go_wp2
  go_loop [3, 5] (fun t i => ∃ k : Nat, k ≤ n ∧ i = .int .i64 k ∧ t = .int .i64 (maxL (hgt zs) (List.range k))) (fun _ i => n - (intOf i).toNat)
  case atStart => exact ⟨0, by omega, rfl, rfl⟩
  case round =>
    obtain ⟨k, hk, rfl, rfl⟩ := hrel
    by_cases hlt : k < n
    · have hck := hAr.cell (k := k) (by simpa using hlt)
      rw [hgts_get hlt] at hck
      have hb0 := hgt_nn zs k
      have hb1 := hgt_bd hv (b := k) (by rw [hlen.out]; exact hlt)
      rw [hlen.out] at hb1
      have Hm := Lib.hid (maxL_range (hgt zs) k)
      generalize hq : maxL (hgt zs) (List.range k) = q at *
      generalize hgt zs k = hk' at *
      go_wp2
      all_goals go_round
      case rel => exact ⟨k + 1, by omega, by go_num, by rw [Hm.out]; first | rfl | (congr 1; omega)⟩
      case measure => simp [intOf]; omega
    · obtain rfl : k = n := by omega
      go_wp2
      go_ret
      exact ⟨ret_int hL.out.symm, hB1⟩

set_option maxHeartbeats 2000000 in
theorem widest_any (A : Option Addr) (n c : Nat) (zs : List Int) (w : World) (h : Ints w w.heap.size A n zs) (hv : VoP zs) :
    Calls Try.prog 64 #[.slice A n c] w fun e w' => e = .returned (.int .i64 (grTo (apB zs) (2 ^ n))) ∧ Below w.heap.size w w' := by
  have hlen := Lib.hid h.len
  have hn6 : n ≤ 6 := by have := hv.1; rw [hlen.out] at this; exact this
  have hp6 : (2 : Nat) ^ n ≤ 2 ^ 6 := Nat.pow_le_pow_right (by decide) hn6
  have hN : powI n = ((2 ^ n : Nat) : Int) := by simp [powI]
  generalize (2 : Nat) ^ n = N at *
  go_enter Try.func64, Try.ntmps64
  go_wp2
  go_loopw [3, 4] (fun t i wr => ∃ k : Nat, k ≤ N ∧ i = .int .i64 k ∧ t = .int .i64 (grTo (apB zs) k) ∧ Below w.heap.size w wr) (fun _ i _ => N - (intOf i).toNat)
  case atStart => exact ⟨0, by omega, rfl, rfl, Below.refl _ _⟩
  case round =>
    obtain ⟨k, hk, rfl, rfl, hB⟩ := hrel
    have hz := hB.size
    have hI := h.below hB
    have hg0 := grTo_nn (apB zs) k
    have hg1 := grTo_bd (apB zs) k (by omega)
    have Hs := Lib.hid (show grTo (apB zs) (k + 1) = if apB zs k then max (grTo (apB zs) k) (popI k) else grTo (apB zs) k from rfl)
    generalize hG : grTo (apB zs) k = G at *
    have HG := Lib.hid hG
    clear hG
    by_cases hlt : k < N
    · have hpb := popI_bd (s := (k : Int)) (by omega) (by omega)
      by_cases hgt : G < popI (k : Int)
      · cases hap : apB zs (k : Int)
        · have Hn := Lib.hid (show grTo (apB zs) (k + 1) = G by rw [Hs.out, hap]; rfl)
          go_wp2_with (first
            | (go_at_call 67; refine (power_any _ _ (by omega) (by omega)).mono ?_; rintro e w' ⟨rfl, rfl⟩)
            | (go_at_call 74; refine (bits_any _ _ (by omega) (by omega)).mono ?_; rintro e w' ⟨rfl, rfl⟩)
            | (go_at_call 59; refine (specIsApart_any _ _ _ w.heap.size zs k hv.sets _ hI hz (by omega) (by omega)).mono ?_; rintro e w2 ⟨rfl, hB2⟩))
          go_roundw
          case rel => exact ⟨k + 1, by omega, by go_num, by rw [Hn.out], hB.trans (hB2.mono hz)⟩
          case measure => simp [intOf]; omega
        · have Hn := Lib.hid (show grTo (apB zs) (k + 1) = popI (k : Int) by rw [Hs.out, hap]; simp only [if_true]; omega)
          go_wp2_with (first
            | (go_at_call 67; refine (power_any _ _ (by omega) (by omega)).mono ?_; rintro e w' ⟨rfl, rfl⟩)
            | (go_at_call 74; refine (bits_any _ _ (by omega) (by omega)).mono ?_; rintro e w' ⟨rfl, rfl⟩)
            | (go_at_call 59; refine (specIsApart_any _ _ _ w.heap.size zs k hv.sets _ hI hz (by omega) (by omega)).mono ?_; rintro e w2 ⟨rfl, hB2⟩))
          go_roundw
          case rel => exact ⟨k + 1, by omega, by go_num, by rw [Hn.out], hB.trans (hB2.mono hz)⟩
          case measure => simp [intOf]; omega
      · have Hn := Lib.hid (show grTo (apB zs) (k + 1) = G by rw [Hs.out]; split <;> omega)
        go_wp2_with (first
          | (go_at_call 67; refine (power_any _ _ (by omega) (by omega)).mono ?_; rintro e w' ⟨rfl, rfl⟩)
          | (go_at_call 74; refine (bits_any _ _ (by omega) (by omega)).mono ?_; rintro e w' ⟨rfl, rfl⟩))
        go_roundw
        case rel => exact ⟨k + 1, by omega, by go_num, by rw [Hn.out], hB⟩
        case measure => simp [intOf]; omega
    · obtain rfl : k = N := by omega
      go_wp2_with (go_at_call 67; refine (power_any _ _ (by omega) (by omega)).mono ?_; rintro e w' ⟨rfl, rfl⟩)
      go_ret
      exact ⟨ret_int HG.out.symm, hB⟩

def longR (zs : List Int) : Int := if vo zs then longI zs else -1
def wideR (zs : List Int) : Int := if vo zs then grTo (apB zs) (setsN zs) else -1

theorem specLongestChainF_any (A : Option Addr) (n c : Nat) (zs : List Int) (w : World) (h : Ints w w.heap.size A n zs) (hbig : n ≤ 1152921504606846976) :
    Calls Try.prog 21 #[.slice A n c] w fun e w' => e = .returned (.int .i64 (longR zs)) ∧ Below w.heap.size w w' := by
  have hlen := Lib.hid h.len
  cases hv : vo zs
  · have Ht := Lib.hid (show longR zs = -1 by unfold longR; rw [hv]; rfl)
    go_enter Try.func21, Try.ntmps21
    go_wp2_with (go_at_call 61; refine (validOrder_any _ _ _ _ zs _ h hbig).mono ?_; rintro e w' ⟨rfl, m, rfl⟩)
    go_ret
    exact ⟨ret_int Ht.out.symm, below_drewN (Below.refl _ _) m⟩
  · have hvo : VoP zs := by simpa [vo] using hv
    have Ht := Lib.hid (show longR zs = longI zs by unfold longR; rw [hv]; rfl)
    go_enter Try.func21, Try.ntmps21
    go_wp2_with (first
      | (go_at_call 61; refine (validOrder_any _ _ _ _ zs _ h hbig).mono ?_; rintro e w' ⟨rfl, m, rfl⟩)
      | (go_at_call 62; refine (longest_any _ _ _ zs _ (h.drewN m) hvo).mono ?_; rintro e w' ⟨rfl, hB⟩))
    go_ret
    exact ⟨ret_int Ht.out.symm, (below_drewN (Below.refl _ _) m).trans hB⟩

theorem LongestChain_any (A : Option Addr) (n c : Nat) (zs : List Int) (w : World) (h : Ints w w.heap.size A n zs) (hbig : n ≤ 1152921504606846976) :
    Calls Try.prog 22 #[.slice A n c] w fun e w' => e = .returned (.int .i64 (longR zs)) ∧ Below w.heap.size w w' := by
  have hlen := Lib.hid h.len
  cases hv : vo zs
  · have Ht := Lib.hid (show longR zs = -1 by unfold longR; rw [hv]; rfl)
    have Hv := Lib.hid hv
    clear hv
    go_enter Try.func22, Try.ntmps22
    go_wp2_with fail
    refine (readOrder_any _ _ _ zs _ h hbig).mono ?_
    rintro e w' ⟨hB, (⟨hv, b, rfl, _, _⟩ | ⟨_, rfl⟩)⟩
    · rw [Hv.out] at hv; cases hv
    · go_wp2_with fail
      go_ret
      exact ⟨ret_int Ht.out.symm, hB⟩
  · have hvo : VoP zs := by simpa [vo] using hv
    have Hv := Lib.hid hv
    clear hv
    have hn6 : n ≤ 6 := by have := hvo.1; rw [hlen.out] at this; exact this
    have Ht := Lib.hid (show longR zs = grTo (chB zs) (2 ^ n) by unfold longR; rw [Hv.out]; have := gr_long hvo; unfold setsN at this; rw [hlen.out] at this; rw [this]; rfl)
    go_enter Try.func22, Try.ntmps22
    go_wp2_with fail
    refine (readOrder_any _ _ _ zs _ h hbig).mono ?_
    rintro e w' ⟨hB, (⟨_, b, rfl, hb, hAr⟩ | ⟨hv, _⟩)⟩
    · go_wp2_with (go_at_call 63; refine (greatestOf_any 58 enters_chain _ _ _ zs (chB zs) hn6 _ (hAr.ints' hAr.lt hlen.out) (tests_chain _ _ _ zs hvo)).mono ?_; rintro e w2 ⟨rfl, hB2⟩)
      go_ret
      exact ⟨ret_int Ht.out.symm, hB.trans (hB2.mono hB.size)⟩
    · rw [Hv.out] at hv; cases hv

theorem specWidestApartF_any (A : Option Addr) (n c : Nat) (zs : List Int) (w : World) (h : Ints w w.heap.size A n zs) (hbig : n ≤ 1152921504606846976) :
    Calls Try.prog 23 #[.slice A n c] w fun e w' => e = .returned (.int .i64 (wideR zs)) ∧ Below w.heap.size w w' := by
  have hlen := Lib.hid h.len
  cases hv : vo zs
  · have Ht := Lib.hid (show wideR zs = -1 by unfold wideR; rw [hv]; rfl)
    go_enter Try.func23, Try.ntmps23
    go_wp2_with (go_at_call 61; refine (validOrder_any _ _ _ _ zs _ h hbig).mono ?_; rintro e w' ⟨rfl, m, rfl⟩)
    go_ret
    exact ⟨ret_int Ht.out.symm, below_drewN (Below.refl _ _) m⟩
  · have hvo : VoP zs := by simpa [vo] using hv
    have Ht := Lib.hid (show wideR zs = grTo (apB zs) (2 ^ n) by unfold wideR; rw [hv]; simp [setsN, hlen.out])
    go_enter Try.func23, Try.ntmps23
    go_wp2_with (first
      | (go_at_call 61; refine (validOrder_any _ _ _ _ zs _ h hbig).mono ?_; rintro e w' ⟨rfl, m, rfl⟩)
      | (go_at_call 64; refine (widest_any _ _ _ zs _ (h.drewN m) hvo).mono ?_; rintro e w' ⟨rfl, hB⟩))
    go_ret
    exact ⟨ret_int Ht.out.symm, (below_drewN (Below.refl _ _) m).trans hB⟩

theorem WidestApart_any (A : Option Addr) (n c : Nat) (zs : List Int) (w : World) (h : Ints w w.heap.size A n zs) (hbig : n ≤ 1152921504606846976) :
    Calls Try.prog 24 #[.slice A n c] w fun e w' => e = .returned (.int .i64 (wideR zs)) ∧ Below w.heap.size w w' := by
  have hlen := Lib.hid h.len
  cases hv : vo zs
  · have Ht := Lib.hid (show wideR zs = -1 by unfold wideR; rw [hv]; rfl)
    have Hv := Lib.hid hv
    clear hv
    go_enter Try.func24, Try.ntmps24
    go_wp2_with fail
    refine (readOrder_any _ _ _ zs _ h hbig).mono ?_
    rintro e w' ⟨hB, (⟨hv, b, rfl, _, _⟩ | ⟨_, rfl⟩)⟩
    · rw [Hv.out] at hv; cases hv
    · go_wp2_with fail
      go_ret
      exact ⟨ret_int Ht.out.symm, hB⟩
  · have hvo : VoP zs := by simpa [vo] using hv
    have Hv := Lib.hid hv
    clear hv
    have hn6 : n ≤ 6 := by have := hvo.1; rw [hlen.out] at this; exact this
    have Ht := Lib.hid (show wideR zs = grTo (apB zs) (2 ^ n) by unfold wideR; rw [Hv.out]; simp [setsN, hlen.out])
    go_enter Try.func24, Try.ntmps24
    go_wp2_with fail
    refine (readOrder_any _ _ _ zs _ h hbig).mono ?_
    rintro e w' ⟨hB, (⟨_, b, rfl, hb, hAr⟩ | ⟨hv, _⟩)⟩
    · go_wp2_with (go_at_call 63; refine (greatestOf_any 60 enters_apart _ _ _ zs (apB zs) hn6 _ (hAr.ints' hAr.lt hlen.out) (tests_apart _ _ _ zs hvo)).mono ?_; rintro e w2 ⟨rfl, hB2⟩)
      go_ret
      exact ⟨ret_int Ht.out.symm, hB.trans (hB2.mono hB.size)⟩
    · rw [Hv.out] at hv; cases hv
end Go.Proofs.Ytekopnjleppliaa

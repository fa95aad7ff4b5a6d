/- JumpsOf: the model's. -/
import Derived.Test.YtipdmaggfbfnlaaJpM
import Derived.Test.YtipdmaggfbfnlaaIsLineS
namespace Go.Proofs.Ytipdmaggfbfnlaa
open Go.RowKit Go.Shelf

set_option maxRecDepth 100000 in
set_option maxHeartbeats 4000000 in
theorem sjumps_any (A : Option Addr) (n c : Nat) (zs : List Int) (A' : Option Addr) (n' c' : Nat) (ls : List Int) (hvo : VoP zs) (hin : ∀ k, k < n' → ∃ a : Nat, ls[k]?.getD 0 = (a : Int) ∧ a < n) (hn' : n' ≤ 6) (w : World) (h : Ints w w.heap.size A n zs) (h' : Ints w w.heap.size A' n' ls) :
    Calls Try.prog 59 #[.slice A n c, .slice A' n' c'] w fun e w' => e = .returned (.int .i64 (jumpsL zs ls)) ∧ ∃ m, w' = w.drewN m := by
  have hlen' := Lib.hid h'.len
  have hlen := Lib.hid h.len
  have hn6 : n ≤ 6 := by have := hvo.1; rw [hlen.out] at this; exact this
  have hp64 := powI_le6 (n := (n : Int)) (by omega)
  have Hin := Lib.hid hin
  clear hin
  have hds := hvo.sets
  go_enter Try.func59, Try.ntmps59
  go_wp2_with fail
  go_loopw [5, 6] (fun s i wr => ∃ k m : Nat, (k = 0 ∨ k + 1 ≤ n') ∧ i = .int .i64 ((k : Int) + 1) ∧ s = .int .i64 (jmpTo zs ls k) ∧ wr = w.drewN m) (fun _ i _ => n' + 1 - (intOf i).toNat)
  case atStart => exact ⟨0, 0, .inl rfl, rfl, rfl, rfl⟩
  case round =>
    obtain ⟨k, m, hk, rfl, rfl, rfl⟩ := hrel
    have hbd := jmpTo_bd zs ls k
    have hk7 : k ≤ 6 := by omega
    have hw1 : IntKind.i64.wrap ((k : Int) + 1 - 1) = (k : Int) := by rw [IntKind.wrap_i64]; omega
    have hw2 : IntKind.i64.wrap ((k : Int) + 1) = (k : Int) + 1 := by rw [IntKind.wrap_i64]; omega
    by_cases hlt : k + 1 < n'
    · have Hs := Lib.hid (show jmpTo zs ls (k + 1) = jmpTo zs ls k + (if bitB (zs[(ls[k]?.getD 0).toNat]?.getD 0) (ls[k + 1]?.getD 0) then 0 else 1) from rfl)
      obtain ⟨a, ha, han⟩ := Hin.out k (by omega)
      obtain ⟨b, hb, hbn⟩ := Hin.out (k + 1) (by omega)
      rw [ha, hb, Int.toNat_natCast] at Hs
      obtain ⟨b2, off2, rfl, hb2, hc2⟩ := h'.at_ hlt
      have hck := hc2 k (by omega)
      have hck1 := hc2 (k + 1) hlt
      rw [ha] at hck
      rw [hb] at hck1
      obtain ⟨b3, off3, rfl, hb3, hc3⟩ := h.at_ han
      have hca := hc3 a han
      have hdb := hds.2 a (by rw [hlen.out]; exact han)
      rw [hlen.out] at hdb
      clear hc2 hc3 ha hb h h' hlen hds
      generalize zs[a]?.getD 0 = x at *
      cases hbit : bitB x (b : Int)
      · have hbi : (bitI x (b : Int) == 0) = true := by rw [bitI_false hbit]; rfl
        rw [hbit] at Hs
        clear hbit
        go_wp2
        go_quiet ((go_at_call 67; exact quiet_add_left (bit_any _ _ _ (by omega) (by omega) (by omega) (by omega))))
        go_wp2
        go_roundw
        case rel => exact ⟨k + 1, _, by omega, by go_num, by rw [Hs.out]; simp, by first | rfl | exact World.drewN_drewN ..⟩
        case measure => simp [intOf]; omega
      · have hbi : (bitI x (b : Int) == 0) = false := by rw [bitI_true hbit]; rfl
        rw [hbit] at Hs
        clear hbit
        go_wp2
        go_quiet ((go_at_call 67; exact quiet_add_left (bit_any _ _ _ (by omega) (by omega) (by omega) (by omega))))
        go_wp2
        go_roundw
        case rel => exact ⟨k + 1, _, by omega, by go_num, by rw [Hs.out]; simp, by first | rfl | exact World.drewN_drewN ..⟩
        case measure => simp [intOf]; omega
    · have Ht := Lib.hid (show jumpsL zs ls = jmpTo zs ls k by unfold jumpsL; rw [hlen'.out, show n' - 1 = k by omega])
      go_wp2_with fail
      go_ret
      exact ⟨ret_int Ht.out.symm, _, rfl⟩

set_option maxHeartbeats 1000000 in
theorem specJumpsOfF_any (A : Option Addr) (n c : Nat) (zs : List Int) (A' : Option Addr) (n' c' : Nat) (ls : List Int) (w : World) (h : Ints w w.heap.size A n zs) (h' : Ints w w.heap.size A' n' ls) (hbig : n ≤ 1152921504606846976) (hbig' : n' ≤ 1152921504606846976) :
    Calls Try.prog 14 #[.slice A n c, .slice A' n' c'] w fun e w' => e = .returned (.int .i64 (jumpsR zs ls)) ∧ Below w.heap.size w w' := by
  cases hv : vo zs
  · have Ht := Lib.hid (show jumpsR zs ls = -1 by unfold jumpsR isLineR; rw [hv]; rfl)
    go_enter Try.func14, Try.ntmps14
    go_wp2_with fail
    refine (validOrder_any _ _ _ _ zs _ h hbig).mono ?_
    rw [hv]
    rintro e w' ⟨rfl, m, rfl⟩
    go_wp2_with fail
    go_ret
    exact ⟨ret_int Ht.out.symm, below_drewN (Below.refl _ _) m⟩
  · have hvo : VoP zs := by simpa [vo] using hv
    cases hl : lineB zs ls
    · have Ht := Lib.hid (show jumpsR zs ls = -1 by unfold jumpsR isLineR; rw [hv, hl]; rfl)
      go_enter Try.func14, Try.ntmps14
      go_wp2_with fail
      refine (validOrder_any _ _ _ _ zs _ h hbig).mono ?_
      rw [hv]
      rintro e w' ⟨rfl, m, rfl⟩
      go_wp2_with fail
      refine (sisLine_any A n c zs A' n' c' ls hvo _ ((h.drewN m).more (by simp)) ((h'.drewN m).more (by simp)) hbig').mono ?_
      rw [hl]
      rintro e w3 ⟨rfl, hB3⟩
      go_wp2_with fail
      go_ret
      exact ⟨ret_int Ht.out.symm, (below_drewN (Below.refl _ _) m).trans (hB3.mono (by simp))⟩
    · have Ht := Lib.hid (show jumpsR zs ls = jumpsL zs ls by unfold jumpsR isLineR; rw [hv, hl]; rfl)
      have hli := line_items hl
      rw [h.len, h'.len] at hli
      have hn6 : n ≤ 6 := by have := hvo.1; rw [h.len] at this; exact this
      have hn6' : n' ≤ 6 := by omega
      have Hli := Lib.hid hli.2
      clear hli
      go_enter Try.func14, Try.ntmps14
      go_wp2_with fail
      refine (validOrder_any _ _ _ _ zs _ h hbig).mono ?_
      rw [hv]
      rintro e w' ⟨rfl, m, rfl⟩
      go_wp2_with fail
      refine (sisLine_any A n c zs A' n' c' ls hvo _ ((h.drewN m).more (by simp)) ((h'.drewN m).more (by simp)) hbig').mono ?_
      rw [hl]
      rintro e w3 ⟨rfl, hB3⟩
      have hC := (below_drewN (Below.refl w.heap.size w) m).trans (hB3.mono (by simp))
      go_wp2_with fail
      refine (sjumps_any A n c zs A' n' c' ls hvo Hli.out hn6' _ (h.to hC (Nat.le_refl _) hC.size) (h'.to hC (Nat.le_refl _) hC.size)).mono ?_
      rintro e w4 ⟨rfl, m4, rfl⟩
      go_wp2_with fail
      go_ret
      exact ⟨ret_int Ht.out.symm, below_drewN hC m4⟩
end Go.Proofs.Ytipdmaggfbfnlaa

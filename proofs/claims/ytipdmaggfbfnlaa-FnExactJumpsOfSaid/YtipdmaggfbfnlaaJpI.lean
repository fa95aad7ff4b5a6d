/- JumpsOf: the program's. -/
import Derived.Test.YtipdmaggfbfnlaaJpM
import Derived.Test.YtipdmaggfbfnlaaIsLineI
import Derived.Test.YtipdmaggfbfnlaaValid
namespace Go.Proofs.Ytipdmaggfbfnlaa
open Go.RowKit Go.Shelf

theorem jumpsBetween_any (b n c : Nat) (zs : List Int) (hvo : VoP zs) (a d : Nat) (w : World) (h : Ints w w.heap.size (some ⟨b, 0, none⟩) n zs) (ha : a < n) (hd : d < n) :
    Calls Try.prog 110 #[.slice (some ⟨b, 0, none⟩) n c, .int .i64 (a : Int), .int .i64 (d : Int)] w fun e w' => e = .returned (.int .i64 (if bitB (zs[a]?.getD 0) (d : Int) then 0 else 1)) ∧ w = w' := by
  have hlen := Lib.hid h.len
  have hn6 : n ≤ 6 := by have := hvo.1; rw [hlen.out] at this; exact this
  have hp64 := powI_le6 (n := (n : Int)) (by omega)
  have hdb := hvo.sets.2 a (by rw [hlen.out]; exact ha)
  rw [hlen.out] at hdb
  obtain ⟨b3, off3, e3, hb3, hc3⟩ := h.at_ ha
  cases e3
  have hca := hc3 a ha
  simp only [Nat.zero_add] at hca
  clear hc3 h hlen
  generalize zs[a]?.getD 0 = x at *
  have H := has_any x (d : Int)
  cases hbit : bitB x (d : Int) <;> rw [hbit] at H
  · go_enter Try.func110, Try.ntmps110
    go_wp2_with fail
    refine (H _ (by omega) (by omega) (by omega) (by omega)).mono ?_
    rintro e w' ⟨rfl, rfl⟩
    go_wp2_with fail
    go_ret
    exact ⟨rfl, rfl⟩
  · go_enter Try.func110, Try.ntmps110
    go_wp2_with fail
    refine (H _ (by omega) (by omega) (by omega) (by omega)).mono ?_
    rintro e w' ⟨rfl, rfl⟩
    go_wp2_with fail
    go_ret
    exact ⟨rfl, rfl⟩

set_option maxRecDepth 100000 in
set_option maxHeartbeats 4000000 in
theorem ojumps_any (b n c : Nat) (zs : List Int) (A' : Option Addr) (n' c' : Nat) (ls : List Int) (hvo : VoP zs) (hin : ∀ k, k < n' → ∃ a : Nat, ls[k]?.getD 0 = (a : Int) ∧ a < n) (hn' : n' ≤ 6) (w : World) (h : Ints w w.heap.size (some ⟨b, 0, none⟩) n zs) (h' : Ints w w.heap.size A' n' ls) :
    Calls Try.prog 63 #[.slice (some ⟨b, 0, none⟩) n c, .slice A' n' c'] w fun e w' => e = .returned (.int .i64 (jumpsL zs ls)) ∧ ∃ m, w' = w.drewN m := by
  have hlen' := Lib.hid h'.len
  have Hin := Lib.hid hin
  clear hin
  go_enter Try.func63, Try.ntmps63
  go_wp2_with fail
  go_loopw [5, 6] (fun s i wr => ∃ k m : Nat, (k = 0 ∨ k + 1 ≤ n') ∧ i = .int .i64 ((k : Int) + 1) ∧ s = .int .i64 (jmpTo zs ls k) ∧ wr = w.drewN m) (fun _ i _ => n' + 1 - (intOf i).toNat)
  case atStart => exact ⟨0, 0, .inl rfl, rfl, rfl, rfl⟩
  case round =>
    obtain ⟨k, m, hk, rfl, rfl, rfl⟩ := hrel
    have hbd := jmpTo_bd zs ls k
    have hk7 : k ≤ 6 := by omega
    have hw1 : IntKind.i64.wrap ((k : Int) + 1 - 1) = (k : Int) := by rw [IntKind.wrap_i64]; omega
    have hw2 : IntKind.i64.wrap ((k : Int) + 1) = (k : Int) + 1 := by rw [IntKind.wrap_i64]; omega
    by_cases hlt : k + 1 < n'
    · have Hs := Lib.hid (show jmpTo zs ls (k + 1) = jmpTo zs ls k + (if bitB (zs[(ls[k]?.getD 0).toNat]?.getD 0) (ls[k + 1]?.getD 0) then 0 else 1) from rfl)
      obtain ⟨a, ha, han⟩ := Hin.out k (by omega)
      obtain ⟨d, hd, hdn⟩ := Hin.out (k + 1) (by omega)
      rw [ha, hd, Int.toNat_natCast] at Hs
      obtain ⟨b2, off2, rfl, hb2, hc2⟩ := h'.at_ hlt
      have hck := hc2 k (by omega)
      have hck1 := hc2 (k + 1) hlt
      rw [ha] at hck
      rw [hd] at hck1
      clear hc2 ha hd h'
      have hJ := fun q => jumpsBetween_any b n c zs hvo a d (w.drewN q) (h.drewN q) han hdn
      have hq : (0 : Int) ≤ (if bitB (zs[a]?.getD 0) (d : Int) then 0 else 1) ∧ (if bitB (zs[a]?.getD 0) (d : Int) then 0 else 1) ≤ (1 : Int) := by split <;> omega
      generalize (if bitB (zs[a]?.getD 0) (d : Int) then (0 : Int) else 1) = q at *
      have hw3 : IntKind.i64.wrap (jmpTo zs ls k + q) = jmpTo zs ls k + q := by rw [IntKind.wrap_i64]; omega
      go_wp2
      go_quiet ((go_at_call 110; exact quiet_add_left (hJ _)))
      go_wp2
      go_roundw
      case rel => exact ⟨k + 1, _, by omega, by go_num, by rw [Hs.out], by first | rfl | exact World.drewN_drewN ..⟩
      case measure => simp [intOf]; omega
    · have Ht := Lib.hid (show jumpsL zs ls = jmpTo zs ls k by unfold jumpsL; rw [hlen'.out, show n' - 1 = k by omega])
      go_wp2_with fail
      go_ret
      exact ⟨ret_int Ht.out.symm, _, rfl⟩

set_option maxHeartbeats 1000000 in
theorem JumpsOf_any (A : Option Addr) (n c : Nat) (zs : List Int) (A' : Option Addr) (n' c' : Nat) (ls : List Int) (w : World) (h : Ints w w.heap.size A n zs) (h' : Ints w w.heap.size A' n' ls) (hbig : n ≤ 1152921504606846976) (hbig' : n' ≤ 1152921504606846976) :
    Calls Try.prog 16 #[.slice A n c, .slice A' n' c'] w fun e w' => e = .returned (.int .i64 (jumpsR zs ls)) ∧ Below w.heap.size w w' := by
  have hlen := Lib.hid h.len
  have hlen' := Lib.hid h'.len
  cases hv : vo zs
  · have Ht := Lib.hid (show jumpsR zs ls = -1 by unfold jumpsR isLineR; rw [hv]; rfl)
    have Hv := Lib.hid hv
    clear hv
    go_enter Try.func16, Try.ntmps16
    go_wp2_with fail
    refine (readOrder_any _ _ _ zs _ h hbig).mono ?_
    rintro e w' ⟨hB, (⟨hv, b, rfl, _, _⟩ | ⟨_, rfl⟩)⟩
    · rw [Hv.out] at hv; cases hv
    · go_wp2_with fail
      go_ret
      exact ⟨ret_int Ht.out.symm, hB⟩
  · have hvo : VoP zs := by simpa [vo] using hv
    have Hjr := Lib.hid (show jumpsR zs ls = if lineB zs ls then jumpsL zs ls else -1 by unfold jumpsR isLineR; rw [hv]; rfl)
    have Hv := Lib.hid hv
    clear hv
    go_enter Try.func16, Try.ntmps16
    go_wp2_with fail
    refine (readOrder_any _ _ _ zs _ h hbig).mono ?_
    rintro e w1 ⟨hB, (⟨_, b, rfl, hb, hAr⟩ | ⟨hv, _⟩)⟩
    · have i1 := h'.to hB (Nat.le_refl _) hB.size
      have a1 := hAr.ints' (B := w1.heap.size) hAr.lt hlen.out
      go_wp2_with fail
      refine (lineup_any _ n _ zs hvo.sets _ a1).mono ?_
      rintro e w2 ⟨bd, bm, rfl, hA2, -, hbd, -, -, hB2⟩
      have C2 := hB.trans (hB2.mono hB.size)
      have i2 := i1.to hB2 (Nat.le_refl _) hB2.size
      have a2 := a1.to hB2 (Nat.le_refl _) hB2.size
      have hL := lisLine_any bd bm n A' n' c' zs ls hvo hlen.out w2 (hA2.ints' hA2.lt (by rw [du_len, hlen.out])) i2 hbig'
      cases hl : lineB zs ls
      · have Ht := Lib.hid (show jumpsR zs ls = -1 by rw [Hjr.out, hl]; rfl)
        rw [hl] at hL
        clear hl
        go_wp2_with fail
        refine hL.mono ?_
        rintro e w3 ⟨rfl, hB3⟩
        go_wp2_with fail
        go_ret
        exact ⟨ret_int Ht.out.symm, C2.trans (hB3.mono C2.size)⟩
      · have Ht := Lib.hid (show jumpsR zs ls = jumpsL zs ls by rw [Hjr.out, hl]; rfl)
        have hli := line_items hl
        rw [hlen.out, hlen'.out] at hli
        have hn6 : n ≤ 6 := by have := hvo.1; rw [hlen.out] at this; exact this
        have hn6' : n' ≤ 6 := by omega
        have Hli := Lib.hid hli.2
        rw [hl] at hL
        clear hl hli
        go_wp2_with fail
        refine hL.mono ?_
        rintro e w3 ⟨rfl, hB3⟩
        have C3 := C2.trans (hB3.mono C2.size)
        go_wp2_with fail
        refine (ojumps_any b n _ zs A' n' c' ls hvo Hli.out hn6' _ (a2.to hB3 (Nat.le_refl _) hB3.size) (i2.to hB3 (Nat.le_refl _) hB3.size)).mono ?_
        rintro e w4 ⟨rfl, m4, rfl⟩
        go_wp2_with fail
        go_ret
        exact ⟨ret_int Ht.out.symm, below_drewN C3 m4⟩
    · rw [Hv.out] at hv; cases hv
end Go.Proofs.Ytipdmaggfbfnlaa

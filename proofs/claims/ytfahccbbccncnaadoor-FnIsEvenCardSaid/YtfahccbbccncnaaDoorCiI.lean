/- CountIdeals: the program's. -/
import Derived.Test.YtfahccbbccncnaaDoorTz
import Derived.Test.YtfahccbbccncnaaDoorGc
import Derived.Test.YtfahccbbccncnaaDoorGa
import Derived.Test.YtfahccbbccncnaaDoorGb
namespace Go.Proofs.YtfahccbbccncnaaDoor
open Go.RowKit Go.Shelf

set_option maxRecDepth 100000 in
set_option maxHeartbeats 8000000 in
theorem ocountIdeals_any (zs : List Int) (hvo : VoP zs) (n c : Nat) (A : Option Addr) (hlen0 : zs.length = n) : ∀ (N s : Nat) (w : World), s ≤ N → s < 2 ^ n → Ints w w.heap.size A n zs → Tab w → 2 < w.heap.size →
    Calls Tryd.prog 28 #[.slice A n c, .int .i64 (s : Int)] w fun e w' => e = .returned (.int .i64 (ciN zs s)) ∧ Below w.heap.size w w' := by
  intro N
  refine Nat.strongRecOn N fun N ih => ?_
  intro s w hN hs hI hT hw1
  have hlen := Lib.hid hlen0
  have hn6 : n ≤ 6 := by have := hvo.1; rw [hlen0] at this; exact this
  have hs64 : s < 64 := Nat.lt_of_lt_of_le hs (Nat.pow_le_pow_right (n := 2) (by decide) hn6)
  have hsl : s < 2 ^ zs.length := by rw [hlen0]; exact hs
  clear hlen0
  by_cases h0 : s = 0
  · subst h0
    have Hz := Lib.hid (ciN_zero zs)
    go_enter Tryd.func28, Tryd.ntmps28
    go_wp2
    go_ret
    exact ⟨ret_int (by rw [Hz.out]; rfl), Below.refl _ _⟩
  · have hne : ((s : Int) == 0) = false := by simpa using h0
    obtain ⟨hl6, hlb⟩ := low_fin ⟨s, hs64⟩ h0
    obtain ⟨hrest, hple⟩ := rest_fin ⟨s, hs64⟩ h0
    simp only at hl6 hlb hrest hple
    have hln : low s < n := by
      rcases Nat.lt_or_ge (low s) n with e | e
      · exact e
      · rw [Nat.testBit_lt_two_pow (Nat.lt_of_lt_of_le hs (Nat.pow_le_pow_right (by decide) e))] at hlb; cases hlb
    have Hci := Lib.hid (ciN_pos (zs := zs) h0 hs64)
    have hu := lessN_lt (zs[low s]?.getD 0) h0 hs64
    have hd := lessN_lt ((du zs)[low s]?.getD 0) h0 hs64
    have hbu := ciN_64 zs (show lessN s (zs[low s]?.getD 0) < 64 by omega)
    have hbd := ciN_64 zs (show lessN s ((du zs)[low s]?.getD 0) < 64 by omega)
    have ihu := fun w' hI' hT' hw' => ih (lessN s (zs[low s]?.getD 0)) (by omega) (lessN s (zs[low s]?.getD 0)) w' (Nat.le_refl _) (by omega) hI' hT' hw'
    have ihd := fun w' hI' hT' hw' => ih (lessN s ((du zs)[low s]?.getD 0)) (by omega) (lessN s ((du zs)[low s]?.getD 0)) w' (Nat.le_refl _) (by omega) hI' hT' hw'
    have hpw := Nat.two_pow_pos (low s)
    have hzu := hvo.bd (low s) (by rw [hlen.out]; exact hln)
    have hdl : (du zs).length = n := by rw [du_len, hlen.out]
    have hpb : powI (low s : Int) = ((2 ^ low s : Nat) : Int) := by simp [powI]
    have hp6 := powI_le6 (n := (low s : Int)) (by omega)
    have hpl := powI_lt hln
    have hpp := powI_pos (low s : Int)
    have hbl := belI_bd hvo.sets (s := powI (low s : Int)) (by omega) (by rw [hlen.out]; exact hpl)
    have hpn := powI_le6 (n := (n : Int)) (by omega)
    rw [hlen.out] at hbl
    have hlb2 := less_bel hvo h0 hsl
    rw [hrest] at hlb2
    have Hwo := Lib.hid (show lessI (s : Int) (powI (low s : Int)) = ((s - 2 ^ low s : Nat) : Int) from hrest)
    have Hwi := Lib.hid (show orI 0 (powI (low s : Int)) = powI (low s : Int) by
      refine bitB_ext (by simp [orI]; omega) (Int.le_of_lt (powI_pos _)) fun j => ?_
      rw [bitB_or, bitB_zero, Bool.false_or])
    have handu : bits .andNot .i64 ((s - 2 ^ low s : Nat) : Int) (zs[low s]?.getD 0) = (lessN s (zs[low s]?.getD 0) : Int) := by
      rw [bits_less (by omega) (by omega) (by omega) (by omega)]
      unfold lessN
      rw [hrest]
      have := lessI_bd ((s - 2 ^ low s : Nat) : Int) (zs[low s]?.getD 0)
      omega
    have handd : bits .andNot .i64 ((s - 2 ^ low s : Nat) : Int) (belI zs (powI (low s : Int))) = (lessN s ((du zs)[low s]?.getD 0) : Int) := by
      rw [bits_less (by omega) (by omega) (by omega) (by omega), hlb2]
      unfold lessN
      rw [hrest]
      have := lessI_bd ((s - 2 ^ low s : Nat) : Int) ((du zs)[low s]?.getD 0)
      omega
    obtain ⟨b, off, rfl, hb, hc⟩ := hI.at_ hln
    have hcu := hc (low s) hln
    clear hc ih hrest hlb hpb hlb2
    generalize lessN s (zs[low s]?.getD 0) = u at *
    generalize lessN s ((du zs)[low s]?.getD 0) = d at *
    generalize zs[low s]?.getD 0 = zu at *
    have Hfirst := Lib.hid (first_any s h0 hs64)
    generalize hr : s - 2 ^ low s = r at *
    generalize hla : low s = a at *
    generalize hbe : belI zs (powI (a : Int)) = be at *
    have Hbe := Lib.hid hbe
    clear hr hla hbe
    obtain ⟨cu, hcu2⟩ : ∃ cu, ciN zs u = cu := ⟨_, rfl⟩
    obtain ⟨cd, hcd2⟩ : ∃ cd, ciN zs d = cd := ⟨_, rfl⟩
    rw [hcu2] at hbu Hci
    rw [hcd2] at hbd Hci
    simp only [hcu2] at ihu
    simp only [hcd2] at ihd
    clear hcu2 hcd2
    have hsum : IntKind.i64.wrap ((cu : Int) + (cd : Int)) = ((cu + cd : Nat) : Int) := by rw [IntKind.wrap_i64]; omega
    go_enter Tryd.func28, Tryd.ntmps28
    go_wp2_with fail
    refine (Hfirst.out w hT).mono ?_
    rintro e w' ⟨rfl, rfl⟩
    go_wp2_with fail
    refine (without_any _ _ _ (by omega) (by omega) (by omega) (by omega)).mono ?_
    rw [Hwo.out]
    rintro e w' ⟨rfl, rfl⟩
    go_wp2_with fail
    refine (with_any _ _ _ (by omega) (by omega) (by omega) (by omega)).mono ?_
    rw [Hwi.out]
    rintro e w' ⟨rfl, rfl⟩
    go_wp2_with fail
    refine (obelow_any _ n c zs (powI (a : Int)) hvo w hI (by omega) (by omega)).mono ?_
    rw [Hbe.out]
    rintro e w2 ⟨rfl, hB2⟩
    have z2 := hB2.size
    have hI2 := hI.to hB2 (Nat.le_refl _) z2
    have hT2 := hT.below hB2 hw1
    clear hI hT hcu
    go_wp2_with fail
    refine (ihu w2 hI2 hT2 (by omega)).mono ?_
    rintro e w3 ⟨rfl, hB3⟩
    have z3 := hB3.size
    have hI3 := hI2.to hB3 (Nat.le_refl _) z3
    have hT3 := hT2.below hB3 (by omega)
    clear hI2 hT2
    go_wp2_with fail
    refine (ihd w3 hI3 hT3 (by omega)).mono ?_
    rintro e w4 ⟨rfl, hB4⟩
    go_wp2_with fail
    go_ret
    exact ⟨ret_int (by rw [Hci.out]; rfl), (hB2.trans (hB3.mono z2)).trans (hB4.mono (by omega))⟩

theorem CountIdeals_any (A : Option Addr) (n c : Nat) (zs : List Int) (w : World) (h : Ints w w.heap.size A n zs) (hbig : n ≤ 1152921504606846976) (hT : Tab w) (hw1 : 2 < w.heap.size) :
    Calls Tryd.prog 13 #[.slice A n c] w fun e w' => e = .returned (.int .i64 (countIdealsR zs)) ∧ Below w.heap.size w w' := by
  have hlen := Lib.hid h.len
  cases hv : vo zs
  · have Ht := Lib.hid (show countIdealsR zs = -1 by unfold countIdealsR; rw [hv]; rfl)
    have Hv := Lib.hid hv
    clear hv
    go_enter Tryd.func13, Tryd.ntmps13
    go_wp2_with fail
    refine (readOrder_any _ _ _ zs _ h hbig).mono ?_
    rintro e w' ⟨hB, (⟨hv, b, rfl, _, _⟩ | ⟨_, rfl⟩)⟩
    · rw [Hv.out] at hv; cases hv
    · go_wp2_with fail
      go_ret
      exact ⟨ret_int Ht.out.symm, hB⟩
  · have hvo : VoP zs := by simpa [vo] using hv
    have Hv := Lib.hid hv
    clear hv
    have hn6 : n ≤ 6 := by have := hvo.1; rw [hlen.out] at this; exact this
    have hpp := Nat.two_pow_pos n
    have Ht := Lib.hid (show countIdealsR zs = (ciN zs (2 ^ n - 1) : Int) by unfold countIdealsR; rw [Hv.out, hlen.out]; rfl)
    have Hall := Lib.hid (show powI n - 1 = ((2 ^ n - 1 : Nat) : Int) by
      have : powI (n : Int) = ((2 ^ n : Nat) : Int) := by simp [powI]
      omega)
    go_enter Tryd.func13, Tryd.ntmps13
    go_wp2_with fail
    refine (readOrder_any _ _ _ zs _ h hbig).mono ?_
    rintro e w1 ⟨hB, (⟨_, b, rfl, hb, hAr⟩ | ⟨hv, _⟩)⟩
    · have z1 := hB.size
      go_wp2_with fail
      refine (oall_any _ _ _ _ hn6).mono ?_
      rintro e w' ⟨rfl, rfl⟩
      rw [Hall.out]
      go_wp2_with fail
      refine (ocountIdeals_any zs hvo n _ _ hlen.out _ (2 ^ n - 1) w1 (Nat.le_refl _) (by omega) (hAr.ints' hAr.lt hlen.out) (hT.below hB hw1) (by omega)).mono ?_
      rintro e w2 ⟨rfl, hB2⟩
      go_wp2_with fail
      go_ret
      exact ⟨ret_int Ht.out.symm, hB.trans (hB2.mono z1)⟩
    · rw [Hv.out] at hv; cases hv
end Go.Proofs.YtfahccbbccncnaaDoor

/- TimesOf: the program's, whole. -/
import Derived.Test.YtbjaomhmocblbaaTmI
import Derived.Test.YtbjaomhmocblbaaTmS
namespace Go.Proofs.Ytbjaomhmocblbaa
open Go.RowKit Go.Shelf
attribute [local go_sem] Oper.semAt_some
attribute [local go_sem, local simp] wide_fn
theorem timesB_no4 {zs ys : List Int} (h : (vo zs && vo ys) = false) : timesB zs ys = false := by
  unfold timesB
  rw [← Bool.and_assoc, h]; rfl

set_option maxHeartbeats 2000000 in
theorem TimesOf_any (A : Option Addr) (n c : Nat) (zs : List Int) (A' : Option Addr) (n' c' : Nat) (ys : List Int) (w : World) (h : Ints w w.heap.size A n zs) (h' : Ints w w.heap.size A' n' ys) (hbig : n ≤ 1152921504606846976) (hbig' : n' ≤ 1152921504606846976) :
    Calls Try.prog 17 #[.slice A n c, .slice A' n' c'] w (GivesAtV w (timesR zs ys) (timesB zs ys)) := by
  have hlen := Lib.hid h.len
  have hlen' := Lib.hid h'.len
  go_enter Try.func17, Try.ntmps17
  go_wp2_with fail
  refine (readBoth_any A n c zs A' n' c' ys _ h h' hbig hbig').mono ?_
  rintro e w1 ⟨hB1, (⟨hv, hv', b, b', rfl, hAr, hAr'⟩ | ⟨hno, A1, k1, A2, k2, rfl⟩)⟩
  · have hvo : VoP zs := by simpa [vo] using hv
    have hvy : VoP ys := by simpa [vo] using hv'
    have z1 := hB1.size
    clear hv hv'
    have h6 : n ≤ 6 := by have := hvo.1; rw [hlen.out] at this; exact this
    have h6' : n' ≤ 6 := by have := hvy.1; rw [hlen'.out] at this; exact this
    obtain ⟨N, hN⟩ : ∃ N, n * n' = N := ⟨_, rfl⟩
    have hN36 : N ≤ 36 := by rw [← hN]; exact Nat.mul_le_mul h6 h6'
    have hwe : (n : Int) * (n' : Int) = (N : Int) := by rw [← hN, Int.natCast_mul]
    have hwr : wrap64 ((n : Int) * (n' : Int)) = (N : Int) := by rw [hwe]; exact IntWalk.wrap64_in _ ⟨by omega, by omega⟩
    clear hwe
    by_cases hnm : N ≤ 6
    · have Hb := Lib.hid (timesB_yes hlen.out hlen'.out hvo hvy (by rw [hN]; exact hnm))
      have Ht := Lib.hid (timesR_yes Hb.out)
      have Hll := Lib.hid (show (tmL zs ys).length = N by rw [tmL_len, hlen.out, hlen'.out, hN])
      have Hcall := Lib.hid (times_any b n n zs b' n' n' ys _ hAr hAr' hlen.out hlen'.out hvo hvy (by rw [hN]; exact hnm))
      have hgt : decide (6 < (N : Int)) = false := decide_eq_false (by omega)
      clear hAr hAr' hN
      go_wp2_with fail
      refine Hcall.out.mono ?_
      clear Hcall
      rintro e w2 ⟨v, rfl, hO, hB2⟩
      have z2 := hB2.size
      obtain ⟨A2, c2, rfl, hI⟩ := ints_of_own hO.2
      rw [Hll.out] at hI ⊢
      clear hO
      go_wp2_with fail
      refine (list_any _ N c2 _ _ hI (by omega)).mono ?_
      rintro e w3 ⟨rfl, hA3, hB3⟩
      have z3 := hA3.lt
      go_wp2_with fail
      go_ret2
      exact ⟨_, N, N, by rw [Hb.out]; rfl, by rw [Ht.out]; exact RowV.ofArr hA3 Hll.out (by omega) z3, hB1.trans ((hB2.mono z1).trans (hB3.mono (by omega)))⟩
    · have Hb := Lib.hid (timesB_no3 hlen.out hlen'.out (by rw [hN]; exact hnm))
      have Ht := Lib.hid (timesR_no Hb.out)
      have hgt : decide (6 < (N : Int)) = true := decide_eq_true (by omega)
      clear hAr hAr' hN
      go_wp2_with fail
      go_ret2
      exact ⟨none, 0, 0, by rw [Hb.out]; rfl, by rw [Ht.out]; exact RowV.nil _ _ _ _, hB1⟩
  · have Hb := Lib.hid (timesB_no4 hno)
    have Ht := Lib.hid (timesR_no Hb.out)
    clear hno
    go_wp2_with fail
    go_ret2
    exact ⟨none, 0, 0, by rw [Hb.out]; rfl, by rw [Ht.out]; exact RowV.nil _ _ _ _, hB1⟩
end Go.Proofs.Ytbjaomhmocblbaa

/- PartOf: the program's whole. -/
import Derived.Test.YtfahccbbccncnaaDoorPtI
import Derived.Test.YtfahccbbccncnaaDoorGa
namespace Go.Proofs.YtfahccbbccncnaaDoor
open Go.RowKit Go.Shelf
attribute [local go_sem] Oper.semAt_some
attribute [local go_sem, local simp] wide_fn

theorem PartOf_any (A : Option Addr) (n c : Nat) (zs : List Int) (s : Int) (w : World) (h : Ints w w.heap.size A n zs) (hbig : n ≤ 1152921504606846976) :
    Calls Tryd.prog 14 #[.slice A n c, .int .i64 s] w (GivesRow w (partR zs s)) := by
  have hlen := Lib.hid h.len
  cases hv : vo zs
  · have Ht := Lib.hid (show partR zs s = [] by unfold partR; rw [hv]; rfl)
    have Hv := Lib.hid hv
    clear hv
    go_enter Tryd.func14, Tryd.ntmps14
    go_wp2_with fail
    refine (readOrder_any _ _ _ zs _ h hbig).mono ?_
    rintro e w' ⟨hB, (⟨hv, b, rfl, _, _⟩ | ⟨_, rfl⟩)⟩
    · rw [Hv.out] at hv; cases hv
    · go_wp2_with fail
      go_ret
      exact ⟨none, 0, 0, rfl, by rw [Ht.out]; exact Row.nil _ _ _ _, hB⟩
  · have hvo : VoP zs := by simpa [vo] using hv
    have Hv := Lib.hid hv
    clear hv
    have hn6 : n ≤ 6 := by have := hvo.1; rw [hlen.out] at this; exact this
    cases hq : inB s 0 (powI n - 1)
    · have Ht := Lib.hid (show partR zs s = [] by unfold partR; rw [hlen.out, hq]; simp)
      go_enter Tryd.func14, Tryd.ntmps14
      go_wp2_with fail
      refine (readOrder_any _ _ _ zs _ h hbig).mono ?_
      rintro e w' ⟨hB, (⟨_, b, rfl, _, _⟩ | ⟨hv, _⟩)⟩
      · go_wp2_with (go_at_call 30; refine (isSetOf_any _ _ _ (by omega) (by omega)).mono ?_; rintro e w2 ⟨rfl, rfl⟩)
        go_ret
        exact ⟨none, 0, 0, rfl, by rw [Ht.out]; exact Row.nil _ _ _ _, hB⟩
      · rw [Hv.out] at hv; cases hv
    · have hs : 0 ≤ s ∧ s < powI n := by unfold inB at hq; simp at hq; omega
      have Ht := Lib.hid (show partR zs s = ind zs (leftL n s.toNat) by unfold partR; rw [hlen.out, hq, Hv.out]; rfl)
      obtain ⟨s, rfl⟩ := Int.eq_ofNat_of_zero_le hs.1
      rw [Int.toNat_natCast] at Ht
      have hs2 : s < 2 ^ n := by have := hs.2; unfold powI at this; simp at this; exact_mod_cast this
      have hll := (leftL_inc zs s).len_le
      rw [hlen.out] at hll
      have Hil := Lib.hid (ind_len zs (leftL n s))
      go_enter Tryd.func14, Tryd.ntmps14
      go_wp2_with fail
      refine (readOrder_any _ _ _ zs _ h hbig).mono ?_
      rintro e w1 ⟨hB, (⟨_, b, rfl, hb, hAr⟩ | ⟨hv, _⟩)⟩
      · have z1 := hB.size
        go_wp2_with (go_at_call 30; refine (isSetOf_any _ _ _ (by omega) (by omega)).mono ?_; rintro e w2 ⟨rfl, rfl⟩)
        refine (opart_any _ _ _ zs hvo s _ (hAr.ints' hAr.lt hlen.out) hs2).mono ?_
        rintro e w2 ⟨rfl, hA2, hB2⟩
        have z2 := hB2.size
        have Hm := Lib.hid (show (ind zs (leftL n s)).length = (leftL n s).length from Hil.out)
        generalize (leftL n s).length = m at *
        go_wp2_with fail
        refine (list_any _ m _ (ind zs (leftL n s)) _ (hA2.ints' hA2.lt Hm.out) (by omega)).mono ?_
        rintro e w3 ⟨rfl, hA3, hB3⟩
        go_wp2_with fail
        go_ret
        exact ⟨_, m, m, rfl, by rw [Ht.out]; exact Row.of hA3 Hm.out (by omega) hA3.lt, (hB.trans (hB2.mono z1)).trans (hB3.mono (by omega))⟩
      · rw [Hv.out] at hv; cases hv
theorem partR_le (zs : List Int) (s : Int) : (partR zs s).length ≤ 1048576 := by
  unfold partR
  split
  · rename_i h
    have hv : VoP zs := by simp [vo] at h; exact h.1
    have := (leftL_inc zs s.toNat).len_le
    have := hv.1
    rw [ind_len]
    omega
  · simp
end Go.Proofs.YtfahccbbccncnaaDoor

/- IsChain and IsApart: the model's and the program's. -/
import Derived.Test.YtgeicciieagbgaaChSp
import Derived.Test.YtgeicciieagbgaaCnt
namespace Go.Proofs.Ytgeicciieagbgaa
open Go.RowKit

def isChainR (zs : List Int) (s : Int) : Bool := (vo zs && inB s 0 (powI zs.length - 1)) && chB zs s
def isApartR (zs : List Int) (s : Int) : Bool := (vo zs && inB s 0 (powI zs.length - 1)) && apB zs s

theorem specIsChainF_any (A : Option Addr) (n c : Nat) (zs : List Int) (s : Int) (w : World) (h : Ints w w.heap.size A n zs) (hbig : n ≤ 1152921504606846976) :
    Calls Try.prog 38 #[.slice A n c, .int .i64 s] w fun e w' => e = .returned (.bool (isChainR zs s)) ∧ Below w.heap.size w w' := by
  have hlen := Lib.hid h.len
  cases hq : (vo zs && inB s 0 (powI n - 1))
  · have Ht := Lib.hid (show isChainR zs s = false by unfold isChainR; rw [hlen.out, hq]; rfl)
    go_enter Try.func38, Try.ntmps38
    go_wp2_with (go_at_call 87; refine (validSet_any _ _ _ _ zs s _ h hbig).mono ?_; rintro e w' ⟨rfl, m, rfl⟩)
    go_ret
    exact ⟨ret_bool Ht.out.symm, below_drewN (Below.refl _ _) m⟩
  · have Ht := Lib.hid (show isChainR zs s = chB zs s by unfold isChainR; rw [hlen.out, hq]; rfl)
    have hv : VoP zs := by simp [vo] at hq; exact hq.1
    have hs : 0 ≤ s ∧ s < powI n := by simp [inB] at hq; omega
    have Hq := Lib.hid hq
    clear hq
    go_enter Try.func38, Try.ntmps38
    go_wp2_with fail
    refine (validSet_any _ _ _ _ zs s _ h hbig).mono ?_
    rintro e w' ⟨rfl, m, rfl⟩
    rw [Hq.out]
    go_wp2_with (go_at_call 91; refine (specIsChain_any _ _ _ _ zs s hv.sets _ (h.drewN m) (Nat.le_refl _) hs.1 hs.2).mono ?_; rintro e w' ⟨rfl, hB⟩)
    go_ret
    exact ⟨ret_bool Ht.out.symm, (below_drewN (Below.refl _ _) m).trans hB⟩

theorem specIsApartF_any (A : Option Addr) (n c : Nat) (zs : List Int) (s : Int) (w : World) (h : Ints w w.heap.size A n zs) (hbig : n ≤ 1152921504606846976) :
    Calls Try.prog 42 #[.slice A n c, .int .i64 s] w fun e w' => e = .returned (.bool (isApartR zs s)) ∧ Below w.heap.size w w' := by
  have hlen := Lib.hid h.len
  cases hq : (vo zs && inB s 0 (powI n - 1))
  · have Ht := Lib.hid (show isApartR zs s = false by unfold isApartR; rw [hlen.out, hq]; rfl)
    go_enter Try.func42, Try.ntmps42
    go_wp2_with (go_at_call 87; refine (validSet_any _ _ _ _ zs s _ h hbig).mono ?_; rintro e w' ⟨rfl, m, rfl⟩)
    go_ret
    exact ⟨ret_bool Ht.out.symm, below_drewN (Below.refl _ _) m⟩
  · have Ht := Lib.hid (show isApartR zs s = apB zs s by unfold isApartR; rw [hlen.out, hq]; rfl)
    have hv : VoP zs := by simp [vo] at hq; exact hq.1
    have hs : 0 ≤ s ∧ s < powI n := by simp [inB] at hq; omega
    have Hq := Lib.hid hq
    clear hq
    go_enter Try.func42, Try.ntmps42
    go_wp2_with fail
    refine (validSet_any _ _ _ _ zs s _ h hbig).mono ?_
    rintro e w' ⟨rfl, m, rfl⟩
    rw [Hq.out]
    go_wp2_with (go_at_call 92; refine (specIsApart_any _ _ _ _ zs s hv.sets _ (h.drewN m) (Nat.le_refl _) hs.1 hs.2).mono ?_; rintro e w' ⟨rfl, hB⟩)
    go_ret
    exact ⟨ret_bool Ht.out.symm, (below_drewN (Below.refl _ _) m).trans hB⟩

theorem IsChain_any (A : Option Addr) (n c : Nat) (zs : List Int) (s : Int) (w : World) (h : Ints w w.heap.size A n zs) (hbig : n ≤ 1152921504606846976) :
    Calls Try.prog 37 #[.slice A n c, .int .i64 s] w fun e w' => e = .returned (.bool (isChainR zs s)) ∧ Below w.heap.size w w' := by
  have hlen := Lib.hid h.len
  cases hv : vo zs
  · have Ht := Lib.hid (show isChainR zs s = false by unfold isChainR; rw [hv]; rfl)
    have Hv := Lib.hid hv
    clear hv
    go_enter Try.func37, Try.ntmps37
    go_wp2_with fail
    refine (readOrder_any _ _ _ zs _ h hbig).mono ?_
    rintro e w' ⟨hB, (⟨hv, b, rfl, _, _⟩ | ⟨_, rfl⟩)⟩
    · rw [Hv.out] at hv; cases hv
    · go_wp2_with fail
      go_ret
      exact ⟨ret_bool Ht.out.symm, hB⟩
  · have hvo : VoP zs := by simpa [vo] using hv
    have Hv := Lib.hid hv
    clear hv
    have hn6 : n ≤ 6 := by have := hvo.1; rw [hlen.out] at this; exact this
    cases hq : inB s 0 (powI n - 1)
    · have Ht := Lib.hid (show isChainR zs s = false by unfold isChainR; rw [hlen.out, hq]; simp)
      go_enter Try.func37, Try.ntmps37
      go_wp2_with fail
      refine (readOrder_any _ _ _ zs _ h hbig).mono ?_
      rintro e w' ⟨hB, (⟨_, b, rfl, _, _⟩ | ⟨hv, _⟩)⟩
      · go_wp2_with (go_at_call 90; refine (isSetOf_any _ _ _ (by omega) (by omega)).mono ?_; rintro e w2 ⟨rfl, rfl⟩)
        go_ret
        exact ⟨ret_bool Ht.out.symm, hB⟩
      · rw [Hv.out] at hv; cases hv
    · have Ht := Lib.hid (show isChainR zs s = chB zs s by unfold isChainR; rw [hlen.out, hq, Hv.out]; rfl)
      have hs : 0 ≤ s ∧ s < powI n := by unfold inB at hq; simp at hq; omega
      go_enter Try.func37, Try.ntmps37
      go_wp2_with fail
      refine (readOrder_any _ _ _ zs _ h hbig).mono ?_
      rintro e w' ⟨hB, (⟨_, b, rfl, hb, hAr⟩ | ⟨hv, _⟩)⟩
      · go_wp2_with (first
          | (go_at_call 90; refine (isSetOf_any _ _ _ (by omega) (by omega)).mono ?_; rintro e w2 ⟨rfl, rfl⟩)
          | (go_at_call 72; refine (isChain_any _ _ _ zs s hvo _ (hAr.ints' hAr.lt hlen.out) hs.1 hs.2).mono ?_; rintro e w2 ⟨rfl, hB2⟩))
        go_ret
        exact ⟨ret_bool Ht.out.symm, hB.trans (hB2.mono hB.size)⟩
      · rw [Hv.out] at hv; cases hv

theorem IsApart_any (A : Option Addr) (n c : Nat) (zs : List Int) (s : Int) (w : World) (h : Ints w w.heap.size A n zs) (hbig : n ≤ 1152921504606846976) :
    Calls Try.prog 40 #[.slice A n c, .int .i64 s] w fun e w' => e = .returned (.bool (isApartR zs s)) ∧ Below w.heap.size w w' := by
  have hlen := Lib.hid h.len
  cases hv : vo zs
  · have Ht := Lib.hid (show isApartR zs s = false by unfold isApartR; rw [hv]; rfl)
    have Hv := Lib.hid hv
    clear hv
    go_enter Try.func40, Try.ntmps40
    go_wp2_with fail
    refine (readOrder_any _ _ _ zs _ h hbig).mono ?_
    rintro e w' ⟨hB, (⟨hv, b, rfl, _, _⟩ | ⟨_, rfl⟩)⟩
    · rw [Hv.out] at hv; cases hv
    · go_wp2_with fail
      go_ret
      exact ⟨ret_bool Ht.out.symm, hB⟩
  · have hvo : VoP zs := by simpa [vo] using hv
    have Hv := Lib.hid hv
    clear hv
    have hn6 : n ≤ 6 := by have := hvo.1; rw [hlen.out] at this; exact this
    cases hq : inB s 0 (powI n - 1)
    · have Ht := Lib.hid (show isApartR zs s = false by unfold isApartR; rw [hlen.out, hq]; simp)
      go_enter Try.func40, Try.ntmps40
      go_wp2_with fail
      refine (readOrder_any _ _ _ zs _ h hbig).mono ?_
      rintro e w' ⟨hB, (⟨_, b, rfl, _, _⟩ | ⟨hv, _⟩)⟩
      · go_wp2_with (go_at_call 90; refine (isSetOf_any _ _ _ (by omega) (by omega)).mono ?_; rintro e w2 ⟨rfl, rfl⟩)
        go_ret
        exact ⟨ret_bool Ht.out.symm, hB⟩
      · rw [Hv.out] at hv; cases hv
    · have Ht := Lib.hid (show isApartR zs s = apB zs s by unfold isApartR; rw [hlen.out, hq, Hv.out]; rfl)
      have hs : 0 ≤ s ∧ s < powI n := by unfold inB at hq; simp at hq; omega
      go_enter Try.func40, Try.ntmps40
      go_wp2_with fail
      refine (readOrder_any _ _ _ zs _ h hbig).mono ?_
      rintro e w' ⟨hB, (⟨_, b, rfl, hb, hAr⟩ | ⟨hv, _⟩)⟩
      · go_wp2_with (first
          | (go_at_call 90; refine (isSetOf_any _ _ _ (by omega) (by omega)).mono ?_; rintro e w2 ⟨rfl, rfl⟩)
          | (go_at_call 73; refine (isApart_any _ _ _ zs s hvo.sets _ (hAr.ints' hAr.lt hlen.out) hs.1 hs.2).mono ?_; rintro e w2 ⟨rfl, hB2⟩))
        go_ret
        exact ⟨ret_bool Ht.out.symm, hB.trans (hB2.mono hB.size)⟩
      · rw [Hv.out] at hv; cases hv
end Go.Proofs.Ytgeicciieagbgaa

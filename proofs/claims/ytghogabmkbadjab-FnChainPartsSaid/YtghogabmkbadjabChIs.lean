/- IsChain and IsApart: the model's and the program's. -/
import Derived.Test.YtghogabmkbadjabGc
import Derived.Test.YtghogabmkbadjabCnt
set_option linter.unusedVariables false
set_option linter.unusedSimpArgs false
namespace Go.Proofs.Ytghogabmkbadjab
open Go.RowKit

def isChainR (zs : List Int) (s : Int) : Bool := (vo zs && inB s 0 (powI zs.length - 1)) && chB zs s
def isApartR (zs : List Int) (s : Int) : Bool := (vo zs && inB s 0 (powI zs.length - 1)) && apB zs s

theorem IsChain_any (A : Option Addr) (n c : Nat) (zs : List Int) (s : Int) (w : World) (h : Ints w w.heap.size A n zs) (hbig : n ≤ 1152921504606846976) :
    Calls Try.prog 38 #[.slice A n c, .int .i64 s] w fun e w' => e = .returned (.bool (isChainR zs s)) ∧ Below w.heap.size w w' := by
  have hlen := Lib.hid h.len
  cases hv : vo zs
  · have Ht := Lib.hid (show isChainR zs s = false by unfold isChainR; rw [hv]; rfl)
    have Hv := Lib.hid hv
    clear hv
    go_enter Try.func38, Try.ntmps38
    go_wp2_with fail
    refine (readOrder_any _ _ _ zs _ h hbig).mono ?_
    rintro e w' ⟨hB, (⟨hv, b, rfl, _, _⟩ | ⟨_, rfl⟩)⟩
    · rw [Hv.out] at hv; cases hv
    · go_wp2_with fail
      go_ret
      exact ⟨ret_bool Ht.out.symm, hB⟩
  · have hvo : VoP zs := by simpa [vo] using hv
    have Hv := Lib.hid hv
    clear hv
    have hn6 : n ≤ 6 := by have := hvo.1; rw [hlen.out] at this; exact this
    cases hq : inB s 0 (powI n - 1)
    · have Ht := Lib.hid (show isChainR zs s = false by unfold isChainR; rw [hlen.out, hq]; simp)
      go_enter Try.func38, Try.ntmps38
      go_wp2_with fail
      refine (readOrder_any _ _ _ zs _ h hbig).mono ?_
      rintro e w' ⟨hB, (⟨_, b, rfl, _, _⟩ | ⟨hv, _⟩)⟩
      · go_wp2_with (go_at_call 98; refine (isSetOf_any _ _ _ (by omega) (by omega)).mono ?_; rintro e w2 ⟨rfl, rfl⟩)
        go_ret
        exact ⟨ret_bool Ht.out.symm, hB⟩
      · rw [Hv.out] at hv; cases hv
    · have Ht := Lib.hid (show isChainR zs s = chB zs s by unfold isChainR; rw [hlen.out, hq, Hv.out]; rfl)
      have hs : 0 ≤ s ∧ s < powI n := by unfold inB at hq; simp at hq; omega
      go_enter Try.func38, Try.ntmps38
      go_wp2_with fail
      refine (readOrder_any _ _ _ zs _ h hbig).mono ?_
      rintro e w' ⟨hB, (⟨_, b, rfl, hb, hAr⟩ | ⟨hv, _⟩)⟩
      · go_wp2_with (first
          | (go_at_call 98; refine (isSetOf_any _ _ _ (by omega) (by omega)).mono ?_; rintro e w2 ⟨rfl, rfl⟩)
          | (go_at_call 80; refine (isChain_any _ _ _ zs s hvo _ (hAr.ints' hAr.lt hlen.out) hs.1 hs.2).mono ?_; rintro e w2 ⟨rfl, hB2⟩))
        go_ret
        exact ⟨ret_bool Ht.out.symm, hB.trans (hB2.mono hB.size)⟩
      · rw [Hv.out] at hv; cases hv

end Go.Proofs.Ytghogabmkbadjab

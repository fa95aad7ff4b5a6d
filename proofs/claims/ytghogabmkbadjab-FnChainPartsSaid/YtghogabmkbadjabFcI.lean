/- FewestChains: the program's. -/
import Derived.Test.YtghogabmkbadjabLkI
import Derived.Test.YtghogabmkbadjabGa
set_option linter.unusedVariables false
set_option linter.unusedSimpArgs false
namespace Go.Proofs.Ytghogabmkbadjab
open Go.RowKit Go.Shelf
attribute [local go_sem] Oper.semAt_some

theorem ownP_len {w : World} {B n : Nat} {e : TypeId} {v : Value} {xs : List Value} (h : w.ownsRow B e 1 v n xs) : ∃ A c, v = .slice A n c := by
  rcases h.2 with ⟨rfl, hn⟩ | ⟨g, cap, cur, rfl, hrest⟩
  · exact ⟨none, 0, by rw [hn]⟩
  · exact ⟨_, _, rfl⟩

theorem FewestChains_any (A : Option Addr) (n c : Nat) (zs : List Int) (w : World) (h : Ints w w.heap.size A n zs) (hbig : n ≤ 1152921504606846976) :
    Calls Try.prog 32 #[.slice A n c] w fun e w' => e = .returned (.int .i64 (fewestR zs)) ∧ Below w.heap.size w w' := by
  have hlen := Lib.hid h.len
  cases hv : vo zs
  · have Ht := Lib.hid (show fewestR zs = -1 by unfold fewestR; rw [hv]; rfl)
    have Hv := Lib.hid hv
    clear hv
    go_enter Try.func32, Try.ntmps32
    go_wp2_with fail
    refine (readOrder_any _ _ _ zs _ h hbig).mono ?_
    rintro e w' ⟨hB, (⟨hv, b, rfl, _, _⟩ | ⟨_, rfl⟩)⟩
    · rw [Hv.out] at hv; cases hv
    · go_wp2_with fail
      go_ret
      exact ⟨by rw [Ht.out]; rfl, hB⟩
  · have hvo : VoP zs := by simpa [vo] using hv
    have Ht := Lib.hid (show fewestR zs = (noneTo (matesTo zs n) n : Int) by unfold fewestR; rw [hv, if_pos rfl, hlen.out])
    have Hv := Lib.hid hv
    clear hv
    go_enter Try.func32, Try.ntmps32
    go_wp2_with fail
    refine (readOrder_any _ _ _ zs _ h hbig).mono ?_
    rintro e w' ⟨hB, (⟨_, b, rfl, hb, hAr⟩ | ⟨hv, _⟩)⟩
    · go_wp2_with fail
      trace_state
      refine (linkChains_any _ _ zs hvo hlen.out _ hAr).mono ?_
      rintro e w2 ⟨s, v, rfl, -, hown, -, hB2⟩
      obtain ⟨A2, c2, rfl⟩ := ownP_len hown
      have Hl := Lib.hid (lowL_len (matesTo zs n) n)
      clear hown
      generalize (lowL (matesTo zs n) n).length = m at *
      go_wp2_with fail
      go_ret
      exact ⟨by rw [Ht.out, ← Hl.out]; rfl, hB.trans (hB2.mono hB.size)⟩
    · rw [Hv.out] at hv; cases hv
end Go.Proofs.Ytghogabmkbadjab

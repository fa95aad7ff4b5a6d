/- What is read where all is tried: orders of at most five items. -/
import Derived.Test.YtghogabmkbadjaaGa
set_option linter.unusedVariables false
set_option linter.unusedSimpArgs false
namespace Go.Proofs.Ytghogabmkbadjaa
open Go.RowKit Go.Shelf

/-- Whether a list is no longer than what is tried, and an order. -/
def triB (zs : List Int) : Bool := vo zs && decide (zs.length ≤ 5)
theorem triB_vo {zs : List Int} (h : triB zs = true) : VoP zs ∧ zs.length ≤ 5 := by
  unfold triB at h
  rw [Bool.and_eq_true] at h
  exact ⟨by simpa [vo] using h.1, by simpa using h.2⟩
theorem triB_of {zs : List Int} (h : VoP zs) (h5 : zs.length ≤ 5) : triB zs = true := by
  unfold triB
  rw [vo_true h]
  simpa using h5

/-- What reading a list that is tried gives. -/
def ReadT (zs : List Int) (n : Nat) (w : World) (e : Ending) (w' : World) : Prop :=
  Below w.heap.size w w' ∧ ((triB zs = true ∧ ∃ b, e = .returned (.tuple #[.slice (some ⟨b, 0, none⟩) n n, .bool true]) ∧ w.heap.size ≤ b ∧ Arr w' b 59 zs) ∨ (triB zs = false ∧ e = .returned (.tuple #[.slice none 0 0, .bool false])))
theorem readTried_any (A : Option Addr) (n c : Nat) (zs : List Int) (w : World) (h : Ints w w.heap.size A n zs) (hbig : n ≤ 1152921504606846976) :
    Calls Try.prog 53 #[.slice A n c] w (ReadT zs n w) := by
  have hlen := Lib.hid h.len
  go_enter Try.func53, Try.ntmps53
  go_wp2_with fail
  refine (readOrder_any _ _ _ zs _ h hbig).mono ?_
  rintro e w1 ⟨hB, (⟨hv, b, rfl, hb, hAr⟩ | ⟨hv, rfl⟩)⟩
  · have hvo : VoP zs := by simpa [vo] using hv
    by_cases hn5 : n ≤ 5
    · have Ht := Lib.hid (triB_of hvo (by rw [hlen.out]; exact hn5))
      clear hv
      go_wp2_with fail
      go_ret2
      exact ⟨hB, .inl ⟨Ht.out, b, rfl, hb, hAr⟩⟩
    · have Ht := Lib.hid (show triB zs = false by unfold triB; rw [hlen.out]; simp [hn5])
      clear hv
      go_wp2_with fail
      go_ret2
      exact ⟨hB, .inr ⟨Ht.out, rfl⟩⟩
  · have Ht := Lib.hid (show triB zs = false by unfold triB; rw [hv]; rfl)
    clear hv
    go_wp2_with fail
    go_ret2
    exact ⟨hB, .inr ⟨Ht.out, rfl⟩⟩

end Go.Proofs.Ytghogabmkbadjaa

/- SideOrder: the program's whole. -/
import Derived.Test.YtbhnkjclemeolaaSdI
import Derived.Test.YtbhnkjclemeolaaSdS
import Derived.Test.YtbhnkjclemeolaaGa
set_option linter.unusedVariables false
set_option linter.unusedSimpArgs false
namespace Go.Proofs.Ytbhnkjclemeolaa
open Go.RowKit Go.Shelf

/-- What reading a list with its side gives. -/
def ReadsSd (w : World) (zs : List Int) (n : Nat) (e : Ending) (w' : World) : Prop :=
  Below w.heap.size w w' ∧ ((sdOk zs = false ∧ ∃ v1 v2, e = .returned (.tuple #[v1, v2, .bool false])) ∨
    (sdOk zs = true ∧ ∃ T b b', sdF zs = some T ∧ e = .returned (.tuple #[.slice (some ⟨b, 0, none⟩) n n, .slice (some ⟨b', 0, none⟩) n n, .bool true]) ∧ Arr w' b 70 zs ∧ Arr w' b' 70 T))
set_option maxHeartbeats 2000000 in
theorem readSided_any (A : Option Addr) (n c : Nat) (zs : List Int) (w : World) (h : Ints w w.heap.size A n zs) (hbig : n ≤ 1152921504606846976) :
    Calls Try.prog 51 #[.slice A n c] w (ReadsSd w zs n) := by
  have hlen := Lib.hid h.len
  go_enter Try.func51, Try.ntmps51
  go_wp2_with fail
  refine (readOrder_any _ _ _ zs _ h hbig).mono ?_
  rintro e w1 ⟨hB, (⟨hv, b, rfl, hb, hAr⟩ | ⟨hv, rfl⟩)⟩
  · have z1 := hB.size
    have hvo : VoP zs := by simpa [vo] using hv
    have Hv := Lib.hid hv
    clear hv
    go_wp2_with fail
    refine (side_any _ n _ zs hvo _ (hAr.ints' hAr.lt hlen.out)).mono ?_
    rintro e w2 ⟨(⟨hn, rfl⟩ | ⟨T, b', hT, rfl, hb', hA'⟩), hB2⟩
    · have Ho := Lib.hid (show sdOk zs = false by unfold sdOk; rw [hn]; simp)
      clear hn
      go_wp2_with fail
      go_ret3
      exact ⟨hB.trans (hB2.mono z1), .inl ⟨Ho.out, _, _, rfl⟩⟩
    · have Ho := Lib.hid (show sdOk zs = true by unfold sdOk; rw [hT, Hv.out]; rfl)
      have HT := Lib.hid hT
      clear hT
      have hA2 := hAr.below hB2 hAr.lt
      go_wp2_with fail
      go_ret3
      exact ⟨hB.trans (hB2.mono z1), .inr ⟨Ho.out, T, b, b', HT.out, rfl, hA2, hA'⟩⟩
  · have Ho := Lib.hid (show sdOk zs = false by unfold sdOk; rw [hv]; rfl)
    clear hv
    go_wp2_with fail
    go_ret3
    exact ⟨hB, .inl ⟨Ho.out, _, _, rfl⟩⟩

set_option maxHeartbeats 2000000 in
theorem SideOrder_any (A : Option Addr) (n c : Nat) (zs : List Int) (w : World) (h : Ints w w.heap.size A n zs) (hbig : n ≤ 1152921504606846976) :
    Calls Try.prog 22 #[.slice A n c] w (GivesSd w zs) := by
  have hlen := Lib.hid h.len
  go_enter Try.func22, Try.ntmps22
  go_wp2_with fail
  refine (readSided_any A n c zs w h hbig).mono ?_
  rintro e w1 ⟨hB, (⟨Ho, v1, v2, rfl⟩ | ⟨Ho, T, b, b', hT, rfl, hA, hA'⟩)⟩
  · have Ho := Lib.hid Ho
    go_wp2_with fail
    go_ret2
    exact none_sd Ho.out hB
  · have Ho := Lib.hid Ho
    have hvo : VoP zs := by
      have := Ho.out
      unfold sdOk at this
      rw [Bool.and_eq_true] at this
      simpa [vo] using this.1
    have hTl : T.length = n := by rw [(sdF_some hvo hT).1.len, hlen.out]
    have Hr := Lib.hid (show sdR zs = T by unfold sdR; rw [Ho.out, hT]; rfl)
    have hn6 : n ≤ 6 := by have := hvo.1; rw [hlen.out] at this; exact this
    clear hT
    have z1 := hB.size
    go_wp2_with fail
    refine (list_any _ n _ T _ (hA'.ints' hA'.lt hTl) (by omega)).mono ?_
    rintro e w2 ⟨rfl, hA2, hB2⟩
    go_wp2_with fail
    go_ret2
    exact ⟨_, n, n, by rw [Ho.out]; rfl, by rw [Hr.out]; exact Row.of hA2 hTl (by omega) hA2.lt, hB.trans (hB2.mono z1)⟩
end Go.Proofs.Ytbhnkjclemeolaa

/- Renumbered: the model's and the program's, whole. -/
import Derived.Test.YtghogabmkbadjaaRnS
import Derived.Test.YtghogabmkbadjaaRnI
import Derived.Test.YtghogabmkbadjaaGxb
import Derived.Test.YtghogabmkbadjaaIsN
set_option linter.unusedVariables false
set_option linter.unusedSimpArgs false
namespace Go.Proofs.Ytghogabmkbadjaa
open Go.RowKit Go.Shelf
attribute [local go_sem] Oper.semAt_some
attribute [local go_sem, local simp] wide_fn

theorem rowVofArr {w : World} {lo hi n b : Nat} {xs : List Int} (h : Arr w b 3 xs) (hn : xs.length = n) (hlo : lo ≤ b) (hhi : b < hi) : RowV w lo hi (some ⟨b, 0, none⟩) n xs :=
  ⟨hn, fun _ => ⟨b, _, rfl, hlo, hhi, h, by rw [← hn]; exact List.take_of_length_le (by simp)⟩⟩
theorem rnR_len (zs ts : List Int) : (rnR zs ts).length ≤ 1048576 := by
  unfold rnR
  cases h : rnOk zs ts
  · simp
  · have hv : VoP zs := by unfold rnOk at h; rw [Bool.and_eq_true] at h; simpa [vo] using h.1
    have := hv.1
    simp only [if_true]
    rw [rnL_len]; omega

set_option maxRecDepth 100000 in
set_option maxHeartbeats 2000000 in
theorem specRenumberedF_any (A : Option Addr) (n c : Nat) (zs : List Int) (A' : Option Addr) (n' c' : Nat) (ts : List Int) (w : World) (h : Ints w w.heap.size A n zs) (h' : Ints w w.heap.size A' n' ts) (hbig : n ≤ 1152921504606846976) (hbig' : n' ≤ 1152921504606846976) :
    Calls Try.prog 14 #[.slice A n c, .slice A' n' c'] w (GivesAtV w (rnR zs ts) (rnOk zs ts)) := by
  have hlen := Lib.hid h.len
  have hlen' := Lib.hid h'.len
  cases hv : vo zs
  · have Hb := Lib.hid (show rnOk zs ts = false by unfold rnOk; rw [hv]; rfl)
    have Ht := Lib.hid (show rnR zs ts = [] by unfold rnR; rw [Hb.out]; rfl)
    go_enter Try.func14, Try.ntmps14
    go_wp2_with fail
    refine (validOrder_any _ _ _ _ zs _ h hbig).mono ?_
    rw [hv]
    rintro e w' ⟨rfl, m, rfl⟩
    go_wp2_with fail
    go_ret2
    exact ⟨none, 0, 0, by rw [Hb.out]; rfl, by rw [Ht.out]; exact RowV.nil _ _ _ _, below_drewN (Below.refl _ _) m⟩
  · have hvo : VoP zs := by simpa [vo] using hv
    have hn6 : n ≤ 6 := by have := hvo.1; rw [hlen.out] at this; exact this
    have Hv := Lib.hid hv
    clear hv
    have hmk := run_make_row' (P := Try.prog) 22 3 (.int .i64 0) 8 Try.underlying22 infoInt rfl .i64 .i64 n (by omega) (by omega)
    go_enter Try.func14, Try.ntmps14
    go_wp2_with fail
    refine (validOrder_any _ _ _ _ zs _ h hbig).mono ?_
    rw [Hv.out]
    rintro e w' ⟨rfl, m, rfl⟩
    have i1 : Ints (w.drewN m) (w.drewN m).heap.size A n zs := h.drewN m
    have j1 : Ints (w.drewN m) (w.drewN m).heap.size A' n' ts := h'.drewN m
    have B1 : Below w.heap.size w (w.drewN m) := below_drewN (Below.refl _ _) m
    generalize w.drewN m = w1 at *
    have z1 := B1.size
    go_wp2_with fail
    have hA2 := Arr.new w1 3 n
    have hB2 : Below w1.heap.size w1 (w1.alloc (.cells (madeCells #[.int .i64 0] n) 3)) := (Below.refl _ _).alloc (Nat.le_refl _) _
    obtain ⟨w2, hW2⟩ : ∃ w2, w1.alloc (.cells (madeCells #[.int .i64 0] n) 3) = w2 := ⟨_, rfl⟩
    rw [hW2] at hA2 hB2 ⊢
    clear hW2 hmk
    have z2 := hB2.size
    have i2 := i1.to hB2 (Nat.le_refl _) z2
    have j2 := j1.to hB2 (Nat.le_refl _) z2
    have C2 := B1.trans (hB2.mono z1)
    refine (sisLine_any _ n n (zr n) A' n' c' ts (zr_vo hn6) w2 (hA2.ints' hA2.lt (by simp)) j2 hbig').mono ?_
    rintro e w3 ⟨rfl, hB3⟩
    have z3 := hB3.size
    have i3 := i2.to hB3 (Nat.le_refl _) z3
    have j3 := j2.to hB3 (Nat.le_refl _) z3
    have C3 := C2.trans (hB3.mono (by omega))
    cases hb : lineB (zr n) ts
    · have Hb := Lib.hid (show rnOk zs ts = false by unfold rnOk; rw [Hv.out, hlen.out, hb]; rfl)
      have Ht := Lib.hid (show rnR zs ts = [] by unfold rnR; rw [Hb.out]; rfl)
      go_wp2_with fail
      go_ret2
      exact ⟨none, 0, 0, by rw [Hb.out]; rfl, by rw [Ht.out]; exact RowV.nil _ _ _ _, C3⟩
    · have Hb := Lib.hid (show rnOk zs ts = true by unfold rnOk; rw [Hv.out, hlen.out, hb]; rfl)
      have Ht := Lib.hid (show rnR zs ts = rnL zs ts by unfold rnR; rw [Hb.out]; rfl)
      obtain rfl : n = n' := by
        have := (zr_steps hb).1
        rw [hlen'.out] at this; exact this.symm
      have Hbb := Lib.hid hb
      clear hb
      go_wp2_with fail
      refine (rnS_any A A' n c c' zs ts w3 i3 j3 hvo.sets Hbb.out).mono ?_
      rintro e w4 ⟨rfl, hA4, hB4⟩
      go_wp2_with fail
      go_ret2
      exact ⟨_, n, n, by rw [Hb.out]; rfl, by rw [Ht.out]; exact rowVofArr hA4 (by rw [rnL_len, hlen.out]) (by omega) hA4.lt, C3.trans (hB4.mono (by omega))⟩

set_option maxRecDepth 100000 in
set_option maxHeartbeats 2000000 in
theorem Renumbered_any (A : Option Addr) (n c : Nat) (zs : List Int) (A' : Option Addr) (n' c' : Nat) (ts : List Int) (w : World) (h : Ints w w.heap.size A n zs) (h' : Ints w w.heap.size A' n' ts) (hbig : n ≤ 1152921504606846976) (hbig' : n' ≤ 1152921504606846976) :
    Calls Try.prog 16 #[.slice A n c, .slice A' n' c'] w (GivesAtV w (rnR zs ts) (rnOk zs ts)) := by
  have hlen := Lib.hid h.len
  have hlen' := Lib.hid h'.len
  cases hv : vo zs
  · have Hb := Lib.hid (show rnOk zs ts = false by unfold rnOk; rw [hv]; rfl)
    have Ht := Lib.hid (show rnR zs ts = [] by unfold rnR; rw [Hb.out]; rfl)
    have Hv := Lib.hid hv
    clear hv
    go_enter Try.func16, Try.ntmps16
    go_wp2_with fail
    refine (readOrder_any _ _ _ zs _ h hbig).mono ?_
    rintro e w' ⟨hB, (⟨hv, b, rfl, _, _⟩ | ⟨_, rfl⟩)⟩
    · rw [Hv.out] at hv; cases hv
    · go_wp2_with fail
      go_ret2
      exact ⟨none, 0, 0, by rw [Hb.out]; rfl, by rw [Ht.out]; exact RowV.nil _ _ _ _, hB⟩
  · have hvo : VoP zs := by simpa [vo] using hv
    have hn6 : n ≤ 6 := by have := hvo.1; rw [hlen.out] at this; exact this
    have Hv := Lib.hid hv
    clear hv
    have hmk := run_make_row' (P := Try.prog) 44 59 (.int .i64 0) 8 Try.underlying44 infoItems rfl .i64 .i64 n (by omega) (by omega)
    go_enter Try.func16, Try.ntmps16
    go_wp2_with fail
    refine (readOrder_any _ _ _ zs _ h hbig).mono ?_
    rintro e w1 ⟨hB, (⟨_, b, rfl, hb, hAr⟩ | ⟨hv, _⟩)⟩
    · have z1 := hB.size
      have j1 := h'.to hB (Nat.le_refl _) z1
      go_wp2_with fail
      refine (isNumbering_any n A' n' c' ts w1 hn6 j1 hbig').mono ?_
      rintro e w2 ⟨rfl, hB2⟩
      have z2 := hB2.size
      have C2 := hB.trans (hB2.mono z1)
      have j2 := j1.to hB2 (Nat.le_refl _) z2
      have hA2 := hAr.below hB2 hAr.lt
      cases hb : lineB (zr n) ts
      · have Hb := Lib.hid (show rnOk zs ts = false by unfold rnOk; rw [Hv.out, hlen.out, hb]; rfl)
        have Ht := Lib.hid (show rnR zs ts = [] by unfold rnR; rw [Hb.out]; rfl)
        go_wp2_with fail
        go_ret2
        exact ⟨none, 0, 0, by rw [Hb.out]; rfl, by rw [Ht.out]; exact RowV.nil _ _ _ _, C2⟩
      · have Hb := Lib.hid (show rnOk zs ts = true by unfold rnOk; rw [Hv.out, hlen.out, hb]; rfl)
        have Ht := Lib.hid (show rnR zs ts = rnL zs ts by unfold rnR; rw [Hb.out]; rfl)
        obtain rfl : n = n' := by
          have := (zr_steps hb).1
          rw [hlen'.out] at this; exact this.symm
        have Hbb := Lib.hid hb
        clear hb
        go_wp2_with fail
        have hA3 := Arr.new w2 59 n
        have hu3 : Upd (fun _ => False) w2 (w2.alloc (.cells (madeCells #[.int .i64 0] n) 59)) := (Upd.refl _ w2).alloc _
        have hz3 : (w2.alloc (.cells (madeCells #[.int .i64 0] n) 59)).heap.size = w2.heap.size + 1 := by simp
        obtain ⟨w3, hW3⟩ : ∃ w3, w2.alloc (.cells (madeCells #[.int .i64 0] n) 59) = w3 := ⟨_, rfl⟩
        rw [hW3] at hA3 hu3 hz3 ⊢
        clear hW3 hmk
        have hb3 := hu3.toBelow (B := w2.heap.size) (fun _ e => e.elim) (Nat.le_refl _)
        refine (renumberInto_any (some ⟨b, 0, none⟩) n n zs hvo.sets w2.heap.size n _ A' c' ts w2.heap.size w3 ((hA2.ints' hA2.lt hlen.out).below hb3) hA3 (by simp) (Nat.le_refl _) (Ints.beside (j2.below hb3) (Nat.le_refl _) (by omega)) Hbb.out).mono ?_
        rintro e w4 ⟨⟨v, rfl⟩, hA4, hU4⟩
        have z4 := hU4.size
        have B4 : Below w2.heap.size w2 w4 := (hu3.mono (S := fun k => w2.heap.size ≤ k) (fun _ _ e => e.elim)).trans' hU4 (fun i hi e => by omega) |>.toBelow (fun k e => e) (Nat.le_refl _)
        go_wp2_with fail
        refine (list_any _ _ _ _ _ (hA4.ints' hA4.lt (by rw [rnL_len, hlen.out])) (by omega)).mono ?_
        rintro e w5 ⟨rfl, hA5, hB5⟩
        go_wp2_with fail
        go_ret2
        exact ⟨_, n, n, by rw [Hb.out]; rfl, by rw [Ht.out]; exact rowVofArr hA5 (by rw [rnL_len, hlen.out]) (by omega) hA5.lt, C2.trans ((B4.trans (hB5.mono (by omega))).mono (by omega))⟩
    · rw [Hv.out] at hv; cases hv
end Go.Proofs.Ytghogabmkbadjaa

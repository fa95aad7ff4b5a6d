/- UndoSums: the model's. -/
import Derived.Test.YtopfeebibphdgaaSbS
namespace Go.Proofs.Ytopfeebibphdgaa
open Go.RowKit Go.Shelf
attribute [local go_sem] Oper.semAt_some
attribute [local go_sem, local simp] wide_fn

theorem usTo_succ (zs vs : List Int) (a k : Nat) : usTo zs vs a (k + 1) = usTo zs vs a k + vs[k]?.getD 0 * muI zs k a := rfl
theorem usTo_all {zs vs : List Int} {n : Nat} (h : zs.length = n) (a : Nat) : usTo zs vs a n = usI zs vs a := by subst h; rfl

set_option maxRecDepth 100000 in
set_option maxHeartbeats 4000000 in
theorem specUndoSumsF_any (A : Option Addr) (n c : Nat) (zs : List Int) (A' : Option Addr) (n' c' : Nat) (vs : List Int) (w : World) (h : Ints w w.heap.size A n zs) (h' : Ints w w.heap.size A' n' vs) (hbig : n ≤ 1152921504606846976) (hbig' : n' ≤ 1152921504606846976) :
    Calls Try.prog 24 #[.slice A n c, .slice A' n' c'] w (GivesRowC w (undoR zs vs)) := by
  obtain ⟨i0, hi0, hz0, hz1, hz2⟩ := info_parts infoInt
  have hlen := Lib.hid h.len
  have hlen' := Lib.hid h'.len
  cases hv : valR zs vs
  · have Ht := Lib.hid (show undoR zs vs = [] by unfold undoR; rw [hv]; rfl)
    have Hv := Lib.hid hv
    clear hv
    go_enter Try.func24, Try.ntmps24
    go_wp2_with fail
    refine (svalid_any A n c zs A' n' c' _ vs w h h' hbig hbig').mono ?_
    rw [Hv.out]
    rintro e w' ⟨rfl, m, rfl⟩
    go_wp2_with fail
    go_ret
    exact ⟨none, 0, 0, rfl, by rw [Ht.out]; exact RowC.nil _ _ _ _, below_drewN (Below.refl _ _) _⟩
  · obtain ⟨hvo, hl, hvb⟩ := valR_parts hv
    obtain rfl : n' = n := by have h1 := hlen.out; have h2 := hlen'.out; omega
    have hn6 : n' ≤ 6 := by have := hvo.1; rw [hlen.out] at this; exact this
    have Ht := Lib.hid (show undoR zs vs = undoL zs vs by unfold undoR; rw [hv]; rfl)
    have Hv := Lib.hid hv
    clear hv
    go_enter Try.func24, Try.ntmps24
    go_wp2_with fail
    refine (svalid_any A n' c zs A' n' c' _ vs w h h' hbig hbig').mono ?_
    rw [Hv.out]
    rintro e w' ⟨rfl, m, rfl⟩
    have hB00 : Below w.heap.size w (w.drewN m) := below_drewN (Below.refl _ _) m
    have hI0 : Ints (w.drewN m) (w.drewN m).heap.size A n' zs := h.drewN m
    have hV0 : Ints (w.drewN m) (w.drewN m).heap.size A' n' vs := h'.drewN m
    obtain ⟨w0, hw0⟩ : ∃ w0, w.drewN m = w0 := ⟨_, rfl⟩
    rw [hw0] at hB00 hI0 hV0 ⊢
    clear hw0
    have z0 := hB00.size
    go_wp2_with fail
    have h1 := own_new w0 3
    have hU1 : Upd (fun _ => False) w0 (w0.alloc (.cells #[] 3)) := (Upd.refl _ w0).alloc _
    have hz1' : (w0.alloc (.cells #[] 3)).heap.size = w0.heap.size + 1 := by simp
    obtain ⟨w2, hw2⟩ : ∃ w2, w0.alloc (.cells #[] 3) = w2 := ⟨_, rfl⟩
    rw [hw2] at h1 hU1 hz1' ⊢
    clear hw2
    obtain ⟨hza, hzb⟩ : w0.heap.size < w2.heap.size ∧ w2.heap.size ≤ w0.heap.size + 1 := by omega
    clear hz1'
    have hI2 : Ints w2 w0.heap.size A n' zs := hI0.below (hU1.toBelow (fun _ e => e.elim) (Nat.le_refl _))
    have hV2 : Ints w2 w0.heap.size A' n' vs := hV0.below (hU1.toBelow (fun _ e => e.elim) (Nat.le_refl _))
    go_loopw [5, 6] (fun v i wr => ∃ k : Nat, k ≤ n' ∧ i = .int .i64 k ∧ OwnS (fun k => k = w0.heap.size ∨ w2.heap.size ≤ k) wr w0.heap.size 3 v (firstL (usI zs vs) k) ∧ Upd (fun k => k = w0.heap.size) w2 wr) (fun _ i _ => n' - (intOf i).toNat)
    case atStart => exact ⟨0, by omega, rfl, ⟨fun k hk => by simp [Value.ownBlock] at hk; exact .inl hk.symm, h1⟩, Upd.refl _ _⟩
    case round =>
      obtain ⟨k, hk, rfl, hO, hU⟩ := hrel
      have zr := hU.size
      have hir : Ints wr wr.heap.size A n' zs := (hI2.below (hU.toBelow (B := w0.heap.size) (fun k e => by omega) (by omega))).more (by omega)
      have hvr : Ints wr wr.heap.size A' n' vs := (hV2.below (hU.toBelow (B := w0.heap.size) (fun k e => by omega) (by omega))).more (by omega)
      by_cases hlt : k < n'
      · obtain ⟨bv, ofv, rfl, _, hcv⟩ := hvr.at_ hlt
        have Hcv := Lib.hid hcv
        clear hcv
        have Hen := Lib.hid (usTo_all (vs := vs) hlen.out k)
        have Hnx := Lib.hid (firstL_succ (usI zs vs) k)
        have Hfl := Lib.hid (firstL_len (usI zs vs) k)
        go_wp2_with fail
        go_loopw [7, 8] (fun x i wx => ∃ j q : Nat, j ≤ n' ∧ i = .int .i64 j ∧ x = .int .i64 (usTo zs vs k j) ∧ wx = wr.drewN q) (fun _ i _ => n' - (intOf i).toNat)
        case atStart => exact ⟨0, 0, by omega, rfl, rfl, rfl⟩
        case round =>
          obtain ⟨j, q, hj, rfl, rfl, rfl⟩ := hrel
          by_cases hjt : j < n'
          · have hcvj := Hcv.out j hjt
            have hvj := valB_at hvb j
            have hmb := muI_bd hvo.1 j k
            have hub := usTo_bd (zs := zs) hvo.1 hvb k (k := j) (by omega)
            have hpb := mul_in hvj.1 hvj.2 hmb.1 hmb.2
            have Hsu := Lib.hid (usTo_succ zs vs k j)
            have hcall := fun q' => smobius_any A n' c zs hvo hlen.out 7 j k _ (wr.drewN q') (hir.drewN q') (rank_le6 hvo k) hjt hlt
            have hwm : IntKind.i64.wrap (vs[j]?.getD 0 * muI zs j k) = vs[j]?.getD 0 * muI zs j k := by rw [IntKind.wrap_i64]; omega
            have hwa : IntKind.i64.wrap (usTo zs vs k j + vs[j]?.getD 0 * muI zs j k) = usTo zs vs k (j + 1) := by rw [IntKind.wrap_i64, Hsu.out]; omega
            clear Hcv
            generalize vs[j]?.getD 0 = vj at *
            generalize muI zs j k = mj at *
            go_wp2
            go_quiet ((go_at_call 44; exact quiet_any (hcall _)))
            go_wp2
            go_roundw
            case rel => exact ⟨j + 1, _, by omega, by go_num, by first | rfl | rw [hwa], rfl⟩
            case measure => simp [intOf]; omega
          · obtain rfl : j = n' := by omega
            have hOd : OwnS (fun k => k = w0.heap.size ∨ w2.heap.size ≤ k) (wr.drewN q) w0.heap.size 3 _ (firstL (usI zs vs) k) := hO
            have hUd := hU.drewN q
            have zd : (wr.drewN q).heap.size = wr.heap.size := rfl
            rw [Hen.out]
            generalize wr.drewN q = w5 at *
            have z5 : w2.heap.size ≤ w5.heap.size := by omega
            clear zd
            go_wp2_with (at_builtin; refine wpList_append1 _ rfl (.tmp 37) (.tmp 39) _ rfl w0.heap.size 3 i0 _ 8 Try.underlying22 hi0 hz0 hz1 hz2 rfl _ (firstL (usI zs vs) k).length _ rfl (hOd.2.alloc _) w5.heap.size 1 (.int .i64 (usI zs vs k)) rfl (cell_new _ _ _) rfl (by rw [Hfl.out]; omega) (by rw [Hfl.out]; omega) (by simp; omega) ?_; rintro v' w' hown' hg' hv')
            have zg := hg'.size
            simp at zg
            go_roundw
            case rel => exact ⟨k + 1, by omega, by go_num, by rw [Hnx.out]; exact hOd.step hown' hv' (fun k e => e) (fun _ => .inr (by omega)), (hUd.alloc _).grown hg' (fun k hk => by rcases hOd.1 k hk with e | e <;> omega)⟩
            case measure => simp [intOf]; omega
      · obtain rfl : k = n' := by omega
        obtain ⟨A', c', rfl, hRC⟩ := rowC_of_own hO.2
        have Hf := Lib.hid (undoL_first (vs := vs) hlen.out)
        go_wp2
        go_ret
        exact ⟨A', _, c', rfl, by rw [Ht.out, ← Hf.out]; exact hRC.more z0 (Nat.le_refl _), hB00.trans (((hU1.trans' hU (fun i hi e => by omega)).toBelow (fun _ e => e.elim) (Nat.le_refl _)).mono z0)⟩
end Go.Proofs.Ytopfeebibphdgaa

/- SumsBelow, UndoSums: the model's. -/
import Derived.Test.YtopfeebibphdgaaGc
import Derived.Test.YtopfeebibphdgaaOwnS
import Derived.Test.YtopfeebibphdgaaGa
namespace Go.Proofs.Ytopfeebibphdgaa
open Go.RowKit Go.Shelf
attribute [local go_sem] Oper.semAt_some
attribute [local go_sem, local simp] wide_fn

theorem sumsL_first {zs vs : List Int} {n : Nat} (h : zs.length = n) : firstL (sbI zs vs) n = sumsL zs vs := by subst h; rfl
theorem undoL_first {zs vs : List Int} {n : Nat} (h : zs.length = n) : firstL (usI zs vs) n = undoL zs vs := by subst h; rfl

set_option maxRecDepth 100000 in
set_option maxHeartbeats 4000000 in
theorem ssumsBelow_any (A : Option Addr) (n c : Nat) (zs : List Int) (A' : Option Addr) (c' : Nat) (vs : List Int) (hvo : VoP zs) (hvb : valB vs = true) (w0 : World) (hI0 : Ints w0 w0.heap.size A n zs) (hV0 : Ints w0 w0.heap.size A' n vs) :
    Calls Try.prog 39 #[.slice A n c, .slice A' n c'] w0 (GivesRowC w0 (sumsL zs vs)) := by
  obtain ⟨i0, hi0, hz0, hz1, hz2⟩ := info_parts infoInt
  have hlen := Lib.hid hI0.len
  have hn6 : n ≤ 6 := by have := hvo.1; rw [hlen.out] at this; exact this
  have Hd := Lib.hid (show downP n (pairsL zs) = du zs by unfold du; rw [hlen.out])
  have hds := du_sets hvo.sets
  have Hdl := Lib.hid (show (du zs).length = n by rw [du_len, hlen.out])
  go_enter Try.func39, Try.ntmps39
  go_wp2_with fail
  have h1 := own_new w0 3
  have hU1 : Upd (fun _ => False) w0 (w0.alloc (.cells #[] 3)) := (Upd.refl _ w0).alloc _
  have hz1' : (w0.alloc (.cells #[] 3)).heap.size = w0.heap.size + 1 := by simp
  obtain ⟨W1, hW1⟩ : ∃ W1, w0.alloc (.cells #[] 3) = W1 := ⟨_, rfl⟩
  rw [hW1] at h1 hU1 hz1' ⊢
  clear hW1
  obtain ⟨hza, hzb⟩ : w0.heap.size < W1.heap.size ∧ W1.heap.size ≤ w0.heap.size + 1 := by omega
  clear hz1'
  have hB1 : Below w0.heap.size w0 W1 := hU1.toBelow (fun _ e => e.elim) (Nat.le_refl _)
  refine (downOf_any _ _ _ zs _ (hI0.to hB1 (Nat.le_refl _) (by omega)) hvo.sets).mono ?_
  rintro e w2 ⟨rfl, hA2, hB2⟩
  rw [Hd.out] at hA2
  have z2 := hB2.size
  have O2 : OwnS (fun k => k = w0.heap.size) w2 w0.heap.size 3 (.slice (some ⟨w0.heap.size, 0, none⟩) 0 0) [] := OwnS.keep (S := fun k => k = w0.heap.size) ⟨fun k hk => by simp [Value.ownBlock] at hk; exact hk.symm, h1⟩ (Below.toUpd hB2) (fun k hk e => by omega)
  have hU2 : Upd (fun _ => False) w0 w2 := hU1.below hB2 (fun k h1 h2 => by omega)
  have hV2 : Ints w2 w0.heap.size A' n vs := hV0.below (hU2.toBelow (fun _ e => e.elim) (Nat.le_refl _))
  clear h1 hU1 hB2
  go_wp2_with fail
  go_loopw [5, 7] (fun v i wr => ∃ k : Nat, k ≤ n ∧ i = .int .i64 k ∧ OwnS (fun k => k = w0.heap.size ∨ w2.heap.size ≤ k) wr w0.heap.size 3 v (firstL (sbI zs vs) k) ∧ Upd (fun k => k = w0.heap.size) w2 wr) (fun _ i _ => n - (intOf i).toNat)
  case atStart => exact ⟨0, by omega, rfl, ⟨fun k hk => .inl (O2.1 k hk), O2.2⟩, Upd.refl _ _⟩
  case round =>
    obtain ⟨k, hk, rfl, hO, hU⟩ := hrel
    have zr := hU.size
    have hdr : Ints wr wr.heap.size (some ⟨W1.heap.size, 0, none⟩) n (du zs) := (hA2.upd hU (fun e => by omega)).ints' (by have := hA2.lt; omega) Hdl.out
    have hvr : Ints wr wr.heap.size A' n vs := (hV2.below (hU.toBelow (B := w0.heap.size) (fun k e => by omega) (by omega))).more (by omega)
    by_cases hlt : k < n
    · obtain ⟨bv, ofv, rfl, _, hcv⟩ := hvr.at_ hlt
      have hcvk := hcv k hlt
      have hcdk := (hA2.upd hU (fun e => by omega)).cell (k := k) (by rw [Hdl.out]; exact hlt)
      have Hcv := Lib.hid hcv
      have hdk := hds.bd k (by rw [Hdl.out]; exact hlt)
      clear hcv
      have Hst := Lib.hid (show vs[k]?.getD 0 = sbTo zs vs k 0 by unfold sbTo; simp [smTo])
      have Hen := Lib.hid (sbTo_all (vs := vs) hvo (a := k) (by rw [hlen.out]; exact hlt))
      rw [hlen.out] at Hen
      have Hnx := Lib.hid (firstL_succ (sbI zs vs) k)
      have Hfl := Lib.hid (firstL_len (sbI zs vs) k)
      go_wp2_with fail
      go_loopw [8, 9] (fun x i wx => ∃ j q : Nat, j ≤ n ∧ i = .int .i64 j ∧ x = .int .i64 (sbTo zs vs k j) ∧ wx = wr.drewN q) (fun _ i _ => n - (intOf i).toNat)
      case atStart => exact ⟨0, 0, by omega, rfl, by rw [Hst.out], rfl⟩
      case round =>
        obtain ⟨j, q, hj, rfl, rfl, rfl⟩ := hrel
        by_cases hjt : j < n
        · have hcvj := Hcv.out j hjt
          have hvj := valB_at hvb j
          have hb01 := bitI_01 ((du zs)[k]?.getD 0) j
          have hbd := sbTo_bd (zs := zs) hvb k (k := j) (by omega)
          have Hsu := Lib.hid (sbTo_succ zs vs k j)
          have hmb : -1000 ≤ bitI ((du zs)[k]?.getD 0) j * vs[j]?.getD 0 ∧ bitI ((du zs)[k]?.getD 0) j * vs[j]?.getD 0 ≤ 1000 := by
            unfold bitI
            split <;> omega
          have hbit := fun w => bit_any ((du zs)[k]?.getD 0) (j : Int) w (by omega) (by omega) (by omega) (by omega)
          have hwm : IntKind.i64.wrap (bitI ((du zs)[k]?.getD 0) j * vs[j]?.getD 0) = bitI ((du zs)[k]?.getD 0) j * vs[j]?.getD 0 := by rw [IntKind.wrap_i64]; omega
          have hwa : IntKind.i64.wrap (sbTo zs vs k j + bitI ((du zs)[k]?.getD 0) j * vs[j]?.getD 0) = sbTo zs vs k (j + 1) := by rw [IntKind.wrap_i64, Hsu.out]; omega
          clear Hcv hcvk
          generalize (du zs)[k]?.getD 0 = dk at *
          generalize vs[j]?.getD 0 = vj at *
          go_wp2
          go_quiet ((go_at_call 48; exact quiet_add_left (hbit _)))
          go_wp2
          go_roundw
          case rel => exact ⟨j + 1, _, by omega, by go_num, by first | rfl | rw [hwa], rfl⟩
          case measure => simp [intOf]; omega
        · obtain rfl : j = n := by omega
          have hOd : OwnS (fun k => k = w0.heap.size ∨ w2.heap.size ≤ k) (wr.drewN q) w0.heap.size 3 _ (firstL (sbI zs vs) k) := hO
          have hUd := hU.drewN q
          have zd : (wr.drewN q).heap.size = wr.heap.size := rfl
          rw [Hen.out]
          generalize wr.drewN q = w5 at *
          have z5 : w2.heap.size ≤ w5.heap.size := by omega
          clear zd
          go_wp2_with (at_builtin; refine wpList_append1 _ rfl (.tmp 42) (.tmp 44) _ rfl w0.heap.size 3 i0 _ 8 Try.underlying22 hi0 hz0 hz1 hz2 rfl _ (firstL (sbI zs vs) k).length _ rfl (hOd.2.alloc _) w5.heap.size 1 (.int .i64 (sbI zs vs k)) rfl (cell_new _ _ _) rfl (by rw [Hfl.out]; omega) (by rw [Hfl.out]; omega) (by simp; omega) ?_; rintro v' w' hown' hg' hv')
          have zg := hg'.size
          simp at zg
          go_roundw
          case rel => exact ⟨k + 1, by omega, by go_num, by rw [Hnx.out]; exact hOd.step hown' hv' (fun k e => e) (fun _ => .inr (by omega)), (hUd.alloc _).grown hg' (fun k hk => by rcases hOd.1 k hk with e | e <;> omega)⟩
          case measure => simp [intOf]; omega
    · obtain rfl : k = n := by omega
      obtain ⟨A', c', rfl, hRC⟩ := rowC_of_own hO.2
      have Hf := Lib.hid (sumsL_first (vs := vs) hlen.out)
      go_wp2
      go_ret
      exact ⟨A', _, c', rfl, by rw [← Hf.out]; exact hRC, ((hU2.trans' hU (fun i hi e => by omega)).toBelow (fun _ e => e.elim) (Nat.le_refl _))⟩

theorem specSumsBelowF_any (A : Option Addr) (n c : Nat) (zs : List Int) (A' : Option Addr) (n' c' : Nat) (vs : List Int) (w : World) (h : Ints w w.heap.size A n zs) (h' : Ints w w.heap.size A' n' vs) (hbig : n ≤ 1152921504606846976) (hbig' : n' ≤ 1152921504606846976) :
    Calls Try.prog 14 #[.slice A n c, .slice A' n' c'] w (GivesRowC w (sumsR zs vs)) := by
  have hlen := Lib.hid h.len
  have hlen' := Lib.hid h'.len
  cases hv : valR zs vs
  · have Ht := Lib.hid (show sumsR zs vs = [] by unfold sumsR; rw [hv]; rfl)
    have Hv := Lib.hid hv
    clear hv
    go_enter Try.func14, Try.ntmps14
    go_wp2_with fail
    refine (svalid_any A n c zs A' n' c' _ vs w h h' hbig hbig').mono ?_
    rw [Hv.out]
    rintro e w' ⟨rfl, m, rfl⟩
    go_wp2_with fail
    go_ret
    exact ⟨none, 0, 0, rfl, by rw [Ht.out]; exact RowC.nil _ _ _ _, below_drewN (Below.refl _ _) _⟩
  · obtain ⟨hvo, hl, hvb⟩ := valR_parts hv
    obtain rfl : n' = n := by have h1 := hlen.out; have h2 := hlen'.out; omega
    have Ht := Lib.hid (show sumsR zs vs = sumsL zs vs by unfold sumsR; rw [hv]; rfl)
    have Hv := Lib.hid hv
    clear hv
    go_enter Try.func14, Try.ntmps14
    go_wp2_with fail
    refine (svalid_any A n' c zs A' n' c' _ vs w h h' hbig hbig').mono ?_
    rw [Hv.out]
    rintro e w' ⟨rfl, m, rfl⟩
    go_wp2_with fail
    refine (ssumsBelow_any A n' c zs A' c' vs hvo hvb _ (h.drewN m) (h'.drewN m)).mono ?_
    rintro e w2 ⟨A2, n2, c2, rfl, hR2, hB2⟩
    go_wp2_with fail
    go_ret
    exact ⟨A2, n2, c2, rfl, by rw [Ht.out]; exact hR2, (below_drewN (Below.refl _ _) m).trans hB2⟩
end Go.Proofs.Ytopfeebibphdgaa

/- IdealsOf: the model's and the program's. -/
import Derived.Test.YtidggolnhagfdaaIdlW
import Derived.Test.YtidggolnhagfdaaOwnS
import Derived.Test.YtidggolnhagfdaaCnt
namespace Go.Proofs.Ytidggolnhagfdaa
open Go.RowKit Go.Shelf
attribute [local go_sem] Oper.semAt_some
attribute [local go_sem, local simp] wide_fn

set_option maxHeartbeats 2000000 in
theorem sideals_any (A : Option Addr) (n c : Nat) (zs : List Int) (hvo : VoP zs) (w : World) (h : Ints w w.heap.size A n zs) :
    Calls Try.prog 50 #[.slice A n c] w (GivesRowC w (setsTo (idB zs) (2 ^ n))) := by
  obtain ⟨i0, hi0, hz0, hz1, hz2⟩ := info_parts infoInt
  have hlen := Lib.hid h.len
  have hn6 : n ≤ 6 := by have := hvo.1; rw [hlen.out] at this; exact this
  have hpn : powI n ≤ 64 := powI_le6 (by omega)
  have Hd := Lib.hid (show downP n (pairsL zs) = du zs by unfold du; rw [hlen.out])
  have hds := du_sets hvo.sets
  have hp6 : (2 : Nat) ^ n ≤ 2 ^ 6 := Nat.pow_le_pow_right (by decide) hn6
  have hN := Lib.hid (show powI n = ((2 ^ n : Nat) : Int) by simp [powI])
  obtain ⟨N, hNN⟩ : ∃ N : Nat, 2 ^ n = N := ⟨_, rfl⟩
  rw [hNN] at hN hp6 ⊢
  have HN := Lib.hid hNN
  clear hNN
  have hpw : ∀ w, Calls Try.prog 54 #[.int .i64 (n : Int)] w fun e w' => e = .returned (.int .i64 (N : Int)) ∧ w = w' := fun w => by
    rw [← hN.out]; exact power_any _ _ (by omega) (by omega)
  go_enter Try.func50, Try.ntmps50
  go_wp2_with fail
  have h1 := own_new w 3
  have hU1 : Upd (fun _ => False) w (w.alloc (.cells #[] 3)) := (Upd.refl _ w).alloc _
  have hz1' : (w.alloc (.cells #[] 3)).heap.size = w.heap.size + 1 := by simp
  obtain ⟨W1, hW1⟩ : ∃ W1, w.alloc (.cells #[] 3) = W1 := ⟨_, rfl⟩
  rw [hW1] at h1 hU1 hz1' ⊢
  clear hW1
  obtain ⟨hza, hzb⟩ : w.heap.size < W1.heap.size ∧ W1.heap.size ≤ w.heap.size + 1 := by omega
  clear hz1'
  have hB1 : Below w.heap.size w W1 := hU1.toBelow (fun _ e => e.elim) (Nat.le_refl _)
  refine (downOf_any _ _ _ zs _ (h.to hB1 (Nat.le_refl _) (by omega)) hvo.sets).mono ?_
  rintro e w2 ⟨rfl, hA2, hB2⟩
  rw [Hd.out] at hA2
  have z2 := hB2.size
  have O2 : OwnS (fun k => k = w.heap.size) w2 w.heap.size 3 (.slice (some ⟨w.heap.size, 0, none⟩) 0 0) [] := OwnS.keep (S := fun k => k = w.heap.size) ⟨fun k hk => by simp [Value.ownBlock] at hk; exact hk.symm, h1⟩ (Below.toUpd hB2) (fun k hk e => by omega)
  have hU2 : Upd (fun _ => False) w w2 := hU1.below hB2 (fun k h1 h2 => by omega)
  clear h1 hU1 hB2
  go_wp2_with fail
  go_loopw [3, 5] (fun v i wr => ∃ k : Nat, k ≤ N ∧ i = .int .i64 k ∧ OwnS (fun k => k = w.heap.size ∨ w2.heap.size ≤ k) wr w.heap.size 3 v (setsTo (idB zs) k) ∧ Upd (fun k => k = w.heap.size) w2 wr) (fun _ i _ => N - (intOf i).toNat)
  case atStart => exact ⟨0, by omega, rfl, ⟨fun k hk => .inl (O2.1 k hk), O2.2⟩, Upd.refl _ _⟩
  case round =>
    obtain ⟨k, hk, rfl, hO, hU⟩ := hrel
    have zr := hU.size
    have hdr : Ints wr wr.heap.size (some ⟨W1.heap.size, 0, none⟩) n (du zs) := (hA2.upd hU (fun e => by omega)).ints' (by have := hA2.lt; omega) (by rw [du_len, hlen.out])
    by_cases hlt : k < N
    · have hkn := hN.out
      have hit := Lib.hid (show idTo (du zs) k n = idB zs k by rw [← idTo_all hvo.sets (by omega) (by rw [hlen.out]; omega), hlen.out])
      have hsl := setsTo_len (idB zs) k
      cases hid : idB zs k
      · have Hn := Lib.hid (setsTo_no (p := idB zs) hid)
        have Hi := Lib.hid (hit.out.trans hid)
        clear hkn hid
        go_wp2_with (first
          | (go_at_call 54; refine (hpw _).mono ?_; rintro e w' ⟨rfl, rfl⟩)
          | (go_at_call 42; refine (sisIdeal_any _ _ _ _ (du zs) k _ hdr hds (by omega) (by omega)).mono ?_; rw [Hi.out]; rintro e w' ⟨rfl, rfl⟩))
        go_roundw
        case rel => exact ⟨k + 1, by omega, by go_num, by rw [Hn.out]; exact hO, hU⟩
        case measure => simp [intOf]; omega
      · have Hn := Lib.hid (setsTo_yes (p := idB zs) hid)
        have Hi := Lib.hid (hit.out.trans hid)
        clear hkn hid
        go_wp2_with (first
          | (go_at_call 54; refine (hpw _).mono ?_; rintro e w' ⟨rfl, rfl⟩)
          | (go_at_call 42; refine (sisIdeal_any _ _ _ _ (du zs) k _ hdr hds (by omega) (by omega)).mono ?_; rw [Hi.out]; rintro e w' ⟨rfl, rfl⟩)
          | (at_builtin; refine wpList_append1 _ rfl (.tmp 19) (.tmp 21) _ rfl w.heap.size 3 i0 _ 8 Try.underlying22 hi0 hz0 hz1 hz2 rfl _ (setsTo (idB zs) k).length _ rfl (hO.2.alloc _) wr.heap.size 1 (.int .i64 k) rfl (cell_new _ _ _) rfl (by omega) (by omega) (by simp; omega) ?_; rintro v' w' hown' hg' hv'))
        have zg := hg'.size
        simp at zg
        go_roundw
        case rel => exact ⟨k + 1, by omega, by go_num, by rw [Hn.out]; exact hO.step hown' hv' (fun k e => e) (fun _ => .inr (by omega)), (hU.alloc _).grown hg' (fun k hk => by rcases hO.1 k hk with e | e <;> omega)⟩
        case measure => simp [intOf]; omega
    · obtain rfl : k = N := by omega
      obtain ⟨A', c', rfl, hRC⟩ := rowC_of_own hO.2
      go_wp2_with (go_at_call 54; refine (hpw _).mono ?_; rintro e w' ⟨rfl, rfl⟩)
      go_ret
      exact ⟨A', _, c', rfl, hRC, (hU2.trans' hU (fun i hi e => by omega)).toBelow (fun _ e => e.elim) (Nat.le_refl _)⟩

theorem specIdealsOfF_any (A : Option Addr) (n c : Nat) (zs : List Int) (w : World) (h : Ints w w.heap.size A n zs) (hbig : n ≤ 1152921504606846976) :
    Calls Try.prog 20 #[.slice A n c] w (GivesRowC w (idealsR zs)) := by
  have hlen := Lib.hid h.len
  cases hv : vo zs
  · have Ht := Lib.hid (show idealsR zs = [] by unfold idealsR; rw [hv]; rfl)
    go_enter Try.func20, Try.ntmps20
    go_wp2_with (go_at_call 49; refine (validOrder_any _ _ _ _ zs _ h hbig).mono ?_; rintro e w' ⟨rfl, m, rfl⟩)
    go_ret
    exact ⟨none, 0, 0, rfl, by rw [Ht.out]; exact RowC.nil _ _ _ _, below_drewN (Below.refl _ _) _⟩
  · have hvo : VoP zs := by simpa [vo] using hv
    have Ht := Lib.hid (show idealsR zs = setsTo (idB zs) (2 ^ n) by unfold idealsR; rw [hv, hlen.out]; rfl)
    go_enter Try.func20, Try.ntmps20
    go_wp2_with fail
    refine (validOrder_any _ _ _ _ zs _ h hbig).mono ?_
    rintro e w1 ⟨rfl, m, hm⟩
    have hB : Below w.heap.size w w1 := by rw [hm]; exact below_drewN (Below.refl _ _) _
    have hI := h.below hB
    have hz1 := hB.size
    clear hm
    go_wp2_with fail
    refine (sideals_any _ _ _ zs hvo _ (hI.more (by omega))).mono ?_
    rintro e w2 ⟨A2, n2, c2, rfl, r2, hB2⟩
    go_wp2_with fail
    go_ret
    exact ⟨A2, n2, c2, rfl, by rw [Ht.out]; exact r2.more hz1 (Nat.le_refl _), hB.trans (hB2.mono hz1)⟩

set_option maxRecDepth 100000 in
set_option maxHeartbeats 4000000 in
theorem oideals_any (A : Option Addr) (n c : Nat) (zs : List Int) (hvo : VoP zs) (w : World) (hA : Ints w w.heap.size A n zs) :
    Calls Try.prog 52 #[.slice A n c] w fun e W' => ∃ A' m c', e = .returned (.slice A' m c') ∧ Ints W' W'.heap.size A' m (setsTo (idB zs) (2 ^ n)) ∧ Below w.heap.size w W' := by
  refine (callsIn_wide (n := 9)).1 ?_
  refine callsIn_of_wp_marks Try.func52 rfl trivial ?_ rfl
  simp only [Try.ntmps52, List.size_toArray, List.length_cons, List.length_nil, Nat.reduceAdd, Nat.reduceSub, Array.replicate_succ, Array.replicate_zero, List.push_toArray, List.append_toArray, List.nil_append, List.cons_append]
  obtain ⟨i0, hi0, hz0, hz1, hz2⟩ := info_parts infoItems
  have hlen := Lib.hid hA.len
  have hn6 : n ≤ 6 := by have := hvo.1; rw [hlen.out] at this; exact this
  have hp6 : (2 : Nat) ^ n ≤ 2 ^ 6 := Nat.pow_le_pow_right (by decide) hn6
  have hN := Lib.hid (show powI n = ((2 ^ n : Nat) : Int) by simp [powI])
  gi_wp2_with (gi_at_call 79; refine (callsIn_wide.2 (sets_any _ _ _ _)).mono ?_; rintro e w' ⟨rfl, rfl⟩)
  have bO := ((Boxed.new w 38 (.slice A n c)).alloc (.cells #[Value.slice none 0 0] 37)).alloc (.cells #[Value.slice A n c] 38)
  have bV := (Boxed.new (w.alloc (.cells #[Value.slice A n c] 38)) 37 (.slice none 0 0)).alloc (.cells #[Value.slice A n c] 38)
  have bE := Boxed.new ((w.alloc (.cells #[Value.slice A n c] 38)).alloc (.cells #[Value.slice none 0 0] 37)) 38 (.slice A n c)
  have hu0 : Upd (fun _ => False) w (((w.alloc (.cells #[Value.slice A n c] 38)).alloc (.cells #[Value.slice none 0 0] 37)).alloc (.cells #[Value.slice A n c] 38)) := (((Upd.refl _ w).alloc _).alloc _).alloc _
  have hzz : (((w.alloc (.cells #[Value.slice A n c] 38)).alloc (.cells #[Value.slice none 0 0] 37)).alloc (.cells #[Value.slice A n c] 38)).heap.size = w.heap.size + 3 := by simp
  simp only [World.size_alloc] at bV bE
  obtain ⟨W0, hW0⟩ : ∃ W0, (((w.alloc (.cells #[Value.slice A n c] 38)).alloc (.cells #[Value.slice none 0 0] 37)).alloc (.cells #[Value.slice A n c] 38)) = W0 := ⟨_, rfl⟩
  rw [hW0] at bO bV bE hu0 hzz ⊢
  clear hW0
  have hA0 : Ints W0 w.heap.size A n zs := hA.below (hu0.toBelow (fun _ e => e.elim) (Nat.le_refl _))
  refine range_out (n := 9) (gf := 93) (lb := #[.pointer (some ⟨w.heap.size + 1 + 1, 0, none⟩)]) rfl (enters_of Try.func93 (by kernel_rfl) rfl) (encs := encS) (L := List.range (2 ^ n))
    (fun k => k = w.heap.size + 1) (fun k e => by omega) (fun _ => rfl)
    (fun W1 l1 hu1 hl1 hl2 => sets_iter _ _ _ hn6 _ _ W1 (hu1.boxed bE (fun e => e)))
    (fun pre D W => ∃ v, Boxed W (w.heap.size + 1) 37 v ∧ OwnS D W w.heap.size 43 v (setsTo (idB zs) pre.length) ∧ Upd (fun k => k = w.heap.size + 1) W0 W)
    (fun _ _ _ _ => False)
    (fun _ D X Y hs hu => by
      obtain ⟨v, h1, h2, h3⟩ := hs
      exact ⟨v, hu.boxed h1 (fun e => by omega), h2.keep hu (fun k hk e => e.2 hk), h3.trans' hu (fun i hi e => by omega)⟩)
    (fun _ _ _ _ _ hs _ => hs)
    ⟨_, bV, OwnS.none _ _ _ _, Upd.refl _ _⟩ ?owes ?done ?stop
  case owes =>
    rintro l1 pre x D1 W hl1 hl2 hDl hD1 - hpre K hK
    gi_wp2
    refine hK _ _ (Upd.refl _ _) ?_
    rintro Wb hWb - ⟨v, bV1, hO, hU⟩
    clear hK
    obtain ⟨hx, hxN⟩ := range_at hpre
    subst hx
    have hNo := hN.out
    have hsb := hU.size
    have hszb := hWb.size
    have hcO := (hU.boxed bO (by omega)).cell
    have hsl := setsTo_len (idB zs) pre.length
    have hAb : Ints Wb w.heap.size A n zs := hA0.below (hU.toBelow (fun k e => by omega) (by omega))
    clear hpre
    generalize hq : pre.length = q at *
    have Hq := Lib.hid hq
    clear hq
    gi_wp2_with fail
    refine (CallsIn.inRound l1 (callsIn_wide.2 (oisIdeal_any _ n _ zs q hvo Wb (hAb.more (by omega)) (by omega) (by omega)))).mono ?_
    rintro e W2 ⟨rfl, hB2⟩
    have z2 := hB2.size
    have bV2 := (Below.toUpd hB2).boxed bV1 (fun e => by omega)
    have hO2 := hO.keep (Below.toUpd hB2) (fun k hk e => by have := hD1 k hk; omega)
    have hU2 := hU.below hB2 (fun k h1 h2 => by omega)
    have hV2 : Upd (fun k => k = w.heap.size + 1 ∨ D1 k ∨ W.heap.size ≤ k) Wb W2 := (Below.toUpd hB2).mono (fun k hk e => by omega)
    clear hAb
    cases hid : idB zs (q : Int)
    · have Hs := Lib.hid (setsTo_no (p := idB zs) hid)
      gi_wp2
      exact ⟨D1, ⟨v, bV2, by rw [List.length_append, List.length_singleton, Hq.out, Hs.out]; exact hO2, hU2⟩, hV2, fun k hk => .inl hk⟩
    · have Hs := Lib.hid (setsTo_yes (p := idB zs) hid)
      have hcV := bV2.cell
      have hfV := bV2.frozen
      have hvb : some (w.heap.size + 1) ≠ v.ownBlock := by
        intro e
        have := hD1 _ (hO2.1 _ e.symm); omega
      generalize hxs : setsTo (idB zs) q = xs at *
      clear hxs
      gi_wp2_with (gi_at_builtin; go_loud (refine wpListIn_append1 _ rfl (.tmp 11) (.tmp 13) _ rfl w.heap.size 43 i0 _ 8 Try.underlying37 hi0 hz0 hz1 hz2 rfl _ xs.length _ rfl (hO2.2.alloc _) W2.heap.size 1 (.int .i64 q) rfl (cell_new _ _ _) rfl (by omega) (by omega) (by simp; omega) ?_); rintro v' w' hown' hg' hv'; obtain ⟨g', cap', rfl⟩ := ownsRow_succ hown'; have bV3 := (bV2.alloc _).kept hg' hvb; have hcV3 := bV3.cell; have hfV3 := bV3.frozen)
      rename_i w'
      have zg := hg'.size
      simp at zg
      have hst := hO2.step (S' := fun k => D1 k ∨ W.heap.size ≤ k ∧ k < w'.heap.size) hown' hv' (fun k e => .inl e) (fun h9 => .inr ⟨by omega, h9⟩)
      have hgU : Upd (fun k => k = w.heap.size + 1) W0 w' := (hU2.alloc _).grown hg' (fun k hk => .inl (by have := hD1 _ (hO2.1 k hk); omega))
      have hbU : Upd (fun k => k = w.heap.size + 1 ∨ D1 k ∨ W.heap.size ≤ k) Wb w' := (hV2.alloc _).grown hg' (fun k hk => .inr (.inr (.inl (hO2.1 k hk))))
      have hus : Upd (fun k => k = w.heap.size + 1) w' (w'.setCell ⟨w.heap.size + 1, 0, none⟩ (.slice (some ⟨g', 0, none⟩) (xs.length + 1) cap')) := (Upd.refl (fun k => k = w.heap.size + 1) w').setCell (p := ⟨w.heap.size + 1, 0, none⟩) (.inr rfl) _
      exact ⟨fun k => D1 k ∨ W.heap.size ≤ k ∧ k < w'.heap.size, ⟨_, bV3.set _, by rw [List.length_append, List.length_singleton, Hq.out, Hs.out]; exact hst.keep hus (fun k hk e => by
          rcases hk with h9 | h9
          · have := hD1 _ h9; omega
          · omega), hgU.setCell (p := ⟨w.heap.size + 1, 0, none⟩) (.inr rfl) _⟩,
        hbU.setCell (p := ⟨w.heap.size + 1, 0, none⟩) (.inr (.inl rfl)) _, fun k hk => hk.elim .inl (fun h => .inr ⟨h.1, by simpa [World.setCell] using h.2⟩)⟩
  case done =>
    rintro d D1 W hd ⟨v, bV1, hO, hU⟩ hD1 hKd
    have hcV := bV1.cell
    rw [List.length_range] at hO
    gi_wp2
    refine leaves_marks [d] _ ⟨by simp, fun b hb => ?_⟩ (fun W' hu' => ?_)
    · rw [List.mem_singleton.1 hb]
      exact hKd
    · have hO' := hO.keep hu' (fun k hk e => by simp at e; have := hD1 k hk; omega)
      obtain ⟨A', c', rfl, hI⟩ := ints_of_own hO'.2
      exact ⟨_, by simp [results, Try.f52, go_sem], A', _, c', rfl, hI,
        (((hu0.mono fun _ _ e => e.elim).trans' hU (fun i hi e => by omega)).trans' hu' (fun i hi e => by simp at e; omega)).toBelow (R := fun _ => False) (fun _ e => e.elim) (Nat.le_refl _)⟩
  case stop =>
    rintro d D1 co pre W hd hpre h
    exact h.elim

theorem IdealsOf_any (A : Option Addr) (n c : Nat) (zs : List Int) (w : World) (h : Ints w w.heap.size A n zs) (hbig : n ≤ 1152921504606846976) :
    Calls Try.prog 21 #[.slice A n c] w (GivesRow w (idealsR zs)) := by
  have hlen := Lib.hid h.len
  cases hv : vo zs
  · have Ht := Lib.hid (show idealsR zs = [] by unfold idealsR; rw [hv]; rfl)
    have Hv := Lib.hid hv
    clear hv
    go_enter Try.func21, Try.ntmps21
    go_wp2_with fail
    refine (readOrder_any _ _ _ zs _ h hbig).mono ?_
    rintro e w' ⟨hB, (⟨hv, b, rfl, _, _⟩ | ⟨_, rfl⟩)⟩
    · rw [Hv.out] at hv; cases hv
    · go_wp2_with fail
      go_ret
      exact ⟨none, 0, 0, rfl, by rw [Ht.out]; exact Row.nil _ _ _ _, hB⟩
  · have hvo : VoP zs := by simpa [vo] using hv
    have hn6 : n ≤ 6 := by have := hvo.1; rw [hlen.out] at this; exact this
    have hp6 : (2 : Nat) ^ n ≤ 2 ^ 6 := Nat.pow_le_pow_right (by decide) hn6
    have Ht := Lib.hid (show idealsR zs = setsTo (idB zs) (2 ^ n) by unfold idealsR; rw [hv, hlen.out]; rfl)
    have hsl := setsTo_len (idB zs) (2 ^ n)
    have Hv := Lib.hid hv
    clear hv
    go_enter Try.func21, Try.ntmps21
    go_wp2_with fail
    refine (readOrder_any _ _ _ zs _ h hbig).mono ?_
    rintro e w1 ⟨hB, (⟨_, b, rfl, hb, hAr⟩ | ⟨hv, _⟩)⟩
    · have z1 := hB.size
      go_wp2_with fail
      refine (oideals_any _ _ _ zs hvo _ (hAr.ints' hAr.lt hlen.out)).mono ?_
      rintro e w2 ⟨A2, m2, c2, rfl, hI2, hB2⟩
      have z2 := hB2.size
      have hm2 := Lib.hid hI2.len
      have hm3 : m2 ≤ 1048576 := by rw [← hm2.out]; omega
      go_wp2_with fail
      refine (list_any _ _ _ _ _ hI2 hm3).mono ?_
      rintro e w3 ⟨rfl, hA3, hB3⟩
      go_wp2_with fail
      go_ret
      exact ⟨_, m2, m2, rfl, by rw [Ht.out]; exact Row.of hA3 hm2.out (by omega) hA3.lt, (hB.trans (hB2.mono z1)).trans (hB3.mono (by omega))⟩
    · rw [Hv.out] at hv; cases hv
theorem idealsR_le (zs : List Int) : (idealsR zs).length ≤ 1048576 := by
  unfold idealsR
  cases hv : vo zs
  · simp
  · have hvo : VoP zs := by simpa [vo] using hv
    have h1 : (2 : Nat) ^ zs.length ≤ 2 ^ 6 := Nat.pow_le_pow_right (by decide) hvo.1
    have h2 := setsTo_len (idB zs) (2 ^ zs.length)
    simp only [if_true]
    omega
end Go.Proofs.Ytidggolnhagfdaa

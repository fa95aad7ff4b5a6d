/- CutsOf: the program's. -/
import Derived.Test.YtmlihbcffndnbabDoorCuI
import Derived.Test.YtmlihbcffndnbabDoorCuS
import Derived.Test.YtmlihbcffndnbabDoorCnt
import Derived.Test.YtmlihbcffndnbabDoorGc
import Derived.Test.YtmlihbcffndnbabDoorGxc
set_option linter.unusedVariables false
set_option linter.unusedSimpArgs false
namespace Go.Proofs.YtmlihbcffndnbabDoor
open Go.RowKit Go.Shelf
attribute [local go_sem] Oper.semAt_some
attribute [local go_sem, local simp] wide_fn

set_option maxRecDepth 100000 in
set_option maxHeartbeats 8000000 in
theorem ocuts_any (A : Option Addr) (n c : Nat) (zs : List Int) (hvo : VoP zs) (w : World) (hA : Ints w w.heap.size A n zs) :
    Calls Tryd.prog 47 #[.slice A n c] w fun e W' => ∃ A' m c', e = .returned (.slice A' m c') ∧ Ints W' W'.heap.size A' m (setsTo (cutB zs) (2 ^ n)) ∧ Below w.heap.size w W' := by
  refine (callsIn_wide (n := 9)).1 ?_
  refine callsIn_of_wp_marks Tryd.func47 rfl trivial ?_ rfl
  simp only [Tryd.ntmps47, List.size_toArray, List.length_cons, List.length_nil, Nat.reduceAdd, Nat.reduceSub, Array.replicate_succ, Array.replicate_zero, List.push_toArray, List.append_toArray, List.nil_append, List.cons_append]
  obtain ⟨i0, hi0, hz0, hz1, hz2⟩ := info_parts infoItems
  have hlen := Lib.hid hA.len
  have hn6 : n ≤ 6 := by have := hvo.1; rw [hlen.out] at this; exact this
  have hp6 : (2 : Nat) ^ n ≤ 2 ^ 6 := Nat.pow_le_pow_right (by decide) hn6
  have hN := Lib.hid (show powI n = ((2 ^ n : Nat) : Int) by simp [powI])
  have Hd := Lib.hid (show downP n (pairsL zs) = du zs by unfold du; rw [hlen.out])
  have hds := du_sets hvo.sets
  have bO1 := Boxed.new w 38 (.slice A n c)
  have hU1 : Upd (fun _ => False) w (w.alloc (.cells #[Value.slice A n c] 38)) := (Upd.refl _ w).alloc _
  have hs1 : (w.alloc (.cells #[Value.slice A n c] 38)).heap.size = w.heap.size + 1 := by simp
  have hcO1 := bO1.cell
  gi_wp2_with fail
  have hA1 : Ints (w.alloc (.cells #[Value.slice A n c] 38)) (w.alloc (.cells #[Value.slice A n c] 38)).heap.size A n zs := hA.to (hU1.toBelow (fun _ e => e.elim) (Nat.le_refl _)) (Nat.le_refl _) hU1.size
  obtain ⟨w1, hw1⟩ : ∃ w1, w.alloc (.cells #[Value.slice A n c] 38) = w1 := ⟨_, rfl⟩
  rw [hw1] at bO1 hU1 hs1 hA1 ⊢
  clear hw1 hcO1
  refine (callsIn_wide.2 (dual_any A n c zs hvo.sets w1 hA1)).mono ?_
  rintro e w2 ⟨rfl, hA2, hB2⟩
  rw [Hd.out, hs1] at hA2
  have z2 := hB2.size
  have bO2 := (Below.toUpd hB2).boxed bO1 (fun e => by omega)
  have hU2 : Upd (fun _ => False) w w2 := hU1.below hB2 (fun k h1 h2 => by omega)
  have l2 := hA2.lt
  clear hB2 bO1 hU1 hA1
  have hcO2 := ((bO2.alloc (.cells #[Value.slice (some ⟨w.heap.size + 1, 0, none⟩) n n] 38)).alloc (.cells #[Value.slice none 0 0] 37)).cell
  gi_wp2_with (gi_at_call 68; refine (callsIn_wide.2 (sets_any _ _ _ _)).mono ?_; rintro e w' ⟨rfl, rfl⟩)
  clear hcO2
  have bO := ((bO2.alloc (.cells #[Value.slice (some ⟨w.heap.size + 1, 0, none⟩) n n] 38)).alloc (.cells #[Value.slice none 0 0] 37)).alloc (.cells #[Value.slice A n c] 38)
  have bD := ((Boxed.new w2 38 (.slice (some ⟨w.heap.size + 1, 0, none⟩) n n)).alloc (.cells #[Value.slice none 0 0] 37)).alloc (.cells #[Value.slice A n c] 38)
  have bV := (Boxed.new (w2.alloc (.cells #[Value.slice (some ⟨w.heap.size + 1, 0, none⟩) n n] 38)) 37 (.slice none 0 0)).alloc (.cells #[Value.slice A n c] 38)
  have bE := Boxed.new ((w2.alloc (.cells #[Value.slice (some ⟨w.heap.size + 1, 0, none⟩) n n] 38)).alloc (.cells #[Value.slice none 0 0] 37)) 38 (.slice A n c)
  have aD := ((hA2.alloc (.cells #[Value.slice (some ⟨w.heap.size + 1, 0, none⟩) n n] 38)).alloc (.cells #[Value.slice none 0 0] 37)).alloc (.cells #[Value.slice A n c] 38)
  have hu0 : Upd (fun _ => False) w (((w2.alloc (.cells #[Value.slice (some ⟨w.heap.size + 1, 0, none⟩) n n] 38)).alloc (.cells #[Value.slice none 0 0] 37)).alloc (.cells #[Value.slice A n c] 38)) := ((hU2.alloc _).alloc _).alloc _
  have hzz : (((w2.alloc (.cells #[Value.slice (some ⟨w.heap.size + 1, 0, none⟩) n n] 38)).alloc (.cells #[Value.slice none 0 0] 37)).alloc (.cells #[Value.slice A n c] 38)).heap.size = w2.heap.size + 3 := by simp
  simp only [World.size_alloc] at bV bE
  obtain ⟨W0, hW0⟩ : ∃ W0, (((w2.alloc (.cells #[Value.slice (some ⟨w.heap.size + 1, 0, none⟩) n n] 38)).alloc (.cells #[Value.slice none 0 0] 37)).alloc (.cells #[Value.slice A n c] 38)) = W0 := ⟨_, rfl⟩
  rw [hW0] at bO bD bV bE aD hu0 hzz ⊢
  clear hW0 hA2 hU2 bO2
  obtain ⟨Z, hZ⟩ : ∃ Z, w2.heap.size = Z := ⟨_, rfl⟩
  rw [hZ] at bV bD bE hzz z2 l2 ⊢
  clear hZ
  have hA0 : Ints W0 w.heap.size A n zs := hA.below (hu0.toBelow (fun _ e => e.elim) (Nat.le_refl _))
  refine range_out (n := 9) (gf := 84) (lb := #[.pointer (some ⟨Z + 1 + 1, 0, none⟩)]) rfl (enters_of Tryd.func84 (by kernel_rfl) rfl) (encs := encS) (L := List.range (2 ^ n))
    (fun k => k = Z + 1) (fun k e => by omega) (fun _ => rfl)
    (fun W1 l1 hu1 hl1 hl2 => sets_iter _ _ _ hn6 _ _ W1 (hu1.boxed bE (fun e => e)))
    (fun pre D W => ∃ v, Boxed W (Z + 1) 37 v ∧ OwnS D W w.heap.size 57 v (setsTo (cutB zs) pre.length) ∧ Upd (fun k => k = Z + 1) W0 W)
    (fun _ _ _ _ => False)
    (fun _ D X Y hs hu => by
      obtain ⟨v, h1, h2, h3⟩ := hs
      exact ⟨v, hu.boxed h1 (fun e => by omega), h2.keep hu (fun k hk e => e.2 hk), h3.trans' hu (fun i hi e => by omega)⟩)
    (fun _ _ _ _ _ hs _ => hs)
    ⟨_, bV, OwnS.none _ _ _ _, Upd.refl _ _⟩ ?owes ?done ?stop
  case owes =>
    rintro l1 pre x D1 W hl1 hl2 hDl hD1 - hpre K hK
    gi_wp2
    refine hK _ _ (Upd.refl _ _) ?_
    rintro Wb hWb - ⟨v, bV1, hO, hU⟩
    clear hK
    obtain ⟨hx, hxN⟩ := range_at hpre
    subst hx
    have hNo := hN.out
    have hsb := hU.size
    have hszb := hWb.size
    have bOb := hU.boxed bO (by omega)
    have bDb := hU.boxed bD (by omega)
    have aDb := aD.upd hU (by omega)
    have hsl := setsTo_len (cutB zs) pre.length
    have hAb : Ints Wb w.heap.size A n zs := hA0.below (hU.toBelow (fun k e => by omega) (by omega))
    clear hpre
    generalize hq : pre.length = q at *
    have Hq := Lib.hid hq
    clear hq
    have hcb := comTo_bd zs (q : Int) n
    rw [hlen.out] at hcb
    have hpn := powI_le6 (n := (n : Int)) (by omega)
    have Hci := Lib.hid (cutI_is hlen.out (q : Int))
    have Hcb := Lib.hid (show cutB zs q = (cutI zs q == (q : Int)) from rfl)
    gi_wp2
    have bVd : Boxed Wb.drew (Z + 1) 37 v := bV1
    have hOd : OwnS D1 Wb.drew w.heap.size 57 v (setsTo (cutB zs) q) := hO
    have hUd : Upd (fun k => k = Z + 1) W0 Wb.drew := hU.drew
    have hWd : Upd (fun _ => False) Wb Wb.drew := (Upd.refl _ Wb).drew
    have bOd : Boxed Wb.drew w.heap.size 38 (.slice A n c) := bOb
    have bDd : Boxed Wb.drew Z 38 (.slice (some ⟨w.heap.size + 1, 0, none⟩) n n) := bDb
    have aDd : Arr Wb.drew (w.heap.size + 1) 57 (du zs) := aDb
    have hAd : Ints Wb.drew w.heap.size A n zs := hAb
    refine region_T_round (S := (fun w' => w'.cell? ⟨Z, 0, none⟩ = some (.slice (some ⟨w.heap.size + 1, 0, none⟩) n n) ∧ w'.cell? ⟨w.heap.size, 0, none⟩ = some (.slice A n c))) 6 (by kernel_rfl) (by kernel_rfl) (by rintro ⟨_, _, h⟩; exact h) ?_
    obtain ⟨Wd, hWd2⟩ : ∃ Wd, Wb.drew = Wd := ⟨_, rfl⟩
    rw [hWd2] at bVd hOd hUd hWd bOd bDd aDd hAd ⊢
    clear hWd2
    have hSd : (fun w' => w'.cell? ⟨Z, 0, none⟩ = some (.slice (some ⟨w.heap.size + 1, 0, none⟩) n n) ∧ w'.cell? ⟨w.heap.size, 0, none⟩ = some (.slice A n c)) Wd := ⟨bDd.cell, bOd.cell⟩
    have zd := hUd.size
    have zdb := hWd.size
    refine anyT_take (i := 0) (oi := ?oi0a) (v := .slice (some ⟨w.heap.size + 1, 0, none⟩) n n) ?hi0a (by kernel_rfl) ?hq0a ?hy0a (by assumption) ?rest0a
    case hi0a => (simp only [List.getElem?_toArray, List.getElem?_cons_zero]; first | done | rfl)
    case hq0a => exact fun _ _ _ h => h
    case hy0a => (refine Or.inl ⟨by rfl, ?_⟩; intro wz hSw; obtain ⟨hS1, hS2⟩ := hSw; go_simp; first | done | with_reducible rfl | simp | omega)
    try simp only [Act.put, List.setIfInBounds_toArray, List.set_cons_zero, List.set_cons_succ]
    refine anyT_take (i := 1) (oi := ?oi1a) (v := .slice A n c) ?hi1a (by kernel_rfl) ?hq1a ?hy1a (by assumption) ?rest1a
    case hi1a => (simp only [List.getElem?_toArray, List.getElem?_cons_succ, List.getElem?_cons_zero]; first | done | rfl)
    case hq1a => exact fun _ _ _ h => h
    case hy1a => (refine Or.inl ⟨by rfl, ?_⟩; intro wz hSw; obtain ⟨hS1, hS2⟩ := hSw; go_simp; first | done | with_reducible rfl | simp | omega)
    try simp only [Act.put, List.setIfInBounds_toArray, List.set_cons_zero, List.set_cons_succ]
    refine anyT_take (i := 2) (oi := ?oi2a) (v := .int .i64 (q : Int)) ?hi2a (by kernel_rfl) ?hq2a ?hy2a (by assumption) ?rest2a
    case hi2a => (simp only [List.getElem?_toArray, List.getElem?_cons_succ, List.getElem?_cons_zero]; first | done | rfl)
    case hq2a => exact fun _ _ _ h => h
    case hy2a => (refine Or.inl ⟨by rfl, ?_⟩; intro wz hSw; obtain ⟨hS1, hS2⟩ := hSw; go_simp; first | done | with_reducible rfl | simp | omega)
    try simp only [Act.put, List.setIfInBounds_toArray, List.set_cons_zero, List.set_cons_succ]
    refine anyT_take (i := 5) (oi := ?oi5a) (v := .int .i64 (q : Int)) ?hi5a (by kernel_rfl) ?hq5a ?hy5a (by assumption) ?rest5a
    case hi5a => (simp only [List.getElem?_toArray, List.getElem?_cons_succ, List.getElem?_cons_zero]; first | done | rfl)
    case hq5a => exact fun _ _ _ h => h
    case hy5a => (refine Or.inl ⟨by rfl, ?_⟩; intro wz hSw; obtain ⟨hS1, hS2⟩ := hSw; go_simp; first | done | with_reducible rfl | simp | omega)
    try simp only [Act.put, List.setIfInBounds_toArray, List.set_cons_zero, List.set_cons_succ]
    refine anyT_one (i := 3) (by kernel_rfl) rfl (fun K' hK => ?_)
    go_simp
    refine (atOrAbove_any A n c zs (q : Int) hvo.sets Wd (hAd.more (by omega)) (by omega) (by omega)).mono ?_
    rintro e W2 ⟨rfl, hB2⟩
    have z2' := hB2.size
    have bD2 := (Below.toUpd hB2).boxed bDd (fun e => by omega)
    have bO2 := (Below.toUpd hB2).boxed bOd (fun e => by omega)
    have aD2 := aDd.below hB2 (by omega)
    have hS2 : (fun w' => w'.cell? ⟨Z, 0, none⟩ = some (.slice (some ⟨w.heap.size + 1, 0, none⟩) n n) ∧ w'.cell? ⟨w.heap.size, 0, none⟩ = some (.slice A n c)) W2 := ⟨bD2.cell, bO2.cell⟩
    refine hK.out _ _ (fun _ => hS2) ?_
    clear hK K'
    try simp only [Act.put, List.setIfInBounds_toArray, List.set_cons_zero, List.set_cons_succ]
    refine anyT_one (i := 4) (by kernel_rfl) rfl (fun K' hK => ?_)
    go_simp
    refine (atOrAbove_any _ n _ (du zs) (comTo zs (q : Int) n) hds W2 (aD2.ints' (by omega) (by rw [du_len, hlen.out])) hcb.1 hcb.2).mono ?_
    rw [Hci.out]
    rintro e W3 ⟨rfl, hB3⟩
    have z3' := hB3.size
    have hB23 : Below Wd.heap.size Wd W3 := hB2.trans (hB3.mono z2')
    have bD3 := (Below.toUpd hB3).boxed bD2 (fun e => by omega)
    have bO3 := (Below.toUpd hB3).boxed bO2 (fun e => by omega)
    have hS3 : (fun w' => w'.cell? ⟨Z, 0, none⟩ = some (.slice (some ⟨w.heap.size + 1, 0, none⟩) n n) ∧ w'.cell? ⟨w.heap.size, 0, none⟩ = some (.slice A n c)) W3 := ⟨bD3.cell, bO3.cell⟩
    refine hK.out _ _ (fun _ => hS3) ?_
    clear hK K'
    try simp only [Act.put, List.setIfInBounds_toArray, List.set_cons_zero, List.set_cons_succ]
    have bV2 := (Below.toUpd hB23).boxed bVd (fun e => by omega)
    have hO2 := hOd.keep (Below.toUpd hB23) (fun k hk e => by have := hD1 k hk; omega)
    have hU2 := hUd.below hB23 (fun k h1 h2 => by omega)
    have hV2 : Upd (fun k => k = Z + 1 ∨ D1 k ∨ W.heap.size ≤ k) Wb W3 := (hWd.mono (fun _ _ e => e.elim)).trans' ((Below.toUpd hB23).mono (fun k hk e => by omega)) (fun i hi e => e)
    clear hAb hAd hSd hS2 hS3 bD2 bO2 aD2 aDd bDd bOd hB2 hB3 bVd hOd hUd hWd bV1 hO hU aDb bOb bDb
    cases hid : cutB zs (q : Int)
    · have Hs := Lib.hid (setsTo_no (p := cutB zs) hid)
      have hce : (cutI zs q == (q : Int)) = false := by rw [← Hcb.out, hid]
      refine anyT_one (i := 6) (by kernel_rfl) rfl (fun K' hK => ?_)
      go_simp
      refine hK.out _ _ (fun h => absurd rfl h) ?_
      clear hK K'
      try simp only [Act.put, List.setIfInBounds_toArray, List.set_cons_zero, List.set_cons_succ]
      refine anyT_done (by kernel_rfl) ?_ _
      gi_wp2
      exact ⟨D1, ⟨v, bV2, by rw [List.length_append, List.length_singleton, Hq.out, Hs.out]; exact hO2, hU2⟩, hV2, fun k hk => .inl hk⟩
    · have Hs := Lib.hid (setsTo_yes (p := cutB zs) hid)
      have hce : (cutI zs q == (q : Int)) = true := by rw [← Hcb.out, hid]
      refine anyT_one (i := 6) (by kernel_rfl) rfl (fun K' hK => ?_)
      go_simp
      refine hK.out _ _ (fun h => absurd rfl h) ?_
      clear hK K'
      try simp only [Act.put, List.setIfInBounds_toArray, List.set_cons_zero, List.set_cons_succ]
      refine anyT_done (by kernel_rfl) ?_ _
      have hcV := bV2.cell
      have hfV := bV2.frozen
      have hvb : some (Z + 1) ≠ v.ownBlock := by
        intro e
        have := hD1 _ (hO2.1 _ e.symm); omega
      generalize hxs : setsTo (cutB zs) q = xs at *
      clear hxs
      have zW : W.heap.size ≤ W3.heap.size := by omega
      gi_wp2_with (gi_at_builtin; go_loud (refine wpListIn_append1 _ rfl (.tmp 18) (.tmp 20) _ rfl w.heap.size 57 i0 _ 8 Tryd.underlying37 hi0 hz0 hz1 hz2 rfl _ xs.length _ rfl (hO2.2.alloc _) W3.heap.size 1 (.int .i64 q) rfl (cell_new _ _ _) rfl (by omega) (by omega) (by simp; omega) ?_); rintro v' w' hown' hg' hv'; obtain ⟨g', cap', rfl⟩ := ownsRow_succ hown'; have bV3 := (bV2.alloc _).kept hg' hvb; have hcV3 := bV3.cell; have hfV3 := bV3.frozen)
      rename_i w'
      have zg := hg'.size
      simp at zg
      have hst := hO2.step (S' := fun k => D1 k ∨ W.heap.size ≤ k ∧ k < w'.heap.size) hown' hv' (fun k e => .inl e) (fun h9 => .inr ⟨by omega, h9⟩)
      have hgU : Upd (fun k => k = Z + 1) W0 w' := (hU2.alloc _).grown hg' (fun k hk => .inl (by have := hD1 _ (hO2.1 k hk); omega))
      have hbU : Upd (fun k => k = Z + 1 ∨ D1 k ∨ W.heap.size ≤ k) Wb w' := (hV2.alloc _).grown hg' (fun k hk => .inr (.inr (.inl (hO2.1 k hk))))
      have hus : Upd (fun k => k = Z + 1) w' (w'.setCell ⟨Z + 1, 0, none⟩ (.slice (some ⟨g', 0, none⟩) (xs.length + 1) cap')) := (Upd.refl (fun k => k = Z + 1) w').setCell (p := ⟨Z + 1, 0, none⟩) (.inr rfl) _
      exact ⟨fun k => D1 k ∨ W.heap.size ≤ k ∧ k < w'.heap.size, ⟨_, bV3.set _, by rw [List.length_append, List.length_singleton, Hq.out, Hs.out]; exact hst.keep hus (fun k hk e => by
          rcases hk with h9 | h9
          · have := hD1 _ h9; omega
          · omega), hgU.setCell (p := ⟨Z + 1, 0, none⟩) (.inr rfl) _⟩,
        hbU.setCell (p := ⟨Z + 1, 0, none⟩) (.inr (.inl rfl)) _, fun k hk => hk.elim .inl (fun h => .inr ⟨h.1, by simpa [World.setCell] using h.2⟩)⟩
  case done =>
    rintro d D1 W hd ⟨v, bV1, hO, hU⟩ hD1 hKd
    have hcV := bV1.cell
    rw [List.length_range] at hO
    gi_wp2
    refine leaves_marks [d] _ ⟨by simp, fun b hb => ?_⟩ (fun W' hu' => ?_)
    · rw [List.mem_singleton.1 hb]
      exact hKd
    · have hO' := hO.keep hu' (fun k hk e => by simp at e; have := hD1 k hk; omega)
      obtain ⟨A', c', rfl, hI⟩ := ints_of_own hO'.2
      exact ⟨_, by simp [results, Tryd.f47, go_sem], A', _, c', rfl, hI,
        (((hu0.mono fun _ _ e => e.elim).trans' hU (fun i hi e => by omega)).trans' hu' (fun i hi e => by simp at e; omega)).toBelow (R := fun _ => False) (fun _ e => e.elim) (Nat.le_refl _)⟩
  case stop =>
    rintro d D1 co pre W hd hpre h
    exact h.elim

theorem CutsOf_any (A : Option Addr) (n c : Nat) (zs : List Int) (w : World) (h : Ints w w.heap.size A n zs) (hbig : n ≤ 1152921504606846976) :
    Calls Tryd.prog 26 #[.slice A n c] w (GivesRow w (cutsR zs)) := by
  have hlen := Lib.hid h.len
  cases hv : vo zs
  · have Ht := Lib.hid (show cutsR zs = [] by unfold cutsR; rw [hv]; rfl)
    have Hv := Lib.hid hv
    clear hv
    go_enter Tryd.func26, Tryd.ntmps26
    go_wp2_with fail
    refine (readOrder_any _ _ _ zs _ h hbig).mono ?_
    rintro e w' ⟨hB, (⟨hv, b, rfl, _, _⟩ | ⟨_, rfl⟩)⟩
    · rw [Hv.out] at hv; cases hv
    · go_wp2_with fail
      go_ret
      exact ⟨none, 0, 0, rfl, by rw [Ht.out]; exact Row.nil _ _ _ _, hB⟩
  · have hvo : VoP zs := by simpa [vo] using hv
    have hn6 : n ≤ 6 := by have := hvo.1; rw [hlen.out] at this; exact this
    have hp6 : (2 : Nat) ^ n ≤ 2 ^ 6 := Nat.pow_le_pow_right (by decide) hn6
    have Ht := Lib.hid (show cutsR zs = setsTo (cutB zs) (2 ^ n) by unfold cutsR; rw [hv, hlen.out]; rfl)
    have hsl := setsTo_len (cutB zs) (2 ^ n)
    have Hv := Lib.hid hv
    clear hv
    go_enter Tryd.func26, Tryd.ntmps26
    go_wp2_with fail
    refine (readOrder_any _ _ _ zs _ h hbig).mono ?_
    rintro e w1 ⟨hB, (⟨_, b, rfl, hb, hAr⟩ | ⟨hv, _⟩)⟩
    · have z1 := hB.size
      go_wp2_with fail
      refine (ocuts_any _ _ _ zs hvo _ (hAr.ints' hAr.lt hlen.out)).mono ?_
      rintro e w2 ⟨A2, m2, c2, rfl, hI2, hB2⟩
      have z2 := hB2.size
      have hm2 := Lib.hid hI2.len
      have hm3 : m2 ≤ 1048576 := by rw [← hm2.out]; omega
      go_wp2_with fail
      refine (list_any _ _ _ _ _ hI2 hm3).mono ?_
      rintro e w3 ⟨rfl, hA3, hB3⟩
      go_wp2_with fail
      go_ret
      exact ⟨_, m2, m2, rfl, by rw [Ht.out]; exact Row.of hA3 hm2.out (by omega) hA3.lt, (hB.trans (hB2.mono z1)).trans (hB3.mono (by omega))⟩
    · rw [Hv.out] at hv; cases hv
theorem cutsR_le (zs : List Int) : (cutsR zs).length ≤ 1048576 := by
  unfold cutsR
  cases hv : vo zs
  · simp
  · have hvo : VoP zs := by simpa [vo] using hv
    have h1 : (2 : Nat) ^ zs.length ≤ 2 ^ 6 := Nat.pow_le_pow_right (by decide) hvo.1
    have h2 := setsTo_len (cutB zs) (2 ^ zs.length)
    simp only [if_true]
    omega
end Go.Proofs.YtmlihbcffndnbabDoor

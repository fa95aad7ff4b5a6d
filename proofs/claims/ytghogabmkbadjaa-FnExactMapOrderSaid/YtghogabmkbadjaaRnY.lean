/- MapOrder: the program's, whole. -/
import Derived.Test.YtghogabmkbadjaaRnQ
import Derived.Test.YtghogabmkbadjaaRnV
set_option linter.unusedVariables false
set_option linter.unusedSimpArgs false
namespace Go.Proofs.Ytghogabmkbadjaa
open Go.RowKit Go.Shelf
attribute [local go_sem] Oper.semAt_some
attribute [local go_sem, local simp] wide_fn

theorem find_pre {p : List Int → Bool} {l pre : List (List Int)} {t : List Int} (h : pre ++ [t] <+: l) (hno : ∀ s ∈ pre, p s = false) (ht : p t = true) : l.find? p = some t := by
  obtain ⟨u, rfl⟩ := h
  have h1 : pre.find? p = none := List.find?_eq_none.2 fun s hs => by rw [hno s hs]; simp
  rw [List.append_assoc, List.find?_append, h1]
  simp [ht]
/-- What the search for a numbering gives. -/
def GivesMap (zs ys : List Int) (n : Nat) (w : World) (e : Ending) (w' : World) : Prop :=
  Below w.heap.size w w' ∧ ((∃ t A c, (alL (zr n)).find? (fun t => decide (rnL zs t = ys)) = some t ∧ e = .returned (.tuple #[.slice A n c, .bool true]) ∧ RowV w' w.heap.size w'.heap.size A n t) ∨ ((alL (zr n)).find? (fun t => decide (rnL zs t = ys)) = none ∧ e = .returned (.tuple #[.slice none 0 0, .bool false])))
def mapJ (zs ys : List Int) (z : Nat) (W0 : World) (pre : List Rn) (_ : Nat → Prop) (W : World) : Prop :=
  (∀ s ∈ pre.map (fun x : Rn => x.1.1), decide (rnL zs s = ys) = false) ∧ Boxed W (z + 1) 22 (.slice none 0 0) ∧ Boxed W (z + 2) 4 (.bool false) ∧ Upd (fun k => k = z + 1 ∨ k = z + 2) W0 W
def mapX (zs ys : List Int) (z : Nat) (W0 : World) (co : Code) (xs : List Rn) (D : Nat → Prop) (W : World) : Prop :=
  co = .ret ∧ ∃ (pre : List Rn) (x : Rn), xs = pre ++ [x] ∧ (∀ s ∈ pre.map (fun x : Rn => x.1.1), decide (rnL zs s = ys) = false) ∧ decide (rnL zs x.1.1 = ys) = true ∧ Boxed W (z + 1) 22 x.1.2 ∧ Boxed W (z + 2) 4 (.bool true) ∧ lnHas x.1 W ∧ (∀ k, lnOwn x.1 k → D k ∧ W0.heap.size ≤ k) ∧ Upd (fun k => k = z + 1 ∨ k = z + 2) W0 W
theorem mapJ_firm {zs ys : List Int} {z : Nat} {W0 : World} (hz : z + 2 < W0.heap.size) : Firm W0.heap.size (mapJ zs ys z W0) := fun _ _ _ _ hs hu =>
  ⟨hs.1, hu.boxed hs.2.1 (fun e => by omega), hu.boxed hs.2.2.1 (fun e => by omega), hs.2.2.2.trans' hu (fun i hi e => by omega)⟩
theorem mapX_firm {zs ys : List Int} {z : Nat} {W0 : World} (hz : z + 2 < W0.heap.size) (co : Code) : Firm W0.heap.size (mapX zs ys z W0 co) := by
  rintro xs D W W' ⟨h0, pre, x, h1, h2, h3, h4, h5, h6, h7, h8⟩ hu
  exact ⟨h0, pre, x, h1, h2, h3, hu.boxed h4 (fun e => by omega), hu.boxed h5 (fun e => by omega), lnHas_keep h6 hu (fun k hk e => e.2 (h7 k hk).1), h7, h8.trans' hu (fun i hi e => by omega)⟩

set_option maxRecDepth 100000 in
set_option maxHeartbeats 8000000 in
theorem mapTo_any (b n c b2 c2 : Nat) (zs ys : List Int) (hvo : VoP zs) (hlen0 : zs.length = n) (hlen2 : ys.length = n) (w : World) (hA : Arr w b 59 zs) (hA2 : Arr w b2 59 ys) :
    Calls Try.prog 54 #[.slice (some ⟨b, 0, none⟩) n c, .slice (some ⟨b2, 0, none⟩) n c2] w (GivesMap zs ys n w) := by
  have hlen := Lib.hid hlen0
  have hleny := Lib.hid hlen2
  have hn6 : n ≤ 6 := by have := hvo.1; rw [hlen.out] at this; exact this
  clear hlen0 hlen2
  refine (callsIn_wide (n := 9)).1 ?_
  refine callsIn_of_wp_marks Try.func54 rfl trivial ?_ rfl
  simp only [Try.ntmps54, List.size_toArray, List.length_cons, List.length_nil, Nat.reduceAdd, Nat.reduceSub, Array.replicate_succ, Array.replicate_zero, List.push_toArray, List.append_toArray, List.nil_append, List.cons_append]
  gi_wp2_with (gi_at_call 79; refine (callsIn_wide.2 (renumberings_any _ _ _ _)).mono ?_; rintro e w' ⟨rfl, rfl⟩)
  have bO := (((Boxed.new w 44 (.slice (some ⟨b2, 0, none⟩) n c2)).alloc (.cells #[Value.slice none 0 0] 22)).alloc (.cells #[Value.bool false] 4)).alloc (.cells #[Value.slice (some ⟨b, 0, none⟩) n c] 44)
  have bR := ((Boxed.new (w.alloc (.cells #[Value.slice (some ⟨b2, 0, none⟩) n c2] 44)) 22 (.slice none 0 0)).alloc (.cells #[Value.bool false] 4)).alloc (.cells #[Value.slice (some ⟨b, 0, none⟩) n c] 44)
  have bB := (Boxed.new ((w.alloc (.cells #[Value.slice (some ⟨b2, 0, none⟩) n c2] 44)).alloc (.cells #[Value.slice none 0 0] 22)) 4 (.bool false)).alloc (.cells #[Value.slice (some ⟨b, 0, none⟩) n c] 44)
  have bP := Boxed.new (((w.alloc (.cells #[Value.slice (some ⟨b2, 0, none⟩) n c2] 44)).alloc (.cells #[Value.slice none 0 0] 22)).alloc (.cells #[Value.bool false] 4)) 44 (.slice (some ⟨b, 0, none⟩) n c)
  have hu0 : Upd (fun _ => False) w ((((w.alloc (.cells #[Value.slice (some ⟨b2, 0, none⟩) n c2] 44)).alloc (.cells #[Value.slice none 0 0] 22)).alloc (.cells #[Value.bool false] 4)).alloc (.cells #[Value.slice (some ⟨b, 0, none⟩) n c] 44)) := ((((Upd.refl _ w).alloc _).alloc _).alloc _).alloc _
  have hz0' : ((((w.alloc (.cells #[Value.slice (some ⟨b2, 0, none⟩) n c2] 44)).alloc (.cells #[Value.slice none 0 0] 22)).alloc (.cells #[Value.bool false] 4)).alloc (.cells #[Value.slice (some ⟨b, 0, none⟩) n c] 44)).heap.size = w.heap.size + 4 := by simp
  simp only [World.size_alloc] at bO bR bB bP
  obtain ⟨W0, hW0⟩ : ∃ W0, ((((w.alloc (.cells #[Value.slice (some ⟨b2, 0, none⟩) n c2] 44)).alloc (.cells #[Value.slice none 0 0] 22)).alloc (.cells #[Value.bool false] 4)).alloc (.cells #[Value.slice (some ⟨b, 0, none⟩) n c] 44)) = W0 := ⟨_, rfl⟩
  rw [hW0] at bO bR bB bP hu0 hz0' ⊢
  clear hW0
  have hA0 := hA.upd hu0 (fun e => e)
  have hA20 := hA2.upd hu0 (fun e => e)
  have hbl := hA.lt
  have hbl2 := hA2.lt
  refine range_outH (n := 9) (gf := 94) (lb := #[.pointer (some ⟨w.heap.size + 1 + 1 + 1, 0, none⟩)]) rfl (enters_of Try.func94 (by kernel_rfl) rfl) (encs := rnEnc n) (own := rnOwn) (lent := rnLent) (Has := rnHas) (Lent := rnLies zs) rn_firm (rnLent_firm zs) (Ok := rnUp zs) (Full := rnFull zs)
    (fun k => k = w.heap.size + 1 ∨ k = w.heap.size + 2) (fun k e => by omega) (fun _ => rfl)
    (fun W1 l1 hu1 hl1 hl2 => renumberings_iter zs hvo b n c hlen.out _ _ W1 (hu1.boxed bP (fun e => e)) (hA0.upd hu1 (fun e => e)) (fun e => by omega) (fun e => by omega) (fun k e => by have := hu1.size; omega))
    (mapJ zs ys w.heap.size W0) (mapX zs ys w.heap.size W0) (mapJ_firm (by omega)) (mapX_firm (by omega))
    ⟨fun s hs => by simp at hs, bR, bB, Upd.refl _ _⟩ ?owes ?done ?stop
  case owes =>
    rintro l1 pre x D1 W hl1 hl2 hDl hOl hLl hD1 hO1 hLe1 - - - hpre K hK
    have hxW : w.heap.size + 3 < x.2 ∧ x.2 < W.heap.size := by have := hLe1 x.2 rfl; omega
    have hxl : x.1.1.length = n := by
      have h1 : x.1.1 ∈ (pre ++ [x]).map (fun x => x.1.1) := by simp
      have h2 := (alL_mem _ _).1 ((show (pre ++ [x]).map (fun x => x.1.1) <+: alL (zr zs.length) from hpre).subset h1)
      rw [hlen.out] at h2
      exact (zr_steps h2).1
    clear hpre
    gi_wp2
    refine hK _ _ (Upd.refl _ _) ?_
    rintro Wb hWb - ⟨hno, bR1, bB1, hU⟩ hxb hle
    clear hK
    have hsb := hU.size
    have hszb := hWb.size
    have hcO := (hU.boxed bO (by omega)).cell
    have hAb := hA20.upd hU (by omega)
    have hLx : Arr Wb x.2 59 (rnL zs x.1.1) := hle
    have hll : (rnL zs x.1.1).length = n := by rw [rnL_len, hlen.out]
    have hIx := hLx.ints' (B := Wb.heap.size) hLx.lt hll
    have hIz := hAb.ints' (B := Wb.heap.size) hAb.lt hleny.out
    obtain ⟨A', c', hv, -⟩ := lnHas_slice (show lnHas x.1 Wb from hxb)
    have Hno := Lib.hid hno
    clear hno
    cases he : decide (rnL zs x.1.1 = ys)
    · have Hsn := Lib.hid (show ∀ s ∈ (pre ++ [x]).map (fun x : Rn => x.1.1), decide (rnL zs s = ys) = false from fun s hs => by
        rw [List.map_append] at hs
        rcases List.mem_append.1 hs with h | h
        · exact Hno.out s h
        · simp at h; rw [h]; exact he)
      gi_wp2_with fail
      refine (CallsIn.inRound l1 (callsIn_wide.2 (ordEq_any _ _ n n n c2 _ _ (rnL zs x.1.1) ys Wb hIx hIz (by omega) (by omega)))).mono ?_
      rw [he]
      rintro e w2 ⟨rfl, m, rfl⟩
      gi_wp2
      have hum : Upd (fun _ => False) Wb (Wb.drewN m) := (Upd.refl _ _).drewN m
      exact keep_end ⟨Hsn.out, hum.boxed bR1 (fun e => e), hum.boxed bB1 (fun e => e), hU.trans' hum (fun i hi e => e.elim)⟩ (hLx.upd hum (fun e => e)) (fun k e => (hLe1 k e).2.2) (hum.mono fun _ _ e => e.elim)
    · have Heq := Lib.hid he
      clear he
      gi_wp2_with fail
      refine (CallsIn.inRound l1 (callsIn_wide.2 (ordEq_any _ _ n n n c2 _ _ (rnL zs x.1.1) ys Wb hIx hIz (by omega) (by omega)))).mono ?_
      rw [Heq.out]
      rintro e w2 ⟨rfl, m, rfl⟩
      have hum : Upd (fun _ => False) Wb (Wb.drewN m) := (Upd.refl _ _).drewN m
      have bR2 := hum.boxed bR1 (fun e => e)
      have bB2 := hum.boxed bB1 (fun e => e)
      generalize Wb.drewN m = Wn at *
      have hcR := bR2.cell
      have hfR := bR2.frozen
      have hcB := bB2.cell
      have hfB := bB2.frozen
      gi_wp2
      have hus : Upd (fun k => k = w.heap.size + 1 ∨ k = w.heap.size + 2) Wn ((Wn.setCell ⟨w.heap.size + 1, 0, none⟩ (.slice A' n c')).setCell ⟨w.heap.size + 2, 0, none⟩ (.bool true)) := ((Upd.refl (fun k => k = w.heap.size + 1 ∨ k = w.heap.size + 2) Wn).setCell (p := ⟨w.heap.size + 1, 0, none⟩) (.inr (.inl rfl)) _).setCell (p := ⟨w.heap.size + 2, 0, none⟩) (.inr (.inr rfl)) _
      have hus' : Upd (fun k => k = w.heap.size + 1 ∨ k = w.heap.size + 2) Wb ((Wn.setCell ⟨w.heap.size + 1, 0, none⟩ (.slice A' n c')).setCell ⟨w.heap.size + 2, 0, none⟩ (.bool true)) := (hum.mono fun _ _ e => e.elim).trans hus
      have bR3 : Boxed ((Wn.setCell ⟨w.heap.size + 1, 0, none⟩ (.slice A' n c')).setCell ⟨w.heap.size + 2, 0, none⟩ (.bool true)) (w.heap.size + 1) 22 x.1.2 := by
        rw [hv, hxl]
        exact ((Upd.refl (fun k => k = w.heap.size + 2) _).setCell (p := ⟨w.heap.size + 2, 0, none⟩) (.inr rfl) _).boxed (bR2.set _) (by omega)
      have bB3 : Boxed ((Wn.setCell ⟨w.heap.size + 1, 0, none⟩ (.slice A' n c')).setCell ⟨w.heap.size + 2, 0, none⟩ (.bool true)) (w.heap.size + 2) 4 (.bool true) :=
        (((Upd.refl (fun k => k = w.heap.size + 1) Wn).setCell (p := ⟨w.heap.size + 1, 0, none⟩) (.inr rfl) _).boxed bB2 (by omega)).set _
      have hx3 := lnHas_keep (show lnHas x.1 Wb from hxb) hus' (fun k hk e => by have := (hO1 k hk).1; omega)
      exact ⟨fun k => D1 k ∨ rnOwn x k ∨ rnLent x k, ⟨rfl, pre, x, rfl, Hno.out, Heq.out, bR3, bB3, hx3, fun k hk => ⟨.inr (.inl hk), (hO1 k hk).1⟩, hU.trans hus'⟩, hus'.mono fun k _ e => .inl e, fun k e => .inl e⟩
  case done =>
    rintro d D1 L W hd hF ⟨hno, bR1, bB1, hU⟩ hD1 hKd
    have hL : L.map (fun x : Rn => x.1.1) = alL (zr n) := by rw [← hlen.out]; exact hF
    have Hnone := Lib.hid (show (alL (zr n)).find? (fun t => decide (rnL zs t = ys)) = none from List.find?_eq_none.2 fun s hs => by rw [hno s (by rw [hL]; exact hs)]; simp)
    have hcR := bR1.cell
    have hfR := bR1.frozen
    have hcB := bB1.cell
    have hfB := bB1.frozen
    clear hno hL
    gi_wp2
    have hus : Upd (fun k => k = w.heap.size + 1 ∨ k = w.heap.size + 2) W ((W.setCell ⟨w.heap.size + 1, 0, none⟩ (.slice none 0 0)).setCell ⟨w.heap.size + 2, 0, none⟩ (.bool false)) := ((Upd.refl (fun k => k = w.heap.size + 1 ∨ k = w.heap.size + 2) W).setCell (p := ⟨w.heap.size + 1, 0, none⟩) (.inr (.inl rfl)) _).setCell (p := ⟨w.heap.size + 2, 0, none⟩) (.inr (.inr rfl)) _
    have bR3 := ((Upd.refl (fun k => k = w.heap.size + 2) _).setCell (p := ⟨w.heap.size + 2, 0, none⟩) (.inr rfl) (.bool false)).boxed (bR1.set (.slice none 0 0)) (by omega)
    have bB3 := (((Upd.refl (fun k => k = w.heap.size + 1) W).setCell (p := ⟨w.heap.size + 1, 0, none⟩) (.inr rfl) (.slice none 0 0)).boxed bB1 (by omega)).set (.bool false)
    refine leaves_marks [d] _ ⟨by simp, fun b hb => ?_⟩ (fun W' hu' => ?_)
    · rw [List.mem_singleton.1 hb]
      exact (hus.block d (Array.getElem?_eq_some_iff.1 hKd).1 (by omega)).trans hKd
    · have hc1 := (hu'.boxed bR3 (by simp; omega)).cell
      have hc2 := (hu'.boxed bB3 (by simp; omega)).cell
      refine ⟨.tuple #[.slice none 0 0, .bool false], by simp [results, Try.f54, go_sem, hc1, hc2], ?_, .inr ⟨Hnone.out, rfl⟩⟩
      exact ((((hu0.mono fun _ _ e => e.elim).trans' (hU.trans hus) (fun i hi e => by omega)).trans' hu' (fun i hi e => by simp at e; omega)).toBelow (R := fun _ => False) (fun _ e => e.elim) (Nat.le_refl _))
  case stop =>
    rintro d D1 co pre W hd hpre ⟨rfl, pr, x, rfl, hno, heq, bR1, bB1, hx1, hown, hU⟩ hD1 hKd
    have hcR := bR1.cell
    have hcB := bB1.cell
    have hpre' : (pr.map fun x : Rn => x.1.1) ++ [x.1.1] <+: alL (zr n) := by
      have h1 : (pr ++ [x]).map (fun x : Rn => x.1.1) <+: alL (zr zs.length) := hpre
      rw [List.map_append, hlen.out] at h1
      exact h1
    have Hf := Lib.hid (find_pre (p := fun t => decide (rnL zs t = ys)) hpre' hno heq)
    have hxl : x.1.1.length = n := by
      have h2 := (alL_mem _ _).1 (hpre'.subset (show x.1.1 ∈ (pr.map fun x : Rn => x.1.1) ++ [x.1.1] by simp))
      exact (zr_steps h2).1
    have hV := lnHas_rowV hx1 (lo := w.heap.size) (fun k hk => by have := (hown k hk).2; omega) hxl
    clear hno heq hpre hpre'
    gi_wp2
    refine leaves_marks [d] _ ⟨by simp, fun b hb => ?_⟩ (fun W' hu' => ?_)
    · rw [List.mem_singleton.1 hb]
      exact hKd
    · have hud : Upd (fun k => k = d) W W' := hu'.mono fun k _ e => by simpa using e
      have hc1 := (hud.boxed bR1 (by omega)).cell
      have hc2 := (hud.boxed bB1 (by omega)).cell
      have hx2 := lnHas_keep hx1 hud (fun k hk e => by have := hD1 k (hown k hk).1; omega)
      obtain ⟨A', c', hv, hV⟩ := lnHas_rowV hx2 (lo := w.heap.size) (fun k hk => by have := (hown k hk).2; omega) hxl
      rw [hv] at hc1
      refine ⟨.tuple #[.slice A' n c', .bool true], by simp [results, Try.f54, go_sem, hc1, hc2], ?_, .inl ⟨x.1.1, A', c', Hf.out, rfl, hV⟩⟩
      exact ((((hu0.mono fun _ _ e => e.elim).trans' hU (fun i hi e => by omega)).trans' hud (fun i hi e => by omega)).toBelow (R := fun _ => False) (fun _ e => e.elim) (Nat.le_refl _))

set_option maxRecDepth 100000 in
set_option maxHeartbeats 2000000 in
theorem MapOrder_any (A : Option Addr) (n c : Nat) (zs : List Int) (A2 : Option Addr) (n2 c2 : Nat) (ys : List Int) (w : World) (h : Ints w w.heap.size A n zs) (h' : Ints w w.heap.size A2 n2 ys) (hbig : n ≤ 1152921504606846976) (hbig' : n2 ≤ 1152921504606846976) :
    Calls Try.prog 21 #[.slice A n c, .slice A2 n2 c2] w (GivesAtV w (mapR zs ys) (mapB zs ys)) := by
  have hlen := Lib.hid h.len
  have hleny := Lib.hid h'.len
  have stop : ∀ (w9 : World), (triB zs && (triB ys && decide (zs.length = ys.length))) = false → Below w.heap.size w w9 → GivesAtV w (mapR zs ys) (mapB zs ys) (.returned (.tuple #[.slice none 0 0, .bool false])) w9 := fun w9 e hB => by
    obtain ⟨e1, e2⟩ := map_no e
    exact ⟨none, 0, 0, by rw [e1], by rw [e2]; exact RowV.nil _ _ _ _, hB⟩
  have Stop := Lib.hid stop
  clear stop
  go_enter Try.func21, Try.ntmps21
  go_wp2_with fail
  refine (readTried_any _ _ _ zs _ h hbig).mono ?_
  rintro e w1 ⟨hB, hor⟩
  have z1 := hB.size
  have j1 := h'.to hB (Nat.le_refl _) z1
  rcases hor with ⟨hv, b, rfl, hb, hAr⟩ | ⟨hv, rfl⟩
  · have Hv := Lib.hid hv
    obtain ⟨hvo, h5⟩ := triB_vo hv
    rw [hlen.out] at h5
    clear hv
    go_wp2_with fail
    refine (readTried_any _ _ _ ys _ j1 hbig').mono ?_
    rintro e w2 ⟨hB2, hor2⟩
    have z2 := hB2.size
    have C2 := hB.trans (hB2.mono z1)
    have hA2 := hAr.below hB2 hAr.lt
    rcases hor2 with ⟨hv2, b2, rfl, hb2, hAr2⟩ | ⟨hv2, rfl⟩
    · have Hv2 := Lib.hid hv2
      clear hv2
      by_cases hnn : n = n2
      · subst hnn
        have Hyes := Lib.hid (map_yes (a := zs) (b := ys) (by rw [Hv.out, Hv2.out, hlen.out, hleny.out]; simp))
        rw [hlen.out] at Hyes
        go_wp2_with fail
        refine (mapTo_any b n n b2 n zs ys hvo hlen.out hleny.out w2 hA2 hAr2).mono ?_
        rintro e w3 ⟨hB3, (⟨t, A3, c3, hf, rfl, hV⟩ | ⟨hf, rfl⟩)⟩
        · have Hf := Lib.hid hf
          clear hf
          go_wp2_with fail
          go_ret2
          exact ⟨A3, n, c3, by unfold mapB; rw [Hyes.out, Hf.out]; rfl, by unfold mapR; rw [Hyes.out, Hf.out]; exact hV.more C2.size (Nat.le_refl _), C2.trans (hB3.mono C2.size)⟩
        · have Hf := Lib.hid hf
          clear hf
          go_wp2_with fail
          go_ret2
          exact ⟨none, 0, 0, by unfold mapB; rw [Hyes.out, Hf.out]; rfl, by unfold mapR; rw [Hyes.out, Hf.out]; exact RowV.nil _ _ _ _, C2.trans (hB3.mono C2.size)⟩
      · have Hno := Lib.hid (show (triB zs && (triB ys && decide (zs.length = ys.length))) = false by rw [hlen.out, hleny.out]; simp [hnn])
        have hne : ((n : Int) != (n2 : Int)) = true := by simp; omega
        clear hnn
        go_wp2_with fail
        go_ret2
        exact Stop.out _ Hno.out C2
    · have Hno := Lib.hid (show (triB zs && (triB ys && decide (zs.length = ys.length))) = false by rw [hv2]; cases triB zs <;> rfl)
      clear hv2
      go_wp2_with fail
      go_ret2
      exact Stop.out _ Hno.out C2
  · have Hno := Lib.hid (show (triB zs && (triB ys && decide (zs.length = ys.length))) = false by rw [hv]; rfl)
    clear hv
    go_wp2_with fail
    refine (readTried_any _ _ _ ys _ j1 hbig').mono ?_
    rintro e w2 ⟨hB2, hor2⟩
    have C2 := hB.trans (hB2.mono z1)
    rcases hor2 with ⟨hv2, b2, rfl, hb2, hAr2⟩ | ⟨hv2, rfl⟩
    all_goals
      go_wp2_with fail
      go_ret2
      exact Stop.out _ Hno.out C2
theorem mapR_le (zs ys : List Int) : (mapR zs ys).length ≤ 1048576 := by
  unfold mapR mapO
  split
  · rename_i h
    rw [Bool.and_eq_true] at h
    have h5 := (triB_vo h.1).2
    cases e : (alL (zr zs.length)).find? (fun t => decide (rnL zs t = ys)) with
    | none => simp
    | some t =>
      have h2 := (alL_mem _ _).1 (List.mem_of_find?_eq_some e)
      have := (zr_steps h2).1
      simp only [Option.getD_some]
      omega
  · simp
end Go.Proofs.Ytghogabmkbadjaa

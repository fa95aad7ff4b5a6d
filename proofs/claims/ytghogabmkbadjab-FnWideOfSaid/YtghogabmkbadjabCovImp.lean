/- CoversOf: the program's. -/
import Derived.Test.YtghogabmkbadjabGa
set_option linter.unusedVariables false
set_option linter.unusedSimpArgs false
namespace Go.Proofs.Ytghogabmkbadjab
open Go.RowKit Go.Shelf
attribute [local go_sem] Oper.semAt_some
attribute [local go_sem, local simp] wide_fn

/-- The slices lie where S says. -/
def Lies (S : Nat → Prop) (vs : List Value) : Prop := ∀ v ∈ vs, ∀ k, v.ownBlock = some k → S k
theorem RowsC.keepS {w w' : World} {R S : Nat → Prop} (hu : Upd R w w') (hS : ∀ k, S k → ¬ R k) : ∀ {lo hi : Nat} {vs : List Value} {rs : List (List Int)}, RowsC w lo hi vs rs → Lies S vs → RowsC w' lo hi vs rs
  | _, _, [], [], h, _ => h
  | _, _, v :: _, _ :: _, ⟨A, c, mid, e, h1, hr, h2⟩, hl => by
    refine ⟨A, c, mid, e, h1, ⟨hr.1, fun hn => ?_⟩, RowsC.keepS hu hS h2 (fun v hv => hl v (by simp [hv]))⟩
    obtain ⟨b, ys, eb, hb1, hb, hA⟩ := hr.2 hn
    exact ⟨b, ys, eb, hb1, hb, hA.upd hu (hS b (hl v (by simp) b (by rw [e, eb]; rfl)))⟩
/-- The rows so far, and where they lie. -/
def RowedS (S : Nat → Prop) (w : World) (B : Nat) (v : Value) (rs : List (List Int)) : Prop := (∀ k, v.ownBlock = some k → S k) ∧ ∃ vs, w.ownsRow B 22 1 v rs.length vs ∧ RowsC w B w.heap.size vs rs ∧ B ≤ w.heap.size ∧ Lies S vs
theorem RowedS.rowed {S : Nat → Prop} {w : World} {B : Nat} {v : Value} {rs : List (List Int)} (h : RowedS S w B v rs) : Rowed w B v rs := by
  obtain ⟨_, vs, h1, h2, h3, _⟩ := h
  exact ⟨vs, h1, h2, h3⟩
theorem RowedS.keep {S R : Nat → Prop} {w w' : World} {B : Nat} {v : Value} {rs : List (List Int)} (h : RowedS S w B v rs) (hu : Upd R w w') (hS : ∀ k, S k → ¬ R k) : RowedS S w' B v rs := by
  obtain ⟨h0, vs, h1, h2, h3, h4⟩ := h
  refine ⟨h0, vs, ⟨h1.1, ?_⟩, (h2.keepS hu hS h4).more hu.size, Nat.le_trans h3 hu.size, h4⟩
  rcases h1.2 with e | ⟨g, cap, cur, rfl, hg, hc, hrest⟩
  · exact .inl e
  · exact .inr ⟨g, cap, cur, rfl, hg, (hu.block g (Array.getElem?_eq_some_iff.1 hc).1 (hS g (h0 g rfl))).trans hc, hrest⟩

theorem Rowed_lt {w : World} {base n : Nat} {e : TypeId} {v : Value} {xs : List Value} (h : w.ownsRow base e 1 v n xs) : ∀ g, v.ownBlock = some g → g < w.heap.size := fun g hg => by
  obtain ⟨cs, hcs⟩ := own_block h g hg
  exact (Array.getElem?_eq_some_iff.1 hcs).1
theorem RowedS.step {S S' : Nat → Prop} {w w' : World} {B n : Nat} {v v' : Value} {rs : List (List Int)} {vs : List Value} {a b : Int} (h0 : ∀ k, v.ownBlock = some k → S k) (h1 : w.ownsRow B 22 1 v n vs) (hn : n = rs.length) (h2 : RowsC w B w.heap.size vs rs) (hB : B ≤ w.heap.size) (h4 : Lies S vs)
    (hown : w'.ownsRow B 22 1 v' (n + 1) (vs ++ [.slice (some ⟨w.heap.size, 0, none⟩) 2 2]))
    (hg : ((w.alloc (.cells #[.int .i64 a, .int .i64 b] 3)).alloc (.cells #[.slice (some ⟨w.heap.size, 0, none⟩) 2 2] 22)).grownBy w' v.ownBlock)
    (hv : v'.ownBlock = v.ownBlock ∨ v'.ownBlock = some ((w.alloc (.cells #[.int .i64 a, .int .i64 b] 3)).alloc (.cells #[.slice (some ⟨w.heap.size, 0, none⟩) 2 2] 22)).heap.size)
    (hS : ∀ k, S k → S' k) (hS1 : S' w.heap.size) (hS2 : w.heap.size + 2 < w'.heap.size → S' (w.heap.size + 2)) : RowedS S' w' B v' (rs ++ [[a, b]]) := by
  have hu : Upd (fun _ => False) w ((w.alloc (.cells #[.int .i64 a, .int .i64 b] 3)).alloc (.cells #[.slice (some ⟨w.heap.size, 0, none⟩) 2 2] 22)) := ((Upd.refl _ w).alloc _).alloc _
  have h3 := h2.upd hu (fun j e => e.elim)
  have hA : Arr (w.alloc (.cells #[.int .i64 a, .int .i64 b] 3)) w.heap.size 3 [a, b] := heap_alloc_new w _
  have h5 := h3.snoc (hi' := w.heap.size + 1 + 1) (r := [a, b]) (c := 2) (Row.of (hA.alloc _) rfl (Nat.le_refl _) (by omega)) (by omega)
  have h6 := h5.grown (by simp) hg (own_block (h1.alloc _ |>.alloc _))
  have hz := hg.size
  simp at hz
  refine ⟨fun k hk => ?_, _, by rw [List.length_append, ← hn]; exact hown, h6.more (by omega), by omega, fun u hu k hk => ?_⟩
  · rcases hv with e | e
    · exact hS k (h0 k (e ▸ hk))
    · have hlt := Rowed_lt hown k hk
      rw [e] at hk; simp at hk; subst hk; exact hS2 hlt
  · rcases List.mem_append.1 hu with hu | hu
    · exact hS k (h4 u hu k hk)
    · rw [List.mem_singleton.1 hu] at hk
      cases hk
      exact hS1

set_option maxRecDepth 100000 in
set_option maxHeartbeats 4000000 in
theorem CoversOf_any (A : Option Addr) (n c : Nat) (zs : List Int) (w : World) (h : Ints w w.heap.size A n zs) (hbig : n ≤ 1152921504606846976) :
    Calls Try.prog 55 #[.slice A n c] w (GivesRows w (coversR zs)) := by
  have hlen := Lib.hid h.len
  cases hv : vo zs
  · have Ht := Lib.hid (show coversR zs = [] by unfold coversR; rw [hv]; rfl)
    have Hv := Lib.hid hv
    clear hv
    go_enter Try.func55, Try.ntmps55
    go_wp2_with fail
    refine (readOrder_any _ _ _ zs _ h hbig).mono ?_
    rintro e w' ⟨hB, (⟨hv, b, rfl, _, _⟩ | ⟨_, rfl⟩)⟩
    · rw [Hv.out] at hv; cases hv
    · go_wp2_with fail
      go_ret
      exact ⟨none, 0, 0, rfl, by rw [Ht.out]; exact RowsR.nil _ _ _ _, hB.alloc hB.size _⟩
  · have hvo : VoP zs := by simpa [vo] using hv
    have hn6 : n ≤ 6 := by have := hvo.1; rw [hlen.out] at this; exact this
    have Ht := Lib.hid (show coversR zs = (covTo zs n).map rowOf by unfold coversR; rw [hv, hlen.out]; rfl)
    have Hv := Lib.hid hv
    clear hv
    obtain ⟨i0, hi0, hz0, hz1, hz2⟩ := infoRow_parts
    refine (callsIn_wide (n := 9)).1 ?_
    refine callsIn_of_wp_marks Try.func55 rfl trivial ?_ rfl
    simp only [Try.ntmps55, List.size_toArray, List.length_cons, List.length_nil, Nat.reduceAdd, Nat.reduceSub, Array.replicate_succ, Array.replicate_zero, List.push_toArray, List.append_toArray, List.nil_append, List.cons_append]
    gi_wp2_with fail
    refine (callsIn_wide.2 (readOrder_any _ _ _ zs _ h hbig)).mono ?_
    rintro e w1 ⟨hB, (⟨_, ob, rfl, hob, hAr⟩ | ⟨hv, _⟩)⟩
    · have z1 := hB.size
      gi_wp2_with (gi_at_call 107; refine (callsIn_wide.2 (pairs_any _ _ _ _)).mono ?_; rintro e w' ⟨rfl, rfl⟩)
      have bO := (((Boxed.new w1 49 (.slice (some ⟨ob, 0, none⟩) n n)).alloc (.cells #[] 22)).alloc (.cells #[Value.slice (some ⟨w1.heap.size + 1, 0, none⟩) 0 0] 32)).alloc (.cells #[Value.slice (some ⟨ob, 0, none⟩) n n] 49)
      have bV := (Boxed.new ((w1.alloc (.cells #[Value.slice (some ⟨ob, 0, none⟩) n n] 49)).alloc (.cells #[] 22)) 32 (.slice (some ⟨w1.heap.size + 1, 0, none⟩) 0 0)).alloc (.cells #[Value.slice (some ⟨ob, 0, none⟩) n n] 49)
      have bP := Boxed.new (((w1.alloc (.cells #[Value.slice (some ⟨ob, 0, none⟩) n n] 49)).alloc (.cells #[] 22)).alloc (.cells #[Value.slice (some ⟨w1.heap.size + 1, 0, none⟩) 0 0] 32)) 49 (.slice (some ⟨ob, 0, none⟩) n n)
      have oV := ((own_new (w1.alloc (.cells #[Value.slice (some ⟨ob, 0, none⟩) n n] 49)) 22).alloc (.cells #[Value.slice (some ⟨w1.heap.size + 1, 0, none⟩) 0 0] 32)).alloc (.cells #[Value.slice (some ⟨ob, 0, none⟩) n n] 49)
      have hu0 : Upd (fun _ => False) w1 ((((w1.alloc (.cells #[Value.slice (some ⟨ob, 0, none⟩) n n] 49)).alloc (.cells #[] 22)).alloc (.cells #[Value.slice (some ⟨w1.heap.size + 1, 0, none⟩) 0 0] 32)).alloc (.cells #[Value.slice (some ⟨ob, 0, none⟩) n n] 49)) := ((((Upd.refl _ w1).alloc _).alloc _).alloc _).alloc _
      have hz0' : ((((w1.alloc (.cells #[Value.slice (some ⟨ob, 0, none⟩) n n] 49)).alloc (.cells #[] 22)).alloc (.cells #[Value.slice (some ⟨w1.heap.size + 1, 0, none⟩) 0 0] 32)).alloc (.cells #[Value.slice (some ⟨ob, 0, none⟩) n n] 49)).heap.size = w1.heap.size + 4 := by simp
      simp only [World.size_alloc] at bO bV bP oV
      obtain ⟨W0, hW0⟩ : ∃ W0, ((((w1.alloc (.cells #[Value.slice (some ⟨ob, 0, none⟩) n n] 49)).alloc (.cells #[] 22)).alloc (.cells #[Value.slice (some ⟨w1.heap.size + 1, 0, none⟩) 0 0] 32)).alloc (.cells #[Value.slice (some ⟨ob, 0, none⟩) n n] 49)) = W0 := ⟨_, rfl⟩
      rw [hW0] at bO bV bP oV hu0 hz0' ⊢
      clear hW0
      have hA0 : Ints W0 w1.heap.size (some ⟨ob, 0, none⟩) n zs := (hAr.ints' hAr.lt hlen.out).below (hu0.toBelow (fun _ e => e.elim) (Nat.le_refl _))
      refine range_out (n := 9) (gf := 145) (lb := #[.pointer (some ⟨w1.heap.size + 1 + 1 + 1, 0, none⟩)]) rfl (enters_of Try.func145 (by kernel_rfl) rfl) (encs := encP) (L := pairsL zs)
        (fun k => k = w1.heap.size + 1 ∨ k = w1.heap.size + 2) (fun k e => by omega) (fun _ => rfl)
        (fun W1 l1 hu1 hl1 hl2 => pairs_iter_at hvo.sets bP (fun k e => by omega) (by omega) hA0 (by omega) (fun k e => by omega) hu1 hl1 hl2)
        (fun pre D W => ∃ v, Boxed W (w1.heap.size + 1 + 1) 32 v ∧ RowedS (fun k => k = w1.heap.size + 1 ∨ D k) W (w1.heap.size + 1) v ((pre.filter (coverB zs)).map rowOf) ∧ Upd (fun k => k = w1.heap.size + 1 ∨ k = w1.heap.size + 2) W0 W)
        (fun _ _ _ _ => False)
        (fun _ D X Y hs hu => by
          obtain ⟨v, h1, h2, h3⟩ := hs
          exact ⟨v, hu.boxed h1 (fun e => by omega), h2.keep hu (fun k hk e => by rcases hk with hk | hk; · omega
                                                                                  · exact e.2 hk), h3.trans' hu (fun i hi e => by omega)⟩)
        (fun _ _ _ _ _ hs _ => hs)
        ⟨_, bV, ⟨fun k hk => by cases hk; exact .inl rfl, [], oV, by simp [RowsC]; omega, by omega, fun _ h => by cases h⟩, Upd.refl _ _⟩ ?owes ?done ?stop
      case owes =>
        rintro l1 pre ⟨lo, hi⟩ D1 W hl1 hl2 hDl hD1 - hpre K hK
        gi_wp2
        refine hK _ _ (Upd.refl _ _) ?_
        rintro Wb hWb - ⟨v, bV1, hR, hU⟩
        clear hK
        obtain ⟨hlo, hhi, hbit⟩ := hvo.sets.pair (a := lo) (b := hi) (hpre.subset (by simp))
        rw [hlen.out] at hlo hhi
        have hcO := (hU.boxed bO (by omega)).cell
        have hsb := hU.size
        have hszb := hWb.size
        have hAb : Ints Wb w1.heap.size (some ⟨ob, 0, none⟩) n zs := hA0.below (hU.toBelow (fun k e => by omega) (by omega))
        gi_wp2_with fail
        refine (callsIn_wide.2 (isNext_any _ n n lo hi zs hvo.sets _ (hAb.more (by omega)) hlo hhi)).mono ?_
        rintro e W2 ⟨rfl, hB2⟩
        cases hb : nextB zs lo hi
        · have hR2 := hR.keep (Below.toUpd hB2) (fun k hk e => by rcases hk with hk | hk; · omega
                                                                  · have := hD1 k hk; omega)
          have Hf := Lib.hid (show ((pre ++ [(lo, hi)]).filter (coverB zs)) = pre.filter (coverB zs) by simp [coverB, hb])
          gi_wp2
          exact ⟨D1, ⟨v, (Below.toUpd hB2).boxed bV1 (fun e => by omega), by rw [Hf.out]; exact hR2, hU.below hB2 (fun k h1 h2 => by omega)⟩, (Below.toUpd hB2).mono (fun k _ e => .inr (.inr (by omega))), fun k hk => .inl hk⟩
        · have Hf := Lib.hid (show ((pre ++ [(lo, hi)]).filter (coverB zs)).map rowOf = (pre.filter (coverB zs)).map rowOf ++ [[(lo : Int), (hi : Int)]] by simp [coverB, hb, rowOf])
          have hR2 := hR.keep (Below.toUpd hB2) (fun k hk e => by rcases hk with hk | hk; · omega
                                                                  · have := hD1 k hk; omega)
          have bV2 := (Below.toUpd hB2).boxed bV1 (fun e => by omega)
          have hcV := bV2.cell
          have hfV := bV2.frozen
          have z2 := hB2.size
          have hl36 : ((pre.filter (coverB zs)).map rowOf).length ≤ 36 := by
            have h1 := pairs_len hvo.1
            have h2 : pre.length ≤ (pairsL zs).length := by have := hpre.length_le; simp at this; omega
            have h3 := List.length_filter_le (coverB zs) pre
            simp only [List.length_map]
            omega
          obtain ⟨h0, vs, hown, hC, hb1, hL⟩ := hR2
          generalize hrs : (pre.filter (coverB zs)).map rowOf = rs at *
          clear hrs
          have hvb : some (w1.heap.size + 1 + 1) ≠ v.ownBlock := by
            intro e
            rcases h0 _ e.symm with h9 | h9
            · omega
            · have := hD1 _ h9
              omega
          have hv1 : ∀ k, v.ownBlock = some k → W0.heap.size ≤ k ∨ (k = w1.heap.size + 1 ∨ k = w1.heap.size + 2) := fun k hk => by
            rcases h0 _ hk with h9 | h9
            · exact .inr (.inl h9)
            · exact .inl (hD1 _ h9).1
          have hv2 : ∀ k, v.ownBlock = some k → Wb.heap.size ≤ k ∨ ((k = w1.heap.size + 1 ∨ k = w1.heap.size + 2) ∨ D1 k ∨ W.heap.size ≤ k) := fun k hk => by
            rcases h0 _ hk with h9 | h9
            · exact .inr (.inl (.inl h9))
            · exact .inr (.inr (.inl h9))
          gi_wp2_with (gi_at_builtin; go_loud (refine wpListIn_append1 _ rfl (.tmp 24) (.tmp 28) _ rfl (w1.heap.size + 1) 22 i0 _ 24 Try.underlying32 hi0 hz0 hz1 hz2 rfl _ rs.length _ rfl ((hown.alloc _).alloc _) (W2.heap.size + 1) 1 (.slice (some ⟨W2.heap.size, 0, none⟩) 2 2) rfl (cell_new2 _ _ _ _) rfl (by omega) (by omega) (by simp; omega) ?_); rintro v' w' hown' hg' hv'; obtain ⟨g', cap', rfl⟩ := ownsRow_succ hown'; have bV3 := ((bV2.alloc _).alloc _).kept hg' hvb; have hcV3 := bV3.cell; have hfV3 := bV3.frozen)
          rename_i w'
          have zg := hg'.size
          simp at zg
          have hgU : Upd (fun k => k = w1.heap.size + 1 ∨ k = w1.heap.size + 2) W0 w' := (((hU.below hB2 (fun k h1 h2 => by omega)).alloc _).alloc _).grown hg' hv1
          have hbU : Upd (fun k => (k = w1.heap.size + 1 ∨ k = w1.heap.size + 2) ∨ D1 k ∨ W.heap.size ≤ k) Wb w' := (((Below.toUpd hB2).mono (fun k _ e => .inr (.inr (by omega)))).alloc _ |>.alloc _).grown hg' hv2
          have hst := RowedS.step (S' := fun k => k = w1.heap.size + 1 ∨ (D1 k ∨ W.heap.size ≤ k ∧ k < w'.heap.size)) h0 hown rfl hC hb1 hL hown' hg' hv'
            (fun k hk => hk.elim .inl (fun h => .inr (.inl h))) (.inr (.inr ⟨by omega, by omega⟩)) (fun h9 => .inr (.inr ⟨by omega, h9⟩))
          have hus : Upd (fun k => k = w1.heap.size + 1 + 1) w' (w'.setCell ⟨w1.heap.size + 1 + 1, 0, none⟩ (.slice (some ⟨g', 0, none⟩) (rs.length + 1) cap')) := (Upd.refl (fun k => k = w1.heap.size + 1 + 1) w').setCell (p := ⟨w1.heap.size + 1 + 1, 0, none⟩) (.inr rfl) _
          have hst2 := hst.keep hus (fun k hk e => by
            rcases hk with h9 | h9 | h9
            · omega
            · have := hD1 _ h9
              omega
            · omega)
          exact ⟨fun k => D1 k ∨ W.heap.size ≤ k ∧ k < w'.heap.size, ⟨_, bV3.set _, by rw [Hf.out]; exact hst2, hgU.setCell (p := ⟨w1.heap.size + 1 + 1, 0, none⟩) (.inr (.inr rfl)) _⟩,
            hbU.setCell (p := ⟨w1.heap.size + 1 + 1, 0, none⟩) (.inr (.inl (.inr rfl))) _, fun k hk => hk.elim .inl (fun h => .inr ⟨h.1, by simpa [World.setCell] using h.2⟩)⟩
      case done =>
        rintro d D1 W hd ⟨v, bV1, hR, hU⟩ hD1 hKd
        have hcV := bV1.cell
        have HF := Lib.hid (show ((pairsL zs).filter (coverB zs)).map rowOf = coversR zs by rw [Ht.out, ← cov_pairs hvo.sets, hlen.out])
        rw [HF.out] at hR
        have zd := hU.size
        gi_wp2
        refine leaves_marks [d] _ ⟨by simp, fun b hb => ?_⟩ (fun W' hu' => ?_)
        · rw [List.mem_singleton.1 hb]
          exact hKd
        · have hR' := hR.keep hu' (fun k hk e => by
            simp at e
            rcases hk with h9 | h9
            · omega
            · have := hD1 k h9
              omega)
          obtain ⟨A', c', rfl, hRR⟩ := hR'.rowed.rows
          have hB3 : Below w1.heap.size w1 W' := ((hu0.trans' hU (fun i hi e => by omega)).trans' hu' (fun i hi e => by simp at e; omega)).toBelow (R := fun _ => False) (fun _ e => e.elim) (Nat.le_refl _)
          exact ⟨_, by simp [results, Try.f55, go_sem], A', _, c', rfl, RowsR.sooner hRR (by omega), hB.trans (hB3.mono z1)⟩
      case stop =>
        rintro d D1 co pre W hd hpre hF
        exact hF.elim
    · rw [Hv.out] at hv; cases hv
end Go.Proofs.Ytghogabmkbadjab

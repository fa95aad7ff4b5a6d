/- The pairs of items apart: the program's whole. -/
import Derived.Test.YtbhnkjclemeolaaEndsI
set_option linter.unusedVariables false
set_option linter.unusedSimpArgs false
namespace Go.Proofs.Ytbhnkjclemeolaa
open Go.RowKit Go.Shelf
attribute [local go_sem] Oper.semAt_some
attribute [local go_sem, local simp] wide_fn

/-- The pairs of one item, with those of the list. -/
def prX (x : Nat) (l : List Nat) : List (Nat × Nat) := (l.filter fun b => decide (x < b)).map fun b => (x, b)
def prF (zs : List Int) (pre : List Nat) : List (Nat × Nat) := pre.flatMap fun a => prX a (itemsL (unrI zs a))
theorem prF_snoc (zs : List Int) (pre : List Nat) (x : Nat) : prF zs (pre ++ [x]) = prF zs pre ++ prX x (itemsL (unrI zs x)) := by simp [prF]
theorem prX_yes {x y : Nat} (l : List Nat) (h : x < y) : prX x (l ++ [y]) = prX x l ++ [(x, y)] := by simp [prX, h]
theorem prX_no {x y : Nat} (l : List Nat) (h : ¬ x < y) : prX x (l ++ [y]) = prX x l := by simp [prX, h]
theorem prF_all (zs : List Int) : prF zs (List.range zs.length).reverse = prA zs := rfl
theorem prX_len (x : Nat) (l : List Nat) : (prX x l).length ≤ l.length := by
  unfold prX; rw [List.length_map]; exact List.length_filter_le _ _
theorem items_len6 (s : Int) : (itemsL s).length ≤ 6 := by
  have : (itemsL s).length ≤ (List.range 6).length := List.length_filter_le _ _
  simpa using this
theorem prF_len (zs : List Int) : ∀ pre : List Nat, (prF zs pre).length ≤ pre.length * 6
  | [] => by simp [prF]
  | a :: pre => by
    have ih := prF_len zs pre
    have h1 := prX_len a (itemsL (unrI zs a))
    have h2 := items_len6 (unrI zs a)
    have e : prF zs (a :: pre) = prX a (itemsL (unrI zs a)) ++ prF zs pre := by simp [prF]
    rw [e, List.length_append, List.length_cons]
    omega

set_option maxRecDepth 100000 in
set_option maxHeartbeats 8000000 in
theorem pairsApart_any (A : Option Addr) (n c : Nat) (zs : List Int) (hvo : VoP zs) (w : World) (hA : Ints w w.heap.size A n zs) :
    Calls Try.prog 99 #[.slice A n c] w fun e W' => ∃ v, e = .returned v ∧ PrOwn (fun k => w.heap.size ≤ k) W' w.heap.size v (prA zs) ∧ Below w.heap.size w W' := by
  have hlen := Lib.hid hA.len
  have hn6 : n ≤ 6 := by have := hvo.1; rw [hlen.out] at this; exact this
  obtain ⟨i0, hi0, hz0, hz1, hz2⟩ := infoEnds_parts
  have Hall := Lib.hid (show prF zs (List.range n).reverse = prA zs by rw [← hlen.out]; exact prF_all zs)
  refine (callsIn_wide (n := 9)).1 ?_
  refine callsIn_of_wp_marks Try.func99 rfl trivial ?_ rfl
  simp only [Try.ntmps99, List.size_toArray, List.length_cons, List.length_nil, Nat.reduceAdd, Nat.reduceSub, Array.replicate_succ, Array.replicate_zero, List.push_toArray, List.append_toArray, List.nil_append, List.cons_append]
  gi_wp2_with (gi_at_call 118; refine (callsIn_wide.2 (backward_any _ _ _ _)).mono ?_; rintro e w' ⟨rfl, rfl⟩)
  have bO := ((Boxed.new w 49 (.slice A n c)).alloc (.cells #[Value.slice none 0 0] 98)).alloc (.cells #[Value.slice A n c] 49)
  have bV := (Boxed.new (w.alloc (.cells #[Value.slice A n c] 49)) 98 (.slice none 0 0)).alloc (.cells #[Value.slice A n c] 49)
  have bE := Boxed.new ((w.alloc (.cells #[Value.slice A n c] 49)).alloc (.cells #[Value.slice none 0 0] 98)) 49 (.slice A n c)
  have hu0 : Upd (fun _ => False) w (((w.alloc (.cells #[Value.slice A n c] 49)).alloc (.cells #[Value.slice none 0 0] 98)).alloc (.cells #[Value.slice A n c] 49)) := (((Upd.refl _ w).alloc _).alloc _).alloc _
  have hzz : (((w.alloc (.cells #[Value.slice A n c] 49)).alloc (.cells #[Value.slice none 0 0] 98)).alloc (.cells #[Value.slice A n c] 49)).heap.size = w.heap.size + 3 := by simp
  simp only [World.size_alloc] at bV bE
  obtain ⟨W0, hW0⟩ : ∃ W0, (((w.alloc (.cells #[Value.slice A n c] 49)).alloc (.cells #[Value.slice none 0 0] 98)).alloc (.cells #[Value.slice A n c] 49)) = W0 := ⟨_, rfl⟩
  rw [hW0] at bO bV bE hu0 hzz ⊢
  clear hW0
  have hA0 : Ints W0 w.heap.size A n zs := hA.below (hu0.toBelow (fun _ e => e.elim) (Nat.le_refl _))
  refine range_out (n := 9) (gf := 128) (lb := #[.pointer (some ⟨w.heap.size + 1 + 1, 0, none⟩)]) rfl (enters_of Try.func128 (by kernel_rfl) rfl) (encs := encB zs) (L := (List.range n).reverse)
    (fun k => k = w.heap.size + 1) (fun k e => by omega) (fun _ => rfl)
    (fun W1 l1 hu1 hl1 hl2 => backward_iter A n c zs _ _ W1 (hu1.boxed bE (fun e => e)) (fun e => by omega) hn6 ((hA0.below (hu1.toBelow (fun _ e => e.elim) (by omega))).more (by have := hu1.size; omega)) (fun hn a ha e => by
      obtain ⟨b', off', e2, hb', _⟩ := hA0.at_ (k := 0) hn
      rw [ha] at e2; cases e2
      simp only at e; omega))
    (fun pre D W => ∃ v, Boxed W (w.heap.size + 1) 98 v ∧ PrOwn D W w.heap.size v (prF zs pre) ∧ Upd (fun k => k = w.heap.size + 1) W0 W)
    (fun _ _ _ _ => False)
    (fun _ D X Y hs hu => by
      obtain ⟨v, h1, h2, h3⟩ := hs
      exact ⟨v, hu.boxed h1 (fun e => by omega), h2.keep hu (fun k hk e => e.2 hk), h3.trans' hu (fun i hi e => by omega)⟩)
    (fun _ _ _ _ _ hs _ => hs)
    ⟨_, bV, PrOwn.none _ _ _, Upd.refl _ _⟩ ?owes ?done ?stop
  case owes =>
    rintro l1 pre x D1 W hl1 hl2 hDl hD1 - hpre K hK
    have hxn : x < n := by
      have := hpre.subset (by simp : x ∈ pre ++ [x])
      simpa using this
    gi_wp2
    refine hK _ _ ((Upd.refl _ _).alloc _) ?_
    rintro Wb hWb hloop ⟨v, bV1, hO, hU⟩
    clear hK
    have hWs : (W.alloc (.cells #[Value.int .i64 (x : Int)] 3)).heap.size = W.heap.size + 1 := by simp
    have bI : Boxed Wb W.heap.size 3 (.int .i64 (x : Int)) := hWb.boxed (Boxed.new W _ _) (fun e => by omega)
    have hcI := bI.cell
    have hcO := (hU.boxed bO (by omega)).cell
    have hsb := hU.size
    have hszb := hWb.size
    rw [hWs] at hszb
    have hAb : Ints Wb w.heap.size A n zs := hA0.below (hU.toBelow (fun k e => by omega) (by omega))
    have hub := unrI_bd zs x
    have hp64 := powI_le6 (n := (zs.length : Int)) (by rw [hlen.out]; omega)
    have Hcall := Lib.hid (ounrelated_any A n c zs x hvo Wb (hAb.more (by omega)) hxn)
    have HF := Lib.hid (prF_snoc zs pre x)
    have Hpl := Lib.hid (show (prF zs pre).length ≤ 36 by
      have h1 := prF_len zs pre
      have h2 := hpre.length_le
      simp at h2
      omega)
    generalize unrI zs x = u at *
    gi_wp2_with fail
    refine (CallsIn.inRound l1 (callsIn_wide.2 Hcall.out)).mono ?_
    rintro e W2 ⟨rfl, hB2⟩
    have z2 := hB2.size
    gi_wp2_with (gi_at_call 101; refine (CallsIn.inRound l1 (callsIn_wide.2 (each_any _ _))).mono ?_; rintro e w' ⟨rfl, rfl⟩)
    have bE2 := Boxed.new W2 70 (.int .i64 u)
    have huc : Upd (fun k => Wb.heap.size ≤ k) Wb (W2.alloc (.cells #[Value.int .i64 u] 70)) := (Below.toUpd hB2).alloc _
    have hzc : (W2.alloc (.cells #[Value.int .i64 u] 70)).heap.size = W2.heap.size + 1 := by simp
    obtain ⟨Wc, hWc⟩ : ∃ Wc, W2.alloc (.cells #[Value.int .i64 u] 70) = Wc := ⟨_, rfl⟩
    rw [hWc] at bE2 huc hzc ⊢
    clear hWc
    have bVc := huc.boxed bV1 (fun e => by have := bV1.lt; omega)
    have bIc := huc.boxed bI (fun e => by have := bI.lt; omega)
    have hOc : PrOwn (fun k => D1 k ∨ False) Wc w.heap.size v (prF zs pre ++ prX x []) := by
      have h1 := hO.keep huc (fun k hk e => by have := hD1 k hk; omega)
      rw [show prF zs pre ++ prX x [] = prF zs pre by simp [prX]]
      exact ⟨fun k hk => .inl (h1.1 k hk), h1.2⟩
    obtain ⟨r1, hr1⟩ := hloop
    have hl1b : l1 < Wb.heap.size := (Array.getElem?_eq_some_iff.1 hr1).1
    refine range_in (l₀ := l1) ⟨r1, (huc.block l1 hl1b (fun e => by omega)).trans hr1⟩ (gf := 123) (lb := #[.pointer (some ⟨W2.heap.size, 0, none⟩)]) rfl (enters_of Try.func123 (by kernel_rfl) rfl) (encs := encI) (L := itemsL u)
      (fun k => k = w.heap.size + 1 ∨ D1 k) (fun k e => by rcases e with e | e; · omega
                                                           · have := hD1 k e; omega) (fun _ => rfl)
      (fun W1 l2 hu1 hl3 hl4 => each_iter u hub.1 (by omega) _ _ W1 (hu1.boxed bE2 (fun e => e)) (fun e => by
        rcases e with (e | e) | e
        · omega
        · have := hD1 _ e; omega
        · omega))
      (fun pre2 D2 W' => ∃ v, Boxed W' (w.heap.size + 1) 98 v ∧ PrOwn (fun k => D1 k ∨ D2 k) W' w.heap.size v (prF zs pre ++ prX x pre2) ∧ Upd (fun k => k = w.heap.size + 1 ∨ D1 k) Wc W')
      (fun _ _ _ _ => False)
      (fun _ D X Y hs hu => by
        obtain ⟨v, h1, h2, h3⟩ := hs
        exact ⟨v, hu.boxed h1 (fun e => by omega), h2.keep hu (fun k hk e => by rcases hk with hk | hk; · have := hD1 k hk; omega
                                                                                · exact e.2 hk), h3.trans' hu (fun i hi e => by omega)⟩)
      (fun _ _ _ _ _ hs _ => hs)
      ⟨_, bVc, hOc, Upd.refl _ _⟩ ?owes2 ?done2 ?stop2
    case owes2 =>
      rintro l2 pre2 y D2 Wi hl3 hl4 hDl2 hD2 - hpre2 K hK
      gi_wp2
      refine hK _ _ (Upd.refl _ _) ?_
      rintro Wj hWj - ⟨v2, bV2, hO2, hU2⟩
      clear hK
      have hcI2 := (hU2.boxed bIc (fun e => by
        rcases e with e | e
        · omega
        · have := hD1 _ e; omega)).cell
      have z3 := hU2.size
      have z4 := hWj.size
      have hl2len : pre2.length ≤ 6 := by
        have h1 := hpre2.length_le
        have h2 := items_len6 u
        simp at h1
        omega
      by_cases hxy : x < y
      · have hgt : decide ((y : Int) > (x : Int)) = true := decide_eq_true (by omega)
        have Hst := Lib.hid (prX_yes pre2 hxy)
        have hcV2 := bV2.cell
        have hfV2 := bV2.frozen
        have hpl := Hpl.out
        have hxl := prX_len x pre2
        have hll : (prF zs pre ++ prX x pre2).length ≤ 42 := by rw [List.length_append]; omega
        obtain ⟨hS2, hown⟩ := hO2
        generalize hps : prF zs pre ++ prX x pre2 = ps at *
        have Hps := Lib.hid hps
        clear hps
        have hvb : some (w.heap.size + 1) ≠ v2.ownBlock := by
          intro e
          rcases hS2 _ e.symm with h9 | h9
          · have := hD1 _ h9; omega
          · have := hD2 _ h9; omega
        have hbk := heap_alloc_new Wj (.cells #[Value.int .i64 (x : Int), .int .i64 (y : Int)] 101)
        have hk0 : (Wj.alloc (.cells #[Value.int .i64 (x : Int), .int .i64 (y : Int)] 101)).cell? ⟨Wj.heap.size, 0, none⟩ = some (.int .i64 (x : Int)) := by rw [cell_of_row _ _ 0 _ _ (0, 0) hbk]; rfl
        have hk1 : (Wj.alloc (.cells #[Value.int .i64 (x : Int), .int .i64 (y : Int)] 101)).cell? ⟨Wj.heap.size, 1, none⟩ = some (.int .i64 (y : Int)) := by rw [cell_of_row _ _ 1 _ _ (0, 0) hbk]; rfl
        gi_wp2_with (gi_at_builtin; go_loud (refine wpListIn_append2 _ rfl (.tmp 18) (.tmp 22) _ rfl w.heap.size 101 i0 _ 16 Try.underlying98 hi0 hz0 hz1 hz2 rfl _ ps.length _ rfl (hown.alloc _) Wj.heap.size 1 (.int .i64 (x : Int)) (.int .i64 (y : Int)) rfl hk0 hk1 rfl rfl (by omega) (by omega) (by simp; omega) ?_); rintro v' w' hown' hg' hv'; obtain ⟨g', cap', rfl⟩ := ownsRow_succ hown'; have bV3 := (bV2.alloc _).kept hg' hvb; have hcV3 := bV3.cell; have hfV3 := bV3.frozen)
        rename_i w'
        have zg := hg'.size
        simp at zg
        have hst := PrOwn.step (S' := fun k => D1 k ∨ (D2 k ∨ Wi.heap.size ≤ k ∧ k < w'.heap.size)) (p := (x, y)) ⟨hS2, hown⟩ hown' hv' (fun k hk => hk.elim .inl (fun h => .inr (.inl h))) (fun h9 => .inr (.inr ⟨by omega, h9⟩))
        have hus : Upd (fun k => k = w.heap.size + 1) w' (w'.setCell ⟨w.heap.size + 1, 0, none⟩ (.slice (some ⟨g', 0, none⟩) (ps.length + 1) cap')) := (Upd.refl (fun k => k = w.heap.size + 1) w').setCell (p := ⟨w.heap.size + 1, 0, none⟩) (.inr rfl) _
        have hst2 := hst.keep hus (fun k hk e => by
          rcases hk with h9 | h9 | h9
          · have := hD1 _ h9; omega
          · have := hD2 _ h9; omega
          · omega)
        exact ⟨fun k => D2 k ∨ Wi.heap.size ≤ k ∧ k < w'.heap.size, ⟨_, bV3.set _, by rw [Hst.out, ← List.append_assoc, Hps.out]; exact hst2,
            ((hU2.alloc _).grown hg' (fun k hk => by
              rcases hS2 _ hk with h9 | h9
              · exact .inr (.inr h9)
              · exact .inl (by have := hD2 _ h9; omega))).setCell (p := ⟨w.heap.size + 1, 0, none⟩) (.inr (.inl rfl)) _⟩,
          (((Upd.refl (fun k => (k = w.heap.size + 1 ∨ D1 k) ∨ D2 k ∨ Wi.heap.size ≤ k) Wj).alloc _).grown hg' (fun k hk => by
              rcases hS2 _ hk with h9 | h9
              · exact .inr (.inl (.inr h9))
              · exact .inr (.inr (.inl h9)))).setCell (p := ⟨w.heap.size + 1, 0, none⟩) (.inr (.inl (.inl rfl))) _, fun k hk => hk.elim .inl (fun h => .inr ⟨h.1, by simpa [World.setCell] using h.2⟩)⟩
      · have hgt : decide ((y : Int) > (x : Int)) = false := decide_eq_false (by omega)
        have Hst := Lib.hid (prX_no pre2 hxy)
        gi_wp2
        exact ⟨D2, ⟨v2, bV2, by rw [Hst.out]; exact hO2, hU2⟩, Upd.refl _ _, fun k hk => .inl hk⟩
    case done2 =>
      rintro D2 W3 ⟨v2, bV2, hO2, hU2⟩ hD2
      have hbc : Upd (fun k => k = w.heap.size + 1 ∨ D1 k ∨ W.heap.size ≤ k) Wb W3 := (huc.mono (S := fun k => k = w.heap.size + 1 ∨ D1 k ∨ W.heap.size ≤ k) (fun k hk e => .inr (.inr (by omega)))).trans' hU2 (fun i hi e => e.elim .inl (fun h => .inr (.inl h)))
      exact ⟨fun k => D1 k ∨ D2 k, ⟨v2, bV2, by rw [HF.out]; exact hO2, hU.trans' hbc (fun i hi e => by
        rcases e with e | e | e
        · exact e
        · have := hD1 _ e; omega
        · omega)⟩, hbc, fun k hk => hk.elim .inl (fun h => .inr (by have := hD2 k h; omega))⟩
    case stop2 =>
      rintro D2 co pre2 W3 hpre2 hF hD2
      exact hF.elim
  case done =>
    rintro d D1 W hd ⟨v, bV1, hO, hU⟩ hD1 hKd
    have hcV := bV1.cell
    have zd := hU.size
    gi_wp2
    refine leaves_marks [d] _ ⟨by simp, fun b hb => ?_⟩ (fun W' hu' => ?_)
    · rw [List.mem_singleton.1 hb]; exact hKd
    · have hO' := hO.keep hu' (fun k hk e => by simp at e; have := hD1 k hk; omega)
      rw [Hall.out] at hO'
      exact ⟨_, by simp [results, Try.f99, go_sem], v, rfl, ⟨fun k hk => by have := hD1 k (hO'.1 k hk); omega, hO'.2⟩, ((hu0.trans' hU (fun i hi e => by omega)).trans' hu' (fun i hi e => by simp at e; omega)).toBelow (R := fun _ => False) (fun _ e => e.elim) (Nat.le_refl _)⟩
  case stop =>
    rintro d D1 co pre W hd hpre hF
    exact hF.elim
end Go.Proofs.Ytbhnkjclemeolaa

/- CanonOf: the program's, whole. -/
import Derived.Test.YtghogabmkbadjaaRnQ
import Derived.Test.YtghogabmkbadjaaRnW
import Derived.Test.YtghogabmkbadjaaGb
set_option linter.unusedVariables false
set_option linter.unusedSimpArgs false
namespace Go.Proofs.Ytghogabmkbadjaa
open Go.RowKit Go.Shelf
attribute [local go_sem] Oper.semAt_some
attribute [local go_sem, local simp] wide_fn

theorem ownQ_keep {w w' : World} {B n : Nat} {e : TypeId} {v : Value} {xs : List Value} {R : Nat → Prop} (h1 : w.ownsRow B e 1 v n xs) (hu : Upd R w w') (hS : ∀ k, v.ownBlock = some k → ¬ R k) : w'.ownsRow B e 1 v n xs := by
  refine ⟨h1.1, ?_⟩
  rcases h1.2 with e | ⟨g, cap, cur, rfl, hg, hc, hrest⟩
  · exact .inl e
  · exact .inr ⟨g, cap, cur, rfl, hg, (hu.block g (Array.getElem?_eq_some_iff.1 hc).1 (hS g rfl)).trans hc, hrest⟩
/-- copy of a whole order onto a row of as many sets. -/
theorem copyO_any (W : World) (base n g cap b : Nat) (xs ys : List Int) (ty : TypeId) (hO : W.ownsRow base 59 1 (.slice (some ⟨g, 0, none⟩) n cap) n (xs.map (Value.int .i64))) (hS : Arr W b 59 ys) (hl : ys.length = n) :
    ∃ W', (Builtin.copy_ #[44, 44] ty #[.slice (some ⟨g, 0, none⟩) n cap, .slice (some ⟨b, 0, none⟩) n n]).run Try.prog W = .ok (.int .i64 (n : Int)) W' ∧ W'.ownsRow base 59 1 (.slice (some ⟨g, 0, none⟩) n cap) n (ys.map (Value.int .i64)) ∧ Upd (fun k => k = g) W W' := by
  have hsz : (Try.prog.info? 59).map (·.size) = some 1 := by kernel_rfl
  rcases hO.2 with ⟨e, _⟩ | ⟨g', cap', cur, e, hg, hc, h1, h2, h3, ht⟩
  · cases e
  · cases e
    have hcl : (ys.map (Value.int .i64)).length = n := by rw [List.length_map, hl]
    have hr := run_copy_row (P := Try.prog) W 44 44 ty 59 g 0 n cap ⟨b, 0, none⟩ n n cur 59 (ys.map (Value.int .i64)) Try.underlying44 hsz hc (by rw [hcl]; exact (Nat.min_self n).symm) (fun j v hj => by
      rw [addr_add3, Nat.zero_add]
      rw [List.getElem?_map] at hj
      have hjl : j < ys.length := by
        rcases Nat.lt_or_ge j ys.length with h4 | h4
        · exact h4
        · rw [List.getElem?_eq_none h4] at hj; cases hj
      rw [hS.cell hjl, ← hj, List.getElem?_eq_getElem hjl]
      rfl) (by rw [hcl, h3]; omega) (fun v hv => by obtain ⟨z, _, rfl⟩ := List.mem_map.1 hv; rfl)
    rw [hcl] at hr
    refine ⟨_, hr, ⟨by simp [hl], .inr ⟨g, cap, _, rfl, hg, setRow_heap _ _ _ _ _ _ hc, h1, h2, ?_, ?_⟩⟩, rfl, rfl, rfl, by simp, fun i _ hi => setRow_other _ _ _ _ hi⟩
    · simp only [List.size_toArray, List.length_append, List.take_zero, List.length_nil, List.length_drop, hcl]
      rw [Array.length_toList, h3]
      omega
    · rw [List.take_zero, List.nil_append, List.take_append_of_le_length (by rw [hcl]; omega), List.take_of_length_le (by rw [hcl]; omega)]

set_option maxRecDepth 100000 in
set_option maxHeartbeats 8000000 in
theorem canon_any (b n c : Nat) (zs : List Int) (hvo : VoP zs) (hlen0 : zs.length = n) (w : World) (hA : Arr w b 59 zs) :
    Calls Try.prog 56 #[.slice (some ⟨b, 0, none⟩) n c] w fun e w' => ∃ A c', e = .returned (.slice A n c') ∧ Ints w' w'.heap.size A n (canT zs (alL (zr n))) ∧ Below w.heap.size w w' := by
  have hlen := Lib.hid hlen0
  have hn6 : n ≤ 6 := by have := hvo.1; rw [hlen.out] at this; exact this
  clear hlen0
  refine (callsIn_wide (n := 9)).1 ?_
  refine callsIn_of_wp_marks Try.func56 rfl trivial ?_ rfl
  simp only [Try.ntmps56, List.size_toArray, List.length_cons, List.length_nil, Nat.reduceAdd, Nat.reduceSub, Array.replicate_succ, Array.replicate_zero, List.push_toArray, List.append_toArray, List.nil_append, List.cons_append]
  gi_wp2_with fail
  refine (callsIn_wide.2 (clone_own b n c zs w hA hlen.out hn6)).mono ?_
  rintro e w1 ⟨v, rfl, hO, hB1⟩
  have z1 := hB1.size
  have hA1 := hA.below hB1 hA.lt
  have hbl := hA.lt
  have hO1 := hO.2
  rw [hlen.out] at hO1
  obtain ⟨A1, c1, rfl, -⟩ := rowC_of_own hO1
  have hge := hO.1
  have hlt1 := own_lt' hO1
  clear hO
  gi_wp2_with (gi_at_call 79; refine (callsIn_wide.2 (renumberings_any _ _ _ _)).mono ?_; rintro e w' ⟨rfl, rfl⟩)
  have bF := (Boxed.new w1 44 (.slice A1 n c1)).alloc (.cells #[Value.slice (some ⟨b, 0, none⟩) n c] 44)
  have bP := Boxed.new (w1.alloc (.cells #[Value.slice A1 n c1] 44)) 44 (.slice (some ⟨b, 0, none⟩) n c)
  have hu0 : Upd (fun _ => False) w1 ((w1.alloc (.cells #[Value.slice A1 n c1] 44)).alloc (.cells #[Value.slice (some ⟨b, 0, none⟩) n c] 44)) := ((Upd.refl _ w1).alloc _).alloc _
  have hz0 : ((w1.alloc (.cells #[Value.slice A1 n c1] 44)).alloc (.cells #[Value.slice (some ⟨b, 0, none⟩) n c] 44)).heap.size = w1.heap.size + 2 := by simp
  simp only [World.size_alloc] at bF bP
  obtain ⟨W0, hW0⟩ : ∃ W0, ((w1.alloc (.cells #[Value.slice A1 n c1] 44)).alloc (.cells #[Value.slice (some ⟨b, 0, none⟩) n c] 44)) = W0 := ⟨_, rfl⟩
  rw [hW0] at bF bP hu0 hz0 ⊢
  clear hW0
  have hA0 := hA1.upd hu0 (fun e => e)
  have hO0 := ownQ_keep hO1 hu0 (fun _ _ e => e)
  have hB0 : Below w.heap.size w W0 := hB1.trans (hu0.toBelow (fun _ e => e.elim) z1)
  refine range_outH (n := 9) (gf := 94) (lb := #[.pointer (some ⟨w1.heap.size + 1, 0, none⟩)]) rfl (enters_of Try.func94 (by kernel_rfl) rfl) (encs := rnEnc n) (own := rnOwn) (lent := rnLent) (Has := rnHas) (Lent := rnLies zs) rn_firm (rnLent_firm zs) (Ok := rnUp zs) (Full := rnFull zs)
    (fun k => A1 = some ⟨k, 0, none⟩) (fun k e => by have := hlt1 k (by rw [e]; rfl); omega) (fun _ => rfl)
    (fun W1 l1 hu1 hl1 hl2 => renumberings_iter zs hvo b n c hlen.out _ _ W1 (hu1.boxed bP (fun e => e)) (hA0.upd hu1 (fun e => e)) (fun e => by
      rcases e with e | e
      · have := hlt1 (w1.heap.size + 1) (by rw [e]; rfl); omega
      · omega) (fun e => by
      rcases e with e | e
      · have := hge b (by rw [e]; rfl); omega
      · omega) (fun k e => by
      have := hu1.size
      rcases e with e | e
      · have := hlt1 k (by rw [e]; rfl); omega
      · omega))
    (fun (pre : List Rn) D W => W.ownsRow w.heap.size 59 1 (.slice A1 n c1) n ((canT zs (pre.map fun x : Rn => x.1.1)).map (Value.int .i64)) ∧ Upd (fun k => A1 = some ⟨k, 0, none⟩) W0 W)
    (fun _ _ _ _ => False)
    (fun _ D X Y hs hu => ⟨ownQ_keep hs.1 hu (fun k hk e => by
      have h1 : A1 = some ⟨k, 0, none⟩ := by
        rcases hs.1.2 with ⟨e2, _⟩ | ⟨g, cap, cur, e2, _⟩
        · cases e2; cases hk
        · cases e2; cases hk; rfl
      have := hlt1 k hk; omega), hs.2.trans' hu (fun i hi e => by omega)⟩)
    (fun _ _ _ _ _ hs _ => hs)
    ⟨hO0, Upd.refl _ _⟩ ?owes ?done ?stop
  case owes =>
    rintro l1 pre x D1 W hl1 hl2 hDl hOl hLl hD1 hOw hLe1 - - - hpre K hK
    have Hs := Lib.hid (show canT zs ((pre ++ [x]).map fun x => x.1.1) = if lessRB (rnL zs x.1.1) (canT zs (pre.map fun x => x.1.1)) then rnL zs x.1.1 else canT zs (pre.map fun x => x.1.1) by rw [List.map_append]; exact canT_snoc _ _ _)
    have hxW : w1.heap.size + 1 < x.2 ∧ x.2 < W.heap.size := by have := hLe1 x.2 rfl; omega
    have hql : (canT zs (pre.map fun x => x.1.1)).length = n := by rw [canT_len, hlen.out]
    clear hpre
    gi_wp2
    refine hK _ _ (Upd.refl _ _) ?_
    rintro Wb hWb - ⟨hOb, hU⟩ - hle
    clear hK
    have hsb := hU.size
    have hszb := hWb.size
    have hcF := (hU.boxed bF (fun e => by have := hlt1 w1.heap.size (by rw [e]; rfl); omega)).cell
    have hLx : Arr Wb x.2 59 (rnL zs x.1.1) := hle
    have hll : (rnL zs x.1.1).length = n := by rw [rnL_len, hlen.out]
    have hIx := hLx.ints' (B := Wb.heap.size) hLx.lt hll
    obtain ⟨A3, c3, e3, hC3⟩ := rowC_of_own hOb
    cases e3
    have hIq := hC3.ints (B := Wb.heap.size) (Nat.le_refl _)
    generalize canT zs (pre.map fun x => x.1.1) = q at *
    gi_wp2_with fail
    refine (CallsIn.inRound l1 (callsIn_wide.2 (ocompare_any _ _ n n c1 _ _ (rnL zs x.1.1) q Wb hIx hIq (by omega)))).mono ?_
    rintro e w2 ⟨r, rfl, hr, rfl⟩
    cases he : lessRB (rnL zs x.1.1) q
    · rw [he] at Hs hr
      gi_wp2
      exact keep_end ⟨by rw [Hs.out]; exact hOb, hU⟩ hLx (fun k e => (hLe1 k e).2.2) (Upd.refl _ _)
    · rw [he] at Hs hr
      obtain ⟨g, rfl⟩ : ∃ g, A1 = some ⟨g, 0, none⟩ := by
        rcases hOb.2 with ⟨e2, h0⟩ | ⟨g, cap, cur, e2, _⟩
        · exfalso
          have e4 : rnL zs x.1.1 = [] := List.eq_nil_of_length_eq_zero (by omega)
          have e5 : q = [] := List.eq_nil_of_length_eq_zero (by omega)
          rw [e4, e5] at he
          cases he
        · cases e2; exact ⟨g, rfl⟩
      have hgl := hlt1 g rfl
      obtain ⟨W3, hcp, hO3, hu3⟩ := copyO_any w2 w.heap.size n g c1 x.2 q (rnL zs x.1.1) 3 hOb hLx hll
      have hu3' : Upd (fun k => (some ⟨g, 0, none⟩ : Option Addr) = some ⟨k, 0, none⟩) w2 W3 := hu3.mono fun k _ e => by rw [e]
      gi_wp2
      exact keep_end ⟨by rw [Hs.out]; exact hO3, hU.trans hu3'⟩ (hLx.upd hu3 (by omega)) (fun k e => (hLe1 k e).2.2) (hu3'.mono fun _ _ e => .inl e)
  case done =>
    rintro d D1 L W hd hF ⟨hO9, hU⟩ hD1 hKd
    rw [show L.map (fun x => x.1.1) = alL (zr n) by rw [← hlen.out]; exact hF] at hO9
    have hcF := (hU.boxed bF (fun e => by have := hlt1 w1.heap.size (by rw [e]; rfl); omega)).cell
    gi_wp2
    refine leaves_marks [d] _ ⟨by simp, fun b hb => ?_⟩ (fun W' hu' => ?_)
    · rw [List.mem_singleton.1 hb]
      exact hKd
    · have hud : Upd (fun k => k = d) W W' := hu'.mono fun k _ e => by simpa using e
      have hO10 := ownQ_keep hO9 hud (fun k hk e => by have := hlt1 k hk; omega)
      obtain ⟨A3, c3, e3, hC3⟩ := rowC_of_own hO10
      cases e3
      exact ⟨.slice A1 n c1, by simp [results, Try.f56, go_sem], A1, c1, rfl, hC3.ints (Nat.le_refl _),
        ((((Below.toUpd hB0).trans' hU (fun i hi e => by have := hge i (by rw [e]; rfl); omega)).trans' hud (fun i hi e => by omega)).toBelow (B := w.heap.size) (fun k e => e) (Nat.le_refl _))⟩
  case stop =>
    rintro d D1 co pre W hd hpre h
    exact h.elim

set_option maxHeartbeats 1000000 in
theorem CanonOf_any (A : Option Addr) (n c : Nat) (zs : List Int) (w : World) (h : Ints w w.heap.size A n zs) (hbig : n ≤ 1152921504606846976) :
    Calls Try.prog 23 #[.slice A n c] w (GivesRow w (canR zs)) := by
  have hlen := Lib.hid h.len
  go_enter Try.func23, Try.ntmps23
  go_wp2_with fail
  refine (readTried_any _ _ _ zs _ h hbig).mono ?_
  rintro e w1 ⟨hB, (⟨hv, b, rfl, hb, hAr⟩ | ⟨hv, rfl⟩)⟩
  · obtain ⟨hvo, h5⟩ := triB_vo hv
    rw [hlen.out] at h5
    have Ht := Lib.hid (show canR zs = canT zs (alL (zr n)) by unfold canR; rw [hv, hlen.out]; rfl)
    clear hv
    go_wp2_with fail
    refine (canon_any b n n zs hvo hlen.out w1 hAr).mono ?_
    rintro e w2 ⟨A2, c2, rfl, hI2, hB2⟩
    have z2 := hB2.size
    have C2 := hB.trans (hB2.mono hB.size)
    go_wp2_with fail
    refine (list_any _ _ _ _ _ hI2 (by omega)).mono ?_
    rintro e w3 ⟨rfl, hA3, hB3⟩
    go_wp2_with fail
    go_ret
    exact ⟨_, n, n, rfl, by rw [Ht.out]; exact Row.of hA3 (by rw [canT_len, hlen.out]) C2.size hA3.lt, C2.trans (hB3.mono C2.size)⟩
  · have Ht := Lib.hid (show canR zs = [] by unfold canR; rw [hv]; rfl)
    clear hv
    go_wp2_with fail
    go_ret
    exact ⟨none, 0, 0, rfl, by rw [Ht.out]; exact Row.nil _ _ _ _, hB⟩
end Go.Proofs.Ytghogabmkbadjaa

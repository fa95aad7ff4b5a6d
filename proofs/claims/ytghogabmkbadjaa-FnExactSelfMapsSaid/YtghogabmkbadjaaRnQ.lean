/- SelfMaps: the program's, whole. -/
import Derived.Test.YtghogabmkbadjaaRnP
set_option linter.unusedVariables false
set_option linter.unusedSimpArgs false
namespace Go.Proofs.Ytghogabmkbadjaa
open Go.RowKit Go.Shelf
attribute [local go_sem] Oper.semAt_some
attribute [local go_sem, local simp] wide_fn

/-- A round that goes on, and keeps nothing. -/
theorem keep_end {α : Type} {own lent : α → Nat → Prop} {Lent : α → World → Prop} {M : Nat → Prop} {J : List α → (Nat → Prop) → World → Prop} {Jx : Code → List α → (Nat → Prop) → World → Prop} {x : α} {xs : List α} {D : Nat → Prop} {z : Nat} {Wb W' : World} {a : Act}
    (hj : J xs D W') (hle : Lent x W') (hLe : ∀ k, lent x k → ¬ D k) (hu : Upd (fun k => M k ∨ (D k ∨ own x k ∨ lent x k) ∨ z ≤ k) Wb W') :
    roundEnd M (fun xs D' W' => keepH lent Lent J x xs D' W') Jx xs (fun k => D k ∨ own x k ∨ lent x k) z Wb .normal a W' :=
  ⟨fun k => D k ∨ lent x k, ⟨D, fun _ => Iff.rfl, hLe, hj, hle⟩, hu, fun _ e => .inl (e.elim .inl (fun e => .inr (.inr e)))⟩
def selfN (zs : List Int) (ls : List (List Int)) : Nat := (ls.filter fun t => decide (rnL zs t = zs)).length
theorem selfN_snoc (zs : List Int) (ls : List (List Int)) (t : List Int) : selfN zs (ls ++ [t]) = selfN zs ls + (if rnL zs t = zs then 1 else 0) := by
  unfold selfN
  rw [List.filter_append, List.length_append, List.filter_cons]
  by_cases e : rnL zs t = zs <;> simp [e]

set_option maxRecDepth 100000 in
set_option maxHeartbeats 4000000 in
theorem selfMaps_any (b n c : Nat) (zs : List Int) (hvo : VoP zs) (hlen0 : zs.length = n) (w : World) (hA : Arr w b 59 zs) :
    Calls Try.prog 57 #[.slice (some ⟨b, 0, none⟩) n c] w fun e w' => e = .returned (.int .i64 (selfN zs (alL (zr n)) : Nat)) ∧ Below w.heap.size w w' := by
  have hlen := Lib.hid hlen0
  have hn6 : n ≤ 6 := by have := hvo.1; rw [hlen.out] at this; exact this
  clear hlen0
  refine (callsIn_wide (n := 9)).1 ?_
  refine callsIn_of_wp_marks Try.func57 rfl trivial ?_ rfl
  simp only [Try.ntmps57, List.size_toArray, List.length_cons, List.length_nil, Nat.reduceAdd, Nat.reduceSub, Array.replicate_succ, Array.replicate_zero, List.push_toArray, List.append_toArray, List.nil_append, List.cons_append]
  gi_wp2_with (gi_at_call 79; refine (callsIn_wide.2 (renumberings_any _ _ _ _)).mono ?_; rintro e w' ⟨rfl, rfl⟩)
  have bO := ((Boxed.new w 44 (.slice (some ⟨b, 0, none⟩) n c)).alloc (.cells #[Value.int .i64 0] 3)).alloc (.cells #[Value.slice (some ⟨b, 0, none⟩) n c] 44)
  have bW := (Boxed.new (w.alloc (.cells #[Value.slice (some ⟨b, 0, none⟩) n c] 44)) 3 (.int .i64 0)).alloc (.cells #[Value.slice (some ⟨b, 0, none⟩) n c] 44)
  have bP := Boxed.new ((w.alloc (.cells #[Value.slice (some ⟨b, 0, none⟩) n c] 44)).alloc (.cells #[Value.int .i64 0] 3)) 44 (.slice (some ⟨b, 0, none⟩) n c)
  have hu0 : Upd (fun _ => False) w (((w.alloc (.cells #[Value.slice (some ⟨b, 0, none⟩) n c] 44)).alloc (.cells #[Value.int .i64 0] 3)).alloc (.cells #[Value.slice (some ⟨b, 0, none⟩) n c] 44)) := (((Upd.refl _ w).alloc _).alloc _).alloc _
  have hz0' : (((w.alloc (.cells #[Value.slice (some ⟨b, 0, none⟩) n c] 44)).alloc (.cells #[Value.int .i64 0] 3)).alloc (.cells #[Value.slice (some ⟨b, 0, none⟩) n c] 44)).heap.size = w.heap.size + 3 := by simp
  simp only [World.size_alloc] at bO bW bP
  obtain ⟨W0, hW0⟩ : ∃ W0, (((w.alloc (.cells #[Value.slice (some ⟨b, 0, none⟩) n c] 44)).alloc (.cells #[Value.int .i64 0] 3)).alloc (.cells #[Value.slice (some ⟨b, 0, none⟩) n c] 44)) = W0 := ⟨_, rfl⟩
  rw [hW0] at bO bW bP hu0 hz0' ⊢
  clear hW0
  have hA0 := hA.upd hu0 (fun e => e)
  have hbl := hA.lt
  refine range_outH (n := 9) (gf := 94) (lb := #[.pointer (some ⟨w.heap.size + 1 + 1, 0, none⟩)]) rfl (enters_of Try.func94 (by kernel_rfl) rfl) (encs := rnEnc n) (own := rnOwn) (lent := rnLent) (Has := rnHas) (Lent := rnLies zs) rn_firm (rnLent_firm zs) (Ok := rnUp zs) (Full := rnFull zs)
    (fun k => k = w.heap.size + 1) (fun k e => by omega) (fun _ => rfl)
    (fun W1 l1 hu1 hl1 hl2 => renumberings_iter zs hvo b n c hlen.out _ _ W1 (hu1.boxed bP (fun e => e)) (hA0.upd hu1 (fun e => e)) (fun e => by omega) (fun e => by omega) (fun k e => by have := hu1.size; omega))
    (fun (pre : List Rn) D W => Boxed W (w.heap.size + 1) 3 (.int .i64 (selfN zs (pre.map fun x : Rn => x.1.1) : Nat)) ∧ Upd (fun k => k = w.heap.size + 1) W0 W)
    (fun _ _ _ _ => False)
    (fun _ D X Y hs hu => ⟨hu.boxed hs.1 (fun e => by omega), hs.2.trans' hu (fun i hi e => by omega)⟩)
    (fun _ _ _ _ _ hs _ => hs)
    ⟨bW, Upd.refl _ _⟩ ?owes ?done ?stop
  case owes =>
    rintro l1 pre x D1 W hl1 hl2 hDl hOl hLl hD1 hO1 hLe1 - - - hpre K hK
    have hnb : selfN zs (pre.map fun x => x.1.1) ≤ 46656 := by
      have h1 : selfN zs (pre.map fun x => x.1.1) ≤ (pre.map fun x => x.1.1).length := List.length_filter_le _ _
      have h2 := (show (pre ++ [x]).map (fun x => x.1.1) <+: alL (zr zs.length) from hpre).length_le
      have h3 := alL_count (zs := zr n) (by rw [zr_len]; exact hn6)
      rw [hlen.out] at h2
      simp at h1 h2
      omega
    have Hs := Lib.hid (show selfN zs ((pre ++ [x]).map fun x => x.1.1) = selfN zs (pre.map fun x => x.1.1) + (if rnL zs x.1.1 = zs then 1 else 0) by rw [List.map_append]; exact selfN_snoc _ _ _)
    have hxW : w.heap.size + 2 < x.2 ∧ x.2 < W.heap.size := by have := hLe1 x.2 rfl; omega
    clear hpre
    gi_wp2
    refine hK _ _ (Upd.refl _ _) ?_
    rintro Wb hWb - ⟨bW1, hU⟩ - hle
    clear hK
    have hsb := hU.size
    have hszb := hWb.size
    have hcO := (hU.boxed bO (by omega)).cell
    have hcW := bW1.cell
    have hfW := bW1.frozen
    have hAb := hA0.upd hU (by omega)
    have hLx : Arr Wb x.2 59 (rnL zs x.1.1) := hle
    have hIx := hLx.ints' (B := Wb.heap.size) hLx.lt (show (rnL zs x.1.1).length = n by rw [rnL_len, hlen.out])
    have hIz := hAb.ints' (B := Wb.heap.size) hAb.lt hlen.out
    generalize selfN zs (pre.map fun x => x.1.1) = q at *
    cases he : decide (rnL zs x.1.1 = zs)
    · have hne : ¬ rnL zs x.1.1 = zs := of_decide_eq_false he
      rw [if_neg hne] at Hs
      clear hne
      gi_wp2_with fail
      refine (CallsIn.inRound l1 (callsIn_wide.2 (ordEq_any _ _ n n n c _ _ (rnL zs x.1.1) zs Wb hIx hIz (by omega) (by omega)))).mono ?_
      rw [he]
      rintro e w2 ⟨rfl, m, rfl⟩
      gi_wp2
      have hum : Upd (fun _ => False) Wb (Wb.drewN m) := (Upd.refl _ _).drewN m
      exact keep_end ⟨by rw [Hs.out]; exact hum.boxed bW1 (fun e => e), hU.trans' hum (fun i hi e => e.elim)⟩ (hLx.upd hum (fun e => e)) (fun k e => (hLe1 k e).2.2) (hum.mono fun _ _ e => e.elim)
    · have hne : rnL zs x.1.1 = zs := of_decide_eq_true he
      rw [if_pos hne] at Hs
      clear hne
      gi_wp2_with fail
      refine (CallsIn.inRound l1 (callsIn_wide.2 (ordEq_any _ _ n n n c _ _ (rnL zs x.1.1) zs Wb hIx hIz (by omega) (by omega)))).mono ?_
      rw [he]
      rintro e w2 ⟨rfl, m, rfl⟩
      gi_wp2
      have hum : Upd (fun k => k = w.heap.size + 1) Wb ((Wb.drewN m).setCell ⟨w.heap.size + 1, 0, none⟩ (.int .i64 ((q : Int) + 1))) := ((Upd.refl (fun k => k = w.heap.size + 1) Wb).drewN m).setCell (p := ⟨w.heap.size + 1, 0, none⟩) (.inr rfl) _
      exact keep_end ⟨by rw [Hs.out]; exact (((Upd.refl (fun _ => False) Wb).drewN m).boxed bW1 (fun e => e)).set _, hU.trans' hum (fun i hi e => e)⟩ (hLx.upd hum (by omega)) (fun k e => (hLe1 k e).2.2) (hum.mono fun _ _ e => .inl e)
  case done =>
    rintro d D1 L W hd hF ⟨bW1, hU⟩ hD1 hKd
    rw [show L.map (fun x => x.1.1) = alL (zr n) by rw [← hlen.out]; exact hF] at bW1
    have hcW := bW1.cell
    gi_wp2
    refine leaves_marks [d] _ ⟨by simp, fun b hb => ?_⟩ (fun W' hu' => ?_)
    · rw [List.mem_singleton.1 hb]
      exact hKd
    · exact ⟨_, by simp [results, Try.f57, go_sem], rfl,
        (((hu0.mono fun _ _ e => e.elim).trans' hU (fun i hi e => by omega)).trans' hu' (fun i hi e => by simp at e; omega)).toBelow (R := fun _ => False) (fun _ e => e.elim) (Nat.le_refl _)⟩
  case stop =>
    rintro d D1 co pre W hd hpre h
    exact h.elim

set_option maxHeartbeats 1000000 in
theorem SelfMaps_any (A : Option Addr) (n c : Nat) (zs : List Int) (w : World) (h : Ints w w.heap.size A n zs) (hbig : n ≤ 1152921504606846976) :
    Calls Try.prog 25 #[.slice A n c] w fun e w' => e = .returned (.int .i64 (selfR zs)) ∧ Below w.heap.size w w' := by
  have hlen := Lib.hid h.len
  go_enter Try.func25, Try.ntmps25
  go_wp2_with fail
  refine (readTried_any _ _ _ zs _ h hbig).mono ?_
  rintro e w1 ⟨hB, (⟨hv, b, rfl, hb, hAr⟩ | ⟨hv, rfl⟩)⟩
  · have hvo := (triB_vo hv).1
    have Ht := Lib.hid (show selfR zs = (selfN zs (alL (zr n)) : Nat) by unfold selfR selfN; rw [hv, hlen.out]; rfl)
    clear hv
    go_wp2_with fail
    refine (selfMaps_any b n n zs hvo hlen.out w1 hAr).mono ?_
    rintro e w2 ⟨rfl, hB2⟩
    go_wp2_with fail
    go_ret
    exact ⟨ret_int Ht.out.symm, hB.trans (hB2.mono hB.size)⟩
  · have Ht := Lib.hid (show selfR zs = -1 by unfold selfR; rw [hv]; rfl)
    clear hv
    go_wp2_with fail
    go_ret
    exact ⟨ret_int Ht.out.symm, hB⟩
end Go.Proofs.Ytghogabmkbadjaa

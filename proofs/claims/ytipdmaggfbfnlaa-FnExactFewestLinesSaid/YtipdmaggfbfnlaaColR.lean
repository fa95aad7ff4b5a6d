/- slices.AppendSeq and Collect over an iterator of lines. -/
import Derived.Test.YtipdmaggfbfnlaaLnR
import Derived.Test.YtipdmaggfbfnlaaTlK
set_option linter.unusedVariables false
set_option linter.unusedSimpArgs false
namespace Go.Proofs.Ytipdmaggfbfnlaa
open Go.RowKit Go.Shelf
attribute [local go_sem] Oper.semAt_some
attribute [local go_sem, local simp] wide_fn

set_option maxRecDepth 100000 in
set_option maxHeartbeats 4000000 in
theorem appendSeqR_any {gf : Nat} (lb : Array Value) (Ok Full : List Ln → Prop) (hL : ∀ xs, Ok xs → xs.length ≤ 100000) (w : World)
    (eg : ∀ args w, (callFunc gf args).run Try.prog w = .ok (.enter gf args) w)
    (hI : ∀ (W1 : World) (M' : Nat → Prop), Upd (fun _ => False) w W1 → (∀ k, M' k → w.heap.size ≤ k ∧ k < W1.heap.size) → IterG Try.prog gf lb lnEnc lnOwn lnHas Ok Full M' W1) :
    Calls Try.prog 116 #[.slice none 0 0, .func (.func gf) #[] lb] w fun e W' => ∃ v L, e = .returned v ∧ Full L ∧ LnRows (fun k => w.heap.size ≤ k) W' v L ∧ Below w.heap.size w W' := by
  refine (callsIn_wide (n := 9)).1 ?_
  refine callsIn_of_wp_marks Try.func116 rfl trivial ?_ rfl
  simp only [Try.ntmps116, List.size_toArray, List.length_cons, List.length_nil, Nat.reduceAdd, Nat.reduceSub, Array.replicate_succ, Array.replicate_zero, List.push_toArray, List.append_toArray, List.nil_append, List.cons_append]
  obtain ⟨i0, hi0, hz0, hz1, hz2⟩ := info_parts infoRow
  have bV := Boxed.new w 30 (.slice none 0 0)
  have hu0 : Upd (fun _ => False) w (w.alloc (.cells #[Value.slice none 0 0] 30)) := (Upd.refl _ w).alloc _
  have hzz : (w.alloc (.cells #[Value.slice none 0 0] 30)).heap.size = w.heap.size + 1 := by simp
  gi_wp2_with fail
  obtain ⟨W0, hW0⟩ : ∃ W0, (w.alloc (.cells #[Value.slice none 0 0] 30)) = W0 := ⟨_, rfl⟩
  rw [hW0] at bV hu0 hzz ⊢
  clear hW0
  refine range_outG (n := 9) (gf := gf) (lb := lb) rfl eg (encs := lnEnc) (own := lnOwn) (Has := lnHas) ln_firm (Ok := Ok) (Full := Full)
    (fun k => k = w.heap.size) (fun k e => by omega) (fun _ => rfl)
    (fun W1 l1 hu1 hl1 hl2 => hI W1 _ (hu0.trans' hu1 (fun i hi e => e)) (fun k e => by have := hu1.size; omega))
    (fun pre D W => ∃ v, Boxed W w.heap.size 30 v ∧ LnRows D W v pre ∧ Upd (fun k => k = w.heap.size) W0 W)
    (fun _ _ _ _ => False)
    (fun _ D X Y hs hu => by
      obtain ⟨v, h1, h2, h3⟩ := hs
      exact ⟨v, hu.boxed h1 (fun e => by omega), h2.keep hu (fun k hk e => e.2 hk), h3.trans' hu (fun i hi e => by omega)⟩)
    (fun _ _ _ _ _ hs _ => hs)
    ⟨_, bV, LnRows.nil _ _, Upd.refl _ _⟩ ?owes ?done ?stop
  case owes =>
    rintro l1 pre x D1 W hl1 hl2 hDl hOl hD1 hO1 - - hpre K hK
    gi_wp2
    refine hK _ _ (Upd.refl _ _) ?_
    rintro Wb hWb - ⟨v, bV2, hO2, hU2⟩ hx2
    clear hK
    have hsb := hU2.size
    have hszb := hWb.size
    have hpl := hL _ hpre
    rw [List.length_append, List.length_singleton] at hpl
    have hV2 : Upd (fun k => k = w.heap.size ∨ (D1 k ∨ lnOwn x k) ∨ W.heap.size ≤ k) Wb Wb := Upd.refl _ _
    have hcV := bV2.cell
    have hfV := bV2.frozen
    have hvb : some w.heap.size ≠ v.ownBlock := by
      intro e
      have := hD1 _ (hO2.inS.1 _ e.symm); omega
    obtain ⟨A2, c2, hx3, -⟩ := lnHas_slice hx2
    have HO := Lib.hid hO2
    have Hx2 := Lib.hid hx2
    clear hx2
    gi_wp2_with (gi_at_builtin; go_loud (refine wpListIn_append1 _ rfl (.tmp 8) (.tmp 10) _ rfl 0 22 i0 _ 24 Try.underlying30 hi0 hz0 hz1 hz2 rfl _ pre.length _ rfl (HO.out.own.alloc _) Wb.heap.size 1 (.slice A2 x.1.length c2) rfl (cell_new _ _ _) rfl (by omega) (by omega) (by simp) ?_); rintro v' w' hown' hg' hv'; obtain ⟨g', cap', rfl⟩ := ownsRow_succ hown'; have bV3 := (bV2.alloc _).kept hg' hvb; have hcV3 := bV3.cell; have hfV3 := bV3.frozen)
    rename_i w'
    have zg := hg'.size
    simp at zg
    have hst := HO.out.step (S' := fun k => D1 k ∨ lnOwn x k ∨ W.heap.size ≤ k ∧ k < w'.heap.size) Hx2.out (fun k hk => (hO1 k hk).2.2) (by rw [hx3]; exact hown') hg' hv' (fun k e => .inl e) (fun k e => .inr (.inl e)) (fun h9 => .inr (.inr ⟨by omega, h9⟩))
    have hgU : Upd (fun k => k = w.heap.size) W0 w' := (hU2.alloc _).grown hg' (fun k hk => .inl (by have := hD1 _ (HO.out.inS.1 k hk); omega))
    have hbU : Upd (fun k => k = w.heap.size ∨ (D1 k ∨ lnOwn x k) ∨ W.heap.size ≤ k) Wb w' := (hV2.alloc _).grown hg' (fun k hk => .inr (.inr (.inl (.inl (HO.out.inS.1 k hk)))))
    have hus : Upd (fun k => k = w.heap.size) w' (w'.setCell ⟨w.heap.size, 0, none⟩ (.slice (some ⟨g', 0, none⟩) (pre.length + 1) cap')) := (Upd.refl (fun k => k = w.heap.size) w').setCell (p := ⟨w.heap.size, 0, none⟩) (.inr rfl) _
    exact ⟨fun k => D1 k ∨ lnOwn x k ∨ W.heap.size ≤ k ∧ k < w'.heap.size, ⟨_, bV3.set _, hst.keep hus (fun k hk e => by
        rcases hk with h9 | h9 | h9
        · have := hD1 _ h9; omega
        · have := hO1 _ h9; omega
        · omega), hgU.setCell (p := ⟨w.heap.size, 0, none⟩) (.inr rfl) _⟩,
      hbU.setCell (p := ⟨w.heap.size, 0, none⟩) (.inr (.inl rfl)) _, fun k hk => by
        rcases hk with h | h | h
        · exact .inl (.inl h)
        · exact .inl (.inr h)
        · exact .inr ⟨h.1, by simpa [World.setCell] using h.2⟩⟩
  case done =>
    rintro d D1 L W hd hF ⟨v, bV1, hO, hU⟩ hD1 hKd
    have hcV := bV1.cell
    gi_wp2
    refine leaves_marks [d] _ ⟨by simp, fun b hb => ?_⟩ (fun W' hu' => ?_)
    · rw [List.mem_singleton.1 hb]
      exact hKd
    · have hO' := hO.keep hu' (fun k hk e => by simp at e; have := hD1 k hk; omega)
      exact ⟨_, by simp [results, Try.f116, go_sem], v, L, rfl, hF, hO'.more (fun k hk => by have := hD1 k hk; omega),
        (((hu0.mono fun _ _ e => e.elim).trans' hU (fun i hi e => by omega)).trans' hu' (fun i hi e => by simp at e; omega)).toBelow (R := fun _ => False) (fun _ e => e.elim) (Nat.le_refl _)⟩
  case stop =>
    rintro d D1 co pre W hd hpre h
    exact h.elim

theorem collectR_any {gf : Nat} (lb : Array Value) (Ok Full : List Ln → Prop) (hL : ∀ xs, Ok xs → xs.length ≤ 100000) (w : World)
    (eg : ∀ args w, (callFunc gf args).run Try.prog w = .ok (.enter gf args) w)
    (hI : ∀ (W1 : World) (M' : Nat → Prop), Upd (fun _ => False) w W1 → (∀ k, M' k → w.heap.size ≤ k ∧ k < W1.heap.size) → IterG Try.prog gf lb lnEnc lnOwn lnHas Ok Full M' W1) :
    Calls Try.prog 76 #[.func (.func gf) #[] lb] w fun e W' => ∃ v L, e = .returned v ∧ Full L ∧ LnRows (fun k => w.heap.size ≤ k) W' v L ∧ Below w.heap.size w W' := by
  go_enter Try.func76, Try.ntmps76
  go_wp2_with fail
  refine (appendSeqR_any lb Ok Full hL w eg hI).mono ?_
  rintro e w' ⟨v, L, rfl, hF, hO, hB⟩
  go_wp2
  go_ret
  exact ⟨v, L, rfl, hF, hO, hB⟩

/-- How many lines there are at most. -/
theorem alG_count (zs : List Int) : ∀ (k : Nat) (so : List Int) (s : Int), zs.length ≤ 6 → (alG zs k so s).length ≤ 6 ^ k
  | 0, so, s, _ => by simp [alG]
  | k + 1, so, s, h => by
    rw [← alX_all]
    unfold alX
    have h1 : (nxA zs s).length ≤ 6 := by
      unfold nxA
      have := List.length_filter_le (fun a : Nat => stA2 zs s a) (List.range zs.length)
      rw [List.length_range] at this
      omega
    have h2 : ∀ l : List Nat, (l.flatMap fun a : Nat => alG zs k (so ++ [(a : Int)]) (orI s (powI a))).length ≤ l.length * 6 ^ k := fun l => by
      induction l with
      | nil => simp
      | cons a l ih =>
        have := alG_count zs k (so ++ [(a : Int)]) (orI s (powI a)) h
        rw [List.flatMap_cons, List.length_append, List.length_cons, Nat.add_mul]
        omega
    refine Nat.le_trans (h2 _) ?_
    rw [Nat.pow_succ, Nat.mul_comm]
    exact Nat.mul_le_mul_left _ h1
theorem alL_count {zs : List Int} (h : zs.length ≤ 6) : (alL zs).length ≤ 46656 := by
  have h1 := alG_count zs zs.length [] 0 h
  have h2 : 6 ^ zs.length ≤ 6 ^ 6 := Nat.pow_le_pow_right (by omega) h
  unfold alL
  exact Nat.le_trans h1 h2
theorem tot_const {m : Nat} : ∀ rs : List (List Int), (∀ r ∈ rs, r.length = m) → tot rs = rs.length * m
  | [], _ => by simp [tot]
  | r :: rs, h => by
    have := tot_const rs fun r hr => h r (List.mem_cons_of_mem _ hr)
    rw [tot, this, h r List.mem_cons_self, List.length_cons, Nat.add_mul]
    omega
theorem alL_rows {zs : List Int} : ∀ r ∈ alL zs, r.length = zs.length := fun r hr => by
  have := alG_len zs _ _ _ r hr
  simpa using this
theorem alL_tot {zs : List Int} (h : zs.length ≤ 6) : tot (alL zs) ≤ 1048576 := by
  rw [tot_const _ alL_rows]
  have := Nat.mul_le_mul (alL_count h) h
  omega

/-- All lines of an order of few items; no lines of others. -/
def linesOfR (zs : List Int) : List (List Int) := if vo zs && decide (zs.length ≤ 5) then alL zs else []
set_option maxHeartbeats 1000000 in
theorem LinesOf_any (A : Option Addr) (n c : Nat) (zs : List Int) (w : World) (h : Ints w w.heap.size A n zs) (hbig : n ≤ 1152921504606846976) :
    Calls Try.prog 24 #[.slice A n c] w fun e W' => ∃ v L, e = .returned v ∧ L.map Prod.fst = linesOfR zs ∧ LnRows (fun k => w.heap.size ≤ k) W' v L ∧ Below w.heap.size w W' := by
  have hlen := Lib.hid h.len
  cases hv : vo zs
  · have Ht := Lib.hid (show linesOfR zs = [] by unfold linesOfR; rw [hv]; rfl)
    have Hv := Lib.hid hv
    clear hv
    go_enter Try.func24, Try.ntmps24
    go_wp2_with fail
    refine (readOrder_any _ _ _ zs _ h hbig).mono ?_
    rintro e w' ⟨hB, (⟨hv, b, rfl, _, _⟩ | ⟨_, rfl⟩)⟩
    · rw [Hv.out] at hv; cases hv
    · go_wp2_with fail
      go_ret
      exact ⟨_, [], rfl, Ht.out.symm, LnRows.nil _ _, hB⟩
  · have hvo : VoP zs := by simpa [vo] using hv
    have Hv := Lib.hid hv
    clear hv
    have hn6 : n ≤ 6 := by have := hvo.1; rw [hlen.out] at this; exact this
    by_cases hn5 : n ≤ 5
    · have Ht := Lib.hid (show linesOfR zs = alL zs by unfold linesOfR; rw [Hv.out, hlen.out]; simp [hn5])
      go_enter Try.func24, Try.ntmps24
      go_wp2_with fail
      refine (readOrder_any _ _ _ zs _ h hbig).mono ?_
      rintro e w1 ⟨hB, (⟨_, b, rfl, hb, hAr⟩ | ⟨hv, _⟩)⟩
      · have z1 := hB.size
        go_wp2_with fail
        refine (lines_any b n n w1).mono ?_
        rintro e w2 ⟨rfl, rfl⟩
        have bO := Boxed.new w1 43 (.slice (some ⟨b, 0, none⟩) n n)
        have hu2 : Upd (fun _ => False) w1 (w1.alloc (.cells #[.slice (some ⟨b, 0, none⟩) n n] 43)) := (Upd.refl _ w1).alloc _
        obtain ⟨w2, hw2⟩ : ∃ w2, w1.alloc (.cells #[.slice (some ⟨b, 0, none⟩) n n] 43) = w2 := ⟨_, rfl⟩
        rw [hw2] at bO hu2 ⊢
        clear hw2
        have z2 := hu2.size
        go_wp2_with fail
        refine (collectR_any #[.pointer (some ⟨w1.heap.size, 0, none⟩)] (lnUp zs) (lnFull zs) (fun xs hx => by
            have h1 := hx.length_le
            have h2 := alL_count (zs := zs) (by rw [hlen.out]; exact hn6)
            rw [List.length_map] at h1
            omega) w2 (enters_of Try.func117 (by kernel_rfl) rfl)
          (fun W1 M' hu hM => lines_iter zs hvo b n n hlen.out w1.heap.size M' W1 (hu.boxed bO (fun e => e)) ((hAr.upd hu2 (fun e => e)).upd hu (fun e => e)) (fun k hk => (hM k hk).2))).mono ?_
        rintro e w3 ⟨v, L, rfl, hF, hR, hB3⟩
        go_wp2_with fail
        go_ret
        exact ⟨v, L, rfl, by rw [Ht.out]; exact hF, hR.more (fun k hk => by omega), (hB.trans (hu2.toBelow (B := w.heap.size) (fun _ e => e.elim) z1)).trans (hB3.mono (by omega))⟩
      · rw [Hv.out] at hv; cases hv
    · have Ht := Lib.hid (show linesOfR zs = [] by unfold linesOfR; rw [Hv.out, hlen.out]; simp [hn5])
      go_enter Try.func24, Try.ntmps24
      go_wp2_with fail
      refine (readOrder_any _ _ _ zs _ h hbig).mono ?_
      rintro e w1 ⟨hB, (⟨_, b, rfl, hb, hAr⟩ | ⟨hv, _⟩)⟩
      · go_wp2_with fail
        go_ret
        exact ⟨_, [], rfl, Ht.out.symm, LnRows.nil _ _, hB⟩
      · rw [Hv.out] at hv; cases hv
end Go.Proofs.Ytipdmaggfbfnlaa

/- FewestLines: the program's, whole. -/
import Derived.Test.YtghogabmkbadjabOrR
import Derived.Test.YtghogabmkbadjabGxn
import Derived.Test.YtghogabmkbadjabGxi
import Derived.Test.YtghogabmkbadjabGxl
import Derived.Test.YtghogabmkbadjabGxm
import Derived.Test.YtghogabmkbadjabGxb
import Derived.Test.YtghogabmkbadjabGxf
set_option linter.unusedVariables false
set_option linter.unusedSimpArgs false
namespace Go.Proofs.Ytghogabmkbadjab
open Go.RowKit Go.Shelf
attribute [local go_sem] Oper.semAt_some
attribute [local go_sem, local simp] wide_fn

set_option maxRecDepth 100000 in
set_option maxHeartbeats 16000000 in
theorem ofewest_any (b n c : Nat) (zs : List Int) (hvo : VoP zs) (hlen0 : zs.length = n) (w : World) (hA : Arr w b 76 zs) :
    Calls Try.prog 70 #[.slice (some ⟨b, 0, none⟩) n c] w fun e w' => e = .returned (.int .i64 (fwN zs)) ∧ Below w.heap.size w w' := by
  have hlen := Lib.hid hlen0
  have hn6 : n ≤ 6 := by have := hvo.1; rw [hlen.out] at this; exact this
  have Hcnt := Lib.hid (alL_count (zs := zs) (by rw [hlen.out]; exact hn6))
  clear hlen0
  obtain ⟨i0, hi0, hz0, hz1, hz2⟩ := info_parts infoOrder
  refine (callsIn_wide (n := 9)).1 ?_
  refine callsIn_of_wp_marks Try.func70 rfl trivial ?_ rfl
  simp only [Try.ntmps70, List.size_toArray, List.length_cons, List.length_nil, Nat.reduceAdd, Nat.reduceSub, Array.replicate_succ, Array.replicate_zero, List.push_toArray, List.append_toArray, List.nil_append, List.cons_append]
  gi_wp2_with (gi_at_call 102; refine (callsIn_wide.2 (lines_any _ _ _ _)).mono ?_; rintro e w' ⟨rfl, rfl⟩)
  have bW := (Boxed.new w 67 (.slice none 0 0)).alloc (.cells #[Value.slice (some ⟨b, 0, none⟩) n c] 49)
  have bP := Boxed.new (w.alloc (.cells #[Value.slice none 0 0] 67)) 49 (.slice (some ⟨b, 0, none⟩) n c)
  have hu0 : Upd (fun _ => False) w ((w.alloc (.cells #[Value.slice none 0 0] 67)).alloc (.cells #[Value.slice (some ⟨b, 0, none⟩) n c] 49)) := ((Upd.refl _ w).alloc _).alloc _
  have hz0' : ((w.alloc (.cells #[Value.slice none 0 0] 67)).alloc (.cells #[Value.slice (some ⟨b, 0, none⟩) n c] 49)).heap.size = w.heap.size + 2 := by simp
  simp only [World.size_alloc] at bW bP
  obtain ⟨W0, hW0⟩ : ∃ W0, ((w.alloc (.cells #[Value.slice none 0 0] 67)).alloc (.cells #[Value.slice (some ⟨b, 0, none⟩) n c] 49)) = W0 := ⟨_, rfl⟩
  rw [hW0] at bW bP hu0 hz0' ⊢
  clear hW0
  have hA0 := hA.upd hu0 (fun e => e)
  have hbl := hA.lt
  refine range_outG (n := 9) (gf := 141) (lb := #[.pointer (some ⟨w.heap.size + 1, 0, none⟩)]) rfl (enters_of Try.func141 (by kernel_rfl) rfl) (encs := lnEnc) (own := lnOwn) (Has := lnHas) ln_firm (Ok := lnUp zs) (Full := lnFull zs)
    (fun k => k = w.heap.size) (fun k e => by omega) (fun _ => rfl)
    (fun W1 l1 hu1 hl1 hl2 => lines_iter zs hvo b n c hlen.out _ _ W1 (hu1.boxed bP (fun e => e)) (hA0.upd hu1 (fun e => e)) (fun k e => by have := hu1.size; omega))
    (fun pre D W => ∃ v, Boxed W w.heap.size 67 v ∧ OrdR n D W v (pre.map Prod.fst) ∧ Upd (fun k => k = w.heap.size) W0 W)
    (fun _ _ _ _ => False)
    (fun _ D X Y hs hu => by
      obtain ⟨v, h1, h2, h3⟩ := hs
      exact ⟨v, hu.boxed h1 (fun e => by omega), h2.keep hu (fun k hk e => e.2 hk), h3.trans' hu (fun i hi e => by omega)⟩)
    (fun _ _ _ _ _ hs _ => hs)
    ⟨_, bW, OrdR.nil _ _ _, Upd.refl _ _⟩ ?owes ?done ?stop
  case owes =>
    rintro l1 pre ⟨ls, v0⟩ D1 W hl1 hl2 hDl hOl hD1 hO1 - hx0 hpre K hK
    obtain ⟨A', c', hv, -⟩ := lnHas_slice hx0
    simp only at hv
    subst hv
    have hlm : ls ∈ alL zs := by
      have h1 : ls ∈ (pre ++ [(ls, Value.slice A' ls.length c')]).map Prod.fst := by simp
      exact (show (pre ++ [(ls, Value.slice A' ls.length c')]).map Prod.fst <+: alL zs from hpre).subset h1
    have hprl : (pre.map Prod.fst).length ≤ 46656 := by
      have h1 := (show (pre ++ [(ls, Value.slice A' ls.length c')]).map Prod.fst <+: alL zs from hpre).length_le
      rw [List.map_append, List.length_append] at h1
      have := Hcnt.out
      omega
    have hll : ls.length = n := by rw [alL_rows ls hlm, hlen.out]
    subst hll
    gi_wp2
    refine hK _ _ (Upd.refl _ _) ?_
    rintro Wb hWb - ⟨v, bW1, ⟨bs, hB⟩, hU⟩ hx2
    clear hK
    obtain ⟨A2, c2, hv2, hI2⟩ := lnHas_slice hx2
    cases hv2
    have hsb := hU.size
    have hszb := hWb.size
    obtain ⟨Av, cv, hvv, -, -⟩ := OrdR.ints ⟨bs, hB⟩
    subst hvv
    have hlb : lineB (zr ls.length) ls = true := line_zr hvo hlen.out ((alL_mem zs ls).1 hlm)
    have hob := own_lt' hB.2.1
    have hD1b : ∀ k, D1 k → k < Wb.heap.size := fun k hk => by have := hD1 k hk; omega
    have hxb : ∀ k, lnOwn (ls, Value.slice A' ls.length c') k → k < Wb.heap.size := fun k hk => by have := hO1 k hk; omega
    have hordl := Lib.hid (orderOfLine_any ls.length A' c' ls)
    generalize hpr : pre.map Prod.fst = pl at *
    have Hpr := Lib.hid hpr
    clear hpr
    have HB := Lib.hid hB
    clear hB
    gi_wp2
    refine region_T_round (S := (fun w' : World => w'.cell? ⟨w.heap.size, 0, none⟩ = some (.slice Av pl.length cv))) 5 (by kernel_rfl) (by kernel_rfl) (by rintro ⟨_, _, h⟩; exact h) ?_
    obtain ⟨Wd, hWd⟩ : ∃ Wd, Wb.drew = Wd := ⟨_, rfl⟩
    have hbd : Upd (fun _ => False) Wb Wd := by rw [← hWd]; exact (Upd.refl _ Wb).drew
    rw [hWd]
    clear hWd
    have hBd := hbd.toBelow (B := Wb.heap.size) (fun _ e => e.elim) (Nat.le_refl _)
    have zd := hBd.size
    have bWd := hbd.boxed bW1 (fun e => e)
    have hId : Ints Wd Wd.heap.size A' ls.length ls := hI2.to hBd (Nat.le_refl _) zd
    have hSd : (fun w' : World => w'.cell? ⟨w.heap.size, 0, none⟩ = some (.slice Av pl.length cv)) Wd := bWd.cell
    refine anyT_take (i := 0) (oi := ?oi0a) (v := .slice Av pl.length cv) ?hi0a (by kernel_rfl) ?hq0a ?hy0a (by assumption) ?rest0a
    case hi0a => (simp only [List.getElem?_toArray, List.getElem?_cons_zero]; first | done | rfl)
    case hq0a => first | exact fun _ _ _ h => h | exact fun _ _ _ h => (by cases h.1)
    case hy0a => (refine Or.inl ⟨by rfl, ?_⟩; intro wz hSw; go_simp; first | done | with_reducible rfl | simp | omega)
    try simp only [Act.put, List.setIfInBounds_toArray, List.set_cons_zero, List.set_cons_succ]
    refine anyT_take (i := 1) (oi := ?oi1a) (v := .slice A' ls.length c') ?hi1a (by kernel_rfl) ?hq1a ?hy1a (by assumption) ?rest1a
    case hi1a => (simp only [List.getElem?_toArray, List.getElem?_cons_succ, List.getElem?_cons_zero]; first | done | rfl)
    case hq1a => first | exact fun _ _ _ h => h | exact fun _ _ _ h => (by cases h.1)
    case hy1a => (refine Or.inl ⟨by rfl, ?_⟩; intro wz hSw; go_simp; first | done | with_reducible rfl | simp | omega)
    try simp only [Act.put, List.setIfInBounds_toArray, List.set_cons_zero, List.set_cons_succ]
    refine anyT_one (i := 2) (by kernel_rfl) rfl (fun K' hK => ?_)
    go_simp
    refine (hordl.out Wd hId hn6 hlb).mono ?_
    rintro e W3 ⟨rfl, hA3, hB3⟩
    have z3 := hB3.size
    have h3l := hA3.lt
    have hu3 : Upd (fun k => Wb.heap.size ≤ k) Wb W3 := (hbd.mono fun _ _ e => e.elim).trans' (Below.toUpd hB3) (fun i hi e => by omega)
    have bW3 := hu3.boxed bW1 (fun e => by omega)
    have hS3 : (fun w' : World => w'.cell? ⟨w.heap.size, 0, none⟩ = some (.slice Av pl.length cv)) W3 := bW3.cell
    have HB3 := Lib.hid (HB.out.keep hu3 (fun k hk e => by have := hD1b k hk; omega))
    refine hK.out _ _ (fun _ => hS3) ?_
    clear hK K'
    try simp only [Act.put, List.setIfInBounds_toArray, List.set_cons_zero, List.set_cons_succ]
    refine anyT_one (i := 3) (by kernel_rfl) rfl (fun K' hK => ?_)
    go_simp
    refine hK.out _ _ (fun _ => (bW3.alloc _).cell) ?_
    clear hK K'
    try simp only [Act.put, List.setIfInBounds_toArray, List.set_cons_zero, List.set_cons_succ]
    refine anyT_one (i := 4) (by kernel_rfl) rfl (fun K' hK => ?_)
    refine step_append1 _ rfl (.tmp 10) (.tmp 13) _ rfl 0 49 i0 _ 24 Try.underlying67 hi0 hz0 hz1 hz2 rfl _ pl.length _ rfl (HB3.out.2.1.alloc _) W3.heap.size 1 (ordV ls.length Wd.heap.size) rfl (cell_new _ _ _) rfl (by omega) (by omega) (by omega) ?_
    rintro v' w' hown' hg' hv'
    obtain ⟨g', cap', rfl⟩ := ownsRow_succ hown'
    have zg := hg'.size
    simp at zg
    have hvb : some w.heap.size ≠ (Value.slice Av pl.length cv).ownBlock := fun e => by
      have := hD1 _ (HB3.out.2.2.2.2 _ e.symm); omega
    have bV3 := (bW3.alloc _).kept hg' hvb
    refine hK.out _ _ (fun _ => bV3.cell) ?_
    clear hK K'
    try simp only [Act.put, List.setIfInBounds_toArray, List.set_cons_zero, List.set_cons_succ]
    have hcV := bV3.cell
    have hfV := bV3.frozen
    refine anyT_one (i := 5) (by kernel_rfl) rfl (fun K' hK => ?_)
    go_simp
    refine hK.out _ _ (fun h => absurd rfl h) ?_
    clear hK K'
    try simp only [Act.put, List.setIfInBounds_toArray, List.set_cons_zero, List.set_cons_succ]
    refine anyT_done (by kernel_rfl) ?_ _
    gi_wp2
    have hst := HB3.out.step (D' := fun k => D1 k ∨ lnOwn (ls, Value.slice A' ls.length c') k ∨ W.heap.size ≤ k ∧ k < w'.heap.size) hA3 (fun e => by have := hD1b _ e; omega) hown' hg' hv' (fun k e => .inl e) (.inr (.inr ⟨by omega, by omega⟩)) (fun h9 => .inr (.inr ⟨by omega, h9⟩))
    have hgU : Upd (fun k => k = w.heap.size) W0 w' := ((hU.trans' hu3 (fun i hi e => by omega)).alloc _).grown hg' (fun k hk => .inl (by have := hD1 _ (HB3.out.2.2.2.2 k hk); omega))
    have hbU : Upd (fun k => k = w.heap.size ∨ (D1 k ∨ lnOwn (ls, Value.slice A' ls.length c') k) ∨ W.heap.size ≤ k) Wb w' := ((hu3.mono (S := fun k => k = w.heap.size ∨ (D1 k ∨ lnOwn (ls, Value.slice A' ls.length c') k) ∨ W.heap.size ≤ k) fun k _ e => .inr (.inr (by omega))).alloc _).grown hg' (fun k hk => .inr (.inr (.inl (.inl (HB3.out.2.2.2.2 k hk)))))
    have hus : Upd (fun k => k = w.heap.size) w' (w'.setCell ⟨w.heap.size, 0, none⟩ (.slice (some ⟨g', 0, none⟩) (pl.length + 1) cap')) := (Upd.refl (fun k => k = w.heap.size) w').setCell (p := ⟨w.heap.size, 0, none⟩) (.inr rfl) _
    exact ⟨fun k => D1 k ∨ lnOwn (ls, Value.slice A' ls.length c') k ∨ W.heap.size ≤ k ∧ k < w'.heap.size, ⟨_, bV3.set _, by
        rw [List.map_append, Hpr.out]
        exact OrdR.keep hst hus (fun k hk e => by
          rcases hk with h9 | h9 | h9
          · have := hD1 _ h9; omega
          · have := hO1 _ h9; omega
          · omega), hgU.setCell (p := ⟨w.heap.size, 0, none⟩) (.inr rfl) _⟩,
      hbU.setCell (p := ⟨w.heap.size, 0, none⟩) (.inr (.inl rfl)) _, fun k hk => by
        rcases hk with h | h | h
        · exact .inl (.inl h)
        · exact .inl (.inr h)
        · exact .inr ⟨h.1, by simpa [World.setCell] using h.2⟩⟩
  case done =>
    rintro d D1 L W hd hF ⟨v, bW1, hO, hU⟩ hD1 hKd
    rw [show L.map Prod.fst = alL zs from hF] at hO
    obtain ⟨A2, c2, rfl, hc2, hI2⟩ := hO.ints
    have hcW := bW1.cell
    have zW := hU.size
    gi_wp2_with (first
      | (gi_at_call 120; refine (callsIn_wide.2 (oall_any _ _ _ _ hn6)).mono ?_; rintro e w' ⟨rfl, rfl⟩)
      | (gi_at_call 122; refine (callsIn_wide.2 (repeatO_any (powI n - 1) _ _ n hn6 _ (cell_new _ _ _) (by simp))).mono ?_; rintro e w5 ⟨rfl, hA5, hB5⟩))
    have hval : 1 ≤ fwN zs ∧ fwN zs ≤ 3 := by unfold fwN; split; exact ⟨by decide, by decide⟩; split; exact ⟨by decide, by decide⟩; exact ⟨by decide, by decide⟩
    have hBa : Below W.heap.size W (W.alloc (.cells #[.int .i64 (powI n - 1)] 76)) := (Below.refl _ _).alloc (Nat.le_refl _) _
    have za := hBa.size
    have hBw := hBa.trans (hB5.mono za)
    have zw5 := hBw.size
    have bW5 := (Below.toUpd hBw).boxed bW1 (fun e => by omega)
    have hAw : Arr w5 b 76 zs := ((hA0.upd hU (fun e => by omega))).upd (Below.toUpd hBw) (fun e => by omega)
    have hI5 := hI2.to hBw (Nat.le_refl _) zw5
    have hE5 : Ints w5 w5.heap.size _ n (evL n) := hA5.ints' hA5.lt (evL_len n)
    have hE6 := hAw.ints' (B := w5.heap.size) hAw.lt hlen.out
    have hsf : ∀ a, a < n → 0 ≤ (evL n)[a]?.getD 0 ∧ (evL n)[a]?.getD 0 < powI n := fun a ha => by
      rw [evL_get ha]
      have := powI_pos (n : Int)
      omega
    have HT := Lib.hid (fun k (h1 : 1 ≤ k) (h3 : k ≤ 3) => (show toldL n zs k (evL n) (alL zs) = decide (fwN zs ≤ k) by rw [← hlen.out]; exact told_fw hvo h1 h3))
    have hml : (alL zs).length ≤ 100000 := by have := Hcnt.out; omega
    have hcm : c2 ≤ maxLen := by
      rcases hO with ⟨bs, hOb⟩
      rcases hOb.2.1.2 with ⟨e, _⟩ | ⟨g, cap, cur, e, _, _, hx1, hx2, hx3, _⟩
      · injection e with _ _ e3; rw [e3]; simp [maxLen]
      · injection e with _ _ e3; rw [e3]; omega
    rw [World.size_alloc] at hE5
    have hUw : Upd (fun k => k = w.heap.size) W0 w5 := hU.below hBw (fun k h1 h2 => by omega)
    have Hrs := Lib.hid (show (alL zs).length = (alL zs).length from rfl)
    have hcall := fun (k : Nat) (hk : k ≤ 3) (wr : World) (hBr : Below w5.heap.size w5 wr) => told_any zs hvo n hlen.out k _ _ A2 c n (alL zs).length c2 (evL n) (alL zs) wr hk (hE6.to hBr (Nat.le_refl _) hBr.size) (hE5.to hBr (Nat.le_refl _) hBr.size) hsf rfl (hI5.to hBr (Nat.le_refl _) hBr.size) hml hc2 hcm
    have Hcall := Lib.hid hcall
    clear hcall hE5 hE6 hI5 hsf hA5 hI2 hO Hrs
    generalize hfw : fwN zs = fw at *
    have Hfw := Lib.hid hfw
    clear hfw
    gi_loopw [21] (fun v wr => ∃ k : Nat, k ≤ 3 ∧ v = .int .i64 k ∧ (k : Int) < fw ∧ Below w5.heap.size w5 wr) (fun v _ => 3 - (intOf v).toNat)
    case atStart => exact ⟨0, by omega, rfl, by omega, Below.refl _ _⟩
    case round =>
      obtain ⟨k, hk, rfl, hkf, hBr⟩ := hrel
      rename World => wr
      by_cases hlt : k < 3
      · have hc := Hcall.out (k + 1) (by omega) wr hBr
        rw [HT.out (k + 1) (by omega) (by omega)] at hc
        have bWr := (Below.toUpd hBr).boxed bW5 (fun e => by omega)
        have hcW := bWr.cell
        by_cases hf : fw ≤ ((k + 1 : Nat) : Int)
        · have hd2 : decide (fw ≤ ((k + 1 : Nat) : Int)) = true := by simpa using hf
          rw [hd2] at hc
          gi_wp2_with (gi_at_call 123; refine (callsIn_wide.2 hc).mono ?_; rintro e w6 ⟨rfl, hB6⟩)
          have hB7 := hBw.trans ((hBr.trans (hB6.mono hBr.size)).mono zw5)
          have hdl : d < W.heap.size := (Array.getElem?_eq_some_iff.1 hKd).1
          have hK7 := ((Below.toUpd hB7).block d hdl (by omega)).trans hKd
          have hU7 : Upd (fun k => k = w.heap.size) W0 w6 := hU.below hB7 (fun k h1 h2 => by omega)
          refine leaves_marks [d] _ ⟨by simp, fun b hb => ?_⟩ (fun W' hu' => ?_)
          · rw [List.mem_singleton.1 hb]
            exact hK7
          · exact ⟨.int .i64 ((k : Int) + 1), by simp [results, Try.f70, go_sem], by rw [Hfw.out, show fw = (k : Int) + 1 by omega],
              (((hu0.mono fun _ _ e => e.elim).trans' hU7 (fun i hi e => by omega)).trans' hu' (fun i hi e => by simp at e; omega)).toBelow (R := fun _ => False) (fun _ e => e.elim) (Nat.le_refl _)⟩
        · have hd2 : decide (fw ≤ ((k + 1 : Nat) : Int)) = false := by simpa using hf
          rw [hd2] at hc
          gi_wp2_with (gi_at_call 123; refine (callsIn_wide.2 hc).mono ?_; rintro e w6 ⟨rfl, hB6⟩)
          exact ⟨⟨k + 1, by omega, by go_num, by omega, hBr.trans (hB6.mono hBr.size)⟩, by simp [intOf]; omega⟩
      · omega
  case stop =>
    rintro d D1 co pre W hd hpre h
    exact h.elim

set_option maxHeartbeats 1000000 in
theorem FewestLines_any (A : Option Addr) (n c : Nat) (zs : List Int) (w : World) (h : Ints w w.heap.size A n zs) (hbig : n ≤ 1152921504606846976) :
    Calls Try.prog 19 #[.slice A n c] w fun e w' => e = .returned (.int .i64 (fewLR zs)) ∧ Below w.heap.size w w' := by
  have hlen := Lib.hid h.len
  cases hv : vo zs
  · have Ht := Lib.hid (show fewLR zs = -1 by unfold fewLR; rw [hv]; rfl)
    have Hv := Lib.hid hv
    clear hv
    go_enter Try.func19, Try.ntmps19
    go_wp2_with fail
    refine (readOrder_any _ _ _ zs _ h hbig).mono ?_
    rintro e w' ⟨hB, (⟨hv, b, rfl, _, _⟩ | ⟨_, rfl⟩)⟩
    · rw [Hv.out] at hv; cases hv
    · go_wp2_with fail
      go_ret
      exact ⟨ret_int Ht.out.symm, hB⟩
  · have hvo : VoP zs := by simpa [vo] using hv
    have Hv := Lib.hid hv
    clear hv
    have Hl := Lib.hid (show linesR zs = (cF zs (2 ^ n - 1) : Int) by unfold linesR; rw [Hv.out, if_pos rfl, count_both hvo, hlen.out])
    go_enter Try.func19, Try.ntmps19
    go_wp2_with fail
    refine (readOrder_any _ _ _ zs _ h hbig).mono ?_
    rintro e w1 ⟨hB, (⟨_, b, rfl, hb, hAr⟩ | ⟨hv, _⟩)⟩
    · have z1 := hB.size
      by_cases hc : (cF zs (2 ^ n - 1) : Int) ≤ 60
      · have Ht := Lib.hid (show fewLR zs = fwN zs by unfold fewLR; rw [Hv.out, Hl.out]; simp [hc])
        have hcl := ocountLines_any (some ⟨b, 0, none⟩) n n zs hvo w1 (hAr.ints' hAr.lt hlen.out)
        generalize (cF zs (2 ^ n - 1) : Int) = cc at *
        go_wp2_with (go_at_call 69; refine hcl.mono ?_; rintro e w2 ⟨rfl, hB2⟩)
        have z2 := hB2.size
        have hA2 := hAr.upd (Below.toUpd hB2) (fun e => by have := hAr.lt; omega)
        refine (ofewest_any b n n zs hvo hlen.out _ hA2).mono ?_
        rintro e w3 ⟨rfl, hB3⟩
        go_wp2_with fail
        go_ret
        exact ⟨ret_int Ht.out.symm, (hB.trans (hB2.mono z1)).trans (hB3.mono (by omega))⟩
      · have Ht := Lib.hid (show fewLR zs = -1 by unfold fewLR; rw [Hv.out, Hl.out]; simp [hc])
        have hcl := ocountLines_any (some ⟨b, 0, none⟩) n n zs hvo w1 (hAr.ints' hAr.lt hlen.out)
        generalize (cF zs (2 ^ n - 1) : Int) = cc at *
        go_wp2_with (go_at_call 69; refine hcl.mono ?_; rintro e w2 ⟨rfl, hB2⟩)
        go_ret
        exact ⟨ret_int Ht.out.symm, hB.trans (hB2.mono z1)⟩
    · rw [Hv.out] at hv; cases hv
end Go.Proofs.Ytghogabmkbadjab

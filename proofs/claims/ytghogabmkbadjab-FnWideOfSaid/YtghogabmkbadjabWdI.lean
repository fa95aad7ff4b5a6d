/- WideOf: the program's. -/
import Derived.Test.YtghogabmkbadjabWdM
import Derived.Test.YtghogabmkbadjabGxi
import Derived.Test.YtghogabmkbadjabGxg
import Derived.Test.YtghogabmkbadjabGa
import Derived.Test.YtghogabmkbadjabGd
set_option linter.unusedVariables false
set_option linter.unusedSimpArgs false
namespace Go.Proofs.Ytghogabmkbadjab
open Go.RowKit Go.Shelf
attribute [local go_sem] Oper.semAt_some
attribute [local go_sem, local simp] wide_fn

set_option maxHeartbeats 1000000 in
theorem index_any (A : Option Addr) (n c B : Nat) (ls : List Int) (x : Int) (w : World) (h : Ints w B A n ls) (hn : n ≤ 1152921504606846976) :
    Calls Try.prog 178 #[.slice A n c, .int .i64 x] w fun e w' => e = .returned (.int .i64 (atI ls x)) ∧ w' = w := by
  have hlen := Lib.hid h.len
  go_enter Try.func178, Try.ntmps178
  go_wp2
  go_loop [8] (fun i => ∃ k : Nat, k ≤ n ∧ i = .int .i64 k ∧ ∀ j, j < k → ls[j]?.getD 0 ≠ x) (fun i => n - (intOf i).toNat)
  case atStart => exact ⟨0, by omega, rfl, fun j hj => by omega⟩
  case round =>
    obtain ⟨k, hk, rfl, hok⟩ := hrel
    have Hok := Lib.hid hok
    clear hok
    by_cases hlt : k < n
    · obtain ⟨b, off, rfl, _, hc⟩ := h.at_ hlt
      have hck := hc k hlt
      have Hc := Lib.hid hc
      clear hc
      cases heq : (x == ls[k]?.getD 0)
      · have Hall := Lib.hid (show ∀ j, j < k + 1 → ls[j]?.getD 0 ≠ x from fun j hj => by
          rcases Nat.lt_succ_iff_lt_or_eq.1 hj with h1 | h1
          · exact Hok.out j h1
          · subst h1; intro e; rw [e] at heq; simp at heq)
        go_wp2
        go_round
        case rel => exact ⟨k + 1, by omega, by go_num, Hall.out⟩
        case measure => simp [intOf]; omega
      · have Ht := Lib.hid (atI_hit Hok.out (by rw [hlen.out]; exact hlt) (show ls[k]?.getD 0 = x by simp at heq; exact heq.symm))
        go_wp2
        go_ret
        exact ⟨ret_int Ht.out.symm, rfl⟩
    · obtain rfl : k = n := by omega
      have Ht := Lib.hid (atI_none (l := ls) (x := x) (by rw [hlen.out]; exact Hok.out))
      go_wp2
      go_ret
      exact ⟨ret_int Ht.out.symm, rfl⟩

set_option maxRecDepth 100000 in
set_option maxHeartbeats 4000000 in
theorem width_any (b n c : Nat) (zs : List Int) (hvo : VoP zs) (A' : Option Addr) (c' : Nat) (ls : List Int) (w : World) (hA : Ints w w.heap.size (some ⟨b, 0, none⟩) n zs) (hL : Ints w w.heap.size A' n ls) :
    Calls Try.prog 144 #[.slice (some ⟨b, 0, none⟩) n c, .slice A' n c'] w fun e w' => e = .returned (.int .i64 (wdL zs ls)) ∧ Below w.heap.size w w' := by
  have hlen := Lib.hid hA.len
  have hlen' := Lib.hid hL.len
  have hn6 : n ≤ 6 := by have := hvo.1; rw [hlen.out] at this; exact this
  refine (callsIn_wide (n := 9)).1 ?_
  refine callsIn_of_wp_marks Try.func144 rfl trivial ?_ rfl
  simp only [Try.ntmps144, List.size_toArray, List.length_cons, List.length_nil, Nat.reduceAdd, Nat.reduceSub, Array.replicate_succ, Array.replicate_zero, List.push_toArray, List.append_toArray, List.nil_append, List.cons_append]
  gi_wp2_with (gi_at_call 107; refine (callsIn_wide.2 (pairs_any _ _ _ _)).mono ?_; rintro e w' ⟨rfl, rfl⟩)
  have bO := (((Boxed.new w 49 (.slice (some ⟨b, 0, none⟩) n c)).alloc (.cells #[Value.slice A' n c'] 22)).alloc (.cells #[Value.int .i64 0] 3)).alloc (.cells #[Value.slice (some ⟨b, 0, none⟩) n c] 49)
  have bL := ((Boxed.new (w.alloc (.cells #[Value.slice (some ⟨b, 0, none⟩) n c] 49)) 22 (.slice A' n c')).alloc (.cells #[Value.int .i64 0] 3)).alloc (.cells #[Value.slice (some ⟨b, 0, none⟩) n c] 49)
  have bW := (Boxed.new ((w.alloc (.cells #[Value.slice (some ⟨b, 0, none⟩) n c] 49)).alloc (.cells #[Value.slice A' n c'] 22)) 3 (.int .i64 0)).alloc (.cells #[Value.slice (some ⟨b, 0, none⟩) n c] 49)
  have bP := Boxed.new (((w.alloc (.cells #[Value.slice (some ⟨b, 0, none⟩) n c] 49)).alloc (.cells #[Value.slice A' n c'] 22)).alloc (.cells #[Value.int .i64 0] 3)) 49 (.slice (some ⟨b, 0, none⟩) n c)
  have hu0 : Upd (fun _ => False) w ((((w.alloc (.cells #[Value.slice (some ⟨b, 0, none⟩) n c] 49)).alloc (.cells #[Value.slice A' n c'] 22)).alloc (.cells #[Value.int .i64 0] 3)).alloc (.cells #[Value.slice (some ⟨b, 0, none⟩) n c] 49)) := ((((Upd.refl _ w).alloc _).alloc _).alloc _).alloc _
  have hz0' : ((((w.alloc (.cells #[Value.slice (some ⟨b, 0, none⟩) n c] 49)).alloc (.cells #[Value.slice A' n c'] 22)).alloc (.cells #[Value.int .i64 0] 3)).alloc (.cells #[Value.slice (some ⟨b, 0, none⟩) n c] 49)).heap.size = w.heap.size + 4 := by simp
  simp only [World.size_alloc] at bO bL bW bP
  obtain ⟨W0, hW0⟩ : ∃ W0, ((((w.alloc (.cells #[Value.slice (some ⟨b, 0, none⟩) n c] 49)).alloc (.cells #[Value.slice A' n c'] 22)).alloc (.cells #[Value.int .i64 0] 3)).alloc (.cells #[Value.slice (some ⟨b, 0, none⟩) n c] 49)) = W0 := ⟨_, rfl⟩
  rw [hW0] at bO bL bW bP hu0 hz0' ⊢
  clear hW0
  have hA0 : Ints W0 w.heap.size (some ⟨b, 0, none⟩) n zs := hA.below (hu0.toBelow (fun _ e => e.elim) (Nat.le_refl _))
  have hL0 : Ints W0 w.heap.size A' n ls := hL.below (hu0.toBelow (fun _ e => e.elim) (Nat.le_refl _))
  refine range_out (n := 9) (gf := 145) (lb := #[.pointer (some ⟨w.heap.size + 1 + 1 + 1, 0, none⟩)]) rfl (enters_of Try.func145 (by kernel_rfl) rfl) (encs := encP) (L := pairsL zs)
    (fun k => k = w.heap.size + 2) (fun k e => by omega) (fun _ => rfl)
    (fun W1 l1 hu1 hl1 hl2 => pairs_iter_at hvo.sets bP (fun k e => by omega) (by omega) hA0 (by omega) (fun k e => by omega) hu1 hl1 hl2)
    (fun pre D W => Boxed W (w.heap.size + 1 + 1) 3 (.int .i64 (wdF ls (pre.filter (coverB zs)))) ∧ Upd (fun k => k = w.heap.size + 2) W0 W)
    (fun _ _ _ _ => False)
    (fun _ D X Y hs hu => ⟨hu.boxed hs.1 (fun e => by omega), hs.2.trans' hu (fun i hi e => by omega)⟩)
    (fun _ _ _ _ _ hs _ => hs)
    ⟨bW, Upd.refl _ _⟩ ?owes ?done ?stop
  case owes =>
    rintro l1 pre ⟨lo, hi⟩ D1 W hl1 hl2 hDl hD1 - hpre K hK
    gi_wp2
    refine hK _ _ (Upd.refl _ _) ?_
    rintro Wb hWb - ⟨bW1, hU⟩
    clear hK
    obtain ⟨hlo, hhi, hbit⟩ := hvo.sets.pair (a := lo) (b := hi) (hpre.subset (by simp))
    rw [hlen.out] at hlo hhi
    have hsb := hU.size
    have hszb := hWb.size
    have bO1 := hU.boxed bO (by omega)
    have hcO := bO1.cell
    have bL1 := hU.boxed bL (by omega)
    have hAb : Ints Wb w.heap.size (some ⟨b, 0, none⟩) n zs := hA0.below (hU.toBelow (fun k e => by omega) (by omega))
    have hLb : Ints Wb w.heap.size A' n ls := hL0.below (hU.toBelow (fun k e => by omega) (by omega))
    gi_wp2_with fail
    refine (callsIn_wide.2 (isNext_any _ n c lo hi zs hvo.sets _ (hAb.more (by omega)) hlo hhi)).mono ?_
    rintro e W2 ⟨rfl, hB2⟩
    have z2 := hB2.size
    have bW2 := (Below.toUpd hB2).boxed bW1 (fun e => by omega)
    have bL2 := (Below.toUpd hB2).boxed bL1 (fun e => by omega)
    have hU2 := hU.below hB2 (fun k h1 h2 => by omega)
    have hV2 : Upd (fun k => k = w.heap.size + 2 ∨ D1 k ∨ W.heap.size ≤ k) Wb W2 := (Below.toUpd hB2).mono (fun k _ e => .inr (.inr (by omega)))
    cases hb : nextB zs lo hi
    · have Hf := Lib.hid (show ((pre ++ [(lo, hi)]).filter (coverB zs)) = pre.filter (coverB zs) by simp [coverB, hb])
      gi_wp2
      exact ⟨D1, ⟨by rw [Hf.out]; exact bW2, hU2⟩, hV2, fun k hk => .inl hk⟩
    · have Hf := Lib.hid (show ((pre ++ [(lo, hi)]).filter (coverB zs)) = pre.filter (coverB zs) ++ [(lo, hi)] by simp [coverB, hb])
      have Hs := Lib.hid (wdF_snoc ls (pre.filter (coverB zs)) (lo, hi))
      have hwb := wdF_bd ls (by rw [hlen'.out]; exact hn6) (pre.filter (coverB zs))
      have hh := atI_lim ls (hi : Int)
      have hl := atI_lim ls (lo : Int)
      rw [hlen'.out] at hh hl
      have hI2 : Ints W2 W2.heap.size A' n ls := (hLb.more (by omega) : Ints Wb Wb.heap.size A' n ls).to hB2 (Nat.le_refl _) z2
      generalize wdF ls (pre.filter (coverB zs)) = q at *
      simp only at Hs
      generalize hph : atI ls (hi : Int) = ph at *
      generalize hpl : atI ls (lo : Int) = pl at *
      have Hph := Lib.hid hph
      have Hpl := Lib.hid hpl
      clear hph hpl
      have hwr : IntKind.i64.wrap (ph - pl) = ph - pl := by rw [IntKind.wrap_i64]; omega
      have fin : ∀ (r : Int) (W4 : World), Boxed W4 (w.heap.size + 1 + 1) 3 (.int .i64 q) → Upd (fun _ => False) W2 W4 → r = max q (ph - pl) → roundEnd (fun k => k = w.heap.size + 2) (fun pre D W => Boxed W (w.heap.size + 1 + 1) 3 (.int .i64 (wdF ls (pre.filter (coverB zs)))) ∧ Upd (fun k => k = w.heap.size + 2) W0 W) (fun _ _ _ _ => False) (pre ++ [(lo, hi)]) D1 W.heap.size Wb .normal { tmps := #[], defers := [] } (W4.setCell ⟨w.heap.size + 1 + 1, 0, none⟩ (.int .i64 r)) := fun r W4 b4 hu4 hr => by
        have hus : Upd (fun k => k = w.heap.size + 2) W4 (W4.setCell ⟨w.heap.size + 1 + 1, 0, none⟩ (.int .i64 r)) := (Upd.refl (fun k => k = w.heap.size + 2) W4).setCell (p := ⟨w.heap.size + 1 + 1, 0, none⟩) (.inr rfl) _
        exact ⟨D1, ⟨by rw [Hf.out, Hs.out, ← hr]; exact b4.set _, (hU2.trans' hu4 (fun i hi e => e.elim)).trans' hus (fun i hi e => e)⟩, (hV2.trans' hu4 (fun i hi e => e.elim)).trans' hus (fun i hi e => .inl e), fun k hk => .inl hk⟩
      have Hfin := Lib.hid fin
      clear fin hU2 hV2 bW1 bL1 bO1 hcO hU
      rcases Int.lt_or_le q (ph - pl) with hq | hq
      · have hmx : max q (ph - pl) = ph - pl := by omega
        gi_wp2
        refine region_T_round (S := (fun w' : World => w'.cell? ⟨w.heap.size + 1 + 1, 0, none⟩ = some (.int .i64 q) ∧ w'.cell? ⟨w.heap.size + 1, 0, none⟩ = some (.slice A' n c'))) 9 (by kernel_rfl) (by kernel_rfl) (by rintro ⟨_, _, h⟩; exact h) ?_
        obtain ⟨Wd, hWd⟩ : ∃ Wd, W2.drew = Wd := ⟨_, rfl⟩
        have hbd : Upd (fun _ => False) W2 Wd := by rw [← hWd]; exact (Upd.refl _ W2).drew
        rw [hWd]
        clear hWd
        have bWd := hbd.boxed bW2 (fun e => e)
        have bLd := hbd.boxed bL2 (fun e => e)
        have hId : Ints Wd Wd.heap.size A' n ls := hI2.to (hbd.toBelow (B := W2.heap.size) (fun _ e => e.elim) (Nat.le_refl _)) (Nat.le_refl _) hbd.size
        have hSd : (fun w' : World => w'.cell? ⟨w.heap.size + 1 + 1, 0, none⟩ = some (.int .i64 q) ∧ w'.cell? ⟨w.heap.size + 1, 0, none⟩ = some (.slice A' n c')) Wd := ⟨bWd.cell, bLd.cell⟩
        refine anyT_take (i := 0) (oi := ?oi0a) (v := .int .i64 q) ?hi0a (by kernel_rfl) ?hq0a ?hy0a (by assumption) ?rest0a
        case hi0a => (simp only [List.getElem?_toArray, List.getElem?_cons_zero]; first | done | rfl)
        case hq0a => first | exact fun _ _ _ h => h | exact fun _ _ _ h => (by cases h.1)
        case hy0a => (refine Or.inl ⟨by rfl, ?_⟩; intro wz hSw; obtain ⟨hS1, hS2⟩ := hSw; go_simp; first | done | with_reducible rfl | simp | omega)
        try simp only [Act.put, List.setIfInBounds_toArray, List.set_cons_zero, List.set_cons_succ]
        refine anyT_take (i := 1) (oi := ?oi1a) (v := .slice A' n c') ?hi1a (by kernel_rfl) ?hq1a ?hy1a (by assumption) ?rest1a
        case hi1a => (simp only [List.getElem?_toArray, List.getElem?_cons_succ, List.getElem?_cons_zero]; first | done | rfl)
        case hq1a => first | exact fun _ _ _ h => h | exact fun _ _ _ h => (by cases h.1)
        case hy1a => (refine Or.inl ⟨by rfl, ?_⟩; intro wz hSw; obtain ⟨hS1, hS2⟩ := hSw; go_simp; first | done | with_reducible rfl | simp | omega)
        try simp only [Act.put, List.setIfInBounds_toArray, List.set_cons_zero, List.set_cons_succ]
        refine anyT_take (i := 2) (oi := ?oi2a) (v := .int .i64 (hi : Int)) ?hi2a (by kernel_rfl) ?hq2a ?hy2a (by assumption) ?rest2a
        case hi2a => (simp only [List.getElem?_toArray, List.getElem?_cons_succ, List.getElem?_cons_zero]; first | done | rfl)
        case hq2a => first | exact fun _ _ _ h => h | exact fun _ _ _ h => (by cases h.1)
        case hy2a => (refine Or.inl ⟨by rfl, ?_⟩; intro wz hSw; obtain ⟨hS1, hS2⟩ := hSw; go_simp; first | done | with_reducible rfl | simp | omega)
        try simp only [Act.put, List.setIfInBounds_toArray, List.set_cons_zero, List.set_cons_succ]
        refine anyT_take (i := 4) (oi := ?oi4a) (v := .slice A' n c') ?hi4a (by kernel_rfl) ?hq4a ?hy4a (by assumption) ?rest4a
        case hi4a => (simp only [List.getElem?_toArray, List.getElem?_cons_succ, List.getElem?_cons_zero]; first | done | rfl)
        case hq4a => first | exact fun _ _ _ h => h | exact fun _ _ _ h => (by cases h.1)
        case hy4a => (refine Or.inl ⟨by rfl, ?_⟩; intro wz hSw; obtain ⟨hS1, hS2⟩ := hSw; go_simp; first | done | with_reducible rfl | simp | omega)
        try simp only [Act.put, List.setIfInBounds_toArray, List.set_cons_zero, List.set_cons_succ]
        refine anyT_take (i := 5) (oi := ?oi5a) (v := .int .i64 (lo : Int)) ?hi5a (by kernel_rfl) ?hq5a ?hy5a (by assumption) ?rest5a
        case hi5a => (simp only [List.getElem?_toArray, List.getElem?_cons_succ, List.getElem?_cons_zero]; first | done | rfl)
        case hq5a => first | exact fun _ _ _ h => h | exact fun _ _ _ h => (by cases h.1)
        case hy5a => (refine Or.inl ⟨by rfl, ?_⟩; intro wz hSw; obtain ⟨hS1, hS2⟩ := hSw; go_simp; first | done | with_reducible rfl | simp | omega)
        try simp only [Act.put, List.setIfInBounds_toArray, List.set_cons_zero, List.set_cons_succ]
        refine anyT_one (i := 3) (by kernel_rfl) rfl (fun K' hK => ?_)
        go_simp
        refine (index_any A' n c' _ ls (hi : Int) Wd hId (by omega)).mono ?_
        rw [Hph.out]
        rintro e wq ⟨rfl, rfl⟩
        refine hK.out _ _ (fun _ => hSd) ?_
        clear hK K'
        try simp only [Act.put, List.setIfInBounds_toArray, List.set_cons_zero, List.set_cons_succ]
        refine anyT_one (i := 6) (by kernel_rfl) rfl (fun K' hK => ?_)
        go_simp
        refine (index_any A' n c' _ ls (lo : Int) _ hId (by omega)).mono ?_
        rw [Hpl.out]
        rintro e wq ⟨rfl, rfl⟩
        refine hK.out _ _ (fun _ => hSd) ?_
        clear hK K'
        try simp only [Act.put, List.setIfInBounds_toArray, List.set_cons_zero, List.set_cons_succ]
        refine anyT_one (i := 7) (by kernel_rfl) rfl (fun K' hK => ?_)
        go_simp
        refine hK.out _ _ (fun _ => hSd) ?_
        clear hK K'
        try simp only [Act.put, List.setIfInBounds_toArray, List.set_cons_zero, List.set_cons_succ]
        refine anyT_one (i := 8) (by kernel_rfl) rfl (fun K' hK => ?_)
        go_simp
        refine hK.out _ _ (fun _ => hSd) ?_
        clear hK K'
        try simp only [Act.put, List.setIfInBounds_toArray, List.set_cons_zero, List.set_cons_succ]
        have hcWd := bWd.cell
        have hfWd := bWd.frozen
        refine anyT_one (i := 9) (by kernel_rfl) rfl (fun K' hK => ?_)
        go_simp
        refine hK.out _ _ (fun h => absurd rfl h) ?_
        clear hK K'
        try simp only [Act.put, List.setIfInBounds_toArray, List.set_cons_zero, List.set_cons_succ]
        refine anyT_done (by kernel_rfl) ?_ _
        gi_wp2
        exact Hfin.out _ _ bWd hbd (by omega)
      · have hmx : max q (ph - pl) = q := by omega
        gi_wp2
        refine region_T_round (S := (fun w' : World => w'.cell? ⟨w.heap.size + 1 + 1, 0, none⟩ = some (.int .i64 q) ∧ w'.cell? ⟨w.heap.size + 1, 0, none⟩ = some (.slice A' n c'))) 9 (by kernel_rfl) (by kernel_rfl) (by rintro ⟨_, _, h⟩; exact h) ?_
        obtain ⟨Wd, hWd⟩ : ∃ Wd, W2.drew = Wd := ⟨_, rfl⟩
        have hbd : Upd (fun _ => False) W2 Wd := by rw [← hWd]; exact (Upd.refl _ W2).drew
        rw [hWd]
        clear hWd
        have bWd := hbd.boxed bW2 (fun e => e)
        have bLd := hbd.boxed bL2 (fun e => e)
        have hId : Ints Wd Wd.heap.size A' n ls := hI2.to (hbd.toBelow (B := W2.heap.size) (fun _ e => e.elim) (Nat.le_refl _)) (Nat.le_refl _) hbd.size
        have hSd : (fun w' : World => w'.cell? ⟨w.heap.size + 1 + 1, 0, none⟩ = some (.int .i64 q) ∧ w'.cell? ⟨w.heap.size + 1, 0, none⟩ = some (.slice A' n c')) Wd := ⟨bWd.cell, bLd.cell⟩
        refine anyT_take (i := 0) (oi := ?oi0b) (v := .int .i64 q) ?hi0b (by kernel_rfl) ?hq0b ?hy0b (by assumption) ?rest0b
        case hi0b => (simp only [List.getElem?_toArray, List.getElem?_cons_zero]; first | done | rfl)
        case hq0b => first | exact fun _ _ _ h => h | exact fun _ _ _ h => (by cases h.1)
        case hy0b => (refine Or.inl ⟨by rfl, ?_⟩; intro wz hSw; obtain ⟨hS1, hS2⟩ := hSw; go_simp; first | done | with_reducible rfl | simp | omega)
        try simp only [Act.put, List.setIfInBounds_toArray, List.set_cons_zero, List.set_cons_succ]
        refine anyT_take (i := 1) (oi := ?oi1b) (v := .slice A' n c') ?hi1b (by kernel_rfl) ?hq1b ?hy1b (by assumption) ?rest1b
        case hi1b => (simp only [List.getElem?_toArray, List.getElem?_cons_succ, List.getElem?_cons_zero]; first | done | rfl)
        case hq1b => first | exact fun _ _ _ h => h | exact fun _ _ _ h => (by cases h.1)
        case hy1b => (refine Or.inl ⟨by rfl, ?_⟩; intro wz hSw; obtain ⟨hS1, hS2⟩ := hSw; go_simp; first | done | with_reducible rfl | simp | omega)
        try simp only [Act.put, List.setIfInBounds_toArray, List.set_cons_zero, List.set_cons_succ]
        refine anyT_take (i := 2) (oi := ?oi2b) (v := .int .i64 (hi : Int)) ?hi2b (by kernel_rfl) ?hq2b ?hy2b (by assumption) ?rest2b
        case hi2b => (simp only [List.getElem?_toArray, List.getElem?_cons_succ, List.getElem?_cons_zero]; first | done | rfl)
        case hq2b => first | exact fun _ _ _ h => h | exact fun _ _ _ h => (by cases h.1)
        case hy2b => (refine Or.inl ⟨by rfl, ?_⟩; intro wz hSw; obtain ⟨hS1, hS2⟩ := hSw; go_simp; first | done | with_reducible rfl | simp | omega)
        try simp only [Act.put, List.setIfInBounds_toArray, List.set_cons_zero, List.set_cons_succ]
        refine anyT_take (i := 4) (oi := ?oi4b) (v := .slice A' n c') ?hi4b (by kernel_rfl) ?hq4b ?hy4b (by assumption) ?rest4b
        case hi4b => (simp only [List.getElem?_toArray, List.getElem?_cons_succ, List.getElem?_cons_zero]; first | done | rfl)
        case hq4b => first | exact fun _ _ _ h => h | exact fun _ _ _ h => (by cases h.1)
        case hy4b => (refine Or.inl ⟨by rfl, ?_⟩; intro wz hSw; obtain ⟨hS1, hS2⟩ := hSw; go_simp; first | done | with_reducible rfl | simp | omega)
        try simp only [Act.put, List.setIfInBounds_toArray, List.set_cons_zero, List.set_cons_succ]
        refine anyT_take (i := 5) (oi := ?oi5b) (v := .int .i64 (lo : Int)) ?hi5b (by kernel_rfl) ?hq5b ?hy5b (by assumption) ?rest5b
        case hi5b => (simp only [List.getElem?_toArray, List.getElem?_cons_succ, List.getElem?_cons_zero]; first | done | rfl)
        case hq5b => first | exact fun _ _ _ h => h | exact fun _ _ _ h => (by cases h.1)
        case hy5b => (refine Or.inl ⟨by rfl, ?_⟩; intro wz hSw; obtain ⟨hS1, hS2⟩ := hSw; go_simp; first | done | with_reducible rfl | simp | omega)
        try simp only [Act.put, List.setIfInBounds_toArray, List.set_cons_zero, List.set_cons_succ]
        refine anyT_one (i := 3) (by kernel_rfl) rfl (fun K' hK => ?_)
        go_simp
        refine (index_any A' n c' _ ls (hi : Int) Wd hId (by omega)).mono ?_
        rw [Hph.out]
        rintro e wq ⟨rfl, rfl⟩
        refine hK.out _ _ (fun _ => hSd) ?_
        clear hK K'
        try simp only [Act.put, List.setIfInBounds_toArray, List.set_cons_zero, List.set_cons_succ]
        refine anyT_one (i := 6) (by kernel_rfl) rfl (fun K' hK => ?_)
        go_simp
        refine (index_any A' n c' _ ls (lo : Int) _ hId (by omega)).mono ?_
        rw [Hpl.out]
        rintro e wq ⟨rfl, rfl⟩
        refine hK.out _ _ (fun _ => hSd) ?_
        clear hK K'
        try simp only [Act.put, List.setIfInBounds_toArray, List.set_cons_zero, List.set_cons_succ]
        refine anyT_one (i := 7) (by kernel_rfl) rfl (fun K' hK => ?_)
        go_simp
        refine hK.out _ _ (fun _ => hSd) ?_
        clear hK K'
        try simp only [Act.put, List.setIfInBounds_toArray, List.set_cons_zero, List.set_cons_succ]
        refine anyT_one (i := 8) (by kernel_rfl) rfl (fun K' hK => ?_)
        go_simp
        refine hK.out _ _ (fun _ => hSd) ?_
        clear hK K'
        try simp only [Act.put, List.setIfInBounds_toArray, List.set_cons_zero, List.set_cons_succ]
        have hcWd := bWd.cell
        have hfWd := bWd.frozen
        refine anyT_one (i := 9) (by kernel_rfl) rfl (fun K' hK => ?_)
        go_simp
        refine hK.out _ _ (fun h => absurd rfl h) ?_
        clear hK K'
        try simp only [Act.put, List.setIfInBounds_toArray, List.set_cons_zero, List.set_cons_succ]
        refine anyT_done (by kernel_rfl) ?_ _
        gi_wp2
        exact Hfin.out _ _ bWd hbd (by omega)
  case done =>
    rintro d D1 W hd ⟨bW1, hU⟩ hD1 hKd
    have Ht := Lib.hid (wdL_is hvo.sets ls)
    rw [← Ht.out] at bW1
    have hcW := bW1.cell
    gi_wp2
    refine leaves_marks [d] _ ⟨by simp, fun b hb => ?_⟩ (fun W' hu' => ?_)
    · rw [List.mem_singleton.1 hb]
      exact hKd
    · exact ⟨_, by simp [results, Try.f144, go_sem], rfl,
        (((hu0.mono fun _ _ e => e.elim).trans' hU (fun i hi e => by omega)).trans' hu' (fun i hi e => by simp at e; omega)).toBelow (R := fun _ => False) (fun _ e => e.elim) (Nat.le_refl _)⟩
  case stop =>
    rintro d D1 co pre W hd hpre h
    exact h.elim
end Go.Proofs.Ytghogabmkbadjab

/- Zigzags: the program's, whole. -/
import Derived.Test.YtghogabmkbadjabZgM
import Derived.Test.YtghogabmkbadjabGa
import Derived.Test.YtghogabmkbadjabGxq
set_option linter.unusedVariables false
set_option linter.unusedSimpArgs false
namespace Go.Proofs.Ytghogabmkbadjab
open Go.RowKit Go.Shelf
attribute [local go_sem] Oper.semAt_some
attribute [local go_sem, local simp] wide_fn

theorem zg_snoc {α : Type} {p : α → Bool} {l : List α} {x : α} (h : l.any p = false) (hx : p x = false) : (l ++ [x]).any p = false := by rw [List.any_append, h]; simp [hx]
theorem zg_pre {α : Type} {p : α → Bool} {l m : List α} {x : α} (h : l ++ [x] <+: m) (hx : p x = true) : m.any p = true := by
  obtain ⟨t, rfl⟩ := h
  simp [hx]
theorem ouZg_snoc {zs : List Int} {l : List (Nat × Nat)} {p : Nat × Nat} (h : ouZg zs l = false) (hx : inZg zs p (pairsL zs) = false) : ouZg zs (l ++ [p]) = false := zg_snoc h hx
theorem inZg_snoc {zs : List Int} {l : List (Nat × Nat)} {p q : Nat × Nat} (h : inZg zs p l = false) (hx : tstZg zs p q = false) : inZg zs p (l ++ [q]) = false := zg_snoc h hx

set_option maxRecDepth 100000 in
set_option maxHeartbeats 8000000 in
theorem ohasZig_any (A : Option Addr) (n c : Nat) (zs : List Int) (hvo : VoP zs) (w : World) (hA : Ints w w.heap.size A n zs) :
    Calls Try.prog 66 #[.slice A n c] w fun e W' => e = .returned (.bool (zigB zs)) ∧ Below w.heap.size w W' := by
  have hv := hvo.sets
  have hlen := Lib.hid hA.len
  have hn6 : n ≤ 6 := by have := hv.1; rw [hlen.out] at this; exact this
  have hpk : powI n ≤ 64 := powI_le6 (by omega)
  have HE := Lib.hid (show ouZg zs (pairsL zs) = zigB zs from two_zig hvo)
  refine (callsIn_wide (n := 9)).1 ?_
  refine callsIn_of_wp_marks Try.func66 rfl trivial ?_ rfl
  simp only [Try.ntmps66, List.size_toArray, List.length_cons, List.length_nil, Nat.reduceAdd, Nat.reduceSub, Array.replicate_succ, Array.replicate_zero, List.push_toArray, List.append_toArray, List.nil_append, List.cons_append]
  gi_wp2_with (gi_at_call 107; refine (callsIn_wide.2 (pairs_any _ _ _ _)).mono ?_; rintro e w' ⟨rfl, rfl⟩)
  have bO := ((Boxed.new w 49 (.slice A n c)).alloc (.cells #[Value.bool false] 4)).alloc (.cells #[Value.slice A n c] 49)
  have bR := (Boxed.new (w.alloc (.cells #[Value.slice A n c] 49)) 4 (.bool false)).alloc (.cells #[Value.slice A n c] 49)
  have bP := Boxed.new ((w.alloc (.cells #[Value.slice A n c] 49)).alloc (.cells #[Value.bool false] 4)) 49 (.slice A n c)
  have hu0 : Upd (fun _ => False) w (((w.alloc (.cells #[Value.slice A n c] 49)).alloc (.cells #[Value.bool false] 4)).alloc (.cells #[Value.slice A n c] 49)) := (((Upd.refl _ w).alloc _).alloc _).alloc _
  have hz0 : (((w.alloc (.cells #[Value.slice A n c] 49)).alloc (.cells #[Value.bool false] 4)).alloc (.cells #[Value.slice A n c] 49)).heap.size = w.heap.size + 3 := by simp
  simp only [World.size_alloc] at bR bP
  obtain ⟨W0, hW0⟩ : ∃ W0, (((w.alloc (.cells #[Value.slice A n c] 49)).alloc (.cells #[Value.bool false] 4)).alloc (.cells #[Value.slice A n c] 49)) = W0 := ⟨_, rfl⟩
  rw [hW0] at bO bR bP hu0 hz0 ⊢
  clear hW0
  have hA0 : Ints W0 w.heap.size A n zs := hA.below (hu0.toBelow (fun _ e => e.elim) (Nat.le_refl _))
  refine range_out (n := 9) (gf := 145) (lb := #[.pointer (some ⟨w.heap.size + 1 + 1, 0, none⟩)]) rfl (enters_of Try.func145 (by kernel_rfl) rfl) (encs := encP) (L := pairsL zs)
    (fun k => k = w.heap.size + 1) (fun k e => by omega) (fun _ => rfl)
    (fun W1 l1 hu1 hl1 hl2 => pairs_iter_at hv bP (fun k e => by omega) (by omega) hA0 (by omega) (fun k e => by omega) hu1 hl1 hl2)
    (fun pre D W => ouZg zs pre = false ∧ Boxed W (w.heap.size + 1) 4 (.bool false) ∧ Upd (fun k => k = w.heap.size + 1) W0 W)
    (fun co pre D W => co = .ret ∧ ouZg zs (pairsL zs) = true ∧ Boxed W (w.heap.size + 1) 4 (.bool true) ∧ Upd (fun k => k = w.heap.size + 1) W0 W)
    (fun s D X Y hs hu => ⟨hs.1, hu.boxed hs.2.1 (fun e => by omega), hs.2.2.trans' hu (fun i hi e => by omega)⟩)
    (fun co s D X Y hs hu => ⟨hs.1, hs.2.1, hu.boxed hs.2.2.1 (fun e => by omega), hs.2.2.2.trans' hu (fun i hi e => by omega)⟩)
    ⟨rfl, bR, Upd.refl _ _⟩ ?owes ?done ?stop
  case owes =>
    rintro l1 pre ⟨lo, hi⟩ D1 W hl1 hl2 hDl hD1 - hpre K hK
    gi_wp2
    refine hK _ _ (((Upd.refl _ _).alloc _).alloc _) ?_
    rintro Wb hWb hloop ⟨hno, bR1, hU⟩
    clear hK
    obtain ⟨hlo, hhi, hbit⟩ := hv.pair (a := lo) (b := hi) (hpre.subset (by simp))
    rw [hlen.out] at hlo hhi
    have hWs : ((W.alloc (.cells #[Value.int .i64 (lo : Int)] 3)).alloc (.cells #[Value.int .i64 (hi : Int)] 3)).heap.size = W.heap.size + 2 := by simp
    have bL : Boxed Wb W.heap.size 3 (.int .i64 (lo : Int)) := hWb.boxed ((Boxed.new W _ _).alloc _) (fun e => by omega)
    have bH : Boxed Wb (W.heap.size + 1) 3 (.int .i64 (hi : Int)) := hWb.boxed (by have := Boxed.new (W.alloc (.cells #[Value.int .i64 (lo : Int)] 3)) 3 (.int .i64 (hi : Int)); rw [World.size_alloc] at this; exact this) (fun e => by omega)
    have hcO := (hU.boxed bO (by omega)).cell
    have bOb := hU.boxed bO (by omega)
    have hsb := hU.size
    have hszb := hWb.size
    rw [hWs] at hszb
    gi_wp2_with (gi_at_call 107; refine (CallsIn.inRound l1 (callsIn_wide.2 (pairs_any _ _ _ _))).mono ?_; rintro e w' ⟨rfl, rfl⟩)
    have bP2 := Boxed.new Wb 49 (.slice A n c)
    have huc : Upd (fun _ => False) Wb (Wb.alloc (.cells #[Value.slice A n c] 49)) := (Upd.refl _ _).alloc _
    have hzc : (Wb.alloc (.cells #[Value.slice A n c] 49)).heap.size = Wb.heap.size + 1 := by simp
    obtain ⟨Wc, hWc⟩ : ∃ Wc, Wb.alloc (.cells #[Value.slice A n c] 49) = Wc := ⟨_, rfl⟩
    rw [hWc] at bP2 huc hzc ⊢
    clear hWc
    have bOc := huc.boxed bOb (fun e => e)
    have bRc := huc.boxed bR1 (fun e => e)
    have bLc := huc.boxed bL (fun e => e)
    have bHc := huc.boxed bH (fun e => e)
    have hUc : Upd (fun k => k = w.heap.size + 1) W0 Wc := hU.trans (huc.mono fun _ _ e => e.elim)
    have hAc : Ints Wc w.heap.size A n zs := hA0.keep (fun p hp => World.cell?_of_block (hUc.block p.block (by omega) (by omega)))
    obtain ⟨r1, hr1⟩ := hloop
    have hl1b : l1 < Wb.heap.size := (Array.getElem?_eq_some_iff.1 hr1).1
    refine range_in (l₀ := l1) ⟨r1, (huc.block l1 hl1b (fun e => e)).trans hr1⟩ (gf := 145) (lb := #[.pointer (some ⟨Wb.heap.size, 0, none⟩)]) rfl (enters_of Try.func145 (by kernel_rfl) rfl) (encs := encP) (L := pairsL zs)
      (fun k => k = w.heap.size + 1) (fun k e => by omega) (fun _ => rfl)
      (fun W1 l2 hu1 hl3 hl4 => pairs_iter_at hv bP2 (fun k e => by omega) (by omega) hAc (by omega) (fun k e => by omega) hu1 hl3 hl4)
      (fun pre2 D2 W' => inZg zs (lo, hi) pre2 = false ∧ Boxed W' (w.heap.size + 1) 4 (.bool false) ∧ Upd (fun k => k = w.heap.size + 1) Wc W')
      (fun co pre2 D2 W' => co = .ret ∧ inZg zs (lo, hi) (pairsL zs) = true ∧ Boxed W' (w.heap.size + 1) 4 (.bool true) ∧ Upd (fun k => k = w.heap.size + 1) Wc W')
      (fun s D X Y hs hu => ⟨hs.1, hu.boxed hs.2.1 (fun e => by omega), hs.2.2.trans' hu (fun i hi e => by omega)⟩)
      (fun co s D X Y hs hu => ⟨hs.1, hs.2.1, hu.boxed hs.2.2.1 (fun e => by omega), hs.2.2.2.trans' hu (fun i hi e => by omega)⟩)
      ⟨rfl, bRc, Upd.refl _ _⟩ ?owes2 ?done2 ?stop2
    case owes2 =>
      rintro l2 pre2 ⟨a3, a4⟩ D2 Wi hl3 hl4 hDl2 hD2 - hpre2 K hK
      gi_wp2
      refine hK _ _ (Upd.refl _ _) ?_
      rintro Wj hWj - ⟨hno2, bR2, hU2⟩
      clear hK
      obtain ⟨h3, h4, hbit2⟩ := hv.pair (a := a3) (b := a4) (hpre2.subset (by simp))
      rw [hlen.out] at h3 h4
      have z3 := hU2.size
      have z4 := hWj.size
      have bOj := hU2.boxed bOc (by omega)
      have hcOj := bOj.cell
      have hcLj := (hU2.boxed bLc (by omega)).cell
      have hcHj := (hU2.boxed bHc (by omega)).cell
      have hAj : Ints Wj Wj.heap.size A n zs := (hAc.keep (fun p hp => World.cell?_of_block (hU2.block p.block (by omega) (by omega)))).more (by omega)
      have Hpw := Lib.hid (fun (s : Int) (W9 : World) (h9 : Ints W9 W9.heap.size A n zs) (h0 : 0 ≤ s) (h1 : s < powI n) => pairsWithin_any A n c zs s hv W9 h9 h0 h1)
      obtain ⟨ab, off, rfl, hab, hc⟩ := hAc.at_ h3
      have hc3 := hU2.cell (hc a3 h3) (fun e => by simp at e; omega)
      have zx := hv.bd a3 (by rw [hlen.out]; exact h3)
      clear hc
      have hcR2 := bR2.cell
      have hfR2 := bR2.frozen
      have hp1 := powI_lt hlo
      have hp2 := powI_lt hhi
      have hp3 := powI_lt h3
      have hp4 := powI_lt h4
      have hq1 := powI_pos (lo : Int)
      have hq2 := powI_pos (hi : Int)
      have hq3 := powI_pos (a3 : Int)
      have hq4 := powI_pos (a4 : Int)
      have ho1 : 0 ≤ orI 0 (powI (lo : Int)) ∧ orI 0 (powI (lo : Int)) < powI n := orI_bd (by omega) (by omega) (by omega) hp1
      have ho2 : 0 ≤ prI lo hi ∧ prI lo hi < powI n := prI_bd hlo hhi
      have ho3 : 0 ≤ orI (prI lo hi) (powI (a3 : Int)) ∧ orI (prI lo hi) (powI (a3 : Int)) < powI n := orI_bd ho2.1 ho2.2 (by omega) hp3
      have ho4 : 0 ≤ frI lo hi a3 a4 ∧ frI lo hi a3 a4 < powI n := frI_bd hlo hhi h3 h4
      have hw1 := fun w => with_any 0 (lo : Int) w (by omega) (by omega) (by omega) (by omega)
      have hw2 := fun w => with_any (orI 0 (powI (lo : Int))) (hi : Int) w (by omega) (by omega) (by omega) (by omega)
      have hw3 := fun w => with_any (prI lo hi) (a3 : Int) w (by omega) (by omega) (by omega) (by omega)
      have hw4 := fun w => with_any (orI (prI lo hi) (powI (a3 : Int))) (a4 : Int) w (by omega) (by omega) (by omega) (by omega)
      rw [show orI (orI 0 (powI (lo : Int))) (powI (hi : Int)) = prI lo hi from rfl] at hw2
      rw [show orI (orI (prI lo hi) (powI (a3 : Int))) (powI (a4 : Int)) = frI lo hi a3 a4 from rfl] at hw4
      have hsz := fun w => size_any (frI lo hi a3 a4) w (by omega) (by omega)
      have hha := fun w => has_any (zs[a3]?.getD 0) (hi : Int) w (by omega) (by omega) (by omega) (by omega)
      have Hpf := Lib.hid (fun (W9 : World) (h9 : Ints W9 W9.heap.size (some ⟨ab, off, none⟩) n zs) => Hpw.out (frI lo hi a3 a4) W9 h9 ho4.1 ho4.2)
      have Ht := Lib.hid (show tstZg zs (lo, hi) (a3, a4) = (popI (frI lo hi a3 a4) == 4 && (bitB (zs[a3]?.getD 0) hi && (pwL zs (frI lo hi a3 a4) (itemsL (frI lo hi a3 a4)) == 3))) from rfl)
      generalize pwL zs (frI lo hi a3 a4) (itemsL (frI lo hi a3 a4)) = q at *
      generalize frI lo hi a3 a4 = fr at *
      generalize orI (prI lo hi) (powI (a3 : Int)) = o3 at *
      generalize prI lo hi = o2 at *
      generalize orI 0 (powI (lo : Int)) = o1 at *
      generalize popI fr = ps at *
      have hUw : Upd (fun k => k = w.heap.size + 1 ∨ D2 k ∨ Wi.heap.size ≤ k) Wj Wj := Upd.refl _ _
      clear hp1 hp2 hp3 hp4 hq1 hq2 hq3 hq4 Hpw
      gi_wp2
      refine region_quiet_round (by kernel_rfl) (by kernel_rfl) (by kernel_rfl) ?_
      repeat (gi_big_quiet_step ((first
        | (gi_at_call 115; exact quietIn_add (hw1 _))
        | (gi_at_call 115; exact quietIn_left (hw1 _))
        | (gi_at_call 115; exact quietIn_add (hw2 _))
        | (gi_at_call 115; exact quietIn_left (hw2 _))
        | (gi_at_call 115; exact quietIn_add (hw3 _))
        | (gi_at_call 115; exact quietIn_left (hw3 _))
        | (gi_at_call 115; exact quietIn_add (hw4 _))
        | (gi_at_call 115; exact quietIn_left (hw4 _)))))
      refine wpQuietIn_nil ?_
      intro _ hw'
      obtain ⟨nq, hw''⟩ := hw'
      subst hw''
      obtain ⟨W7, hW7⟩ : ∃ W7, Wj.drewN nq = W7 := ⟨_, rfl⟩
      have hU7 : Upd (fun k => k = w.heap.size + 1) Wc W7 := by rw [← hW7]; exact hU2.drewN nq
      have hUw7 : Upd (fun k => k = w.heap.size + 1 ∨ D2 k ∨ Wi.heap.size ≤ k) Wj W7 := by rw [← hW7]; exact hUw.drewN nq
      have bR7 : Boxed W7 (w.heap.size + 1) 4 (.bool false) := by rw [← hW7]; exact bR2
      have hcO7 : W7.cell? ⟨w.heap.size, 0, none⟩ = some (.slice (some ⟨ab, off, none⟩) n c) := by rw [← hW7]; exact hcOj
      have hcH7 : W7.cell? ⟨W.heap.size + 1, 0, none⟩ = some (.int .i64 (hi : Int)) := by rw [← hW7]; exact hcHj
      have hc37 : W7.cell? ⟨ab, off + a3, none⟩ = some (.int .i64 (zs[a3]?.getD 0)) := by rw [← hW7]; exact hc3
      have hA7 : Ints W7 W7.heap.size (some ⟨ab, off, none⟩) n zs := by rw [← hW7]; exact hAj
      have z7 := hU7.size
      rw [hW7]
      clear hW7 hcOj hcHj hcLj hc3 hcR2 hfR2 bR2 hU2 hUw hw1 hw2 hw3 hw4 hAj
      have hcR7 := bR7.cell
      have hfR7 := bR7.frozen
      gi_wp2
      cases e1 : (ps == 4)
      · have HF := Lib.hid (show inZg zs (lo, hi) (pre2 ++ [(a3, a4)]) = false from inZg_snoc hno2 (by rw [Ht.out, e1]; rfl))
        refine region_quiet_round (by kernel_rfl) (by kernel_rfl) (by kernel_rfl) ?_
        repeat (gi_big_quiet_step ((first
          | (gi_at_call 90; exact quietIn_add (hsz _))
          | (gi_at_call 90; exact quietIn_left (hsz _))
          | (gi_at_call 116; exact quietIn_add (hha _))
          | (gi_at_call 116; exact quietIn_left (hha _)))))
        refine wpQuietIn_nil ?_
        intro _ hw'
        obtain ⟨nq, hw''⟩ := hw'
        subst hw''
        gi_wp2
        exact ⟨D2, ⟨HF.out, bR7, hU7.drewN nq⟩, hUw7.drewN nq, fun k hk => .inl hk⟩
      cases e2 : bitB (zs[a3]?.getD 0) hi
      · have HF := Lib.hid (show inZg zs (lo, hi) (pre2 ++ [(a3, a4)]) = false from inZg_snoc hno2 (by rw [Ht.out, e1, e2]; rfl))
        refine region_quiet_round (by kernel_rfl) (by kernel_rfl) (by kernel_rfl) ?_
        repeat (gi_big_quiet_step ((first
          | (gi_at_call 90; exact quietIn_add (hsz _))
          | (gi_at_call 90; exact quietIn_left (hsz _))
          | (gi_at_call 116; exact quietIn_add (hha _))
          | (gi_at_call 116; exact quietIn_left (hha _)))))
        refine wpQuietIn_nil ?_
        intro _ hw'
        obtain ⟨nq, hw''⟩ := hw'
        subst hw''
        gi_wp2
        exact ⟨D2, ⟨HF.out, bR7, hU7.drewN nq⟩, hUw7.drewN nq, fun k hk => .inl hk⟩
      refine region_T_round (S := (fun w' => w'.cell? ⟨w.heap.size, 0, none⟩ = some (.slice (some ⟨ab, off, none⟩) n c) ∧ w'.cell? ⟨W.heap.size + 1, 0, none⟩ = some (.int .i64 (hi : Int)) ∧ w'.cell? ⟨ab, off + a3, none⟩ = some (.int .i64 (zs[a3]?.getD 0)))) 16 (by kernel_rfl) (by kernel_rfl) (by rintro ⟨_, _, h⟩; exact h) ?_
      obtain ⟨Wd, hWd⟩ : ∃ Wd, W7.drew = Wd := ⟨_, rfl⟩
      have hcd := Hpf.out Wd (by rw [← hWd]; exact hA7)
      have hSd : (fun w' : World => w'.cell? ⟨w.heap.size, 0, none⟩ = some (.slice (some ⟨ab, off, none⟩) n c) ∧ w'.cell? ⟨W.heap.size + 1, 0, none⟩ = some (.int .i64 (hi : Int)) ∧ w'.cell? ⟨ab, off + a3, none⟩ = some (.int .i64 (zs[a3]?.getD 0))) Wd := by rw [← hWd]; exact ⟨hcO7, hcH7, hc37⟩
      have hUd : Upd (fun k => k = w.heap.size + 1) Wc Wd := by rw [← hWd]; exact hU7.drew
      have hUwd : Upd (fun k => k = w.heap.size + 1 ∨ D2 k ∨ Wi.heap.size ≤ k) Wj Wd := by rw [← hWd]; exact hUw7.drew
      have bRd : Boxed Wd (w.heap.size + 1) 4 (.bool false) := by rw [← hWd]; exact bR7
      have hzd : W7.heap.size ≤ Wd.heap.size := by rw [← hWd]; exact Nat.le_refl _
      rw [hWd]
      clear hWd hA7 hcO7 hcH7 hc37 hU7 hUw7 bR7 hcR7 hfR7
      refine anyT_take (i := 0) (oi := ?oi0z) (v := .int .i64 fr) ?hi0z (by kernel_rfl) ?hq0z ?hy0z (by assumption) ?rest0z
      case hi0z => (simp only [List.getElem?_toArray, List.getElem?_cons_zero]; first | done | rfl)
      case hq0z => first | exact fun _ _ _ h => h | exact fun _ _ _ h => (by cases h.1)
      case hy0z => (refine Or.inl ⟨by rfl, ?_⟩; intro wz hSw; go_simp; first | done | with_reducible rfl | simp | omega)
      try simp only [Act.put, List.setIfInBounds_toArray, List.set_cons_zero, List.set_cons_succ]
      refine anyT_one (i := 1) (by kernel_rfl) rfl (fun K' hK => ?_)
      go_simp
      refine (hsz _).mono ?_
      rintro e w' ⟨rfl, rfl⟩
      refine hK.out _ _ (fun _ => hSd) ?_
      clear hK K'
      try simp only [Act.put, List.setIfInBounds_toArray, List.set_cons_zero, List.set_cons_succ]
      refine anyT_take (i := 2) (oi := ?oi2z) (v := .bool true) ?hi2z (by kernel_rfl) ?hq2z ?hy2z (by assumption) ?rest2z
      case hi2z => (simp only [List.getElem?_toArray, List.getElem?_cons_succ, List.getElem?_cons_zero]; first | done | rfl)
      case hq2z => first | exact fun _ _ _ h => h | exact fun _ _ _ h => (by cases h.1)
      case hy2z => (refine Or.inl ⟨by rfl, ?_⟩; intro wz hSw; go_simp; first | done | with_reducible rfl | simp [e1] | omega)
      try simp only [Act.put, List.setIfInBounds_toArray, List.set_cons_zero, List.set_cons_succ]
      refine anyT_take (i := 3) (oi := ?oi3z) (v := .bool true) ?hi3z (by kernel_rfl) ?hq3z ?hy3z (by assumption) ?rest3z
      case hi3z => (simp only [List.getElem?_toArray, List.getElem?_cons_succ, List.getElem?_cons_zero]; first | done | rfl)
      case hq3z => first | exact fun _ _ _ h => h | exact fun _ _ _ h => (by cases h.1)
      case hy3z => (refine Or.inl ⟨by rfl, ?_⟩; intro wz hSw; go_simp; first | done | with_reducible rfl | simp | omega)
      try simp only [Act.put, List.setIfInBounds_toArray, List.set_cons_zero, List.set_cons_succ]
      refine anyT_take (i := 4) (oi := ?oi4z) (v := .slice (some ⟨ab, off, none⟩) n c) ?hi4z (by kernel_rfl) ?hq4z ?hy4z (by assumption) ?rest4z
      case hi4z => (simp only [List.getElem?_toArray, List.getElem?_cons_succ, List.getElem?_cons_zero]; first | done | rfl)
      case hq4z => first | exact fun _ _ _ h => h | exact fun _ _ _ h => (by cases h.1)
      case hy4z => (refine Or.inl ⟨by rfl, ?_⟩; intro wz hSw; obtain ⟨hS1, hS2, hS3⟩ := hSw; go_simp; first | done | with_reducible rfl | simp | omega)
      try simp only [Act.put, List.setIfInBounds_toArray, List.set_cons_zero, List.set_cons_succ]
      refine anyT_take (i := 5) (oi := ?oi5z) (v := .int .i64 (a3 : Int)) ?hi5z (by kernel_rfl) ?hq5z ?hy5z (by assumption) ?rest5z
      case hi5z => (simp only [List.getElem?_toArray, List.getElem?_cons_succ, List.getElem?_cons_zero]; first | done | rfl)
      case hq5z => first | exact fun _ _ _ h => h | exact fun _ _ _ h => (by cases h.1)
      case hy5z => (refine Or.inl ⟨by rfl, ?_⟩; intro wz hSw; go_simp; first | done | with_reducible rfl | simp | omega)
      try simp only [Act.put, List.setIfInBounds_toArray, List.set_cons_zero, List.set_cons_succ]
      refine anyT_take (i := 6) (oi := ?oi6z) (v := .pointer (some ⟨ab, off + a3, none⟩)) ?hi6z (by kernel_rfl) ?hq6z ?hy6z (by assumption) ?rest6z
      case hi6z => (simp only [List.getElem?_toArray, List.getElem?_cons_succ, List.getElem?_cons_zero]; first | done | rfl)
      case hq6z => first | exact fun _ _ _ h => h | exact fun _ _ _ h => (by cases h.1)
      case hy6z => (refine Or.inl ⟨by rfl, ?_⟩; intro wz hSw; go_simp; first | done | with_reducible rfl | simp | omega)
      try simp only [Act.put, List.setIfInBounds_toArray, List.set_cons_zero, List.set_cons_succ]
      refine anyT_take (i := 7) (oi := ?oi7z) (v := .int .i64 (zs[a3]?.getD 0)) ?hi7z (by kernel_rfl) ?hq7z ?hy7z (by assumption) ?rest7z
      case hi7z => (simp only [List.getElem?_toArray, List.getElem?_cons_succ, List.getElem?_cons_zero]; first | done | rfl)
      case hq7z => first | exact fun _ _ _ h => h | exact fun _ _ _ h => (by cases h.1)
      case hy7z => (refine Or.inl ⟨by rfl, ?_⟩; intro wz hSw; obtain ⟨hS1, hS2, hS3⟩ := hSw; go_simp; first | done | with_reducible rfl | simp | omega)
      try simp only [Act.put, List.setIfInBounds_toArray, List.set_cons_zero, List.set_cons_succ]
      refine anyT_take (i := 8) (oi := ?oi8z) (v := .int .i64 (hi : Int)) ?hi8z (by kernel_rfl) ?hq8z ?hy8z (by assumption) ?rest8z
      case hi8z => (simp only [List.getElem?_toArray, List.getElem?_cons_succ, List.getElem?_cons_zero]; first | done | rfl)
      case hq8z => first | exact fun _ _ _ h => h | exact fun _ _ _ h => (by cases h.1)
      case hy8z => (refine Or.inl ⟨by rfl, ?_⟩; intro wz hSw; obtain ⟨hS1, hS2, hS3⟩ := hSw; go_simp; first | done | with_reducible rfl | simp | omega)
      try simp only [Act.put, List.setIfInBounds_toArray, List.set_cons_zero, List.set_cons_succ]
      refine anyT_one (i := 9) (by kernel_rfl) rfl (fun K' hK => ?_)
      go_simp
      refine (hha _).mono ?_
      rintro e w' ⟨rfl, rfl⟩
      refine hK.out _ _ (fun _ => hSd) ?_
      clear hK K'
      try simp only [Act.put, List.setIfInBounds_toArray, List.set_cons_zero, List.set_cons_succ]
      refine anyT_take (i := 10) (oi := ?oi10z) (v := .bool true) ?hi10z (by kernel_rfl) ?hq10z ?hy10z (by assumption) ?rest10z
      case hi10z => (simp only [List.getElem?_toArray, List.getElem?_cons_succ, List.getElem?_cons_zero]; first | done | rfl)
      case hq10z => first | exact fun _ _ _ h => h | exact fun _ _ _ h => (by cases h.1)
      case hy10z => (refine Or.inl ⟨by rfl, ?_⟩; intro wz hSw; go_simp; first | done | with_reducible rfl | simp [e2] | omega)
      try simp only [Act.put, List.setIfInBounds_toArray, List.set_cons_zero, List.set_cons_succ]
      refine anyT_take (i := 11) (oi := ?oi11z) (v := .bool true) ?hi11z (by kernel_rfl) ?hq11z ?hy11z (by assumption) ?rest11z
      case hi11z => (simp only [List.getElem?_toArray, List.getElem?_cons_succ, List.getElem?_cons_zero]; first | done | rfl)
      case hq11z => first | exact fun _ _ _ h => h | exact fun _ _ _ h => (by cases h.1)
      case hy11z => (refine Or.inl ⟨by rfl, ?_⟩; intro wz hSw; go_simp; first | done | with_reducible rfl | simp | omega)
      try simp only [Act.put, List.setIfInBounds_toArray, List.set_cons_zero, List.set_cons_succ]
      refine anyT_take (i := 12) (oi := ?oi12z) (v := .slice (some ⟨ab, off, none⟩) n c) ?hi12z (by kernel_rfl) ?hq12z ?hy12z (by assumption) ?rest12z
      case hi12z => (simp only [List.getElem?_toArray, List.getElem?_cons_succ, List.getElem?_cons_zero]; first | done | rfl)
      case hq12z => first | exact fun _ _ _ h => h | exact fun _ _ _ h => (by cases h.1)
      case hy12z => (refine Or.inl ⟨by rfl, ?_⟩; intro wz hSw; obtain ⟨hS1, hS2, hS3⟩ := hSw; go_simp; first | done | with_reducible rfl | simp | omega)
      try simp only [Act.put, List.setIfInBounds_toArray, List.set_cons_zero, List.set_cons_succ]
      refine anyT_take (i := 13) (oi := ?oi13z) (v := .int .i64 fr) ?hi13z (by kernel_rfl) ?hq13z ?hy13z (by assumption) ?rest13z
      case hi13z => (simp only [List.getElem?_toArray, List.getElem?_cons_succ, List.getElem?_cons_zero]; first | done | rfl)
      case hq13z => first | exact fun _ _ _ h => h | exact fun _ _ _ h => (by cases h.1)
      case hy13z => (refine Or.inl ⟨by rfl, ?_⟩; intro wz hSw; go_simp; first | done | with_reducible rfl | simp | omega)
      try simp only [Act.put, List.setIfInBounds_toArray, List.set_cons_zero, List.set_cons_succ]
      refine anyT_one (i := 14) (by kernel_rfl) rfl (fun K' hK => ?_)
      go_simp
      refine hcd.mono ?_
      rintro e W9 ⟨rfl, hB9⟩
      have z9 := hB9.size
      have zd := hUd.size
      have zwd := hUwd.size
      have hS9 : (fun w' : World => w'.cell? ⟨w.heap.size, 0, none⟩ = some (.slice (some ⟨ab, off, none⟩) n c) ∧ w'.cell? ⟨W.heap.size + 1, 0, none⟩ = some (.int .i64 (hi : Int)) ∧ w'.cell? ⟨ab, off + a3, none⟩ = some (.int .i64 (zs[a3]?.getD 0))) W9 :=
        ⟨(World.cell?_of_block (hB9.block _ (by show w.heap.size < Wd.heap.size; omega))).trans hSd.1, (World.cell?_of_block (hB9.block _ (by show W.heap.size + 1 < Wd.heap.size; omega))).trans hSd.2.1, (World.cell?_of_block (hB9.block _ (by show ab < Wd.heap.size; omega))).trans hSd.2.2⟩
      have hU9 : Upd (fun k => k = w.heap.size + 1) Wc W9 := hUd.below hB9 (fun k h1 h2 => by omega)
      have hUw9 : Upd (fun k => k = w.heap.size + 1 ∨ D2 k ∨ Wi.heap.size ≤ k) Wj W9 := hUwd.below hB9 (fun k h1 h2 => by omega)
      have bR9 : Boxed W9 (w.heap.size + 1) 4 (.bool false) := (hB9.block _ (by omega)).trans bRd
      refine hK.out _ _ (fun _ => hS9) ?_
      clear hK K'
      try simp only [Act.put, List.setIfInBounds_toArray, List.set_cons_zero, List.set_cons_succ]
      refine anyT_take (i := 15) (oi := ?oi15z) (v := .bool (q == 3)) ?hi15z (by kernel_rfl) ?hq15z ?hy15z (by assumption) ?rest15z
      case hi15z => (simp only [List.getElem?_toArray, List.getElem?_cons_succ, List.getElem?_cons_zero]; first | done | rfl)
      case hq15z => first | exact fun _ _ _ h => h | exact fun _ _ _ h => (by cases h.1)
      case hy15z => (refine Or.inl ⟨by rfl, ?_⟩; intro wz hSw; go_simp; first | done | with_reducible rfl | simp | omega)
      try simp only [Act.put, List.setIfInBounds_toArray, List.set_cons_zero, List.set_cons_succ]
      refine anyT_one (i := 16) (by kernel_rfl) rfl (fun K' hK => ?_)
      go_simp
      refine hK.out _ _ (fun h => absurd rfl h) ?_
      clear hK K'
      try simp only [Act.put, List.setIfInBounds_toArray, List.set_cons_zero, List.set_cons_succ]
      refine anyT_done (by kernel_rfl) ?_ _
      have hcR9 := bR9.cell
      have hfR9 := bR9.frozen
      cases e3 : (q == 3)
      · have HF := Lib.hid (show inZg zs (lo, hi) (pre2 ++ [(a3, a4)]) = false from inZg_snoc hno2 (by rw [Ht.out, e1, e2, e3]; rfl))
        gi_wp2
        exact ⟨D2, ⟨HF.out, bR9, hU9⟩, hUw9, fun k hk => .inl hk⟩
      · have HF := Lib.hid (show inZg zs (lo, hi) (pairsL zs) = true from zg_pre hpre2 (show tstZg zs (lo, hi) (a3, a4) = true by rw [Ht.out, e1, e2, e3]; rfl))
        have hus : Upd (fun k => k = w.heap.size + 1) W9 (W9.setCell ⟨w.heap.size + 1, 0, none⟩ (.bool true)) := (Upd.refl (fun k => k = w.heap.size + 1) W9).setCell (p := ⟨w.heap.size + 1, 0, none⟩) (.inr rfl) _
        gi_wp2
        exact ⟨D2, ⟨rfl, HF.out, bR9.set _, hU9.trans' hus (fun i hi e => e)⟩, hUw9.trans' hus (fun i hi e => .inl e), fun k hk => .inl hk⟩
    case done2 =>
      rintro D2 W3 ⟨hno2, bR2, hU2⟩ hD2
      have HF := Lib.hid (ouZg_snoc hno hno2)
      have hbc : Upd (fun k => k = w.heap.size + 1 ∨ D1 k ∨ W.heap.size ≤ k) Wb W3 := (huc.mono fun _ _ e => e.elim).trans (hU2.mono fun _ _ e => .inl e)
      have hU3 : Upd (fun k => k = w.heap.size + 1) W0 W3 := hUc.trans hU2
      exact ⟨D1, ⟨HF.out, bR2, hU3⟩, hbc, fun k hk => .inl hk⟩
    case stop2 =>
      rintro D2 co pre2 W3 hpre2 ⟨rfl, hF, bR2, hU2⟩ hD2
      have HF := Lib.hid (show ouZg zs (pairsL zs) = true from zg_pre hpre hF)
      have hbc : Upd (fun k => k = w.heap.size + 1 ∨ D1 k ∨ W.heap.size ≤ k) Wb W3 := (huc.mono fun _ _ e => e.elim).trans (hU2.mono fun _ _ e => .inl e)
      have hU3 : Upd (fun k => k = w.heap.size + 1) W0 W3 := hUc.trans hU2
      clear hF
      gi_wp2
      exact ⟨D1, ⟨rfl, HF.out, bR2, hU3⟩, hbc, fun k hk => .inl hk⟩
  case done =>
    rintro d D1 W hd ⟨hno, bR1, hU⟩ hD1 hKd
    have hcR := bR1.cell
    have hfR := bR1.frozen
    have HF := Lib.hid (HE.out.symm.trans hno)
    gi_wp2
    have hus : Upd (fun k => k = w.heap.size + 1) W (W.setCell ⟨w.heap.size + 1, 0, none⟩ (.bool false)) := (Upd.refl (fun k => k = w.heap.size + 1) W).setCell (p := ⟨w.heap.size + 1, 0, none⟩) (.inr rfl) _
    refine leaves_marks [d] _ ⟨by simp, fun b hb => ?_⟩ (fun W' hu' => ?_)
    · rw [List.mem_singleton.1 hb]
      exact (hus.block d (Array.getElem?_eq_some_iff.1 hKd).1 (by omega)).trans hKd
    · have hc' := (hu'.boxed (bR1.set (.bool false)) (by simp; omega)).cell
      exact ⟨.bool false, by simp [results, Try.f66, go_sem, hc'], ret_bool HF.out.symm,
        (((hu0.mono fun _ _ e => e.elim).trans' (hU.trans hus) (fun i hi e => by omega)).trans' hu' (fun i hi e => by simp at e; omega)).toBelow (R := fun _ => False) (fun _ e => e.elim) (Nat.le_refl _)⟩
  case stop =>
    rintro d D1 co pre W hd hpre ⟨rfl, hF, bR1, hU⟩ hD1 hKd
    have HF := Lib.hid (HE.out.symm.trans hF)
    clear hF
    gi_wp2
    refine leaves_marks [d] _ ⟨by simp, fun b hb => ?_⟩ (fun W' hu' => ?_)
    · rw [List.mem_singleton.1 hb]
      exact hKd
    · have hc' := (hu'.boxed bR1 (by simp; omega)).cell
      exact ⟨.bool true, by simp [results, Try.f66, go_sem, hc'], ret_bool HF.out.symm,
        (((hu0.mono fun _ _ e => e.elim).trans' hU (fun i hi e => by omega)).trans' hu' (fun i hi e => by simp at e; omega)).toBelow (R := fun _ => False) (fun _ e => e.elim) (Nat.le_refl _)⟩
end Go.Proofs.Ytghogabmkbadjab

/- GreedyLine: the program's. -/
import Derived.Test.YtipdmaggfbfnlaaDoorGrM
import Derived.Test.YtipdmaggfbfnlaaDoorTz
import Derived.Test.YtipdmaggfbfnlaaDoorLineI
import Derived.Test.YtipdmaggfbfnlaaDoorRowV
import Derived.Test.YtipdmaggfbfnlaaDoorGb
import Derived.Test.YtipdmaggfbfnlaaDoorMk6
import Derived.Test.YtipdmaggfbfnlaaDoorGa
set_option linter.unusedVariables false
set_option linter.unusedSimpArgs false
namespace Go.Proofs.YtipdmaggfbfnlaaDoor
open Go.RowKit Go.Shelf
attribute [local go_sem] Oper.semAt_some

theorem quiet_zeroG {P : Program} {f : FuncId} {args : Array Value} {w : World} {n : Nat} {v : Value}
    (h : Calls P f args (w.drewN n) fun e w' => e = .returned v ∧ w.drewN n = w') :
    Calls P f args (w.drewN n) fun e w'' => e = .returned v ∧ ∃ m, w'' = w.drewN m :=
  h.mono fun _ _ ⟨he, hm⟩ => ⟨he, n, hm.symm⟩
/-- What the program takes as above. -/
def grA (zs : List Int) (k : Nat) : Int := if k = 0 then powI (zs.length : Int) - 1 else (grS zs k).2.2.2
theorem grA_pick {zs : List Int} (hvo : VoP zs) {k : Nat} (hk : k < zs.length) : grPick zs (grS zs k).2.1 (grA zs k) = grPick zs (grS zs k).2.1 (grS zs k).2.2.2 := by
  unfold grA
  split
  · rename_i e
    subst e
    have ih := gr_ok hvo 0 (by omega)
    rw [show zs.length - 0 = (zs.length - 1) + 1 by omega] at ih
    exact pick_all _ (nxA_some hvo rfl ih)
  · rfl
theorem grA_bd {zs : List Int} (hvo : VoP zs) (k : Nat) (hk : k ≤ zs.length) : 0 ≤ grA zs k ∧ grA zs k < 64 := by
  have hp := powI_le6 (n := (zs.length : Int)) (by have := hvo.1; omega)
  have hp0 := powI_pos (zs.length : Int)
  unfold grA
  split
  · omega
  · exact gr_above hvo k hk

theorem OwnS.later89 {S : Nat → Prop} {w w' : World} {B : Nat} {e : TypeId} {v : Value} {xs : List Int} (h : OwnS S w B e v xs) (hB : Below w.heap.size w w') : OwnS S w' B e v xs := by
  have hl := own_lt' h.2
  have h1 : OwnS (fun k => k < w.heap.size) w B e v xs := ⟨hl, h.2⟩
  exact ⟨h.1, (h1.keep (Below.toUpd hB) (fun k hk e => by omega)).2⟩

set_option maxRecDepth 100000 in
set_option maxHeartbeats 4000000 in
theorem ogreedy_any (b n c : Nat) (zs : List Int) (hvo : VoP zs) (hlen0 : zs.length = n) (w : World) (hA : Arr w b 36 zs) (hT : Tab w) (hw1 : 1 < w.heap.size) :
    Calls Tryd.prog 15 #[.slice (some ⟨b, 0, none⟩) n c] w (GivesRowV w (grS zs n).1) := by
  have hlen := Lib.hid hlen0
  have hn6 : n ≤ 6 := by have := hvo.1; omega
  have hpn : powI n ≤ 64 := powI_le6 (by omega)
  have hpp := powI_pos (n : Int)
  obtain ⟨i0, hi0, hz0, hz1, hz2⟩ := info_parts infoInt
  clear hlen0
  go_enter Tryd.func15, Tryd.ntmps15
  go_wp2_with fail
  refine (lineup_any _ n _ zs hvo.sets _ (hA.ints' hA.lt hlen.out)).mono ?_
  rintro e w2 ⟨bd, bm, rfl, hA2, hm2, hbd, hbm, hne, hB2⟩
  unfold lineV
  go_wp2_with fail
  have z2 := hB2.size
  have hs0 : (w2.alloc (.cells #[Value.slice (some ⟨bd, 0, none⟩) n n, .map (some bm)] 40)).heap[w2.heap.size]? = some (.cells #[Value.slice (some ⟨bd, 0, none⟩) n n, .map (some bm)] 40 (0, 0)) := heap_alloc_new w2 _
  have hU3 : Upd (fun _ => False) w2 (w2.alloc (.cells #[Value.slice (some ⟨bd, 0, none⟩) n n, .map (some bm)] 40)) := (Upd.refl _ w2).alloc _
  have hz3 : (w2.alloc (.cells #[Value.slice (some ⟨bd, 0, none⟩) n n, .map (some bm)] 40)).heap.size = w2.heap.size + 1 := by simp
  refine region_T (S := fun w' => w'.heap[w2.heap.size]? = some (.cells #[Value.slice (some ⟨bd, 0, none⟩) n n, .map (some bm)] 40 (0, 0))) 5 (by kernel_rfl) ?_
  obtain ⟨Wd, hWd⟩ : ∃ Wd, (w2.alloc (.cells #[Value.slice (some ⟨bd, 0, none⟩) n n, .map (some bm)] 40)).drew = Wd := ⟨_, rfl⟩
  have hUd : Upd (fun _ => False) w2 Wd := by rw [← hWd]; exact hU3.drew
  have hSd : (fun w' : World => w'.heap[w2.heap.size]? = some (.cells #[Value.slice (some ⟨bd, 0, none⟩) n n, .map (some bm)] 40 (0, 0))) Wd := by rw [← hWd]; exact hs0
  have hzd : w2.heap.size < Wd.heap.size := (Array.getElem?_eq_some_iff.1 hSd).1
  rw [hWd]
  clear hWd hs0 hU3 hz3
  refine anyT_take (i := 0) (oi := ?oi0a) (v := .agg #[Value.slice (some ⟨bd, 0, none⟩) n n, .map (some bm)]) ?hi0a (by kernel_rfl) ?hq0a ?hy0a (by assumption) ?rest0a
  case hi0a => (simp only [List.getElem?_toArray, List.getElem?_cons_zero]; first | done | rfl)
  case hq0a => first | exact fun _ _ _ h => h | exact fun _ _ _ h => (by cases h.1)
  case hy0a => exact yieldsIf_load_row (by rfl) _ _ rfl _ rfl _ _ _ (fun _ h => h) Tryd.underlying40 rfl (by kernel_rfl)
  try simp only [Act.put, List.setIfInBounds_toArray, List.set_cons_zero, List.set_cons_succ]
  refine anyT_take (i := 2) (oi := ?oi2a) (v := .agg #[Value.slice (some ⟨bd, 0, none⟩) n n, .map (some bm)]) ?hi2a (by kernel_rfl) ?hq2a ?hy2a (by assumption) ?rest2a
  case hi2a => (simp only [List.getElem?_toArray, List.getElem?_cons_succ, List.getElem?_cons_zero]; first | done | rfl)
  case hq2a => first | exact fun _ _ _ h => h | exact fun _ _ _ h => (by cases h.1)
  case hy2a => exact yieldsIf_load_row (by rfl) _ _ rfl _ rfl _ _ _ (fun _ h => h) Tryd.underlying40 rfl (by kernel_rfl)
  try simp only [Act.put, List.setIfInBounds_toArray, List.set_cons_zero, List.set_cons_succ]
  refine anyT_one (i := 1) (by kernel_rfl) rfl (fun K' hK => ?_)
  go_simp
  refine (lall2_any bd bm n Wd hn6).mono ?_
  rintro e w5 ⟨rfl, hB5⟩
  have z5 := hB5.size
  have hS5 : (fun w' : World => w'.heap[w2.heap.size]? = some (.cells #[Value.slice (some ⟨bd, 0, none⟩) n n, .map (some bm)] 40 (0, 0))) w5 := (hB5.block _ hzd).trans hSd
  refine hK.out _ _ (fun _ => hS5) ?_
  clear hK K'
  try simp only [Act.put, List.setIfInBounds_toArray, List.set_cons_zero, List.set_cons_succ]
  refine anyT_one (i := 3) (by kernel_rfl) rfl (fun K' hK => ?_)
  go_simp
  refine (lall2_any bd bm n w5 hn6).mono ?_
  rintro e w6 ⟨rfl, hB6⟩
  have z6 := hB6.size
  have hS6 : (fun w' : World => w'.heap[w2.heap.size]? = some (.cells #[Value.slice (some ⟨bd, 0, none⟩) n n, .map (some bm)] 40 (0, 0))) w6 := (hB6.block _ (by omega)).trans hS5
  refine hK.out _ _ (fun _ => hS6) ?_
  clear hK K'
  try simp only [Act.put, List.setIfInBounds_toArray, List.set_cons_zero, List.set_cons_succ]
  refine anyT_one (i := 4) (by kernel_rfl) rfl (fun K' hK => ?_)
  go_simp
  refine hK.out _ _ (fun _ => hS6) ?_
  clear hK K'
  try simp only [Act.put, List.setIfInBounds_toArray, List.set_cons_zero, List.set_cons_succ]
  refine anyT_one (i := 5) (by kernel_rfl) rfl (fun K' hK => ?_)
  go_simp
  refine hK.out _ _ (fun h => absurd rfl h) ?_
  clear hK K'
  try simp only [Act.put, List.setIfInBounds_toArray, List.set_cons_zero, List.set_cons_succ]
  refine anyT_done (by kernel_rfl) ?_ _
  have hB36 := hB5.trans (hB6.mono z5)
  have hU6 : Upd (fun _ => False) w2 w6 := hUd.below hB36 (fun k h1 h2 => by omega)
  have hB26 : Below w.heap.size w w6 := hB2.trans ((hU6.toBelow (B := w2.heap.size) (fun _ e => e.elim) (Nat.le_refl _)).mono z2)
  have hA6 := (hA.below hB2 hA.lt).upd hU6 (fun e => e)
  have hD6 := hA2.upd hU6 (fun e => e)
  have hT6 := hT.below hB26 hw1
  have hs6 : w6.heap[w2.heap.size]? = some (.cells #[Value.slice (some ⟨bd, 0, none⟩) n n, .map (some bm)] 40 (0, 0)) := hS6
  have hl6 : w2.heap.size < w6.heap.size := by omega
  have hbl := hA.lt
  clear hS6 hS5 hSd hUd hB5 hB6 hB36 hU6 hm2
  have hst := gr_ok hvo
  have Hok := Lib.hid hst
  have Hbd2 := Lib.hid (grA_bd hvo)
  clear hst
  go_wp2
  go_loopw [4, 5, 6] (fun v lf ab wr => ∃ k : Nat, k ≤ n ∧ lf = .int .i64 (grS zs k).2.2.1 ∧ ab = .int .i64 (grA zs k) ∧ OwnS (fun i => w6.heap.size ≤ i) wr w6.heap.size 3 v (grS zs k).1 ∧ Below w6.heap.size w6 wr) (fun _ lf _ _ => (popI (intOf lf)).toNat)
  case atStart => exact ⟨0, by omega, by unfold grS; rw [hlen.out], by unfold grA; rw [if_pos rfl, hlen.out], OwnS.none _ _ _ _, Below.refl _ _⟩
  case round =>
    obtain ⟨k, hk, rfl, rfl, hO, hB⟩ := hrel
    rename World => w7
    have z7 := hB.size
    have hL := Hok.out k (by rw [hlen.out]; exact hk)
    rw [hlen.out] at hL
    have Hgl := Lib.hid (grS_len zs k)
    by_cases hlt : k < n
    · have hL' := hL
      rw [show n - k = (n - (k + 1)) + 1 by omega] at hL'
      have hne := nxA_some hvo hlen.out hL'
      have hnz : (grS zs k).2.2.1 ≠ 0 := fun e => by have := (lft_zero hn6 hL).1 e; omega
      have hpop := hL.pop
      have hpop2 := (Hok.out (k + 1) (by rw [hlen.out]; exact hlt)).pop
      rw [hlen.out] at hpop2
      have hnx := next_items hvo hlen.out hn6 hL
      have hgp := grA_pick hvo (k := k) (by rw [hlen.out]; exact hlt)
      have hgm := nxA_mem (gr_pick hvo (k := k) (by rw [hlen.out]; exact hlt))
      rw [hlen.out] at hgm
      have hab := Hbd2.out k (by rw [hlen.out]; exact hk)
      have Hs1 := Lib.hid (show (grS zs (k + 1)).1 = (grS zs k).1 ++ [(grPick zs (grS zs k).2.1 (grS zs k).2.2.2 : Int)] from rfl)
      have Hs2 := Lib.hid (show (grS zs (k + 1)).2.2.1 = lessI (grS zs k).2.2.1 (powI (grPick zs (grS zs k).2.1 (grS zs k).2.2.2)) from rfl)
      have Hs3 := Lib.hid (show grA zs (k + 1) = zs[grPick zs (grS zs k).2.1 (grS zs k).2.2.2]?.getD 0 by unfold grA; rw [if_neg (by omega)]; rfl)
      have hT0 := topsTo_bd (du zs) (grS zs k).2.2.1 n
      have hl0 := hL.l0
      have hl1 := hL.l1
      obtain ⟨tt, ht0, ht1, htv, htl⟩ := low_pick (A := grA zs k) hnx hT0.1 (by omega) hne
      rw [hgp] at htl
      have hfree := free_any bd bm n zs (grS zs k).2.2.1 hvo.sets
      have hp2 := Lib.hid hpop2
      have hp1 := Lib.hid hpop
      have Htl := Lib.hid htl
      have hxz := hvo.bd (grPick zs (grS zs k).2.1 (grS zs k).2.2.2) (by rw [hlen.out]; exact hgm.1)
      clear hL hL' hne hnx hgp hpop hpop2 htl
      generalize hx : grPick zs (grS zs k).2.1 (grS zs k).2.2.2 = x at *
      clear hx
      generalize hlf : (grS zs k).2.2.1 = lf at *
      have Hlf := Lib.hid hlf
      clear hlf
      generalize topsTo (du zs) lf n = T at *
      generalize grA zs k = ab at *
      generalize (grS zs k).1 = so at *
      have hband : bits .and .i64 T ab = andI T ab := bits_and hT0.1 (by omega) hab.1 (by omega)
      have hs7 := (hB.block w2.heap.size hl6).trans hs6
      have hD7 := hD6.below hB (by have := hD6.lt; omega)
      have hA7 := hA6.below hB (by have := hA6.lt; omega)
      have hT7 := hT6.below hB (by omega)
      have hDi := hD7.ints' (B := w7.heap.size) hD7.lt (by rw [du_len, hlen.out])
      have hcx := hA7.cell (k := x) (by rw [hlen.out]; exact hgm.1)
      have hlb : (lf != 0) = true := by simpa using hnz
      obtain ⟨A4, c4, rfl, -, -⟩ := ints_of_own_at hO.2
      have hsl := Hgl.out
      have Hsl := Lib.hid hsl
      clear hsl Hgl
      by_cases hand : andI T ab = 0
      · rw [if_pos hand] at htv
        rw [hand] at hband
        have Htv := Lib.hid htv
        clear htv
        go_wp2_with (first
          | (refine wpList_load_row rfl _ _ rfl w2.heap.size rfl _ _ (0, 0) _ hs7 Tryd.underlying40 rfl (by kernel_rfl) ?_))
        refine (hfree w7 hDi hl0 hl1).mono ?_
        rintro e w8 ⟨rfl, hB8⟩
        have z8 := hB8.size
        have hs8 := (hB8.block w2.heap.size (by omega)).trans hs7
        go_wp2_with (first
          | (refine wpList_load_row rfl _ _ rfl w2.heap.size rfl _ _ (0, 0) _ hs8 Tryd.underlying40 rfl (by kernel_rfl) ?_))
        refine (hfree w8 (hDi.to hB8 (Nat.le_refl _) z8) hl0 hl1).mono ?_
        rintro e w9 ⟨rfl, hB9⟩
        rw [Htv.out]
        have z9 := hB9.size
        have hB89 := hB8.trans (hB9.mono z8)
        have z89 := hB89.size
        have hT9 := hT7.below hB89 (by omega)
        have hO9 := hO.later89 hB89
        have hcx9 := (Below.toUpd hB89).cell hcx (by simp only; omega)
        go_wp2_with fail
        refine (first_any tt ht0 ht1 w9 hT9).mono ?_
        rw [Htl.out]
        rintro e wq ⟨rfl, rfl⟩
        go_wp2_with (at_builtin; refine wpList_append1 _ rfl (.tmp 29) (.tmp 31) _ rfl w6.heap.size 3 i0 _ 8 Tryd.underlying22 hi0 hz0 hz1 hz2 rfl _ so.length _ rfl (hO9.2.alloc _) w9.heap.size 1 (.int .i64 (x : Int)) rfl (cell_new _ _ _) rfl (by rw [Hsl.out]; omega) (by rw [Hsl.out]; omega) (by simp; omega) ?_; rintro v' w10 hown' hg' hv')
        have zg := hg'.size
        simp at zg
        have hst := hO9.step (S' := fun i => w6.heap.size ≤ i) hown' hv' (fun i e => e) (fun _ => by omega)
        have hB10 : Below w6.heap.size w6 w10 := (hB.trans (hB89.mono z7)).trans ((((Upd.refl (fun i => w6.heap.size ≤ i) w9).alloc _).grown hg' (fun i e => .inr (hO9.1 i e))).toBelow (fun i e => e) (by omega))
        have hA10 := hA6.below hB10 (by have := hA6.lt; omega)
        have hcx10 := hA10.cell (k := x) (by rw [hlen.out]; exact hgm.1)
        clear hcx9 hcx hown' hg' hv' hO9 hO
        have HB10 := Lib.hid hB10
        have Hst := Lib.hid hst
        clear hB10 hst
        go_quiet ((go_at_call 23; exact quiet_zeroG (without_any lf (x : Int) _ (by omega) (by omega) (by omega) (by omega))))
        go_wp2
        go_roundw
        case rel => exact ⟨k + 1, by omega, by rw [Hs2.out], by rw [Hs3.out], by rw [Hs1.out]; exact ⟨Hst.out.1, Hst.out.2⟩, below_drewN HB10.out _⟩
        case measure => (have q1 := hp1.out; have q2 := hp2.out; rw [Hs2.out] at q2; simp only [intOf] at q1 q2 ⊢; omega)
      · rw [if_neg hand] at htv
        rw [htv] at hband
        clear htv
        have hnb : ((tt : Int) == 0) = false := by simpa using ht0
        go_wp2_with (first
          | (refine wpList_load_row rfl _ _ rfl w2.heap.size rfl _ _ (0, 0) _ hs7 Tryd.underlying40 rfl (by kernel_rfl) ?_))
        refine (hfree w7 hDi hl0 hl1).mono ?_
        rintro e w8 ⟨rfl, hB8⟩
        have z8 := hB8.size
        have hs8 := (hB8.block w2.heap.size (by omega)).trans hs7
        obtain ⟨w9, hw9⟩ : ∃ w9, w8 = w9 := ⟨_, rfl⟩
        have hB89 := hB8
        rw [hw9] at hB89 ⊢
        clear hw9 hs8
        have z89 := hB89.size
        have hT9 := hT7.below hB89 (by omega)
        have hO9 := hO.later89 hB89
        have hcx9 := (Below.toUpd hB89).cell hcx (by simp only; omega)
        go_wp2_with fail
        refine (first_any tt ht0 ht1 w9 hT9).mono ?_
        rw [Htl.out]
        rintro e wq ⟨rfl, rfl⟩
        go_wp2_with (at_builtin; refine wpList_append1 _ rfl (.tmp 29) (.tmp 31) _ rfl w6.heap.size 3 i0 _ 8 Tryd.underlying22 hi0 hz0 hz1 hz2 rfl _ so.length _ rfl (hO9.2.alloc _) w9.heap.size 1 (.int .i64 (x : Int)) rfl (cell_new _ _ _) rfl (by rw [Hsl.out]; omega) (by rw [Hsl.out]; omega) (by simp; omega) ?_; rintro v' w10 hown' hg' hv')
        have zg := hg'.size
        simp at zg
        have hst := hO9.step (S' := fun i => w6.heap.size ≤ i) hown' hv' (fun i e => e) (fun _ => by omega)
        have hB10 : Below w6.heap.size w6 w10 := (hB.trans (hB89.mono z7)).trans ((((Upd.refl (fun i => w6.heap.size ≤ i) w9).alloc _).grown hg' (fun i e => .inr (hO9.1 i e))).toBelow (fun i e => e) (by omega))
        have hA10 := hA6.below hB10 (by have := hA6.lt; omega)
        have hcx10 := hA10.cell (k := x) (by rw [hlen.out]; exact hgm.1)
        clear hcx9 hcx hown' hg' hv' hO9 hO
        have HB10 := Lib.hid hB10
        have Hst := Lib.hid hst
        clear hB10 hst
        go_quiet ((go_at_call 23; exact quiet_zeroG (without_any lf (x : Int) _ (by omega) (by omega) (by omega) (by omega))))
        go_wp2
        go_roundw
        case rel => exact ⟨k + 1, by omega, by rw [Hs2.out], by rw [Hs3.out], by rw [Hs1.out]; exact ⟨Hst.out.1, Hst.out.2⟩, below_drewN HB10.out _⟩
        case measure => (have q1 := hp1.out; have q2 := hp2.out; rw [Hs2.out] at q2; simp only [intOf] at q1 q2 ⊢; omega)
    · obtain rfl : k = n := by omega
      have hz := (lft_zero hn6 hL).2 (by omega)
      rw [hz]
      obtain ⟨A', c', he, hRV⟩ := rowV_of_own hO.2
      rw [Hgl.out] at hRV
      subst he
      have HRV := Lib.hid hRV
      clear hRV
      go_wp2
      go_ret
      exact ⟨A', _, c', rfl, by rw [Hgl.out]; exact HRV.out.more (by omega) (Nat.le_refl _), hB26.trans (hB.mono (by omega))⟩

set_option maxHeartbeats 1000000 in
theorem GreedyLine_any (A : Option Addr) (n c : Nat) (zs : List Int) (w : World) (h : Ints w w.heap.size A n zs) (hbig : n ≤ 1152921504606846976) (hT : Tab w) (hw1 : 1 < w.heap.size) :
    Calls Tryd.prog 6 #[.slice A n c] w (GivesRowV w (greedyR zs)) := by
  have hlen := Lib.hid h.len
  cases hv : vo zs
  · have Ht := Lib.hid (show greedyR zs = [] by unfold greedyR; rw [hv]; rfl)
    have Hv := Lib.hid hv
    clear hv
    go_enter Tryd.func6, Tryd.ntmps6
    go_wp2_with fail
    refine (readOrder_any _ _ _ zs _ h hbig).mono ?_
    rintro e w' ⟨hB, (⟨hv, b, rfl, _, _⟩ | ⟨_, rfl⟩)⟩
    · rw [Hv.out] at hv; cases hv
    · go_wp2_with fail
      go_ret
      exact ⟨none, 0, 0, rfl, by rw [Ht.out]; exact RowV.nil _ _ _ _, hB⟩
  · have hvo : VoP zs := by simpa [vo] using hv
    have Ht := Lib.hid (show greedyR zs = (grS zs n).1 by unfold greedyR; rw [hv, hlen.out]; rfl)
    have Hv := Lib.hid hv
    clear hv
    go_enter Tryd.func6, Tryd.ntmps6
    go_wp2_with fail
    refine (readOrder_any _ _ _ zs _ h hbig).mono ?_
    rintro e w1 ⟨hB, (⟨_, b, rfl, hb, hAr⟩ | ⟨hv, _⟩)⟩
    · have z1 := hB.size
      go_wp2_with fail
      refine (ogreedy_any b n n zs hvo hlen.out w1 hAr (hT.below hB hw1) (by omega)).mono ?_
      rintro e w2 ⟨A2, m2, c2, rfl, r2, hB2⟩
      go_wp2_with fail
      go_ret
      exact ⟨A2, m2, c2, rfl, by rw [Ht.out]; exact r2.more z1 (Nat.le_refl _), hB.trans (hB2.mono z1)⟩
    · rw [Hv.out] at hv; cases hv
end Go.Proofs.YtipdmaggfbfnlaaDoor

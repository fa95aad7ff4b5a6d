/- The program's count of sets by their sizes, for a test that is handed in. -/
import Derived.Test.YtghogabmkbadjabPw
import Derived.Test.YtghogabmkbadjabGa
set_option linter.unusedVariables false
set_option linter.unusedSimpArgs false
namespace Go.Proofs.Ytghogabmkbadjab
open Go.RowKit Go.Shelf
attribute [local go_sem] Oper.semAt_some
attribute [local go_sem, local simp] wide_fn

/-- The test g, bound to the order: what it answers. -/
def Tests (g : FuncId) (A : Option Addr) (n c : Nat) (zs : List Int) (p : Int → Bool) : Prop :=
  ∀ (s : Int) (w : World), 0 ≤ s → s < powI n → Ints w w.heap.size A n zs → Calls Try.prog g #[.slice A n c, .int .i64 s] w fun e W' => e = .returned (.bool (p s)) ∧ Below w.heap.size w W'

theorem cnt_small (p : Int → Bool) (len k : Nat) (hk : k ≤ 64) (i : Nat) : 0 ≤ (cntTo p len k)[i]?.getD 0 ∧ (cntTo p len k)[i]?.getD 0 ≤ 64 := by
  have := cntTo_bd p len k i; omega
theorem popI_le_n_fin : ∀ n : Fin 7, ∀ k : Fin 64, (k.val : Int) < powI (n.val : Int) → popI (k.val : Int) ≤ (n.val : Int) := by decide +kernel
theorem popI_le_n {n : Nat} {s : Int} (hn : n ≤ 6) (h0 : 0 ≤ s) (h1 : s < powI n) : popI s ≤ n := by
  have hpn := powI_le6 (n := (n : Int)) (by omega)
  obtain ⟨k, rfl⟩ := Int.eq_ofNat_of_zero_le h0
  exact popI_le_n_fin ⟨n, by omega⟩ ⟨k, by omega⟩ h1

theorem range_at {N : Nat} {pre : List Nat} {x : Nat} (h : pre ++ [x] <+: List.range N) : x = pre.length ∧ pre.length < N := by
  have hl := h.length_le
  simp at hl
  have e := h.getElem (i := pre.length) (by simp)
  simp at e
  exact ⟨e, by omega⟩

/-- What countSets hands back: the first m numbers of a row of its own. -/
def GivesCut (w : World) (xs : List Int) (m : Nat) (e : Ending) (w' : World) : Prop :=
  ∃ b c, e = .returned (.slice (some ⟨b, 0, none⟩) m c) ∧ Arr w' b 3 xs ∧ w.heap.size ≤ b ∧ m ≤ xs.length ∧ Below w.heap.size w w'

set_option maxRecDepth 100000 in
set_option maxHeartbeats 4000000 in
theorem countSets_any (g : FuncId) (hg : ∀ args w, (callFunc g args).run Try.prog w = .ok (.enter g args) w) (A : Option Addr) (n c : Nat) (zs : List Int) (p : Int → Bool) (hn6 : n ≤ 6) (w : World) (hA : Ints w w.heap.size A n zs) (hT : Tests g A n c zs p) :
    Calls Try.prog 126 #[.slice A n c, .func (.func g) #[.slice A n c] #[]] w fun e W' => GivesCut w (cntTo p (n + 1) (2 ^ n)) ((grTo p (2 ^ n)).toNat + 1) e W' := by
  refine (callsIn_wide (n := 9)).1 ?_
  refine callsIn_of_wp_marks Try.func126 rfl trivial ?_ rfl
  simp only [Try.ntmps126, List.size_toArray, List.length_cons, List.length_nil, Nat.reduceAdd, Nat.reduceSub, Array.replicate_succ, Array.replicate_zero, List.push_toArray, List.append_toArray, List.nil_append, List.cons_append]
  have hlen := Lib.hid hA.len
  have hp6 : (2 : Nat) ^ n ≤ 2 ^ 6 := Nat.pow_le_pow_right (by decide) hn6
  have hN := Lib.hid (show powI n = ((2 ^ n : Nat) : Int) by simp [powI])
  have hmk := run_make_row' (P := Try.prog) 22 3 (.int .i64 0) 8 Try.underlying22 infoInt rfl .i64 .i64 (n + 1) (by omega) (by omega)
  rw [Int.natCast_add, Int.cast_ofNat_Int] at hmk
  gi_wp2_with (gi_at_call 158; refine (callsIn_wide.2 (sets_any _ _ _ _)).mono ?_; rintro e w' ⟨rfl, rfl⟩)
  have bF := ((((Boxed.new w 64 (.func (.func g) #[.slice A n c] #[])).alloc (.cells (madeCells #[Value.int .i64 0] (n + 1)) 3)).alloc (.cells #[Value.slice (some ⟨w.heap.size + 1, 0, none⟩) (n + 1) (n + 1)] 22)).alloc (.cells #[Value.int .i64 0] 3)).alloc (.cells #[Value.slice A n c] 49)
  have aR := (((Arr.new (w.alloc (.cells #[Value.func (.func g) #[.slice A n c] #[]] 64)) 3 (n + 1)).alloc (.cells #[Value.slice (some ⟨w.heap.size + 1, 0, none⟩) (n + 1) (n + 1)] 22)).alloc (.cells #[Value.int .i64 0] 3)).alloc (.cells #[Value.slice A n c] 49)
  have bC := ((Boxed.new ((w.alloc (.cells #[Value.func (.func g) #[.slice A n c] #[]] 64)).alloc (.cells (madeCells #[Value.int .i64 0] (n + 1)) 3)) 22 (.slice (some ⟨w.heap.size + 1, 0, none⟩) (n + 1) (n + 1))).alloc (.cells #[Value.int .i64 0] 3)).alloc (.cells #[Value.slice A n c] 49)
  have bG := (Boxed.new (((w.alloc (.cells #[Value.func (.func g) #[.slice A n c] #[]] 64)).alloc (.cells (madeCells #[Value.int .i64 0] (n + 1)) 3)).alloc (.cells #[Value.slice (some ⟨w.heap.size + 1, 0, none⟩) (n + 1) (n + 1)] 22)) 3 (.int .i64 0)).alloc (.cells #[Value.slice A n c] 49)
  have bE := Boxed.new ((((w.alloc (.cells #[Value.func (.func g) #[.slice A n c] #[]] 64)).alloc (.cells (madeCells #[Value.int .i64 0] (n + 1)) 3)).alloc (.cells #[Value.slice (some ⟨w.heap.size + 1, 0, none⟩) (n + 1) (n + 1)] 22)).alloc (.cells #[Value.int .i64 0] 3)) 49 (.slice A n c)
  have hu0 : Upd (fun _ => False) w (((((w.alloc (.cells #[Value.func (.func g) #[.slice A n c] #[]] 64)).alloc (.cells (madeCells #[Value.int .i64 0] (n + 1)) 3)).alloc (.cells #[Value.slice (some ⟨w.heap.size + 1, 0, none⟩) (n + 1) (n + 1)] 22)).alloc (.cells #[Value.int .i64 0] 3)).alloc (.cells #[Value.slice A n c] 49)) := (((((Upd.refl _ w).alloc _).alloc _).alloc _).alloc _).alloc _
  have hz0 : (((((w.alloc (.cells #[Value.func (.func g) #[.slice A n c] #[]] 64)).alloc (.cells (madeCells #[Value.int .i64 0] (n + 1)) 3)).alloc (.cells #[Value.slice (some ⟨w.heap.size + 1, 0, none⟩) (n + 1) (n + 1)] 22)).alloc (.cells #[Value.int .i64 0] 3)).alloc (.cells #[Value.slice A n c] 49)).heap.size = w.heap.size + 5 := by simp
  simp only [World.size_alloc] at bC bG bE aR
  obtain ⟨W0, hW0⟩ : ∃ W0, (((((w.alloc (.cells #[Value.func (.func g) #[.slice A n c] #[]] 64)).alloc (.cells (madeCells #[Value.int .i64 0] (n + 1)) 3)).alloc (.cells #[Value.slice (some ⟨w.heap.size + 1, 0, none⟩) (n + 1) (n + 1)] 22)).alloc (.cells #[Value.int .i64 0] 3)).alloc (.cells #[Value.slice A n c] 49)) = W0 := ⟨_, rfl⟩
  rw [hW0] at bF bC bG bE aR hu0 hz0 ⊢
  clear hW0 hmk
  have hA0 : Ints W0 w.heap.size A n zs := hA.below (hu0.toBelow (fun _ e => e.elim) (Nat.le_refl _))
  refine range_out (n := 9) (gf := 186) (lb := #[.pointer (some ⟨w.heap.size + 1 + 1 + 1 + 1, 0, none⟩)]) rfl (enters_of Try.func186 (by kernel_rfl) rfl) (encs := encS) (L := List.range (2 ^ n))
    (fun k => k = w.heap.size + 1 ∨ k = w.heap.size + 1 + 1 + 1) (fun k e => by omega) (fun _ => rfl)
    (fun W1 l1 hu1 hl1 hl2 => sets_iter _ _ _ hn6 _ _ W1 (hu1.boxed bE (fun e => e)))
    (fun pre D W => Arr W (w.heap.size + 1) 3 (cntTo p (n + 1) pre.length) ∧ Boxed W (w.heap.size + 1 + 1 + 1) 3 (.int .i64 (grTo p pre.length)) ∧ Upd (fun k => w.heap.size ≤ k ∧ (k = w.heap.size + 1 ∨ k = w.heap.size + 1 + 1 + 1)) W0 W)
    (fun _ _ _ _ => False)
    (fun _ D X Y hs hu => ⟨hs.1.upd hu (fun e => by omega), hu.boxed hs.2.1 (fun e => by omega), hs.2.2.trans' hu (fun i hi e => by omega)⟩)
    (fun _ _ _ _ _ hs _ => hs)
    ⟨aR, bG, Upd.refl _ _⟩ ?owes ?done ?stop
  case owes =>
    rintro l1 pre x D1 W hl1 hl2 hDl hD1 - hpre K hK
    gi_wp2
    refine hK _ _ (Upd.refl _ _) ?_
    rintro Wb hWb - ⟨aR1, bG1, hU⟩
    clear hK
    obtain ⟨hx, hxN⟩ := range_at hpre
    subst hx
    have hNo := hN.out
    have hsb := hU.size
    have hszb := hWb.size
    have hcF := (hU.boxed bF (by omega)).cell
    have hcC := (hU.boxed bC (by omega)).cell
    have hx64 : pre.length < 64 := by omega
    have hpb := popI_bd (s := (pre.length : Int)) (by omega) (by omega)
    have hpn := popI_le_n (s := (pre.length : Int)) hn6 (by omega) (by omega)
    clear hpre
    generalize hq : pre.length = q at *
    have Hq := Lib.hid hq
    clear hq
    have hAb : Ints Wb w.heap.size A n zs := hA0.below (hU.toBelow (fun k e => e.1) (by omega))
    gi_wp2
    refine (CallsIn.inRound l1 (callsIn_wide.2 (hT q Wb (by omega) (by omega) (hAb.more (by omega))))).mono ?_
    rintro e W1 ⟨rfl, hB1⟩
    have hz1 := hB1.size
    have hU1 := hU.trans' (Below.toUpd hB1) (R := fun k => w.heap.size ≤ k ∧ (k = w.heap.size + 1 ∨ k = w.heap.size + 1 + 1 + 1)) (fun i hi e => by omega)
    have aR2 := aR1.below hB1 (by omega)
    have bG2 : Boxed W1 (w.heap.size + 1 + 1 + 1) 3 (.int .i64 (grTo p q)) := (hB1.block _ (by omega)).trans bG1
    have hV1 : Upd (fun k => (k = w.heap.size + 1 ∨ k = w.heap.size + 1 + 1 + 1) ∨ D1 k ∨ W.heap.size ≤ k) Wb W1 := (Below.toUpd hB1).mono (fun k hk e => by omega)
    clear hAb
    cases hpq : p (q : Int)
    · have Hc := Lib.hid (show cntTo p (n + 1) (q + 1) = cntTo p (n + 1) q by simp [cntTo, hpq])
      have Hg := Lib.hid (show grTo p (q + 1) = grTo p q by simp [grTo, hpq])
      gi_wp2
      exact ⟨D1, ⟨by rw [List.length_append, List.length_singleton, Hq.out, Hc.out]; exact aR2, by rw [List.length_append, List.length_singleton, Hq.out, Hg.out]; exact bG2, hU1⟩, hV1, fun k hk => .inl hk⟩
    · have Hc := Lib.hid (show cntTo p (n + 1) (q + 1) = (cntTo p (n + 1) q).set (popI (q : Int)).toNat ((cntTo p (n + 1) q)[(popI (q : Int)).toNat]?.getD 0 + 1) by rw [cntTo, if_pos hpq])
      have Hg := Lib.hid (show grTo p (q + 1) = max (grTo p q) (popI (q : Int)) by rw [grTo, if_pos hpq])
      have hlc := cntTo_len p (n + 1) q
      have hcs := aR2.cell (k := (popI (q : Int)).toNat) (by rw [hlc]; omega)
      have hfs := aR2.frozen (popI (q : Int)).toNat
      have hcb := cnt_small p (n + 1) q (by omega) (popI (q : Int)).toNat
      have hcF1 := (hU1.boxed bF (by omega)).cell
      have hcC1 := (hU1.boxed bC (by omega)).cell
      have hgn := grTo_nn p q
      have hgb := grTo_bd p q (by omega)
      obtain ⟨m, hm⟩ := Int.eq_ofNat_of_zero_le hpb.1
      rw [hm] at hcs hfs hcb hpb hpn Hc Hg
      simp only [Int.toNat_natCast] at hcs hfs hcb Hc
      have hsz : ∀ w, Calls Try.prog 90 #[.int .i64 (q : Int)] w fun e w' => e = .returned (.int .i64 (m : Int)) ∧ w = w' := fun w => by
        rw [← hm]; exact size_any _ _ (by omega) (by omega)
      generalize cntTo p (n + 1) q = C at *
      generalize grTo p q = G at *
      gi_wp2
      refine region_tail_round 7 (by kernel_rfl) (by kernel_rfl) (by kernel_rfl) ?_
      simp only [List.take_succ_cons, List.take_zero, List.drop_succ_cons, List.drop_zero]
      repeat (gi_big_quiet_step ((first
        | (gi_at_call 90; exact quietIn_add (hsz _))
        | (gi_at_call 90; exact quietIn_left (hsz _)))))
      refine wpQuietIn_nil ?_
      intro _ hw'
      obtain ⟨nq, hw''⟩ := hw'
      subst hw''
      gi_wp2
      have aR3 := (aR2.drewN nq).set m (C[m]?.getD 0 + 1)
      have bG3 : Boxed ((W1.drewN nq).setCell ⟨w.heap.size + 1, m, none⟩ (.int .i64 (C[m]?.getD 0 + 1))) (w.heap.size + 1 + 1 + 1) 3 (.int .i64 G) := (Below.heap_setCell (W1.drewN nq) ⟨w.heap.size + 1, m, none⟩ _ (w.heap.size + 1 + 1 + 1) (by simp; omega)).trans bG2
      have hU3 : Upd (fun k => w.heap.size ≤ k ∧ (k = w.heap.size + 1 ∨ k = w.heap.size + 1 + 1 + 1)) W0 ((W1.drewN nq).setCell ⟨w.heap.size + 1, m, none⟩ (.int .i64 (C[m]?.getD 0 + 1))) := (hU1.drewN nq).setCell (p := ⟨w.heap.size + 1, m, none⟩) (.inr (by simp)) _
      have hV3 : Upd (fun k => (k = w.heap.size + 1 ∨ k = w.heap.size + 1 + 1 + 1) ∨ D1 k ∨ W.heap.size ≤ k) Wb ((W1.drewN nq).setCell ⟨w.heap.size + 1, m, none⟩ (.int .i64 (C[m]?.getD 0 + 1))) := (hV1.drewN nq).setCell (p := ⟨w.heap.size + 1, m, none⟩) (.inr (by simp)) _
      obtain ⟨W3, hW3⟩ : ∃ W3, (W1.drewN nq).setCell ⟨w.heap.size + 1, m, none⟩ (.int .i64 (C[m]?.getD 0 + 1)) = W3 := ⟨_, rfl⟩
      rw [hW3] at aR3 bG3 hU3 hV3 ⊢
      clear hW3 hU1 hV1 aR2 bG2 hcs hfs hcC1 hcF1
      have hcG := bG3.cell
      have hfG := bG3.frozen
      refine region_tail_round 4 (by kernel_rfl) (by kernel_rfl) (by kernel_rfl) ?_
      simp only [List.take_succ_cons, List.take_zero, List.drop_succ_cons, List.drop_zero]
      repeat (gi_big_quiet_step ((first
        | (gi_at_call 90; exact quietIn_add (hsz _))
        | (gi_at_call 90; exact quietIn_left (hsz _)))))
      refine wpQuietIn_nil ?_
      intro _ hw'
      obtain ⟨nr, hw''⟩ := hw'
      subst hw''
      gi_wp2
      all_goals exact ⟨D1, ⟨by rw [List.length_append, List.length_singleton, Hq.out, Hc.out]; exact (aR3.drewN nr).far (by simp) _, by
            rw [List.length_append, List.length_singleton, Hq.out, Hg.out]
            first
              | (rw [Int.max_eq_left (by omega)]; exact Boxed.set (W := W3.drewN nr) (v := .int .i64 G) _ bG3)
              | (rw [Int.max_eq_right (by omega)]; exact Boxed.set (W := W3.drewN nr) (v := .int .i64 G) _ bG3), (hU3.drewN nr).setCell (p := ⟨w.heap.size + 1 + 1 + 1, 0, none⟩) (.inr (by simp; omega)) _⟩,
        (hV3.drewN nr).setCell (p := ⟨w.heap.size + 1 + 1 + 1, 0, none⟩) (.inr (by simp)) _, fun k hk => .inl hk⟩
  case done =>
    rintro d D1 W hd ⟨aR1, bG1, hU⟩ hD1 hKd
    rw [List.length_range] at aR1 bG1
    have hNo := hN.out
    have hcC := (hU.boxed bC (by omega)).cell
    have hcG := bG1.cell
    have hg0 := grTo_nn p (2 ^ n)
    have hgn : grTo p (2 ^ n) ≤ n := grTo_le (by omega) _ (fun j hj _ => popI_le_n hn6 (by omega) (by omega))
    obtain ⟨m, hm⟩ := Int.eq_ofNat_of_zero_le hg0
    have hlc := cntTo_len p (n + 1) (2 ^ n)
    have Hm := Lib.hid hm
    rw [hm] at hcG hgn
    clear hm hg0
    gi_wp2
    refine leaves_marks [d] _ ⟨by simp, fun b hb => ?_⟩ (fun W' hu' => ?_)
    · rw [List.mem_singleton.1 hb]
      exact hKd
    · exact ⟨.slice (some ⟨w.heap.size + 1, 0, none⟩) (m + 1) (n + 1), by simp [results, Try.f126, go_sem], w.heap.size + 1, n + 1, by rw [Hm.out]; rfl, aR1.upd hu' (by simp; omega), by omega, by rw [Hm.out, hlc]; simp; omega,
        (((hu0.mono fun _ _ e => e.elim).trans' hU (fun i hi e => by omega)).trans' hu' (fun i hi e => by simp at e; omega)).toBelow (R := fun _ => False) (fun _ e => e.elim) (Nat.le_refl _)⟩
  case stop =>
    rintro d D1 co pre W hd hpre h
    exact h.elim

theorem greatestOf_any (g : FuncId) (hg : ∀ args w, (callFunc g args).run Try.prog w = .ok (.enter g args) w) (A : Option Addr) (n c : Nat) (zs : List Int) (p : Int → Bool) (hn6 : n ≤ 6) (w : World) (hA : Ints w w.heap.size A n zs) (hT : Tests g A n c zs p) :
    Calls Try.prog 79 #[.slice A n c, .func (.func g) #[.slice A n c] #[]] w fun e W' => e = .returned (.int .i64 (grTo p (2 ^ n))) ∧ Below w.heap.size w W' := by
  have hN := Lib.hid (show powI n = ((2 ^ n : Nat) : Int) by simp [powI])
  have hNo := hN.out
  have hg0 := grTo_nn p (2 ^ n)
  have hgn : grTo p (2 ^ n) ≤ n := grTo_le (by omega) _ (fun j hj _ => popI_le_n hn6 (by omega) (by omega))
  clear hNo
  obtain ⟨m, hm⟩ := Int.eq_ofNat_of_zero_le hg0
  rw [hm] at hgn ⊢
  have hcs := countSets_any g hg A n c zs p hn6 w hA hT
  rw [hm] at hcs
  go_enter Try.func79, Try.ntmps79
  go_wp2_with (go_at_call 126; refine hcs.mono ?_; rintro e w' ⟨b, c', rfl, hAr, hb, hm', hB⟩)
  go_ret
  exact ⟨ret_int (by simp), hB⟩

/-! Both tests that there are. -/
theorem tests_chain (A : Option Addr) (n c : Nat) (zs : List Int) (hv : VoP zs) : Tests 80 A n c zs (chB zs) := fun s w h0 h1 h => isChain_any A n c zs s hv w h h0 h1
theorem tests_apart (A : Option Addr) (n c : Nat) (zs : List Int) (hv : VoP zs) : Tests 93 A n c zs (apB zs) := fun s w h0 h1 h => isApart_any A n c zs s hv.sets w h h0 h1
theorem enters_chain : ∀ args w, (callFunc 80 args).run Try.prog w = .ok (.enter 80 args) w := enters_of Try.func80 (by kernel_rfl) rfl
theorem enters_apart : ∀ args w, (callFunc 93 args).run Try.prog w = .ok (.enter 93 args) w := enters_of Try.func93 (by kernel_rfl) rfl
end Go.Proofs.Ytghogabmkbadjab

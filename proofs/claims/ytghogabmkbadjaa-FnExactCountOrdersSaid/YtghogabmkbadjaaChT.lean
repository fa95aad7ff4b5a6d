/- The program's choice of sets: the whole function. -/
import Derived.Test.YtghogabmkbadjaaChS
set_option linter.unusedVariables false
set_option linter.unusedSimpArgs false
namespace Go.Proofs.Ytghogabmkbadjaa
open Go.RowKit Go.Shelf
attribute [local go_sem] Oper.semAt_some
attribute [local go_sem, local simp] wide_fn

theorem vUp_at {n : Nat} {pre : List (Nat × Int)} {x : Nat × Int} (h : vUp n (pre ++ [x])) : pre.length < n ∧ x.1 = n - 1 - pre.length := by
  unfold vUp at h
  have h1 := h.length_le
  simp at h1
  obtain ⟨t, ht⟩ := h
  have h2 := congrArg (fun l : List Nat => l[pre.length]?) ht
  rw [List.map_append] at h2
  simp only [List.map_cons, List.map_nil, List.append_assoc] at h2
  rw [List.getElem?_append_right (by simp)] at h2
  simp only [List.length_map, Nat.sub_self, List.singleton_append, List.getElem?_cons_zero] at h2
  rw [List.getElem?_reverse (by simp; omega), List.getElem?_range (by simp; omega)] at h2
  simp at h2
  omega

set_option maxRecDepth 100000 in
set_option maxHeartbeats 4000000 in
theorem chooseSets_any (bA n c ch : Nat) (zs : List Int) (hn : n ≤ 4) (hzl : zs.length = n) (hch : ch < 65536) (w : World) (hA : Arr w bA 59 zs) :
    Calls Try.prog 84 #[.slice (some ⟨bA, 0, none⟩) n c, .int .i64 (ch : Int)] w fun e W' => (∃ v, e = .returned v) ∧ Arr W' bA 59 (chK n n ch) ∧ Upd (fun k => k = bA) w W' := by
  have hbl := hA.lt
  obtain ⟨P, hP⟩ : ∃ P, 2 ^ n = P := ⟨_, rfl⟩
  have hpe : powI (n : Int) = (P : Int) := by rw [← hP]; simp [powI]
  have HP := Lib.hid hP
  have hP16 : 1 ≤ P ∧ P ≤ 16 := by
    rw [← hP]
    exact ⟨Nat.one_le_two_pow, Nat.pow_le_pow_right (n := 2) (j := 4) (by decide) hn⟩
  have Hpe := Lib.hid hpe
  clear hP hpe
  refine (callsIn_wide (n := 9)).1 ?_
  refine callsIn_of_wp_marks Try.func84 rfl trivial ?_ rfl
  simp only [Try.ntmps84, List.size_toArray, List.length_cons, List.length_nil, Nat.reduceAdd, Nat.reduceSub, Array.replicate_succ, Array.replicate_zero, List.push_toArray, List.append_toArray, List.nil_append, List.cons_append]
  gi_wp2_with (gi_at_call 97; refine (callsIn_wide.2 (backward_any _ _ _ _)).mono ?_; rintro e w' ⟨rfl, rfl⟩)
  have bO := ((Boxed.new w 44 (.slice (some ⟨bA, 0, none⟩) n c)).alloc (.cells #[Value.int .i64 (ch : Int)] 3)).alloc (.cells #[Value.slice (some ⟨bA, 0, none⟩) n c] 44)
  have bC := (Boxed.new (w.alloc (.cells #[Value.slice (some ⟨bA, 0, none⟩) n c] 44)) 3 (.int .i64 (ch : Int))).alloc (.cells #[Value.slice (some ⟨bA, 0, none⟩) n c] 44)
  have bP := Boxed.new ((w.alloc (.cells #[Value.slice (some ⟨bA, 0, none⟩) n c] 44)).alloc (.cells #[Value.int .i64 (ch : Int)] 3)) 44 (.slice (some ⟨bA, 0, none⟩) n c)
  have hu0 : Upd (fun _ => False) w (((w.alloc (.cells #[Value.slice (some ⟨bA, 0, none⟩) n c] 44)).alloc (.cells #[Value.int .i64 (ch : Int)] 3)).alloc (.cells #[Value.slice (some ⟨bA, 0, none⟩) n c] 44)) := (((Upd.refl _ w).alloc _).alloc _).alloc _
  have hz0 : (((w.alloc (.cells #[Value.slice (some ⟨bA, 0, none⟩) n c] 44)).alloc (.cells #[Value.int .i64 (ch : Int)] 3)).alloc (.cells #[Value.slice (some ⟨bA, 0, none⟩) n c] 44)).heap.size = w.heap.size + 3 := by simp
  simp only [World.size_alloc] at bC bP
  obtain ⟨W0, hW0⟩ : ∃ W0, (((w.alloc (.cells #[Value.slice (some ⟨bA, 0, none⟩) n c] 44)).alloc (.cells #[Value.int .i64 (ch : Int)] 3)).alloc (.cells #[Value.slice (some ⟨bA, 0, none⟩) n c] 44)) = W0 := ⟨_, rfl⟩
  rw [hW0] at bO bC bP hu0 hz0 ⊢
  clear hW0
  have hA0 := hA.upd hu0 (fun e => e)
  have h0 : Arr W0 bA 59 (csL zs n ch 0) := by rw [csL_zero ch hzl]; exact hA0
  refine range_outV (n := 9) (gf := 105) (lb := #[.pointer (some ⟨w.heap.size + 1 + 1, 0, none⟩)]) rfl (enters_of Try.func105 (by kernel_rfl) rfl) (encs := encV) (Ok := vUp n) (Full := vFull n) (vSee bA n)
    (fun k => k = bA ∨ k = w.heap.size + 1) (fun k e => by omega) (fun _ => rfl)
    (fun W1 l1 hu1 hl1 hl2 => backward_iterV bA n c _ _ W1 (hu1.boxed bP (fun e => e)) (fun e => by omega) (by omega))
    (fun (pre : List (Nat × Int)) D W => Arr W bA 59 (csL zs n ch pre.length) ∧ Boxed W (w.heap.size + 1) 3 (.int .i64 ((ch / 2 ^ (n * pre.length) : Nat) : Int)) ∧ Upd (fun k => k = bA ∨ k = w.heap.size + 1) W0 W)
    (fun _ _ _ _ => False)
    (fun _ D X Y hs hu => ⟨hs.1.upd hu (fun e => by omega), hu.boxed hs.2.1 (fun e => by omega), hs.2.2.trans' hu (fun i hi e => by omega)⟩)
    (fun _ _ _ _ _ hs _ => hs)
    (fun _ _ _ hs => ⟨_, hs.1, csL_len _ _ _ _⟩)
    ⟨h0, by simpa using bC, Upd.refl _ _⟩ ?owes ?done ?stop
  case owes =>
    rintro l1 pre ⟨i, z⟩ D1 W hl1 hl2 hDl - - hD1 - - - - - hpre K hK
    obtain ⟨hkn, hix⟩ := vUp_at hpre
    dsimp only at hix
    have Hix := Lib.hid hix
    have hin : i < n := by omega
    have Hst := Lib.hid (csL_step zs ch hkn hix.symm)
    clear hix
    gi_wp2
    refine hK _ _ (Upd.refl _ _) ?_
    rintro Wb hWb - ⟨hAr, bC1, hU⟩ - -
    clear hK
    have hsb := hU.size
    have hszb := hWb.size
    rw [HP.out] at Hst
    have Hq := Lib.hid (show ch / 2 ^ (n * (pre.length + 1)) = ch / 2 ^ (n * pre.length) / P by rw [Nat.div_div_eq_div_mul, ← HP.out, ← Nat.pow_add]; rfl)
    have hqb : ch / 2 ^ (n * pre.length) < 65536 := Nat.lt_of_le_of_lt (Nat.div_le_self _ _) hch
    have hcl := csL_len zs n ch pre.length
    generalize ch / 2 ^ (n * pre.length) = q at *
    generalize csL zs n ch pre.length = us at *
    have hcO := (hU.boxed bO (fun e => by omega)).cell
    have hcC := bC1.cell
    have hfC := bC1.frozen
    have hcx := hAr.cell (k := i) (by omega)
    have hfx := hAr.frozen i
    obtain ⟨r, hr⟩ : ∃ r, q % P = r := ⟨_, rfl⟩
    rw [hr] at Hst
    have hand : bits .and .i64 (q : Int) ((P : Int) - 1) = (r : Int) := by
      have hp := powI_le6 (n := (n : Int)) (by omega)
      rw [bits_and (by omega) (by omega) (by omega) (by omega)]
      unfold andI
      rw [← hr, ← HP.out]
      have : ((((2 ^ n : Nat) : Int)) - 1).toNat = 2 ^ n - 1 := by
        have := Nat.two_pow_pos n
        omega
      rw [this, Int.toNat_natCast, Nat.and_two_pow_sub_one_eq_mod]
    clear hr
    have hal := fun w9 => oall_any (some ⟨bA, 0, none⟩) n c w9 (by omega)
    rw [Hpe.out] at hal
    clear hpre
    gi_wp2
    refine region_tail_round 7 (by kernel_rfl) (by kernel_rfl) (by kernel_rfl) ?_
    simp only [List.take_succ_cons, List.take_zero, List.drop_succ_cons, List.drop_zero]
    repeat (gi_big_quiet_step ((first
      | (gi_at_call 98; exact quietIn_add (hal _))
      | (gi_at_call 98; exact quietIn_left (hal _)))))
    refine wpQuietIn_nil ?_
    intro _ hw'
    obtain ⟨nq, hw''⟩ := hw'
    subst hw''
    have hne1 : ¬ bA = w.heap.size + 1 := by omega
    have hne2 : ¬ bA = w.heap.size := by omega
    have hne3 : ¬ w.heap.size + 1 = bA := by omega
    have hne4 : ¬ w.heap.size = bA := by omega
    have hu9 : Upd (fun k => k = bA) Wb ((Wb.drewN nq).setCell ⟨bA, i, none⟩ (.int .i64 (r : Int))) := ((Upd.refl (fun k => k = bA) Wb).drewN nq).setCell (p := ⟨bA, i, none⟩) (.inr rfl) _
    have hO9 := hu9.cell hcO (fun e => by simp at e; omega)
    have hC9 := hu9.cell hcC (fun e => by simp at e; omega)
    have hF9 := (hu9.boxed bC1 (fun e => by omega)).frozen
    obtain ⟨s, hs⟩ : ∃ s, q / P = s := ⟨_, rfl⟩
    have hsh : ((q : Int) / 2 ^ n) = (s : Int) := by rw [← hs, ← HP.out]; norm_cast
    rw [hs] at Hq
    clear hs
    gi_wp2
    have hC8 : Boxed ((Wb.drewN nq).setCell ⟨bA, i, none⟩ (.int .i64 (r : Int))) (w.heap.size + 1) 3 (.int .i64 (q : Int)) := hu9.boxed bC1 (fun e => by omega)
    have hu8 : Upd (fun k => k = bA ∨ k = w.heap.size + 1) Wb (((Wb.drewN nq).setCell ⟨bA, i, none⟩ (.int .i64 (r : Int))).setCell ⟨w.heap.size + 1, 0, none⟩ (.int .i64 (s : Int))) := (hu9.mono fun _ _ e => .inl e).setCell (p := ⟨w.heap.size + 1, 0, none⟩) (.inr (.inr rfl)) _
    have hpl : (pre ++ [(i, z)]).length = pre.length + 1 := by simp
    refine keep_end (own := fun _ _ => False) (lent := fun _ _ => False) (Lent := fun _ _ => True) (D := D1) (x := (i, z)) ⟨?_, ?_, hU.trans hu8⟩ trivial (fun k e => e.elim) (hu8.mono fun _ _ e => .inl e)
    · rw [hpl, ← Hst.out]
      exact ((hAr.drewN nq).set i (r : Int)).far (by show bA ≠ w.heap.size + 1; omega) _
    · rw [hpl, Hq.out]
      exact hC8.set _
  case done =>
    rintro d D1 L W hd hF ⟨hAr, bC1, hU⟩ hD1 hKd
    have hL : L.length = n := by
      have := congrArg List.length hF
      simpa using this
    rw [hL, csL_all] at hAr
    gi_wp2
    refine leaves_marks [d] _ ⟨by simp, fun b hb => ?_⟩ (fun W' hu' => ?_)
    · rw [List.mem_singleton.1 hb]
      exact hKd
    · exact ⟨_, results_none rfl _ _ _, ⟨_, rfl⟩, hAr.upd hu' (by simp; omega), (((hu0.mono (S := fun k => k = bA) fun _ _ e => e.elim).trans' hU (fun i hi e => by omega)).trans' hu' (fun i hi e => by simp at e; omega))⟩
  case stop =>
    rintro d D1 co pre W hd hpre h
    exact h.elim
end Go.Proofs.Ytghogabmkbadjaa

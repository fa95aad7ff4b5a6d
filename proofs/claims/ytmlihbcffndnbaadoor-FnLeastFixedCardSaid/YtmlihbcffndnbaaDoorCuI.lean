/- What all of a set have above them: the program's. -/
import Derived.Test.YtmlihbcffndnbaaDoorGxc
import Derived.Test.YtmlihbcffndnbaaDoorLineI
import Derived.Test.YtmlihbcffndnbaaDoorGa
set_option linter.unusedVariables false
set_option linter.unusedSimpArgs false
namespace Go.Proofs.YtmlihbcffndnbaaDoor
open Go.RowKit Go.Shelf
attribute [local go_sem] Oper.semAt_some
attribute [local go_sem, local simp] wide_fn

set_option maxRecDepth 100000 in
set_option maxHeartbeats 4000000 in
theorem atOrAbove_any (A : Option Addr) (n c : Nat) (zs : List Int) (s : Int) (hv : Sets zs) (w : World) (hA : Ints w w.heap.size A n zs) (h0 : 0 ≤ s) (h1 : s < powI n) :
    Calls Tryd.prog 94 #[.slice A n c, .int .i64 s] w fun e W' => e = .returned (.int .i64 (comTo zs s n)) ∧ Below w.heap.size w W' := by
  have hlen := Lib.hid hA.len
  have hn6 : n ≤ 6 := by have := hv.1; rw [hlen.out] at this; exact this
  have hpk : powI n ≤ 64 := powI_le6 (by omega)
  have hpp := powI_pos (n : Int)
  have H0 := Lib.hid (show powI n - 1 = comL zs [] by unfold comL; rw [hlen.out]; rfl)
  have H0b := Lib.hid (show (0 ≤ powI (n : Int) - 1 ∧ powI (n : Int) - 1 < 64) by omega)
  refine (callsIn_wide (n := 9)).1 ?_
  refine callsIn_of_wp_marks Tryd.func94 rfl trivial ?_ rfl
  simp only [Tryd.ntmps94, List.size_toArray, List.length_cons, List.length_nil, Nat.reduceAdd, Nat.reduceSub, Array.replicate_succ, Array.replicate_zero, List.push_toArray, List.append_toArray, List.nil_append, List.cons_append]
  gi_wp2_with (first
    | (gi_at_call 37; refine (callsIn_wide.2 (oall_any _ _ _ _ hn6)).mono ?_; rintro e w' ⟨rfl, rfl⟩)
    | (gi_at_call 59; refine (callsIn_wide.2 (each_any _ _)).mono ?_; rintro e w' ⟨rfl, rfl⟩))
  have bO := ((Boxed.new w 42 (.slice A n c)).alloc (.cells #[Value.int .i64 (powI n - 1)] 59)).alloc (.cells #[Value.int .i64 s] 59)
  have bT := (Boxed.new (w.alloc (.cells #[Value.slice A n c] 42)) 59 (.int .i64 (powI n - 1))).alloc (.cells #[Value.int .i64 s] 59)
  have bE := Boxed.new ((w.alloc (.cells #[Value.slice A n c] 42)).alloc (.cells #[Value.int .i64 (powI n - 1)] 59)) 59 (.int .i64 s)
  have hu0 : Upd (fun _ => False) w (((w.alloc (.cells #[Value.slice A n c] 42)).alloc (.cells #[Value.int .i64 (powI n - 1)] 59)).alloc (.cells #[Value.int .i64 s] 59)) := (((Upd.refl _ w).alloc _).alloc _).alloc _
  have hz0 : (((w.alloc (.cells #[Value.slice A n c] 42)).alloc (.cells #[Value.int .i64 (powI n - 1)] 59)).alloc (.cells #[Value.int .i64 s] 59)).heap.size = w.heap.size + 3 := by simp
  simp only [World.size_alloc] at bT bE
  obtain ⟨W0, hW0⟩ : ∃ W0, (((w.alloc (.cells #[Value.slice A n c] 42)).alloc (.cells #[Value.int .i64 (powI n - 1)] 59)).alloc (.cells #[Value.int .i64 s] 59)) = W0 := ⟨_, rfl⟩
  rw [hW0] at bO bT bE hu0 hz0 ⊢
  clear hW0
  have hA0 : Ints W0 w.heap.size A n zs := hA.below (hu0.toBelow (fun _ e => e.elim) (Nat.le_refl _))
  refine range_out (n := 9) (gf := 83) (lb := #[.pointer (some ⟨w.heap.size + 1 + 1, 0, none⟩)]) rfl (enters_of Tryd.func83 (by kernel_rfl) rfl) (encs := encI) (L := itemsL s)
    (fun k => k = w.heap.size + 1) (fun k e => by omega) (fun _ => rfl)
    (fun W1 l1 hu1 hl1 hl2 => each_iter s h0 (by omega) _ _ W1 (hu1.boxed bE (fun e => e)) (fun e => by omega))
    (fun pre D W => (0 ≤ comL zs pre ∧ comL zs pre < 64) ∧ Boxed W (w.heap.size + 1) 59 (.int .i64 (comL zs pre)) ∧ Upd (fun k => k = w.heap.size + 1) W0 W)
    (fun _ _ _ _ => False)
    (fun _ D X Y hs hu => ⟨hs.1, hu.boxed hs.2.1 (fun e => by omega), hs.2.2.trans' hu (fun i hi e => by omega)⟩)
    (fun _ _ _ _ _ hs _ => hs)
    ⟨by rw [← H0.out]; exact H0b.out, by rw [← H0.out]; exact bT, Upd.refl _ _⟩ ?owes ?done ?stop
  case owes =>
    rintro l1 pre x D1 W hl1 hl2 hDl hD1 - hpre K hK
    gi_wp2
    refine hK _ _ (Upd.refl _ _) ?_
    rintro Wb hWb - ⟨htb, bT1, hU⟩
    clear hK
    obtain ⟨hx6, hxb⟩ := mem_itemsTo.1 (hpre.subset (by simp : x ∈ pre ++ [x]))
    have hxn := bitB_lt h1 hxb
    have bO1 := hU.boxed bO (by omega)
    have hcO := bO1.cell
    obtain ⟨ab, off, rfl, hab, hc⟩ := hA0.at_ hxn
    have hcx := hU.cell (hc x hxn) (fun e => by simp at e; omega)
    have zx := hv.bd x (by rw [hlen.out]; exact hxn)
    have hua := atUp_bd hv (a := x) (by rw [hlen.out]; exact hxn)
    have hpz := powI_le6 (n := (zs.length : Int)) (by rw [hlen.out]; omega)
    have Hua := Lib.hid (show orI (zs[x]?.getD 0) (powI x) = atUp zs x from rfl)
    have hsb := hU.size
    have hcT := bT1.cell
    have hfT := bT1.frozen
    have hszb := hWb.size
    have Hn := Lib.hid (comL_snoc zs pre x)
    have hab2 := andI_bd (comL zs pre) (atUp zs x)
    have hwi : ∀ w, Calls Tryd.prog 64 #[.int .i64 (zs[x]?.getD 0), .int .i64 (x : Int)] w fun e w' => e = .returned (.int .i64 (atUp zs x)) ∧ w = w' := fun w => with_any _ _ _ (by omega) (by omega) (by omega) (by omega)
    have hand : bits .and .i64 (comL zs pre) (atUp zs x) = andI (comL zs pre) (atUp zs x) := bits_and (by omega) (by omega) (by omega) (by omega)
    clear hc
    generalize comL zs pre = cm at *
    generalize atUp zs x = ax at *
    gi_wp2
    refine region_tail_round 8 (by kernel_rfl) (by kernel_rfl) (by kernel_rfl) ?_
    simp only [List.take_succ_cons, List.take_zero, List.drop_succ_cons, List.drop_zero]
    repeat (gi_big_quiet_step ((first
      | (gi_at_call 64; exact quietIn_add (hwi _))
      | (gi_at_call 64; exact quietIn_left (hwi _)))))
    refine wpQuietIn_nil ?_
    intro _ hw'
    obtain ⟨nq, hw''⟩ := hw'
    subst hw''
    gi_wp2
    exact ⟨D1, ⟨by rw [Hn.out]; omega, by rw [Hn.out]; exact bT1.set _, (hU.drewN _).setCell (p := ⟨w.heap.size + 1, 0, none⟩) (.inr rfl) _⟩, ((Upd.refl _ _).drewN _).setCell (p := ⟨w.heap.size + 1, 0, none⟩) (.inr (.inl rfl)) _, fun k hk => .inl hk⟩
  case done =>
    rintro d D1 W hd ⟨htb, bT1, hU⟩ hD1 hKd
    have Ht := Lib.hid (comL_all (zs := zs) hn6 h1)
    have hcT := bT1.cell
    gi_wp2
    refine leaves_marks [d] _ ⟨by simp, fun b hb => ?_⟩ (fun W' hu' => ?_)
    · rw [List.mem_singleton.1 hb]
      exact hKd
    · exact ⟨.int .i64 (comL zs (itemsL s)), by simp [results, Tryd.f94, go_sem], ret_int Ht.out,
        (((hu0.mono fun _ _ e => e.elim).trans' hU (fun i hi e => by omega)).trans' hu' (fun i hi e => by simp at e; omega)).toBelow (R := fun _ => False) (fun _ e => e.elim) (Nat.le_refl _)⟩
  case stop =>
    rintro d D1 co pre W hd hpre h
    exact h.elim
end Go.Proofs.YtmlihbcffndnbaaDoor

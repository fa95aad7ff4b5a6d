/- Texts that several claims share, one behind the other. -/
import Derived.Test.YtmlihbcffndnbaaDoorGxc
import Derived.Test.YtmlihbcffndnbaaDoorCuI
import Derived.Test.YtmlihbcffndnbaaDoorGb
set_option linter.unusedVariables false
set_option linter.unusedSimpArgs false
/- The least item of a set: the program's. -/
namespace Go.Proofs.YtmlihbcffndnbaaDoor
open Go.RowKit Go.Shelf
attribute [local go_sem] Oper.semAt_some
attribute [local go_sem, local simp] wide_fn

/-- What least gives: the item, or nothing. -/
def lsV (zs : List Int) (s : Int) : Value := if jnI zs s < 0 then .tuple #[.int .i64 0, .bool false] else .tuple #[.int .i64 (jnI zs s), .bool true]

set_option maxRecDepth 100000 in
set_option maxHeartbeats 8000000 in
theorem least_any (A : Option Addr) (n c : Nat) (zs : List Int) (s : Int) (hv : Sets zs) (w : World) (hA : Ints w w.heap.size A n zs) (hs0 : 0 ≤ s) (hs1 : s < powI n) :
    Calls Tryd.prog 53 #[.slice A n c, .int .i64 s] w fun e W' => e = .returned (lsV zs s) ∧ Below w.heap.size w W' := by
  have hlen := Lib.hid hA.len
  have hn6 : n ≤ 6 := by have := hv.1; rw [hlen.out] at this; exact this
  have hpk : powI n ≤ 64 := powI_le6 (by omega)
  have hub : 0 ≤ s ∧ s < powI n := ⟨hs0, hs1⟩
  have hub2 : 0 ≤ s ∧ s < powI zs.length := by rw [hlen.out]; exact hub
  refine (callsIn_wide (n := 9)).1 ?_
  refine callsIn_of_wp_marks Tryd.func53 rfl trivial ?_ rfl
  simp only [Tryd.ntmps53, List.size_toArray, List.length_cons, List.length_nil, Nat.reduceAdd, Nat.reduceSub, Array.replicate_succ, Array.replicate_zero, List.push_toArray, List.append_toArray, List.nil_append, List.cons_append]
  gi_wp2_with (gi_at_call 59; refine (callsIn_wide.2 (each_any _ _)).mono ?_; rintro e w' ⟨rfl, rfl⟩)
  have bO := ((((Boxed.new w 42 (.slice A n c)).alloc (.cells #[Value.int .i64 s] 59)).alloc (.cells #[Value.int .i64 0] 3)).alloc (.cells #[Value.bool false] 4)).alloc (.cells #[Value.int .i64 s] 59)
  have bI := (((Boxed.new (w.alloc (.cells #[Value.slice A n c] 42)) 59 (.int .i64 s)).alloc (.cells #[Value.int .i64 0] 3)).alloc (.cells #[Value.bool false] 4)).alloc (.cells #[Value.int .i64 s] 59)
  have bR := ((Boxed.new ((w.alloc (.cells #[Value.slice A n c] 42)).alloc (.cells #[Value.int .i64 s] 59)) 3 (.int .i64 0)).alloc (.cells #[Value.bool false] 4)).alloc (.cells #[Value.int .i64 s] 59)
  have bX := (Boxed.new (((w.alloc (.cells #[Value.slice A n c] 42)).alloc (.cells #[Value.int .i64 s] 59)).alloc (.cells #[Value.int .i64 0] 3)) 4 (.bool false)).alloc (.cells #[Value.int .i64 s] 59)
  have bE := Boxed.new ((((w.alloc (.cells #[Value.slice A n c] 42)).alloc (.cells #[Value.int .i64 s] 59)).alloc (.cells #[Value.int .i64 0] 3)).alloc (.cells #[Value.bool false] 4)) 59 (.int .i64 s)
  have hu0 : Upd (fun _ => False) w (((((w.alloc (.cells #[Value.slice A n c] 42)).alloc (.cells #[Value.int .i64 s] 59)).alloc (.cells #[Value.int .i64 0] 3)).alloc (.cells #[Value.bool false] 4)).alloc (.cells #[Value.int .i64 s] 59)) := (((((Upd.refl _ w).alloc _).alloc _).alloc _).alloc _).alloc _
  have hz0' : (((((w.alloc (.cells #[Value.slice A n c] 42)).alloc (.cells #[Value.int .i64 s] 59)).alloc (.cells #[Value.int .i64 0] 3)).alloc (.cells #[Value.bool false] 4)).alloc (.cells #[Value.int .i64 s] 59)).heap.size = w.heap.size + 5 := by simp
  simp only [World.size_alloc] at bI bR bX bE
  obtain ⟨W0, hW0⟩ : ∃ W0, (((((w.alloc (.cells #[Value.slice A n c] 42)).alloc (.cells #[Value.int .i64 s] 59)).alloc (.cells #[Value.int .i64 0] 3)).alloc (.cells #[Value.bool false] 4)).alloc (.cells #[Value.int .i64 s] 59)) = W0 := ⟨_, rfl⟩
  rw [hW0] at bO bI bR bX bE hu0 hz0' ⊢
  clear hW0
  obtain ⟨hz0, hz0b⟩ : w.heap.size + 5 ≤ W0.heap.size ∧ W0.heap.size ≤ w.heap.size + 5 := by omega
  clear hz0'
  have hA0 : Ints W0 w.heap.size A n zs := hA.below (hu0.toBelow (fun _ e => e.elim) (Nat.le_refl _))
  refine range_out (n := 9) (gf := 83) (lb := #[.pointer (some ⟨w.heap.size + 1 + 1 + 1 + 1, 0, none⟩)]) rfl (enters_of Tryd.func83 (by kernel_rfl) rfl) (encs := encI) (L := itemsL s)
    (fun k => k = w.heap.size + 1 + 1 ∨ k = w.heap.size + 1 + 1 + 1) (fun k e => by omega) (fun _ => rfl)
    (fun W1 l1 hu1 hl1 hl2 => each_iter _ hub.1 (by omega) _ _ W1 (hu1.boxed bE (fun e => e)) (fun e => by omega))
    (fun pre D W => (∀ x ∈ pre, lessI s (atUp zs x) ≠ 0) ∧ Boxed W (w.heap.size + 1 + 1) 3 (.int .i64 0) ∧ Boxed W (w.heap.size + 1 + 1 + 1) 4 (.bool false) ∧ Upd (fun k => k = w.heap.size + 1 + 1 ∨ k = w.heap.size + 1 + 1 + 1) W0 W)
    (fun co pre D W => co = .ret ∧ (∃ x : Nat, jnI zs s = x ∧ Boxed W (w.heap.size + 1 + 1) 3 (.int .i64 (x : Int))) ∧ Boxed W (w.heap.size + 1 + 1 + 1) 4 (.bool true) ∧ Upd (fun k => k = w.heap.size + 1 + 1 ∨ k = w.heap.size + 1 + 1 + 1) W0 W)
    (fun _ D X Z hs hu => ⟨hs.1, hu.boxed hs.2.1 (fun e => by omega), hu.boxed hs.2.2.1 (fun e => by omega), hs.2.2.2.trans' hu (fun i hi e => by omega)⟩)
    (fun co _ D X Z hs hu => ⟨hs.1, hs.2.1.imp (fun x hx => ⟨hx.1, hu.boxed hx.2 (fun e => by omega)⟩), hu.boxed hs.2.2.1 (fun e => by omega), hs.2.2.2.trans' hu (fun i hi e => by omega)⟩)
    ⟨(fun x hx => by cases hx), bR, bX, Upd.refl _ _⟩ ?owes ?done ?stop
  case owes =>
    rintro l1 pre x D1 W hl1 hl2 hDl hD1 - hpre K hK
    gi_wp2
    refine hK _ _ (Upd.refl _ _) ?_
    rintro Wb hWb - ⟨hall, bRb, bXb, hU⟩
    clear hK
    have hsz := hU.size
    obtain ⟨hx6, hxb⟩ := mem_itemsTo.1 (hpre.subset (by simp : x ∈ pre ++ [x]))
    have hxn := bitB_lt hub.2 hxb
    have hcO := (hU.boxed bO (by omega)).cell
    have hcC := (hU.boxed bI (by omega)).cell
    obtain ⟨ab, off, rfl, hab, hc⟩ := hA0.at_ hxn
    have hcx := hU.cell (hc x hxn) (fun e => by simp at e; omega)
    have zx := hv.bd x (by rw [hlen.out]; exact hxn)
    have hcR := bRb.cell
    have hfR := bRb.frozen
    have hcX := bXb.cell
    have hfX := bXb.frozen
    have hszb := hWb.size
    clear hc
    have hlb := lessI_bd s (powI x)
    have hwo := fun w => without_any s (x : Int) w (by omega) (by omega) (by omega) (by omega)
    have hwi := fun w => within_any (lessI s (powI x)) (zs[x]?.getD 0) w (by omega) (by omega) (by omega) (by omega)
    have Hll := Lib.hid (less_less s (powI x) (zs[x]?.getD 0))
    have Hat := Lib.hid (show orI (zs[x]?.getD 0) (powI x) = atUp zs x from rfl)
    cases hb : (lessI (lessI s (powI x)) (zs[x]?.getD 0) == 0)
    · have HF := Lib.hid (show lessI s (atUp zs x) ≠ 0 by
        intro e
        have := Hll.out
        rw [Hat.out, e, hb] at this
        cases this)
      rw [hb] at hwi
      gi_wp2
      refine region_quiet_round (by kernel_rfl) (by kernel_rfl) (by kernel_rfl) ?_
      repeat (gi_big_quiet_step ((first
        | (gi_at_call 66; exact quietIn_add (hwo _))
        | (gi_at_call 66; exact quietIn_left (hwo _))
        | (gi_at_call 80; exact quietIn_add (hwi _))
        | (gi_at_call 80; exact quietIn_left (hwi _)))))
      refine wpQuietIn_nil ?_
      intro _ hw'
      obtain ⟨nq, hw''⟩ := hw'
      subst hw''
      gi_wp2
      exact ⟨D1, ⟨fun y hy => by rcases List.mem_append.1 hy with hy | hy
                                 · exact hall y hy
                                 · rw [List.mem_singleton.1 hy]; exact HF.out, bRb, bXb, hU.drewN _⟩, (Upd.refl _ _).drewN _, fun k hk => .inl hk⟩
    · have HJ := Lib.hid (show jnI zs s = x by
        have h2 := Hll.out
        rw [Hat.out, hb] at h2
        refine jnI_at (by rw [hlen.out]; exact hxn) (show jnB zs s x = true by unfold jnB; rw [hxb, ← h2]; rfl) fun j hj => ?_
        cases e : jnB zs s j
        · rfl
        · exfalso
          unfold jnB at e
          rw [Bool.and_eq_true, beq_iff_eq] at e
          refine hall j ?_ e.2
          have hjm := (mem_itemsL (by omega)).2 e.1
          obtain ⟨t', ht'⟩ := hpre
          rw [← ht', List.append_assoc] at hjm
          have hs := itemsL_sorted s
          rw [← ht', List.append_assoc, List.pairwise_append] at hs
          rcases List.mem_append.1 hjm with hjm | hjm
          · exact hjm
          · simp only [List.singleton_append, List.mem_cons] at hjm
            have h5 := hs.2.1
            simp only [List.singleton_append, List.pairwise_cons] at h5
            rcases hjm with hjm | hjm
            · omega
            · have := h5.1 j hjm; omega)
      rw [hb] at hwi
      gi_wp2
      refine region_quiet_round (by kernel_rfl) (by kernel_rfl) (by kernel_rfl) ?_
      repeat (gi_big_quiet_step ((first
        | (gi_at_call 66; exact quietIn_add (hwo _))
        | (gi_at_call 66; exact quietIn_left (hwo _))
        | (gi_at_call 80; exact quietIn_add (hwi _))
        | (gi_at_call 80; exact quietIn_left (hwi _)))))
      refine wpQuietIn_nil ?_
      intro _ hw'
      obtain ⟨nq, hw''⟩ := hw'
      subst hw''
      gi_wp2
      have bRn : Boxed (Wb.drewN nq) (w.heap.size + 1 + 1) 3 (.int .i64 0) := bRb
      have bXn : Boxed (Wb.drewN nq) (w.heap.size + 1 + 1 + 1) 4 (.bool false) := bXb
      have hs1b : Upd (fun k => k = w.heap.size + 1 + 1) (Wb.drewN nq) ((Wb.drewN nq).setCell ⟨w.heap.size + 1 + 1, 0, none⟩ (.int .i64 (x : Int))) := (Upd.refl (fun k => k = w.heap.size + 1 + 1) _).setCell (p := ⟨w.heap.size + 1 + 1, 0, none⟩) (.inr rfl) _
      have bR3 := bRn.set (.int .i64 (x : Int))
      have bX3 := hs1b.boxed bXn (fun e => by omega)
      have hs2b : Upd (fun k => k = w.heap.size + 1 + 1 + 1) ((Wb.drewN nq).setCell ⟨w.heap.size + 1 + 1, 0, none⟩ (.int .i64 (x : Int))) (((Wb.drewN nq).setCell ⟨w.heap.size + 1 + 1, 0, none⟩ (.int .i64 (x : Int))).setCell ⟨w.heap.size + 1 + 1 + 1, 0, none⟩ (.bool true)) := (Upd.refl (fun k => k = w.heap.size + 1 + 1 + 1) _).setCell (p := ⟨w.heap.size + 1 + 1 + 1, 0, none⟩) (.inr rfl) _
      have bR4 := hs2b.boxed bR3 (fun e => by omega)
      have bX4 := bX3.set (.bool true)
      have hs1 : Upd (fun k => k = w.heap.size + 1 + 1 ∨ k = w.heap.size + 1 + 1 + 1) W0 ((Wb.drewN nq).setCell ⟨w.heap.size + 1 + 1, 0, none⟩ (.int .i64 (x : Int))) := (hU.drewN nq).setCell (p := ⟨w.heap.size + 1 + 1, 0, none⟩) (.inr (.inl rfl)) _
      refine ⟨D1, ⟨rfl, ⟨x, HJ.out, bR4⟩, bX4, hs1.setCell (p := ⟨w.heap.size + 1 + 1 + 1, 0, none⟩) (.inr (.inr rfl)) _⟩, ?_, fun k hk => .inl hk⟩
      exact (((Upd.refl _ _).drewN _).setCell (p := ⟨w.heap.size + 1 + 1, 0, none⟩) (.inr (.inl (.inl rfl))) _).setCell (p := ⟨w.heap.size + 1 + 1 + 1, 0, none⟩) (.inr (.inl (.inr rfl))) _
  case done =>
    rintro d D1 W hd ⟨hall, bRn, bXn, hU⟩ hD1 hKd
    have HJ := Lib.hid (show jnI zs s = -1 from jnI_none fun j hj => by
      cases e : jnB zs s j
      · rfl
      · exfalso
        unfold jnB at e
        rw [Bool.and_eq_true, beq_iff_eq] at e
        exact hall j ((mem_itemsL (by omega)).2 e.1) e.2)
    have HV := Lib.hid (show lsV zs s = .tuple #[.int .i64 0, .bool false] by unfold lsV; rw [HJ.out]; rfl)
    have hsz := hU.size
    have hcR := bRn.cell
    have hfR := bRn.frozen
    have hcX := bXn.cell
    have hfX := bXn.frozen
    gi_wp2
    have hs1b : Upd (fun k => k = w.heap.size + 1 + 1) W (W.setCell ⟨w.heap.size + 1 + 1, 0, none⟩ (.int .i64 0)) := (Upd.refl (fun k => k = w.heap.size + 1 + 1) _).setCell (p := ⟨w.heap.size + 1 + 1, 0, none⟩) (.inr rfl) _
    have bR3 := bRn.set (.int .i64 0)
    have bX3 := hs1b.boxed bXn (fun e => by omega)
    have hs2b : Upd (fun k => k = w.heap.size + 1 + 1 + 1) (W.setCell ⟨w.heap.size + 1 + 1, 0, none⟩ (.int .i64 0)) ((W.setCell ⟨w.heap.size + 1 + 1, 0, none⟩ (.int .i64 0)).setCell ⟨w.heap.size + 1 + 1 + 1, 0, none⟩ (.bool false)) := (Upd.refl (fun k => k = w.heap.size + 1 + 1 + 1) _).setCell (p := ⟨w.heap.size + 1 + 1 + 1, 0, none⟩) (.inr rfl) _
    have bR4 := hs2b.boxed bR3 (fun e => by omega)
    have bX4 := bX3.set (.bool false)
    have hus : Upd (fun k => k = w.heap.size + 1 + 1 ∨ k = w.heap.size + 1 + 1 + 1) W ((W.setCell ⟨w.heap.size + 1 + 1, 0, none⟩ (.int .i64 0)).setCell ⟨w.heap.size + 1 + 1 + 1, 0, none⟩ (.bool false)) := (hs1b.mono (fun k _ e => .inl e)).trans' (hs2b.mono (fun k _ e => .inr e)) (fun i _ e => e)
    refine leaves_marks [d] _ ⟨by simp, fun b hb => ?_⟩ (fun W' hu' => ?_)
    · rw [List.mem_singleton.1 hb]
      exact (hus.block d (Array.getElem?_eq_some_iff.1 hKd).1 (by omega)).trans hKd
    · have hc' := (hu'.boxed bR4 (by simp; omega)).cell
      have hd' := (hu'.boxed bX4 (by simp; omega)).cell
      exact ⟨_, by simp [results, Tryd.f53, go_sem, hc', hd']; rfl, by rw [HV.out],
        ((hu0.mono fun _ _ e => e.elim).trans' ((hU.trans hus).trans' hu' (fun i hi e => by simp at e; omega)) (fun i hi e => by omega)).toBelow (R := fun _ => False) (fun _ e => e.elim) (Nat.le_refl _)⟩
  case stop =>
    rintro d D1 co pre W hd hpre ⟨rfl, ⟨x, hx, bRb⟩, bXb, hU⟩ hD1 hKd
    have HV := Lib.hid (show lsV zs s = .tuple #[.int .i64 (x : Int), .bool true] by unfold lsV; rw [hx, if_neg (by omega)])
    have hsz := hU.size
    gi_wp2
    refine leaves_marks [d] _ ⟨by simp, fun b hb => ?_⟩ (fun W' hu' => ?_)
    · rw [List.mem_singleton.1 hb]
      exact hKd
    · have hc' := (hu'.boxed bRb (by simp; omega)).cell
      have hd' := (hu'.boxed bXb (by simp; omega)).cell
      exact ⟨_, by simp [results, Tryd.f53, go_sem, hc', hd']; rfl, by rw [HV.out],
        ((hu0.mono fun _ _ e => e.elim).trans' (hU.trans' hu' (fun i hi e => by simp at e; omega)) (fun i hi e => by omega)).toBelow (R := fun _ => False) (fun _ e => e.elim) (Nat.le_refl _)⟩
end Go.Proofs.YtmlihbcffndnbaaDoor

/- Joins and meets: the program's. -/
namespace Go.Proofs.YtmlihbcffndnbaaDoor
open Go.RowKit Go.Shelf
attribute [local go_sem] Oper.semAt_some
attribute [local go_sem, local simp] wide_fn

/-- What join gives: the item, or the error that it lacks. -/
def joinV (zs : List Int) (a b : Nat) : Value := if joinI zs a b < 0 then .tuple #[.int .i64 0, .iface 100 (.agg #[.int .i64 (a : Int), .int .i64 (b : Int)])] else .tuple #[.int .i64 (joinI zs a b), .nilIface]

set_option maxRecDepth 100000 in
set_option maxHeartbeats 2000000 in
theorem ojoin_any (A : Option Addr) (n c : Nat) (zs : List Int) (a b : Nat) (hv : Sets zs) (w : World) (hA : Ints w w.heap.size A n zs) (ha : a < n) (hb : b < n) :
    Calls Tryd.prog 72 #[.slice A n c, .int .i64 (a : Int), .int .i64 (b : Int)] w fun e W' => e = .returned (joinV zs a b) ∧ Below w.heap.size w W' := by
  have hlen := Lib.hid hA.len
  have hn6 : n ≤ 6 := by have := hv.1; rw [hlen.out] at this; exact this
  have hpk : powI n ≤ 64 := powI_le6 (by omega)
  have Ht2 := Lib.hid (com_two hv (a := a) (b := b) (by rw [hlen.out]; exact ha) (by rw [hlen.out]; exact hb))
  rw [hlen.out] at Ht2
  have hub := upR_bd hv (a := a) (b := b) (by rw [hlen.out]; exact ha)
  rw [hlen.out] at hub
  have h2b := twoS_bd ha hb
  have hpa := orI_bd (a := 0) (b := powI a) (n := n) (Int.le_refl _) (powI_pos _) (Int.le_of_lt (powI_pos _)) (powI_lt ha)
  have hw1 := Lib.hid (fun w => with_any 0 (a : Int) w (by omega) (by omega) (by omega) (by omega))
  have hw2 : ∀ w, Calls Tryd.prog 64 #[.int .i64 (orI 0 (powI a)), .int .i64 (b : Int)] w fun e w' => e = .returned (.int .i64 (twoS a b)) ∧ w = w' := fun w => with_any _ _ w (by omega) (by omega) (by omega) (by omega)
  have Hw2 := Lib.hid hw2
  clear hw2
  have HjI := Lib.hid (show joinI zs a b = jnI zs (upR zs a b) from rfl)
  have Hc := Lib.hid (atOrAbove_any A n c zs (twoS a b) hv w hA h2b.1 h2b.2)
  have Hl := Lib.hid (fun W h => least_any A n c zs (upR zs a b) hv W h hub.1 hub.2)
  rw [Ht2.out] at Hc
  have HA := Lib.hid hA
  clear hA hub h2b hpa hpk
  generalize orI 0 (powI (a : Int)) = oa at *
  generalize twoS a b = tw at *
  generalize upR zs a b = uu at *
  go_enter Tryd.func72, Tryd.ntmps72
  go_wp2_with fail
  refine (hw1.out _).mono ?_
  rintro e w' ⟨rfl, rfl⟩
  go_wp2_with fail
  refine (Hw2.out _).mono ?_
  rintro e w' ⟨rfl, rfl⟩
  go_wp2_with fail
  refine Hc.out.mono ?_
  rintro e w2 ⟨rfl, hB2⟩
  go_wp2_with fail
  refine (Hl.out w2 (HA.out.to hB2 (Nat.le_refl _) hB2.size)).mono ?_
  rintro e w3 ⟨rfl, hB3⟩
  have C3 := hB2.trans (hB3.mono hB2.size)
  clear Hc Hl hB2 hB3
  by_cases hj : joinI zs a b < 0
  · have HV := Lib.hid (show joinV zs a b = .tuple #[.int .i64 0, .iface 100 (.agg #[.int .i64 (a : Int), .int .i64 (b : Int)])] by unfold joinV; rw [if_pos hj])
    have HL := Lib.hid (show lsV zs uu = .tuple #[.int .i64 0, .bool false] by unfold lsV; rw [← HjI.out, if_pos hj])
    rw [HL.out]
    clear hj
    go_wp2_with fail
    go_ret2
    exact ⟨by rw [HV.out]; rfl, C3⟩
  · have HV := Lib.hid (show joinV zs a b = .tuple #[.int .i64 (joinI zs a b), .nilIface] by unfold joinV; rw [if_neg hj])
    have HL := Lib.hid (show lsV zs uu = .tuple #[.int .i64 (joinI zs a b), .bool true] by unfold lsV; rw [← HjI.out, if_neg hj])
    rw [HL.out]
    clear hj
    go_wp2_with fail
    go_ret2
    exact ⟨by rw [HV.out]; rfl, C3⟩
end Go.Proofs.YtmlihbcffndnbaaDoor

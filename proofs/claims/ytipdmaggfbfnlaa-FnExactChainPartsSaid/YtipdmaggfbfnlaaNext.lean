/- 'isNext': no item between two items. -/
import Derived.Test.YtipdmaggfbfnlaaGa
set_option linter.unusedVariables false
set_option linter.unusedSimpArgs false
namespace Go.Proofs.Ytipdmaggfbfnlaa
open Go.RowKit Go.Shelf
attribute [local go_sem] Oper.semAt_some
attribute [local go_sem, local simp] wide_fn

def nextB (zs : List Int) (lo hi : Nat) : Bool := (itemsL (zs[lo]?.getD 0)).all fun x => !bitB (zs[x]?.getD 0) hi
theorem nextB_not {zs : List Int} {lo hi : Nat} {pre : List Nat} {x : Nat} (hp : pre ++ [x] <+: itemsL (zs[lo]?.getD 0)) (h : bitB (zs[x]?.getD 0) hi = true) : nextB zs lo hi = false := by
  obtain ⟨t, ht⟩ := hp
  unfold nextB
  rw [← ht]
  simp [h]

set_option maxRecDepth 100000 in
set_option maxHeartbeats 4000000 in
theorem isNext_any (A : Option Addr) (n c lo hi : Nat) (zs : List Int) (hv : Sets zs) (w : World) (hA : Ints w w.heap.size A n zs) (hlo : lo < n) (hhi : hi < n) :
    Calls Try.prog 73 #[.slice A n c, .int .i64 (lo : Int), .int .i64 (hi : Int)] w fun e W' => e = .returned (.bool (nextB zs lo hi)) ∧ Below w.heap.size w W' := by
  refine (callsIn_wide (n := 9)).1 ?_
  refine callsIn_of_wp_marks Try.func73 rfl trivial ?_ rfl
  simp only [Try.ntmps73, List.size_toArray, List.length_cons, List.length_nil, Nat.reduceAdd, Nat.reduceSub, Array.replicate_succ, Array.replicate_zero, List.push_toArray, List.append_toArray, List.nil_append, List.cons_append]
  have hlen := Lib.hid hA.len
  have hn6 : n ≤ 6 := by have := hv.1; rw [hlen.out] at this; exact this
  have hA' := hA
  obtain ⟨ab, off, rfl, hab, hc⟩ := hA'.at_ hlo
  have hzl := hv.2 lo (by rw [hlen.out]; exact hlo)
  rw [hlen.out] at hzl
  have hpn := powI_le6 (n := (n : Int)) (by omega)
  have Hcl := Lib.hid (hc lo hlo)
  have hclo : (((w.alloc (.cells #[Value.slice (some ⟨ab, off, none⟩) n c] 43)).alloc (.cells #[Value.int .i64 (hi : Int)] 3)).alloc (.cells #[Value.bool false] 4)).cell? ⟨ab, off + lo, none⟩ = some (.int .i64 (zs[lo]?.getD 0)) := by
    refine (((((Below.refl w.heap.size w).alloc (Nat.le_refl _) _).alloc (by simp) _).alloc (by simp; omega) _).cell (p := ⟨ab, off + lo, none⟩) hab).trans (hc lo hlo)
  clear hc
  gi_wp2_with (gi_at_call 114; refine (callsIn_wide.2 (each_any _ _)).mono ?_; rintro e w' ⟨rfl, rfl⟩)
  have bO := (((Boxed.new w 43 (.slice (some ⟨ab, off, none⟩) n c)).alloc (.cells #[Value.int .i64 (hi : Int)] 3)).alloc (.cells #[Value.bool false] 4)).alloc (.cells #[Value.int .i64 (zs[lo]?.getD 0)] 79)
  have bH := ((Boxed.new (w.alloc (.cells #[Value.slice (some ⟨ab, off, none⟩) n c] 43)) 3 (.int .i64 (hi : Int))).alloc (.cells #[Value.bool false] 4)).alloc (.cells #[Value.int .i64 (zs[lo]?.getD 0)] 79)
  have bR := (Boxed.new ((w.alloc (.cells #[Value.slice (some ⟨ab, off, none⟩) n c] 43)).alloc (.cells #[Value.int .i64 (hi : Int)] 3)) 4 (.bool false)).alloc (.cells #[Value.int .i64 (zs[lo]?.getD 0)] 79)
  have bE := Boxed.new (((w.alloc (.cells #[Value.slice (some ⟨ab, off, none⟩) n c] 43)).alloc (.cells #[Value.int .i64 (hi : Int)] 3)).alloc (.cells #[Value.bool false] 4)) 79 (.int .i64 (zs[lo]?.getD 0))
  have hu0 : Upd (fun _ => False) w ((((w.alloc (.cells #[Value.slice (some ⟨ab, off, none⟩) n c] 43)).alloc (.cells #[Value.int .i64 (hi : Int)] 3)).alloc (.cells #[Value.bool false] 4)).alloc (.cells #[Value.int .i64 (zs[lo]?.getD 0)] 79)) := ((((Upd.refl _ w).alloc _).alloc _).alloc _).alloc _
  have hz0 : ((((w.alloc (.cells #[Value.slice (some ⟨ab, off, none⟩) n c] 43)).alloc (.cells #[Value.int .i64 (hi : Int)] 3)).alloc (.cells #[Value.bool false] 4)).alloc (.cells #[Value.int .i64 (zs[lo]?.getD 0)] 79)).heap.size = w.heap.size + 4 := by simp
  simp only [World.size_alloc] at bO bH bR bE
  clear hclo
  obtain ⟨W0, hW0⟩ : ∃ W0, ((((w.alloc (.cells #[Value.slice (some ⟨ab, off, none⟩) n c] 43)).alloc (.cells #[Value.int .i64 (hi : Int)] 3)).alloc (.cells #[Value.bool false] 4)).alloc (.cells #[Value.int .i64 (zs[lo]?.getD 0)] 79)) = W0 := ⟨_, rfl⟩
  rw [hW0] at bO bH bR bE hu0 hz0 ⊢
  clear hW0
  have hA0 : Ints W0 w.heap.size (some ⟨ab, off, none⟩) n zs := hA.below (hu0.toBelow (fun _ e => e.elim) (Nat.le_refl _))
  refine range_out (n := 9) (gf := 141) (lb := #[.pointer (some ⟨w.heap.size + 1 + 1 + 1, 0, none⟩)]) rfl (enters_of Try.func141 (by kernel_rfl) rfl) (encs := encI) (L := itemsL (zs[lo]?.getD 0))
    (fun k => k = w.heap.size + 1 + 1) (fun k e => by omega) (fun _ => rfl)
    (fun W1 l1 hu1 hl1 hl2 => each_iter _ hzl.1 (by omega) _ _ W1 (hu1.boxed bE (fun e => e)) (fun e => by omega))
    (fun pre D W => pre.all (fun x => !bitB (zs[x]?.getD 0) hi) = true ∧ Boxed W (w.heap.size + 1 + 1) 4 (.bool false) ∧ Upd (fun k => k = w.heap.size + 1 + 1) W0 W)
    (fun co pre D W => co = .ret ∧ nextB zs lo hi = false ∧ Boxed W (w.heap.size + 1 + 1) 4 (.bool false) ∧ Upd (fun k => k = w.heap.size + 1 + 1) W0 W)
    (fun s D X Y hs hu => ⟨hs.1, hu.boxed hs.2.1 (fun e => by omega), hs.2.2.trans' hu (fun i hi e => by omega)⟩)
    (fun co s D X Y hs hu => ⟨hs.1, hs.2.1, hu.boxed hs.2.2.1 (fun e => by omega), hs.2.2.2.trans' hu (fun i hi e => by omega)⟩)
    ⟨rfl, bR, Upd.refl _ _⟩ ?owes ?done ?stop
  case owes =>
    rintro l1 pre x D1 W hl1 hl2 hDl hD1 - hpre K hK
    gi_wp2
    refine hK _ _ (Upd.refl _ _) ?_
    rintro Wb hWb - ⟨hall, bR1, hU⟩
    clear hK
    obtain ⟨hx6, hxb⟩ := mem_itemsTo.1 (hpre.subset (by simp : x ∈ pre ++ [x]))
    have hxn := bitB_lt hzl.2 hxb
    have hcO := (hU.boxed bO (by omega)).cell
    have hcH := (hU.boxed bH (by omega)).cell
    obtain ⟨ab', off', e', _, hc⟩ := hA0.at_ hxn
    cases e'
    have hcx := hU.cell (hc x hxn) (fun e => by simp at e; omega)
    have zx := hv.bd x (by rw [hlen.out]; exact hxn)
    have hsb := hU.size
    have hcR := bR1.cell
    have hfR := bR1.frozen
    have hszb := hWb.size
    clear hc
    cases hb : bitB (zs[x]?.getD 0) hi
    · have Hb := Lib.hid hb
      clear hb
      gi_wp2
      refine region_quiet_round (by kernel_rfl) (by kernel_rfl) (by kernel_rfl) ?_
      repeat (gi_big_quiet_step ((first
        | (gi_at_call 108; exact quietIn_add (has_any _ _ _ (by omega) (by omega) (by omega) (by omega)))
        | (gi_at_call 108; exact quietIn_left (has_any _ _ _ (by omega) (by omega) (by omega) (by omega))))))
      refine wpQuietIn_nil ?_
      intro _ hw'
      obtain ⟨nq, hw''⟩ := hw'
      subst hw''
      rw [Hb.out]
      gi_wp2
      exact ⟨D1, ⟨by rw [List.all_append, hall]; simp [Hb.out], bR1, hU.drewN _⟩, (Upd.refl _ _).drewN _, fun k hk => .inl hk⟩
    · have HF := Lib.hid (nextB_not hpre hb)
      have Hb := Lib.hid hb
      clear hb
      gi_wp2
      refine region_quiet_round (by kernel_rfl) (by kernel_rfl) (by kernel_rfl) ?_
      repeat (gi_big_quiet_step ((first
        | (gi_at_call 108; exact quietIn_add (has_any _ _ _ (by omega) (by omega) (by omega) (by omega)))
        | (gi_at_call 108; exact quietIn_left (has_any _ _ _ (by omega) (by omega) (by omega) (by omega))))))
      refine wpQuietIn_nil ?_
      intro _ hw'
      obtain ⟨nq, hw''⟩ := hw'
      subst hw''
      rw [Hb.out]
      gi_wp2
      exact ⟨D1, ⟨rfl, HF.out, bR1.set _, (hU.drewN _).setCell (p := ⟨w.heap.size + 1 + 1, 0, none⟩) (.inr rfl) _⟩, ((Upd.refl _ _).drewN _).setCell (p := ⟨w.heap.size + 1 + 1, 0, none⟩) (.inr (.inl rfl)) _, fun k hk => .inl hk⟩
  case done =>
    rintro d D1 W hd ⟨hall, bR1, hU⟩ hD1 hKd
    have hcR := bR1.cell
    have hfR := bR1.frozen
    have HF := Lib.hid (show nextB zs lo hi = true from hall)
    gi_wp2
    have hus : Upd (fun k => k = w.heap.size + 1 + 1) W (W.setCell ⟨w.heap.size + 1 + 1, 0, none⟩ (.bool true)) := (Upd.refl (fun k => k = w.heap.size + 1 + 1) W).setCell (p := ⟨w.heap.size + 1 + 1, 0, none⟩) (.inr rfl) _
    refine leaves_marks [d] _ ⟨by simp, fun b hb => ?_⟩ (fun W' hu' => ?_)
    · rw [List.mem_singleton.1 hb]
      exact (hus.block d (Array.getElem?_eq_some_iff.1 hKd).1 (by omega)).trans hKd
    · have hc' := (hu'.boxed (bR1.set (.bool true)) (by simp; omega)).cell
      exact ⟨.bool true, by simp [results, Try.f73, go_sem, hc'], ret_bool HF.out.symm,
        (((hu0.mono fun _ _ e => e.elim).trans' (hU.trans hus) (fun i hi e => by omega)).trans' hu' (fun i hi e => by simp at e; omega)).toBelow (R := fun _ => False) (fun _ e => e.elim) (Nat.le_refl _)⟩
  case stop =>
    rintro d D1 co pre W hd hpre ⟨rfl, hF, bR1, hU⟩ hD1 hKd
    have HF := Lib.hid hF
    clear hF
    gi_wp2
    refine leaves_marks [d] _ ⟨by simp, fun b hb => ?_⟩ (fun W' hu' => ?_)
    · rw [List.mem_singleton.1 hb]
      exact hKd
    · have hc' := (hu'.boxed bR1 (by simp; omega)).cell
      exact ⟨.bool false, by simp [results, Try.f73, go_sem, hc'], ret_bool HF.out.symm,
        (((hu0.mono fun _ _ e => e.elim).trans' hU (fun i hi e => by omega)).trans' hu' (fun i hi e => by simp at e; omega)).toBelow (R := fun _ => False) (fun _ e => e.elim) (Nat.le_refl _)⟩
end Go.Proofs.Ytipdmaggfbfnlaa

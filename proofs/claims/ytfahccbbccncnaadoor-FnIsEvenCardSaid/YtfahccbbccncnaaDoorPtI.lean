/- PartOf: the model's and the program's. -/
import Derived.Test.YtfahccbbccncnaaDoorGb
import Derived.Test.YtfahccbbccncnaaDoorGa
import Derived.Test.YtfahccbbccncnaaDoorRestS
namespace Go.Proofs.YtfahccbbccncnaaDoor
open Go.RowKit Go.Shelf
attribute [local go_sem] Oper.semAt_some
attribute [local go_sem, local simp] wide_fn

theorem plN_le {s a : Nat} (hs : s < 64) (ha : a ≤ 6) : plN s a ≤ 6 := by
  rw [plN_is hs ha]
  unfold leftL
  have := List.length_filter_le (fun j => s.testBit j) (List.range a)
  rw [List.length_range] at this
  omega
theorem place_any (s a : Nat) (w : World) (h1 : s < 64) (ha : a ≤ 6) :
    Calls Tryd.prog 53 #[.int .i64 (s : Int), .int .i64 (a : Int)] w fun e w' => e = .returned (.int .i64 (plN s a : Int)) ∧ w = w' := by
  have hp := powI_le6 (n := (a : Int)) (by omega)
  have hq := powI_pos (a : Int)
  have e1 : wrap64 (2 ^ a) = powI a := by
    have : (2 : Int) ^ a = powI a := by simp [powI]
    rw [this]
    exact IntWalk.wrap64_in _ ⟨by omega, by omega⟩
  have hand : bits .and .i64 (s : Int) (powI a - 1) = andI (s : Int) (powI a - 1) := bits_and (by omega) (by omega) (by omega) (by omega)
  have hb := andI_bd (s : Int) (powI a - 1)
  have hpb := popI_bd (s := andI (s : Int) (powI a - 1)) (by omega) (by omega)
  have Hp := Lib.hid (show (plN s a : Int) = popI (andI (s : Int) (powI a - 1)) by unfold plN; omega)
  go_enter Tryd.func53, Tryd.ntmps53
  go_wp2_with (go_at_call 51; refine (size_any _ _ (by omega) (by omega)).mono ?_; rintro e w' ⟨rfl, rfl⟩)
  go_ret
  exact ⟨ret_int Hp.out.symm, rfl⟩
theorem left_items {n s : Nat} (hn : n ≤ 6) (hs : s < 2 ^ n) : itemsL (s : Int) = leftL n s := by
  rw [← itemsTo_all (n := n) (by unfold powI; simp; exact_mod_cast hs) hn]
  unfold itemsTo leftL
  exact List.filter_congr fun j _ => bit_cast s j

set_option maxRecDepth 100000 in
set_option maxHeartbeats 8000000 in
theorem opart_any (A : Option Addr) (n c : Nat) (zs : List Int) (hvo : VoP zs) (s : Nat) (w : World) (hA : Ints w w.heap.size A n zs) (hs : s < 2 ^ n) :
    Calls Tryd.prog 31 #[.slice A n c, .int .i64 (s : Int)] w fun e W' => e = .returned (.slice (some ⟨w.heap.size + 1, 0, none⟩) (leftL n s).length (leftL n s).length) ∧ Arr W' (w.heap.size + 1) 48 (ind zs (leftL n s)) ∧ Below w.heap.size w W' := by
  have hlen := Lib.hid hA.len
  have hv := hvo.sets
  have hn6 : n ≤ 6 := by have := hv.1; rw [hlen.out] at this; exact this
  have hp64 := pow_le64 hn6
  have Hpi := Lib.hid (part_is hvo (s := s) (by rw [hlen.out]; exact hs))
  rw [hlen.out] at Hpi
  have Hpa := Lib.hid (show ∀ a, a < n → s.testBit a = true → plN s a < (leftL n s).length from fun a ha hb => (pl_at (by omega) hn6 ha hb).1)
  have hp := left_pop hn6 hs
  have hml := (leftL_inc zs s).len_le
  rw [hlen.out] at hml
  rw [← Hpi.out]
  generalize (leftL n s).length = m at *
  have hsz : ∀ w, Calls Tryd.prog 51 #[.int .i64 (s : Int)] w fun e w' => e = .returned (.int .i64 (m : Int)) ∧ w = w' := fun w => by
    rw [← hp]; exact size_any _ _ (by omega) (by omega)
  clear hp
  have hmk := run_make_row' (P := Tryd.prog) 39 48 (.int .i64 0) 8 Tryd.underlying39 infoItems rfl .i64 .i64 m (by omega) (by omega)
  refine (callsIn_wide (n := 9)).1 ?_
  refine callsIn_of_wp_marks Tryd.func31 rfl trivial ?_ rfl
  simp only [Tryd.ntmps31, List.size_toArray, List.length_cons, List.length_nil, Nat.reduceAdd, Nat.reduceSub, Array.replicate_succ, Array.replicate_zero, List.push_toArray, List.append_toArray, List.nil_append, List.cons_append]
  gi_wp2_with (first
    | (gi_at_call 51; refine (callsIn_wide.2 (hsz _)).mono ?_; rintro e w' ⟨rfl, rfl⟩)
    | (gi_at_call 42; refine (callsIn_wide.2 (pairs_any _ _ _ _)).mono ?_; rintro e w' ⟨rfl, rfl⟩))
  have bS := (((Boxed.new w 48 (.int .i64 (s : Int))).alloc (.cells (madeCells #[Value.int .i64 0] m) 48)).alloc (.cells #[Value.slice (some ⟨w.heap.size + 1, 0, none⟩) m m] 39)).alloc (.cells #[Value.slice A n c] 39)
  have aD := ((Arr.new (w.alloc (.cells #[Value.int .i64 (s : Int)] 48)) 48 m).alloc (.cells #[Value.slice (some ⟨w.heap.size + 1, 0, none⟩) m m] 39)).alloc (.cells #[Value.slice A n c] 39)
  have bD := (Boxed.new ((w.alloc (.cells #[Value.int .i64 (s : Int)] 48)).alloc (.cells (madeCells #[Value.int .i64 0] m) 48)) 39 (.slice (some ⟨w.heap.size + 1, 0, none⟩) m m)).alloc (.cells #[Value.slice A n c] 39)
  have bP := Boxed.new (((w.alloc (.cells #[Value.int .i64 (s : Int)] 48)).alloc (.cells (madeCells #[Value.int .i64 0] m) 48)).alloc (.cells #[Value.slice (some ⟨w.heap.size + 1, 0, none⟩) m m] 39)) 39 (.slice A n c)
  have hu0 : Upd (fun _ => False) w ((((w.alloc (.cells #[Value.int .i64 (s : Int)] 48)).alloc (.cells (madeCells #[Value.int .i64 0] m) 48)).alloc (.cells #[Value.slice (some ⟨w.heap.size + 1, 0, none⟩) m m] 39)).alloc (.cells #[Value.slice A n c] 39)) := ((((Upd.refl _ w).alloc _).alloc _).alloc _).alloc _
  have hz0 : ((((w.alloc (.cells #[Value.int .i64 (s : Int)] 48)).alloc (.cells (madeCells #[Value.int .i64 0] m) 48)).alloc (.cells #[Value.slice (some ⟨w.heap.size + 1, 0, none⟩) m m] 39)).alloc (.cells #[Value.slice A n c] 39)).heap.size = w.heap.size + 4 := by simp
  simp only [World.size_alloc] at aD bD bP
  clear hmk
  obtain ⟨W0, hW0⟩ : ∃ W0, ((((w.alloc (.cells #[Value.int .i64 (s : Int)] 48)).alloc (.cells (madeCells #[Value.int .i64 0] m) 48)).alloc (.cells #[Value.slice (some ⟨w.heap.size + 1, 0, none⟩) m m] 39)).alloc (.cells #[Value.slice A n c] 39)) = W0 := ⟨_, rfl⟩
  rw [hW0] at bS aD bD bP hu0 hz0 ⊢
  clear hW0
  have hA0 : Ints W0 w.heap.size A n zs := hA.below (hu0.toBelow (fun _ e => e.elim) (Nat.le_refl _))
  refine range_out (n := 9) (gf := 63) (lb := #[.pointer (some ⟨w.heap.size + 1 + 1 + 1, 0, none⟩)]) rfl (enters_of Tryd.func63 (by kernel_rfl) rfl) (encs := encP) (L := pairsL zs)
    (fun k => k = w.heap.size + 1) (fun k e => by omega) (fun _ => rfl)
    (fun W1 l1 hu1 hl1 hl2 => pairs_iter_at hv bP (fun k e => by omega) (by omega) hA0 (by omega) (fun k e => by omega) hu1 hl1 hl2)
    (fun pre D W => Arr W (w.heap.size + 1) 48 (downP m (ptP s pre)) ∧ Upd (fun k => k = w.heap.size + 1) W0 W)
    (fun _ _ _ _ => False)
    (fun _ D X Y hs hu => ⟨hs.1.upd hu (fun e => by omega), hs.2.trans' hu (fun i hi e => by omega)⟩)
    (fun _ _ _ _ _ hs _ => hs)
    ⟨aD, Upd.refl _ _⟩ ?owes ?done ?stop
  case owes =>
    rintro l1 pre ⟨lo, hi⟩ D1 W hl1 hl2 hDl hD1 - hpre K hK
    gi_wp2
    refine hK _ _ (Upd.refl _ _) ?_
    rintro Wb hWb - ⟨aD1, hU⟩
    clear hK
    obtain ⟨hlo, hhi, hbit⟩ := hv.pair (a := lo) (b := hi) (hpre.subset (by simp))
    rw [hlen.out] at hlo hhi
    have hcS := (hU.boxed bS (by omega)).cell
    have hcD := (hU.boxed bD (by omega)).cell
    have hsb := hU.size
    have hszb := hWb.size
    clear hbit
    have hla := fun w => has_any (s : Int) (lo : Int) w (by omega) (by omega) (by omega) (by omega)
    have hhb := fun w => has_any (s : Int) (hi : Int) w (by omega) (by omega) (by omega) (by omega)
    by_cases hlb : bitB (s : Int) (lo : Int) = true
    · rw [hlb] at hla
      by_cases hhb2 : bitB (s : Int) (hi : Int) = true
      · rw [hhb2] at hhb
        have hpl := plN_le (s := s) (a := lo) (by omega) (by omega)
        have hph := plN_le (s := s) (a := hi) (by omega) (by omega)
        have hqi := Hpa.out lo hlo (by rw [← bit_cast]; exact hlb)
        have hqj := Hpa.out hi hhi (by rw [← bit_cast]; exact hhb2)
        have Hs := Lib.hid (show downP m (ptP s (pre ++ [(lo, hi)])) = (downP m (ptP s pre)).set (plN s lo) (orI ((downP m (ptP s pre))[plN s lo]?.getD 0) (powI (plN s hi))) by rw [ptP_yes hlb hhb2, downP_snoc])
        have hpa := fun w => place_any s lo w (by omega) (by omega)
        have hpb := fun w => place_any s hi w (by omega) (by omega)
        generalize plN s lo = pi at *
        generalize plN s hi = pj at *
        have hlb' : pi < (downP m (ptP s pre)).length := by rw [downP_len]; exact hqi
        have hcs := aD1.cell hlb'
        have hfs := aD1.frozen pi
        have hbd := downP_bd (n := m) (m := m) (ps := ptP s pre) (fun p hp => by
          unfold ptP at hp
          rw [List.mem_map] at hp
          obtain ⟨⟨x, y⟩, hxy, rfl⟩ := hp
          rw [List.mem_filter] at hxy
          have hm := hv.pair (a := x) (b := y) (hpre.subset (by simp [hxy.1]))
          rw [hlen.out] at hm
          have h2 := hxy.2
          unfold ptB at h2
          rw [Bool.and_eq_true, bit_cast, bit_cast] at h2
          exact Hpa.out y hm.2.1 h2.2) pi
        have hpn := powI_le6 (n := (m : Int)) (by omega)
        clear hlb'
        generalize hD : downP m (ptP s pre) = D at *
        have HD := Lib.hid hD
        clear hD
        gi_wp2_with (first
          | (gi_at_call 52; refine (CallsIn.inRound l1 (callsIn_wide.2 (hla _))).mono ?_; rintro e w' ⟨rfl, rfl⟩)
          | (gi_at_call 52; refine (CallsIn.inRound l1 (callsIn_wide.2 (hhb _))).mono ?_; rintro e w' ⟨rfl, rfl⟩)
          | (gi_at_call 53; refine (CallsIn.inRound l1 (callsIn_wide.2 (hpa _))).mono ?_; rintro e w' ⟨rfl, rfl⟩))
        refine region_tail_round 11 (by kernel_rfl) (by kernel_rfl) (by kernel_rfl) ?_
        simp only [List.take_succ_cons, List.take_zero, List.drop_succ_cons, List.drop_zero]
        repeat (gi_big_quiet_step ((first
          | (gi_at_call 53; exact quietIn_add (hpb _))
          | (gi_at_call 53; exact quietIn_left (hpb _))
          | (gi_at_call 43; exact quietIn_add (with_any _ _ _ (by omega) (by omega) (by omega) (by omega)))
          | (gi_at_call 43; exact quietIn_left (with_any _ _ _ (by omega) (by omega) (by omega) (by omega))))))
        refine wpQuietIn_nil ?_
        intro _ hw'
        obtain ⟨nq, hw''⟩ := hw'
        subst hw''
        gi_wp2
        exact ⟨D1, ⟨by rw [Hs.out]; exact (aD1.drewN nq).set _ _, (hU.drewN _).setCell (p := ⟨w.heap.size + 1, pi, none⟩) (.inr rfl) _⟩, ((Upd.refl _ _).drewN _).setCell (p := ⟨w.heap.size + 1, pi, none⟩) (.inr (.inl rfl)) _, fun k hk => .inl hk⟩
      · have hhb3 : bitB (s : Int) (hi : Int) = false := by simpa using hhb2
        rw [hhb3] at hhb
        have Hs := Lib.hid (ptP_no (ps := pre) (a := lo) (b := hi) (.inr hhb3))
        gi_wp2_with (first
          | (gi_at_call 52; refine (CallsIn.inRound l1 (callsIn_wide.2 (hla _))).mono ?_; rintro e w' ⟨rfl, rfl⟩)
          | (gi_at_call 52; refine (CallsIn.inRound l1 (callsIn_wide.2 (hhb _))).mono ?_; rintro e w' ⟨rfl, rfl⟩))
        exact ⟨D1, ⟨by rw [Hs.out]; exact aD1, hU⟩, Upd.refl _ _, fun k hk => .inl hk⟩
    · have hlb3 : bitB (s : Int) (lo : Int) = false := by simpa using hlb
      rw [hlb3] at hla
      have Hs := Lib.hid (ptP_no (ps := pre) (a := lo) (b := hi) (.inl hlb3))
      gi_wp2_with (gi_at_call 52; refine (CallsIn.inRound l1 (callsIn_wide.2 (hla _))).mono ?_; rintro e w' ⟨rfl, rfl⟩)
      exact ⟨D1, ⟨by rw [Hs.out]; exact aD1, hU⟩, Upd.refl _ _, fun k hk => .inl hk⟩
  case done =>
    rintro d D1 W hd ⟨aD1, hU⟩ hD1 hKd
    have hcD := (hU.boxed bD (by omega)).cell
    gi_wp2
    refine leaves_marks [d] _ ⟨by simp, fun b hb => ?_⟩ (fun W' hu' => ?_)
    · rw [List.mem_singleton.1 hb]
      exact hKd
    · exact ⟨.slice (some ⟨w.heap.size + 1, 0, none⟩) m m, by simp [results, Tryd.f31, go_sem], rfl, aD1.upd hu' (by simp; omega),
        (((hu0.mono fun _ _ e => e.elim).trans' hU (fun i hi e => by omega)).trans' hu' (fun i hi e => by simp at e; omega)).toBelow (R := fun _ => False) (fun _ e => e.elim) (Nat.le_refl _)⟩
  case stop =>
    rintro d D1 co pre W hd hpre h
    exact h.elim
end Go.Proofs.YtfahccbbccncnaaDoor

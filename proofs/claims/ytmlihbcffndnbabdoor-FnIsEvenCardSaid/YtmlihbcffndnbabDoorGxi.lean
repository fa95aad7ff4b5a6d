/- Texts that several claims share, one behind the other. -/
import Derived.Test.YtmlihbcffndnbabDoorGxe
import Derived.Test.YtmlihbcffndnbabDoorCntS
import Derived.Test.YtmlihbcffndnbabDoorGc
import Derived.Test.YtmlihbcffndnbabDoorGa
set_option linter.unusedVariables false
set_option linter.unusedSimpArgs false
/- What is left, lined up: the model's count of it. -/
namespace Go.Proofs.YtmlihbcffndnbabDoor
open Go.RowKit Go.Shelf
attribute [local go_sem] Oper.semAt_some
attribute [local go_sem, local simp] wide_fn

/-- As numbers. -/
def asI (l : List Nat) : List Int := l.map fun x : Nat => (x : Int)
theorem asI_len (l : List Nat) : (asI l).length = l.length := by simp [asI]
theorem asI_get {l : List Nat} {i : Nat} (hi : i < l.length) : (asI l)[i]?.getD 0 = ((l[i]?.getD 0 : Nat) : Int) := by simp [asI, hi]
theorem asI_snoc (l : List Nat) (x : Nat) : asI (l ++ [x]) = asI l ++ [(x : Int)] := by simp [asI]
/-- The items less than k of a set. -/
def leftK (s k : Nat) : List Nat := (List.range k).filter fun j => s.testBit j
theorem leftK_yes {s k : Nat} (h : s.testBit k = true) : leftK s (k + 1) = leftK s k ++ [k] := by simp [leftK, List.range_succ, h]
theorem leftK_no {s k : Nat} (h : s.testBit k = false) : leftK s (k + 1) = leftK s k := by simp [leftK, List.range_succ, h]
theorem leftK_len (s k : Nat) : (leftK s k).length ≤ k := by
  have := List.length_filter_le (fun j => s.testBit j) (List.range k)
  rwa [List.length_range] at this
theorem take_snocI (l : List Int) {k : Nat} (hk : k < l.length) : l.take (k + 1) = l.take k ++ [l[k]?.getD 0] := by
  rw [List.take_succ_eq_append_getElem hk, List.getElem?_eq_getElem hk]; rfl

theorem ind_row {zs : List Int} {l : List Nat} {i m : Nat} (hm : l.length = m) (hi : i < m) : (ind zs l)[i]?.getD 0 = rowTo (zs[l[i]?.getD 0]?.getD 0) l m := by
  subst hm
  unfold ind
  rw [List.getElem?_map, List.getElem?_eq_getElem hi]
  rfl

end Go.Proofs.YtmlihbcffndnbabDoor

/- PartOf: the model's and the program's. -/
namespace Go.Proofs.YtmlihbcffndnbabDoor
open Go.RowKit Go.Shelf
attribute [local go_sem] Oper.semAt_some
attribute [local go_sem, local simp] wide_fn

theorem plN_le {s a : Nat} (hs : s < 64) (ha : a ≤ 6) : plN s a ≤ 6 := by
  rw [plN_is hs ha]
  unfold leftL
  have := List.length_filter_le (fun j => s.testBit j) (List.range a)
  rw [List.length_range] at this
  omega
theorem place_any (s a : Nat) (w : World) (h1 : s < 64) (ha : a ≤ 6) :
    Calls Tryd.prog 74 #[.int .i64 (s : Int), .int .i64 (a : Int)] w fun e w' => e = .returned (.int .i64 (plN s a : Int)) ∧ w = w' := by
  have hp := powI_le6 (n := (a : Int)) (by omega)
  have hq := powI_pos (a : Int)
  have e1 : wrap64 (2 ^ a) = powI a := by
    have : (2 : Int) ^ a = powI a := by simp [powI]
    rw [this]
    exact IntWalk.wrap64_in _ ⟨by omega, by omega⟩
  have hand : bits .and .i64 (s : Int) (powI a - 1) = andI (s : Int) (powI a - 1) := bits_and (by omega) (by omega) (by omega) (by omega)
  have hb := andI_bd (s : Int) (powI a - 1)
  have hpb := popI_bd (s := andI (s : Int) (powI a - 1)) (by omega) (by omega)
  have Hp := Lib.hid (show (plN s a : Int) = popI (andI (s : Int) (powI a - 1)) by unfold plN; omega)
  go_enter Tryd.func74, Tryd.ntmps74
  go_wp2_with (go_at_call 72; refine (size_any _ _ (by omega) (by omega)).mono ?_; rintro e w' ⟨rfl, rfl⟩)
  go_ret
  exact ⟨ret_int Hp.out.symm, rfl⟩
theorem left_items {n s : Nat} (hn : n ≤ 6) (hs : s < 2 ^ n) : itemsL (s : Int) = leftL n s := by
  rw [← itemsTo_all (n := n) (by unfold powI; simp; exact_mod_cast hs) hn]
  unfold itemsTo leftL
  exact List.filter_congr fun j _ => bit_cast s j

set_option maxRecDepth 100000 in
set_option maxHeartbeats 8000000 in
theorem opart_any (A : Option Addr) (n c : Nat) (zs : List Int) (hvo : VoP zs) (s : Nat) (w : World) (hA : Ints w w.heap.size A n zs) (hs : s < 2 ^ n) :
    Calls Tryd.prog 51 #[.slice A n c, .int .i64 (s : Int)] w fun e W' => e = .returned (.slice (some ⟨w.heap.size + 1, 0, none⟩) (leftL n s).length (leftL n s).length) ∧ Arr W' (w.heap.size + 1) 57 (ind zs (leftL n s)) ∧ Below w.heap.size w W' := by
  have hlen := Lib.hid hA.len
  have hv := hvo.sets
  have hn6 : n ≤ 6 := by have := hv.1; rw [hlen.out] at this; exact this
  have hp64 := pow_le64 hn6
  have Hpi := Lib.hid (part_is hvo (s := s) (by rw [hlen.out]; exact hs))
  rw [hlen.out] at Hpi
  have Hpa := Lib.hid (show ∀ a, a < n → s.testBit a = true → plN s a < (leftL n s).length from fun a ha hb => (pl_at (by omega) hn6 ha hb).1)
  have hp := left_pop hn6 hs
  have hml := (leftL_inc zs s).len_le
  rw [hlen.out] at hml
  rw [← Hpi.out]
  generalize (leftL n s).length = m at *
  have hsz : ∀ w, Calls Tryd.prog 72 #[.int .i64 (s : Int)] w fun e w' => e = .returned (.int .i64 (m : Int)) ∧ w = w' := fun w => by
    rw [← hp]; exact size_any _ _ (by omega) (by omega)
  clear hp
  have hmk := run_make_row' (P := Tryd.prog) 38 57 (.int .i64 0) 8 Tryd.underlying38 infoItems rfl .i64 .i64 m (by omega) (by omega)
  refine (callsIn_wide (n := 9)).1 ?_
  refine callsIn_of_wp_marks Tryd.func51 rfl trivial ?_ rfl
  simp only [Tryd.ntmps51, List.size_toArray, List.length_cons, List.length_nil, Nat.reduceAdd, Nat.reduceSub, Array.replicate_succ, Array.replicate_zero, List.push_toArray, List.append_toArray, List.nil_append, List.cons_append]
  gi_wp2_with (first
    | (gi_at_call 72; refine (callsIn_wide.2 (hsz _)).mono ?_; rintro e w' ⟨rfl, rfl⟩)
    | (gi_at_call 67; refine (callsIn_wide.2 (pairs_any _ _ _ _)).mono ?_; rintro e w' ⟨rfl, rfl⟩))
  have bS := (((Boxed.new w 57 (.int .i64 (s : Int))).alloc (.cells (madeCells #[Value.int .i64 0] m) 57)).alloc (.cells #[Value.slice (some ⟨w.heap.size + 1, 0, none⟩) m m] 38)).alloc (.cells #[Value.slice A n c] 38)
  have aD := ((Arr.new (w.alloc (.cells #[Value.int .i64 (s : Int)] 57)) 57 m).alloc (.cells #[Value.slice (some ⟨w.heap.size + 1, 0, none⟩) m m] 38)).alloc (.cells #[Value.slice A n c] 38)
  have bD := (Boxed.new ((w.alloc (.cells #[Value.int .i64 (s : Int)] 57)).alloc (.cells (madeCells #[Value.int .i64 0] m) 57)) 38 (.slice (some ⟨w.heap.size + 1, 0, none⟩) m m)).alloc (.cells #[Value.slice A n c] 38)
  have bP := Boxed.new (((w.alloc (.cells #[Value.int .i64 (s : Int)] 57)).alloc (.cells (madeCells #[Value.int .i64 0] m) 57)).alloc (.cells #[Value.slice (some ⟨w.heap.size + 1, 0, none⟩) m m] 38)) 38 (.slice A n c)
  have hu0 : Upd (fun _ => False) w ((((w.alloc (.cells #[Value.int .i64 (s : Int)] 57)).alloc (.cells (madeCells #[Value.int .i64 0] m) 57)).alloc (.cells #[Value.slice (some ⟨w.heap.size + 1, 0, none⟩) m m] 38)).alloc (.cells #[Value.slice A n c] 38)) := ((((Upd.refl _ w).alloc _).alloc _).alloc _).alloc _
  have hz0 : ((((w.alloc (.cells #[Value.int .i64 (s : Int)] 57)).alloc (.cells (madeCells #[Value.int .i64 0] m) 57)).alloc (.cells #[Value.slice (some ⟨w.heap.size + 1, 0, none⟩) m m] 38)).alloc (.cells #[Value.slice A n c] 38)).heap.size = w.heap.size + 4 := by simp
  simp only [World.size_alloc] at aD bD bP
  clear hmk
  obtain ⟨W0, hW0⟩ : ∃ W0, ((((w.alloc (.cells #[Value.int .i64 (s : Int)] 57)).alloc (.cells (madeCells #[Value.int .i64 0] m) 57)).alloc (.cells #[Value.slice (some ⟨w.heap.size + 1, 0, none⟩) m m] 38)).alloc (.cells #[Value.slice A n c] 38)) = W0 := ⟨_, rfl⟩
  rw [hW0] at bS aD bD bP hu0 hz0 ⊢
  clear hW0
  have hA0 : Ints W0 w.heap.size A n zs := hA.below (hu0.toBelow (fun _ e => e.elim) (Nat.le_refl _))
  refine range_out (n := 9) (gf := 83) (lb := #[.pointer (some ⟨w.heap.size + 1 + 1 + 1, 0, none⟩)]) rfl (enters_of Tryd.func83 (by kernel_rfl) rfl) (encs := encP) (L := pairsL zs)
    (fun k => k = w.heap.size + 1) (fun k e => by omega) (fun _ => rfl)
    (fun W1 l1 hu1 hl1 hl2 => pairs_iter_at hv bP (fun k e => by omega) (by omega) hA0 (by omega) (fun k e => by omega) hu1 hl1 hl2)
    (fun pre D W => Arr W (w.heap.size + 1) 57 (downP m (ptP s pre)) ∧ Upd (fun k => k = w.heap.size + 1) W0 W)
    (fun _ _ _ _ => False)
    (fun _ D X Y hs hu => ⟨hs.1.upd hu (fun e => by omega), hs.2.trans' hu (fun i hi e => by omega)⟩)
    (fun _ _ _ _ _ hs _ => hs)
    ⟨aD, Upd.refl _ _⟩ ?owes ?done ?stop
  case owes =>
    rintro l1 pre ⟨lo, hi⟩ D1 W hl1 hl2 hDl hD1 - hpre K hK
    gi_wp2
    refine hK _ _ (Upd.refl _ _) ?_
    rintro Wb hWb - ⟨aD1, hU⟩
    clear hK
    obtain ⟨hlo, hhi, hbit⟩ := hv.pair (a := lo) (b := hi) (hpre.subset (by simp))
    rw [hlen.out] at hlo hhi
    have hcS := (hU.boxed bS (by omega)).cell
    have hcD := (hU.boxed bD (by omega)).cell
    have hsb := hU.size
    have hszb := hWb.size
    clear hbit
    have hla := fun w => has_any (s : Int) (lo : Int) w (by omega) (by omega) (by omega) (by omega)
    have hhb := fun w => has_any (s : Int) (hi : Int) w (by omega) (by omega) (by omega) (by omega)
    by_cases hlb : bitB (s : Int) (lo : Int) = true
    · rw [hlb] at hla
      by_cases hhb2 : bitB (s : Int) (hi : Int) = true
      · rw [hhb2] at hhb
        have hpl := plN_le (s := s) (a := lo) (by omega) (by omega)
        have hph := plN_le (s := s) (a := hi) (by omega) (by omega)
        have hqi := Hpa.out lo hlo (by rw [← bit_cast]; exact hlb)
        have hqj := Hpa.out hi hhi (by rw [← bit_cast]; exact hhb2)
        have Hs := Lib.hid (show downP m (ptP s (pre ++ [(lo, hi)])) = (downP m (ptP s pre)).set (plN s lo) (orI ((downP m (ptP s pre))[plN s lo]?.getD 0) (powI (plN s hi))) by rw [ptP_yes hlb hhb2, downP_snoc])
        have hpa := fun w => place_any s lo w (by omega) (by omega)
        have hpb := fun w => place_any s hi w (by omega) (by omega)
        generalize plN s lo = pi at *
        generalize plN s hi = pj at *
        have hlb' : pi < (downP m (ptP s pre)).length := by rw [downP_len]; exact hqi
        have hcs := aD1.cell hlb'
        have hfs := aD1.frozen pi
        have hbd := downP_bd (n := m) (m := m) (ps := ptP s pre) (fun p hp => by
          unfold ptP at hp
          rw [List.mem_map] at hp
          obtain ⟨⟨x, y⟩, hxy, rfl⟩ := hp
          rw [List.mem_filter] at hxy
          have hm := hv.pair (a := x) (b := y) (hpre.subset (by simp [hxy.1]))
          rw [hlen.out] at hm
          have h2 := hxy.2
          unfold ptB at h2
          rw [Bool.and_eq_true, bit_cast, bit_cast] at h2
          exact Hpa.out y hm.2.1 h2.2) pi
        have hpn := powI_le6 (n := (m : Int)) (by omega)
        clear hlb'
        generalize hD : downP m (ptP s pre) = D at *
        have HD := Lib.hid hD
        clear hD
        gi_wp2_with (first
          | (gi_at_call 73; refine (CallsIn.inRound l1 (callsIn_wide.2 (hla _))).mono ?_; rintro e w' ⟨rfl, rfl⟩)
          | (gi_at_call 73; refine (CallsIn.inRound l1 (callsIn_wide.2 (hhb _))).mono ?_; rintro e w' ⟨rfl, rfl⟩)
          | (gi_at_call 74; refine (CallsIn.inRound l1 (callsIn_wide.2 (hpa _))).mono ?_; rintro e w' ⟨rfl, rfl⟩))
        refine region_tail_round 11 (by kernel_rfl) (by kernel_rfl) (by kernel_rfl) ?_
        simp only [List.take_succ_cons, List.take_zero, List.drop_succ_cons, List.drop_zero]
        repeat (gi_big_quiet_step ((first
          | (gi_at_call 74; exact quietIn_add (hpb _))
          | (gi_at_call 74; exact quietIn_left (hpb _))
          | (gi_at_call 61; exact quietIn_add (with_any _ _ _ (by omega) (by omega) (by omega) (by omega)))
          | (gi_at_call 61; exact quietIn_left (with_any _ _ _ (by omega) (by omega) (by omega) (by omega))))))
        refine wpQuietIn_nil ?_
        intro _ hw'
        obtain ⟨nq, hw''⟩ := hw'
        subst hw''
        gi_wp2
        exact ⟨D1, ⟨by rw [Hs.out]; exact (aD1.drewN nq).set _ _, (hU.drewN _).setCell (p := ⟨w.heap.size + 1, pi, none⟩) (.inr rfl) _⟩, ((Upd.refl _ _).drewN _).setCell (p := ⟨w.heap.size + 1, pi, none⟩) (.inr (.inl rfl)) _, fun k hk => .inl hk⟩
      · have hhb3 : bitB (s : Int) (hi : Int) = false := by simpa using hhb2
        rw [hhb3] at hhb
        have Hs := Lib.hid (ptP_no (ps := pre) (a := lo) (b := hi) (.inr hhb3))
        gi_wp2_with (first
          | (gi_at_call 73; refine (CallsIn.inRound l1 (callsIn_wide.2 (hla _))).mono ?_; rintro e w' ⟨rfl, rfl⟩)
          | (gi_at_call 73; refine (CallsIn.inRound l1 (callsIn_wide.2 (hhb _))).mono ?_; rintro e w' ⟨rfl, rfl⟩))
        exact ⟨D1, ⟨by rw [Hs.out]; exact aD1, hU⟩, Upd.refl _ _, fun k hk => .inl hk⟩
    · have hlb3 : bitB (s : Int) (lo : Int) = false := by simpa using hlb
      rw [hlb3] at hla
      have Hs := Lib.hid (ptP_no (ps := pre) (a := lo) (b := hi) (.inl hlb3))
      gi_wp2_with (gi_at_call 73; refine (CallsIn.inRound l1 (callsIn_wide.2 (hla _))).mono ?_; rintro e w' ⟨rfl, rfl⟩)
      exact ⟨D1, ⟨by rw [Hs.out]; exact aD1, hU⟩, Upd.refl _ _, fun k hk => .inl hk⟩
  case done =>
    rintro d D1 W hd ⟨aD1, hU⟩ hD1 hKd
    have hcD := (hU.boxed bD (by omega)).cell
    gi_wp2
    refine leaves_marks [d] _ ⟨by simp, fun b hb => ?_⟩ (fun W' hu' => ?_)
    · rw [List.mem_singleton.1 hb]
      exact hKd
    · exact ⟨.slice (some ⟨w.heap.size + 1, 0, none⟩) m m, by simp [results, Tryd.f51, go_sem], rfl, aD1.upd hu' (by simp; omega),
        (((hu0.mono fun _ _ e => e.elim).trans' hU (fun i hi e => by omega)).trans' hu' (fun i hi e => by simp at e; omega)).toBelow (R := fun _ => False) (fun _ e => e.elim) (Nat.le_refl _)⟩
  case stop =>
    rintro d D1 co pre W hd hpre h
    exact h.elim
end Go.Proofs.YtmlihbcffndnbabDoor

/- PartOf: the program's whole. -/
namespace Go.Proofs.YtmlihbcffndnbabDoor
open Go.RowKit Go.Shelf
attribute [local go_sem] Oper.semAt_some
attribute [local go_sem, local simp] wide_fn

theorem PartOf_any (A : Option Addr) (n c : Nat) (zs : List Int) (s : Int) (w : World) (h : Ints w w.heap.size A n zs) (hbig : n ≤ 1152921504606846976) :
    Calls Tryd.prog 29 #[.slice A n c, .int .i64 s] w (GivesRow w (partR zs s)) := by
  have hlen := Lib.hid h.len
  cases hv : vo zs
  · have Ht := Lib.hid (show partR zs s = [] by unfold partR; rw [hv]; rfl)
    have Hv := Lib.hid hv
    clear hv
    go_enter Tryd.func29, Tryd.ntmps29
    go_wp2_with fail
    refine (readOrder_any _ _ _ zs _ h hbig).mono ?_
    rintro e w' ⟨hB, (⟨hv, b, rfl, _, _⟩ | ⟨_, rfl⟩)⟩
    · rw [Hv.out] at hv; cases hv
    · go_wp2_with fail
      go_ret
      exact ⟨none, 0, 0, rfl, by rw [Ht.out]; exact Row.nil _ _ _ _, hB⟩
  · have hvo : VoP zs := by simpa [vo] using hv
    have Hv := Lib.hid hv
    clear hv
    have hn6 : n ≤ 6 := by have := hvo.1; rw [hlen.out] at this; exact this
    cases hq : inB s 0 (powI n - 1)
    · have Ht := Lib.hid (show partR zs s = [] by unfold partR; rw [hlen.out, hq]; simp)
      go_enter Tryd.func29, Tryd.ntmps29
      go_wp2_with fail
      refine (readOrder_any _ _ _ zs _ h hbig).mono ?_
      rintro e w' ⟨hB, (⟨_, b, rfl, _, _⟩ | ⟨hv, _⟩)⟩
      · go_wp2_with (go_at_call 50; refine (isSetOf_any _ _ _ (by omega) (by omega)).mono ?_; rintro e w2 ⟨rfl, rfl⟩)
        go_ret
        exact ⟨none, 0, 0, rfl, by rw [Ht.out]; exact Row.nil _ _ _ _, hB⟩
      · rw [Hv.out] at hv; cases hv
    · have hs : 0 ≤ s ∧ s < powI n := by unfold inB at hq; simp at hq; omega
      have Ht := Lib.hid (show partR zs s = ind zs (leftL n s.toNat) by unfold partR; rw [hlen.out, hq, Hv.out]; rfl)
      obtain ⟨s, rfl⟩ := Int.eq_ofNat_of_zero_le hs.1
      rw [Int.toNat_natCast] at Ht
      have hs2 : s < 2 ^ n := by have := hs.2; unfold powI at this; simp at this; exact_mod_cast this
      have hll := (leftL_inc zs s).len_le
      rw [hlen.out] at hll
      have Hil := Lib.hid (ind_len zs (leftL n s))
      go_enter Tryd.func29, Tryd.ntmps29
      go_wp2_with fail
      refine (readOrder_any _ _ _ zs _ h hbig).mono ?_
      rintro e w1 ⟨hB, (⟨_, b, rfl, hb, hAr⟩ | ⟨hv, _⟩)⟩
      · have z1 := hB.size
        go_wp2_with (go_at_call 50; refine (isSetOf_any _ _ _ (by omega) (by omega)).mono ?_; rintro e w2 ⟨rfl, rfl⟩)
        refine (opart_any _ _ _ zs hvo s _ (hAr.ints' hAr.lt hlen.out) hs2).mono ?_
        rintro e w2 ⟨rfl, hA2, hB2⟩
        have z2 := hB2.size
        have Hm := Lib.hid (show (ind zs (leftL n s)).length = (leftL n s).length from Hil.out)
        generalize (leftL n s).length = m at *
        go_wp2_with fail
        refine (list_any _ m _ (ind zs (leftL n s)) _ (hA2.ints' hA2.lt Hm.out) (by omega)).mono ?_
        rintro e w3 ⟨rfl, hA3, hB3⟩
        go_wp2_with fail
        go_ret
        exact ⟨_, m, m, rfl, by rw [Ht.out]; exact Row.of hA3 Hm.out (by omega) hA3.lt, (hB.trans (hB2.mono z1)).trans (hB3.mono (by omega))⟩
      · rw [Hv.out] at hv; cases hv
theorem partR_le (zs : List Int) (s : Int) : (partR zs s).length ≤ 1048576 := by
  unfold partR
  split
  · rename_i h
    have hv : VoP zs := by simp [vo] at h; exact h.1
    have := (leftL_inc zs s.toNat).len_le
    have := hv.1
    rw [ind_len]
    omega
  · simp
end Go.Proofs.YtmlihbcffndnbabDoor

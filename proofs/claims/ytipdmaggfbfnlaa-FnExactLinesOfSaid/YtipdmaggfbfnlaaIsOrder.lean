/- The program's own test of orders: 'isOrder' ranges over the pairs. -/
import Derived.Test.YtipdmaggfbfnlaaPairs
import Derived.Test.YtipdmaggfbfnlaaGa
set_option linter.unusedVariables false
set_option linter.unusedSimpArgs false
namespace Go.Proofs.Ytipdmaggfbfnlaa
open Go.RowKit Go.Shelf
attribute [local go_sem] Oper.semAt_some
attribute [local go_sem, local simp] wide_fn

/-- The pair's second is another one, and what is above it is above the first. -/
def okQ (zs : List Int) (p : Nat × Nat) : Bool := !(p.1 == p.2) && lessI (zs[p.2]?.getD 0) (zs[p.1]?.getD 0) == 0
def iso (zs : List Int) : Bool := (pairsL zs).all (okQ zs)

theorem iso_not {zs : List Int} {pre : List (Nat × Nat)} {x : Nat × Nat} (hp : pre ++ [x] <+: pairsL zs) (h : okQ zs x = false) : iso zs = false := by
  obtain ⟨t, ht⟩ := hp
  unfold iso
  rw [← ht]
  simp [h]

/-- 'pairs' at any place of a program: what its contract asks, out of what the caller has at the loop. -/
theorem pairs_iter_at {A : Option Addr} {n c : Nat} {zs : List Int} (hv : Sets zs) {b B0 : Nat} {M : Nat → Prop} {w W1 : World} {l : Nat} (hb : Boxed w b 43 (.slice A n c)) (hM : ∀ k, M k → k < w.heap.size) (hMb : ¬ M b)
    (hA : Ints w B0 A n zs) (hB0 : B0 ≤ w.heap.size) (hMA : ∀ k, M k → B0 ≤ k) (hu : Upd (fun _ => False) w W1) (hl : w.heap.size ≤ l) (hl1 : l < W1.heap.size) :
    Iter Try.prog 113 #[.pointer (some ⟨b, 0, none⟩)] encP (pairsL zs) (fun k => M k ∨ k = l) W1 := by
  have hlt := hb.lt
  have hz := hu.size
  refine pairs_iter A n c zs hv b _ W1 (hu.boxed hb (fun e => e)) (fun e => ?_) (fun k e => ?_) ((hA.more hB0).keep (fun p hp => ?_) |>.more hz) (fun hn a e h => ?_)
  · rcases e with e | e
    · exact hMb e
    · omega
  · rcases e with e | e
    · have := hM k e; omega
    · omega
  · exact World.cell?_of_block (hu.block p.block hp (fun e => e))
  · obtain ⟨b', off, rfl, hb', _⟩ := hA.at_ hn
    cases e
    rcases h with h | h
    · have := hMA _ h; simp at this; omega
    · simp at h; omega

/-- Both tests of orders agree on sets of items. -/
theorem lessI_zero {a b : Int} (h : lessI a b = 0) (j : Int) (hj : bitB a j = true) : bitB b j = true := by
  have h1 : a.toNat &&& (a.toNat ^^^ b.toNat) = 0 := by unfold lessI at h; omega
  have h2 : (a.toNat &&& (a.toNat ^^^ b.toNat)).testBit j.toNat = false := by rw [h1]; simp
  unfold bitB at *
  rw [Nat.testBit_and, Nat.testBit_xor, hj] at h2
  simpa using h2
theorem iso_vo {zs : List Int} (h : Sets zs) : iso zs = vo zs := by
  rw [Bool.eq_iff_iff]
  constructor
  · intro hi
    refine vo_true ⟨h.1, fun a ha => ?_, fun a ha b hb => ?_⟩
    · have hz := h.2 a ha
      have hs : bitB (zs[a]?.getD 0) a = false := by
        cases hb : bitB (zs[a]?.getD 0) a with
        | false => rfl
        | true =>
          have := List.all_eq_true.1 hi (a, a) (mem_pairsL.2 ⟨ha, by have := h.1; omega, hb⟩)
          simp [okQ] at this
      have hin : inB (zs[a]?.getD 0) 0 (powI zs.length - 1) = true := by unfold inB; simp; omega
      exact okA_yes hin hs
    · cases hb1 : bitB (zs[a]?.getD 0) b with
      | false => simp [okP, hb1]
      | true =>
        have h1 := List.all_eq_true.1 hi (a, b) (mem_pairsL.2 ⟨ha, by have := h.1; omega, hb1⟩)
        simp only [okQ, Bool.and_eq_true, beq_iff_eq, Bool.not_eq_true', beq_eq_false_iff_ne] at h1
        have h2 : bitB (zs[b]?.getD 0) a = false := by
          cases hc : bitB (zs[b]?.getD 0) a with
          | false => rfl
          | true =>
            have h3 := lessI_zero h1.2 a hc
            have := List.all_eq_true.1 hi (a, a) (mem_pairsL.2 ⟨ha, by have := h.1; omega, h3⟩)
            simp [okQ] at this
        simp [okP, hb1, h1.2, h2]
  · intro hv
    have hv : VoP zs := by simpa [vo] using hv
    refine List.all_eq_true.2 fun p hp => ?_
    obtain ⟨a, b⟩ := p
    obtain ⟨ha, hb, hbit⟩ := h.pair hp
    have h1 := hv.2.2 a ha b hb
    have h2 := hv.2.1 a ha
    simp only [okP, hbit, Bool.not_true, Bool.false_or, Bool.and_eq_true, beq_iff_eq, Bool.not_eq_true'] at h1
    simp only [okA, Bool.and_eq_true, Bool.not_eq_true'] at h2
    have hne : a ≠ b := fun e => by subst e; rw [hbit] at h2; exact absurd h2.2 (by decide)
    simp [okQ, h1.1, hne]

set_option maxRecDepth 100000 in
set_option maxHeartbeats 4000000 in
theorem isOrder_any (A : Option Addr) (n c : Nat) (zs : List Int) (hv : Sets zs) (w : World) (hA : Ints w w.heap.size A n zs) :
    Calls Try.prog 104 #[.slice A n c] w fun e W' => e = .returned (.bool (iso zs)) ∧ Below w.heap.size w W' := by
  refine (callsIn_wide (n := 9)).1 ?_
  refine callsIn_of_wp_marks Try.func104 rfl trivial ?_ rfl
  simp only [Try.ntmps104, List.size_toArray, List.length_cons, List.length_nil, Nat.reduceAdd, Nat.reduceSub, Array.replicate_succ, Array.replicate_zero, List.push_toArray, List.append_toArray, List.nil_append, List.cons_append]
  have hlen := Lib.hid hA.len
  gi_wp2_with (gi_at_call 72; refine (callsIn_wide.2 (pairs_any _ _ _ _)).mono ?_; rintro e w' ⟨rfl, rfl⟩)
  have bO := ((Boxed.new w 43 (.slice A n c)).alloc (.cells #[Value.bool false] 4)).alloc (.cells #[Value.slice A n c] 43)
  have bR := (Boxed.new (w.alloc (.cells #[Value.slice A n c] 43)) 4 (.bool false)).alloc (.cells #[Value.slice A n c] 43)
  have bP := Boxed.new ((w.alloc (.cells #[Value.slice A n c] 43)).alloc (.cells #[Value.bool false] 4)) 43 (.slice A n c)
  have hu0 : Upd (fun _ => False) w (((w.alloc (.cells #[Value.slice A n c] 43)).alloc (.cells #[Value.bool false] 4)).alloc (.cells #[Value.slice A n c] 43)) := (((Upd.refl _ w).alloc _).alloc _).alloc _
  have hz0 : (((w.alloc (.cells #[Value.slice A n c] 43)).alloc (.cells #[Value.bool false] 4)).alloc (.cells #[Value.slice A n c] 43)).heap.size = w.heap.size + 3 := by simp
  simp only [World.size_alloc] at bR bP
  obtain ⟨W0, hW0⟩ : ∃ W0, (((w.alloc (.cells #[Value.slice A n c] 43)).alloc (.cells #[Value.bool false] 4)).alloc (.cells #[Value.slice A n c] 43)) = W0 := ⟨_, rfl⟩
  rw [hW0] at bO bR bP hu0 hz0 ⊢
  clear hW0
  have hA0 : Ints W0 w.heap.size A n zs := hA.below (hu0.toBelow (fun _ e => e.elim) (Nat.le_refl _))
  refine range_out (n := 9) (gf := 113) (lb := #[.pointer (some ⟨w.heap.size + 1 + 1, 0, none⟩)]) rfl (enters_of Try.func113 (by kernel_rfl) rfl) (encs := encP) (L := pairsL zs)
    (fun k => k = w.heap.size + 1) (fun k e => by omega) (fun _ => rfl)
    (fun W1 l1 hu1 hl1 hl2 => pairs_iter_at hv bP (fun k e => by omega) (by omega) hA0 (by omega) (fun k e => by omega) hu1 hl1 hl2)
    (fun pre D W => pre.all (okQ zs) = true ∧ Boxed W (w.heap.size + 1) 4 (.bool false) ∧ Upd (fun k => k = w.heap.size + 1) W0 W)
    (fun co pre D W => co = .ret ∧ iso zs = false ∧ Boxed W (w.heap.size + 1) 4 (.bool false) ∧ Upd (fun k => k = w.heap.size + 1) W0 W)
    (fun s D X Y hs hu => ⟨hs.1, hu.boxed hs.2.1 (fun e => by omega), hs.2.2.trans' hu (fun i hi e => by omega)⟩)
    (fun co s D X Y hs hu => ⟨hs.1, hs.2.1, hu.boxed hs.2.2.1 (fun e => by omega), hs.2.2.2.trans' hu (fun i hi e => by omega)⟩)
    ⟨rfl, bR, Upd.refl _ _⟩ ?owes ?done ?stop
  case owes =>
    rintro l1 pre ⟨lo, hi⟩ D1 W hl1 hl2 hDl hD1 - hpre K hK
    gi_wp2
    refine hK _ _ (Upd.refl _ _) ?_
    rintro Wb hWb - ⟨hall, bR1, hU⟩
    clear hK
    obtain ⟨hlo, hhi, hbit⟩ := hv.pair (a := lo) (b := hi) (hpre.subset (by simp))
    rw [hlen.out] at hlo hhi
    have bO1 := hU.boxed bO (by omega)
    have hcO := bO1.cell
    obtain ⟨ab, off, rfl, hab, hc⟩ := hA0.at_ hlo
    have hcl := hU.cell (hc lo hlo) (fun e => by simp at e; omega)
    have hch := hU.cell (hc hi hhi) (fun e => by simp at e; omega)
    have zl := hv.bd lo (by rw [hlen.out]; exact hlo)
    have zh := hv.bd hi (by rw [hlen.out]; exact hhi)
    have hsb := hU.size
    have hcR := bR1.cell
    have hfR := bR1.frozen
    have hszb := hWb.size
    by_cases heq : lo = hi
    · subst heq
      have HF := Lib.hid (iso_not hpre (show okQ zs (lo, lo) = false by simp [okQ]))
      gi_wp2
      refine region_quiet_round (by kernel_rfl) (by kernel_rfl) (by kernel_rfl) ?_
      repeat (gi_big_quiet_step ((first
        | (gi_at_call 135; exact quietIn_add (within_any _ _ _ (by omega) (by omega) (by omega) (by omega)))
        | (gi_at_call 135; exact quietIn_left (within_any _ _ _ (by omega) (by omega) (by omega) (by omega))))))
      refine wpQuietIn_nil ?_
      intro _ hw'
      obtain ⟨nq, hw''⟩ := hw'
      subst hw''
      gi_wp2
      exact ⟨D1, ⟨rfl, HF.out, bR1.set _, (hU.drewN _).setCell (p := ⟨w.heap.size + 1, 0, none⟩) (.inr rfl) _⟩, ((Upd.refl _ _).drewN _).setCell (p := ⟨w.heap.size + 1, 0, none⟩) (.inr (.inl rfl)) _, fun k hk => .inl hk⟩
    · have hne : ((lo : Int) == (hi : Int)) = false := by simpa using fun h => heq (by omega)
      cases hw : (lessI (zs[hi]?.getD 0) (zs[lo]?.getD 0) == 0)
      · have HF := Lib.hid (iso_not hpre (show okQ zs (lo, hi) = false by simp [okQ, hw]))
        gi_wp2
        refine region_quiet_round (by kernel_rfl) (by kernel_rfl) (by kernel_rfl) ?_
        repeat (gi_big_quiet_step ((first
          | (gi_at_call 135; exact quietIn_add (within_any _ _ _ (by omega) (by omega) (by omega) (by omega)))
          | (gi_at_call 135; exact quietIn_left (within_any _ _ _ (by omega) (by omega) (by omega) (by omega))))))
        refine wpQuietIn_nil ?_
        intro _ hw'
        obtain ⟨nq, hw''⟩ := hw'
        subst hw''
        gi_wp2
        exact ⟨D1, ⟨rfl, HF.out, bR1.set _, (hU.drewN _).setCell (p := ⟨w.heap.size + 1, 0, none⟩) (.inr rfl) _⟩, ((Upd.refl _ _).drewN _).setCell (p := ⟨w.heap.size + 1, 0, none⟩) (.inr (.inl rfl)) _, fun k hk => .inl hk⟩
      · have HF := Lib.hid (show okQ zs (lo, hi) = true by simp [okQ, hw, heq])
        gi_wp2
        refine region_quiet_round (by kernel_rfl) (by kernel_rfl) (by kernel_rfl) ?_
        repeat (gi_big_quiet_step ((first
          | (gi_at_call 135; exact quietIn_add (within_any _ _ _ (by omega) (by omega) (by omega) (by omega)))
          | (gi_at_call 135; exact quietIn_left (within_any _ _ _ (by omega) (by omega) (by omega) (by omega))))))
        refine wpQuietIn_nil ?_
        intro _ hw'
        obtain ⟨nq, hw''⟩ := hw'
        subst hw''
        gi_wp2
        exact ⟨D1, ⟨by rw [List.all_append, hall]; simp [HF.out], bR1, hU.drewN _⟩, (Upd.refl _ _).drewN _, fun k hk => .inl hk⟩
  case done =>
    rintro d D1 W hd ⟨hall, bR1, hU⟩ hD1 hKd
    have hcR := bR1.cell
    have hfR := bR1.frozen
    have HF := Lib.hid (show iso zs = true from hall)
    gi_wp2
    have hus : Upd (fun k => k = w.heap.size + 1) W (W.setCell ⟨w.heap.size + 1, 0, none⟩ (.bool true)) := (Upd.refl (fun k => k = w.heap.size + 1) W).setCell (p := ⟨w.heap.size + 1, 0, none⟩) (.inr rfl) _
    refine leaves_marks [d] _ ⟨by simp, fun b hb => ?_⟩ (fun W' hu' => ?_)
    · rw [List.mem_singleton.1 hb]
      exact (hus.block d (Array.getElem?_eq_some_iff.1 hKd).1 (by omega)).trans hKd
    · have hc' := (hu'.boxed (bR1.set (.bool true)) (by simp; omega)).cell
      exact ⟨.bool true, by simp [results, Try.f104, go_sem, hc'], ret_bool HF.out.symm,
        (((hu0.mono fun _ _ e => e.elim).trans' (hU.trans hus) (fun i hi e => by omega)).trans' hu' (fun i hi e => by simp at e; omega)).toBelow (R := fun _ => False) (fun _ e => e.elim) (Nat.le_refl _)⟩
  case stop =>
    rintro d D1 co pre W hd hpre ⟨rfl, hF, bR1, hU⟩ hD1 hKd
    have HF := Lib.hid hF
    clear hF
    gi_wp2
    refine leaves_marks [d] _ ⟨by simp, fun b hb => ?_⟩ (fun W' hu' => ?_)
    · rw [List.mem_singleton.1 hb]
      exact hKd
    · have hc' := (hu'.boxed bR1 (by simp; omega)).cell
      exact ⟨.bool false, by simp [results, Try.f104, go_sem, hc'], ret_bool HF.out.symm,
        (((hu0.mono fun _ _ e => e.elim).trans' hU (fun i hi e => by omega)).trans' hu' (fun i hi e => by simp at e; omega)).toBelow (R := fun _ => False) (fun _ e => e.elim) (Nat.le_refl _)⟩
end Go.Proofs.Ytipdmaggfbfnlaa

/- Whether a list rises: the program's. -/
import Derived.Test.YtmlihbcffndnbaaGxd
import Derived.Test.YtmlihbcffndnbaaGa
import Derived.Test.YtmlihbcffndnbaaPtI
set_option linter.unusedVariables false
set_option linter.unusedSimpArgs false
namespace Go.Proofs.Ytmlihbcffndnbaa
open Go.RowKit Go.Shelf
attribute [local go_sem] Oper.semAt_some
attribute [local go_sem, local simp] wide_fn

set_option maxRecDepth 100000 in
set_option maxHeartbeats 8000000 in
theorem tIsRising_any (A : Option Addr) (n : Nat) (zs : List Int) (A' : Option Addr) (m : Nat) (ys : List Int) (F : Option Addr) (k cf : Nat) (fs : List Int) (w : World) (h : Ints w w.heap.size A n zs) (h' : Ints w w.heap.size A' m ys) (hf : Ints w w.heap.size F k fs)
    (hv : Sets zs) (hv' : Sets ys) (he : endsB m fs = true) :
    Calls Try.prog 58 #[tkV A n A' m F k cf] w fun e w' => e = .returned (.bool (riB zs ys fs)) ∧ Below w.heap.size w w' := by
  have hlen := Lib.hid h.len
  have hlen' := Lib.hid h'.len
  have hlenf := Lib.hid hf.len
  have hn6 : n ≤ 6 := by have := hv.1; rw [hlen.out] at this; exact this
  unfold tkV
  refine (callsIn_wide (n := 9)).1 ?_
  refine callsIn_of_wp_marks Try.func58 rfl trivial ?_ rfl
  simp only [Try.ntmps58, List.size_toArray, List.length_cons, List.length_nil, Nat.reduceAdd, Nat.reduceSub, Array.replicate_succ, Array.replicate_zero, List.push_toArray, List.append_toArray, List.nil_append, List.cons_append]
  have kh0 : ((w.alloc (.cells #[.slice A n n, .slice A' m m, .slice F k cf] 44)).alloc (.cells #[Value.bool false] 4)).heap[w.heap.size]? = some (.cells #[.slice A n n, .slice A' m m, .slice F k cf] 44 (0, 0)) := (Below.heap_alloc _ _ w.heap.size (by simp)).trans (heap_alloc_new w _)
  obtain ⟨q0, q1, q2, -, -, -⟩ := three_cells kh0
  gi_wp2_with (gi_at_call 76; refine (callsIn_wide.2 (pairs_any _ _ _ _)).mono ?_; rintro e w' ⟨rfl, rfl⟩)
  have bP := Boxed.new ((w.alloc (.cells #[.slice A n n, .slice A' m m, .slice F k cf] 44)).alloc (.cells #[Value.bool false] 4)) 42 (.slice A n n)
  have bR := (Boxed.new (w.alloc (.cells #[.slice A n n, .slice A' m m, .slice F k cf] 44)) 4 (.bool false)).alloc (.cells #[Value.slice A n n] 42)
  have kh1 := (Below.heap_alloc ((w.alloc (.cells #[.slice A n n, .slice A' m m, .slice F k cf] 44)).alloc (.cells #[Value.bool false] 4)) (.cells #[Value.slice A n n] 42) w.heap.size (by simp; omega)).trans kh0
  have hu0 : Upd (fun _ => False) w (((w.alloc (.cells #[.slice A n n, .slice A' m m, .slice F k cf] 44)).alloc (.cells #[Value.bool false] 4)).alloc (.cells #[Value.slice A n n] 42)) := (((Upd.refl _ w).alloc _).alloc _).alloc _
  have hz0 : (((w.alloc (.cells #[.slice A n n, .slice A' m m, .slice F k cf] 44)).alloc (.cells #[Value.bool false] 4)).alloc (.cells #[Value.slice A n n] 42)).heap.size = w.heap.size + 3 := by simp
  simp only [World.size_alloc] at bP bR
  obtain ⟨W0, hW0⟩ : ∃ W0, (((w.alloc (.cells #[.slice A n n, .slice A' m m, .slice F k cf] 44)).alloc (.cells #[Value.bool false] 4)).alloc (.cells #[Value.slice A n n] 42)) = W0 := ⟨_, rfl⟩
  rw [hW0] at bP bR kh1 hu0 hz0 ⊢
  clear hW0 kh0 q0 q1 q2
  have hA0 : Ints W0 w.heap.size A n zs := h.below (hu0.toBelow (fun _ e => e.elim) (Nat.le_refl _))
  have hB0 : Ints W0 w.heap.size A' m ys := h'.below (hu0.toBelow (fun _ e => e.elim) (Nat.le_refl _))
  have hF0 : Ints W0 w.heap.size F k fs := hf.below (hu0.toBelow (fun _ e => e.elim) (Nat.le_refl _))
  refine range_out (n := 9) (gf := 87) (lb := #[.pointer (some ⟨w.heap.size + 1 + 1, 0, none⟩)]) rfl (enters_of Try.func87 (by kernel_rfl) rfl) (encs := encP) (L := pairsL zs)
    (fun k => k = w.heap.size + 1) (fun k e => by omega) (fun _ => rfl)
    (fun W1 l1 hu1 hl1 hl2 => pairs_iter_at hv bP (fun k e => by omega) (by omega) hA0 (by omega) (fun k e => by omega) hu1 hl1 hl2)
    (fun pre D W => (∀ p ∈ pre, mpOk ys fs p = true) ∧ Boxed W (w.heap.size + 1) 4 (.bool false) ∧ Upd (fun k => k = w.heap.size + 1) W0 W)
    (fun co pre D W => co = .ret ∧ riB zs ys fs = false ∧ Boxed W (w.heap.size + 1) 4 (.bool false) ∧ Upd (fun k => k = w.heap.size + 1) W0 W)
    (fun _ D X Y hs hu => ⟨hs.1, hu.boxed hs.2.1 (fun e => by omega), hs.2.2.trans' hu (fun i hi e => by omega)⟩)
    (fun co _ D X Y hs hu => ⟨hs.1, hs.2.1, hu.boxed hs.2.2.1 (fun e => by omega), hs.2.2.2.trans' hu (fun i hi e => by omega)⟩)
    ⟨(fun p hp => by cases hp), bR, Upd.refl _ _⟩ ?owes ?done ?stop
  case owes =>
    rintro l1 pre ⟨lo, hi⟩ D1 W hl1 hl2 hDl hD1 - hpre K hK
    gi_wp2
    refine hK _ _ (Upd.refl _ _) ?_
    rintro Wb hWb - ⟨hall, bRb, hU⟩
    clear hK
    obtain ⟨hlo, hhi, hbit⟩ := hv.pair (a := lo) (b := hi) (hpre.subset (by simp))
    have hlo0 := hlo
    have hhi0 := hhi
    rw [hlen.out] at hlo hhi
    obtain ⟨c0, c1, c2, -, -, -⟩ := three_cells ((hU.block w.heap.size (by omega) (by omega)).trans kh1)
    have hsb := hU.size
    have hszb := hWb.size
    have hcR := bRb.cell
    have hfR := bRb.frozen
    have hB1 : ∀ q, Ints (Wb.drewN q) w.heap.size A' m ys := fun q => (hB0.below (hU.toBelow (fun _ e => by omega) (by omega))).drewN q
    by_cases hmx : max lo hi < k
    · obtain ⟨bf, off, rfl, hbf, hcf⟩ := hF0.at_ (show lo < k by omega)
      have hfl := hU.cell (hcf lo (by omega)) (fun e => by simp at e; omega)
      have hfh := hU.cell (hcf hi (by omega)) (fun e => by simp at e; omega)
      obtain ⟨e1, l1'⟩ := ends_it he (k := lo) (by rw [hlenf.out]; omega)
      obtain ⟨e2, l2'⟩ := ends_it he (k := hi) (by rw [hlenf.out]; omega)
      rw [e1] at hfl
      rw [e2] at hfh
      clear hcf e1 e2
      have hao := fun q => isAtOrAbove_any A' m m w.heap.size ys (itN fs lo) (itN fs hi) (Wb.drewN q) (hB1 q) hv' l1' l2'
      rcases Nat.lt_or_ge lo hi with hlh0 | hlh0
      · have hlh : lo < hi := hlh0
        have hmk : ((hi : Nat) : Int) < (k : Int) := by omega
        clear hmx
        cases ham : amB ys (itN fs lo) (itN fs hi)
        · have HR := Lib.hid (ri_no hv hlo0 hhi0 hbit (by rw [hlenf.out]; omega) (by rw [hlenf.out]; omega) ham)
          rw [ham] at hao
          gi_wp2
          refine region_quiet_round (by kernel_rfl) (by kernel_rfl) (by kernel_rfl) ?_
          repeat (gi_big_quiet_step ((first
            | (gi_at_call 78; exact quietIn_add (hao _))
            | (gi_at_call 78; exact quietIn_left (hao _)))))
          refine wpQuietIn_nil ?_
          intro _ hw'
          obtain ⟨nq, hw''⟩ := hw'
          subst hw''
          gi_wp2
          have bRn : Boxed (Wb.drewN nq) (w.heap.size + 1) 4 (.bool false) := bRb
          exact ⟨D1, ⟨rfl, HR.out, bRn.set _, (hU.drewN nq).setCell (p := ⟨w.heap.size + 1, 0, none⟩) (.inr rfl) _⟩, ((Upd.refl _ _).drewN _).setCell (p := ⟨w.heap.size + 1, 0, none⟩) (.inr (.inl rfl)) _, fun k hk => .inl hk⟩
        · have HR := Lib.hid (show mpOk ys fs (lo, hi) = true by unfold mpOk; rw [ham]; simp)
          rw [ham] at hao
          gi_wp2
          refine region_quiet_round (by kernel_rfl) (by kernel_rfl) (by kernel_rfl) ?_
          repeat (gi_big_quiet_step ((first
            | (gi_at_call 78; exact quietIn_add (hao _))
            | (gi_at_call 78; exact quietIn_left (hao _)))))
          refine wpQuietIn_nil ?_
          intro _ hw'
          obtain ⟨nq, hw''⟩ := hw'
          subst hw''
          gi_wp2
          exact ⟨D1, ⟨fun p hp => by rcases List.mem_append.1 hp with hp | hp
                                     · exact hall p hp
                                     · rw [List.mem_singleton.1 hp]; exact HR.out, bRb, hU.drewN _⟩, (Upd.refl _ _).drewN _, fun k hk => .inl hk⟩
      · have hlh : ¬ lo < hi := by omega
        have hmk : ((lo : Nat) : Int) < (k : Int) := by omega
        clear hmx
        cases ham : amB ys (itN fs lo) (itN fs hi)
        · have HR := Lib.hid (ri_no hv hlo0 hhi0 hbit (by rw [hlenf.out]; omega) (by rw [hlenf.out]; omega) ham)
          rw [ham] at hao
          gi_wp2
          refine region_quiet_round (by kernel_rfl) (by kernel_rfl) (by kernel_rfl) ?_
          repeat (gi_big_quiet_step ((first
            | (gi_at_call 78; exact quietIn_add (hao _))
            | (gi_at_call 78; exact quietIn_left (hao _)))))
          refine wpQuietIn_nil ?_
          intro _ hw'
          obtain ⟨nq, hw''⟩ := hw'
          subst hw''
          gi_wp2
          have bRn : Boxed (Wb.drewN nq) (w.heap.size + 1) 4 (.bool false) := bRb
          exact ⟨D1, ⟨rfl, HR.out, bRn.set _, (hU.drewN nq).setCell (p := ⟨w.heap.size + 1, 0, none⟩) (.inr rfl) _⟩, ((Upd.refl _ _).drewN _).setCell (p := ⟨w.heap.size + 1, 0, none⟩) (.inr (.inl rfl)) _, fun k hk => .inl hk⟩
        · have HR := Lib.hid (show mpOk ys fs (lo, hi) = true by unfold mpOk; rw [ham]; simp)
          rw [ham] at hao
          gi_wp2
          refine region_quiet_round (by kernel_rfl) (by kernel_rfl) (by kernel_rfl) ?_
          repeat (gi_big_quiet_step ((first
            | (gi_at_call 78; exact quietIn_add (hao _))
            | (gi_at_call 78; exact quietIn_left (hao _)))))
          refine wpQuietIn_nil ?_
          intro _ hw'
          obtain ⟨nq, hw''⟩ := hw'
          subst hw''
          gi_wp2
          exact ⟨D1, ⟨fun p hp => by rcases List.mem_append.1 hp with hp | hp
                                     · exact hall p hp
                                     · rw [List.mem_singleton.1 hp]; exact HR.out, bRb, hU.drewN _⟩, (Upd.refl _ _).drewN _, fun k hk => .inl hk⟩
    · rcases Nat.lt_or_ge lo hi with hlh0 | hlh0
      · have hlh : lo < hi := hlh0
        have hmk : decide (hi < k) = false := by simp; omega
        have hmk2 : decide ((hi : Int) < (k : Int)) = false := by simp; omega
        have HR := Lib.hid (show mpOk ys fs (lo, hi) = true by unfold mpOk; rw [show decide (max lo hi < fs.length) = false by rw [hlenf.out]; simp; omega]; rfl)
        clear hmx
        gi_wp2
        refine region_quiet_round (by kernel_rfl) (by kernel_rfl) (by kernel_rfl) ?_
        repeat (gi_big_quiet_step (fail))
        refine wpQuietIn_nil ?_
        intro _ hw'
        obtain ⟨nq, hw''⟩ := hw'
        subst hw''
        gi_wp2
        exact ⟨D1, ⟨fun p hp => by rcases List.mem_append.1 hp with hp | hp
                                   · exact hall p hp
                                   · rw [List.mem_singleton.1 hp]; exact HR.out, bRb, hU.drewN _⟩, (Upd.refl _ _).drewN _, fun k hk => .inl hk⟩
      · have hlh : ¬ lo < hi := by omega
        have hmk : decide (lo < k) = false := by simp; omega
        have hmk2 : decide ((lo : Int) < (k : Int)) = false := by simp; omega
        have HR := Lib.hid (show mpOk ys fs (lo, hi) = true by unfold mpOk; rw [show decide (max lo hi < fs.length) = false by rw [hlenf.out]; simp; omega]; rfl)
        clear hmx
        gi_wp2
        refine region_quiet_round (by kernel_rfl) (by kernel_rfl) (by kernel_rfl) ?_
        repeat (gi_big_quiet_step (fail))
        refine wpQuietIn_nil ?_
        intro _ hw'
        obtain ⟨nq, hw''⟩ := hw'
        subst hw''
        gi_wp2
        exact ⟨D1, ⟨fun p hp => by rcases List.mem_append.1 hp with hp | hp
                                   · exact hall p hp
                                   · rw [List.mem_singleton.1 hp]; exact HR.out, bRb, hU.drewN _⟩, (Upd.refl _ _).drewN _, fun k hk => .inl hk⟩
  case done =>
    rintro d D1 W hd ⟨hall, bRb, hU⟩ hD1 hKd
    have HR := Lib.hid (show riB zs ys fs = true from List.all_eq_true.2 hall)
    have hcR := bRb.cell
    have hfR := bRb.frozen
    have hsz := hU.size
    gi_wp2
    have hus : Upd (fun k => k = w.heap.size + 1) W (W.setCell ⟨w.heap.size + 1, 0, none⟩ (.bool true)) := (Upd.refl (fun k => k = w.heap.size + 1) _).setCell (p := ⟨w.heap.size + 1, 0, none⟩) (.inr rfl) _
    have bR4 := bRb.set (.bool true)
    refine leaves_marks [d] _ ⟨by simp, fun b hb => ?_⟩ (fun W' hu' => ?_)
    · rw [List.mem_singleton.1 hb]
      exact (hus.block d (Array.getElem?_eq_some_iff.1 hKd).1 (by omega)).trans hKd
    · have hc' := (hu'.boxed bR4 (by simp; omega)).cell
      exact ⟨_, by simp [results, Try.f58, go_sem, hc']; rfl, by rw [HR.out],
        ((hu0.mono fun _ _ e => e.elim).trans' ((hU.trans hus).trans' hu' (fun i hi e => by simp at e; omega)) (fun i hi e => by omega)).toBelow (R := fun _ => False) (fun _ e => e.elim) (Nat.le_refl _)⟩
  case stop =>
    rintro d D1 co pre W hd hpre ⟨rfl, HR, bRb, hU⟩ hD1 hKd
    have hsz := hU.size
    gi_wp2
    refine leaves_marks [d] _ ⟨by simp, fun b hb => ?_⟩ (fun W' hu' => ?_)
    · rw [List.mem_singleton.1 hb]
      exact hKd
    · have hc' := (hu'.boxed bRb (by simp; omega)).cell
      exact ⟨_, by simp [results, Try.f58, go_sem, hc']; rfl, by rw [HR],
        ((hu0.mono fun _ _ e => e.elim).trans' (hU.trans' hu' (fun i hi e => by simp at e; omega)) (fun i hi e => by omega)).toBelow (R := fun _ => False) (fun _ e => e.elim) (Nat.le_refl _)⟩
end Go.Proofs.Ytmlihbcffndnbaa

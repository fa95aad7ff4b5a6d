/- Texts that several claims share, one behind the other. -/
import Derived.Test.YtmlihbcffndnbaaDoorMpI
import Derived.Test.YtmlihbcffndnbaaDoorGa
import Derived.Test.YtmlihbcffndnbaaDoorGxg
set_option linter.unusedVariables false
set_option linter.unusedSimpArgs false
/- Whether a list rises: the program's. -/
namespace Go.Proofs.YtmlihbcffndnbaaDoor
open Go.RowKit Go.Shelf
attribute [local go_sem] Oper.semAt_some
attribute [local go_sem, local simp] wide_fn

set_option maxRecDepth 100000 in
set_option maxHeartbeats 8000000 in
theorem tIsRising_any (A : Option Addr) (n : Nat) (zs : List Int) (A' : Option Addr) (m : Nat) (ys : List Int) (F : Option Addr) (k cf : Nat) (fs : List Int) (w : World) (h : Ints w w.heap.size A n zs) (h' : Ints w w.heap.size A' m ys) (hf : Ints w w.heap.size F k fs)
    (hv : Sets zs) (hv' : Sets ys) (he : endsB m fs = true) :
    Calls Tryd.prog 52 #[tkV A n A' m F k cf] w fun e w' => e = .returned (.bool (riB zs ys fs)) ∧ Below w.heap.size w w' := by
  have hlen := Lib.hid h.len
  have hlen' := Lib.hid h'.len
  have hlenf := Lib.hid hf.len
  have hn6 : n ≤ 6 := by have := hv.1; rw [hlen.out] at this; exact this
  unfold tkV
  refine (callsIn_wide (n := 9)).1 ?_
  refine callsIn_of_wp_marks Tryd.func52 rfl trivial ?_ rfl
  simp only [Tryd.ntmps52, List.size_toArray, List.length_cons, List.length_nil, Nat.reduceAdd, Nat.reduceSub, Array.replicate_succ, Array.replicate_zero, List.push_toArray, List.append_toArray, List.nil_append, List.cons_append]
  have kh0 : ((w.alloc (.cells #[.slice A n n, .slice A' m m, .slice F k cf] 44)).alloc (.cells #[Value.bool false] 4)).heap[w.heap.size]? = some (.cells #[.slice A n n, .slice A' m m, .slice F k cf] 44 (0, 0)) := (Below.heap_alloc _ _ w.heap.size (by simp)).trans (heap_alloc_new w _)
  obtain ⟨q0, q1, q2, -, -, -⟩ := three_cells kh0
  gi_wp2_with (gi_at_call 63; refine (callsIn_wide.2 (pairs_any _ _ _ _)).mono ?_; rintro e w' ⟨rfl, rfl⟩)
  have bP := Boxed.new ((w.alloc (.cells #[.slice A n n, .slice A' m m, .slice F k cf] 44)).alloc (.cells #[Value.bool false] 4)) 42 (.slice A n n)
  have bR := (Boxed.new (w.alloc (.cells #[.slice A n n, .slice A' m m, .slice F k cf] 44)) 4 (.bool false)).alloc (.cells #[Value.slice A n n] 42)
  have kh1 := (Below.heap_alloc ((w.alloc (.cells #[.slice A n n, .slice A' m m, .slice F k cf] 44)).alloc (.cells #[Value.bool false] 4)) (.cells #[Value.slice A n n] 42) w.heap.size (by simp; omega)).trans kh0
  have hu0 : Upd (fun _ => False) w (((w.alloc (.cells #[.slice A n n, .slice A' m m, .slice F k cf] 44)).alloc (.cells #[Value.bool false] 4)).alloc (.cells #[Value.slice A n n] 42)) := (((Upd.refl _ w).alloc _).alloc _).alloc _
  have hz0 : (((w.alloc (.cells #[.slice A n n, .slice A' m m, .slice F k cf] 44)).alloc (.cells #[Value.bool false] 4)).alloc (.cells #[Value.slice A n n] 42)).heap.size = w.heap.size + 3 := by simp
  simp only [World.size_alloc] at bP bR
  obtain ⟨W0, hW0⟩ : ∃ W0, (((w.alloc (.cells #[.slice A n n, .slice A' m m, .slice F k cf] 44)).alloc (.cells #[Value.bool false] 4)).alloc (.cells #[Value.slice A n n] 42)) = W0 := ⟨_, rfl⟩
  rw [hW0] at bP bR kh1 hu0 hz0 ⊢
  clear hW0 kh0 q0 q1 q2
  have hA0 : Ints W0 w.heap.size A n zs := h.below (hu0.toBelow (fun _ e => e.elim) (Nat.le_refl _))
  have hB0 : Ints W0 w.heap.size A' m ys := h'.below (hu0.toBelow (fun _ e => e.elim) (Nat.le_refl _))
  have hF0 : Ints W0 w.heap.size F k fs := hf.below (hu0.toBelow (fun _ e => e.elim) (Nat.le_refl _))
  refine range_out (n := 9) (gf := 86) (lb := #[.pointer (some ⟨w.heap.size + 1 + 1, 0, none⟩)]) rfl (enters_of Tryd.func86 (by kernel_rfl) rfl) (encs := encP) (L := pairsL zs)
    (fun k => k = w.heap.size + 1) (fun k e => by omega) (fun _ => rfl)
    (fun W1 l1 hu1 hl1 hl2 => pairs_iter_at hv bP (fun k e => by omega) (by omega) hA0 (by omega) (fun k e => by omega) hu1 hl1 hl2)
    (fun pre D W => (∀ p ∈ pre, mpOk ys fs p = true) ∧ Boxed W (w.heap.size + 1) 4 (.bool false) ∧ Upd (fun k => k = w.heap.size + 1) W0 W)
    (fun co pre D W => co = .ret ∧ riB zs ys fs = false ∧ Boxed W (w.heap.size + 1) 4 (.bool false) ∧ Upd (fun k => k = w.heap.size + 1) W0 W)
    (fun _ D X Y hs hu => ⟨hs.1, hu.boxed hs.2.1 (fun e => by omega), hs.2.2.trans' hu (fun i hi e => by omega)⟩)
    (fun co _ D X Y hs hu => ⟨hs.1, hs.2.1, hu.boxed hs.2.2.1 (fun e => by omega), hs.2.2.2.trans' hu (fun i hi e => by omega)⟩)
    ⟨(fun p hp => by cases hp), bR, Upd.refl _ _⟩ ?owes ?done ?stop
  case owes =>
    rintro l1 pre ⟨lo, hi⟩ D1 W hl1 hl2 hDl hD1 - hpre K hK
    gi_wp2
    refine hK _ _ (Upd.refl _ _) ?_
    rintro Wb hWb - ⟨hall, bRb, hU⟩
    clear hK
    obtain ⟨hlo, hhi, hbit⟩ := hv.pair (a := lo) (b := hi) (hpre.subset (by simp))
    have hlo0 := hlo
    have hhi0 := hhi
    rw [hlen.out] at hlo hhi
    obtain ⟨c0, c1, c2, -, -, -⟩ := three_cells ((hU.block w.heap.size (by omega) (by omega)).trans kh1)
    have hsb := hU.size
    have hszb := hWb.size
    have hcR := bRb.cell
    have hfR := bRb.frozen
    have hB1 : ∀ q, Ints (Wb.drewN q) w.heap.size A' m ys := fun q => (hB0.below (hU.toBelow (fun _ e => by omega) (by omega))).drewN q
    by_cases hmx : max lo hi < k
    · obtain ⟨bf, off, rfl, hbf, hcf⟩ := hF0.at_ (show lo < k by omega)
      have hfl := hU.cell (hcf lo (by omega)) (fun e => by simp at e; omega)
      have hfh := hU.cell (hcf hi (by omega)) (fun e => by simp at e; omega)
      obtain ⟨e1, l1'⟩ := ends_it he (k := lo) (by rw [hlenf.out]; omega)
      obtain ⟨e2, l2'⟩ := ends_it he (k := hi) (by rw [hlenf.out]; omega)
      rw [e1] at hfl
      rw [e2] at hfh
      clear hcf e1 e2
      have hao := fun q => isAtOrAbove_any A' m m w.heap.size ys (itN fs lo) (itN fs hi) (Wb.drewN q) (hB1 q) hv' l1' l2'
      rcases Nat.lt_or_ge lo hi with hlh0 | hlh0
      · have hlh : lo < hi := hlh0
        have hmk : ((hi : Nat) : Int) < (k : Int) := by omega
        clear hmx
        cases ham : amB ys (itN fs lo) (itN fs hi)
        · have HR := Lib.hid (ri_no hv hlo0 hhi0 hbit (by rw [hlenf.out]; omega) (by rw [hlenf.out]; omega) ham)
          rw [ham] at hao
          gi_wp2
          refine region_quiet_round (by kernel_rfl) (by kernel_rfl) (by kernel_rfl) ?_
          repeat (gi_big_quiet_step ((first
            | (gi_at_call 79; exact quietIn_add (hao _))
            | (gi_at_call 79; exact quietIn_left (hao _)))))
          refine wpQuietIn_nil ?_
          intro _ hw'
          obtain ⟨nq, hw''⟩ := hw'
          subst hw''
          gi_wp2
          have bRn : Boxed (Wb.drewN nq) (w.heap.size + 1) 4 (.bool false) := bRb
          exact ⟨D1, ⟨rfl, HR.out, bRn.set _, (hU.drewN nq).setCell (p := ⟨w.heap.size + 1, 0, none⟩) (.inr rfl) _⟩, ((Upd.refl _ _).drewN _).setCell (p := ⟨w.heap.size + 1, 0, none⟩) (.inr (.inl rfl)) _, fun k hk => .inl hk⟩
        · have HR := Lib.hid (show mpOk ys fs (lo, hi) = true by unfold mpOk; rw [ham]; simp)
          rw [ham] at hao
          gi_wp2
          refine region_quiet_round (by kernel_rfl) (by kernel_rfl) (by kernel_rfl) ?_
          repeat (gi_big_quiet_step ((first
            | (gi_at_call 79; exact quietIn_add (hao _))
            | (gi_at_call 79; exact quietIn_left (hao _)))))
          refine wpQuietIn_nil ?_
          intro _ hw'
          obtain ⟨nq, hw''⟩ := hw'
          subst hw''
          gi_wp2
          exact ⟨D1, ⟨fun p hp => by rcases List.mem_append.1 hp with hp | hp
                                     · exact hall p hp
                                     · rw [List.mem_singleton.1 hp]; exact HR.out, bRb, hU.drewN _⟩, (Upd.refl _ _).drewN _, fun k hk => .inl hk⟩
      · have hlh : ¬ lo < hi := by omega
        have hmk : ((lo : Nat) : Int) < (k : Int) := by omega
        clear hmx
        cases ham : amB ys (itN fs lo) (itN fs hi)
        · have HR := Lib.hid (ri_no hv hlo0 hhi0 hbit (by rw [hlenf.out]; omega) (by rw [hlenf.out]; omega) ham)
          rw [ham] at hao
          gi_wp2
          refine region_quiet_round (by kernel_rfl) (by kernel_rfl) (by kernel_rfl) ?_
          repeat (gi_big_quiet_step ((first
            | (gi_at_call 79; exact quietIn_add (hao _))
            | (gi_at_call 79; exact quietIn_left (hao _)))))
          refine wpQuietIn_nil ?_
          intro _ hw'
          obtain ⟨nq, hw''⟩ := hw'
          subst hw''
          gi_wp2
          have bRn : Boxed (Wb.drewN nq) (w.heap.size + 1) 4 (.bool false) := bRb
          exact ⟨D1, ⟨rfl, HR.out, bRn.set _, (hU.drewN nq).setCell (p := ⟨w.heap.size + 1, 0, none⟩) (.inr rfl) _⟩, ((Upd.refl _ _).drewN _).setCell (p := ⟨w.heap.size + 1, 0, none⟩) (.inr (.inl rfl)) _, fun k hk => .inl hk⟩
        · have HR := Lib.hid (show mpOk ys fs (lo, hi) = true by unfold mpOk; rw [ham]; simp)
          rw [ham] at hao
          gi_wp2
          refine region_quiet_round (by kernel_rfl) (by kernel_rfl) (by kernel_rfl) ?_
          repeat (gi_big_quiet_step ((first
            | (gi_at_call 79; exact quietIn_add (hao _))
            | (gi_at_call 79; exact quietIn_left (hao _)))))
          refine wpQuietIn_nil ?_
          intro _ hw'
          obtain ⟨nq, hw''⟩ := hw'
          subst hw''
          gi_wp2
          exact ⟨D1, ⟨fun p hp => by rcases List.mem_append.1 hp with hp | hp
                                     · exact hall p hp
                                     · rw [List.mem_singleton.1 hp]; exact HR.out, bRb, hU.drewN _⟩, (Upd.refl _ _).drewN _, fun k hk => .inl hk⟩
    · rcases Nat.lt_or_ge lo hi with hlh0 | hlh0
      · have hlh : lo < hi := hlh0
        have hmk : decide (hi < k) = false := by simp; omega
        have hmk2 : decide ((hi : Int) < (k : Int)) = false := by simp; omega
        have HR := Lib.hid (show mpOk ys fs (lo, hi) = true by unfold mpOk; rw [show decide (max lo hi < fs.length) = false by rw [hlenf.out]; simp; omega]; rfl)
        clear hmx
        gi_wp2
        refine region_quiet_round (by kernel_rfl) (by kernel_rfl) (by kernel_rfl) ?_
        repeat (gi_big_quiet_step (fail))
        refine wpQuietIn_nil ?_
        intro _ hw'
        obtain ⟨nq, hw''⟩ := hw'
        subst hw''
        gi_wp2
        exact ⟨D1, ⟨fun p hp => by rcases List.mem_append.1 hp with hp | hp
                                   · exact hall p hp
                                   · rw [List.mem_singleton.1 hp]; exact HR.out, bRb, hU.drewN _⟩, (Upd.refl _ _).drewN _, fun k hk => .inl hk⟩
      · have hlh : ¬ lo < hi := by omega
        have hmk : decide (lo < k) = false := by simp; omega
        have hmk2 : decide ((lo : Int) < (k : Int)) = false := by simp; omega
        have HR := Lib.hid (show mpOk ys fs (lo, hi) = true by unfold mpOk; rw [show decide (max lo hi < fs.length) = false by rw [hlenf.out]; simp; omega]; rfl)
        clear hmx
        gi_wp2
        refine region_quiet_round (by kernel_rfl) (by kernel_rfl) (by kernel_rfl) ?_
        repeat (gi_big_quiet_step (fail))
        refine wpQuietIn_nil ?_
        intro _ hw'
        obtain ⟨nq, hw''⟩ := hw'
        subst hw''
        gi_wp2
        exact ⟨D1, ⟨fun p hp => by rcases List.mem_append.1 hp with hp | hp
                                   · exact hall p hp
                                   · rw [List.mem_singleton.1 hp]; exact HR.out, bRb, hU.drewN _⟩, (Upd.refl _ _).drewN _, fun k hk => .inl hk⟩
  case done =>
    rintro d D1 W hd ⟨hall, bRb, hU⟩ hD1 hKd
    have HR := Lib.hid (show riB zs ys fs = true from List.all_eq_true.2 hall)
    have hcR := bRb.cell
    have hfR := bRb.frozen
    have hsz := hU.size
    gi_wp2
    have hus : Upd (fun k => k = w.heap.size + 1) W (W.setCell ⟨w.heap.size + 1, 0, none⟩ (.bool true)) := (Upd.refl (fun k => k = w.heap.size + 1) _).setCell (p := ⟨w.heap.size + 1, 0, none⟩) (.inr rfl) _
    have bR4 := bRb.set (.bool true)
    refine leaves_marks [d] _ ⟨by simp, fun b hb => ?_⟩ (fun W' hu' => ?_)
    · rw [List.mem_singleton.1 hb]
      exact (hus.block d (Array.getElem?_eq_some_iff.1 hKd).1 (by omega)).trans hKd
    · have hc' := (hu'.boxed bR4 (by simp; omega)).cell
      exact ⟨_, by simp [results, Tryd.f52, go_sem, hc']; rfl, by rw [HR.out],
        ((hu0.mono fun _ _ e => e.elim).trans' ((hU.trans hus).trans' hu' (fun i hi e => by simp at e; omega)) (fun i hi e => by omega)).toBelow (R := fun _ => False) (fun _ e => e.elim) (Nat.le_refl _)⟩
  case stop =>
    rintro d D1 co pre W hd hpre ⟨rfl, HR, bRb, hU⟩ hD1 hKd
    have hsz := hU.size
    gi_wp2
    refine leaves_marks [d] _ ⟨by simp, fun b hb => ?_⟩ (fun W' hu' => ?_)
    · rw [List.mem_singleton.1 hb]
      exact hKd
    · have hc' := (hu'.boxed bRb (by simp; omega)).cell
      exact ⟨_, by simp [results, Tryd.f52, go_sem, hc']; rfl, by rw [HR],
        ((hu0.mono fun _ _ e => e.elim).trans' (hU.trans' hu' (fun i hi e => by simp at e; omega)) (fun i hi e => by omega)).toBelow (R := fun _ => False) (fun _ e => e.elim) (Nat.le_refl _)⟩
end Go.Proofs.YtmlihbcffndnbaaDoor

/- Reading two orders and a list that rises; IsRising, FixedOf: the program's. -/
namespace Go.Proofs.YtmlihbcffndnbaaDoor
open Go.RowKit Go.Shelf
attribute [local go_sem] Oper.semAt_some
attribute [local go_sem, local simp] wide_fn

set_option maxRecDepth 100000 in
set_option maxHeartbeats 2000000 in
theorem readRising_any (A : Option Addr) (n c : Nat) (zs : List Int) (A' : Option Addr) (m c' : Nat) (ys : List Int) (F : Option Addr) (k cf : Nat) (fs : List Int) (w : World) (h : Ints w w.heap.size A n zs) (h' : Ints w w.heap.size A' m ys) (hf : Ints w w.heap.size F k fs)
    (hbig : n ≤ 1152921504606846976) (hbig' : m ≤ 1152921504606846976) (hbigf : k ≤ 1152921504606846976) :
    Calls Tryd.prog 25 #[.slice A n c, .slice A' m c', .slice F k cf] w (ReadsT (risB zs ys fs) zs ys n m F k cf w) := by
  have hlen := Lib.hid h.len
  have hlen' := Lib.hid h'.len
  have hlenf := Lib.hid hf.len
  go_enter Tryd.func25, Tryd.ntmps25
  go_wp2_with fail
  have kh0 : (w.alloc (.cells #[.slice none 0 0, .slice none 0 0, .slice none 0 0] 44)).heap[w.heap.size]? = some (.cells #[.slice none 0 0, .slice none 0 0, .slice none 0 0] 44 (0, 0)) := heap_alloc_new w _
  have kB0 : Below w.heap.size w (w.alloc (.cells #[.slice none 0 0, .slice none 0 0, .slice none 0 0] 44)) := (Below.refl w.heap.size w).alloc (Nat.le_refl _) _
  have kz0 : w.heap.size < (w.alloc (.cells #[.slice none 0 0, .slice none 0 0, .slice none 0 0] 44)).heap.size := by simp
  obtain ⟨w1, hw1⟩ : ∃ w1, w.alloc (.cells #[.slice none 0 0, .slice none 0 0, .slice none 0 0] 44) = w1 := ⟨_, rfl⟩
  rw [hw1] at kh0 kB0 kz0 ⊢
  clear hw1
  have hle := Nat.le_of_lt kz0
  refine (readTaking_any A n c zs A' m c' ys F k cf fs w1 (h.to kB0 (Nat.le_refl _) hle) (h'.to kB0 (Nat.le_refl _) hle) (hf.to kB0 (Nat.le_refl _) hle) hbig hbig' hbigf).mono ?_
  rintro e w2 ⟨hB2, (⟨hm, b, b', rfl, hAr, hAr'⟩ | ⟨hm, rfl⟩)⟩
  · have kh2 := (hB2.block w.heap.size kz0).trans kh0
    have kB2 := kB0.trans (hB2.mono hle)
    have z2 := hB2.size
    obtain ⟨hvo, hvy, hln, hen⟩ := mp_parts hm
    have Hm := Lib.hid hm
    clear hm
    have hk6 : k ≤ 6 := by have := hvo.1; rw [← hln, hlenf.out] at this; exact this
    rw [hlen'.out] at hen
    have hArn : b ≠ w.heap.size := by
      rintro rfl
      have h1 := hAr
      unfold Arr at h1
      rw [kh2] at h1
      exact absurd h1 (by simp)
    have hArn' : b' ≠ w.heap.size := by
      rintro rfl
      have h1 := hAr'
      unfold Arr at h1
      rw [kh2] at h1
      exact absurd h1 (by simp)
    unfold tkV
    have kt2 : (w2.alloc (.cells #[.slice (some ⟨b, 0, none⟩) n n, .slice (some ⟨b', 0, none⟩) m m, .slice F k cf] 44)).heap[w2.heap.size]? = some (.cells #[.slice (some ⟨b, 0, none⟩) n n, .slice (some ⟨b', 0, none⟩) m m, .slice F k cf] 44 (0, 0)) := heap_alloc_new w2 _
    obtain ⟨c0, c1, c2, -, -, -⟩ := three_cells kt2
    go_wp2_with fail
    have kB3 := kB2.alloc (by omega) (.cells #[.slice (some ⟨b, 0, none⟩) n n, .slice (some ⟨b', 0, none⟩) m m, .slice F k cf] 44)
    have hA3 := hAr.alloc (.cells #[.slice (some ⟨b, 0, none⟩) n n, .slice (some ⟨b', 0, none⟩) m m, .slice F k cf] 44)
    have hA3' := hAr'.alloc (.cells #[.slice (some ⟨b, 0, none⟩) n n, .slice (some ⟨b', 0, none⟩) m m, .slice F k cf] 44)
    have kh3 := (Below.heap_alloc w2 (.cells #[.slice (some ⟨b, 0, none⟩) n n, .slice (some ⟨b', 0, none⟩) m m, .slice F k cf] 44) w.heap.size (by omega)).trans kh2
    have z3 : w2.heap.size < (w2.alloc (.cells #[.slice (some ⟨b, 0, none⟩) n n, .slice (some ⟨b', 0, none⟩) m m, .slice F k cf] 44)).heap.size := by simp
    obtain ⟨w3, hw3⟩ : ∃ w3, w2.alloc (.cells #[.slice (some ⟨b, 0, none⟩) n n, .slice (some ⟨b', 0, none⟩) m m, .slice F k cf] 44) = w3 := ⟨_, rfl⟩
    rw [hw3] at kt2 kB3 hA3 hA3' kh3 z3 c0 c1 c2 ⊢
    clear hw3
    have Hr := Lib.hid (tIsRising_any (some ⟨b, 0, none⟩) n zs (some ⟨b', 0, none⟩) m ys F k cf fs w3 (hA3.ints' hA3.lt hlen.out) (hA3'.ints' hA3'.lt hlen'.out) (hf.to kB3 (Nat.le_refl _) (by omega)) hvo.sets hvy.sets hen)
    unfold tkV at Hr
    cases hr : riB zs ys fs
    · have Hn := Lib.hid (show risB zs ys fs = false by unfold risB; rw [hr]; simp)
      rw [hr] at Hr
      clear hr
      refine Hr.out.mono ?_
      clear Hr
      rintro e w4 ⟨rfl, hB4⟩
      have kh4 := (hB4.block w.heap.size (by omega)).trans kh3
      have kB4 := kB3.trans (hB4.mono (by omega))
      obtain ⟨q0, q1, q2, g0, g1, g2⟩ := three_cells kh4
      have kh5 := three_set (y1 := .slice none 0 0) (y2 := .slice none 0 0) (y3 := .slice none 0 0) kh4
      go_wp2_with fail
      refine bodyPost_ret (v := .tuple #[.agg #[.slice none 0 0, .slice none 0 0, .slice none 0 0], .bool false]) (results_cell_row2 rfl _ _ w.heap.size _ _ (0, 0) _ _ rfl rfl kh5 Tryd.underlying44 rfl (by kernel_rfl)) rfl ?_
      exact ⟨((kB4.setCell (p := ⟨w.heap.size, 0, none⟩) (Nat.le_refl _) _).setCell (p := ⟨w.heap.size, 1, none⟩) (Nat.le_refl _) _).setCell (p := ⟨w.heap.size, 2, none⟩) (Nat.le_refl _) _, .inr ⟨Hn.out, rfl⟩⟩
    · have Hn := Lib.hid (show risB zs ys fs = true by unfold risB; rw [hr, Hm.out]; rfl)
      rw [hr] at Hr
      clear hr
      refine Hr.out.mono ?_
      clear Hr
      rintro e w4 ⟨rfl, hB4⟩
      have kh4 := (hB4.block w.heap.size (by omega)).trans kh3
      have kt4 := (hB4.block w2.heap.size (by omega)).trans kt2
      have kB4 := kB3.trans (hB4.mono (by omega))
      have hA4 := hA3.below hB4 hA3.lt
      have hA4' := hA3'.below hB4 hA3'.lt
      obtain ⟨q0, q1, q2, g0, g1, g2⟩ := three_cells kh4
      obtain ⟨r0, r1, r2, -, -, -⟩ := three_cells kt4
      have kh5 := three_set (y1 := .slice (some ⟨b, 0, none⟩) n n) (y2 := .slice (some ⟨b', 0, none⟩) m m) (y3 := .slice F k cf) kh4
      clear c0 c1 c2
      go_wp2_with fail
      refine bodyPost_ret (v := .tuple #[tkV (some ⟨b, 0, none⟩) n (some ⟨b', 0, none⟩) m F k cf, .bool true]) (results_cell_row2 rfl _ _ w.heap.size _ _ (0, 0) _ _ rfl rfl kh5 Tryd.underlying44 rfl (by kernel_rfl)) rfl ?_
      exact ⟨((kB4.setCell (p := ⟨w.heap.size, 0, none⟩) (Nat.le_refl _) _).setCell (p := ⟨w.heap.size, 1, none⟩) (Nat.le_refl _) _).setCell (p := ⟨w.heap.size, 2, none⟩) (Nat.le_refl _) _, .inl ⟨Hn.out, b, b', rfl,
        ((hA4.far (p := ⟨w.heap.size, 0, none⟩) hArn _).far (p := ⟨w.heap.size, 1, none⟩) hArn _).far (p := ⟨w.heap.size, 2, none⟩) hArn _, ((hA4'.far (p := ⟨w.heap.size, 0, none⟩) hArn' _).far (p := ⟨w.heap.size, 1, none⟩) hArn' _).far (p := ⟨w.heap.size, 2, none⟩) hArn' _⟩⟩
  · have kh2 := (hB2.block w.heap.size kz0).trans kh0
    have kB2 := kB0.trans (hB2.mono hle)
    have z2 := hB2.size
    have Hn := Lib.hid (show risB zs ys fs = false by unfold risB; rw [hm]; rfl)
    clear hm
    have kh3 := (Below.heap_alloc w2 (.cells #[.slice none 0 0, .slice none 0 0, .slice none 0 0] 44) w.heap.size (by omega)).trans kh2
    have kB3 := kB2.alloc (by omega) (.cells #[.slice none 0 0, .slice none 0 0, .slice none 0 0] 44)
    obtain ⟨q0, q1, q2, g0, g1, g2⟩ := three_cells kh3
    have kh5 := three_set (y1 := .slice none 0 0) (y2 := .slice none 0 0) (y3 := .slice none 0 0) kh3
    have kt2 : (w2.alloc (.cells #[.slice none 0 0, .slice none 0 0, .slice none 0 0] 44)).heap[w2.heap.size]? = some (.cells #[.slice none 0 0, .slice none 0 0, .slice none 0 0] 44 (0, 0)) := heap_alloc_new w2 _
    obtain ⟨c0, c1, c2, -, -, -⟩ := three_cells kt2
    go_wp2_with fail
    refine bodyPost_ret (v := .tuple #[.agg #[.slice none 0 0, .slice none 0 0, .slice none 0 0], .bool false]) (results_cell_row2 rfl _ _ w.heap.size _ _ (0, 0) _ _ rfl rfl kh5 Tryd.underlying44 rfl (by kernel_rfl)) rfl ?_
    exact ⟨((kB3.setCell (p := ⟨w.heap.size, 0, none⟩) (Nat.le_refl _) _).setCell (p := ⟨w.heap.size, 1, none⟩) (Nat.le_refl _) _).setCell (p := ⟨w.heap.size, 2, none⟩) (Nat.le_refl _) _, .inr ⟨Hn.out, rfl⟩⟩

set_option maxRecDepth 100000 in
set_option maxHeartbeats 1000000 in
theorem tFixed_any (A : Option Addr) (n : Nat) (A' : Option Addr) (m : Nat) (F : Option Addr) (k cf : Nat) (fs : List Int) (w : World) (hf : Ints w w.heap.size F k fs) (he : endsB m fs = true) (hk6 : k ≤ 6) :
    Calls Tryd.prog 41 #[tkV A n A' m F k cf] w fun e w' => e = .returned (.int .i64 (fixTo fs k)) ∧ Below w.heap.size w w' := by
  have hlenf := Lib.hid hf.len
  unfold tkV
  go_enter Tryd.func41, Tryd.ntmps41
  have kt : (w.alloc (.cells #[.slice A n n, .slice A' m m, .slice F k cf] 44)).heap[w.heap.size]? = some (.cells #[.slice A n n, .slice A' m m, .slice F k cf] 44 (0, 0)) := heap_alloc_new w _
  obtain ⟨c0, c1, c2, -, -, -⟩ := three_cells kt
  have kB : Below w.heap.size w (w.alloc (.cells #[.slice A n n, .slice A' m m, .slice F k cf] 44)) := (Below.refl w.heap.size w).alloc (Nat.le_refl _) _
  have kF := hf.below kB
  go_wp2
  obtain ⟨w1, hw1⟩ : ∃ w1, w.alloc (.cells #[.slice A n n, .slice A' m m, .slice F k cf] 44) = w1 := ⟨_, rfl⟩
  rw [hw1] at kB kF ⊢
  clear hw1 kt c0 c1 c2
  go_loopw [3, 9] (fun s i wr => ∃ j : Nat, j ≤ k ∧ i = .int .i64 j ∧ s = .int .i64 (fixTo fs j) ∧ wr = w1) (fun _ i _ => k - (intOf i).toNat)
  case atStart => exact ⟨0, by omega, rfl, rfl, rfl⟩
  case round =>
    obtain ⟨j, hj, rfl, rfl, rfl⟩ := hrel
    have hbd := fixTo_bd fs j
    have hpj := powI_le6 (n := (j : Int)) (by omega)
    by_cases hlt : j < k
    · obtain ⟨bf, off, rfl, _, hcf⟩ := kF.at_ hlt
      have hcj := hcf j hlt
      obtain ⟨e1, l1⟩ := ends_it he (k := j) (by rw [hlenf.out]; exact hlt)
      rw [e1] at hcj
      clear hcf e1
      have hw := fun w => with_any (fixTo fs j) (j : Int) w (by omega) (by omega) (by omega) (by omega)
      by_cases hjj : itN fs j = j
      · have Hs := Lib.hid (show fixTo fs (j + 1) = orI (fixTo fs j) (powI j) by rw [fixTo]; simp [hjj])
        have hq : ((j : Int) == (itN fs j : Int)) = true := by simp; omega
        generalize itN fs j = x at *
        generalize fixTo fs j = s at *
        obtain ⟨s2, hs2⟩ : ∃ s2, fixTo fs (j + 1) = s2 := ⟨_, rfl⟩
        rw [hs2] at Hs
        rw [← Hs.out] at hw
        have Hjj := Lib.hid hjj
        have HS2 := Lib.hid hs2
        clear hjj hs2
        go_wp2_with (go_at_call 64; refine (hw _).mono ?_; rintro e w' ⟨rfl, rfl⟩)
        go_roundw
        case rel => exact ⟨j + 1, by omega, by go_num, by rw [HS2.out], trivial⟩
        case measure => simp [intOf]; omega
      · have Hs := Lib.hid (show fixTo fs (j + 1) = fixTo fs j by rw [fixTo]; simp [hjj])
        have hq : ((j : Int) == (itN fs j : Int)) = false := by simp; omega
        generalize itN fs j = x at *
        have Hjj := Lib.hid hjj
        clear hjj
        go_wp2
        go_roundw
        case rel => exact ⟨j + 1, by omega, by go_num, by rw [Hs.out], trivial⟩
        case measure => simp [intOf]; omega
    · obtain rfl : j = k := by omega
      go_wp2
      go_ret
      exact ⟨rfl, kB⟩

set_option maxRecDepth 100000 in
theorem FixedOf_any (A : Option Addr) (n c : Nat) (zs : List Int) (F : Option Addr) (k cf : Nat) (fs : List Int) (w : World) (h : Ints w w.heap.size A n zs) (hf : Ints w w.heap.size F k fs)
    (hbig : n ≤ 1152921504606846976) (hbigf : k ≤ 1152921504606846976) :
    Calls Tryd.prog 17 #[.slice A n c, .slice F k cf] w fun e w' => e = .returned (.int .i64 (fixedR zs fs)) ∧ Below w.heap.size w w' := by
  have hlen := Lib.hid h.len
  have hlenf := Lib.hid hf.len
  go_enter Tryd.func17, Tryd.ntmps17
  go_wp2_with fail
  refine (readRising_any A n c zs A n c zs F k cf fs w h h hf hbig hbig hbigf).mono ?_
  rintro e w2 ⟨hB2, (⟨hm, b, b', rfl, hAr, hAr'⟩ | ⟨hm, rfl⟩)⟩
  · have hm2 : mpB zs zs fs = true := by unfold risB at hm; rw [Bool.and_eq_true] at hm; exact hm.1
    obtain ⟨hvo, hvy, hln, hen⟩ := mp_parts hm2
    rw [hlen.out, hlenf.out] at hln
    rw [hlen.out] at hen
    have Hn := Lib.hid (show fixedR zs fs = fixTo fs k by unfold fixedR; rw [hm, hlen.out, hln]; rfl)
    have hk6 : k ≤ 6 := by have := hvo.1; rw [hlen.out] at this; omega
    have Hln := Lib.hid hln
    clear hm hm2 hln
    have z2 := hB2.size
    unfold tkV
    have kB3 := hB2.alloc (by omega) (.cells #[.slice (some ⟨b, 0, none⟩) n n, .slice (some ⟨b', 0, none⟩) n n, .slice F k cf] 44)
    have kt3 : (w2.alloc (.cells #[.slice (some ⟨b, 0, none⟩) n n, .slice (some ⟨b', 0, none⟩) n n, .slice F k cf] 44)).heap[w2.heap.size]? = some (.cells #[.slice (some ⟨b, 0, none⟩) n n, .slice (some ⟨b', 0, none⟩) n n, .slice F k cf] 44 (0, 0)) := heap_alloc_new w2 _
    obtain ⟨c0, c1, c2, -, -, -⟩ := three_cells kt3
    go_wp2_with fail
    have z3 : w2.heap.size < (w2.alloc (.cells #[.slice (some ⟨b, 0, none⟩) n n, .slice (some ⟨b', 0, none⟩) n n, .slice F k cf] 44)).heap.size := by simp
    have hx := tFixed_any (some ⟨b, 0, none⟩) n (some ⟨b', 0, none⟩) n F k cf fs _ (hf.to kB3 (Nat.le_refl _) (by omega)) hen hk6
    unfold tkV at hx
    refine hx.mono ?_
    clear hx
    rintro e w4 ⟨rfl, hB4⟩
    go_wp2_with fail
    go_ret
    exact ⟨ret_int Hn.out.symm, kB3.trans (hB4.mono (by omega))⟩
  · have Hn := Lib.hid (show fixedR zs fs = -1 by unfold fixedR; rw [hm]; rfl)
    have z2 := hB2.size
    have kB3 := hB2.alloc (by omega) (.cells #[.slice none 0 0, .slice none 0 0, .slice none 0 0] 44)
    clear hm
    go_wp2_with fail
    go_ret
    exact ⟨ret_int Hn.out.symm, kB3⟩
end Go.Proofs.YtmlihbcffndnbaaDoor

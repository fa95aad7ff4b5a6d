/- IsPairing: the program's, whole. -/
import Derived.Test.YtmlihbcffndnbaaGxd
set_option linter.unusedVariables false
set_option linter.unusedSimpArgs false
namespace Go.Proofs.Ytmlihbcffndnbaa
open Go.RowKit Go.Shelf
attribute [local go_sem] Oper.semAt_some
attribute [local go_sem, local simp] wide_fn

set_option maxRecDepth 100000 in
set_option maxHeartbeats 4000000 in
theorem IsPairing_any (A : Option Addr) (n c : Nat) (zs : List Int) (A' : Option Addr) (m c' : Nat) (ys : List Int) (F : Option Addr) (k cf : Nat) (fs : List Int) (G : Option Addr) (l cg : Nat) (gs : List Int) (w : World) (h : Ints w w.heap.size A n zs) (h' : Ints w w.heap.size A' m ys) (hf : Ints w w.heap.size F k fs) (hg : Ints w w.heap.size G l gs)
    (hbig : n ≤ 1152921504606846976) (hbig' : m ≤ 1152921504606846976) (hbigf : k ≤ 1152921504606846976) (hbigg : l ≤ 1152921504606846976) :
    Calls Try.prog 21 #[.slice A n c, .slice A' m c', .slice F k cf, .slice G l cg] w fun e w' => e = .returned (.bool (pairB zs ys fs gs)) ∧ Below w.heap.size w w' := by
  have hlen := Lib.hid h.len
  have hlen' := Lib.hid h'.len
  have hlenf := Lib.hid hf.len
  have hleng := Lib.hid hg.len
  go_enter Try.func21, Try.ntmps21
  go_wp2_with fail
  refine (readTaking_any A n c zs A' m c' ys F k cf fs w h h' hf hbig hbig' hbigf).mono ?_
  rintro e w2 ⟨hB2, (⟨hm, b1, b2, rfl, hAr, hAr'⟩ | ⟨hm, rfl⟩)⟩
  · have z2 := hB2.size
    unfold tkV
    have hA3 := hAr.alloc (.cells #[.slice (some ⟨b1, 0, none⟩) n n, .slice (some ⟨b2, 0, none⟩) m m, .slice F k cf] 44)
    have hB3a := hAr'.alloc (.cells #[.slice (some ⟨b1, 0, none⟩) n n, .slice (some ⟨b2, 0, none⟩) m m, .slice F k cf] 44)
    have kt2 : (w2.alloc (.cells #[.slice (some ⟨b1, 0, none⟩) n n, .slice (some ⟨b2, 0, none⟩) m m, .slice F k cf] 44)).heap[w2.heap.size]? = some (.cells #[.slice (some ⟨b1, 0, none⟩) n n, .slice (some ⟨b2, 0, none⟩) m m, .slice F k cf] 44 (0, 0)) := heap_alloc_new w2 _
    have kB3 := hB2.alloc (by omega) (.cells #[.slice (some ⟨b1, 0, none⟩) n n, .slice (some ⟨b2, 0, none⟩) m m, .slice F k cf] 44)
    have z3 : w2.heap.size < (w2.alloc (.cells #[.slice (some ⟨b1, 0, none⟩) n n, .slice (some ⟨b2, 0, none⟩) m m, .slice F k cf] 44)).heap.size := by simp
    go_wp2_with fail
    obtain ⟨w3, hw3⟩ : ∃ w3, w2.alloc (.cells #[.slice (some ⟨b1, 0, none⟩) n n, .slice (some ⟨b2, 0, none⟩) m m, .slice F k cf] 44) = w3 := ⟨_, rfl⟩
    rw [hw3] at kt2 kB3 z3 hA3 hB3a ⊢
    clear hw3
    refine (readTaking_any A' m c' ys A n c zs G l cg gs w3 (h'.to kB3 (Nat.le_refl _) (by omega)) (h.to kB3 (Nat.le_refl _) (by omega)) (hg.to kB3 (Nat.le_refl _) (by omega)) hbig' hbig hbigg).mono ?_
    rintro e w4 ⟨hB4, (⟨hm2, b3, b4, rfl, hAr2, hAr2'⟩ | ⟨hm2, rfl⟩)⟩
    · have z4 := hB4.size
      obtain ⟨hvo, hvy, hln, hen⟩ := mp_parts hm
      obtain ⟨-, -, hlm, hen2⟩ := mp_parts hm2
      rw [hlen.out, hlenf.out] at hln
      rw [hlen'.out, hleng.out] at hlm
      rw [hlen'.out] at hen
      rw [hlen.out] at hen2
      have Hn := Lib.hid (show pairB zs ys fs gs = prB zs ys fs gs by unfold pairB; rw [hm, hm2]; rfl)
      have Hln := Lib.hid hln
      have Hlm := Lib.hid hlm
      clear hm hm2 hln hlm
      unfold tkV
      have hA4 := hA3.below hB4 hA3.lt
      have hB4a := hB3a.below hB4 hB3a.lt
      have kt4 := (Below.heap_alloc w4 (.cells #[.slice (some ⟨b3, 0, none⟩) m m, .slice (some ⟨b4, 0, none⟩) n n, .slice G l cg] 44) w2.heap.size (by omega)).trans ((hB4.block w2.heap.size z3).trans kt2)
      have ku4 : (w4.alloc (.cells #[.slice (some ⟨b3, 0, none⟩) m m, .slice (some ⟨b4, 0, none⟩) n n, .slice G l cg] 44)).heap[w4.heap.size]? = some (.cells #[.slice (some ⟨b3, 0, none⟩) m m, .slice (some ⟨b4, 0, none⟩) n n, .slice G l cg] 44 (0, 0)) := heap_alloc_new w4 _
      have kB4 := kB3.trans (hB4.mono (by omega))
      have kB5 := kB4.alloc (by omega) (.cells #[.slice (some ⟨b3, 0, none⟩) m m, .slice (some ⟨b4, 0, none⟩) n n, .slice G l cg] 44)
      have hA5 := hA4.alloc (.cells #[.slice (some ⟨b3, 0, none⟩) m m, .slice (some ⟨b4, 0, none⟩) n n, .slice G l cg] 44)
      have hB5 := hB4a.alloc (.cells #[.slice (some ⟨b3, 0, none⟩) m m, .slice (some ⟨b4, 0, none⟩) n n, .slice G l cg] 44)
      have hC5 := hAr2.alloc (.cells #[.slice (some ⟨b3, 0, none⟩) m m, .slice (some ⟨b4, 0, none⟩) n n, .slice G l cg] 44)
      have hD5 := hAr2'.alloc (.cells #[.slice (some ⟨b3, 0, none⟩) m m, .slice (some ⟨b4, 0, none⟩) n n, .slice G l cg] 44)
      have z5 : w4.heap.size < (w4.alloc (.cells #[.slice (some ⟨b3, 0, none⟩) m m, .slice (some ⟨b4, 0, none⟩) n n, .slice G l cg] 44)).heap.size := by simp
      obtain ⟨c0, c1, c2, -, -, -⟩ := three_cells kt4
      obtain ⟨d0, d1, d2, -, -, -⟩ := three_cells ku4
      go_wp2_with fail
      have hh := holds_any (some ⟨b1, 0, none⟩) n (some ⟨b2, 0, none⟩) m F k cf (some ⟨b3, 0, none⟩) m (some ⟨b4, 0, none⟩) n G l cg zs ys fs gs _ (hB5.ints' hB5.lt hlen'.out) (hf.to kB5 (Nat.le_refl _) (by omega)) (hD5.ints' hD5.lt hlen.out) (hg.to kB5 (Nat.le_refl _) (by omega)) hvo.sets hvy.sets Hln.out Hlm.out hen hen2
      unfold prV at hh
      refine hh.mono ?_
      clear hh
      rintro e w6 ⟨rfl, hB6⟩
      go_wp2_with fail
      go_ret
      exact ⟨ret_bool (by first | (rw [Hn.out]; done) | simp [Hn.out]), kB5.trans (hB6.mono (by omega))⟩
    · have z4 := hB4.size
      have Hn := Lib.hid (show pairB zs ys fs gs = false by unfold pairB; rw [hm2]; simp)
      have kB5 := (kB3.trans (hB4.mono (by omega))).alloc (by omega) (.cells #[.slice none 0 0, .slice none 0 0, .slice none 0 0] 44)
      clear hm2 hm
      go_wp2_with fail
      go_ret
      exact ⟨ret_bool Hn.out.symm, kB5⟩
  · have z2 := hB2.size
    have Hn := Lib.hid (show pairB zs ys fs gs = false by unfold pairB; rw [hm]; rfl)
    clear hm
    have kt2 : (w2.alloc (.cells #[.slice none 0 0, .slice none 0 0, .slice none 0 0] 44)).heap[w2.heap.size]? = some (.cells #[.slice none 0 0, .slice none 0 0, .slice none 0 0] 44 (0, 0)) := heap_alloc_new w2 _
    have kB3 := hB2.alloc (by omega) (.cells #[.slice none 0 0, .slice none 0 0, .slice none 0 0] 44)
    have z3 : w2.heap.size < (w2.alloc (.cells #[.slice none 0 0, .slice none 0 0, .slice none 0 0] 44)).heap.size := by simp
    go_wp2_with fail
    obtain ⟨w3, hw3⟩ : ∃ w3, w2.alloc (.cells #[.slice none 0 0, .slice none 0 0, .slice none 0 0] 44) = w3 := ⟨_, rfl⟩
    rw [hw3] at kt2 kB3 z3 ⊢
    clear hw3
    refine (readTaking_any A' m c' ys A n c zs G l cg gs w3 (h'.to kB3 (Nat.le_refl _) (by omega)) (h.to kB3 (Nat.le_refl _) (by omega)) (hg.to kB3 (Nat.le_refl _) (by omega)) hbig' hbig hbigg).mono ?_
    rintro e w4 ⟨hB4, (⟨hm2, b3, b4, rfl, hAr2, hAr2'⟩ | ⟨hm2, rfl⟩)⟩
    · have z4 := hB4.size
      unfold tkV
      have kB5 := (kB3.trans (hB4.mono (by omega))).alloc (by omega) (.cells #[.slice (some ⟨b3, 0, none⟩) m m, .slice (some ⟨b4, 0, none⟩) n n, .slice G l cg] 44)
      clear hm2
      go_wp2_with fail
      go_ret
      exact ⟨ret_bool Hn.out.symm, kB5⟩
    · have z4 := hB4.size
      skip
      have kB5 := (kB3.trans (hB4.mono (by omega))).alloc (by omega) (.cells #[.slice none 0 0, .slice none 0 0, .slice none 0 0] 44)
      clear hm2
      go_wp2_with fail
      go_ret
      exact ⟨ret_bool Hn.out.symm, kB5⟩
end Go.Proofs.Ytmlihbcffndnbaa

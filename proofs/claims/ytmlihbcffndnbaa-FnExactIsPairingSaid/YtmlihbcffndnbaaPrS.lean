/- IsPairing: the model's, whole. -/
import Derived.Test.YtmlihbcffndnbaaGxc
set_option linter.unusedVariables false
set_option linter.unusedSimpArgs false
namespace Go.Proofs.Ytmlihbcffndnbaa
open Go.RowKit Go.Shelf
attribute [local go_sem] Oper.semAt_some
attribute [local go_sem, local simp] wide_fn

set_option maxRecDepth 100000 in
set_option maxHeartbeats 4000000 in
theorem specIsPairingF_any (A : Option Addr) (n c : Nat) (zs : List Int) (A' : Option Addr) (m c' : Nat) (ys : List Int) (F : Option Addr) (k cf : Nat) (fs : List Int) (G : Option Addr) (l cg : Nat) (gs : List Int) (w : World) (h : Ints w w.heap.size A n zs) (h' : Ints w w.heap.size A' m ys) (hf : Ints w w.heap.size F k fs) (hg : Ints w w.heap.size G l gs)
    (hbig : n ≤ 1152921504606846976) (hbig' : m ≤ 1152921504606846976) (hbigf : k ≤ 1152921504606846976) (hbigg : l ≤ 1152921504606846976) :
    Calls Try.prog 20 #[.slice A n c, .slice A' m c', .slice F k cf, .slice G l cg] w fun e w' => e = .returned (.bool (pairB zs ys fs gs)) ∧ Below w.heap.size w w' := by
  have hlen := Lib.hid h.len
  have hlen' := Lib.hid h'.len
  have hlenf := Lib.hid hf.len
  have hleng := Lib.hid hg.len
  go_enter Try.func20, Try.ntmps20
  cases hm : mpB zs ys fs
  · have Hn := Lib.hid (show pairB zs ys fs gs = false by unfold pairB; rw [hm]; rfl)
    go_wp2_with fail
    refine (svalidMap_any A n c zs A' m c' ys F k cf fs w h h' hf hbig hbig' hbigf).mono ?_
    rw [hm]
    rintro e w' ⟨rfl, q, rfl⟩
    clear hm
    go_wp2_with fail
    go_ret
    exact ⟨ret_bool (by first | (rw [Hn.out]; done) | simp [Hn.out]), below_drewN (Below.refl _ _) q⟩
  · have Hm := Lib.hid hm
    obtain ⟨hvo, hvy, hln, hen⟩ := mp_parts hm
    rw [hlen.out, hlenf.out] at hln
    subst hln
    rw [hlen'.out] at hen
    have hn6 : k ≤ 6 := by have := hvo.1; rw [hlen.out] at this; exact this
    have hm6 : m ≤ 6 := by have := hvy.1; rw [hlen'.out] at this; exact this
    clear hm
    cases hm2 : mpB ys zs gs
    · have Hn := Lib.hid (show pairB zs ys fs gs = false by unfold pairB; rw [hm2]; simp)
      go_wp2_with fail
      refine (svalidMap_any A k c zs A' m c' ys F k cf fs w h h' hf hbig hbig' hbigf).mono ?_
      rw [Hm.out]
      rintro e w' ⟨rfl, q, rfl⟩
      go_wp2_with fail
      refine (svalidMap_any A' m c' ys A k c zs G l cg gs (w.drewN q) (h'.drewN q) (h.drewN q) (hg.drewN q) hbig' hbig hbigg).mono ?_
      rw [hm2]
      rintro e w' ⟨rfl, q2, rfl⟩
      clear hm2
      go_wp2_with fail
      go_ret
      exact ⟨ret_bool (by first | (rw [Hn.out]; done) | simp [Hn.out]), below_drewN (Below.refl _ _) _⟩
    · have Hm2 := Lib.hid hm2
      obtain ⟨-, -, hlm, hen2⟩ := mp_parts hm2
      rw [hlen'.out, hleng.out] at hlm
      subst hlm
      rw [hlen.out] at hen2
      clear hm2
      go_wp2_with fail
      refine (svalidMap_any A k c zs A' l c' ys F k cf fs w h h' hf hbig hbig' hbigf).mono ?_
      rw [Hm.out]
      rintro e w' ⟨rfl, q, rfl⟩
      go_wp2_with fail
      refine (svalidMap_any A' l c' ys A k c zs G l cg gs (w.drewN q) (h'.drewN q) (h.drewN q) (hg.drewN q) hbig' hbig hbigg).mono ?_
      rw [Hm2.out]
      rintro e w' ⟨rfl, q2, rfl⟩
      go_wp2_with fail
      have hA1 : Ints (w.drewN (q + q2)) w.heap.size A k zs := h.drewN (q + q2)
      have hB1 : Ints (w.drewN (q + q2)) w.heap.size A' l ys := h'.drewN (q + q2)
      have hF1 : Ints (w.drewN (q + q2)) w.heap.size F k fs := hf.drewN (q + q2)
      have hG1 : Ints (w.drewN (q + q2)) w.heap.size G l gs := hg.drewN (q + q2)
      have kB : Below w.heap.size w (w.drewN (q + q2)) := below_drewN (Below.refl _ _) (q + q2)
      have hsv := hvo.sets
      have hsy := hvy.sets
      generalize w.drewN (q + q2) = w1 at *
      clear h h' hf hg hvo hvy
      go_loopw [9, 10] (fun i _ wr => ∃ x q : Nat, x ≤ k ∧ i = .int .i64 x ∧ (∀ a, a < x → ∀ b, b < l → amB ys (itN fs a) b = amB zs a (itN gs b)) ∧ wr = w1.drewN q) (fun i _ _ => k - (intOf i).toNat)
      case atStart => exact ⟨0, 0, by omega, rfl, fun a ha => by omega, rfl⟩
      case round =>
        obtain ⟨x, q, hx, rfl, hall, rfl⟩ := hrel
        have Hall := Lib.hid hall
        clear hall
        by_cases hlt : x < k
        · go_wp2
          go_loopw [10] (fun i wr => ∃ y q : Nat, y ≤ l ∧ i = .int .i64 y ∧ (∀ b, b < y → amB ys (itN fs x) b = amB zs x (itN gs b)) ∧ wr = w1.drewN q) (fun i _ => l - (intOf i).toNat)
          case atStart => exact ⟨0, q, by omega, rfl, fun a ha => by omega, rfl⟩
          case round =>
            obtain ⟨y, q, hy, rfl, hin, rfl⟩ := hrel
            have Hin := Lib.hid hin
            clear hin
            by_cases hly : y < l
            · obtain ⟨bf, off, rfl, _, hcf⟩ := hF1.at_ hlt
              have hfx := hcf x hlt
              obtain ⟨bg, off', rfl, _, hcg⟩ := hG1.at_ hly
              have hgy := hcg y hly
              obtain ⟨e1, l1⟩ := ends_it hen (k := x) (by rw [hlenf.out]; exact hlt)
              obtain ⟨e2, l2⟩ := ends_it hen2 (k := y) (by rw [hleng.out]; exact hly)
              rw [e1] at hfx
              rw [e2] at hgy
              clear hcf hcg e1 e2
              have hq1 := Lib.hid (fun q => satMost_any A' l c' _ ys (itN fs x) y (w1.drewN q) (hB1.drewN q) hsy l1 hly)
              have hq2 := Lib.hid (fun q => satMost_any A k c _ zs x (itN gs y) (w1.drewN q) (hA1.drewN q) hsv hlt l2)
              by_cases heq : amB ys (itN fs x) y = amB zs x (itN gs y)
              · have Hq := Lib.hid heq
                rw [heq] at hq1
                clear heq
                obtain ⟨b2, hb2⟩ : ∃ b2, amB zs x (itN gs y) = b2 := ⟨_, rfl⟩
                rw [hb2] at hq1 hq2
                clear hb2
                go_wp2
                go_quiet ((go_at_call 43; first | (with_reducible exact quiet_add_left (hq1.out _)) | (with_reducible exact quiet_add_left (hq2.out _)) | exact quiet_add_left (hq1.out _) | exact quiet_add_left (hq2.out _)))
                go_wp2
                go_roundw
                case rel => exact ⟨y + 1, _, by omega, by go_num, all_snoc Hin.out Hq.out, rfl⟩
                case measure => simp [intOf]; omega
              · have Hn := Lib.hid (show pairB zs ys fs gs = false by unfold pairB; rw [prB_no (zs := zs) (ys := ys) (fs := fs) (gs := gs) (x := x) (y := y) (by rw [hlenf.out]; exact hlt) (by rw [hleng.out]; exact hly) heq]; simp)
                obtain ⟨b1, hb1⟩ : ∃ b1, amB ys (itN fs x) y = b1 := ⟨_, rfl⟩
                obtain ⟨b2, hb2⟩ : ∃ b2, amB zs x (itN gs y) = b2 := ⟨_, rfl⟩
                rw [hb1] at hq1 heq
                rw [hb2] at hq2 heq
                obtain rfl : b1 = !b2 := by cases b1 <;> cases b2 <;> simp_all
                clear hb1 hb2 heq
                go_wp2
                go_quiet ((go_at_call 43; first | (with_reducible exact quiet_add_left (hq1.out _)) | (with_reducible exact quiet_add_left (hq2.out _)) | exact quiet_add_left (hq1.out _) | exact quiet_add_left (hq2.out _)))
                go_wp2
                go_ret
                exact ⟨ret_bool Hn.out.symm, by first | exact below_drewN kB _ | exact below_drewN (below_drewN kB _) _⟩
            · obtain rfl : y = l := by omega
              go_wp2
              go_roundw
              case rel => exact ⟨x + 1, q, by omega, by go_num, all_snoc Hall.out Hin.out, rfl⟩
              case measure => simp [intOf]; omega
        · obtain rfl : x = k := by omega
          have Hn := Lib.hid (show pairB zs ys fs gs = true by
            unfold pairB
            rw [Hm.out, Hm2.out, prB_iff.2 (fun a b ha hb => Hall.out a (by rw [← hlenf.out]; exact ha) b (by rw [← hleng.out]; exact hb))]
            rfl)
          go_wp2
          go_ret
          exact ⟨ret_bool Hn.out.symm, below_drewN kB q⟩
end Go.Proofs.Ytmlihbcffndnbaa

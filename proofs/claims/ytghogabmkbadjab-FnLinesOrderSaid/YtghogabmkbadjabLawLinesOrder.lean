/- LinesOrder's own law: lines are lines of their order; without the first one there are as many pairs or more; one line tells a chain; the fewest are no more. -/
import Derived.Test.YtghogabmkbadjabDrLinesOrder
import Derived.Test.YtghogabmkbadjabGxp
import Derived.Test.YtghogabmkbadjabGxo
import Derived.Test.YtghogabmkbadjabLoZ
import Derived.Test.YtghogabmkbadjabFwI
import Derived.Test.YtghogabmkbadjabGxk
import Derived.Test.YtghogabmkbadjabGxf
import Derived.Test.YtghogabmkbadjabGxb
import Derived.Test.YtghogabmkbadjabGa
import Derived.Test.YtghogabmkbadjabEqI
import Derived.Test.YtghogabmkbadjabVOrd
set_option linter.unusedVariables false
set_option linter.unusedSimpArgs false
namespace Go.Proofs.Ytghogabmkbadjab
open Go.RowKit Go.Shelf

set_option maxRecDepth 100000 in
set_option maxHeartbeats 8000000 in
theorem fnLinesOrder_walk (A : Option Addr) (m c : Nat) (bs : List Int) (w : World) (h : Byts w w.heap.size A m bs) (hcap : m ≤ c) :
    Calls Try.prog 5 #[.slice A m c] w fun e w' => e = .returned (.bool true) ∧ Below w.heap.size w w' := by
  by_cases hs : m ≤ 1048576
  · go_enter Try.func5, Try.ntmps5
    go_wp2_with fail
    refine (drawLinesOrder_any A m c bs w h hcap (by omega)).mono ?_
    rintro e w1 ⟨n, A1, m1, c1, rs, rfl, hm3, hmc, hI1, hr7, C1⟩
    have hlen := Lib.hid hI1.len
    have hr9 : ∀ r ∈ rs, r.length ≤ 1048576 := fun r hr => by have := hr7 r hr; omega
    cases hm : lnOk n rs
    · have HM := Lib.hid hm
      have HL := Lib.hid (show lnR n rs = [] by unfold lnR; rw [hm]; rfl)
      clear hm
      have hdd : decide (([] : List Int) = []) = true := rfl
      go_wp2_with fail
      refine (LinesOrder_any n A1 m1 c1 rs w1 hI1 (by omega) hr9).mono ?_
      rintro e w2 ⟨A2, m2, c2, he2, r2, hB2⟩
      rw [HM.out] at he2
      subst he2
      have z2 := hB2.size
      have C2 := C1.trans (hB2.mono C1.size)
      have hI2 := hI1.to hB2 (Nat.le_refl _) z2
      have ha2 := r2.ints (B := w2.heap.size) (Nat.le_refl _)
      have e2 := r2.len
      clear hI1 hB2 C1 r2
      rw [HL.out] at ha2 e2
      simp only [List.length_nil] at e2
      subst e2
      go_wp2_with fail
      refine (specLinesOrder_any n A1 m1 c1 rs w2 hI2 (by omega) hr9).mono ?_
      rintro e w3 ⟨A3, m3, c3, he3, r3, hB3⟩
      rw [HM.out] at he3
      subst he3
      have z3 := hB3.size
      have C3 := C2.trans (hB3.mono C2.size)
      have hI3 := hI2.to hB3 (Nat.le_refl _) z3
      have ha3 := ha2.to hB3 (Nat.le_refl _) z3
      have hb3 := r3.ints (B := w3.heap.size) (Nat.le_refl _)
      have e3 := r3.len
      clear hI2 ha2 hB3 C2 r3
      rw [HL.out] at hb3 e3
      simp only [List.length_nil] at e3
      subst e3
      go_wp2_with fail
      refine (below_quiet (equalInts_any _ _ _ _ _ _ w3.heap.size w3.heap.size _ _ _ ha3 hb3 (by omega) (by omega))).mono ?_
      rintro e w4 ⟨rfl, hB4⟩
      have z4 := hB4.size
      have C4 := C3.trans (hB4.mono C3.size)
      have hI4 := hI3.to hB4 (Nat.le_refl _) z4
      have ha4 := ha3.to hB4 (Nat.le_refl _) z4
      have hb4 := hb3.to hB4 (Nat.le_refl _) z4
      clear hI3 ha3 hb3 hB4 C3
      go_wp2_with fail
      refine (below_quiet (equalInts_any _ _ _ _ _ _ w4.heap.size w4.heap.size _ _ _ ha4 hb4 (by omega) (by omega))).mono ?_
      rintro e w5 ⟨rfl, hB5⟩
      have z5 := hB5.size
      have C5 := C4.trans (hB5.mono C4.size)
      have hI5 := hI4.to hB5 (Nat.le_refl _) z5
      have ha5 := ha4.to hB5 (Nat.le_refl _) z5
      have hb5 := hb4.to hB5 (Nat.le_refl _) z5
      clear hI4 ha4 hb4 hB5 C4
      go_wp2_with fail
      go_ret
      exact ⟨rfl, C5⟩
    · have HM := Lib.hid hm
      obtain ⟨N, hnN, hN6, hm0, hrl, hvo, hlr, hil, htl, h2, h1, hfw⟩ := lo_facts hm
      subst hnN
      rw [hlen.out] at hm0 htl h2 h1 hfw
      have hEl := meL_len N rs
      obtain ⟨E, hE⟩ : ∃ E, meL N rs = E := ⟨_, rfl⟩
      rw [hE] at hvo hlr hil h2 h1 hfw hEl
      clear hE hm
      have HL := Lib.hid hlr
      have HQ := Lib.hid hEl
      have HV := Lib.hid (vo_true hvo)
      have HT := Lib.hid htl
      have H2 := Lib.hid h2
      have H1 := Lib.hid h1
      have HF := Lib.hid hfw
      have HI := Lib.hid hil
      have HR := Lib.hid hrl
      clear hlr hEl hvo htl h2 h1 hfw hil hrl
      go_wp2_with fail
      refine (LinesOrder_any (N : Int) A1 m1 c1 rs w1 hI1 (by omega) hr9).mono ?_
      rintro e w2 ⟨A2, m2, c2, he2, r2, hB2⟩
      rw [HM.out] at he2
      subst he2
      have z2 := hB2.size
      have C2 := C1.trans (hB2.mono C1.size)
      have hI2 := hI1.to hB2 (Nat.le_refl _) z2
      have ha2 := r2.ints (B := w2.heap.size) (Nat.le_refl _)
      have e2 := r2.len
      clear hI1 hB2 C1 r2
      rw [HL.out] at ha2 e2
      rw [HQ.out] at e2
      subst e2
      have hdd : decide (E = E) = true := by simp
      go_wp2_with fail
      refine (specLinesOrder_any (N : Int) A1 m1 c1 rs w2 hI2 (by omega) hr9).mono ?_
      rintro e w3 ⟨A3, m3, c3, he3, r3, hB3⟩
      rw [HM.out] at he3
      subst he3
      have z3 := hB3.size
      have C3 := C2.trans (hB3.mono C2.size)
      have hI3 := hI2.to hB3 (Nat.le_refl _) z3
      have ha3 := ha2.to hB3 (Nat.le_refl _) z3
      have hb3 := r3.ints (B := w3.heap.size) (Nat.le_refl _)
      have e3 := r3.len
      clear hI2 ha2 hB3 C2 r3
      rw [HL.out] at hb3 e3
      rw [HQ.out] at e3
      subst e3
      go_wp2_with fail
      refine (below_quiet (equalInts_any _ _ _ _ _ _ w3.heap.size w3.heap.size _ _ _ ha3 hb3 (by omega) (by omega))).mono ?_
      rintro e w4 ⟨rfl, hB4⟩
      have z4 := hB4.size
      have C4 := C3.trans (hB4.mono C3.size)
      have hI4 := hI3.to hB4 (Nat.le_refl _) z4
      have ha4 := ha3.to hB4 (Nat.le_refl _) z4
      have hb4 := hb3.to hB4 (Nat.le_refl _) z4
      clear hI3 ha3 hb3 hB4 C3
      go_wp2_with fail
      go_loopw [9] (fun i wr => ∃ k : Nat, k ≤ m1 ∧ i = .int .i64 k ∧ w4.heap.size ≤ wr.heap.size ∧ Below w.heap.size w wr ∧ Below w4.heap.size w4 wr) (fun i _ => m1 - (intOf i).toNat)
      case atStart => exact ⟨0, by omega, rfl, Nat.le_refl _, C4, Below.refl _ _⟩
      case round =>
        obtain ⟨k, hk, rfl, zr0, Cr, Dr⟩ := hrel
        rename World => wr
        have hI := hI4.to Dr (Nat.le_refl _) zr0
        have ha := ha4.to Dr (Nat.le_refl _) zr0
        by_cases hlt : k < m1
        · obtain ⟨b, off, rfl, -, hc⟩ := hI.at_ hlt
          obtain ⟨A', c', hcell, hIr⟩ := hc k hlt
          have hmem : rs[k]?.getD [] ∈ rs := by rw [List.getElem?_eq_getElem (by rw [hlen.out]; exact hlt), Option.getD_some]; exact List.getElem_mem _
          have Hil := Lib.hid (HI.out _ hmem)
          have hrk := hr9 _ hmem
          generalize rs[k]?.getD [] = rk at *
          clear hc hmem
          go_wp2_with fail
          refine (IsLine_any _ _ _ E A' _ c' rk wr ha hIr (by omega) (by omega)).mono ?_
          rw [Hil.out]
          rintro e wy ⟨rfl, hBy⟩
          have zy := hBy.size
          go_wp2_with fail
          go_roundw
          case rel => exact ⟨k + 1, by omega, by go_num, by omega, Cr.trans (hBy.mono (by have := C4.size; omega)), Dr.trans (hBy.mono zr0)⟩
          case measure => simp [intOf]; omega
        · obtain rfl : k = m1 := by omega
          obtain ⟨b, off, rfl, hb, hc⟩ := hI.at_ hm0
          have hr9t : ∀ r ∈ rs.tail, r.length ≤ 1048576 := fun r hr => hr9 r (List.mem_of_mem_tail hr)
          have hTl : ∀ ad : Addr, (c1 ≠ 1 → ad = ⟨b, off + 1, none⟩) → IntsS wr wr.heap.size (some ad) (k - 1) rs.tail := fun ad had => by
            refine ⟨by rw [List.length_tail, hlen.out], fun hk1 => ?_⟩
            have e := had (by omega)
            refine ⟨b, off + 1, by rw [e], hb, fun j hj => ?_⟩
            obtain ⟨A', c', g1, g2⟩ := hc (j + 1) (by omega)
            have e2 : rs.tail[j]?.getD [] = rs[j + 1]?.getD [] := by rw [List.getElem?_tail]
            rw [e2]
            exact ⟨A', c', by rw [show off + 1 + j = off + (j + 1) by omega]; exact g1, g2⟩
          have hHt := Lib.hid hTl
          have hfq := HF.out
          obtain ⟨q, hq⟩ : ∃ q, fewLR E = q := ⟨_, rfl⟩
          rw [hq] at hfq
          have Hq := Lib.hid hq
          have hzr := Cr.size
          clear hc hTl hq HI HR hI hb
          go_wp2_with fail
          all_goals
            refine (LinesOrder_any (N : Int) _ (k - 1) _ rs.tail wr (hHt.out _ (by first | exact fun _ => rfl | (intro hne; exfalso; omega))) (by omega) hr9t).mono ?_
            rintro e wa ⟨Aa, ma, ca, hea, ra, hBa⟩
            rw [HT.out] at hea
            have za := hBa.size
            have Ca := Cr.trans (hBa.mono hzr)
            have haE := ha.to hBa (Nat.le_refl _) za
            clear hHt ha
            by_cases hk2 : 2 ≤ k
            · obtain ⟨hl2, hcp⟩ := H2.out hk2
              rw [decide_eq_true hk2] at hea
              subst hea
              have hFl := meL_len N rs.tail
              rw [hl2] at ra
              obtain ⟨F, hF⟩ : ∃ F, meL N rs.tail = F := ⟨_, rfl⟩
              rw [hF] at ra hcp hFl
              have hFi := ra.ints (B := wa.heap.size) (Nat.le_refl _)
              have era := ra.len
              rw [hFl] at era
              subst era
              obtain ⟨p1, hp1⟩ : ∃ p1, countR F = p1 := ⟨_, rfl⟩
              obtain ⟨p2, hp2⟩ : ∃ p2, countR E = p2 := ⟨_, rfl⟩
              rw [hp1, hp2] at hcp
              have Hp1 := Lib.hid hp1
              have Hp2 := Lib.hid hp2
              clear hp1 hp2 hF hl2 ra hFl
              have hge : decide (p1 ≥ p2) = true := decide_eq_true hcp
              have hk1b : ((k : Int) == 1) = false := by rw [beq_eq_false_iff_ne]; omega
              have hk1d : decide ((k : Int) > 1) = true := decide_eq_true (by omega)
              go_wp2_with fail
              refine (FewestLines_any _ _ _ E wa haE (by omega)).mono ?_
              rw [Hq.out]
              rintro e wb ⟨rfl, hBb⟩
              have zb := hBb.size
              have Cb := Ca.trans (hBb.mono (by omega))
              have haE2 := haE.to hBb (Nat.le_refl _) zb
              have hFi2 := hFi.to hBb (Nat.le_refl _) zb
              go_wp2_with fail
              refine (ValidOrder_any _ _ _ E wb haE2 (by omega)).mono ?_
              rw [HV.out]
              rintro e wc ⟨rfl, hBc⟩
              have zc := hBc.size
              have Cc := Cb.trans (hBc.mono (by omega))
              have haE3 := haE2.to hBc (Nat.le_refl _) zc
              have hFi3 := hFi2.to hBc (Nat.le_refl _) zc
              go_wp2_with fail
              refine (CountPairs_any _ _ _ F wc hFi3 (by omega)).mono ?_
              rw [Hp1.out]
              rintro e wd ⟨rfl, hBd⟩
              have zd := hBd.size
              have Cd := Cc.trans (hBd.mono (by omega))
              have haE4 := haE3.to hBd (Nat.le_refl _) zd
              go_wp2_with fail
              refine (CountPairs_any _ _ _ E wd haE4 (by omega)).mono ?_
              rw [Hp2.out]
              rintro e we ⟨rfl, hBe⟩
              have ze := hBe.size
              have Ce := Cd.trans (hBe.mono (by omega))
              by_cases hq0 : q < 0
              · have hqd : decide (q < 0) = true := decide_eq_true hq0
                go_wp2_with fail
                go_ret
                exact ⟨rfl, Ce⟩
              · have hqd : decide (q < 0) = false := decide_eq_false hq0
                have hqk : decide (q ≤ (k : Int)) = true := decide_eq_true (by omega)
                have hmx : (1 : Int) ≤ (k : Int) := by omega
                go_wp2_with fail
                all_goals first
                  | (exfalso; omega)
                  | (go_ret; exact ⟨rfl, Ce⟩)
                  | skip
            · obtain rfl : k = 1 := by omega
              rw [decide_eq_false hk2] at hea
              subst hea
              have hL1 := H1.out rfl
              obtain ⟨L, hL⟩ : ∃ L, longR E = L := ⟨_, rfl⟩
              rw [hL] at hL1
              have HL1 := Lib.hid (hL.trans hL1)
              clear hL hL1
              have hNN : ((N : Int) == (N : Int)) = true := by simp
              go_wp2_with fail
              refine (FewestLines_any _ _ _ E wa haE (by omega)).mono ?_
              rw [Hq.out]
              rintro e wb ⟨rfl, hBb⟩
              have zb := hBb.size
              have Cb := Ca.trans (hBb.mono (by omega))
              have haE2 := haE.to hBb (Nat.le_refl _) zb
              go_wp2_with fail
              refine (ValidOrder_any _ _ _ E wb haE2 (by omega)).mono ?_
              rw [HV.out]
              rintro e wc ⟨rfl, hBc⟩
              have zc := hBc.size
              have Cc := Cb.trans (hBc.mono (by omega))
              have haE3 := haE2.to hBc (Nat.le_refl _) zc
              go_wp2_with fail
              refine (LongestChain_any _ _ _ E wc haE3 (by omega)).mono ?_
              rw [HL1.out]
              rintro e wd ⟨rfl, hBd⟩
              have zd := hBd.size
              have Cd := Cc.trans (hBd.mono (by omega))
              by_cases hq0 : q < 0
              · have hqd : decide (q < 0) = true := decide_eq_true hq0
                go_wp2_with fail
                go_ret
                exact ⟨rfl, Cd⟩
              · have hqd : decide (q < 0) = false := decide_eq_false hq0
                have hqk : decide (q ≤ 1) = true := decide_eq_true (by omega)
                go_wp2_with fail
                all_goals first
                  | (exfalso; omega)
                  | (go_ret; exact ⟨rfl, Cd⟩)
                  | skip
  · go_enter Try.func5, Try.ntmps5
    go_wp2
    go_ret
    exact ⟨rfl, Below.refl _ _⟩
end Go.Proofs.Ytghogabmkbadjab

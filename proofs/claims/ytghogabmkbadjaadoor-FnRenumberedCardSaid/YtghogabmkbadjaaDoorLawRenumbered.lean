/- Renumbered's own law: an order with as many pairs, lines and ideals; turned back it is the order again. -/
import Derived.Test.YtghogabmkbadjaaDoorGxd
import Derived.Test.YtghogabmkbadjaaDoorRnF
import Derived.Test.YtghogabmkbadjaaDoorGxh
import Derived.Test.YtghogabmkbadjaaDoorGxc
import Derived.Test.YtghogabmkbadjaaDoorGxa
import Derived.Test.YtghogabmkbadjaaDoorGa
import Derived.Test.YtghogabmkbadjaaDoorGxe
set_option linter.unusedVariables false
set_option linter.unusedSimpArgs false
namespace Go.Proofs.YtghogabmkbadjaaDoor
open Go.RowKit Go.Shelf

set_option maxRecDepth 100000 in
set_option maxHeartbeats 8000000 in
theorem fnRenumbered_walk (A : Option Addr) (m c : Nat) (bs : List Int) (w : World) (h : Byts w w.heap.size A m bs) (hcap : m ≤ c) (hT : Tab w) (hw1 : 1 < w.heap.size) :
    Calls Tryd.prog 3 #[.slice A m c] w fun e w' => e = .returned (.bool true) ∧ Below w.heap.size w w' := by
  by_cases hs : m ≤ 1048576
  · go_enter Tryd.func3, Tryd.ntmps3
    go_wp2_with fail
    refine (drawRenumbered_any A m c bs w h hcap (by omega)).mono ?_
    rintro e w1 ⟨A1, n, c1, zs, Ay, ny, cy, ts, rfl, hn7, hny, hI1, hJ1, C1⟩
    have hlen := Lib.hid hI1.len
    have hlen2 := Lib.hid hJ1.len
    have HT := Lib.hid hT
    clear hT
    cases hm : rnOk zs ts
    · have HM := Lib.hid hm
      have HL := Lib.hid (show rnR zs ts = [] by unfold rnR; rw [hm]; rfl)
      clear hm
      have hdd : decide (([] : List Int) = []) = true := rfl
      go_wp2_with fail
      refine (Renumbered_any A1 n c1 zs Ay ny cy ts w1 hI1 hJ1 (by omega) (by omega)).mono ?_
      rintro e w2 ⟨A2, m2, c2, he2, r2, hB2⟩
      rw [HM.out] at he2
      subst he2
      have z2 := hB2.size
      have C2 := C1.trans (hB2.mono C1.size)
      have hI2 := hI1.to hB2 (Nat.le_refl _) z2
      have hJ2 := hJ1.to hB2 (Nat.le_refl _) z2
      have ha2 := r2.ints (B := w2.heap.size) (Nat.le_refl _)
      have e2 := r2.len
      clear hI1 hJ1 hB2 C1 r2
      rw [HL.out] at ha2 e2
      simp only [List.length_nil] at e2
      subst e2
      go_wp2_with fail
      refine (specRenumberedF_any A1 n c1 zs Ay ny cy ts w2 hI2 hJ2 (by omega) (by omega)).mono ?_
      rintro e w3 ⟨A3, m3, c3, he3, r3, hB3⟩
      rw [HM.out] at he3
      subst he3
      have z3 := hB3.size
      have C3 := C2.trans (hB3.mono C2.size)
      have hI3 := hI2.to hB3 (Nat.le_refl _) z3
      have hJ3 := hJ2.to hB3 (Nat.le_refl _) z3
      have ha3 := ha2.to hB3 (Nat.le_refl _) z3
      have hb3 := r3.ints (B := w3.heap.size) (Nat.le_refl _)
      have e3 := r3.len
      clear hI2 hJ2 ha2 hB3 C2 r3
      rw [HL.out] at hb3 e3
      simp only [List.length_nil] at e3
      subst e3
      go_wp2_with fail
      refine (below_quiet (equalInts_any _ _ _ _ _ _ w3.heap.size w3.heap.size _ _ _ ha3 hb3 (by omega) (by omega))).mono ?_
      rintro e w4 ⟨rfl, hB4⟩
      have z4 := hB4.size
      have C4 := C3.trans (hB4.mono C3.size)
      have hI4 := hI3.to hB4 (Nat.le_refl _) z4
      have hJ4 := hJ3.to hB4 (Nat.le_refl _) z4
      have ha4 := ha3.to hB4 (Nat.le_refl _) z4
      have hb4 := hb3.to hB4 (Nat.le_refl _) z4
      clear hI3 hJ3 ha3 hb3 hB4 C3
      go_wp2_with fail
      refine (below_quiet (equalInts_any _ _ _ _ _ _ w4.heap.size w4.heap.size _ _ _ ha4 hb4 (by omega) (by omega))).mono ?_
      rintro e w5 ⟨rfl, hB5⟩
      have z5 := hB5.size
      have C5 := C4.trans (hB5.mono C4.size)
      have hI5 := hI4.to hB5 (Nat.le_refl _) z5
      have hJ5 := hJ4.to hB5 (Nat.le_refl _) z5
      have ha5 := ha4.to hB5 (Nat.le_refl _) z5
      have hb5 := hb4.to hB5 (Nat.le_refl _) z5
      clear hI4 hJ4 ha4 hb4 hB5 C4
      go_wp2_with fail
      go_ret
      exact ⟨rfl, C5⟩
    · have HM := Lib.hid hm
      obtain ⟨hbk, hvE, hEq, hn6, htl, hit, ⟨hok2, hre2⟩, hcp, hcl, hci⟩ := rn_facts hm
      have hEl : (rnR zs ts).length = n := by rw [hEq, rnL_len, hlen.out]
      rw [hlen.out] at hn6 htl hit hbk hok2 hre2
      rw [hlen2.out] at htl
      have htl2 := htl.symm
      clear htl
      subst htl2
      obtain ⟨E, hE⟩ : ∃ E, rnR zs ts = E := ⟨_, rfl⟩
      rw [hE] at hvE hok2 hre2 hcp hcl hci hEl
      have HL := Lib.hid hE
      have HQ := Lib.hid hEl
      have HV := Lib.hid hvE
      have HK := Lib.hid hok2
      have HR := Lib.hid hre2
      have HBK := Lib.hid hbk
      have HIT := Lib.hid hit
      obtain ⟨p1, hp1⟩ : ∃ p1, countR zs = p1 := ⟨_, rfl⟩
      obtain ⟨p2, hp2⟩ : ∃ p2, linesR zs = p2 := ⟨_, rfl⟩
      obtain ⟨p3, hp3⟩ : ∃ p3, countIdealsR zs = p3 := ⟨_, rfl⟩
      have Ha1 := Lib.hid hp1
      have Ha2 := Lib.hid hp2
      have Ha3 := Lib.hid hp3
      have Hb1 := Lib.hid (hcp.trans hp1)
      have Hb2 := Lib.hid (hcl.trans hp2)
      have Hb3 := Lib.hid (hci.trans hp3)
      clear hE hEl hvE hok2 hre2 hbk hit hcp hcl hci hp1 hp2 hp3 hEq hm
      have hdd : decide (E = E) = true := by simp
      go_wp2_with fail
      refine (Renumbered_any A1 n c1 zs Ay _ cy ts w1 hI1 hJ1 (by omega) (by omega)).mono ?_
      rintro e w2 ⟨A2, m2, c2, he2, r2, hB2⟩
      rw [HM.out] at he2
      subst he2
      have z2 := hB2.size
      have C2 := C1.trans (hB2.mono C1.size)
      have hI2 := hI1.to hB2 (Nat.le_refl _) z2
      have hJ2 := hJ1.to hB2 (Nat.le_refl _) z2
      have ha2 := r2.ints (B := w2.heap.size) (Nat.le_refl _)
      have e2 := r2.len
      clear hI1 hJ1 hB2 C1 r2
      rw [HL.out] at ha2 e2
      rw [HQ.out] at e2
      subst e2
      go_wp2_with fail
      refine (specRenumberedF_any A1 n c1 zs Ay _ cy ts w2 hI2 hJ2 (by omega) (by omega)).mono ?_
      rintro e w3 ⟨A3, m3, c3, he3, r3, hB3⟩
      rw [HM.out] at he3
      subst he3
      have z3 := hB3.size
      have C3 := C2.trans (hB3.mono C2.size)
      have hI3 := hI2.to hB3 (Nat.le_refl _) z3
      have hJ3 := hJ2.to hB3 (Nat.le_refl _) z3
      have ha3 := ha2.to hB3 (Nat.le_refl _) z3
      have hb3 := r3.ints (B := w3.heap.size) (Nat.le_refl _)
      have e3 := r3.len
      clear hI2 hJ2 ha2 hB3 C2 r3
      rw [HL.out] at hb3 e3
      rw [HQ.out] at e3
      subst e3
      go_wp2_with fail
      refine (below_quiet (equalInts_any _ _ _ _ _ _ w3.heap.size w3.heap.size _ _ _ ha3 hb3 (by omega) (by omega))).mono ?_
      rintro e w4 ⟨rfl, hB4⟩
      have z4 := hB4.size
      have C4 := C3.trans (hB4.mono C3.size)
      have hI4 := hI3.to hB4 (Nat.le_refl _) z4
      have hJ4 := hJ3.to hB4 (Nat.le_refl _) z4
      have ha4 := ha3.to hB4 (Nat.le_refl _) z4
      have hb4 := hb3.to hB4 (Nat.le_refl _) z4
      clear hI3 hJ3 ha3 hb3 hB4 C3
      have hmk := run_make_row' (P := Tryd.prog) 23 3 (.int .i64 0) 8 Tryd.underlying23 infoInt rfl .i64 .i64 n (by omega) (by omega)
      go_wp2_with fail
      have hAm : Arr (w4.alloc (.cells (madeCells #[.int .i64 0] n) 3)) w4.heap.size 3 (bkP ts n 0) := Arr.new w4 3 n
      have hUm : Upd (fun _ => False) w4 (w4.alloc (.cells (madeCells #[.int .i64 0] n) 3)) := (Upd.refl _ _).alloc _
      have hzm : (w4.alloc (.cells (madeCells #[.int .i64 0] n) 3)).heap.size = w4.heap.size + 1 := by simp
      obtain ⟨gb, hgb⟩ : ∃ gb, w4.heap.size = gb := ⟨_, rfl⟩
      obtain ⟨wm, hwm⟩ : ∃ wm, w4.alloc (.cells (madeCells #[.int .i64 0] n) 3) = wm := ⟨_, rfl⟩
      rw [hwm] at hAm hUm hzm ⊢
      rw [hgb] at hAm hzm hI4 hJ4 ha4
      have hwg : w.heap.size ≤ gb := by rw [← hgb]; exact C4.size
      have hgs : ∀ (wx : World), Upd (fun j => j = gb) wm wx → Below w.heap.size w wx := fun wx hu => C4.trans (((hUm.mono (S := fun j => j = gb) fun _ _ e => e.elim).trans hu).toBelow (fun j e => by omega) (by rw [hgb]; exact hwg))
      have hIk : ∀ (wx : World) (A : Option Addr) (nn : Nat) (l : List Int), Ints w4 gb A nn l → Upd (fun j => j = gb) wm wx → Ints wx gb A nn l := fun wx A nn l hi hu => hi.keep (fun p hp => World.cell?_of_block (((hUm.mono (S := fun j => j = gb) fun _ _ e => e.elim).trans hu).block p.block (by omega) (by omega)))
      rw [hgb]
      clear hwm
      go_wp2_with fail
      go_loopw [10] (fun i wr => ∃ k : Nat, k ≤ n ∧ i = .int .i64 k ∧ Arr wr gb 3 (bkP ts n k) ∧ Upd (fun j => j = gb) wm wr) (fun i _ => n - (intOf i).toNat)
      case atStart => exact ⟨0, by omega, rfl, hAm, Upd.refl _ _⟩
      case round =>
        obtain ⟨k, hk, rfl, hAr, hUr⟩ := hrel
        rename World => wr
        have hJr := hIk wr _ _ _ hJ4 hUr
        by_cases hlt : k < n
        · obtain ⟨b, off, rfl, hb, hc⟩ := hJr.at_ hlt
          have hck := hc k hlt
          obtain ⟨hi1, hi2⟩ := HIT.out k hlt
          rw [hi1] at hck
          have Hs := Lib.hid (show bkP ts n (k + 1) = (bkP ts n k).set (itN ts k) (k : Int) from rfl)
          have hlb := bkP_len ts n k
          generalize itN ts k = x at *
          have hcx := hAr.cell (k := x) (by omega)
          have hfx := hAr.frozen x
          clear hc hi1
          go_wp2_with fail
          go_roundw
          case rel => exact ⟨k + 1, by omega, by go_num, by rw [Hs.out]; exact hAr.set x (k : Int), hUr.setCell (p := ⟨gb, x, none⟩) (.inr rfl) _⟩
          case measure => simp [intOf]; omega
        · obtain rfl : k = n := by omega
          rw [HBK.out] at hAr
          have hbl : (bkL k ts).length = k := by unfold bkL; rw [lsN_len]
          generalize bkL k ts = bk at *
          have hIr := (hIk wr _ _ _ hI4 hUr).more (B' := wr.heap.size) (by have := hAr.lt; omega)
          have har := (hIk wr _ _ _ ha4 hUr).more (B' := wr.heap.size) (by have := hAr.lt; omega)
          have hbr := hAr.ints' (B := wr.heap.size) hAr.lt hbl
          have Cr := hgs wr hUr
          clear hIk hgs hJr hAr hUr hAm hUm hJ4 hI4 ha4 hb4
          have hzs : decide (zs = zs) = true := by simp
          have hq1 : (p1 == p1) = true := by simp
          have hq2 : (p2 == p2) = true := by simp
          have hq3 : (p3 == p3) = true := by simp
          have zr0 := Cr.size
          go_wp2_with fail
          refine (Renumbered_any _ _ _ E _ _ _ bk wr har hbr (by omega) (by omega)).mono ?_
          rintro e wa ⟨Aa, ma, ca, hea, ra, hBa⟩
          rw [HK.out] at hea
          subst hea
          rw [HR.out] at ra
          have era := ra.len
          rw [hlen.out] at era
          subst era
          have za := hBa.size
          have Ca := Cr.trans (hBa.mono zr0)
          have hIa := hIr.to hBa (Nat.le_refl _) za
          have haa := har.to hBa (Nat.le_refl _) za
          have hra := ra.ints (B := wa.heap.size) (Nat.le_refl _)
          clear hIr har hbr ra hBa
          go_wp2_with fail
          refine (ValidOrder_any _ _ _ E wa haa (by omega)).mono ?_
          rw [HV.out]
          rintro e wb ⟨rfl, hBb⟩
          have zb := hBb.size
          have Cb := Ca.trans (hBb.mono (by omega))
          have hIb := hIa.to hBb (Nat.le_refl _) zb
          have hab := haa.to hBb (Nat.le_refl _) zb
          have hrb := hra.to hBb (Nat.le_refl _) zb
          go_wp2_with fail
          refine (below_quiet (equalInts_any _ _ _ _ _ _ wb.heap.size wb.heap.size _ _ _ hrb hIb (by omega) (by omega))).mono ?_
          rintro e wc ⟨rfl, hBc⟩
          have zc := hBc.size
          have Cc := Cb.trans (hBc.mono (by omega))
          have hIc := hIb.to hBc (Nat.le_refl _) zc
          have hac := hab.to hBc (Nat.le_refl _) zc
          go_wp2_with fail
          refine (CountPairs_any _ _ _ E wc hac (by omega)).mono ?_
          rw [Hb1.out]
          rintro e wd ⟨rfl, hBd⟩
          have zd := hBd.size
          have Cd := Cc.trans (hBd.mono (by omega))
          have hId := hIc.to hBd (Nat.le_refl _) zd
          have had := hac.to hBd (Nat.le_refl _) zd
          go_wp2_with fail
          refine (CountPairs_any _ _ _ zs wd hId (by omega)).mono ?_
          rw [Ha1.out]
          rintro e we ⟨rfl, hBe⟩
          have ze := hBe.size
          have Ce := Cd.trans (hBe.mono (by omega))
          have hIe := hId.to hBe (Nat.le_refl _) ze
          have hae := had.to hBe (Nat.le_refl _) ze
          go_wp2_with fail
          refine (CountLines_any _ _ _ E we hae (by omega)).mono ?_
          rw [Hb2.out]
          rintro e wf ⟨rfl, hBf⟩
          have zf := hBf.size
          have Cf := Ce.trans (hBf.mono (by omega))
          have hIf := hIe.to hBf (Nat.le_refl _) zf
          have haf := hae.to hBf (Nat.le_refl _) zf
          go_wp2_with fail
          refine (CountLines_any _ _ _ zs wf hIf (by omega)).mono ?_
          rw [Ha2.out]
          rintro e wg ⟨rfl, hBg⟩
          have zg := hBg.size
          have Cg := Cf.trans (hBg.mono (by omega))
          have hIg := hIf.to hBg (Nat.le_refl _) zg
          have hag := haf.to hBg (Nat.le_refl _) zg
          go_wp2_with fail
          refine (CountIdeals_any _ _ _ E wg hag (by omega) (HT.out.below Cg hw1) (by omega)).mono ?_
          rw [Hb3.out]
          rintro e wh ⟨rfl, hBh⟩
          have zh := hBh.size
          have Ch := Cg.trans (hBh.mono (by omega))
          have hIh := hIg.to hBh (Nat.le_refl _) zh
          go_wp2_with fail
          refine (CountIdeals_any _ _ _ zs wh hIh (by omega) (HT.out.below Ch hw1) (by omega)).mono ?_
          rw [Ha3.out]
          rintro e wi ⟨rfl, hBi⟩
          have Ci := Ch.trans (hBi.mono (by omega))
          go_wp2_with fail
          go_ret
          exact ⟨rfl, Ci⟩
  · go_enter Tryd.func3, Tryd.ntmps3
    go_wp2
    go_ret
    exact ⟨rfl, Below.refl _ _⟩
end Go.Proofs.YtghogabmkbadjaaDoor

/- OrderOf's own law: what follows is there, and nothing else. -/
import Derived.Test.YtekopnjleppliaaDrawO
import Derived.Test.YtekopnjleppliaaClos
import Derived.Test.YtekopnjleppliaaOrdSp
import Derived.Test.YtekopnjleppliaaCovImp
import Derived.Test.YtekopnjleppliaaVOrd
import Derived.Test.YtekopnjleppliaaEqI
namespace Go.Proofs.Ytekopnjleppliaa
open Go.RowKit Go.Shelf

theorem quiet_add_drewN {P : Program} {f : FuncId} {args : Array Value} {w : World} {a n : Nat} {v : Value}
    (h : Calls P f args (w.drewN (a + n)) fun e w' => e = .returned v ∧ w.drewN (a + n) = w') :
    Calls P f args (w.drewN (a + n)) fun e w'' => e = .returned v ∧ ∃ m, w'' = w.drewN (a + m) :=
  h.mono fun _ _ ⟨he, hm⟩ => ⟨he, n, hm.symm⟩

set_option maxRecDepth 100000 in
set_option maxHeartbeats 8000000 in
theorem fnOrderOf_walk (A : Option Addr) (m c : Nat) (bs : List Int) (w : World) (h : Byts w w.heap.size A m bs) (hcap : m ≤ c) :
    Calls Try.prog 11 #[.slice A m c] w fun e w' => e = .returned (.bool true) ∧ Below w.heap.size w w' := by
  by_cases hs : m ≤ 1048576
  · go_enter Try.func11, Try.ntmps11
    go_wp2_with fail
    refine (drawOrderOf_any A m c bs w h hcap (by omega)).mono ?_
    rintro e w1 ⟨n, v, rs, rfl, ⟨A1, c1, rfl, hI1, hl1, hr1⟩, hB1⟩
    have z1 := hB1.size
    go_wp2_with fail
    refine (OrderOf_any n A1 _ c1 rs w1 hI1 hl1 hr1).mono ?_
    rintro e w2 ⟨A2, m2, c2, rfl, r2, hB2⟩
    have z2 := hB2.size
    have C2 := hB1.trans (hB2.mono z1)
    go_wp2_with fail
    refine (specOrderOf_any n A1 _ c1 rs w2 (hI1.to hB2 (Nat.le_refl _) z2) hl1 hr1).mono ?_
    rintro e w3 ⟨A3, m3, c3, rfl, r3, hB3⟩
    have z3 := hB3.size
    have C3 := C2.trans (hB3.mono (by omega))
    have r2' := r2.below hB3 (Nat.le_refl _)
    have hI3 := hI1.to (hB2.trans (hB3.mono z2)) (Nat.le_refl _) (Nat.le_trans z2 z3)
    have hlen2 := r2.len
    have hlen3 := r3.len
    have hm6 : m2 ≤ 6 ∧ m3 ≤ 6 := by
      have : (ordL n rs).length ≤ 6 := by
        cases hok : ordOk n rs with
        | false => simp [ordL, hok]
        | true => exact (ord_is hok).1.1
      omega
    have hdz : decide (ordL n rs = ordL n rs) = true := by simp
    have i2 := r2'.ints (B := w3.heap.size) z3
    have i3 := r3.ints (B := w3.heap.size) (Nat.le_refl _)
    cases hok : ordOk n rs
    · go_wp2_with fail
      refine (equalInts_any _ _ _ _ _ _ _ _ _ _ _ i2 i3 (by omega) (by omega)).mono ?_
      rintro e w4 ⟨rfl, q4, rfl⟩
      go_wp2_with fail
      refine (equalInts_any _ _ _ _ _ _ _ _ _ _ _ (i2.drewN q4) (i3.drewN q4) (by omega) (by omega)).mono ?_
      rintro e w5 ⟨rfl, q5, rfl⟩
      go_wp2_with fail
      go_ret
      exact ⟨rfl, below_drewN C3 _⟩
    · obtain ⟨hvo, hn, hpr, hbits⟩ := ord_is hok
      obtain ⟨hcv1, hcv2⟩ := ord_covers hvo
      have hfew := covers_few hvo
      generalize hzs : ordL n rs = zs at *
      have Hzs := Lib.hid hzs
      have Hbits := Lib.hid hbits
      have Hcv1 := Lib.hid hcv1
      have Hcv2 := Lib.hid hcv2
      have hn2 : n = (m2 : Int) := by omega
      subst hn2
      clear hzs hbits hcv1 hcv2 hn
      have hll : zs.length = m2 := hlen2
      have Hll := Lib.hid hll
      clear hll
      go_wp2_with fail
      refine (equalInts_any _ _ _ _ _ _ _ _ _ _ _ i2 i3 (by omega) (by omega)).mono ?_
      rintro e w4 ⟨rfl, q4, rfl⟩
      go_wp2_with fail
      go_loopw [9] (fun i wr => ∃ k q : Nat, k ≤ rs.length ∧ i = .int .i64 k ∧ wr = w3.drewN q) (fun i _ => rs.length - (intOf i).toNat)
      case atStart => exact ⟨0, q4, by omega, rfl, rfl⟩
      case round =>
        obtain ⟨k, q, hk, rfl, rfl⟩ := hrel
        by_cases hlt : k < rs.length
        · obtain ⟨b1, off1, rfl, hb1, hc1⟩ := hI3.at_ hlt
          obtain ⟨A', c', hcr, hIr⟩ := hc1 k hlt
          clear hc1
          have hmem : rs[k]?.getD [] ∈ rs := by rw [List.getElem?_eq_getElem hlt]; exact List.getElem_mem hlt
          have hp := pairOk_iff.1 (hpr _ hmem)
          have hbit := Hbits.out _ hmem
          generalize rs[k]?.getD [] = r at *
          obtain ⟨hr2, ⟨p1, p2⟩, ⟨p3, p4⟩⟩ := hp
          rw [hr2] at hcr hIr
          obtain ⟨br, offr, rfl, -, hcx⟩ := hIr.at_ (k := 0) (by omega)
          have hx0 := hcx 0 (by omega)
          have hx1 := hcx 1 (by omega)
          rw [Nat.add_zero] at hx0
          clear hcx
          generalize r[0]?.getD 0 = x0 at *
          generalize r[1]?.getD 0 = x1 at *
          obtain ⟨x, rfl⟩ := Int.eq_ofNat_of_zero_le p1
          have hxl : x < m2 := by omega
          obtain ⟨b2, off2, rfl, -, hc2⟩ := i2.at_ hxl
          have hcz := hc2 x hxl
          have hzb := hvo.bd x (by rw [Hll.out]; exact hxl)
          simp only [Int.toNat_natCast] at hbit
          clear hc2 i2 i3
          generalize zs[x]?.getD 0 = z at *
          go_wp2
          go_quiet ((go_at_call 39; exact quiet_add_left (hasBit_any _ _ _ (by omega) (by omega) (by omega) (by omega))))
          go_wp2
          go_roundw
          case rel => exact ⟨k + 1, _, by omega, by go_num, rfl⟩
          case measure => simp [intOf]; omega
        · obtain rfl : k = rs.length := by omega
          go_wp2_with fail
          refine (CoversOf_any _ _ _ zs _ (i2.drewN q) (by omega)).mono ?_
          rintro e w5 ⟨A5, m5, c5, rfl, r5, hB5⟩
          have z5 : w3.heap.size ≤ w5.heap.size := hB5.size
          have hl5 := r5.len
          have C5 := (below_drewN C3 q).trans (hB5.mono (by simp; omega))
          have i25 := (i2.drewN q).below hB5
          have e1 := Hcv1.out
          have e2 := Hcv2.out
          rw [Hll.out] at e1 e2
          go_wp2_with fail
          refine (OrderOf_any (m2 : Int) A5 m5 c5 (coversR zs) w5 (r5.ints (Nat.le_refl _)) (by rw [← hl5]; exact hfew.1) hfew.2).mono ?_
          rintro e w6 ⟨A6, m6, c6, rfl, r6, hB6⟩
          rw [e1]
          rw [e2] at r6
          have hl6 := r6.len
          have hm6' : m6 = m2 := by rw [← hl6, Hll.out]
          subst hm6'
          have z6 := hB6.size
          have i26 := i25.below (hB6.mono z5)
          have i6 := r6.ints (B := w6.heap.size) (Nat.le_refl _)
          have C6 := C5.trans (hB6.mono (by omega))
          have hvt : vo zs = true := vo_true hvo
          clear e1 e2 i25 r5 hl5
          go_wp2_with fail
          refine (equalInts_any _ _ _ _ _ _ _ _ _ _ _ i6 i26 (by omega) (by omega)).mono ?_
          rintro e w7 ⟨rfl, q7, rfl⟩
          go_wp2_with fail
          refine (ValidOrder_any _ _ _ zs _ ((i26.drewN q7).more (by simp; omega)) (by omega)).mono ?_
          rintro e w8 ⟨rfl, hB8⟩
          go_wp2_with fail
          go_ret
          exact ⟨rfl, (below_drewN C6 q7).trans (hB8.mono (by simp; omega))⟩
  · go_enter Try.func11, Try.ntmps11
    go_wp2
    go_ret
    exact ⟨rfl, Below.refl _ _⟩
end Go.Proofs.Ytekopnjleppliaa

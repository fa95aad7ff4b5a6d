/- CoversOf's own law: the next ones make the order again; the other way round they are those of the order turned round. -/
import Derived.Test.YtgeicciieagbgaaDrCoversOf
import Derived.Test.YtgeicciieagbgaaCovImp
import Derived.Test.YtgeicciieagbgaaCovOf
import Derived.Test.YtgeicciieagbgaaOrdOf
import Derived.Test.YtgeicciieagbgaaClos
import Derived.Test.YtgeicciieagbgaaDual
import Derived.Test.YtgeicciieagbgaaCovM
import Derived.Test.YtgeicciieagbgaaHasRow
import Derived.Test.YtgeicciieagbgaaRowsL
import Derived.Test.YtgeicciieagbgaaEqI
import Derived.Deep.RegionHeld3
namespace Go.Proofs.Ytgeicciieagbgaa
open Go.RowKit Go.Shelf

set_option maxRecDepth 100000 in
set_option maxHeartbeats 8000000 in
theorem fnCoversOf_walk (A : Option Addr) (m c : Nat) (bs : List Int) (w : World) (h : Byts w w.heap.size A m bs) (hcap : m ≤ c) :
    Calls Try.prog 4 #[.slice A m c] w fun e w' => e = .returned (.bool true) ∧ Below w.heap.size w w' := by
  by_cases hs : m ≤ 1048576
  · go_enter Try.func4, Try.ntmps4
    go_wp2_with fail
    refine (drawCoversOf_any A m c bs w h hcap (by omega)).mono ?_
    rintro e w1 ⟨A1, n, c1, zs, rfl, hn7, hI1, C1⟩
    have hlen := Lib.hid hI1.len
    obtain ⟨C, hC⟩ : ∃ C, (coversR zs).length = C := ⟨_, rfl⟩
    have HV := Lib.hid hC
    have hfew : C ≤ 1048576 ∧ ∀ r ∈ coversR zs, r.length ≤ 1048576 := by
      rw [← hC]
      cases hv : vo zs
      · have : coversR zs = [] := by unfold coversR; rw [hv]; rfl
        rw [this]; simp
      · exact covers_few (by simpa [vo] using hv)
    clear hC
    go_wp2_with fail
    refine (CoversOf_any A1 n c1 zs w1 hI1 (by omega)).mono ?_
    rintro e w2 ⟨A2, m2, c2, rfl, r2, hB2⟩
    have z2 := hB2.size
    have C2 := C1.trans (hB2.mono C1.size)
    have hI2 := hI1.to hB2 (Nat.le_refl _) z2
    have ha2 := r2.ints (B := w2.heap.size) (Nat.le_refl _)
    have e2 := r2.len
    clear hI1 hB2 C1 r2
    rw [HV.out] at e2
    subst e2
    go_wp2_with fail
    refine (specCoversOf_any A1 n c1 zs w2 hI2 (by omega)).mono ?_
    rintro e w3 ⟨A3, m3, c3, rfl, r3, hB3⟩
    have z3 := hB3.size
    have C3 := C2.trans (hB3.mono C2.size)
    have hI3 := hI2.to hB3 (Nat.le_refl _) z3
    have ha3 := ha2.to hB3 (Nat.le_refl _) z3
    have hb3 := r3.ints (B := w3.heap.size) (Nat.le_refl _)
    have e3 := r3.len
    clear hI2 ha2 hB3 C2 r3
    rw [HV.out] at e3
    subst e3
    go_wp2_with fail
    refine (equalRowsSame_any _ _ _ _ _ _ _ _ _ _ ha3 hb3 hfew.1 hfew.1 hfew.2).mono ?_
    rintro e w4 ⟨rfl, hB4⟩
    have z4 := hB4.size
    have C4 := C3.trans (hB4.mono C3.size)
    have hI4 := hI3.to hB4 (Nat.le_refl _) z4
    have ha4 := ha3.to hB4 (Nat.le_refl _) z4
    have hb4 := hb3.to hB4 (Nat.le_refl _) z4
    clear hI3 ha3 hb3 hB4 C3
    by_cases hC0 : C = 0
    · subst hC0
      go_wp2_with fail
      refine (specCoversOf_any A1 n c1 zs w4 hI4 (by omega)).mono ?_
      rintro e w5 ⟨A5, m5, c5, rfl, r5, hB5⟩
      have z5 := hB5.size
      have C5 := C4.trans (hB5.mono C4.size)
      have hI5 := hI4.to hB5 (Nat.le_refl _) z5
      have ha5 := ha4.to hB5 (Nat.le_refl _) z5
      have hb5 := hb4.to hB5 (Nat.le_refl _) z5
      have hx5 := r5.ints (B := w5.heap.size) (Nat.le_refl _)
      have e5 := r5.len
      clear hI4 ha4 hb4 hB5 C4 r5
      rw [HV.out] at e5
      subst e5
      go_wp2_with fail
      refine (equalRowsSame_any _ _ _ _ _ _ _ _ _ _ ha5 hx5 hfew.1 hfew.1 hfew.2).mono ?_
      rintro e w6 ⟨rfl, hB6⟩
      have z6 := hB6.size
      have C6 := C5.trans (hB6.mono C5.size)
      have hI6 := hI5.to hB6 (Nat.le_refl _) z6
      have ha6 := ha5.to hB6 (Nat.le_refl _) z6
      have hb6 := hb5.to hB6 (Nat.le_refl _) z6
      have hx6 := hx5.to hB6 (Nat.le_refl _) z6
      clear hI5 ha5 hb5 hx5 hB6 C5
      go_wp2_with fail
      go_ret
      exact ⟨rfl, C6⟩
    · have hCb : ((C : Int) == 0) = false := by simpa using hC0
      have hvo : VoP zs := by
        cases hv : vo zs
        · exfalso
          have e : (coversR zs).length = 0 := by unfold coversR; rw [hv]; rfl
          rw [HV.out] at e
          exact hC0 e
        · simpa [vo] using hv
      have hn6 : n ≤ 6 := by have := hvo.1; rw [hlen.out] at this; exact this
      have HO := ord_covers hvo
      rw [hlen.out] at HO
      have HO1 := Lib.hid HO.1
      have HO2 := Lib.hid HO.2
      clear HO
      have HD := Lib.hid (show dualR zs = du zs by unfold dualR; rw [vo_true hvo]; rfl)
      have HDN := Lib.hid (du_len zs)
      have HDC := Lib.hid (du_covers hvo)
      have hfewd := covers_few (du_vo hvo)
      rw [HDC.out, HV.out] at hfewd
      have HAt := Lib.hid (show ∀ k, k < C → ∃ a b : Nat, (coversR zs)[k]?.getD [] = [(a : Int), (b : Int)] ∧ [(b : Int), (a : Int)] ∈ coversR (du zs) from fun k hk => covers_at hvo (by rw [HV.out]; exact hk))
      go_wp2_with fail
      refine (OrderOf_any (n : Int) _ _ _ (coversR zs) w4 ha4 hfew.1 hfew.2).mono ?_
      rintro e w5 ⟨A5, m5, c5, rfl, r5, hB5⟩
      have z5 := hB5.size
      have C5 := C4.trans (hB5.mono C4.size)
      have hI5 := hI4.to hB5 (Nat.le_refl _) z5
      have ha5 := ha4.to hB5 (Nat.le_refl _) z5
      have hb5 := hb4.to hB5 (Nat.le_refl _) z5
      have ho5 := r5.ints (B := w5.heap.size) (Nat.le_refl _)
      have e5 := r5.len
      clear hI4 ha4 hb4 hB5 C4 r5
      rw [HO2.out] at ho5 e5
      rw [HO1.out]
      rw [hlen.out] at e5
      subst e5
      go_wp2_with fail
      refine (DualOf_any A1 n c1 zs w5 hI5 (by omega)).mono ?_
      rintro e w6 ⟨A6, m6, c6, rfl, r6, hB6⟩
      have z6 := hB6.size
      have C6 := C5.trans (hB6.mono C5.size)
      have hI6 := hI5.to hB6 (Nat.le_refl _) z6
      have ha6 := ha5.to hB6 (Nat.le_refl _) z6
      have hb6 := hb5.to hB6 (Nat.le_refl _) z6
      have ho6 := ho5.to hB6 (Nat.le_refl _) z6
      have hd6 := r6.ints (B := w6.heap.size) (Nat.le_refl _)
      have e6 := r6.len
      clear hI5 ha5 hb5 ho5 hB6 C5 r6
      rw [HD.out] at hd6 e6
      rw [HDN.out, hlen.out] at e6
      subst e6
      go_wp2_with fail
      refine (CoversOf_any _ _ _ (du zs) w6 hd6 (by omega)).mono ?_
      rintro e w7 ⟨A7, m7, c7, rfl, r7, hB7⟩
      have z7 := hB7.size
      have C7 := C6.trans (hB7.mono C6.size)
      have hI7 := hI6.to hB7 (Nat.le_refl _) z7
      have ha7 := ha6.to hB7 (Nat.le_refl _) z7
      have hb7 := hb6.to hB7 (Nat.le_refl _) z7
      have ho7 := ho6.to hB7 (Nat.le_refl _) z7
      have hd7 := hd6.to hB7 (Nat.le_refl _) z7
      have hy7 := r7.ints (B := w7.heap.size) (Nat.le_refl _)
      have e7 := r7.len
      clear hI6 ha6 hb6 ho6 hd6 hB7 C6 r7
      rw [HDC.out, HV.out] at e7
      subst e7
      clear hb7 hd7
      go_wp2_with fail
      go_loopw [8] (fun i wr => ∃ k : Nat, k ≤ C ∧ i = .int .i64 k ∧ w7.heap.size ≤ wr.heap.size ∧ Below w.heap.size w wr ∧ Below w7.heap.size w7 wr) (fun i _ => C - (intOf i).toNat)
      case atStart => exact ⟨0, by omega, rfl, Nat.le_refl _, C7, Below.refl _ _⟩
      case round =>
        obtain ⟨k, hk, rfl, zr, Cr, Dr⟩ := hrel
        have hI := hI7.to Dr (Nat.le_refl _) zr
        have ha := ha7.to Dr (Nat.le_refl _) zr
        have ho := ho7.to Dr (Nat.le_refl _) zr
        have hy := hy7.to Dr (Nat.le_refl _) zr
        by_cases hlt : k < C
        · obtain ⟨b, off, rfl, hbl, hc⟩ := ha.at_ hlt
          obtain ⟨R1, q1, hck, hR1⟩ := hc k hlt
          obtain ⟨x, y, hxy, hin⟩ := HAt.out k hlt
          rw [hxy] at hck hR1
          obtain ⟨b2, off2, rfl, hbl2, hc2⟩ := hR1.at_ (k := 0) (by simp)
          have hc0 : wr.cell? ⟨b2, off2, none⟩ = some (.int .i64 (x : Int)) := hc2 0 (by simp)
          have hc1 : wr.cell? ⟨b2, off2 + 1, none⟩ = some (.int .i64 (y : Int)) := hc2 1 (by simp)
          have hkC : (k : Int) < (C : Int) := by omega
          clear hc hc2 hR1 hxy
          go_wp2_with fail
          obtain ⟨W2, hW2⟩ : ∃ W2, wr.drew = W2 := ⟨_, rfl⟩
          have kck : W2.cell? ⟨b, off + k, none⟩ = some (.slice (some ⟨b2, off2, none⟩) 2 q1) := by rw [← hW2]; exact hck
          have kc0 : W2.cell? ⟨b2, off2, none⟩ = some (.int .i64 (x : Int)) := by rw [← hW2]; exact hc0
          have kc1 : W2.cell? ⟨b2, off2 + 1, none⟩ = some (.int .i64 (y : Int)) := by rw [← hW2]; exact hc1
          have ky : IntsS wr.drew wr.drew.heap.size _ _ _ := hy
          rw [hW2] at ky
          have kC : Below w.heap.size w W2 := by rw [← hW2]; exact Cr.drew
          have kD : Below w7.heap.size w7 W2 := by rw [← hW2]; exact Dr.drew
          have kz : w7.heap.size ≤ W2.heap.size := by rw [← hW2]; exact zr
          have hL : Arr (W2.alloc (.cells #[Value.int .i64 (y : Int), .int .i64 (x : Int)] 3)) W2.heap.size 3 [(y : Int), (x : Int)] := heap_alloc_new W2 _
          have hBa : Below W2.heap.size W2 (W2.alloc (.cells #[Value.int .i64 (y : Int), .int .i64 (x : Int)] 3)) := (Below.refl _ _).alloc (Nat.le_refl _) _
          have zBa := hBa.size
          have hcall := below_quiet (hasRow_any _ _ _ c7 2 2 _ _ _ _ _ (ky.to hBa (Nat.le_refl _) zBa) (hL.ints' (n := 2) hL.lt rfl) (by omega) (by omega) hfewd.2 hin)
          have hz2 : wr.heap.size ≤ W2.heap.size := by rw [← hW2]; exact Nat.le_refl _
          have s1 : wr.drew.cell? ⟨b, off + k, none⟩ = some (.slice (some ⟨b2, off2, none⟩) 2 q1) := hck
          have s2 : wr.drew.cell? ⟨b2, off2, none⟩ = some (.int .i64 (x : Int)) := hc0
          have s3 : wr.drew.cell? ⟨b2, off2 + 1, none⟩ = some (.int .i64 (y : Int)) := hc1
          rw [hW2] at s1 s2 s3
          have t1 := (hBa.cell (p := ⟨b, off + k, none⟩) (by show b < _; omega)).trans s1
          have t2 := (hBa.cell (p := ⟨b2, off2, none⟩) (by show b2 < _; omega)).trans s2
          have t3 := (hBa.cell (p := ⟨b2, off2 + 1, none⟩) (by show b2 < _; omega)).trans s3
          have hs1 : b < (W2.alloc (.cells #[Value.int .i64 (y : Int), .int .i64 (x : Int)] 3)).heap.size := by omega
          have hs2 : b2 < (W2.alloc (.cells #[Value.int .i64 (y : Int), .int .i64 (x : Int)] 3)).heap.size := by omega
          subst hW2
          clear hck hc0 hc1 hy Cr Dr zr hI ha ho ky hL
          first | go_region_held3 (fun w' => w'.cell? ⟨b, off + k, none⟩ = some (.slice (some ⟨b2, off2, none⟩) 2 q1) ∧ w'.cell? ⟨b2, off2, none⟩ = some (.int .i64 (x : Int)) ∧ w'.cell? ⟨b2, off2 + 1, none⟩ = some (.int .i64 (y : Int)))
            (first | exact ⟨s1, s2, s3⟩ | exact ⟨t1, t2, t3⟩ | exact ⟨u1, u2, u3⟩)
            (first | (go_at_call 27; refine hcall.mono ?_; rintro e wq ⟨rfl, hB⟩; have u1 := (hB.cell (p := ⟨b, off + k, none⟩) hs1).trans t1; have u2 := (hB.cell (p := ⟨b2, off2, none⟩) hs2).trans t2; have u3 := (hB.cell (p := ⟨b2, off2 + 1, none⟩) hs2).trans t3)) | fail
          all_goals
            have zq := hB.size
            go_wp2
            go_roundw
            case rel => exact ⟨k + 1, by omega, by go_num, by omega, (kC.trans (hBa.mono kC.size)).trans (hB.mono (by have := kC.size; omega)), (kD.trans (hBa.mono kz)).trans (hB.mono (by omega))⟩
            case measure => simp [intOf]; omega
        · obtain rfl : k = C := by omega
          go_wp2_with fail
          refine (equalSame_any _ _ _ _ _ _ _ _ _ _ ho hI (by omega) (by omega)).mono ?_
          rintro e wq ⟨rfl, hB⟩
          go_wp2_with fail
          go_ret
          exact ⟨rfl, Cr.trans (hB.mono Cr.size)⟩
  · go_enter Try.func4, Try.ntmps4
    go_wp2
    go_ret
    exact ⟨rfl, Below.refl _ _⟩
end Go.Proofs.Ytgeicciieagbgaa

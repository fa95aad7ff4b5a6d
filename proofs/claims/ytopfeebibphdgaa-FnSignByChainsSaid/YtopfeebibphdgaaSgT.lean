/- SignByChains: the model's. -/
import Derived.Test.YtopfeebibphdgaaSgQ
import Derived.Test.YtopfeebibphdgaaGb
namespace Go.Proofs.Ytopfeebibphdgaa
open Go.RowKit Go.Shelf
attribute [local go_sem] Oper.semAt_some
attribute [local go_sem, local simp] wide_fn

theorem par_bd' (s : Nat) : -1 ≤ par s ∧ par s ≤ 1 := by unfold par; omega
/-- The first k items of the set lie between. -/
def inTo (zs : List Int) (a b s k : Nat) : Bool := (List.range k).all fun i => upw zs a (itAt (s : Int) i) && upw zs (itAt (s : Int) i) b
theorem inTo_succ (zs : List Int) (a b s k : Nat) : inTo zs a b s (k + 1) = (inTo zs a b s k && (upw zs a (itAt (s : Int) k) && upw zs (itAt (s : Int) k) b)) := by
  unfold inTo
  rw [List.range_succ, List.all_append]
  simp
theorem inTo_all (zs : List Int) (a b : Nat) {s : Nat} (hs : s < 64) : inTo zs a b s (itemsL (s : Int)).length = opB zs s a b := by
  rw [Bool.eq_iff_iff, opB_iff hs]
  unfold inTo
  rw [List.all_eq_true]
  have hm : ∀ x : Nat, x ∈ itemsL (s : Int) ↔ s.testBit x = true := fun x => by rw [mem_itemsL (by omega), bit_cast]
  constructor
  · intro h x hx
    obtain ⟨i, hi, e⟩ := List.getElem_of_mem ((hm x).2 hx)
    have := h i (List.mem_range.2 hi)
    rw [show itAt (s : Int) i = x by unfold itAt; rw [List.getElem?_eq_getElem hi]; exact e, Bool.and_eq_true, upw_lt, upw_lt] at this
    exact this
  · intro h i hi
    have := h _ ((hm _).1 (itAt_mem (List.mem_range.1 hi)))
    rw [Bool.and_eq_true, upw_lt, upw_lt]
    exact this

set_option maxRecDepth 100000 in
set_option maxHeartbeats 8000000 in
theorem specSignByChainsF_any (A : Option Addr) (n c : Nat) (zs : List Int) (a b : Int) (w : World) (h : Ints w w.heap.size A n zs) (hbig : n ≤ 1152921504606846976) :
    Calls Try.prog 22 #[.slice A n c, .int .i64 a, .int .i64 b] w fun e w' => e = .returned (.int .i64 (signR zs a b)) ∧ Below w.heap.size w w' := by
  have hlen := Lib.hid h.len
  have hir := fun k w => inRange_any k 0 ((n : Int) - 1) w
  cases hv : vo zs
  · have Ht := Lib.hid (show signR zs a b = -1000 by unfold signR; rw [hv]; rfl)
    have HV := Lib.hid hv
    clear hv
    go_enter Try.func22, Try.ntmps22
    go_wp2_with fail
    refine (validOrder_any _ _ _ _ zs _ h hbig).mono ?_
    rw [HV.out]
    rintro e w' ⟨rfl, m, rfl⟩
    go_wp2_with fail
    go_ret
    exact ⟨ret_int Ht.out.symm, below_drewN (Below.refl _ _) _⟩
  · have hvo : VoP zs := by simpa [vo] using hv
    have HV := Lib.hid hv
    clear hv
    cases ha : inB a 0 ((n : Int) - 1)
    · have Ht := Lib.hid (show signR zs a b = -1000 by unfold signR isIt; rw [HV.out, hlen.out, ha]; rfl)
      have hia := fun w => hir a w
      rw [ha] at hia
      go_enter Try.func22, Try.ntmps22
      go_wp2_with fail
      refine (validOrder_any _ _ _ _ zs _ h hbig).mono ?_
      rw [HV.out]
      rintro e w' ⟨rfl, m, rfl⟩
      go_wp2_with fail
      refine (hia _).mono ?_
      rintro e w' ⟨rfl, rfl⟩
      go_wp2_with fail
      go_ret
      exact ⟨ret_int Ht.out.symm, below_drewN (Below.refl _ _) _⟩
    · cases hb : inB b 0 ((n : Int) - 1)
      · have Ht := Lib.hid (show signR zs a b = -1000 by unfold signR isIt; rw [HV.out, hlen.out, ha, hb]; rfl)
        have hia := fun w => hir a w
        have hib := fun w => hir b w
        rw [ha] at hia
        rw [hb] at hib
        go_enter Try.func22, Try.ntmps22
        go_wp2_with fail
        refine (validOrder_any _ _ _ _ zs _ h hbig).mono ?_
        rw [HV.out]
        rintro e w' ⟨rfl, m, rfl⟩
        go_wp2_with fail
        refine (hia _).mono ?_
        rintro e w' ⟨rfl, rfl⟩
        go_wp2_with fail
        refine (hib _).mono ?_
        rintro e w' ⟨rfl, rfl⟩
        go_wp2_with fail
        go_ret
        exact ⟨ret_int Ht.out.symm, below_drewN (Below.refl _ _) _⟩
      · have Ht := Lib.hid (show signR zs a b = muI zs a.toNat b.toNat by unfold signR isIt; rw [HV.out, hlen.out, ha, hb]; rfl)
        have hia := fun w => hir a w
        have hib := fun w => hir b w
        rw [ha] at hia
        rw [hb] at hib
        simp only [inB, decide_eq_true_eq] at ha hb
        obtain ⟨x, rfl⟩ := Int.eq_ofNat_of_zero_le ha.1
        obtain ⟨y, rfl⟩ := Int.eq_ofNat_of_zero_le hb.1
        rw [Int.toNat_natCast, Int.toNat_natCast] at Ht
        have hx : x < n := by omega
        have hy : y < n := by omega
        clear hir ha hb
        go_enter Try.func22, Try.ntmps22
        go_wp2_with fail
        refine (validOrder_any _ _ _ _ zs _ h hbig).mono ?_
        rw [HV.out]
        rintro e w' ⟨rfl, m, rfl⟩
        go_wp2_with fail
        refine (hia _).mono ?_
        rintro e w' ⟨rfl, rfl⟩
        go_wp2_with fail
        refine (hib _).mono ?_
        rintro e w' ⟨rfl, rfl⟩
        have Hnn := Lib.hid (show (2 : Nat) ^ zs.length = 2 ^ n by rw [hlen.out])
        have hn6 : n ≤ 6 := by have := hvo.1; rw [hlen.out] at this; exact this
        have hp6 : (2 : Nat) ^ n ≤ 2 ^ 6 := Nat.pow_le_pow_right (by decide) hn6
        have hN := Lib.hid (show powI n = ((2 ^ n : Nat) : Int) by simp [powI])
        have hB0 : Below w.heap.size w (w.drewN m) := below_drewN (Below.refl _ _) m
        have hI0 : Ints (w.drewN m) (w.drewN m).heap.size A n zs := h.drewN m
        obtain ⟨w0, hw0⟩ : ∃ w0, w.drewN m = w0 := ⟨_, rfl⟩
        rw [hw0] at hB0 hI0 ⊢
        clear hw0
        have z0 := hB0.size
        by_cases hxy : x = y
        · subst hxy
          have Hm := Lib.hid (muI_self zs x)
          go_wp2
          go_ret
          exact ⟨ret_int (by rw [Ht.out, Hm.out]), hB0⟩
        · have hne : ((x : Int) == (y : Int)) = false := by simpa using (show ¬ (x : Int) = (y : Int) by omega)
          obtain ⟨bl, off, rfl, _, hc⟩ := hI0.at_ hx
          have hca := hc x hx
          have hza := hvo.bd x (by rw [hlen.out]; exact hx)
          clear hc
          cases hu : upw zs x y
          · have Hm := Lib.hid (muI_no hxy hu)
            have hbi : (bitI (zs[x]?.getD 0) y == 0) = true := by unfold upw at hu; rw [bitI_false hu]; rfl
            generalize zs[x]?.getD 0 = za at *
            go_wp2_with (go_at_call 48; refine (bit_any _ _ _ (by omega) (by omega) (by omega) (by omega)).mono ?_; rintro e w' ⟨rfl, rfl⟩)
            go_ret
            exact ⟨ret_int (by rw [Ht.out, Hm.out]), hB0⟩
          · have hl := upw_lt.1 hu
            have Hm := Lib.hid (show muI zs x y = smTo (chS zs x y) (2 ^ n) by rw [mu_is hvo, if_neg hxy, hu, if_pos rfl]; unfold chI; rw [Hnn.out])
            have hbi : (bitI (zs[x]?.getD 0) y == 0) = false := by unfold upw at hu; rw [bitI_true hu]; rfl
            obtain ⟨N, hNN⟩ : ∃ N : Nat, 2 ^ n = N := ⟨_, rfl⟩
            rw [hNN] at hN hp6 Hm
            have hpw : ∀ w, Calls Try.prog 49 #[.int .i64 (n : Int)] w fun e w' => e = .returned (.int .i64 (N : Int)) ∧ w = w' := fun w => by
              rw [← hN.out]; exact power_any _ _ (by omega) (by omega)
            clear hNN hu hl
            go_wp2_with (go_at_call 48; refine (bit_any _ _ _ (by omega) (by omega) (by omega) (by omega)).mono ?_; rintro e w' ⟨rfl, rfl⟩)
            clear hbi
            go_loopw [7, 8] (fun t i wr => ∃ k : Nat, k ≤ N ∧ i = .int .i64 k ∧ t = .int .i64 (smTo (chS zs x y) k) ∧ Below w0.heap.size w0 wr) (fun _ i _ => N - (intOf i).toNat)
            case atStart => exact ⟨0, by omega, rfl, rfl, Below.refl _ _⟩
            case round =>
              obtain ⟨k, hk, rfl, rfl, hB⟩ := hrel
              have zr := hB.size
              by_cases hlt : k < N
              · have hk64 : k < 64 := by omega
                have hsb := smTo_bd (g := chS zs x y) (B := 1) (by omega) k fun c _ => by
                  have := par_bd' c
                  unfold chS
                  split <;> omega
                have hkp : (k : Int) < powI n := by rw [hN.out]; omega
                have Hk1 := Lib.hid (smTo_succ (chS zs x y) k)
                have hir : Ints wr w0.heap.size (some ⟨bl, off, none⟩) n zs := hI0.below hB
                go_wp2_with (go_at_call 49; refine (hpw _).mono ?_; rintro e w' ⟨rfl, rfl⟩)
                refine (listOf_any (k : Int) wr (by omega) (by omega)).mono ?_
                rintro e w3 ⟨A', c', rfl, hL, hB3, -⟩
                have z3 := hB3.size
                have h3 := hir.below (hB3.mono zr)
                have hB03 := hB.trans (hB3.mono zr)
                obtain ⟨q0, hq0⟩ : ∃ q0, (itemsL (k : Int)).length = q0 := ⟨_, rfl⟩
                have Hq0 := Lib.hid hq0
                have Hop := Lib.hid (inTo_all zs x y (s := k) hk64)
                have hq6 := len_items (k : Int)
                rw [hq0] at hL Hop hq6
                rw [hq0]
                clear hq0
                go_wp2
                go_loopw [9, 11] (fun t i wx => ∃ j q : Nat, j ≤ q0 ∧ i = .int .i64 j ∧ t = .bool (inTo zs x y k j) ∧ wx = w3.drewN q) (fun _ i _ => q0 - (intOf i).toNat)
                case atStart => exact ⟨0, 0, by omega, rfl, rfl, rfl⟩
                case round =>
                  obtain ⟨j, q, hj, rfl, rfl, rfl⟩ := hrel
                  by_cases hjt : j < q0
                  · obtain ⟨b3, off3, rfl, -, hc3⟩ := hL.at_ hjt
                    have hcj := hc3 j hjt
                    rw [itAt_cast (by rw [Hq0.out]; exact hjt)] at hcj
                    have hij := itAt_lt hn6 hkp (a := j) (by rw [Hq0.out]; exact hjt)
                    have hzj := hvo.bd (itAt (k : Int) j) (by rw [hlen.out]; exact hij)
                    obtain ⟨b2, off2, hb2, -, hc2⟩ := h3.at_ hij
                    cases hb2
                    have hczj := hc2 _ hij
                    have hczx := hc2 _ hx
                    clear hc2 hc3
                    have Hin := Lib.hid (inTo_succ zs x y k j)
                    generalize hxj : itAt (k : Int) j = xj at *
                    have hb1 := fun w => bit_any (zs[x]?.getD 0) (xj : Int) w (by omega) (by omega) (by omega) (by omega)
                    have hb2 := fun w => bit_any (zs[xj]?.getD 0) (y : Int) w (by omega) (by omega) (by omega) (by omega)
                    have e1 : (bitI (zs[x]?.getD 0) xj == 1) = upw zs x xj := bitI_one _ _
                    have e2 : (bitI (zs[xj]?.getD 0) y == 1) = upw zs xj y := bitI_one _ _
                    clear hxj
                    generalize zs[x]?.getD 0 = zx at *
                    generalize zs[xj]?.getD 0 = zj at *
                    generalize inTo zs x y k j = t0 at *
                    generalize upw zs x xj = u1 at *
                    generalize upw zs xj y = u2 at *
                    cases t0
                    · go_wp2
                      go_quiet (fail)
                      go_wp2
                      go_roundw
                      case rel => exact ⟨j + 1, _, by omega, by go_num, by rw [Hin.out]; rfl, rfl⟩
                      case measure => simp [intOf]; omega
                    · cases u1
                      · go_wp2
                        go_quiet ((go_at_call 48; exact quiet_add_left (hb1 _)))
                        go_wp2
                        go_roundw
                        case rel => exact ⟨j + 1, _, by omega, by go_num, by rw [Hin.out]; rfl, rfl⟩
                        case measure => simp [intOf]; omega
                      · cases u2
                        · go_wp2
                          go_quiet ((go_at_call 48; first | (with_reducible exact quiet_add_left (hb1 _)) | exact quiet_add_left (hb2 _)))
                          go_wp2
                          go_roundw
                          case rel => exact ⟨j + 1, _, by omega, by go_num, by rw [Hin.out]; rfl, rfl⟩
                          case measure => simp [intOf]; omega
                        · go_wp2
                          go_quiet ((go_at_call 48; first | (with_reducible exact quiet_add_left (hb1 _)) | exact quiet_add_left (hb2 _)))
                          go_wp2
                          go_roundw
                          case rel => exact ⟨j + 1, _, by omega, by go_num, by rw [Hin.out]; rfl, rfl⟩
                          case measure => simp [intOf]; omega
                  · obtain rfl : j = q0 := by omega
                    have h4 : Ints (w3.drewN q) w0.heap.size (some ⟨bl, off, none⟩) n zs := h3
                    have hB4 : Below w0.heap.size w0 (w3.drewN q) := below_drewN hB03 q
                    rw [Hop.out]
                    generalize w3.drewN q = w5 at *
                    have Hch := Lib.hid (show chS zs x y k = if opB zs k x y && chB zs (k : Int) then par k else 0 from rfl)
                    have z5 := hB4.size
                    cases ho : opB zs k x y
                    · have Hn := Lib.hid (show smTo (chS zs x y) (k + 1) = smTo (chS zs x y) k by rw [Hk1.out, Hch.out, ho]; simp)
                      go_wp2_with fail
                      go_roundw
                      case rel => exact ⟨k + 1, by omega, by go_num, by rw [Hn.out], hB4⟩
                      case measure => simp [intOf]; omega
                    · have hcc := specIsChain_any (some ⟨bl, off, none⟩) n c w0.heap.size zs (k : Int) hvo.sets w5 h4 z5 (by omega) hkp
                      cases hch : chB zs (k : Int)
                      · have Hn := Lib.hid (show smTo (chS zs x y) (k + 1) = smTo (chS zs x y) k by rw [Hk1.out, Hch.out, ho, hch]; simp)
                        rw [hch] at hcc
                        go_wp2_with fail
                        refine hcc.mono ?_
                        rintro e w6 ⟨rfl, hB6⟩
                        go_wp2_with fail
                        go_roundw
                        case rel => exact ⟨k + 1, by omega, by go_num, by rw [Hn.out], hB4.trans (hB6.mono z5)⟩
                        case measure => simp [intOf]; omega
                      · rw [hch] at hcc
                        obtain ⟨r, hr⟩ : ∃ r, (popI (k : Int)).tmod 2 = r := ⟨_, rfl⟩
                        have hpb := popI_bd (s := (k : Int)) (by omega) (by omega)
                        have hr01 : 0 ≤ r ∧ r ≤ 1 := by rw [← hr, Int.tmod_eq_emod_of_nonneg hpb.1]; omega
                        have Hn := Lib.hid (show smTo (chS zs x y) (k + 1) = smTo (chS zs x y) k + 2 * r - 1 by
                          rw [Hk1.out, Hch.out, ho, hch, ← hr, Int.tmod_eq_emod_of_nonneg hpb.1]
                          simp only [Bool.and_self, if_true]
                          unfold par; omega)
                        have hbits := fun w => bits_any (k : Int) w (by omega) (by omega)
                        generalize smTo (chS zs x y) k = acc at *
                        go_wp2_with fail
                        refine hcc.mono ?_
                        rintro e w6 ⟨rfl, hB6⟩
                        go_wp2_with fail
                        refine (hbits _).mono ?_
                        rintro e w' ⟨rfl, rfl⟩
                        go_wp2_with fail
                        go_roundw
                        case rel => exact ⟨k + 1, by omega, by go_num, by rw [Hn.out], hB4.trans (hB6.mono z5)⟩
                        case measure => simp [intOf]; omega
              · obtain rfl : k = N := by omega
                go_wp2_with (go_at_call 49; refine (hpw _).mono ?_; rintro e w' ⟨rfl, rfl⟩)
                go_ret
                exact ⟨ret_int (by rw [Ht.out, Hm.out]), hB0.trans (hB.mono z0)⟩
end Go.Proofs.Ytopfeebibphdgaa

/- LineRank: the model's. -/
import Derived.Test.YthjmedbjdjkilaaRankM
import Derived.Test.YthjmedbjdjkilaaRestS
import Derived.Test.YthjmedbjdjkilaaIsLineS
namespace Go.Proofs.Ythjmedbjdjkilaa
open Go.RowKit Go.Shelf
attribute [local go_sem] Oper.semAt_some
attribute [local go_sem, local simp] wide_fn

set_option maxRecDepth 100000 in
set_option maxHeartbeats 8000000 in
theorem specLineRankF_any (A : Option Addr) (n c : Nat) (zs : List Int) (A' : Option Addr) (n' c' : Nat) (ls : List Int) (w : World) (h : Ints w w.heap.size A n zs) (h' : Ints w w.heap.size A' n' ls) (hbig : n ≤ 1152921504606846976) (hbig' : n' ≤ 1152921504606846976) :
    Calls Try.prog 27 #[.slice A n c, .slice A' n' c'] w fun e w' => e = .returned (.int .i64 (rankR zs ls)) ∧ Below w.heap.size w w' := by
  have hlen := Lib.hid h.len
  have hlen' := Lib.hid h'.len
  cases hv : vo zs
  · have Ht := Lib.hid (show rankR zs ls = -1 by unfold rankR isLineR; rw [hv]; rfl)
    go_enter Try.func27, Try.ntmps27
    go_wp2_with fail
    refine (validOrder_any _ _ _ _ zs _ h hbig).mono ?_
    rw [hv]
    rintro e w' ⟨rfl, m, rfl⟩
    go_wp2_with fail
    go_ret
    exact ⟨ret_int Ht.out.symm, below_drewN (Below.refl _ _) m⟩
  · have hvo : VoP zs := by simpa [vo] using hv
    have Hv := Lib.hid hv
    clear hv
    have hn6 : n ≤ 6 := by have := hvo.1; rw [hlen.out] at this; exact this
    cases hli : lineB zs ls
    · have Ht := Lib.hid (show rankR zs ls = -1 by unfold rankR isLineR; rw [hli, Hv.out]; rfl)
      have Hli := Lib.hid hli
      clear hli
      go_enter Try.func27, Try.ntmps27
      go_wp2_with fail
      refine (validOrder_any _ _ _ _ zs _ h hbig).mono ?_
      rw [Hv.out]
      rintro e w' ⟨rfl, m, rfl⟩
      go_wp2_with fail
      refine (sisLine_any A n c zs A' n' c' ls hvo _ ((h.drewN m).more (by simp)) ((h'.drewN m).more (by simp)) hbig').mono ?_
      rw [Hli.out]
      rintro e w3 ⟨rfl, hB3⟩
      go_wp2_with fail
      go_ret
      exact ⟨ret_int Ht.out.symm, (below_drewN (Below.refl _ _) m).trans (hB3.mono (by simp))⟩
    · have hst := line_steps hli
      have hnn : n' = n := by have h1 := hlen.out; have h2 := hlen'.out; omega
      subst hnn
      have Ht := Lib.hid (show rankR zs ls = (rkUp zs ls n' : Int) by unfold rankR isLineR; rw [hli, Hv.out, hlen'.out]; rfl)
      have Hst := Lib.hid hst.2
      have Hli := Lib.hid hli
      clear hli hst
      have Hdu := Lib.hid (show downP n' (pairsL zs) = du zs by unfold du; rw [hlen.out])
      have hds := du_sets hvo.sets
      have Hdl := Lib.hid (show (du zs).length = n' by rw [du_len, hlen.out])
      have hp64 := pow_le64 hn6
      go_enter Try.func27, Try.ntmps27
      go_wp2_with fail
      refine (validOrder_any _ _ _ _ zs _ h hbig).mono ?_
      rw [Hv.out]
      rintro e w' ⟨rfl, m, rfl⟩
      have i1 : Ints (w.drewN m) (w.drewN m).heap.size A n' zs := h.drewN m
      have j1 : Ints (w.drewN m) (w.drewN m).heap.size A' n' ls := h'.drewN m
      have B1 : Below w.heap.size w (w.drewN m) := below_drewN (Below.refl _ _) m
      have z1 : w.heap.size ≤ (w.drewN m).heap.size := B1.size
      generalize w.drewN m = w1 at *
      go_wp2_with fail
      refine (sisLine_any A n' c zs A' n' c' ls hvo w1 i1 j1 hbig').mono ?_
      rw [Hli.out]
      rintro e w2 ⟨rfl, hB2⟩
      have z2 := hB2.size
      have i2 := i1.to hB2 (Nat.le_refl _) z2
      have j2 := j1.to hB2 (Nat.le_refl _) z2
      have B2 := B1.trans (hB2.mono z1)
      clear i1 j1 B1 hB2
      go_wp2_with fail
      refine (downOf_any A n' c zs w2 i2 hvo.sets).mono ?_
      rintro e w3 ⟨rfl, hA3, hB3⟩
      rw [Hdu.out] at hA3
      have z3 := hB3.size
      have i3 := i2.to hB3 (Nat.le_refl _) z3
      have j3 := j2.to hB3 (Nat.le_refl _) z3
      have l3 := hA3.lt
      have B3 := B2.trans (hB3.mono (by omega))
      clear i2 j2 B2 hB3
      have zw : w.heap.size ≤ w3.heap.size := by omega
      go_wp2_with fail
      go_loopw [5, 6, 8] (fun v t i wr => ∃ k : Nat, k ≤ n' ∧ i = .int .i64 k ∧ v = .int .i64 (rkUp zs ls k : Int) ∧ t = .int .i64 (dN ls k : Int) ∧ Below w3.heap.size w3 wr) (fun _ _ i _ => n' - (intOf i).toNat)
      case atStart => exact ⟨0, by omega, rfl, rfl, rfl, Below.refl _ _⟩
      case round =>
        obtain ⟨k, hk, rfl, rfl, rfl, hBk⟩ := hrel
        rename World => w4
        have z4 := hBk.size
        by_cases hlt : k < n'
        · have hok : ∀ i, i < k → stepOk zs ls i = true := fun i hi => Hst.out i (by rw [hlen.out]; omega)
          have hkk := Hst.out k (by rw [hlen.out]; exact hlt)
          have hD := (d_is hok).2
          have hx := it_is hkk
          have hnew := d_new hok hkk
          have hru := rkUp_le hvo k hok
          have Hds := Lib.hid (d_succ hvo hok hkk)
          have Hru := Lib.hid (show rkUp zs ls (k + 1) = rkUp zs ls k + rkIn zs (dN ls k) (itN ls k) from rfl)
          have Hle := Lib.hid (rkIn_le hvo (dN ls k))
          have Hl64 := Lib.hid (Nat.lt_of_lt_of_le hD (pow_le64 hvo.1))
          have i4 := i3.to hBk (Nat.le_refl _) z4
          have j4 := j3.to hBk (Nat.le_refl _) z4
          have d4 := hA3.below hBk l3
          rw [hlen.out] at hD hx
          clear hok hkk
          have hD64 : dN ls k < 64 := Hl64.out
          obtain ⟨bl, ol, rfl, hbl, hcl⟩ := j4.at_ hlt
          have hck := hcl k hlt
          rw [hx.1] at hck
          clear hcl
          have hxn := hx.2
          clear hx
          generalize hxx : itN ls k = x at *
          generalize hdd : dN ls k = D at *
          generalize hrr : rkUp zs ls k = R at *
          have Hxx := Lib.hid hxx
          have Hdd := Lib.hid hdd
          have Hrr := Lib.hid hrr
          clear hxx hdd hrr
          go_wp2_with fail
          go_loopw [5, 9] (fun v i wr => ∃ a : Nat, a ≤ x ∧ i = .int .i64 a ∧ v = .int .i64 ((R + rkIn zs D a : Nat) : Int) ∧ Below w4.heap.size w4 wr) (fun _ i _ => x - (intOf i).toNat)
          case atStart => exact ⟨0, by omega, rfl, rfl, Below.refl _ _⟩
          case round =>
            obtain ⟨a, ha, rfl, rfl, hBa⟩ := hrel
            rename World => w5
            have z5 := hBa.size
            have hck5 := (hBa.cell (p := ⟨bl, ol + k, none⟩) (by show bl < _; exact hbl)).trans hck
            have hle := Hle.out a
            by_cases hlt2 : a < x
            · have han : a < n' := by omega
              have hcd := (d4.below hBa (by omega)).cell (k := a) (by rw [Hdl.out]; exact han)
              have hz := hds.bd a (by rw [Hdl.out]; exact han)
              have hless : bits .andNot .i64 ((du zs)[a]?.getD 0) (D : Int) = lessI ((du zs)[a]?.getD 0) (D : Int) := bits_less (by omega) (by omega) (by omega) (by omega)
              have Hsu := Lib.hid (rkIn_succ zs D a)
              have i5 := i4.to hBa (Nat.le_refl _) z5
              cases hbd : D.testBit a
              · have hbi : (bitI (D : Int) a == 0) = true := by unfold bitI; rw [bit_cast, hbd]; rfl
                cases hl : (lessI ((du zs)[a]?.getD 0) (D : Int) == 0)
                · have Hn := Lib.hid (show rkIn zs D (a + 1) = rkIn zs D a by rw [Hsu.out]; unfold nextE; rw [hbd, hl]; simp)
                  go_wp2_with (go_at_call 75; refine (bit_any _ _ _ (by omega) (by omega) (by omega) (by omega)).mono ?_; rintro e w' ⟨rfl, rfl⟩)
                  go_roundw
                  case rel => exact ⟨a + 1, by omega, by go_num, congrArg (Value.int .i64) (by rw [Hn.out]; omega), hBa⟩
                  case measure => simp [intOf]; omega
                · have Hn := Lib.hid (show rkIn zs D (a + 1) = rkIn zs D a + cF zs (2 ^ n' - 1 - (D + 2 ^ a)) by rw [Hsu.out, hlen.out]; unfold nextE; rw [hbd, hl]; simp)
                  have hadd := add_lt hn6 hD han hbd
                  have Hor := Lib.hid ((bits_or (a := (D : Int)) (b := powI a) (by omega) (by omega) (Int.le_of_lt (powI_pos _)) (by have := powI_le6 (n := (a : Int)) (by omega); omega)).trans (or_is hD64 (show a < 6 by omega) hbd))
                  have hcb := cF_le hvo (s := 2 ^ n' - 1 - (D + 2 ^ a)) (by rw [hlen.out]; exact Nat.lt_of_le_of_lt (Nat.sub_le _ _) (by have := Nat.two_pow_pos n'; omega))
                  go_wp2_with (first
                    | (go_at_call 75; refine (bit_any _ _ _ (by omega) (by omega) (by omega) (by omega)).mono ?_; rintro e w' ⟨rfl, rfl⟩)
                    | (go_at_call 77; refine (power_any _ _ (by omega) (by omega)).mono ?_; rintro e w' ⟨rfl, rfl⟩))
                  rw [Hor.out]
                  refine (srest_any _ n' _ zs hvo (D + 2 ^ a) w5 i5 hadd).mono ?_
                  rintro e w6 ⟨rfl, hB6⟩
                  generalize cF zs (2 ^ n' - 1 - (D + 2 ^ a)) = cc at *
                  generalize rkIn zs D a = ra at *
                  go_wp2_with fail
                  go_roundw
                  case rel => exact ⟨a + 1, by omega, by go_num, congrArg (Value.int .i64) (by rw [Hn.out]; omega), hBa.trans (hB6.mono z5)⟩
                  case measure => simp [intOf]; omega
              · have hbi : (bitI (D : Int) a == 0) = false := by unfold bitI; rw [bit_cast, hbd]; rfl
                have Hn := Lib.hid (show rkIn zs D (a + 1) = rkIn zs D a by rw [Hsu.out]; unfold nextE; rw [hbd]; simp)
                go_wp2_with (go_at_call 75; refine (bit_any _ _ _ (by omega) (by omega) (by omega) (by omega)).mono ?_; rintro e w' ⟨rfl, rfl⟩)
                go_roundw
                case rel => exact ⟨a + 1, by omega, by go_num, congrArg (Value.int .i64) (by rw [Hn.out]; omega), hBa⟩
                case measure => simp [intOf]; omega
            · obtain rfl : a = x := by omega
              have Hor := Lib.hid ((bits_or (a := (D : Int)) (b := powI a) (by omega) (by omega) (Int.le_of_lt (powI_pos _)) (by have := powI_le6 (n := (a : Int)) (by omega); omega)).trans (or_is hD64 (show a < 6 by omega) hnew))
              go_wp2_with (go_at_call 77; refine (power_any _ _ (by omega) (by omega)).mono ?_; rintro e w' ⟨rfl, rfl⟩)
              rw [Hor.out]
              go_roundw
              case rel => exact ⟨k + 1, by omega, by go_num, congrArg (Value.int .i64) (by rw [Hru.out]; omega), by rw [Hds.out], hBk.trans (hBa.mono z4)⟩
              case measure => simp [intOf]; omega
        · obtain rfl : k = n' := by omega
          go_wp2_with fail
          go_ret
          exact ⟨ret_int Ht.out.symm, B3.trans (hBk.mono zw)⟩
end Go.Proofs.Ythjmedbjdjkilaa

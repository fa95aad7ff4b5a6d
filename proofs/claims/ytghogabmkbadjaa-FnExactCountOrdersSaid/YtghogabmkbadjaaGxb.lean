/- Texts that several claims share, one behind the other. -/
import Derived.Test.YtghogabmkbadjaaGc
import Derived.Test.YtghogabmkbadjaaGa
import Derived.Test.YtghogabmkbadjaaGb
set_option linter.unusedVariables false
set_option linter.unusedSimpArgs false
/- The law's own product of the numbers from 1 up. -/
namespace Go.Proofs.Ytghogabmkbadjaa
open Go.RowKit Go.Shelf

set_option maxHeartbeats 1000000 in
theorem lawFact_any (n : Nat) (w : World) (hn : n ≤ 6) :
    Calls Try.prog 39 #[.int .i64 (n : Int)] w fun e w' => e = .returned (.int .i64 (factI n)) ∧ w = w' := by
  go_enter Try.func39, Try.ntmps39
  go_wp2
  go_loop [3, 4] (fun t i => ∃ k : Nat, (k ≤ n ∨ k = 1) ∧ 1 ≤ k ∧ i = .int .i64 ((k : Int) + 1) ∧ t = .int .i64 (factI k)) (fun _ i => n + 1 - (intOf i).toNat)
  case atStart => exact ⟨1, .inr rfl, by omega, rfl, rfl⟩
  case round =>
    obtain ⟨k, hk, hk1, rfl, rfl⟩ := hrel
    by_cases hlt : k + 1 ≤ n
    · have Hs := Lib.hid (show factI (k + 1) = factI k * ((k : Int) + 1) from rfl)
      have hb := factI_bd ⟨k + 1, by omega⟩
      simp only at hb
      rw [Hs.out] at hb
      generalize factI k = t at *
      have hw : wrap64 (t * ((k : Int) + 1)) = t * ((k : Int) + 1) := IntWalk.wrap64_in _ ⟨by omega, by omega⟩
      have hk20 : decide ((k : Int) + 1 ≤ 20) = true := decide_eq_true (by omega)
      go_wp2
      go_round
      case rel => exact ⟨k + 1, by omega, by omega, by go_num, by rw [Hs.out]⟩
      case measure => show n + 1 - ((k : Int) + 1 + 1).toNat < n + 1 - ((k : Int) + 1).toNat; omega
    · have he : factI k = factI n := by
        rcases hk with h | rfl
        · rw [show k = n by omega]
        · rcases (show n = 0 ∨ n = 1 by omega) with rfl | rfl <;> rfl
      have He := Lib.hid he
      clear he
      go_wp2
      go_ret
      exact ⟨ret_int He.out, rfl⟩
end Go.Proofs.Ytghogabmkbadjaa

/- IsLine: the model's. -/
namespace Go.Proofs.Ytghogabmkbadjaa
open Go.RowKit Go.Shelf

set_option maxRecDepth 100000 in
set_option maxHeartbeats 4000000 in
theorem sisLine_any (A : Option Addr) (n c : Nat) (zs : List Int) (A' : Option Addr) (n' c' : Nat) (ls : List Int) (hvo : VoP zs) (w : World) (h : Ints w w.heap.size A n zs) (h' : Ints w w.heap.size A' n' ls) (hbig' : n' ≤ 1152921504606846976) :
    Calls Try.prog 45 #[.slice A n c, .slice A' n' c'] w fun e w' => e = .returned (.bool (lineB zs ls)) ∧ Below w.heap.size w w' := by
  have hlen' := Lib.hid h'.len
  have hlen := Lib.hid h.len
  have hn6 : n ≤ 6 := by have := hvo.1; rw [hlen.out] at this; exact this
  have hp64 := powI_le6 (n := (n : Int)) (by omega)
  have Hdu := Lib.hid (show downP n (pairsL zs) = du zs by unfold du; rw [hlen.out])
  have hds := du_sets hvo.sets
  have Hdl := Lib.hid (show (du zs).length = n by rw [du_len, hlen.out])
  go_enter Try.func45, Try.ntmps45
  go_wp2_with fail
  refine (downOf_any A n c zs w h hvo.sets).mono ?_
  rintro e w2 ⟨rfl, hA2, hB2⟩
  rw [Hdu.out] at hA2
  have h2 := h'.to hB2 (Nat.le_refl _) hB2.size
  have hI2 := hA2.ints' hA2.lt Hdl.out
  clear hA2
  go_wp2_with fail
  go_loop [5, 7] (fun s i => ∃ k : Nat, k ≤ n' ∧ i = .int .i64 k ∧ s = .int .i64 (doneTo ls k) ∧ ∀ a, a < k → stepOk zs ls a = true) (fun _ i => n' - (intOf i).toNat)
  case atStart => exact ⟨0, by omega, rfl, rfl, fun a ha => by omega⟩
  case round =>
    obtain ⟨k, hk, rfl, rfl, hok⟩ := hrel
    have Hok := Lib.hid hok
    have hsb := doneTo_bd (zs := zs) (ls := ls) k hok
    rw [hlen.out] at hsb
    by_cases hlt : k < n'
    · obtain ⟨b2, off2, rfl, hb2, hc2⟩ := h2.at_ hlt
      have hck := hc2 k hlt
      have Hs := Lib.hid (show doneTo ls (k + 1) = orI (doneTo ls k) (powI (ls[k]?.getD 0)) from rfl)
      have Hno := Lib.hid (fun e : stepOk zs ls k = false => lineB_no (zs := zs) hlen'.out hlt e)
      clear hc2 hok h2
      cases hin : inB (ls[k]?.getD 0) 0 ((n : Int) - 1)
      · have Ht := Lib.hid (Hno.out (by
          unfold stepOk
          rw [hlen.out, hin]
          rfl))
        have Hin := Lib.hid hin
        clear hin
        generalize ls[k]?.getD 0 = x at *
        go_wp2_with fail
        refine (inRange_any x 0 _ w2).mono ?_
        rw [Hin.out]
        rintro e w' ⟨rfl, rfl⟩
        go_wp2_with fail
        go_ret
        exact ⟨ret_bool Ht.out.symm, hB2⟩
      · have Hin := Lib.hid hin
        have hx0 : (0 : Int) ≤ ls[k]?.getD 0 ∧ ls[k]?.getD 0 ≤ (n : Int) - 1 := by simpa [inB] using hin
        obtain ⟨a, ha⟩ := Int.eq_ofNat_of_zero_le hx0.1
        have han : a < n := by omega
        have Hst := Lib.hid (show stepOk zs ls k = (!bitB (doneTo ls k) (a : Int) && (lessI ((du zs)[a]?.getD 0) (doneTo ls k) == 0)) by
          unfold stepOk
          rw [hlen.out, hin, ha, Bool.true_and, Int.toNat_natCast])
        rw [ha] at hck Hin Hs
        clear hin hx0 ha
        obtain ⟨b3, off3, e3, hb3, hc3⟩ := hI2.at_ han
        cases e3
        have hdk := hc3 a han
        simp only [Nat.zero_add] at hdk
        have hdb := hds.2 a (by rw [Hdl.out]; exact han)
        rw [Hdl.out] at hdb
        clear hc3
        have hpk : powI (a : Int) < powI (n : Int) := powI_lt han
        have hpp := powI_pos (a : Int)
        cases hb : bitB (doneTo ls k) (a : Int)
        · have hbi := Lib.hid (bitI_false hb)
          by_cases hl : lessI ((du zs)[a]?.getD 0) (doneTo ls k) = 0
          · have hok1 : stepOk zs ls k = true := by rw [Hst.out, hb, hl]; rfl
            have Hall := Lib.hid (all_snoc Hok.out hok1)
            have hor := Lib.hid (bits_or (a := doneTo ls k) (b := powI a) hsb.1 (by omega) (by omega) (by omega))
            have hbl := bits_less (a := (du zs)[a]?.getD 0) (b := doneTo ls k) hdb.1 (by omega) hsb.1 (by omega)
            rw [hl] at hbl
            clear hl hb hok1 Hst Hno
            generalize (du zs)[a]?.getD 0 = d at *
            generalize doneTo ls k = s at *
            go_wp2_with fail
            refine (inRange_any (a : Int) 0 _ w2).mono ?_
            rw [Hin.out]
            rintro e w' ⟨rfl, rfl⟩
            go_wp2_with fail
            refine (bit_any s (a : Int) w2 hsb.1 (by omega) (by omega) (by omega)).mono ?_
            rw [hbi.out]
            rintro e w' ⟨rfl, rfl⟩
            go_wp2_with fail
            refine (power_any (a : Int) w2 (by omega) (by omega)).mono ?_
            rintro e w' ⟨rfl, rfl⟩
            go_wp2_with fail
            go_round
            case rel => exact ⟨k + 1, by omega, by go_num, by rw [Hs.out, hor.out], Hall.out⟩
            case measure => simp [intOf]; omega
          · have Ht := Lib.hid (Hno.out (by rw [Hst.out, hb]; simp [hl]))
            have hbl := bits_less (a := (du zs)[a]?.getD 0) (b := doneTo ls k) hdb.1 (by omega) hsb.1 (by omega)
            have hbn : (bits .andNot .i64 ((du zs)[a]?.getD 0) (doneTo ls k) != 0) = true := by rw [hbl]; simpa using hl
            clear hl hb Hst Hno hbl
            generalize (du zs)[a]?.getD 0 = d at *
            generalize doneTo ls k = s at *
            go_wp2_with fail
            refine (inRange_any (a : Int) 0 _ w2).mono ?_
            rw [Hin.out]
            rintro e w' ⟨rfl, rfl⟩
            go_wp2_with fail
            refine (bit_any s (a : Int) w2 hsb.1 (by omega) (by omega) (by omega)).mono ?_
            rw [hbi.out]
            rintro e w' ⟨rfl, rfl⟩
            go_wp2_with fail
            go_ret
            exact ⟨ret_bool Ht.out.symm, hB2⟩
        · have Ht := Lib.hid (Hno.out (by rw [Hst.out, hb]; rfl))
          have hbi := Lib.hid (bitI_true hb)
          clear hb Hst Hno
          generalize doneTo ls k = s at *
          go_wp2_with fail
          refine (inRange_any (a : Int) 0 _ w2).mono ?_
          rw [Hin.out]
          rintro e w' ⟨rfl, rfl⟩
          go_wp2_with fail
          refine (bit_any s (a : Int) w2 hsb.1 (by omega) (by omega) (by omega)).mono ?_
          rw [hbi.out]
          rintro e w' ⟨rfl, rfl⟩
          go_wp2_with fail
          go_ret
          exact ⟨ret_bool Ht.out.symm, hB2⟩
    · obtain rfl : k = n' := by omega
      by_cases hnl : k = n
      · have Ht := Lib.hid (lineB_yes (zs := zs) hlen'.out (by rw [hlen.out]; exact hnl) Hok.out)
        have hne : ((k : Int) == (n : Int)) = true := by simp only [beq_iff_eq]; omega
        clear hnl
        go_wp2_with fail
        go_ret
        exact ⟨ret_bool Ht.out.symm, hB2⟩
      · have Ht := Lib.hid (lineB_len (zs := zs) hlen'.out (by rw [hlen.out]; exact hnl))
        have hne : ((k : Int) == (n : Int)) = false := by simp; omega
        clear hnl
        go_wp2_with fail
        go_ret
        exact ⟨ret_bool Ht.out.symm, hB2⟩

end Go.Proofs.Ytghogabmkbadjaa

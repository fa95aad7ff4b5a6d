/- OrderOf: the model's. -/
import Derived.Test.YtmlihbcffndnbaaDoorOrdOf
import Derived.StillTailTactics
set_option linter.unusedVariables false
set_option linter.unusedSimpArgs false
namespace Go.Proofs.YtmlihbcffndnbaaDoor
open Go.RowKit Go.Shelf

set_option maxRecDepth 100000 in
set_option maxHeartbeats 4000000 in
theorem specOrderOf_any (n : Int) (A : Option Addr) (m c : Nat) (rs : List (List Int)) (w : World) (h : IntsS w w.heap.size A m rs) (hm : m ≤ 1048576) (hr : ∀ r ∈ rs, r.length ≤ 1048576) :
    Calls Tryd.prog 70 #[.int .i64 n, .slice A m c] w (GivesOrder w n rs) := by
  have hlen := Lib.hid h.len
  cases hin : inB n 0 6
  · have Ho := Lib.hid (show ordOk n rs = false by simp [ordOk, hin])
    have Hin := Lib.hid hin
    clear hin
    go_enter Tryd.func70, Tryd.ntmps70
    go_wp2_with (go_at_call 44; refine (inRange_any _ _ _ _).mono ?_; rw [Hin.out]; rintro e w' ⟨rfl, rfl⟩)
    go_ret2
    exact none_order Ho.out (Below.refl _ _)
  have Hin := Lib.hid hin
  have hnn := inB_iff.1 hin
  clear hin
  obtain ⟨N, rfl⟩ := Int.eq_ofNat_of_zero_le hnn.1
  have hN : N ≤ 6 := by omega
  clear hnn
  have hmk := run_make_row' (P := Tryd.prog) 22 3 (.int .i64 0) 8 Tryd.underlying22 infoInt rfl .i64 .i64 N (by omega) (by omega)
  go_enter Tryd.func70, Tryd.ntmps70
  go_wp2_with (go_at_call 44; refine (inRange_any _ _ _ _).mono ?_; rw [Hin.out]; rintro e w' ⟨rfl, rfl⟩)
  have hA1 := Arr.new w 3 N
  have hB1 : Below w.heap.size w (w.alloc (.cells (madeCells #[.int .i64 0] N) 3)) := (Below.refl _ _).alloc (Nat.le_refl _) _
  obtain ⟨W1, hW1⟩ : ∃ W1, w.alloc (.cells (madeCells #[.int .i64 0] N) 3) = W1 := ⟨_, rfl⟩
  rw [hW1] at hA1 hB1 ⊢
  clear hW1 hmk
  go_loopw [7] (fun i wr => ∃ k : Nat, k ≤ m ∧ i = .int .i64 k ∧ (∀ r ∈ rs.take k, pairOk N r = true) ∧ Arr wr w.heap.size 3 (baseR N (rs.take k)) ∧ Below w.heap.size w wr) (fun i _ => m - (intOf i).toNat)
  case atStart => exact ⟨0, by omega, rfl, (fun r hr => by simp at hr), hA1, hB1⟩
  case round =>
    obtain ⟨k, hk, rfl, hall, hAr, hB⟩ := hrel
    by_cases hlt : k < m
    · have hkl := Lib.hid (show k < rs.length by rw [hlen.out]; exact hlt)
      obtain ⟨b, off, rfl, hb, hc⟩ := (h.below hB).at_ hlt
      obtain ⟨A', c', hcell, hI⟩ := hc k hlt
      have Hc := Lib.hid hc
      clear hc
      have Hts := Lib.hid (take_snoc hkl.out)
      have hml : (rs[k]?.getD []).length ≤ 1048576 := by
        rw [List.getElem?_eq_getElem hkl.out]
        exact hr _ (List.getElem_mem _)
      have hno := fun hp => ord_no (n := N) (rs := rs) hkl.out hp
      generalize rs[k]?.getD [] = r at *
      by_cases h2 : r.length = 2
      · have hI2 : Ints wr w.heap.size A' 2 r := by rw [h2] at hI; exact hI
        rw [h2] at hcell
        obtain ⟨b', off', rfl, hb', hc'⟩ := hI2.at_ (k := 0) (by omega)
        have hc0 := hc' 0 (by omega)
        have hc1 := hc' 1 (by omega)
        rw [Nat.add_zero] at hc0
        clear hc'
        have Hpo := Lib.hid (show pairOk N r = (inB (r[0]?.getD 0) 0 (N - 1) && inB (r[1]?.getD 0) 0 (N - 1)) by simp [pairOk, h2])
        have Hs := Lib.hid (baseR_snoc N (rs.take k) r)
        obtain ⟨hfit, -⟩ : Fit N (baseR N (rs.take k)) ∧ Sets (baseR N (rs.take k)) := (baseR_fit hall).resolve_right (by omega)
        generalize r[0]?.getD 0 = x0 at *
        generalize r[1]?.getD 0 = y0 at *
        clear h2 hml hI
        cases hx : inB x0 0 (N - 1)
        · have Hx := Lib.hid hx
          have Ho := Lib.hid (hno (by rw [Hpo.out, hx]; rfl))
          clear hx hno
          go_wp2_with (go_at_call 44; refine (inRange_any _ _ _ _).mono ?_; rw [Hx.out]; rintro e w' ⟨rfl, rfl⟩)
          go_ret2
          exact none_order Ho.out hB
        cases hy : inB y0 0 (N - 1)
        · have Hx := Lib.hid hx
          have Hy := Lib.hid hy
          have Ho := Lib.hid (hno (by rw [Hpo.out, hx, hy]; rfl))
          clear hx hy hno
          go_wp2_with (go_at_call 44; refine (inRange_any _ _ _ _).mono ?_; (first | rw [Hx.out] | rw [Hy.out]); rintro e w' ⟨rfl, rfl⟩)
          go_ret2
          exact none_order Ho.out hB
        have Hx := Lib.hid hx
        have Hy := Lib.hid hy
        have Hp := Lib.hid (show pairOk N r = true by rw [Hpo.out, hx, hy]; rfl)
        have h0 := inB_iff.1 hx
        have h1 := inB_iff.1 hy
        clear hx hy hno
        have Hall := Lib.hid (show ∀ r' ∈ rs.take k ++ [r], pairOk N r' = true from fun r' hr' => by
          rcases List.mem_append.1 hr' with h9 | h9
          · exact hall r' h9
          · rw [List.mem_singleton.1 h9]; exact Hp.out)
        obtain ⟨x, rfl⟩ := Int.eq_ofNat_of_zero_le h0.1
        obtain ⟨y, rfl⟩ := Int.eq_ofNat_of_zero_le h1.1
        have hxN : x < N := by omega
        have hyN : y < N := by omega
        clear h0 h1
        simp only [Int.toNat_natCast] at Hs
        have hcs := hAr.cell (k := x) (by rw [hfit.1]; exact hxN)
        have hfs := hAr.frozen x
        have hbd := hfit.2 x
        have hpn := powI_le6 (n := (N : Int)) (by omega)
        have hpy := powI_le6 (n := (y : Int)) (by omega)
        have hpp := powI_pos (y : Int)
        clear hfit
        generalize hD : baseR N (rs.take k) = D at *
        have HD := Lib.hid hD
        clear hD
        have hor : bits .or .i64 (D[x]?.getD 0) (powI y) = orI (D[x]?.getD 0) (powI y) := bits_or (by omega) (by omega) (by omega) (by omega)
        go_wp2_with (go_at_call 44; refine (inRange_any _ _ _ _).mono ?_; (first | rw [Hx.out] | rw [Hy.out]); rintro e w' ⟨rfl, rfl⟩)
        have hpw : ∀ W, Calls Tryd.prog 56 #[.int .i64 (y : Int)] W fun e w'' => e = .returned (.int .i64 (powI y)) ∧ w'' = W := fun W =>
          (power_any _ _ (by omega) (by omega)).mono (by rintro e w' ⟨rfl, rfl⟩; exact ⟨rfl, rfl⟩)
        obtain ⟨W2, hW2⟩ : ∃ W2, wr.drew = W2 := ⟨_, rfl⟩
        have kcell : W2.cell? ⟨b, off + k, none⟩ = some (.slice (some ⟨b', off', none⟩) 2 c') := by rw [← hW2]; exact hcell
        have kc0 : W2.cell? ⟨b', off', none⟩ = some (.int .i64 (x : Int)) := by rw [← hW2]; exact hc0
        have kc1 : W2.cell? ⟨b', off' + 1, none⟩ = some (.int .i64 (y : Int)) := by rw [← hW2]; exact hc1
        have kcs : W2.cell? ⟨w.heap.size, x, none⟩ = some (.int .i64 (D[x]?.getD 0)) := by rw [← hW2]; exact hcs
        have kfs : W2.frozen? ⟨w.heap.size, x, none⟩ = false := by rw [← hW2]; exact hfs
        have kAr : Arr W2 w.heap.size 3 D := by rw [← hW2]; exact hAr
        have kB : Below w.heap.size w W2 := by rw [← hW2]; exact hB.drew
        refine wp_region_still_tail 25 (by kernel_rfl) (by kernel_rfl) ?_
        simp only [List.take_succ_cons, List.take_zero, List.drop_succ_cons, List.drop_zero]
        change wpStill _ _ wr.drew (fun a' => wpList _ _ _ _ a' wr.drew) _ _
        rw [hW2]
        clear hW2 hcell hc0 hc1 hcs hfs hAr hB
        repeat (first | still_step | still_call (hpw _))
        refine wpStill_nil ?_
        go_wp2
        go_roundw
        case rel => exact ⟨k + 1, by omega, by go_num, by rw [← Hts.out]; exact Hall.out, by rw [← Hts.out, Hs.out]; exact kAr.set _ _, kB.setCell (p := ⟨w.heap.size, x, none⟩) (Nat.le_refl _) _⟩
        case measure => simp [intOf]; omega
      · have Ho := Lib.hid (hno (by simp [pairOk, h2]))
        have hmi : ((r.length : Int) != 2) = true := by simp; omega
        clear hno
        generalize r.length = q at *
        go_wp2
        go_ret2
        exact none_order Ho.out hB
    · obtain rfl : k = m := by omega
      have htk : rs.take k = rs := List.take_of_length_le (by rw [hlen.out]; exact Nat.le_refl _)
      rw [htk] at hall hAr
      obtain ⟨hfit, -⟩ : Fit N (baseR N rs) ∧ Sets (baseR N rs) := (baseR_fit hall).resolve_right (by omega)
      have Hok := Lib.hid (show ordOk N rs = vo (closR N rs) by
        rw [ordOk, show rs.all (pairOk N) = true from List.all_eq_true.2 hall, Hin.out]; simp)
      have zB := hB.size
      clear hlen h hm
      go_wp2
      go_loopw [8] (fun i wr => ∃ a : Nat, a ≤ N ∧ i = .int .i64 a ∧ Arr wr w.heap.size 3 (folTo N (baseR N rs) a) ∧ Below w.heap.size w wr) (fun i _ => N - (intOf i).toNat)
      case atStart => exact ⟨0, by omega, rfl, hAr, hB⟩
      case round =>
        clear hAr hB zB
        obtain ⟨a, ha, rfl, hAr, hB⟩ := hrel
        by_cases hak : a < N
        · have hF := folTo_fit hfit a
          generalize hD0 : folTo N (baseR N rs) a = d0 at *
          have HD0 := Lib.hid hD0
          clear hD0
          go_wp2
          go_loopw [9] (fun i wr => ∃ l : Nat, l ≤ N ∧ i = .int .i64 l ∧ Arr wr w.heap.size 3 (folIn a d0 l) ∧ Below w.heap.size w wr) (fun i _ => N - (intOf i).toNat)
          case atStart => exact ⟨0, by omega, rfl, hAr, hB⟩
          case round =>
            clear hAr hB
            obtain ⟨l, hl, rfl, hAr, hB⟩ := hrel
            by_cases hlk : l < N
            · have hFi := folIn_fit (m := a) hF l
              have Hs := Lib.hid (folIn_succ a d0 l)
              generalize hD : folIn a d0 l = D at *
              have HD := Lib.hid hD
              clear hD
              have hpn := powI_le6 (n := (N : Int)) (by omega)
              have hl1 := hFi.2 l
              have ha1 := hFi.2 a
              have hcl := hAr.cell (k := l) (by rw [hFi.1]; exact hlk)
              have hca := hAr.cell (k := a) (by rw [hFi.1]; exact hak)
              have hfl := hAr.frozen l
              clear hFi
              cases hbit : bitB (D[l]?.getD 0) a
              · have Hb := Lib.hid hbit
                have hbi : (bitI (D[l]?.getD 0) a == 1) = false := by rw [bitI_one, hbit]
                clear hbit
                go_wp2_with (go_at_call 47; refine (bit_any _ _ _ (by omega) (by omega) (by omega) (by omega)).mono ?_; rintro e w' ⟨rfl, rfl⟩)
                go_roundw
                case rel => exact ⟨l + 1, by omega, by go_num, by rw [Hs.out, fol1, Hb.out]; exact hAr, hB⟩
                case measure => simp [intOf]; omega
              · have Hb := Lib.hid hbit
                have hbi : (bitI (D[l]?.getD 0) a == 1) = true := by rw [bitI_one, hbit]
                clear hbit
                have hor : bits .or .i64 (D[l]?.getD 0) (D[a]?.getD 0) = orI (D[l]?.getD 0) (D[a]?.getD 0) := bits_or (by omega) (by omega) (by omega) (by omega)
                go_wp2_with (go_at_call 47; refine (bit_any _ _ _ (by omega) (by omega) (by omega) (by omega)).mono ?_; rintro e w' ⟨rfl, rfl⟩)
                go_region
                all_goals
                  go_wp2
                  go_roundw
                  case rel => exact ⟨l + 1, by omega, by go_num, by rw [Hs.out, fol1, Hb.out]; exact hAr.set _ _, (hB.setCell (p := ⟨w.heap.size, l, none⟩) (Nat.le_refl _) _).drew⟩
                  case measure => simp [intOf]; omega
            · obtain rfl : l = N := by omega
              have Hs := Lib.hid (folTo_succ l (baseR l rs) a)
              go_wp2
              go_roundw
              case rel => exact ⟨a + 1, by omega, by go_num, by rw [Hs.out, HD0.out]; exact hAr, hB⟩
              case measure => simp [intOf]; omega
        · obtain rfl : a = N := by omega
          have Hf := Lib.hid (folTo_fit hfit a)
          have hl2 := hAr.lt
          go_wp2_with fail
          refine (validOrder_any _ _ _ _ _ _ (hAr.ints' hAr.lt Hf.out.1) (by omega)).mono ?_
          rintro e w3 ⟨rfl, mm, hmm⟩
          have hA3 : Arr w3 w.heap.size 3 (folTo a (baseR a rs) a) := by rw [hmm]; exact hAr
          have hB3 : Below w.heap.size w w3 := by rw [hmm]; exact below_drewN hB _
          clear hmm hAr hB
          cases hvo : vo (closR a rs)
          · have Ho := Lib.hid (show ordOk a rs = false by rw [Hok.out]; exact hvo)
            have Hv := Lib.hid (show vo (folTo a (baseR a rs) a) = false from hvo)
            clear hvo
            rw [Hv.out]
            go_wp2
            go_ret2
            exact none_order Ho.out hB3
          · have Ho := Lib.hid (show ordOk a rs = true by rw [Hok.out]; exact hvo)
            have Hv := Lib.hid (show vo (folTo a (baseR a rs) a) = true from hvo)
            clear hvo
            rw [Hv.out]
            go_wp2
            go_ret2
            exact ⟨_, a, a, by rw [Ho.out]; rfl, by rw [ordL, Ho.out]; exact Row.of hA3 Hf.out.1 (Nat.le_refl _) hA3.lt, hB3⟩
end Go.Proofs.YtmlihbcffndnbaaDoor

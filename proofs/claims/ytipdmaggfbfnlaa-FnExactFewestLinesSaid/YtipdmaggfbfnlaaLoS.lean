/- LinesOrder: the model's. -/
import Derived.Test.YtipdmaggfbfnlaaGb
import Derived.Test.YtipdmaggfbfnlaaAtSp
import Derived.Test.YtipdmaggfbfnlaaIsLineS
import Derived.Test.YtipdmaggfbfnlaaGa
set_option linter.unusedVariables false
set_option linter.unusedSimpArgs false
namespace Go.Proofs.Ytipdmaggfbfnlaa
open Go.RowKit Go.Shelf
attribute [local go_sem] Oper.semAt_some

theorem behB_nil (a b : Nat) : behB [] a b = !(a == b) := by simp [behB]
theorem behB_next {rs : List (List Int)} {i : Nat} (hi : i < rs.length) (a b : Nat) : behB (rs.take (i + 1)) a b = (behB (rs.take i) a b && decide (atI (rs[i]?.getD []) a < atI (rs[i]?.getD []) b)) := by
  rw [List.take_succ_eq_append_getElem hi, List.getElem?_eq_getElem hi, Option.getD_some]
  unfold behB
  rw [List.all_append]
  cases (a == b) <;> simp
theorem quiet_zero {P : Program} {f : FuncId} {args : Array Value} {w : World} {n : Nat} {v : Value}
    (h : Calls P f args (w.drewN n) fun e w' => e = .returned v ∧ w.drewN n = w') :
    Calls P f args (w.drewN n) fun e w'' => e = .returned v ∧ ∃ m, w'' = w.drewN m :=
  h.mono fun _ _ ⟨he, hm⟩ => ⟨he, n, hm.symm⟩
/-- The model's order under way: the rows ahead of a are done, that of a as far as b. -/
def meA (n : Nat) (rs : List (List Int)) (a b : Nat) : List Int := (List.range n).map fun i => if i < a then setP (behB rs i) n else if i = a then setP (behB rs a) b else 0
theorem meA_len (n : Nat) (rs : List (List Int)) (a b : Nat) : (meA n rs a b).length = n := by simp [meA]
theorem meA_zero (n : Nat) (rs : List (List Int)) : meA n rs 0 0 = List.replicate n 0 := by
  refine List.ext_getElem? fun i => ?_
  by_cases hi : i < n
  · simp only [meA, List.getElem?_map, List.getElem?_range hi, Option.map_some, List.getElem?_replicate, if_pos hi]
    by_cases h0 : i = 0 <;> simp [h0, setP]
  · rw [List.getElem?_eq_none (by rw [meA_len]; omega), List.getElem?_eq_none (by simp; omega)]
theorem meA_row (n : Nat) (rs : List (List Int)) (a : Nat) : meA n rs a n = meA n rs (a + 1) 0 := by
  unfold meA
  refine List.map_congr_left fun i hi => ?_
  by_cases h1 : i < a
  · rw [if_pos h1, if_pos (by omega)]
  · by_cases h2 : i = a
    · subst h2; rw [if_neg h1, if_pos rfl, if_pos (by omega)]
    · rw [if_neg h1, if_neg h2, if_neg (by omega)]
      split
      · simp [setP]
      · rfl
theorem meA_all (n : Nat) (rs : List (List Int)) : meA n rs n 0 = meL n rs := by
  unfold meA meL
  refine List.map_congr_left fun i hi => ?_
  rw [if_pos (List.mem_range.1 hi)]
theorem meA_get {n : Nat} (rs : List (List Int)) {a : Nat} (ha : a < n) (b : Nat) : (meA n rs a b)[a]?.getD 0 = setP (behB rs a) b := by
  simp [meA, List.getElem?_range, ha]
theorem meA_yes {n : Nat} {rs : List (List Int)} {a b : Nat} (ha : a < n) (h : behB rs a b = true) : (meA n rs a b).set a (orI ((meA n rs a b)[a]?.getD 0) (powI b)) = meA n rs a (b + 1) := by
  rw [meA_get rs ha]
  refine List.ext_getElem? fun i => ?_
  by_cases hi : i < n
  · rw [List.getElem?_set]
    by_cases hai : a = i
    · subst hai
      rw [if_pos rfl, if_pos (by rw [meA_len]; omega)]
      simp [meA, List.getElem?_range, ha, setP, h]
    · rw [if_neg hai]
      simp only [meA, List.getElem?_map, List.getElem?_range hi, Option.map_some]
      rw [if_neg (show ¬ i = a from fun e => hai e.symm)]
      rw [if_neg (show ¬ i = a from fun e => hai e.symm)]
  · rw [List.getElem?_eq_none (by rw [List.length_set, meA_len]; omega), List.getElem?_eq_none (by rw [meA_len]; omega)]
theorem meA_no {n : Nat} {rs : List (List Int)} {a b : Nat} (h : behB rs a b = false) : meA n rs a (b + 1) = meA n rs a b := by
  unfold meA
  refine List.map_congr_left fun i hi => ?_
  have : setP (behB rs a) (b + 1) = setP (behB rs a) b := by simp [setP, h]
  rw [this]

set_option maxRecDepth 100000 in
set_option maxHeartbeats 4000000 in
theorem meetLines_any (n : Nat) (A : Option Addr) (m c : Nat) (rs : List (List Int)) (w : World) (h : IntsS w w.heap.size A m rs) (hn6 : n ≤ 6) (hm : m ≤ 1048576) (hr : ∀ r ∈ rs, r.length ≤ 1048576) :
    Calls Try.prog 82 #[.int .i64 (n : Int), .slice A m c] w fun e w' => e = .returned (.slice (some ⟨w.heap.size, 0, none⟩) n n) ∧ Arr w' w.heap.size 3 (meL n rs) ∧ Below w.heap.size w w' := by
  have hlen := Lib.hid h.len
  have hmk := run_make_row' (P := Try.prog) 22 3 (.int .i64 0) 8 Try.underlying22 infoInt rfl .i64 .i64 n (by omega) (by omega)
  go_enter Try.func82, Try.ntmps82
  go_wp2
  have hA1 := Arr.new w 3 n
  have hB1 : Below w.heap.size w (w.alloc (.cells (madeCells #[.int .i64 0] n) 3)) := (Below.refl _ _).alloc (Nat.le_refl _) _
  rw [← meA_zero n rs] at hA1
  obtain ⟨W1, hW1⟩ : ∃ W1, w.alloc (.cells (madeCells #[.int .i64 0] n) 3) = W1 := ⟨_, rfl⟩
  rw [hW1] at hA1 hB1 ⊢
  clear hW1 hmk
  go_loopw [6] (fun i wr => ∃ a : Nat, a ≤ n ∧ i = .int .i64 a ∧ Arr wr w.heap.size 3 (meA n rs a 0) ∧ Below w.heap.size w wr) (fun i _ => n - (intOf i).toNat)
  case atStart => exact ⟨0, by omega, rfl, hA1, hB1⟩
  case round =>
    clear hA1 hB1
    obtain ⟨a, ha, rfl, hAr, hB⟩ := hrel
    by_cases hak : a < n
    · go_wp2
      go_loopw [7] (fun i wr => ∃ b : Nat, b ≤ n ∧ i = .int .i64 b ∧ Arr wr w.heap.size 3 (meA n rs a b) ∧ Below w.heap.size w wr) (fun i _ => n - (intOf i).toNat)
      case atStart => exact ⟨0, by omega, rfl, hAr, hB⟩
      case round =>
        clear hAr hB
        obtain ⟨b, hb, rfl, hAr, hB⟩ := hrel
        by_cases hbk : b < n
        · rename World => wb
          go_wp2
          go_loopw [8, 9] (fun v i wr => ∃ k q : Nat, k ≤ m ∧ i = .int .i64 k ∧ v = .bool (behB (rs.take k) a b) ∧ wr = wb.drewN q) (fun _ i _ => m - (intOf i).toNat)
          case atStart => exact ⟨0, 0, by omega, rfl, by rw [List.take_zero, behB_nil]; congr 1; rw [Bool.eq_iff_iff]; simp; omega, rfl⟩
          case round =>
            obtain ⟨k, q, hk, rfl, rfl, rfl⟩ := hrel
            by_cases hlt : k < m
            · have hkl := Lib.hid (show k < rs.length by rw [hlen.out]; exact hlt)
              obtain ⟨b0, off, rfl, hb0, hc⟩ := ((h.below hB).drewN q).at_ hlt
              obtain ⟨A', c', hcell, hI⟩ := hc k hlt
              clear hc
              have Hs := Lib.hid (behB_next hkl.out a b)
              have hml : (rs[k]?.getD []).length ≤ 1048576 := by
                rw [List.getElem?_eq_getElem hkl.out]
                exact hr _ (List.getElem_mem _)
              cases hp : behB (rs.take k) a b
              · have Hn := Lib.hid (show behB (rs.take (k + 1)) a b = false by rw [Hs.out, hp]; rfl)
                clear hp Hs
                generalize rs[k]?.getD [] = r at *
                go_wp2
                go_quiet (fail)
                go_wp2
                go_roundw
                case rel => exact ⟨k + 1, _, by omega, by go_num, by rw [Hn.out], by first | rfl | exact World.drewN_drewN ..⟩
                case measure => simp [intOf]; omega
              · have Hn := Lib.hid (show behB (rs.take (k + 1)) a b = decide (atI (rs[k]?.getD []) a < atI (rs[k]?.getD []) b) by rw [Hs.out, hp, Bool.true_and])
                clear hp Hs
                generalize rs[k]?.getD [] = r at *
                obtain ⟨Wq, hWq⟩ : ∃ Wq, wb.drewN q = Wq := ⟨_, rfl⟩
                rw [hWq] at hcell hI ⊢
                have HW := Lib.hid hWq
                clear hWq
                have hax : ∀ nq, Calls Try.prog 68 #[.slice A' r.length c', .int .i64 (a : Int)] (Wq.drewN nq) fun e w'' => e = .returned (.int .i64 (atI r (a : Int))) ∧ ∃ m, w'' = Wq.drewN m := fun nq => quiet_zero ((at_any A' r.length c' w.heap.size r (a : Int) (Wq.drewN nq) (hI.drewN nq) (by omega)).mono fun e w' h => ⟨h.1, h.2.symm⟩)
                have hbx : ∀ nq, Calls Try.prog 68 #[.slice A' r.length c', .int .i64 (b : Int)] (Wq.drewN nq) fun e w'' => e = .returned (.int .i64 (atI r (b : Int))) ∧ ∃ m, w'' = Wq.drewN m := fun nq => quiet_zero ((at_any A' r.length c' w.heap.size r (b : Int) (Wq.drewN nq) (hI.drewN nq) (by omega)).mono fun e w' h => ⟨h.1, h.2.symm⟩)
                have Hax := Lib.hid hax
                have Hbx := Lib.hid hbx
                clear hax hbx
                generalize atI r (a : Int) = x at *
                generalize atI r (b : Int) = y at *
                go_wp2
                go_quiet ((go_at_call 68; first | with_reducible exact Hax.out _ | with_reducible exact Hbx.out _))
                go_wp2
                go_roundw
                case rel => exact ⟨k + 1, _, by omega, by go_num, by rw [Hn.out], by rw [← HW.out]; exact World.drewN_drewN ..⟩
                case measure => simp [intOf]; omega
            · obtain rfl : k = m := by omega
              have htk : rs.take k = rs := List.take_of_length_le (by rw [hlen.out]; exact Nat.le_refl _)
              rw [htk]
              clear htk
              have hArq := hAr.drewN q
              have hBq : Below w.heap.size w (wb.drewN q) := below_drewN hB q
              obtain ⟨W2, hW2⟩ : ∃ W2, wb.drewN q = W2 := ⟨_, rfl⟩
              rw [hW2] at hArq hBq ⊢
              clear hW2 hAr hB
              cases hp : behB rs a b
              · have Hn := Lib.hid (meA_no (n := n) hp)
                clear hp
                go_wp2
                go_roundw
                case rel => exact ⟨b + 1, by omega, by go_num, by rw [Hn.out]; exact hArq, hBq⟩
                case measure => simp [intOf]; omega
              · have Hn := Lib.hid (meA_yes hak hp)
                clear hp
                have hcs := hArq.cell (k := a) (by rw [meA_len]; exact hak)
                have hfs := hArq.frozen a
                have hbd := setP_bd (behB rs a) b
                rw [← meA_get rs hak] at hbd
                generalize hD : meA n rs a b = D at *
                have HD := Lib.hid hD
                clear hD
                have hpb := powI_le6 (n := (b : Int)) (by omega)
                have hpp := powI_pos (b : Int)
                have hor : bits .or .i64 (D[a]?.getD 0) (powI b) = orI (D[a]?.getD 0) (powI b) := bits_or (by omega) (by omega) (by omega) (by omega)
                go_wp2
                go_region_with ((go_at_call 96; refine (power_any _ _ (by omega) (by omega)).mono ?_; rintro e w' ⟨rfl, rfl⟩))
                all_goals
                  go_wp2
                  go_roundw
                  case rel => exact ⟨b + 1, by omega, by go_num, by rw [← Hn.out]; exact hArq.set _ _, (hBq.setCell (p := ⟨w.heap.size, a, none⟩) (Nat.le_refl _) _).drew⟩
                  case measure => simp [intOf]; omega
        · obtain rfl : b = n := by omega
          have Hn := Lib.hid (meA_row b rs a)
          go_wp2
          go_roundw
          case rel => exact ⟨a + 1, by omega, by go_num, by rw [← Hn.out]; exact hAr, hB⟩
          case measure => simp [intOf]; omega
    · obtain rfl : a = n := by omega
      have Hn := Lib.hid (meA_all a rs)
      go_wp2
      go_ret
      exact ⟨rfl, by rw [← Hn.out]; exact hAr, hB⟩
end Go.Proofs.Ytipdmaggfbfnlaa

/- CountLines: the model's. -/
import Derived.Test.YtghogabmkbadjabGb
import Derived.Test.YtghogabmkbadjabGa
import Derived.StillTailTactics
import Derived.Deep.QuietTactic
import Derived.BigQuiet
set_option linter.unusedVariables false
set_option linter.unusedSimpArgs false
namespace Go.Proofs.Ytghogabmkbadjab
open Go.RowKit Go.Shelf

theorem wrap_small (x : Int) (h0 : 0 ≤ x) (h1 : x < 1000000) : IntKind.i64.wrap x = x := by rw [IntKind.wrap_i64]; omega

set_option maxHeartbeats 1000000 in
theorem isBelowAny_any (A : Option Addr) (n c B : Nat) (zs : List Int) (hvo : VoP zs) (hlen0 : zs.length = n) (s a : Nat) (w : World) (h : Ints w B A n (du zs)) (hs : s < 64) (ha : a < 6) :
    Calls Try.prog 154 #[.slice A n c, .int .i64 (s : Int), .int .i64 (a : Int)] w fun e w' => e = .returned (.bool (belowAny zs s a)) ∧ w = w' := by
  have hlen := Lib.hid hlen0
  have hn6 : n ≤ 6 := by have := hvo.1; rw [hlen0] at this; exact this
  have hds := du_sets hvo.sets
  have Hdl := Lib.hid (show (du zs).length = n by rw [du_len, hlen0])
  clear hlen0
  go_enter Try.func154, Try.ntmps154
  go_wp2
  go_loop [7] (fun i => ∃ k : Nat, k ≤ n ∧ i = .int .i64 k ∧ ∀ b, b < k → (s.testBit b && bitB ((du zs)[b]?.getD 0) a) = false) (fun i => n - (intOf i).toNat)
  case atStart => exact ⟨0, by omega, rfl, fun b hb => by omega⟩
  case round =>
    obtain ⟨k, hk, rfl, hok⟩ := hrel
    have Hok := Lib.hid hok
    clear hok
    by_cases hlt : k < n
    · obtain ⟨b3, off3, rfl, hb3, hc3⟩ := h.at_ hlt
      have hck := hc3 k hlt
      have hdb := hds.bd k (by rw [Hdl.out]; exact hlt)
      clear hc3
      have Hb1 := Lib.hid (bit_cast s k)
      cases h1 : s.testBit k
      · have Hn := Lib.hid (all_snoc Hok.out (show (s.testBit k && bitB ((du zs)[k]?.getD 0) a) = false by rw [h1]; rfl))
        have hbi := Lib.hid (bitI_false (s := (s : Int)) (j := (k : Int)) (by rw [bit_cast, h1]))
        clear h1
        go_wp2_with fail
        refine (bit_any (s : Int) (k : Int) w (by omega) (by omega) (by omega) (by omega)).mono ?_
        rw [hbi.out]
        rintro e w' ⟨rfl, rfl⟩
        go_wp2_with fail
        go_round
        case rel => exact ⟨k + 1, by omega, by go_num, Hn.out⟩
        case measure => simp [intOf]; omega
      · have hbi := Lib.hid (bitI_true (s := (s : Int)) (j := (k : Int)) (by rw [bit_cast, h1]))
        cases h2 : bitB ((du zs)[k]?.getD 0) a
        · have Hn := Lib.hid (all_snoc Hok.out (show (s.testBit k && bitB ((du zs)[k]?.getD 0) a) = false by rw [h2]; simp))
          have hbj := Lib.hid (bitI_false h2)
          clear h1 h2
          generalize (du zs)[k]?.getD 0 = d at *
          go_wp2_with fail
          refine (bit_any (s : Int) (k : Int) w (by omega) (by omega) (by omega) (by omega)).mono ?_
          rw [hbi.out]
          rintro e w' ⟨rfl, rfl⟩
          go_wp2_with fail
          refine (bit_any d (a : Int) w hdb.1 (by omega) (by omega) (by omega)).mono ?_
          rw [hbj.out]
          rintro e w' ⟨rfl, rfl⟩
          go_wp2_with fail
          go_round
          case rel => exact ⟨k + 1, by omega, by go_num, Hn.out⟩
          case measure => simp [intOf]; omega
        · have Ht := Lib.hid (show belowAny zs s a = true by
            unfold belowAny
            rw [List.any_eq_true]
            exact ⟨k, List.mem_range.2 (by rw [hlen.out]; exact hlt), by rw [h1, h2]; rfl⟩)
          have hbj := Lib.hid (bitI_true h2)
          clear h1 h2
          generalize (du zs)[k]?.getD 0 = d at *
          go_wp2_with fail
          refine (bit_any (s : Int) (k : Int) w (by omega) (by omega) (by omega) (by omega)).mono ?_
          rw [hbi.out]
          rintro e w' ⟨rfl, rfl⟩
          go_wp2_with fail
          refine (bit_any d (a : Int) w hdb.1 (by omega) (by omega) (by omega)).mono ?_
          rw [hbj.out]
          rintro e w' ⟨rfl, rfl⟩
          go_wp2_with fail
          go_ret
          exact ⟨ret_bool Ht.out.symm, rfl⟩
    · obtain rfl : k = n := by omega
      have Ht := Lib.hid (show belowAny zs s a = false by
        unfold belowAny
        rw [List.any_eq_false]
        intro b hb
        rw [Hok.out b (by rw [← hlen.out]; exact List.mem_range.1 hb)]
        simp)
      go_wp2
      go_ret
      exact ⟨ret_bool Ht.out.symm, rfl⟩

set_option maxRecDepth 100000 in
set_option maxHeartbeats 4000000 in
theorem linesFrom_any (A : Option Addr) (n c B : Nat) (zs : List Int) (hvo : VoP zs) (hlen0 : zs.length = n) (w : World) (h : Ints w B A n (du zs)) (hB : B ≤ w.heap.size) :
    Calls Try.prog 124 #[.slice A n c] w fun e w' => e = .returned (.slice (some ⟨w.heap.size, 0, none⟩) (2 ^ n) (2 ^ n)) ∧ Arr w' w.heap.size 3 (tab zs (2 ^ n) 0) ∧ Below w.heap.size w w' := by
  have hlen := Lib.hid hlen0
  have hn6 : n ≤ 6 := by have := hvo.1; rw [hlen0] at this; exact this
  have hds := du_sets hvo.sets
  have Hdl := Lib.hid (show (du zs).length = n by rw [du_len, hlen0])
  have HP := Lib.hid (show powI n = ((2 ^ n : Nat) : Int) by simp [powI])
  have hN64 := pow_le64 hn6
  have hN1 := Nat.two_pow_pos n
  have Hst := Lib.hid (tab_start zs)
  have Hnx := Lib.hid (tab_next zs)
  have Htl := Lib.hid (tab_len zs)
  have Htg := Lib.hid (fun (s p i : Nat) (hi : i < 2 ^ zs.length) => tab_get (zs := zs) (s := s) (p := p) hi)
  have Hle := Lib.hid (fun (s : Nat) (hs : s < 2 ^ zs.length) => cG_le hvo hs)
  have Hpb := Lib.hid (fun (s a : Nat) (h0 : s ≠ 0) (hs : s < 2 ^ zs.length) (ha : a ≤ zs.length) => pg_bd hvo (s := s) (a := a) h0 hs ha)
  have Hpa := Lib.hid (fun (s : Nat) (h0 : s ≠ 0) => pg_all (zs := zs) h0)
  rw [hlen0] at Hst Htl Htg Hle Hpb Hpa
  clear hlen0
  obtain ⟨N, hN⟩ : ∃ N, 2 ^ n = N := ⟨_, rfl⟩
  rw [hN] at HP hN64 hN1 Hst Htl Htg Hle Hpb ⊢
  clear hN
  have hpwN : ∀ w, Calls Try.prog 96 #[.int .i64 (n : Int)] w fun e w' => e = .returned (.int .i64 (N : Int)) ∧ w = w' := fun w => by
    rw [← HP.out]; exact power_any _ _ (by omega) (by omega)
  have hmk := run_make_row' (P := Try.prog) 22 3 (.int .i64 0) 8 Try.underlying22 infoInt rfl .i64 .i64 N (by omega) (by omega)
  go_enter Try.func124, Try.ntmps124
  go_wp2_with fail
  refine (hpwN _).mono ?_
  rintro e w' ⟨rfl, rfl⟩
  have hA1 := Arr.new w 3 N
  have hB1 : Below w.heap.size w (w.alloc (.cells (madeCells #[.int .i64 0] N) 3)) := (Below.refl w.heap.size w).alloc (Nat.le_refl _) _
  have hc0 := hA1.cell (k := 0) (by simp; omega)
  have hf0 := hA1.frozen 0
  have hE : (madeCells #[Value.int .i64 0] N).setIfInBounds 0 (.int .i64 1) = ((tab zs 1 0).map (Value.int .i64)).toArray := by
    have e1 := (heap_alloc_new w (.cells (madeCells #[Value.int .i64 0] N) 3)).symm.trans hA1
    have e2 : madeCells #[Value.int .i64 0] N = ((List.replicate N (0 : Int)).map (Value.int .i64)).toArray := by
      injection e1 with e1
      injection e1
    rw [e2, ← Hst.out, List.map_set]
    simp only [List.setIfInBounds_toArray]
  have hA2 : Arr (w.alloc (.cells ((madeCells #[Value.int .i64 0] N).setIfInBounds 0 (.int .i64 1)) 3)) w.heap.size 3 (tab zs 1 0) := by
    unfold Arr
    rw [heap_alloc_new, hE]
  have hB2 : Below w.heap.size w (w.alloc (.cells ((madeCells #[Value.int .i64 0] N).setIfInBounds 0 (.int .i64 1)) 3)) := (Below.refl w.heap.size w).alloc (Nat.le_refl _) _
  have hi0 : (0 : Int) < (N : Int) := by omega
  clear hB1 hA1 hE
  go_wp2_with fail
  go_loopw [5] (fun i wr => ∃ s : Nat, 1 ≤ s ∧ s ≤ N ∧ i = .int .i64 s ∧ Arr wr w.heap.size 3 (tab zs s 0) ∧ Below w.heap.size w wr) (fun i _ => N - (intOf i).toNat)
  case atStart => exact ⟨1, by omega, by omega, rfl, hA2, hB2⟩
  case round =>
    obtain ⟨s, hs1, hsN, rfl, hAr, hBr⟩ := hrel
    by_cases hsl : s < N
    · go_wp2_with fail
      refine (hpwN _).mono ?_
      rintro e w' ⟨rfl, rfl⟩
      go_wp2_with fail
      go_loopw [6] (fun i wr => ∃ a : Nat, a ≤ n ∧ i = .int .i64 a ∧ Arr wr w.heap.size 3 (tab zs s (pg zs s a)) ∧ Below w.heap.size w wr) (fun i _ => n - (intOf i).toNat)
      case atStart => exact ⟨0, by omega, rfl, hAr, hBr⟩
      case round =>
        clear hAr hBr
        obtain ⟨a, ha, rfl, hAr, hBr⟩ := hrel
        by_cases han : a < n
        · have hD := h.to hBr hB (Nat.le_refl B)
          obtain ⟨b3, off3, rfl, hb3, hc3⟩ := hD.at_ han
          have hdk := hc3 a han
          have hdb := hds.bd a (by rw [Hdl.out]; exact han)
          have Hps := Lib.hid (pg_succ zs s a)
          clear hc3
          cases h1 : s.testBit a
          · have hbi := Lib.hid (bitI_false (s := (s : Int)) (j := (a : Int)) (by rw [bit_cast, h1]))
            have He := Lib.hid (show pg zs s (a + 1) = pg zs s a by rw [Hps.out]; unfold eG; rw [h1]; simp)
            clear h1 hD
            go_wp2_with fail
            refine (bit_any (s : Int) (a : Int) _ (by omega) (by omega) (by omega) (by omega)).mono ?_
            rw [hbi.out]
            rintro e w' ⟨rfl, rfl⟩
            go_wp2_with fail
            go_roundw
            case rel => exact ⟨a + 1, by omega, by go_num, by rw [He.out]; exact hAr, hBr⟩
            case measure => simp [intOf]; omega
          · have hbi := Lib.hid (bitI_true (s := (s : Int)) (j := (a : Int)) (by rw [bit_cast, h1]))
            have hbl := bits_less (a := (du zs)[a]?.getD 0) (b := (s : Int)) hdb.1 (by omega) (by omega) (by omega)
            by_cases h2 : lessI ((du zs)[a]?.getD 0) (s : Int) = 0
            · rw [h2] at hbl
              cases h3 : belowAny zs s a
              · have hsa : s ≠ 0 := by omega
                have hge := ge_bit_fin ⟨s, by omega⟩ ⟨a, by omega⟩ h1
                simp only at hge
                have hpp := Nat.two_pow_pos a
                obtain ⟨x, hx⟩ : ∃ x, s - 2 ^ a = x := ⟨_, rfl⟩
                have He := Lib.hid (show pg zs s (a + 1) = pg zs s a + cG zs x by rw [Hps.out, ← hx]; unfold eG; rw [h1, h2, h3]; rfl)
                have hpx : powI (a : Int) = ((2 ^ a : Nat) : Int) := by simp [powI]
                have hxs : (s : Int) - powI (a : Int) = (x : Int) := by omega
                have hxl : x < s := by omega
                have hp1 := powI_pos (a : Int)
                have hcx := hAr.cell (k := x) (by rw [Htl.out]; omega)
                have hcs := hAr.cell (k := s) (by rw [Htl.out]; omega)
                rw [Htg.out _ _ _ (by omega), if_pos hxl] at hcx
                rw [Htg.out _ _ _ hsl, if_neg (by omega), if_pos rfl] at hcs
                have hfs := hAr.frozen s
                have hb1 := Hle.out x (by omega)
                have hb2 := Hpb.out s a hsa hsl ha
                have hcb := isBelowAny_any (some ⟨b3, off3, none⟩) n c B zs hvo hlen.out s a wr hD (by omega) (by omega)
                rw [h3] at hcb
                have hpw : ∀ w, Calls Try.prog 96 #[.int .i64 (a : Int)] w fun e w' => e = .returned (.int .i64 (powI a)) ∧ w' = w := fun w => (power_any _ _ (by omega) (by omega)).mono fun _ _ ⟨h1, h2⟩ => ⟨h1, h2.symm⟩
                have Hts := Lib.hid (show (tab zs s (pg zs s a)).set s ((pg zs s a : Int) + (cG zs x : Int)) = tab zs s (pg zs s a + cG zs x) by rw [← Int.natCast_add]; exact tab_set)
                clear h1 h2 h3 hD hx hpx hge
                generalize (du zs)[a]?.getD 0 = d at *
                generalize powI (a : Int) = P at *
                generalize cG zs x = g at *
                generalize pg zs s a = q at *
                generalize tab zs s q = T at *
                have hwx : (0 : Int) ≤ (x : Int) := by omega
                have hxN : (x : Int) < (N : Int) := by omega
                have hsN' : (s : Int) < (N : Int) := by omega
                go_wp2_with fail
                refine (bit_any (s : Int) (a : Int) _ (by omega) (by omega) (by omega) (by omega)).mono ?_
                rw [hbi.out]
                rintro e w' ⟨rfl, rfl⟩
                go_wp2_with fail
                refine hcb.mono ?_
                rintro e w' ⟨rfl, rfl⟩
                go_wp2_with fail
                obtain ⟨W2, hW2⟩ : ∃ W2, wr.drew = W2 := ⟨_, rfl⟩
                have kcx : W2.cell? ⟨w.heap.size, x, none⟩ = some (.int .i64 (g : Int)) := by rw [← hW2]; exact hcx
                have kcs : W2.cell? ⟨w.heap.size, s, none⟩ = some (.int .i64 (q : Int)) := by rw [← hW2]; exact hcs
                have kfs : W2.frozen? ⟨w.heap.size, s, none⟩ = false := by rw [← hW2]; exact hfs
                have kAr : Arr W2 w.heap.size 3 T := by rw [← hW2]; exact hAr
                have kB : Below w.heap.size w W2 := by rw [← hW2]; exact hBr.drew
                refine wp_region_still_tail 15 (by kernel_rfl) (by kernel_rfl) ?_
                simp only [List.take_succ_cons, List.take_zero, List.drop_succ_cons, List.drop_zero]
                change wpStill _ _ wr.drew (fun a' => wpList _ _ _ _ a' wr.drew) _ _
                rw [hW2]
                clear hW2 hcx hcs hfs hAr hBr hcb hdk
                have hw1 : IntKind.i64.wrap (x : Int) = (x : Int) := wrap_small _ (by omega) (by omega)
                have hw3 : IntKind.i64.wrap ((s : Int) - P) = (x : Int) := by rw [hxs]; exact hw1
                have hw4 : IntKind.i64.wrap ((q : Int) + (g : Int)) = (q : Int) + (g : Int) := wrap_small _ (by omega) (by omega)
                repeat (first | still_step | still_call (hpw _))
                refine wpStill_nil ?_
                go_wp2
                go_roundw
                case rel => exact ⟨a + 1, by omega, by go_num, by rw [He.out, ← Hts.out]; exact kAr.set s _, kB.setCell (p := ⟨w.heap.size, s, none⟩) (by simp) _⟩
                case measure => simp [intOf]; omega
              · have He := Lib.hid (show pg zs s (a + 1) = pg zs s a by rw [Hps.out]; unfold eG; rw [h3]; simp)
                have hcb := isBelowAny_any (some ⟨b3, off3, none⟩) n c B zs hvo hlen.out s a wr hD (by omega) (by omega)
                rw [h3] at hcb
                clear h1 h2 h3 hD
                generalize (du zs)[a]?.getD 0 = d at *
                go_wp2_with fail
                refine (bit_any (s : Int) (a : Int) _ (by omega) (by omega) (by omega) (by omega)).mono ?_
                rw [hbi.out]
                rintro e w' ⟨rfl, rfl⟩
                go_wp2_with fail
                refine hcb.mono ?_
                rintro e w' ⟨rfl, rfl⟩
                go_wp2_with fail
                go_roundw
                case rel => exact ⟨a + 1, by omega, by go_num, by rw [He.out]; exact hAr, hBr⟩
                case measure => simp [intOf]; omega
            · have He := Lib.hid (show pg zs s (a + 1) = pg zs s a by rw [Hps.out]; unfold eG; rw [beq_eq_false_iff_ne.2 h2]; simp)
              have hbn : (bits .andNot .i64 ((du zs)[a]?.getD 0) (s : Int) == 0) = false := by rw [hbl]; simpa using h2
              clear h1 h2 hD hbl
              generalize (du zs)[a]?.getD 0 = d at *
              go_wp2_with fail
              refine (bit_any (s : Int) (a : Int) _ (by omega) (by omega) (by omega) (by omega)).mono ?_
              rw [hbi.out]
              rintro e w' ⟨rfl, rfl⟩
              go_wp2_with fail
              go_roundw
              case rel => exact ⟨a + 1, by omega, by go_num, by rw [He.out]; exact hAr, hBr⟩
              case measure => simp [intOf]; omega
        · obtain rfl : a = n := by omega
          have Hfin := Lib.hid (show tab zs s (pg zs s a) = tab zs (s + 1) 0 by rw [Hpa.out s (by omega), Hnx.out])
          go_wp2_with fail
          go_roundw
          case rel => exact ⟨s + 1, by omega, by omega, by go_num, by rw [← Hfin.out]; exact hAr, hBr⟩
          case measure => simp [intOf]; omega
    · obtain rfl : s = N := by omega
      go_wp2_with fail
      refine (hpwN _).mono ?_
      rintro e w' ⟨rfl, rfl⟩
      go_wp2_with fail
      go_ret
      exact ⟨rfl, hAr, hBr⟩

set_option maxRecDepth 100000 in
set_option maxHeartbeats 2000000 in
theorem scountLines_any (A : Option Addr) (n c : Nat) (zs : List Int) (hvo : VoP zs) (w : World) (h : Ints w w.heap.size A n zs) :
    Calls Try.prog 71 #[.slice A n c] w fun e w' => e = .returned (.int .i64 (cG zs (2 ^ n - 1) : Int)) ∧ Below w.heap.size w w' := by
  have hlen := Lib.hid h.len
  have hn6 : n ≤ 6 := by have := hvo.1; rw [hlen.out] at this; exact this
  have Hdu := Lib.hid (show downP n (pairsL zs) = du zs by unfold du; rw [hlen.out])
  have Hdl := Lib.hid (show (du zs).length = n by rw [du_len, hlen.out])
  have hN64 := pow_le64 hn6
  obtain ⟨g, hg⟩ : ∃ g, cG zs (2 ^ n - 1) = g := ⟨_, rfl⟩
  rw [hg]
  go_enter Try.func71, Try.ntmps71
  go_wp2_with fail
  refine (downOf_any A n c zs w h hvo.sets).mono ?_
  rintro e w2 ⟨rfl, hA2, hB2⟩
  rw [Hdu.out] at hA2
  have hI2 := hA2.ints' hA2.lt Hdl.out
  have hN1 := Nat.two_pow_pos n
  have HP := Lib.hid (show powI n = ((2 ^ n : Nat) : Int) by simp [powI])
  have hcell : (tab zs (2 ^ n) 0)[2 ^ n - 1]?.getD 0 = (cG zs (2 ^ n - 1) : Int) := by
    rw [tab_get (by rw [hlen.out]; omega), if_pos (by omega)]
  rw [hg] at hcell
  have htl : (tab zs (2 ^ n) 0).length = 2 ^ n := by rw [tab_len, hlen.out]
  have hcall := linesFrom_any _ n n _ zs hvo hlen.out w2 hI2 (Nat.le_refl _)
  obtain ⟨K, hK⟩ : ∃ K, 2 ^ n = K + 1 := ⟨2 ^ n - 1, by omega⟩
  rw [hK] at HP hcell htl hcall hN64
  simp only [Nat.add_sub_cancel] at hcell
  have hpw : ∀ w, Calls Try.prog 96 #[.int .i64 (n : Int)] w fun e w' => e = .returned (.int .i64 ((K : Int) + 1)) ∧ w = w' := fun w => by
    rw [show ((K : Int) + 1) = powI (n : Int) by rw [HP.out]; omega]
    exact power_any _ _ (by omega) (by omega)
  clear hK hN1 hA2 hI2 hg
  go_wp2_with fail
  refine hcall.mono ?_
  rintro e w3 ⟨rfl, hA3, hB3⟩
  have hck := hA3.cell (k := K) (by rw [htl]; omega)
  rw [hcell] at hck
  have C3 := hB2.trans (hB3.mono hB2.size)
  have hi1 : (K : Int) < ((K + 1 : Nat) : Int) := by omega
  clear hA3 hcall
  go_wp2_with fail
  refine (hpw _).mono ?_
  rintro e w' ⟨rfl, rfl⟩
  go_wp2_with fail
  go_ret
  exact ⟨rfl, C3⟩

end Go.Proofs.Ytghogabmkbadjab

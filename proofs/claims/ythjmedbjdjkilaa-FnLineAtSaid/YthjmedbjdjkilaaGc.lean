/- Texts that several claims share, one behind the other. -/
import Derived.Test.YthjmedbjdjkilaaGb
import Derived.Test.YthjmedbjdjkilaaGa
import Derived.StillTailTactics
import Derived.Deep.QuietTactic
import Derived.BigQuiet
import Derived.Deep.RegionLaw
import Derived.Deep.AppendLies
import Derived.Maps.AppendAt
/- CountLines: the model's. -/
namespace Go.Proofs.Ythjmedbjdjkilaa
open Go.RowKit Go.Shelf

theorem wrap_small (x : Int) (h0 : 0 ≤ x) (h1 : x < 1000000) : IntKind.i64.wrap x = x := by rw [IntKind.wrap_i64]; omega

set_option maxHeartbeats 1000000 in
theorem isBelowAny_any (A : Option Addr) (n c B : Nat) (zs : List Int) (hvo : VoP zs) (hlen0 : zs.length = n) (s a : Nat) (w : World) (h : Ints w B A n (du zs)) (hs : s < 64) (ha : a < 6) :
    Calls Try.prog 117 #[.slice A n c, .int .i64 (s : Int), .int .i64 (a : Int)] w fun e w' => e = .returned (.bool (belowAny zs s a)) ∧ w = w' := by
  have hlen := Lib.hid hlen0
  have hn6 : n ≤ 6 := by have := hvo.1; rw [hlen0] at this; exact this
  have hds := du_sets hvo.sets
  have Hdl := Lib.hid (show (du zs).length = n by rw [du_len, hlen0])
  clear hlen0
  go_enter Try.func117, Try.ntmps117
  go_wp2
  go_loop [7] (fun i => ∃ k : Nat, k ≤ n ∧ i = .int .i64 k ∧ ∀ b, b < k → (s.testBit b && bitB ((du zs)[b]?.getD 0) a) = false) (fun i => n - (intOf i).toNat)
  case atStart => exact ⟨0, by omega, rfl, fun b hb => by omega⟩
  case round =>
    obtain ⟨k, hk, rfl, hok⟩ := hrel
    have Hok := Lib.hid hok
    clear hok
    by_cases hlt : k < n
    · obtain ⟨b3, off3, rfl, hb3, hc3⟩ := h.at_ hlt
      have hck := hc3 k hlt
      have hdb := hds.bd k (by rw [Hdl.out]; exact hlt)
      clear hc3
      have Hb1 := Lib.hid (bit_cast s k)
      cases h1 : s.testBit k
      · have Hn := Lib.hid (all_snoc Hok.out (show (s.testBit k && bitB ((du zs)[k]?.getD 0) a) = false by rw [h1]; rfl))
        have hbi := Lib.hid (bitI_false (s := (s : Int)) (j := (k : Int)) (by rw [bit_cast, h1]))
        clear h1
        go_wp2_with fail
        refine (bit_any (s : Int) (k : Int) w (by omega) (by omega) (by omega) (by omega)).mono ?_
        rw [hbi.out]
        rintro e w' ⟨rfl, rfl⟩
        go_wp2_with fail
        go_round
        case rel => exact ⟨k + 1, by omega, by go_num, Hn.out⟩
        case measure => simp [intOf]; omega
      · have hbi := Lib.hid (bitI_true (s := (s : Int)) (j := (k : Int)) (by rw [bit_cast, h1]))
        cases h2 : bitB ((du zs)[k]?.getD 0) a
        · have Hn := Lib.hid (all_snoc Hok.out (show (s.testBit k && bitB ((du zs)[k]?.getD 0) a) = false by rw [h2]; simp))
          have hbj := Lib.hid (bitI_false h2)
          clear h1 h2
          generalize (du zs)[k]?.getD 0 = d at *
          go_wp2_with fail
          refine (bit_any (s : Int) (k : Int) w (by omega) (by omega) (by omega) (by omega)).mono ?_
          rw [hbi.out]
          rintro e w' ⟨rfl, rfl⟩
          go_wp2_with fail
          refine (bit_any d (a : Int) w hdb.1 (by omega) (by omega) (by omega)).mono ?_
          rw [hbj.out]
          rintro e w' ⟨rfl, rfl⟩
          go_wp2_with fail
          go_round
          case rel => exact ⟨k + 1, by omega, by go_num, Hn.out⟩
          case measure => simp [intOf]; omega
        · have Ht := Lib.hid (show belowAny zs s a = true by
            unfold belowAny
            rw [List.any_eq_true]
            exact ⟨k, List.mem_range.2 (by rw [hlen.out]; exact hlt), by rw [h1, h2]; rfl⟩)
          have hbj := Lib.hid (bitI_true h2)
          clear h1 h2
          generalize (du zs)[k]?.getD 0 = d at *
          go_wp2_with fail
          refine (bit_any (s : Int) (k : Int) w (by omega) (by omega) (by omega) (by omega)).mono ?_
          rw [hbi.out]
          rintro e w' ⟨rfl, rfl⟩
          go_wp2_with fail
          refine (bit_any d (a : Int) w hdb.1 (by omega) (by omega) (by omega)).mono ?_
          rw [hbj.out]
          rintro e w' ⟨rfl, rfl⟩
          go_wp2_with fail
          go_ret
          exact ⟨ret_bool Ht.out.symm, rfl⟩
    · obtain rfl : k = n := by omega
      have Ht := Lib.hid (show belowAny zs s a = false by
        unfold belowAny
        rw [List.any_eq_false]
        intro b hb
        rw [Hok.out b (by rw [← hlen.out]; exact List.mem_range.1 hb)]
        simp)
      go_wp2
      go_ret
      exact ⟨ret_bool Ht.out.symm, rfl⟩

set_option maxRecDepth 100000 in
set_option maxHeartbeats 4000000 in
theorem linesFrom_any (A : Option Addr) (n c B : Nat) (zs : List Int) (hvo : VoP zs) (hlen0 : zs.length = n) (w : World) (h : Ints w B A n (du zs)) (hB : B ≤ w.heap.size) :
    Calls Try.prog 90 #[.slice A n c] w fun e w' => e = .returned (.slice (some ⟨w.heap.size, 0, none⟩) (2 ^ n) (2 ^ n)) ∧ Arr w' w.heap.size 3 (tab zs (2 ^ n) 0) ∧ Below w.heap.size w w' := by
  have hlen := Lib.hid hlen0
  have hn6 : n ≤ 6 := by have := hvo.1; rw [hlen0] at this; exact this
  have hds := du_sets hvo.sets
  have Hdl := Lib.hid (show (du zs).length = n by rw [du_len, hlen0])
  have HP := Lib.hid (show powI n = ((2 ^ n : Nat) : Int) by simp [powI])
  have hN64 := pow_le64 hn6
  have hN1 := Nat.two_pow_pos n
  have Hst := Lib.hid (tab_start zs)
  have Hnx := Lib.hid (tab_next zs)
  have Htl := Lib.hid (tab_len zs)
  have Htg := Lib.hid (fun (s p i : Nat) (hi : i < 2 ^ zs.length) => tab_get (zs := zs) (s := s) (p := p) hi)
  have Hle := Lib.hid (fun (s : Nat) (hs : s < 2 ^ zs.length) => cG_le hvo hs)
  have Hpb := Lib.hid (fun (s a : Nat) (h0 : s ≠ 0) (hs : s < 2 ^ zs.length) (ha : a ≤ zs.length) => pg_bd hvo (s := s) (a := a) h0 hs ha)
  have Hpa := Lib.hid (fun (s : Nat) (h0 : s ≠ 0) => pg_all (zs := zs) h0)
  rw [hlen0] at Hst Htl Htg Hle Hpb Hpa
  clear hlen0
  obtain ⟨N, hN⟩ : ∃ N, 2 ^ n = N := ⟨_, rfl⟩
  rw [hN] at HP hN64 hN1 Hst Htl Htg Hle Hpb ⊢
  clear hN
  have hpwN : ∀ w, Calls Try.prog 77 #[.int .i64 (n : Int)] w fun e w' => e = .returned (.int .i64 (N : Int)) ∧ w = w' := fun w => by
    rw [← HP.out]; exact power_any _ _ (by omega) (by omega)
  have hmk := run_make_row' (P := Try.prog) 23 3 (.int .i64 0) 8 Try.underlying23 infoInt rfl .i64 .i64 N (by omega) (by omega)
  go_enter Try.func90, Try.ntmps90
  go_wp2_with fail
  refine (hpwN _).mono ?_
  rintro e w' ⟨rfl, rfl⟩
  have hA1 := Arr.new w 3 N
  have hB1 : Below w.heap.size w (w.alloc (.cells (madeCells #[.int .i64 0] N) 3)) := (Below.refl w.heap.size w).alloc (Nat.le_refl _) _
  have hc0 := hA1.cell (k := 0) (by simp; omega)
  have hf0 := hA1.frozen 0
  have hE : (madeCells #[Value.int .i64 0] N).setIfInBounds 0 (.int .i64 1) = ((tab zs 1 0).map (Value.int .i64)).toArray := by
    have e1 := (heap_alloc_new w (.cells (madeCells #[Value.int .i64 0] N) 3)).symm.trans hA1
    have e2 : madeCells #[Value.int .i64 0] N = ((List.replicate N (0 : Int)).map (Value.int .i64)).toArray := by
      injection e1 with e1
      injection e1
    rw [e2, ← Hst.out, List.map_set]
    simp only [List.setIfInBounds_toArray]
  have hA2 : Arr (w.alloc (.cells ((madeCells #[Value.int .i64 0] N).setIfInBounds 0 (.int .i64 1)) 3)) w.heap.size 3 (tab zs 1 0) := by
    unfold Arr
    rw [heap_alloc_new, hE]
  have hB2 : Below w.heap.size w (w.alloc (.cells ((madeCells #[Value.int .i64 0] N).setIfInBounds 0 (.int .i64 1)) 3)) := (Below.refl w.heap.size w).alloc (Nat.le_refl _) _
  have hi0 : (0 : Int) < (N : Int) := by omega
  clear hB1 hA1 hE
  go_wp2_with fail
  go_loopw [5] (fun i wr => ∃ s : Nat, 1 ≤ s ∧ s ≤ N ∧ i = .int .i64 s ∧ Arr wr w.heap.size 3 (tab zs s 0) ∧ Below w.heap.size w wr) (fun i _ => N - (intOf i).toNat)
  case atStart => exact ⟨1, by omega, by omega, rfl, hA2, hB2⟩
  case round =>
    obtain ⟨s, hs1, hsN, rfl, hAr, hBr⟩ := hrel
    by_cases hsl : s < N
    · go_wp2_with fail
      refine (hpwN _).mono ?_
      rintro e w' ⟨rfl, rfl⟩
      go_wp2_with fail
      go_loopw [6] (fun i wr => ∃ a : Nat, a ≤ n ∧ i = .int .i64 a ∧ Arr wr w.heap.size 3 (tab zs s (pg zs s a)) ∧ Below w.heap.size w wr) (fun i _ => n - (intOf i).toNat)
      case atStart => exact ⟨0, by omega, rfl, hAr, hBr⟩
      case round =>
        clear hAr hBr
        obtain ⟨a, ha, rfl, hAr, hBr⟩ := hrel
        by_cases han : a < n
        · have hD := h.to hBr hB (Nat.le_refl B)
          obtain ⟨b3, off3, rfl, hb3, hc3⟩ := hD.at_ han
          have hdk := hc3 a han
          have hdb := hds.bd a (by rw [Hdl.out]; exact han)
          have Hps := Lib.hid (pg_succ zs s a)
          clear hc3
          cases h1 : s.testBit a
          · have hbi := Lib.hid (bitI_false (s := (s : Int)) (j := (a : Int)) (by rw [bit_cast, h1]))
            have He := Lib.hid (show pg zs s (a + 1) = pg zs s a by rw [Hps.out]; unfold eG; rw [h1]; simp)
            clear h1 hD
            go_wp2_with fail
            refine (bit_any (s : Int) (a : Int) _ (by omega) (by omega) (by omega) (by omega)).mono ?_
            rw [hbi.out]
            rintro e w' ⟨rfl, rfl⟩
            go_wp2_with fail
            go_roundw
            case rel => exact ⟨a + 1, by omega, by go_num, by rw [He.out]; exact hAr, hBr⟩
            case measure => simp [intOf]; omega
          · have hbi := Lib.hid (bitI_true (s := (s : Int)) (j := (a : Int)) (by rw [bit_cast, h1]))
            have hbl := bits_less (a := (du zs)[a]?.getD 0) (b := (s : Int)) hdb.1 (by omega) (by omega) (by omega)
            by_cases h2 : lessI ((du zs)[a]?.getD 0) (s : Int) = 0
            · rw [h2] at hbl
              cases h3 : belowAny zs s a
              · have hsa : s ≠ 0 := by omega
                have hge := ge_bit_fin ⟨s, by omega⟩ ⟨a, by omega⟩ h1
                simp only at hge
                have hpp := Nat.two_pow_pos a
                obtain ⟨x, hx⟩ : ∃ x, s - 2 ^ a = x := ⟨_, rfl⟩
                have He := Lib.hid (show pg zs s (a + 1) = pg zs s a + cG zs x by rw [Hps.out, ← hx]; unfold eG; rw [h1, h2, h3]; rfl)
                have hpx : powI (a : Int) = ((2 ^ a : Nat) : Int) := by simp [powI]
                have hxs : (s : Int) - powI (a : Int) = (x : Int) := by omega
                have hxl : x < s := by omega
                have hp1 := powI_pos (a : Int)
                have hcx := hAr.cell (k := x) (by rw [Htl.out]; omega)
                have hcs := hAr.cell (k := s) (by rw [Htl.out]; omega)
                rw [Htg.out _ _ _ (by omega), if_pos hxl] at hcx
                rw [Htg.out _ _ _ hsl, if_neg (by omega), if_pos rfl] at hcs
                have hfs := hAr.frozen s
                have hb1 := Hle.out x (by omega)
                have hb2 := Hpb.out s a hsa hsl ha
                have hcb := isBelowAny_any (some ⟨b3, off3, none⟩) n c B zs hvo hlen.out s a wr hD (by omega) (by omega)
                rw [h3] at hcb
                have hpw : ∀ w, Calls Try.prog 77 #[.int .i64 (a : Int)] w fun e w' => e = .returned (.int .i64 (powI a)) ∧ w' = w := fun w => (power_any _ _ (by omega) (by omega)).mono fun _ _ ⟨h1, h2⟩ => ⟨h1, h2.symm⟩
                have Hts := Lib.hid (show (tab zs s (pg zs s a)).set s ((pg zs s a : Int) + (cG zs x : Int)) = tab zs s (pg zs s a + cG zs x) by rw [← Int.natCast_add]; exact tab_set)
                clear h1 h2 h3 hD hx hpx hge
                generalize (du zs)[a]?.getD 0 = d at *
                generalize powI (a : Int) = P at *
                generalize cG zs x = g at *
                generalize pg zs s a = q at *
                generalize tab zs s q = T at *
                have hwx : (0 : Int) ≤ (x : Int) := by omega
                have hxN : (x : Int) < (N : Int) := by omega
                have hsN' : (s : Int) < (N : Int) := by omega
                go_wp2_with fail
                refine (bit_any (s : Int) (a : Int) _ (by omega) (by omega) (by omega) (by omega)).mono ?_
                rw [hbi.out]
                rintro e w' ⟨rfl, rfl⟩
                go_wp2_with fail
                refine hcb.mono ?_
                rintro e w' ⟨rfl, rfl⟩
                go_wp2_with fail
                obtain ⟨W2, hW2⟩ : ∃ W2, wr.drew = W2 := ⟨_, rfl⟩
                have kcx : W2.cell? ⟨w.heap.size, x, none⟩ = some (.int .i64 (g : Int)) := by rw [← hW2]; exact hcx
                have kcs : W2.cell? ⟨w.heap.size, s, none⟩ = some (.int .i64 (q : Int)) := by rw [← hW2]; exact hcs
                have kfs : W2.frozen? ⟨w.heap.size, s, none⟩ = false := by rw [← hW2]; exact hfs
                have kAr : Arr W2 w.heap.size 3 T := by rw [← hW2]; exact hAr
                have kB : Below w.heap.size w W2 := by rw [← hW2]; exact hBr.drew
                refine wp_region_still_tail 15 (by kernel_rfl) (by kernel_rfl) ?_
                simp only [List.take_succ_cons, List.take_zero, List.drop_succ_cons, List.drop_zero]
                change wpStill _ _ wr.drew (fun a' => wpList _ _ _ _ a' wr.drew) _ _
                rw [hW2]
                clear hW2 hcx hcs hfs hAr hBr hcb hdk
                have hw1 : IntKind.i64.wrap (x : Int) = (x : Int) := wrap_small _ (by omega) (by omega)
                have hw3 : IntKind.i64.wrap ((s : Int) - P) = (x : Int) := by rw [hxs]; exact hw1
                have hw4 : IntKind.i64.wrap ((q : Int) + (g : Int)) = (q : Int) + (g : Int) := wrap_small _ (by omega) (by omega)
                repeat (first | still_step | still_call (hpw _))
                refine wpStill_nil ?_
                go_wp2
                go_roundw
                case rel => exact ⟨a + 1, by omega, by go_num, by rw [He.out, ← Hts.out]; exact kAr.set s _, kB.setCell (p := ⟨w.heap.size, s, none⟩) (by simp) _⟩
                case measure => simp [intOf]; omega
              · have He := Lib.hid (show pg zs s (a + 1) = pg zs s a by rw [Hps.out]; unfold eG; rw [h3]; simp)
                have hcb := isBelowAny_any (some ⟨b3, off3, none⟩) n c B zs hvo hlen.out s a wr hD (by omega) (by omega)
                rw [h3] at hcb
                clear h1 h2 h3 hD
                generalize (du zs)[a]?.getD 0 = d at *
                go_wp2_with fail
                refine (bit_any (s : Int) (a : Int) _ (by omega) (by omega) (by omega) (by omega)).mono ?_
                rw [hbi.out]
                rintro e w' ⟨rfl, rfl⟩
                go_wp2_with fail
                refine hcb.mono ?_
                rintro e w' ⟨rfl, rfl⟩
                go_wp2_with fail
                go_roundw
                case rel => exact ⟨a + 1, by omega, by go_num, by rw [He.out]; exact hAr, hBr⟩
                case measure => simp [intOf]; omega
            · have He := Lib.hid (show pg zs s (a + 1) = pg zs s a by rw [Hps.out]; unfold eG; rw [beq_eq_false_iff_ne.2 h2]; simp)
              have hbn : (bits .andNot .i64 ((du zs)[a]?.getD 0) (s : Int) == 0) = false := by rw [hbl]; simpa using h2
              clear h1 h2 hD hbl
              generalize (du zs)[a]?.getD 0 = d at *
              go_wp2_with fail
              refine (bit_any (s : Int) (a : Int) _ (by omega) (by omega) (by omega) (by omega)).mono ?_
              rw [hbi.out]
              rintro e w' ⟨rfl, rfl⟩
              go_wp2_with fail
              go_roundw
              case rel => exact ⟨a + 1, by omega, by go_num, by rw [He.out]; exact hAr, hBr⟩
              case measure => simp [intOf]; omega
        · obtain rfl : a = n := by omega
          have Hfin := Lib.hid (show tab zs s (pg zs s a) = tab zs (s + 1) 0 by rw [Hpa.out s (by omega), Hnx.out])
          go_wp2_with fail
          go_roundw
          case rel => exact ⟨s + 1, by omega, by omega, by go_num, by rw [← Hfin.out]; exact hAr, hBr⟩
          case measure => simp [intOf]; omega
    · obtain rfl : s = N := by omega
      go_wp2_with fail
      refine (hpwN _).mono ?_
      rintro e w' ⟨rfl, rfl⟩
      go_wp2_with fail
      go_ret
      exact ⟨rfl, hAr, hBr⟩

set_option maxRecDepth 100000 in
set_option maxHeartbeats 2000000 in
theorem scountLines_any (A : Option Addr) (n c : Nat) (zs : List Int) (hvo : VoP zs) (w : World) (h : Ints w w.heap.size A n zs) :
    Calls Try.prog 63 #[.slice A n c] w fun e w' => e = .returned (.int .i64 (cG zs (2 ^ n - 1) : Int)) ∧ Below w.heap.size w w' := by
  have hlen := Lib.hid h.len
  have hn6 : n ≤ 6 := by have := hvo.1; rw [hlen.out] at this; exact this
  have Hdu := Lib.hid (show downP n (pairsL zs) = du zs by unfold du; rw [hlen.out])
  have Hdl := Lib.hid (show (du zs).length = n by rw [du_len, hlen.out])
  have hN64 := pow_le64 hn6
  obtain ⟨g, hg⟩ : ∃ g, cG zs (2 ^ n - 1) = g := ⟨_, rfl⟩
  rw [hg]
  go_enter Try.func63, Try.ntmps63
  go_wp2_with fail
  refine (downOf_any A n c zs w h hvo.sets).mono ?_
  rintro e w2 ⟨rfl, hA2, hB2⟩
  rw [Hdu.out] at hA2
  have hI2 := hA2.ints' hA2.lt Hdl.out
  have hN1 := Nat.two_pow_pos n
  have HP := Lib.hid (show powI n = ((2 ^ n : Nat) : Int) by simp [powI])
  have hcell : (tab zs (2 ^ n) 0)[2 ^ n - 1]?.getD 0 = (cG zs (2 ^ n - 1) : Int) := by
    rw [tab_get (by rw [hlen.out]; omega), if_pos (by omega)]
  rw [hg] at hcell
  have htl : (tab zs (2 ^ n) 0).length = 2 ^ n := by rw [tab_len, hlen.out]
  have hcall := linesFrom_any _ n n _ zs hvo hlen.out w2 hI2 (Nat.le_refl _)
  obtain ⟨K, hK⟩ : ∃ K, 2 ^ n = K + 1 := ⟨2 ^ n - 1, by omega⟩
  rw [hK] at HP hcell htl hcall hN64
  simp only [Nat.add_sub_cancel] at hcell
  have hpw : ∀ w, Calls Try.prog 77 #[.int .i64 (n : Int)] w fun e w' => e = .returned (.int .i64 ((K : Int) + 1)) ∧ w = w' := fun w => by
    rw [show ((K : Int) + 1) = powI (n : Int) by rw [HP.out]; omega]
    exact power_any _ _ (by omega) (by omega)
  clear hK hN1 hA2 hI2 hg
  go_wp2_with fail
  refine hcall.mono ?_
  rintro e w3 ⟨rfl, hA3, hB3⟩
  have hck := hA3.cell (k := K) (by rw [htl]; omega)
  rw [hcell] at hck
  have C3 := hB2.trans (hB3.mono hB2.size)
  have hi1 : (K : Int) < ((K + 1 : Nat) : Int) := by omega
  clear hA3 hcall
  go_wp2_with fail
  refine (hpw _).mono ?_
  rintro e w' ⟨rfl, rfl⟩
  go_wp2_with fail
  go_ret
  exact ⟨rfl, C3⟩

set_option maxHeartbeats 1000000 in
theorem specCountLinesF_any (A : Option Addr) (n c : Nat) (zs : List Int) (w : World) (h : Ints w w.heap.size A n zs) (hbig : n ≤ 1152921504606846976) :
    Calls Try.prog 17 #[.slice A n c] w fun e w' => e = .returned (.int .i64 (linesR zs)) ∧ Below w.heap.size w w' := by
  have hlen := Lib.hid h.len
  cases hv : vo zs
  · have Ht := Lib.hid (show linesR zs = -1 by unfold linesR; rw [hv]; rfl)
    go_enter Try.func17, Try.ntmps17
    go_wp2_with fail
    refine (validOrder_any _ _ _ _ zs _ h hbig).mono ?_
    rw [hv]
    rintro e w' ⟨rfl, m, rfl⟩
    go_wp2_with fail
    go_ret
    exact ⟨ret_int Ht.out.symm, below_drewN (Below.refl _ _) m⟩
  · have hvo : VoP zs := by simpa [vo] using hv
    have Ht := Lib.hid (show linesR zs = (cG zs (2 ^ n - 1) : Int) by unfold linesR; rw [hv, hlen.out]; rfl)
    go_enter Try.func17, Try.ntmps17
    go_wp2_with fail
    refine (validOrder_any _ _ _ _ zs _ h hbig).mono ?_
    rw [hv]
    rintro e w' ⟨rfl, m, rfl⟩
    go_wp2_with fail
    refine (scountLines_any A n c zs hvo _ ((h.drewN m).more (by simp))).mono ?_
    rintro e w3 ⟨rfl, hB3⟩
    go_wp2_with fail
    go_ret
    exact ⟨ret_int Ht.out.symm, (below_drewN (Below.refl _ _) m).trans (hB3.mono (by simp))⟩
end Go.Proofs.Ythjmedbjdjkilaa

/- What is left, lined up: the model's count of it. -/
namespace Go.Proofs.Ythjmedbjdjkilaa
open Go.RowKit Go.Shelf
attribute [local go_sem] Oper.semAt_some
attribute [local go_sem, local simp] wide_fn

/-- As numbers. -/
def asI (l : List Nat) : List Int := l.map fun x : Nat => (x : Int)
theorem asI_len (l : List Nat) : (asI l).length = l.length := by simp [asI]
theorem asI_get {l : List Nat} {i : Nat} (hi : i < l.length) : (asI l)[i]?.getD 0 = ((l[i]?.getD 0 : Nat) : Int) := by simp [asI, hi]
theorem asI_snoc (l : List Nat) (x : Nat) : asI (l ++ [x]) = asI l ++ [(x : Int)] := by simp [asI]
/-- The items less than k of a set. -/
def leftK (s k : Nat) : List Nat := (List.range k).filter fun j => s.testBit j
theorem leftK_yes {s k : Nat} (h : s.testBit k = true) : leftK s (k + 1) = leftK s k ++ [k] := by simp [leftK, List.range_succ, h]
theorem leftK_no {s k : Nat} (h : s.testBit k = false) : leftK s (k + 1) = leftK s k := by simp [leftK, List.range_succ, h]
theorem leftK_len (s k : Nat) : (leftK s k).length ≤ k := by
  have := List.length_filter_le (fun j => s.testBit j) (List.range k)
  rwa [List.length_range] at this
theorem take_snocI (l : List Int) {k : Nat} (hk : k < l.length) : l.take (k + 1) = l.take k ++ [l[k]?.getD 0] := by
  rw [List.take_succ_eq_append_getElem hk, List.getElem?_eq_getElem hk]; rfl

theorem ind_row {zs : List Int} {l : List Nat} {i m : Nat} (hm : l.length = m) (hi : i < m) : (ind zs l)[i]?.getD 0 = rowTo (zs[l[i]?.getD 0]?.getD 0) l m := by
  subst hm
  unfold ind
  rw [List.getElem?_map, List.getElem?_eq_getElem hi]
  rfl

set_option maxRecDepth 100000 in
set_option maxHeartbeats 4000000 in
theorem srest_any (A : Option Addr) (n c : Nat) (zs : List Int) (hvo : VoP zs) (d : Nat) (w : World) (h : Ints w w.heap.size A n zs) (hd : d < 2 ^ n) :
    Calls Try.prog 76 #[.slice A n c, .int .i64 (d : Int)] w fun e w' => e = .returned (.int .i64 (cF zs (2 ^ n - 1 - d) : Int)) ∧ Below w.heap.size w w' := by
  obtain ⟨i0, hi0, hz0, hz1, hz2⟩ := info_parts infoInt
  have hlen := Lib.hid h.len
  have hn6 : n ≤ 6 := by have := hvo.1; rw [hlen.out] at this; exact this
  have hp64 := pow_le64 hn6
  have hs : 2 ^ n - 1 - d < 2 ^ n := by omega
  obtain ⟨s, hsd⟩ : ∃ s, 2 ^ n - 1 - d = s := ⟨_, rfl⟩
  rw [hsd] at hs ⊢
  have Hbit := Lib.hid (show ∀ j, j < n → s.testBit j = !d.testBit j from fun j hj => by
    have := com_bit_fin ⟨n, by omega⟩ ⟨d, by omega⟩ hd ⟨j, by omega⟩
    simp only at this
    rw [← hsd, this]; simp [hj])
  clear hsd
  have HL := Lib.hid (show leftK s n = leftL zs.length s by unfold leftK leftL; rw [hlen.out])
  have Hinc := Lib.hid (leftL_inc zs s)
  have Hres := Lib.hid (rest_is hvo (s := s) (by rw [hlen.out]; exact hs))
  have Hivo := Lib.hid (ind_vo hvo Hinc.out)
  have Hil := Lib.hid (ind_len zs (leftL zs.length s))
  go_enter Try.func76, Try.ntmps76
  go_wp2_with fail
  have h1 := own_new w 3
  have hU1 : Upd (fun _ => False) w (w.alloc (.cells #[] 3)) := (Upd.refl _ w).alloc _
  have hz1a : w.heap.size ≤ (w.alloc (.cells #[] 3)).heap.size := hU1.size
  obtain ⟨W1, hW1⟩ : ∃ W1, w.alloc (.cells #[] 3) = W1 := ⟨_, rfl⟩
  rw [hW1] at h1 hU1 hz1a ⊢
  clear hW1
  go_loopw [5, 6] (fun v i wr => ∃ k : Nat, k ≤ n ∧ i = .int .i64 k ∧ OwnS (fun k => w.heap.size ≤ k) wr w.heap.size 3 v (asI (leftK s k)) ∧ Upd (fun _ => False) w wr) (fun _ i _ => n - (intOf i).toNat)
  case atStart => exact ⟨0, by omega, rfl, ⟨fun k hk => by simp [Value.ownBlock] at hk; omega, h1⟩, hU1⟩
  case round =>
    clear hz1a hU1 h1
    obtain ⟨k, hk, rfl, hO, hU⟩ := hrel
    have zr := hU.size
    by_cases hlt : k < n
    · have hb := Hbit.out k hlt
      have hkl := leftK_len s k
      cases hdk : d.testBit k
      · have hbi : (bitI (d : Int) k == 0) = true := by unfold bitI; rw [bit_cast, hdk]; rfl
        have Hn := Lib.hid (show asI (leftK s (k + 1)) = asI (leftK s k) ++ [(k : Int)] by rw [leftK_yes (by rw [hb, hdk]; rfl), asI_snoc])
        have Hln := Lib.hid (asI_len (leftK s k))
        clear hb
        go_wp2_with (first
          | (go_at_call 75; refine (bit_any _ _ _ (by omega) (by omega) (by omega) (by omega)).mono ?_; rintro e w' ⟨rfl, rfl⟩)
          | (at_builtin; refine wpList_append1 _ rfl (.tmp 22) (.tmp 24) _ rfl w.heap.size 3 i0 _ 8 Try.underlying23 hi0 hz0 hz1 hz2 rfl _ (asI (leftK s k)).length _ rfl (hO.2.alloc _) wr.heap.size 1 (.int .i64 k) rfl (cell_new _ _ _) rfl (by rw [Hln.out]; omega) (by rw [Hln.out]; omega) (by simp; omega) ?_; rintro v' w' hown' hg' hv'))
        have zg := hg'.size
        simp at zg
        go_roundw
        case rel => exact ⟨k + 1, by omega, by go_num, by rw [Hn.out]; exact hO.step hown' hv' (fun k e => e) (fun _ => by omega), (hU.alloc _).grown hg' (fun k hk => .inl (hO.1 k hk))⟩
        case measure => simp [intOf]; omega
      · have hbi : (bitI (d : Int) k == 0) = false := by unfold bitI; rw [bit_cast, hdk]; rfl
        have Hn := Lib.hid (leftK_no (s := s) (k := k) (by rw [hb, hdk]; rfl))
        clear hb
        go_wp2_with (go_at_call 75; refine (bit_any _ _ _ (by omega) (by omega) (by omega) (by omega)).mono ?_; rintro e w' ⟨rfl, rfl⟩)
        go_roundw
        case rel => exact ⟨k + 1, by omega, by go_num, by rw [Hn.out]; exact hO, hU⟩
        case measure => simp [intOf]; omega
    · obtain rfl : k = n := by omega
      rw [HL.out] at hO
      obtain ⟨A', c', rfl, hI, -⟩ := ints_of_own_at hO.2
      have hB0 : Below w.heap.size w wr := hU.toBelow (fun _ e => e.elim) (Nat.le_refl _)
      have hA := h.to hB0 (Nat.le_refl _) zr
      obtain ⟨m, hm⟩ : ∃ m, (asI (leftL zs.length s)).length = m := ⟨_, rfl⟩
      rw [hm] at hI ⊢
      have Hm := Lib.hid (show (leftL zs.length s).length = m by rw [← hm, asI_len])
      clear hm
      have hml : m ≤ k := by have h1 := Hinc.out.len_le; have h2 := hlen.out; have h3 := Hm.out; omega
      clear hO hU
      have Hlt := Lib.hid (show ∀ i, i < m → (leftL zs.length s)[i]?.getD 0 < k from fun i hi => by have h1 := Hinc.out.at_lt (i := i) (by rw [Hm.out]; exact hi); have h2 := hlen.out; omega)
      have Hget := Lib.hid (show ∀ i, i < m → (asI (leftL zs.length s))[i]?.getD 0 = (((leftL zs.length s)[i]?.getD 0 : Nat) : Int) from fun i hi => asI_get (by rw [Hm.out]; exact hi))
      have Hind := Lib.hid (show ∀ i, i < m → (ind zs (leftL zs.length s))[i]?.getD 0 = rowTo (zs[(leftL zs.length s)[i]?.getD 0]?.getD 0) (leftL zs.length s) m from fun i hi => ind_row Hm.out hi)
      generalize hl : leftL zs.length s = l at *
      have Hl := Lib.hid hl
      clear hl
      rename World => w2
      go_wp2_with fail
      have h1 := own_new w2 3
      have hU1 : Upd (fun _ => False) w2 (w2.alloc (.cells #[] 3)) := (Upd.refl _ w2).alloc _
      obtain ⟨W1, hW1⟩ : ∃ W1, w2.alloc (.cells #[] 3) = W1 := ⟨_, rfl⟩
      rw [hW1] at h1 hU1 ⊢
      clear hW1
      go_loopw [7, 8] (fun v i wr => ∃ k : Nat, k ≤ m ∧ i = .int .i64 k ∧ OwnS (fun k => w2.heap.size ≤ k) wr w2.heap.size 3 v ((ind zs l).take k) ∧ Upd (fun _ => False) w2 wr) (fun _ i _ => m - (intOf i).toNat)
      case atStart => exact ⟨0, by omega, rfl, ⟨fun k hk => by simp [Value.ownBlock] at hk; omega, by simpa using h1⟩, hU1⟩
      case round =>
        clear hU1 h1
        obtain ⟨i, hi, rfl, hO, hU⟩ := hrel
        rename World => w3
        have zx := hU.size
        have hBx : Below w2.heap.size w2 w3 := hU.toBelow (fun _ e => e.elim) (Nat.le_refl _)
        have hAx := hA.to hBx (Nat.le_refl _) zx
        have hIx := hI.to hBx (Nat.le_refl _) zx
        by_cases hlt2 : i < m
        · have hli := Hlt.out i hlt2
          have hgi := Hget.out i hlt2
          have Hrow := Lib.hid (Hind.out i hlt2)
          generalize hx : l[i]?.getD 0 = x at *
          have Hx := Lib.hid hx
          clear hx
          have hz := hvo.bd x (by rw [hlen.out]; exact hli)
          have Htk := Lib.hid (take_snocI (ind zs l) (k := i) (by rw [Hil.out, Hm.out]; exact hlt2))
          go_wp2
          go_loopw [9, 10] (fun t i wr => ∃ j q : Nat, j ≤ m ∧ i = .int .i64 j ∧ t = .int .i64 (rowTo (zs[x]?.getD 0) l j) ∧ wr = w3.drewN q) (fun _ i _ => m - (intOf i).toNat)
          case atStart => exact ⟨0, 0, by omega, rfl, rfl, rfl⟩
          case round =>
            obtain ⟨j, q, hj, rfl, rfl, rfl⟩ := hrel
            have hrb := rowTo_bd (zs[x]?.getD 0) l j
            by_cases hlt3 : j < m
            · have hlj := Hlt.out j hlt3
              have hgj := Hget.out j hlt3
              have Hrs := Lib.hid (show rowTo (zs[x]?.getD 0) l (j + 1) = orI (rowTo (zs[x]?.getD 0) l j) (bitI (zs[x]?.getD 0) ((l[j]?.getD 0 : Nat) : Int) * powI j) from rfl)
              generalize hy : l[j]?.getD 0 = y at *
              have Hy := Lib.hid hy
              clear hy
              obtain ⟨bl, ol, rfl, -, hcl⟩ := hIx.at_ hlt2
              have hci := hcl i hlt2
              have hcj := hcl j hlt3
              rw [hgi] at hci
              rw [hgj] at hcj
              obtain ⟨bz, oz, rfl, -, hcz⟩ := hAx.at_ hli
              have hcx := hcz x hli
              clear hcl hcz hgi hgj
              have hb01 := bitI_01 (zs[x]?.getD 0) y
              have hpj := powI_le6 (n := (j : Int)) (by omega)
              have hpp := powI_pos (j : Int)
              have hp6 := powI_le6 (n := (m : Int)) (by omega)
              have hmb : 0 ≤ bitI (zs[x]?.getD 0) y * powI j ∧ bitI (zs[x]?.getD 0) y * powI j ≤ 64 := by
                rw [bitI_mul]; split <;> omega
              have hacc64 : rowTo (zs[x]?.getD 0) l j < 64 := by omega
              have hor : bits .or .i64 (rowTo (zs[x]?.getD 0) l j) (bitI (zs[x]?.getD 0) y * powI j) = orI (rowTo (zs[x]?.getD 0) l j) (bitI (zs[x]?.getD 0) y * powI j) := bits_or (by omega) (by omega) (by omega) (by omega)
              have hw : IntKind.i64.wrap (bitI (zs[x]?.getD 0) y * powI j) = bitI (zs[x]?.getD 0) y * powI j := by rw [IntKind.wrap_i64]; omega
              generalize rowTo (zs[x]?.getD 0) l j = acc at *
              have hbit := fun w => bit_any (zs[x]?.getD 0) y w (by omega) (by omega) (by omega) (by omega)
              have hpow := fun w => power_any (j : Int) w (by omega) (by omega)
              generalize bitI (zs[x]?.getD 0) y = bt at *
              generalize powI (j : Int) = pw at *
              generalize zs[x]?.getD 0 = z at *
              go_wp2
              go_quiet ((first | (go_at_call 75; exact quiet_add_left (hbit _)) | (go_at_call 77; exact quiet_add_left (hpow _))))
              go_wp2
              go_roundw
              case rel => exact ⟨j + 1, _, by omega, by go_num, by rw [Hrs.out], rfl⟩
              case measure => simp [intOf]; omega
            · obtain rfl : j = m := by omega
              have hO' : OwnS (fun k => w2.heap.size ≤ k) (w3.drewN q) w2.heap.size 3 _ ((ind zs l).take i) := hO
              have hU' : Upd (fun _ => False) w2 (w3.drewN q) := hU.drewN q
              have Hln := Lib.hid (show ((ind zs l).take i).length = i by rw [List.length_take, Hil.out, Hm.out]; omega)
              have zx' : w2.heap.size ≤ (w3.drewN q).heap.size := zx
              have Hrow2 := Lib.hid (show (ind zs l)[i]?.getD 0 = rowTo (zs[x]?.getD 0) l j from Hrow.out)
              generalize rowTo (zs[x]?.getD 0) l j = row at *
              generalize w3.drewN q = w4 at *
              go_wp2_with (at_builtin; refine wpList_append1 _ rfl (.tmp 56) (.tmp 58) _ rfl w2.heap.size 3 i0 _ 8 Try.underlying23 hi0 hz0 hz1 hz2 rfl _ ((ind zs l).take i).length _ rfl (hO'.2.alloc _) w4.heap.size 1 (.int .i64 row) rfl (cell_new _ _ _) rfl (by rw [Hln.out]; omega) (by rw [Hln.out]; omega) (by simp; omega) ?_; rintro v' w' hown' hg' hv')
              have zg := hg'.size
              simp at zg
              go_roundw
              case rel => exact ⟨i + 1, by omega, by go_num, by rw [Htk.out, Hrow2.out]; exact hO'.step hown' hv' (fun k e => e) (fun _ => by omega), (hU'.alloc _).grown hg' (fun k hk => .inl (hO'.1 k hk))⟩
              case measure => simp [intOf]; omega
        · obtain rfl : i = m := by omega
          have hO' := hO
          rw [List.take_of_length_le (by rw [Hil.out, Hm.out]; exact Nat.le_refl _)] at hO'
          obtain ⟨A2, c2, hv2, hI2, -⟩ := ints_of_own_at hO'.2
          have hLn := Lib.hid (show (ind zs l).length = i by rw [Hil.out, Hm.out])
          rw [hLn.out] at hI2 hv2
          subst hv2
          go_wp2_with fail
          refine (scountLines_any A2 i c2 (ind zs l) Hivo.out _ hI2).mono ?_
          rintro e w5 ⟨rfl, hB5⟩
          go_wp2_with fail
          go_ret
          exact ⟨ret_int (by have h1 := Hres.out; rw [Hm.out] at h1; rw [h1]), hB0.trans ((hBx.mono hB0.size).trans (hB5.mono (Nat.le_trans hB0.size hBx.size)))⟩
end Go.Proofs.Ythjmedbjdjkilaa

/- Rows that grew by append: their block has spare cells behind; marking them. -/
namespace Go.Proofs.Ythjmedbjdjkilaa
open Go.RowKit

/-- A row at the head of a block of numbers' cells, in a block from lo up to less than hi (empty ones may lie anywhere). -/
def RowV (w : World) (lo hi : Nat) (A : Option Addr) (n : Nat) (xs : List Int) : Prop :=
  xs.length = n ∧ (0 < n → ∃ b cur, A = some ⟨b, 0, none⟩ ∧ lo ≤ b ∧ b < hi ∧ w.heap[b]? = some (.cells cur 3 (0, 0)) ∧ cur.toList.take n = xs.map (Value.int .i64))
section
variable {w w' : World} {lo hi n : Nat} {A : Option Addr} {xs : List Int} {R : Nat → Prop}
theorem RowV.len (h : RowV w lo hi A n xs) : xs.length = n := h.1
theorem RowV.nil (w : World) (lo hi : Nat) (A : Option Addr) : RowV w lo hi A 0 [] := ⟨rfl, fun h => absurd h (by omega)⟩
theorem RowV.upd (h : RowV w lo hi A n xs) (hu : Upd R w w') (hr : ∀ j, R j → j < lo ∨ hi ≤ j) : RowV w' lo hi A n xs :=
  ⟨h.1, fun hn => by
    obtain ⟨b, cur, e, hl, hb, hc, ht⟩ := h.2 hn
    exact ⟨b, cur, e, hl, hb, (hu.block b (Array.getElem?_eq_some_iff.1 hc).1 (fun hr' => by have := hr b hr'; omega)).trans hc, ht⟩⟩
theorem RowV.below {B : Nat} (h : RowV w lo hi A n xs) (hu : Below B w w') (hB : hi ≤ B) : RowV w' lo hi A n xs := h.upd (Below.toUpd hu) (fun j hj => by omega)
theorem RowV.more {lo' hi' : Nat} (h : RowV w lo hi A n xs) (h1 : lo' ≤ lo) (h2 : hi ≤ hi') : RowV w lo' hi' A n xs :=
  ⟨h.1, fun hn => by
    obtain ⟨b, cur, e, hl, hb, hc⟩ := h.2 hn
    exact ⟨b, cur, e, by omega, by omega, hc⟩⟩
theorem take_at {cur : Array Value} {n j : Nat} {ys : List Value} (h : cur.toList.take n = ys) (hj : j < n) : cur[j]? = ys[j]? := by
  rw [← h, List.getElem?_take, if_pos hj, Array.getElem?_toList]
theorem RowV.told (h : RowV w lo hi A n xs) : RowC w lo hi A n xs :=
  ⟨h.1, fun hn => by
    obtain ⟨b, cur, e, hl, hb, hc, ht⟩ := h.2 hn
    refine ⟨b, e, hl, hb, fun j hj => ?_⟩
    have hj2 : j < xs.length := by rw [h.1]; exact hj
    rw [cell_of_row w b j _ _ (0, 0) hc, take_at ht hj, List.getElem?_map, List.getElem?_eq_getElem hj2]
    simp⟩
theorem RowV.ints (h : RowV w lo hi A n xs) {B : Nat} (hB : hi ≤ B) : Ints w B A n xs := h.told.ints hB
theorem rowV_of_own {base m : Nat} {v : Value} (h : w.ownsRow base 3 1 v m (xs.map (Value.int .i64))) : ∃ A c, v = .slice A m c ∧ RowV w base w.heap.size A m xs := by
  have hl : xs.length = m := by simpa using h.1
  rcases h.2 with ⟨rfl, rfl⟩ | ⟨g, cap, cur, rfl, hg, hc, _, _, _, ht⟩
  · obtain rfl : xs = [] := List.eq_nil_of_length_eq_zero hl
    exact ⟨none, 0, rfl, RowV.nil _ _ _ _⟩
  · exact ⟨_, cap, rfl, hl, fun _ => ⟨g, cur, rfl, hg, (Array.getElem?_eq_some_iff.1 hc).1, hc, by simpa using ht⟩⟩
end

set_option maxHeartbeats 1000000 in
theorem markIntS_cells (b n c : Nat) (zs : List Int) (cur : Array Value) (k : Int) (w : World) (hA : w.heap[b]? = some (.cells cur 3 (0, 0))) (ht : cur.toList.take n = zs.map (Value.int .i64)) (hn : zs.length = n) (hbig : n ≤ 1048576) (hk0 : 0 ≤ k) (hk1 : k ≤ 1152921504606846976) :
    Calls Try.prog 43 #[.slice (some ⟨b, 0, none⟩) n c, .int .i64 k] w fun e w' => e = .returned (.int .i64 (k + n)) ∧ (∃ cur' : Array Value, w'.heap[b]? = some (.cells cur' 3 (0, 0)) ∧ cur'.toList.take n = (counted k n).map (Value.int .i64)) ∧ w.grownBy w' (some b) := by
  have hlen := Lib.hid hn
  clear hn
  go_enter Try.func43, Try.ntmps43
  go_wp2
  go_loopw [1, 5] (fun v i wr => ∃ j : Nat, j ≤ n ∧ i = .int .i64 j ∧ v = .int .i64 (k + j) ∧ (∃ cur' : Array Value, wr.heap[b]? = some (.cells cur' 3 (0, 0)) ∧ cur'.toList.take n = (markedTo zs k j).map (Value.int .i64)) ∧ w.grownBy wr (some b)) (fun _ i _ => n - (intOf i).toNat)
  case atStart => exact ⟨0, by omega, rfl, by go_num, ⟨cur, hA, ht⟩, World.grownBy.refl w _⟩
  case round =>
    obtain ⟨j, hj, rfl, rfl, ⟨cur', hc, hm⟩, hG⟩ := hrel
    rename World => wx
    by_cases hlt : j < n
    · have hl2 := markedTo_len (zs := zs) (k := k) (i := j) (by rw [hlen.out]; exact hj)
      have hcs : wx.cell? ⟨b, j, none⟩ = some (.int .i64 ((markedTo zs k j)[j]?.getD 0)) := by
        rw [cell_of_row _ b j _ _ (0, 0) hc, take_at hm hlt, List.getElem?_map, List.getElem?_eq_getElem (by rw [hl2, hlen.out]; exact hlt)]
        simp
      have hfs := frozen_of_row _ b j _ _ hc
      have Hms := Lib.hid (markedTo_succ (zs := zs) (k := k) (i := j) (by rw [hlen.out]; exact hlt))
      have Hm := Lib.hid hm
      clear hl2 hm
      go_wp2
      go_roundw
      case rel =>
        refine ⟨j + 1, by omega, by go_num, by rw [Int.natCast_add, ← Int.add_assoc]; rfl, ⟨cur'.setIfInBounds j (.int .i64 (k + (j : Int))), by simp [World.setCell, Array.getElem?_modify, hc], ?_⟩, only_setCell hG (.inl rfl) _⟩
        rw [Array.toList_setIfInBounds, List.take_set, Hm.out, ← List.map_set, Hms.out]
      case measure => simp [intOf]; omega
    · obtain rfl : j = n := by omega
      go_wp2
      go_ret
      refine ⟨rfl, ⟨cur', hc, ?_⟩, hG⟩
      rw [hm, markedTo, List.drop_eq_nil_of_le (by rw [hlen.out]; exact Nat.le_refl _), List.append_nil]

theorem markIntS_rowV (A : Option Addr) (n c lo hi : Nat) (xs : List Int) (k : Int) (w : World) (h : RowV w lo hi A n xs) (hbig : n ≤ 1048576) (hk0 : 0 ≤ k) (hk1 : k ≤ 1152921504606846976) :
    Calls Try.prog 43 #[.slice A n c, .int .i64 k] w fun e w' => e = .returned (.int .i64 (k + n)) ∧ RowV w' lo hi A n (counted k n) ∧ Upd (fun j => lo ≤ j ∧ j < hi) w w' := by
  by_cases hn : 0 < n
  · obtain ⟨b, cur, rfl, hl, hb, hA, ht⟩ := h.2 hn
    refine (markIntS_cells b n c xs cur k w hA ht h.1 hbig hk0 hk1).mono ?_
    rintro e w' ⟨rfl, ⟨cur', hA', ht'⟩, hg⟩
    exact ⟨rfl, ⟨by simp [counted], fun _ => ⟨b, cur', rfl, hl, hb, hA', ht'⟩⟩, (Upd.refl _ _).grown hg (fun j e => by cases e; exact .inr ⟨hl, hb⟩)⟩
  · obtain rfl : n = 0 := by omega
    refine (markIntS_nil A c k w).mono ?_
    rintro e w' ⟨rfl, rfl⟩
    exact ⟨ret_int (by simp), by simpa [counted] using RowV.nil _ lo hi A, Upd.refl _ _⟩
/-- What a function that hands back a new row of numbers does. -/
def GivesRowV (w : World) (xs : List Int) (e : Ending) (w' : World) : Prop := ∃ A n c, e = .returned (.slice A n c) ∧ RowV w' w.heap.size w'.heap.size A n xs ∧ Below w.heap.size w w'
/-- What a function that hands back a new row and whether there is one does. -/
def GivesAtV (w : World) (xs : List Int) (t : Bool) (e : Ending) (w' : World) : Prop := ∃ A n c, e = .returned (.tuple #[.slice A n c, .bool t]) ∧ RowV w' w.heap.size w'.heap.size A n xs ∧ Below w.heap.size w w'
theorem RowV.set0 {w : World} {lo hi n : Nat} {A : Option Addr} {xs : List Int} (h : RowV w lo hi A n xs) {b : Nat} (hA : A = some ⟨b, 0, none⟩) (v : Int) : RowV (w.setCell ⟨b, 0, none⟩ (.int .i64 v)) lo hi A n (xs.set 0 v) :=
  ⟨by rw [List.length_set]; exact h.1, fun hn => by
    obtain ⟨b', cur, e, hl, hb, hc, ht⟩ := h.2 hn
    rw [hA] at e
    cases e
    exact ⟨b, cur.setIfInBounds 0 (.int .i64 v), hA, hl, hb, by simp [World.setCell, Array.getElem?_modify, hc], by rw [Array.toList_setIfInBounds, List.take_set, ht, ← List.map_set]⟩⟩
theorem RowV.cell {w : World} {lo hi n : Nat} {A : Option Addr} {xs : List Int} (h : RowV w lo hi A n xs) (hn : 0 < n) : ∃ b, A = some ⟨b, 0, none⟩ ∧ lo ≤ b ∧ b < hi ∧ (∀ j, w.frozen? ⟨b, j, none⟩ = false) ∧ ∀ j, j < n → w.cell? ⟨b, j, none⟩ = some (.int .i64 (xs[j]?.getD 0)) := by
  obtain ⟨b, cur, e, hl, hb, hc, ht⟩ := h.2 hn
  obtain ⟨b', e', _, _, hcell⟩ := h.told.2 hn
  rw [e] at e'
  cases e'
  exact ⟨b, e, hl, hb, fun j => frozen_of_row _ _ j _ _ hc, hcell⟩
end Go.Proofs.Ythjmedbjdjkilaa

/- LineAt: the model's. -/
namespace Go.Proofs.Ythjmedbjdjkilaa
open Go.RowKit Go.Shelf
attribute [local go_sem] Oper.semAt_some
attribute [local go_sem, local simp] wide_fn

theorem OwnS.keep' {S R : Nat → Prop} {w w' : World} {B : Nat} {e : TypeId} {v : Value} {xs : List Int} (h : OwnS S w B e v xs) (hu : Upd R w w') (hS : ∀ k, S k → k < w.heap.size → ¬ R k) : OwnS S w' B e v xs := by
  obtain ⟨h0, h1⟩ := h
  refine ⟨h0, h1.1, ?_⟩
  rcases h1.2 with e | ⟨g, cap, cur, rfl, hg, hc, hrest⟩
  · exact .inl e
  · have hl := (Array.getElem?_eq_some_iff.1 hc).1
    exact .inr ⟨g, cap, cur, rfl, hg, (hu.block g hl (hS g (h0 g rfl) hl)).trans hc, hrest⟩

set_option maxRecDepth 100000 in
set_option maxHeartbeats 8000000 in
theorem specLineAtF_any (A : Option Addr) (n c : Nat) (zs : List Int) (r : Int) (w : World) (h : Ints w w.heap.size A n zs) (hbig : n ≤ 1152921504606846976) :
    Calls Try.prog 29 #[.slice A n c, .int .i64 r] w (GivesAtV w (atR zs r) (hasAt zs r)) := by
  obtain ⟨i0, hi0, hz0, hz1, hz2⟩ := info_parts infoInt
  have hlen := Lib.hid h.len
  cases hv : vo zs
  · have Hh := Lib.hid (show hasAt zs r = false by unfold hasAt; rw [hv]; rfl)
    have Ht := Lib.hid (show atR zs r = [] by unfold atR; rw [Hh.out]; rfl)
    go_enter Try.func29, Try.ntmps29
    go_wp2_with fail
    refine (validOrder_any _ _ _ _ zs _ h hbig).mono ?_
    rw [hv]
    rintro e w' ⟨rfl, m, rfl⟩
    go_wp2_with fail
    go_ret2
    exact ⟨none, 0, 0, by rw [Hh.out]; rfl, by rw [Ht.out]; exact RowV.nil _ _ _ _, below_drewN (Below.refl _ _) m⟩
  · have hvo : VoP zs := by simpa [vo] using hv
    have Hv := Lib.hid hv
    clear hv
    have hn6 : n ≤ 6 := by have := hvo.1; rw [hlen.out] at this; exact this
    have hg := cF_le hvo (s := 2 ^ n - 1) (by rw [hlen.out]; have := Nat.two_pow_pos n; omega)
    obtain ⟨g, hgg⟩ : ∃ g, cF zs (2 ^ n - 1) = g := ⟨_, rfl⟩
    have Hgg := Lib.hid (show cG zs (2 ^ n - 1) = g by rw [← hgg]; have := count_both hvo; rw [hlen.out] at this; exact this)
    have Hgf := Lib.hid hgg
    have Hhas := Lib.hid (show hasAt zs r = inB r 0 ((g : Int) - 1) by
      unfold hasAt inB; rw [Hv.out, hlen.out, hgg, Bool.true_and, ← Bool.decide_and]
      exact decide_eq_decide.2 (by omega))
    rw [hgg] at hg
    clear hgg
    cases hin : inB r 0 ((g : Int) - 1)
    · have Hh := Lib.hid (Hhas.out.trans hin)
      have Ht := Lib.hid (show atR zs r = [] by unfold atR; rw [Hh.out]; rfl)
      have Hin := Lib.hid hin
      clear hin
      go_enter Try.func29, Try.ntmps29
      go_wp2_with fail
      refine (validOrder_any _ _ _ _ zs _ h hbig).mono ?_
      rw [Hv.out]
      rintro e w' ⟨rfl, m, rfl⟩
      have hB1 := below_drewN (Below.refl w.heap.size w) m
      go_wp2_with fail
      refine (scountLines_any A n c zs hvo _ ((h.drewN m).more (by simp))).mono ?_
      rw [Hgg.out]
      rintro e w2 ⟨rfl, hB2⟩
      have C2 := hB1.trans (hB2.mono (by simp))
      go_wp2_with fail
      refine (inRange_any _ _ _ _).mono ?_
      rw [Hin.out]
      rintro e w' ⟨rfl, rfl⟩
      go_wp2_with fail
      go_ret2
      exact ⟨none, 0, 0, by rw [Hh.out]; rfl, by rw [Ht.out]; exact RowV.nil _ _ _ _, C2⟩
    · have Hh := Lib.hid (Hhas.out.trans hin)
      obtain ⟨R, rfl⟩ : ∃ R : Nat, r = (R : Int) := ⟨r.toNat, by simp only [inB, decide_eq_true_eq] at hin; omega⟩
      have hRg : R < g := by simp only [inB, decide_eq_true_eq] at hin; omega
      have hRF : R < cF zs (2 ^ zs.length - 1) := by rw [hlen.out, Hgf.out]; exact hRg
      have Ht := Lib.hid (show atR zs (R : Int) = atL zs R n by unfold atR; rw [Hh.out, if_pos rfl, hlen.out]; rfl)
      have Hin := Lib.hid hin
      clear hin
      have Hok := Lib.hid (fun k hk => stA_ok hvo hRF (k := k) hk)
      have Hst := Lib.hid (fun k (hk : k < zs.length) => stA_step hvo hRF hk)
      clear hRF
      have Hdu := Lib.hid (show downP n (pairsL zs) = du zs by unfold du; rw [hlen.out])
      have hds := du_sets hvo.sets
      have Hdl := Lib.hid (show (du zs).length = n by rw [du_len, hlen.out])
      have hp64 := pow_le64 hn6
      go_enter Try.func29, Try.ntmps29
      go_wp2_with fail
      refine (validOrder_any _ _ _ _ zs _ h hbig).mono ?_
      rw [Hv.out]
      rintro e w' ⟨rfl, m, rfl⟩
      have i1 : Ints (w.drewN m) (w.drewN m).heap.size A n zs := h.drewN m
      have B1 : Below w.heap.size w (w.drewN m) := below_drewN (Below.refl _ _) m
      have z1 : w.heap.size ≤ (w.drewN m).heap.size := B1.size
      generalize w.drewN m = w1 at *
      go_wp2_with fail
      refine (scountLines_any A n c zs hvo _ i1).mono ?_
      rw [Hgg.out]
      rintro e w2 ⟨rfl, hB2⟩
      have z2 := hB2.size
      have i2 := i1.to hB2 (Nat.le_refl _) z2
      have B2 := B1.trans (hB2.mono z1)
      clear i1 B1 hB2
      go_wp2_with fail
      refine (inRange_any _ _ _ _).mono ?_
      rw [Hin.out]
      rintro e w' ⟨rfl, rfl⟩
      go_wp2_with fail
      have h1 := own_new w2 3
      have hU1 : Upd (fun _ => False) w2 (w2.alloc (.cells #[] 3)) := (Upd.refl _ w2).alloc _
      have hz1' : (w2.alloc (.cells #[] 3)).heap.size = w2.heap.size + 1 := by simp
      obtain ⟨W1, hW1⟩ : ∃ W1, w2.alloc (.cells #[] 3) = W1 := ⟨_, rfl⟩
      rw [hW1] at h1 hU1 hz1' ⊢
      clear hW1
      obtain ⟨hza, hzb⟩ : w2.heap.size < W1.heap.size ∧ W1.heap.size ≤ w2.heap.size + 1 := by omega
      clear hz1'
      have hB1 : Below w2.heap.size w2 W1 := hU1.toBelow (fun _ e => e.elim) (Nat.le_refl _)
      refine (downOf_any A n c zs W1 (i2.to hB1 (Nat.le_refl _) (by omega)) hvo.sets).mono ?_
      rintro e w3 ⟨rfl, hA3, hB3⟩
      rw [Hdu.out] at hA3
      have z3 := hB3.size
      have l3 := hA3.lt
      have O3 : OwnS (fun k => k = w2.heap.size) w3 w2.heap.size 3 (.slice (some ⟨w2.heap.size, 0, none⟩) 0 0) [] := OwnS.keep (S := fun k => k = w2.heap.size) ⟨fun k hk => by simp [Value.ownBlock] at hk; exact hk.symm, h1⟩ (Below.toUpd hB3) (fun k hk e => by omega)
      have hU3 : Upd (fun _ => False) w2 w3 := hU1.below hB3 (fun k h1 h2 => by omega)
      have i3 := i2.to (hU3.toBelow (B := w2.heap.size) (fun _ e => e.elim) (Nat.le_refl _)) (Nat.le_refl _) (Nat.le_refl _)
      obtain ⟨q, hq⟩ : ∃ q, W1.heap.size = q := ⟨_, rfl⟩
      rw [hq] at hA3 hza hzb z3 l3 ⊢
      clear hq h1 hU1 hB1 hB3 i2
      go_wp2_with fail
      go_loopw [1, 6, 7] (fun rk v t wr => ∃ k : Nat, k ≤ n ∧ rk = .int .i64 ((stA zs R k).2 : Int) ∧ t = .int .i64 ((stA zs R k).1 : Int) ∧ OwnS (fun k => k = w2.heap.size ∨ w3.heap.size ≤ k) wr w2.heap.size 3 v (atL zs R k) ∧ Upd (fun k => k = w2.heap.size) w3 wr) (fun _ _ t _ => n - (popI (intOf t)).toNat)
      case atStart => exact ⟨0, by omega, rfl, rfl, ⟨fun k hk => .inl (O3.1 k hk), O3.2⟩, Upd.refl _ _⟩
      case round =>
        obtain ⟨k, hk, rfl, rfl, hO, hU⟩ := hrel
        rename World => w4
        have z4 := hU.size
        obtain ⟨A4, c4, hv4, hI4, -⟩ := ints_of_own_at hO.2
        have Hal := Lib.hid (atL_len zs R k)
        rw [Hal.out] at hv4
        subst hv4
        by_cases hlt : k < n
        · obtain ⟨hD, hP, hPr⟩ := Hst.out k (by rw [hlen.out]; exact hlt)
          have hpp := Hok.out k (by rw [hlen.out]; exact hk)
          have hpop := hpp.2.1
          have hpop2 := (Hok.out (k + 1) (by rw [hlen.out]; exact hlt)).2.1
          have hpk := pk_ok hPr
          have hpn := pk_next hPr
          have hpc := pk_cnt hPr
          have Hs1 := Lib.hid (show stA zs R (k + 1) = ((stA zs R k).1 + 2 ^ pk zs (stA zs R k).1 (stA zs R k).2, (stA zs R k).2 - rkIn zs (stA zs R k).1 (pk zs (stA zs R k).1 (stA zs R k).2)) from rfl)
          have Hl1 := Lib.hid (show atL zs R (k + 1) = atL zs R k ++ [(pk zs (stA zs R k).1 (stA zs R k).2 : Int)] from rfl)
          have Hmono := Lib.hid (fun a b (e : a ≤ b) => rkIn_mono' (zs := zs) (D := (stA zs R k).1) e)
          have Hp1 := Lib.hid hpop
          have Hp2 := Lib.hid hpop2
          clear hpp hpop hpop2 hPr
          rw [hlen.out] at hD hpk hpc
          have d4 : Arr w4 q 3 (du zs) := hA3.upd hU (fun e => by omega)
          have hD64 : (stA zs R k).1 < 64 := by omega
          generalize hxx : pk zs (stA zs R k).1 (stA zs R k).2 = x at *
          generalize hdd : (stA zs R k).1 = D at *
          generalize hrr : (stA zs R k).2 = P at *
          have Hxx := Lib.hid hxx
          have Hdd := Lib.hid hdd
          have Hrr := Lib.hid hrr
          clear hxx hdd hrr
          obtain ⟨hx1, hx2, hx3⟩ := hpk
          go_wp2_with fail
          go_loopw [1, 6, 7, 9] (fun rk v t i wr => ∃ a : Nat, a ≤ x ∧ i = .int .i64 a ∧ rk = .int .i64 ((P - rkIn zs D a : Nat) : Int) ∧ v = .slice A4 k c4 ∧ t = .int .i64 (D : Int) ∧ Upd (fun _ => False) w4 wr) (fun _ _ _ i _ => x - (intOf i).toNat)
          case atStart => exact ⟨0, by omega, rfl, by simp [rkIn], rfl, rfl, Upd.refl _ _⟩
          case round =>
            obtain ⟨a, ha, rfl, rfl, rfl, rfl, hUa⟩ := hrel
            rename World => w5
            have z5 := hUa.size
            have hle := Hmono.out a x ha
            have han : a < n := by omega
            have hcd := (d4.upd hUa (fun e => e)).cell (k := a) (by rw [Hdl.out]; exact han)
            have hz := hds.bd a (by rw [Hdl.out]; exact han)
            have hless : bits .andNot .i64 ((du zs)[a]?.getD 0) (D : Int) = lessI ((du zs)[a]?.getD 0) (D : Int) := bits_less (by omega) (by omega) (by omega) (by omega)
            have Hsu := Lib.hid (rkIn_succ zs D a)
            have hU5 : Upd (fun k => k = w2.heap.size) w3 w5 := hU.trans' hUa (fun i hi e => e.elim)
            have i5 := i3.to (hU5.toBelow (B := w2.heap.size) (fun _ e => by omega) (by omega)) (Nat.le_refl _) (C := w5.heap.size) (by omega)
            cases hbd : D.testBit a
            · have hbi : (bitI (D : Int) a == 1) = false := by unfold bitI; rw [bit_cast, hbd]; rfl
              cases hl : (lessI ((du zs)[a]?.getD 0) (D : Int) != 0)
              · have hne : nextE zs D a = true := by unfold nextE; rw [hbd]; simpa [bne] using hl
                have hadd := add_lt hn6 hD han hbd
                have Hor := Lib.hid ((bits_or (a := (D : Int)) (b := powI a) (by omega) (by omega) (Int.le_of_lt (powI_pos _)) (by have := powI_le6 (n := (a : Int)) (by omega); omega)).trans (or_is hD64 (show a < 6 by omega) hbd))
                have hcb := cF_le hvo (s := 2 ^ n - 1 - (D + 2 ^ a)) (by rw [hlen.out]; exact Nat.lt_of_le_of_lt (Nat.sub_le _ _) (by have := Nat.two_pow_pos n; omega))
                by_cases hax : a = x
                · subst hax
                  obtain ⟨cc, hcc⟩ : ∃ cc, cF zs (2 ^ n - 1 - (D + 2 ^ a)) = cc := ⟨_, rfl⟩
                  have hO5 := hO.keep hUa (fun _ _ e => e)
                  have Hln := Lib.hid (show (atL zs R k).length = k from Hal.out)
                  have hra : rkIn zs D a ≤ P := hx2
                  rw [hcc] at hpc hcb
                  clear hne hpn hx3
                  generalize rkIn zs D a = ra at *
                  go_wp2_with (first
                    | (go_at_call 75; refine (bit_any _ _ _ (by omega) (by omega) (by omega) (by omega)).mono ?_; rintro e w' ⟨rfl, rfl⟩)
                    | (go_at_call 77; refine (power_any _ _ (by omega) (by omega)).mono ?_; rintro e w' ⟨rfl, rfl⟩))
                  rw [Hor.out]
                  refine (srest_any _ n _ zs hvo (D + 2 ^ a) w5 i5 hadd).mono ?_
                  rw [hcc]
                  rintro e w6 ⟨rfl, hB6⟩
                  have z6 := hB6.size
                  have hO6 := hO5.keep' (Below.toUpd hB6) (fun i hi h2 e => by omega)
                  have hU6 : Upd (fun _ => False) w4 w6 := hUa.below hB6 (fun i h1 h2 => by omega)
                  have Hx4 := Lib.hid Hl1.out
                  go_wp2_with (first
                    | (go_at_call 77; refine (power_any _ _ (by omega) (by omega)).mono ?_; rintro e w' ⟨rfl, rfl⟩)
                    | (at_builtin; refine wpList_append1 _ rfl (.tmp 58) (.tmp 60) _ rfl w2.heap.size 3 i0 _ 8 Try.underlying23 hi0 hz0 hz1 hz2 rfl _ (atL zs R k).length _ rfl (hO6.2.alloc _) w6.heap.size 1 (.int .i64 a) rfl (cell_new _ _ _) rfl (by rw [Hln.out]; omega) (by rw [Hln.out]; omega) (by simp; omega) ?_; rintro v' w' hown' hg' hv'))
                  rw [Hor.out]
                  have zg := hg'.size
                  simp at zg
                  go_roundw
                  case rel => exact ⟨k + 1, by omega, by rw [Hs1.out], by rw [Hs1.out], by rw [Hl1.out]; exact hO6.step hown' hv' (fun k e => e) (fun _ => .inr (by omega)), ((hU.trans' hU6 (fun i hi e => e.elim)).alloc _).grown hg' (fun k hk => by rcases hO.1 k hk with e | e <;> omega)⟩
                  case measure => (have hp2 := Hp2.out; rw [Hs1.out] at hp2; have hp1 := Hp1.out; simp only [intOf] at hp1 hp2 ⊢; rw [hp1, hp2]; omega)
                · have Hsu2 := Lib.hid (show rkIn zs D (a + 1) = rkIn zs D a + cF zs (2 ^ n - 1 - (D + 2 ^ a)) by rw [Hsu.out, hne, hlen.out, if_pos rfl])
                  have hle2 := Hmono.out (a + 1) x (by omega)
                  rw [Hsu2.out] at hle2
                  obtain ⟨cc, hcc⟩ : ∃ cc, cF zs (2 ^ n - 1 - (D + 2 ^ a)) = cc := ⟨_, rfl⟩
                  have Hcc := Lib.hid hcc
                  rw [hcc] at hle2 hcb
                  clear hcc hne
                  generalize hra : rkIn zs D a = ra at *
                  have Hra := Lib.hid hra
                  clear hra
                  go_wp2_with (first
                    | (go_at_call 75; refine (bit_any _ _ _ (by omega) (by omega) (by omega) (by omega)).mono ?_; rintro e w' ⟨rfl, rfl⟩)
                    | (go_at_call 77; refine (power_any _ _ (by omega) (by omega)).mono ?_; rintro e w' ⟨rfl, rfl⟩))
                  rw [Hor.out]
                  refine (srest_any _ n _ zs hvo (D + 2 ^ a) w5 i5 hadd).mono ?_
                  rw [Hcc.out]
                  rintro e w6 ⟨rfl, hB6⟩
                  go_wp2_with fail
                  go_roundw
                  case rel => exact ⟨a + 1, by omega, by go_num, congrArg (Value.int .i64) (by rw [Hsu2.out, Hcc.out]; omega), rfl, rfl, hUa.below hB6 (fun i h1 h2 => by omega)⟩
                  case measure => simp [intOf]; omega
              · have hne : nextE zs D a = false := by unfold nextE; rw [hbd]; simpa [bne] using hl
                have hax : a ≠ x := fun e => by rw [e] at hne; rw [hne] at hpn; cases hpn
                have Hn := Lib.hid (show rkIn zs D (a + 1) = rkIn zs D a by rw [Hsu.out, hne]; simp)
                clear hne
                go_wp2_with (go_at_call 75; refine (bit_any _ _ _ (by omega) (by omega) (by omega) (by omega)).mono ?_; rintro e w' ⟨rfl, rfl⟩)
                go_roundw
                case rel => exact ⟨a + 1, by omega, by go_num, by rw [Hn.out], rfl, rfl, hUa⟩
                case measure => simp [intOf]; omega
            · have hbi : (bitI (D : Int) a == 1) = true := by unfold bitI; rw [bit_cast, hbd]; rfl
              have hne : nextE zs D a = false := by unfold nextE; rw [hbd]; rfl
              have hax : a ≠ x := fun e => by rw [e] at hne; rw [hne] at hpn; cases hpn
              have Hn := Lib.hid (show rkIn zs D (a + 1) = rkIn zs D a by rw [Hsu.out, hne]; simp)
              clear hne
              go_wp2_with (go_at_call 75; refine (bit_any _ _ _ (by omega) (by omega) (by omega) (by omega)).mono ?_; rintro e w' ⟨rfl, rfl⟩)
              go_roundw
              case rel => exact ⟨a + 1, by omega, by go_num, by rw [Hn.out], rfl, rfl, hUa⟩
              case measure => simp [intOf]; omega
        · obtain rfl : k = n := by omega
          obtain ⟨A', c', he, hRC⟩ := rowV_of_own hO.2
          rw [Hal.out] at he hRC
          have zz := B2.size
          go_wp2_with fail
          go_ret2
          exact ⟨A4, k, c4, by rw [Hh.out]; rfl, by rw [Ht.out]; exact hRC.more zz (Nat.le_refl _), B2.trans ((hU3.trans' hU (fun i hi e => by omega)).toBelow (fun _ e => e.elim) zz)⟩
end Go.Proofs.Ythjmedbjdjkilaa

/- Ranks and lines tell each other, as plain mathematics. No program. -/
namespace Go.Proofs.Ythjmedbjdjkilaa

theorem pk_of {zs : List Int} {D r x : Nat} (hx : x < zs.length) (h1 : rkIn zs D x ≤ r) (h2 : r < rkIn zs D (x + 1)) : pk zs D r = x := by
  have hr : r < rkIn zs D zs.length := Nat.lt_of_lt_of_le h2 (rkIn_mono' hx)
  obtain ⟨_, p2, p3⟩ := pk_ok hr
  rcases Nat.lt_trichotomy (pk zs D r) x with h | h | h
  · have := rkIn_mono' (zs := zs) (D := D) (show pk zs D r + 1 ≤ x from h); omega
  · exact h
  · have := rkIn_mono' (zs := zs) (D := D) (show x + 1 ≤ pk zs D r from h); omega
theorem full_fin : ∀ n : Fin 7, ∀ s : Fin 64, s.val < 2 ^ n.val → popI (s.val : Int) = (n.val : Int) → 2 ^ n.val - 1 - s.val = 0 := by decide +kernel

section
variable {zs ls : List Int}
theorem line_next (_ : VoP zs) (hs : ∀ k, k < zs.length → stepOk zs ls k = true) {k : Nat} (hk : k < zs.length) : nextE zs (dN ls k) (itN ls k) = true := by
  have hok : ∀ i, i < k → stepOk zs ls i = true := fun i hi => hs i (by omega)
  have h1 := hs k hk
  have h2 := d_new hok h1
  have h3 := (it_is h1).1
  have h4 := (d_is hok).1
  unfold stepOk at h1
  rw [Bool.and_eq_true, Bool.and_eq_true, h3, h4, Int.toNat_natCast] at h1
  unfold nextE
  rw [h2, h1.2.2]; rfl
theorem line_pop (hv : VoP zs) (hs : ∀ k, k < zs.length → stepOk zs ls k = true) : ∀ k : Nat, k ≤ zs.length → popI (dN ls k : Int) = k
  | 0, _ => (by decide +kernel : popI ((0 : Nat) : Int) = ((0 : Nat) : Int))
  | k + 1, hk => by
    have hn6 := hv.1
    have hp64 := pow_le64 hn6
    have ih := line_pop hv hs k (by omega)
    have hok : ∀ i, i < k → stepOk zs ls i = true := fun i hi => hs i (by omega)
    have h1 := hs k (by omega)
    have h2 := d_new hok h1
    have h3 := (it_is h1).2
    have h4 := (d_is hok).2
    rw [d_succ hv hok h1]
    have := pop_add_fin ⟨dN ls k, by omega⟩ ⟨itN ls k, by omega⟩ h2
    simp only at this
    rw [this, ih]; omega
theorem line_full (hv : VoP zs) (hs : ∀ k, k < zs.length → stepOk zs ls k = true) : 2 ^ zs.length - 1 - dN ls zs.length = 0 := by
  have hn6 := hv.1
  have hp64 := pow_le64 hn6
  have h4 := (d_is (zs := zs) (ls := ls) (k := zs.length) fun i hi => hs i hi).2
  exact full_fin ⟨zs.length, by omega⟩ ⟨dN ls zs.length, by omega⟩ h4 (line_pop hv hs _ (Nat.le_refl _))
theorem rkUp_mono : ∀ d k : Nat, rkUp zs ls k ≤ rkUp zs ls (k + d)
  | 0, _ => Nat.le_refl _
  | d + 1, k => by
    have := rkUp_mono d k
    rw [← Nat.add_assoc]
    exact Nat.le_trans this (Nat.le_add_right _ _)
theorem rkUp_mono' {a b : Nat} (h : a ≤ b) : rkUp zs ls a ≤ rkUp zs ls b := by
  have := rkUp_mono (zs := zs) (ls := ls) (b - a) a
  rwa [show a + (b - a) = b by omega] at this
theorem rkUp_succ (k : Nat) : rkUp zs ls (k + 1) = rkUp zs ls k + rkIn zs (dN ls k) (itN ls k) := rfl
theorem rkIn_line (hv : VoP zs) (hs : ∀ k, k < zs.length → stepOk zs ls k = true) {k : Nat} (hk : k < zs.length) :
    rkIn zs (dN ls k) (itN ls k + 1) = rkIn zs (dN ls k) (itN ls k) + cF zs (2 ^ zs.length - 1 - dN ls (k + 1)) := by
  rw [rkIn_succ, line_next hv hs hk, if_pos rfl, d_succ hv (fun i hi => hs i (by omega)) (hs k hk)]
theorem line_lt (hv : VoP zs) (hs : ∀ k, k < zs.length → stepOk zs ls k = true) : ∀ m k : Nat, m + k = zs.length → rkUp zs ls zs.length - rkUp zs ls k < cF zs (2 ^ zs.length - 1 - dN ls k)
  | 0, k, e => by
    obtain rfl : k = zs.length := by omega
    rw [line_full hv hs, cF_zero]; omega
  | m + 1, k, e => by
    have ih := line_lt hv hs m (k + 1) (by omega)
    have hk : k < zs.length := by omega
    have hn6 := hv.1
    have hp64 := pow_le64 hn6
    have h4 := (d_is (zs := zs) (ls := ls) (k := k) fun i hi => hs i (by omega)).2
    have h0 := pop_full_fin ⟨zs.length, by omega⟩ ⟨dN ls k, by omega⟩ h4 (by show popI ((dN ls k : Nat) : Int) < (zs.length : Int); rw [line_pop hv hs k (by omega)]; omega)
    simp only at h0
    have h5 := rkIn_all hv h4 h0
    have h6 := rkIn_line hv hs hk
    have h7 := rkIn_mono' (zs := zs) (D := dN ls k) (show itN ls k + 1 ≤ zs.length from (it_is (hs k hk)).2)
    have h8 := rkUp_mono' (zs := zs) (ls := ls) (show k + 1 ≤ zs.length from hk)
    rw [rkUp_succ] at ih h8
    omega
theorem stA_line (hv : VoP zs) (hs : ∀ k, k < zs.length → stepOk zs ls k = true) : ∀ k : Nat, k ≤ zs.length → stA zs (rkUp zs ls zs.length) k = (dN ls k, rkUp zs ls zs.length - rkUp zs ls k)
  | 0, _ => rfl
  | k + 1, hk => by
    have ih := stA_line hv hs k (by omega)
    have h5 := line_lt hv hs (zs.length - (k + 1)) (k + 1) (by omega)
    have h6 := rkIn_line hv hs (show k < zs.length from hk)
    have h8 := rkUp_mono' (zs := zs) (ls := ls) hk
    have hp : pk zs (dN ls k) (rkUp zs ls zs.length - rkUp zs ls k) = itN ls k := pk_of (it_is (hs k hk)).2 (by rw [rkUp_succ] at h8; omega) (by rw [rkUp_succ] at h8 h5; omega)
    unfold stA
    rw [ih]
    simp only
    rw [hp, d_succ hv (fun i hi => hs i (by omega)) (hs k hk), rkUp_succ, Nat.sub_sub]
theorem pk_line (hv : VoP zs) (hs : ∀ k, k < zs.length → stepOk zs ls k = true) {k : Nat} (hk : k < zs.length) : pk zs (dN ls k) (rkUp zs ls zs.length - rkUp zs ls k) = itN ls k := by
  have h5 := line_lt hv hs (zs.length - (k + 1)) (k + 1) (by omega)
  have h6 := rkIn_line hv hs hk
  have h8 := rkUp_mono' (zs := zs) (ls := ls) (show k + 1 ≤ zs.length from hk)
  exact pk_of (it_is (hs k hk)).2 (by rw [rkUp_succ] at h8; omega) (by rw [rkUp_succ] at h8 h5; omega)
theorem atL_take (hv : VoP zs) (hl : ls.length = zs.length) (hs : ∀ k, k < zs.length → stepOk zs ls k = true) : ∀ k : Nat, k ≤ zs.length → atL zs (rkUp zs ls zs.length) k = ls.take k
  | 0, _ => by simp [atL]
  | k + 1, hk => by
    have ih := atL_take hv hl hs k (by omega)
    unfold atL
    rw [ih, stA_line hv hs k (by omega), pk_line hv hs (by omega), List.take_add_one, List.getElem?_eq_getElem (by omega)]
    have h3 := (it_is (hs k hk)).1
    rw [List.getElem?_eq_getElem (by omega)] at h3
    simp at h3
    simp [h3]
/-- A line is the one of its rank. -/
theorem at_rank (hv : VoP zs) (hl : lineB zs ls = true) : rkUp zs ls zs.length < cF zs (2 ^ zs.length - 1) ∧ atL zs (rkUp zs ls zs.length) zs.length = ls := by
  obtain ⟨h1, hs⟩ := line_steps hl
  refine ⟨?_, by rw [atL_take hv h1 hs _ (Nat.le_refl _), List.take_of_length_le (by omega)]⟩
  have := line_lt hv hs zs.length 0 (by omega)
  have e : dN ls 0 = 0 := rfl
  have e2 : rkUp zs ls 0 = 0 := rfl
  rw [e, e2] at this
  simpa using this
end

section
variable {zs : List Int} {r : Nat}
theorem atL_at : ∀ m k : Nat, k < m → (atL zs r m)[k]?.getD 0 = (pk zs (stA zs r k).1 (stA zs r k).2 : Int)
  | m + 1, k, hk => by
    unfold atL
    rcases Nat.lt_or_ge k m with h | h
    · rw [List.getElem?_append_left (by rw [atL_len]; exact h)]; exact atL_at m k h
    · obtain rfl : k = m := by omega
      rw [List.getElem?_append_right (by rw [atL_len]; exact Nat.le_refl _), atL_len]; simp
theorem atL_done (hv : VoP zs) (hr : r < cF zs (2 ^ zs.length - 1)) : ∀ k : Nat, k ≤ zs.length → doneTo (atL zs r zs.length) k = ((stA zs r k).1 : Int)
  | 0, _ => rfl
  | k + 1, hk => by
    have ih := atL_done hv hr k (by omega)
    have hn6 := hv.1
    have hp64 := pow_le64 hn6
    obtain ⟨h1, _, h3⟩ := stA_step hv hr (show k < zs.length from hk)
    have hp := pk_ok h3
    have hb := (nextE_new (pk_next h3)).1
    unfold doneTo
    rw [ih, atL_at _ _ (show k < zs.length from hk), or_is (by omega) (by omega) hb]
    rfl
theorem atL_step (hv : VoP zs) (hr : r < cF zs (2 ^ zs.length - 1)) {k : Nat} (hk : k < zs.length) : stepOk zs (atL zs r zs.length) k = true := by
  obtain ⟨h1, _, h3⟩ := stA_step hv hr hk
  have hp := pk_ok h3
  have hb := nextE_new (pk_next h3)
  unfold stepOk
  rw [atL_at _ _ hk, atL_done hv hr k (by omega), Int.toNat_natCast, bit_cast, hb.1, hb.2]
  simp [inB]; omega
/-- The line of a rank is one, and has that rank. -/
theorem rank_at (hv : VoP zs) (hr : r < cF zs (2 ^ zs.length - 1)) : lineB zs (atL zs r zs.length) = true ∧ rkUp zs (atL zs r zs.length) zs.length = r := by
  have hs : ∀ k, k < zs.length → stepOk zs (atL zs r zs.length) k = true := fun k hk => atL_step hv hr hk
  refine ⟨lineB_yes (atL_len _ _ _) rfl hs, ?_⟩
  have hd : ∀ k, k ≤ zs.length → dN (atL zs r zs.length) k = (stA zs r k).1 := fun k hk => by unfold dN; rw [atL_done hv hr k hk]; rfl
  have key : ∀ k : Nat, k ≤ zs.length → rkUp zs (atL zs r zs.length) k + (stA zs r k).2 = r := by
    intro k
    induction k with
    | zero => intro _; simp [rkUp, stA]
    | succ k ih =>
      intro hk
      have ih := ih (by omega)
      obtain ⟨h1, _, h3⟩ := stA_step hv hr (show k < zs.length from hk)
      have hp := pk_ok h3
      have hi : itN (atL zs r zs.length) k = pk zs (stA zs r k).1 (stA zs r k).2 := by unfold itN; rw [atL_at _ _ (show k < zs.length from hk)]; rfl
      have e2 : (stA zs r (k + 1)).2 = (stA zs r k).2 - rkIn zs (stA zs r k).1 (pk zs (stA zs r k).1 (stA zs r k).2) := rfl
      rw [rkUp_succ, hd k (by omega), hi, e2]
      omega
  have h0 := key zs.length (Nat.le_refl _)
  have h1 := (stA_ok hv hr zs.length (Nat.le_refl _)).2.2
  rw [← hd _ (Nat.le_refl _), line_full hv hs, cF_zero] at h1
  omega
end

/-! Turned round. -/
theorem below_any {zs : List Int} (h : VoP zs) {s a : Nat} (hs : s < 2 ^ zs.length) : belowAny zs s a = false ↔ andI (zs[a]?.getD 0) (s : Int) = 0 := by
  unfold belowAny
  rw [andI_zero]
  constructor
  · intro e j hj
    rw [bit_cast] at hj
    have hjn := bit_lt hs hj
    cases e2 : bitB (zs[a]?.getD 0) j
    · rfl
    · have : ((List.range zs.length).any fun b => s.testBit b && bitB ((du zs)[b]?.getD 0) a) = true := by
        rw [List.any_eq_true]
        exact ⟨j, List.mem_range.2 hjn, by rw [du_bit h.sets, hj, e2]; rfl⟩
      rw [e] at this; cases this
  · intro e
    rw [List.any_eq_false]
    intro b _ hb
    rw [Bool.and_eq_true, du_bit h.sets] at hb
    have := e b (by rw [bit_cast]; exact hb.1)
    rw [hb.2] at this; cases this
theorem eF_du {zs : List Int} (h : VoP zs) {s a : Nat} (hs : s < 2 ^ zs.length) (hI : Ideal zs s) : eF (du zs) s a = eG zs s a := by
  unfold eF eG
  rw [du_du h]
  cases hb : s.testBit a
  · rfl
  · have h1 : (lessI ((du zs)[a]?.getD 0) (s : Int) == 0) = true := by
      rw [beq_iff_eq, less_zero]
      exact fun j hj => hI j a hb hj
    rw [h1, Bool.true_and, Bool.true_and, Bool.true_and]
    cases e : belowAny zs s a
    · rw [(below_any h hs).1 e]; rfl
    · have : ¬ andI (zs[a]?.getD 0) (s : Int) = 0 := fun e2 => by rw [(below_any h hs).2 e2] at e; cases e
      simpa using this
theorem ideal_less {zs : List Int} (h : VoP zs) {s a : Nat} (hs : s < 2 ^ zs.length) (hI : Ideal zs s) (he : eG zs s a = true) : Ideal zs (s - 2 ^ a) := by
  have hn6 := h.1
  have hp64 := pow_le64 hn6
  unfold eG at he
  rw [Bool.and_eq_true, Bool.and_eq_true] at he
  obtain ⟨ha, _, hnb⟩ := he
  have han := bit_lt hs ha
  have hpa := Nat.two_pow_pos a
  have hbit : ∀ j, (s - 2 ^ a).testBit j = (s.testBit j && !decide (a = j)) := fun j => by
    rcases Nat.lt_or_ge j 6 with hj | hj
    · exact sub_bit_fin ⟨s, by omega⟩ ⟨a, by omega⟩ ⟨j, hj⟩ ha
    · rw [Nat.testBit_lt_two_pow (Nat.lt_of_lt_of_le (show s - 2 ^ a < 2 ^ 6 by omega) (Nat.pow_le_pow_right (by decide) hj)), Nat.testBit_lt_two_pow (Nat.lt_of_lt_of_le (show s < 2 ^ 6 by omega) (Nat.pow_le_pow_right (by decide) hj))]; rfl
  intro x y hy hb
  rw [hbit, Bool.and_eq_true] at hy ⊢
  refine ⟨hI x y hy.1 hb, ?_⟩
  by_cases e : a = x
  · subst e
    have h2 : belowAny zs s a = true := by
      unfold belowAny
      rw [List.any_eq_true]
      exact ⟨y, List.mem_range.2 (bit_lt hs hy.1), by rw [hy.1, hb]; rfl⟩
    rw [h2] at hnb; simp at hnb
  · simp [e]
theorem cF_du {zs : List Int} (h : VoP zs) : ∀ (k s : Nat), s ≤ k → s < 2 ^ zs.length → Ideal zs s → cF (du zs) s = cG zs s
  | 0, s, hk, _, _ => by
    obtain rfl : s = 0 := by omega
    rw [cF_zero, cG_zero]
  | k + 1, s, hk, hs, hI => by
    by_cases h0 : s = 0
    · subst h0; rw [cF_zero, cG_zero]
    · rw [cF_pos h0, cG_pos h0, du_len]
      refine sum_congr fun a ha => ?_
      rw [eF_du h hs hI]
      cases he : eG zs s a
      · rfl
      · have hlt := sub_lt (a := a) h0
        rw [if_pos rfl, if_pos rfl, cF_du h k (s - 2 ^ a) (by omega) (by omega) (ideal_less h hs hI he)]
/-- The order turned round has as many lines. -/
theorem count_du {zs : List Int} (h : VoP zs) : cF (du zs) (2 ^ zs.length - 1) = cF zs (2 ^ zs.length - 1) := by
  have hp := Nat.two_pow_pos zs.length
  rw [cF_du h _ _ (Nat.le_refl _) (by omega) (fun a b _ hb => by
    have := (du_small h hb).1
    rw [Nat.testBit_two_pow_sub_one]; simpa using this), count_both h]
end Go.Proofs.Ythjmedbjdjkilaa

/- A line backwards is one of the order turned round, as plain mathematics. No program. -/
namespace Go.Proofs.Ythjmedbjdjkilaa

section
variable {zs ls : List Int}
theorem add_bit {s a j : Nat} (hs : s < 64) (ha : a < 6) (hb : s.testBit a = false) (h64 : s + 2 ^ a < 64) : (s + 2 ^ a).testBit j = (s.testBit j || decide (a = j)) := by
  rcases Nat.lt_or_ge j 6 with hj | hj
  · exact add_bit_fin ⟨s, hs⟩ ⟨a, ha⟩ ⟨j, hj⟩ hb
  · have h6 : ∀ t : Nat, t < 64 → t.testBit j = false := fun t ht => Nat.testBit_lt_two_pow (Nat.lt_of_lt_of_le (show t < 2 ^ 6 by omega) (Nat.pow_le_pow_right (by decide) hj))
    rw [h6 _ h64, h6 _ hs, decide_eq_false (by omega)]; rfl
theorem line_add (hv : VoP zs) (hs : ∀ k, k < zs.length → stepOk zs ls k = true) {k : Nat} (hk : k < zs.length) (j : Nat) : (dN ls (k + 1)).testBit j = ((dN ls k).testBit j || decide (itN ls k = j)) := by
  have hn6 := hv.1
  have hp64 := pow_le64 hn6
  have hok : ∀ i, i < k → stepOk zs ls i = true := fun i hi => hs i (by omega)
  have h1 := (d_is hok).2
  have h2 := (d_is (zs := zs) (ls := ls) (k := k + 1) fun i hi => hs i (by omega)).2
  have h3 := (it_is (hs k hk)).2
  have e := d_succ hv hok (hs k hk)
  rw [e] at h2 ⊢
  exact add_bit (by omega) (by omega) (d_new hok (hs k hk)) (by omega)
theorem line_ideal (hv : VoP zs) (hs : ∀ k, k < zs.length → stepOk zs ls k = true) : ∀ k : Nat, k ≤ zs.length → Ideal zs (dN ls k)
  | 0, _ => fun a b hb _ => by
    have e : dN ls 0 = 0 := rfl
    rw [e, Nat.zero_testBit] at hb; cases hb
  | k + 1, hk => fun a b hb hd => by
    rw [line_add hv hs hk] at hb ⊢
    rcases Bool.or_eq_true _ _ ▸ hb with h | h
    · rw [line_ideal hv hs k (by omega) a b h hd]; rfl
    · have hx := of_decide_eq_true h
      subst hx
      have h2 := (nextE_new (line_next hv hs (show k < zs.length from hk))).2
      rw [beq_iff_eq, less_zero] at h2
      rw [h2 a hd]; rfl
theorem back_at (hl : ls.length = zs.length) {k : Nat} (hk : k < zs.length) : ls.reverse[k]?.getD 0 = ls[zs.length - 1 - k]?.getD 0 := by
  rw [List.getElem?_reverse (by omega), hl]
theorem back_done (hv : VoP zs) (hl : ls.length = zs.length) (hs : ∀ k, k < zs.length → stepOk zs ls k = true) : ∀ k : Nat, k ≤ zs.length → doneTo ls.reverse k = ((2 ^ zs.length - 1 - dN ls (zs.length - k) : Nat) : Int)
  | 0, _ => by rw [Nat.sub_zero, line_full hv hs]; rfl
  | k + 1, hk => by
    have hn6 := hv.1
    have hp64 := pow_le64 hn6
    have ih := back_done hv hl hs k (by omega)
    have hm : zs.length - 1 - k < zs.length := by omega
    have e1 : zs.length - k = zs.length - 1 - k + 1 := by omega
    have e2 : zs.length - (k + 1) = zs.length - 1 - k := by omega
    have hok : ∀ i, i < zs.length - 1 - k → stepOk zs ls i = true := fun i hi => hs i (by omega)
    have h2 := (d_is (zs := zs) (ls := ls) (k := zs.length - 1 - k + 1) fun i hi => hs i (by omega)).2
    have e3 := d_succ hv hok (hs _ hm)
    have h3 := it_is (hs _ hm)
    have hb : (2 ^ zs.length - 1 - dN ls (zs.length - 1 - k + 1)).testBit (itN ls (zs.length - 1 - k)) = false := by
      rw [com_bit hn6 h2 (by omega), line_add hv hs hm]; simp
    unfold doneTo
    rw [ih, e1, e2, back_at hl (show k < zs.length from hk), h3.1, or_is (by omega) (by omega) hb]
    have hpx := Nat.two_pow_pos (itN ls (zs.length - 1 - k))
    congr 1
    omega
theorem back_step (hv : VoP zs) (hl : ls.length = zs.length) (hs : ∀ k, k < zs.length → stepOk zs ls k = true) {k : Nat} (hk : k < zs.length) : stepOk (du zs) ls.reverse k = true := by
  have hn6 := hv.1
  have hp64 := pow_le64 hn6
  have hm : zs.length - 1 - k < zs.length := by omega
  have e1 : zs.length - k = zs.length - 1 - k + 1 := by omega
  have hok : ∀ i, i < zs.length - 1 - k → stepOk zs ls i = true := fun i hi => hs i (by omega)
  have h2 := (d_is (zs := zs) (ls := ls) (k := zs.length - 1 - k + 1) fun i hi => hs i (by omega)).2
  have h3 := it_is (hs _ hm)
  have hnw := d_new hok (hs _ hm)
  have hI := line_ideal hv hs (zs.length - 1 - k) (by omega)
  have hb : (2 ^ zs.length - 1 - dN ls (zs.length - 1 - k + 1)).testBit (itN ls (zs.length - 1 - k)) = false := by
    rw [com_bit hn6 h2 (by omega), line_add hv hs hm]; simp
  unfold stepOk
  rw [back_at hl hk, back_done hv hl hs k (by omega), e1, h3.1, Int.toNat_natCast, bit_cast, hb, du_len, du_du hv]
  have hless : (lessI (zs[itN ls (zs.length - 1 - k)]?.getD 0) ((2 ^ zs.length - 1 - dN ls (zs.length - 1 - k + 1) : Nat) : Int) == 0) = true := by
    rw [beq_iff_eq, less_zero]
    intro j hj
    have hj2 : j < zs.length := by
      have := du_small hv (a := j) (j := itN ls (zs.length - 1 - k)) (by rw [du_bit hv.sets]; exact hj)
      exact this.2
    rw [com_bit hn6 h2 (by omega), decide_eq_true hj2, Bool.true_and, line_add hv hs hm]
    have hne : itN ls (zs.length - 1 - k) ≠ j := fun e => by
      have := hv.irrB h3.2
      rw [e] at hj this
      rw [hj] at this; cases this
    rw [decide_eq_false hne, Bool.or_false]
    cases e : (dN ls (zs.length - 1 - k)).testBit j
    · rfl
    · have := hI (itN ls (zs.length - 1 - k)) j e (by rw [du_bit hv.sets]; exact hj)
      rw [hnw] at this; cases this
  rw [hless]
  simp [inB]; omega
/-- A line backwards is one of the order turned round. -/
theorem line_back (hv : VoP zs) (hl : lineB zs ls = true) : lineB (du zs) ls.reverse = true := by
  obtain ⟨h1, hs⟩ := line_steps hl
  exact lineB_yes (m := zs.length) (by simp [h1]) (by rw [du_len]) fun k hk => back_step hv h1 hs hk
end
end Go.Proofs.Ythjmedbjdjkilaa

/- Rows of rows under way: each row in a block of its own, their slices in a row that grows by append. -/
namespace Go.Proofs.Ythjmedbjdjkilaa
open Go.RowKit

theorem infoRow_parts : ∃ i : TypeInfo, Try.prog.info? 23 = some i ∧ i.zero = some (.slice none 0 0) ∧ i.size = 1 ∧ i.bytes = 24 := by
  have h := infoRow
  cases hi : Try.prog.info? 23 with
  | none => rw [hi] at h; cases h
  | some i =>
    rw [hi] at h
    simp only [Option.map_some, Option.some.injEq, Prod.mk.injEq] at h
    exact ⟨i, rfl, h.1, h.2.1, h.2.2⟩

section
variable {w w' : World} {lo hi : Nat}
/-- What turns one block of slices leaves the rows. -/
theorem RowsC.grown : ∀ {lo hi : Nat} {vs : List Value} {rs : List (List Int)}, RowsC w lo hi vs rs → hi ≤ w.heap.size → ∀ {row : Option Nat}, w.grownBy w' row →
    (∀ g, row = some g → ∃ cs, w.heap[g]? = some (.cells cs 23 (0, 0))) → RowsC w' lo hi vs rs
  | _, _, [], [], h, _, _, _, _ => h
  | _, _, _ :: _, _ :: _, ⟨A, c, mid, e, h1, hr, h2⟩, hh, row, hg, ht => by
    refine ⟨A, c, mid, e, h1, ⟨hr.1, fun hn => ?_⟩, h2.grown hh hg ht⟩
    obtain ⟨b, ys, eb, hl, hb, hA⟩ := hr.2 hn
    refine ⟨b, ys, eb, hl, hb, (hg.block b hA.lt (fun e => ?_)).trans hA⟩
    obtain ⟨cs, hcs⟩ := ht b e.symm
    unfold Arr at hA
    rw [hcs] at hA
    cases hA

theorem RowsC.sooner : ∀ {lo lo' hi : Nat} {vs : List Value} {rs : List (List Int)}, RowsC w lo hi vs rs → lo' ≤ lo → RowsC w lo' hi vs rs
  | _, _, _, [], [], h, h' => Nat.le_trans h' h
  | _, _, _, _ :: _, _ :: _, ⟨A, c, mid, e, h1, hr, h2⟩, h' => ⟨A, c, mid, e, Nat.le_trans h' h1, hr.more h' (Nat.le_refl _), h2⟩
theorem RowsR.sooner {lo lo' hi n : Nat} {A : Option Addr} {rs : List (List Int)} (h : RowsR w lo hi A n rs) (hl : lo' ≤ lo) : RowsR w lo' hi A n rs :=
  ⟨h.1, fun hn => by
    obtain ⟨g, vs, cs, e, h1, h2, h3, h4, h5⟩ := h.2 hn
    exact ⟨g, vs, cs, e, by omega, h2, h3, h4, h5.sooner hl⟩⟩

/-- The rows so far: v is their row, all in blocks from B on. -/
def Rowed (w : World) (B : Nat) (v : Value) (rs : List (List Int)) : Prop := ∃ vs, w.ownsRow B 23 1 v rs.length vs ∧ RowsC w B w.heap.size vs rs ∧ B ≤ w.heap.size
theorem Rowed.base {B : Nat} {v : Value} {rs : List (List Int)} (h : Rowed w B v rs) : ∀ k, v.ownBlock = some k → B ≤ k := by
  obtain ⟨vs, h1, _⟩ := h
  exact own_base h1
theorem Rowed.new (w : World) : Rowed (w.alloc (.cells #[] 23)) w.heap.size (.slice (some ⟨w.heap.size, 0, none⟩) 0 0) [] := ⟨[], own_new _ _, by simp [RowsC], by simp⟩
theorem own_block {base n : Nat} {e : TypeId} {v : Value} {xs : List Value} (h : w.ownsRow base e 1 v n xs) : ∀ g, v.ownBlock = some g → ∃ cs, w.heap[g]? = some (.cells cs e (0, 0)) := fun k hk => by
  rcases h.2 with ⟨rfl, _⟩ | ⟨g, cap, cur, rfl, hg, hc, _⟩
  · cases hk
  · cases hk; exact ⟨cur, hc⟩
theorem Rowed.keep {B : Nat} {v : Value} {rs : List (List Int)} {R : Nat → Prop} (h : Rowed w B v rs) (hu : Upd R w w') (hr : ∀ j, R j → j < B ∨ w.heap.size ≤ j) : Rowed w' B v rs := by
  obtain ⟨vs, h1, h2, h3⟩ := h
  refine ⟨vs, ?_, (h2.upd hu hr).more hu.size, Nat.le_trans h3 hu.size⟩
  refine ⟨h1.1, ?_⟩
  rcases h1.2 with e | ⟨g, cap, cur, rfl, hg, hc, hrest⟩
  · exact .inl e
  · exact .inr ⟨g, cap, cur, rfl, hg, (hu.block g (Array.getElem?_eq_some_iff.1 hc).1 (fun e => by have := hr g e; have := (Array.getElem?_eq_some_iff.1 hc).1; omega)).trans hc, hrest⟩
/-- A row of two, and its slice appended. -/
theorem Rowed.step {B n : Nat} {v v' : Value} {rs : List (List Int)} {vs : List Value} {a b : Int} (h1 : w.ownsRow B 23 1 v n vs) (hn : n = rs.length) (h2 : RowsC w B w.heap.size vs rs) (hB : B ≤ w.heap.size)
    (hown : w'.ownsRow B 23 1 v' (n + 1) (vs ++ [.slice (some ⟨w.heap.size, 0, none⟩) 2 2]))
    (hg : ((w.alloc (.cells #[.int .i64 a, .int .i64 b] 3)).alloc (.cells #[.slice (some ⟨w.heap.size, 0, none⟩) 2 2] 23)).grownBy w' v.ownBlock) : Rowed w' B v' (rs ++ [[a, b]]) := by
  have hu : Upd (fun _ => False) w ((w.alloc (.cells #[.int .i64 a, .int .i64 b] 3)).alloc (.cells #[.slice (some ⟨w.heap.size, 0, none⟩) 2 2] 23)) := ((Upd.refl _ w).alloc _).alloc _
  have h3 := h2.upd hu (fun j e => e.elim)
  have hA : Arr (w.alloc (.cells #[.int .i64 a, .int .i64 b] 3)) w.heap.size 3 [a, b] := heap_alloc_new w _
  have h4 := h3.snoc (hi' := w.heap.size + 1 + 1) (r := [a, b]) (c := 2) (Row.of (hA.alloc _) rfl (Nat.le_refl _) (by omega)) (by omega)
  have h5 := h4.grown (by simp) hg (own_block (h1.alloc _ |>.alloc _))
  refine ⟨_, by rw [List.length_append, ← hn]; exact hown, h5.more (by have := hg.size; simpa using this), by have := hg.size; simp at this; omega⟩
/-- At the end. -/
theorem Rowed.rows {B : Nat} {v : Value} {rs : List (List Int)} (h : Rowed w B v rs) : ∃ A c, v = .slice A rs.length c ∧ RowsR w B w.heap.size A rs.length rs := by
  obtain ⟨vs, h1, h2, h3⟩ := h
  rcases h1.2 with ⟨rfl, hn⟩ | ⟨g, cap, cur, rfl, hg, hc, _, _, _, ht⟩
  · obtain rfl : rs = [] := List.eq_nil_of_length_eq_zero hn
    exact ⟨none, 0, rfl, RowsR.nil _ _ _ _⟩
  · refine ⟨_, cap, rfl, rfl, fun _ => ⟨g, vs, cur, rfl, hg, (Array.getElem?_eq_some_iff.1 hc).1, hc, fun j u hj => ?_, h2⟩⟩
    rw [← ht, List.getElem?_take] at hj
    split at hj
    · simpa using hj
    · cases hj
end
end Go.Proofs.Ythjmedbjdjkilaa

/- CoversOf: the model's and the program's. -/
namespace Go.Proofs.Ythjmedbjdjkilaa
open Go.RowKit Go.Shelf
attribute [local go_sem] Oper.semAt_some
attribute [local go_sem, local simp] wide_fn

theorem coverTo_bit {zs : List Int} {a x : Nat} : ∀ b : Nat, bitB (coverTo zs a b) x = (bitB (zs[a]?.getD 0) x && (List.range b).all fun y => !(bitB (zs[a]?.getD 0) y && bitB (zs[y]?.getD 0) x))
  | 0 => by simp [coverTo]
  | b + 1 => by
    have ih := coverTo_bit (zs := zs) (a := a) (x := x) b
    rw [List.range_succ, List.all_append, List.all_cons, List.all_nil, Bool.and_true]
    cases h : bitB (zs[a]?.getD 0) b
    · rw [coverTo_no h, ih]; simp
    · rw [coverTo_yes h, bitB_less, ih, Bool.and_assoc]; simp
theorem coverTo_items {zs : List Int} (h : Sets zs) {a : Nat} (ha : a < zs.length) : itemsL (coverTo zs a zs.length) = (itemsL (zs[a]?.getD 0)).filter (nextB zs a) := by
  unfold itemsL itemsTo
  rw [List.filter_filter]
  refine List.filter_congr fun x hx => ?_
  rw [coverTo_bit, Bool.and_comm]
  congr 1
  unfold nextB
  rw [Bool.eq_iff_iff]
  simp only [List.all_eq_true, List.mem_range, Bool.not_eq_true', itemsL, mem_itemsTo, Bool.and_eq_false_iff]
  constructor
  · rintro h1 y ⟨_, hy⟩
    have hyn := bitB_lt (h.2 a ha).2 hy
    rcases h1 y hyn with h2 | h2
    · rw [hy] at h2; cases h2
    · exact h2
  · intro h1 y hy
    cases hb : bitB (zs[a]?.getD 0) y
    · exact .inl rfl
    · exact .inr (h1 y ⟨by have := h.1; omega, hb⟩)

def rowOf (p : Nat × Nat) : List Int := [(p.1 : Int), (p.2 : Int)]
def covTo (zs : List Int) (k : Nat) : List (Nat × Nat) := (List.range k).flatMap fun a => (itemsL (coverTo zs a zs.length)).map fun b => (a, b)
theorem covTo_succ (zs : List Int) (k : Nat) : covTo zs (k + 1) = covTo zs k ++ (itemsL (coverTo zs k zs.length)).map fun b => (k, b) := by simp [covTo, List.range_succ]
theorem covTo_len {zs : List Int} : ∀ k : Nat, (covTo zs k).length ≤ 6 * k
  | 0 => by simp [covTo]
  | k + 1 => by
    have ih := covTo_len (zs := zs) k
    have h1 : (itemsL (coverTo zs k zs.length)).length ≤ 6 := Nat.le_trans (List.length_filter_le _ _) (by simp)
    rw [covTo_succ]
    simp
    omega
def coverB (zs : List Int) (p : Nat × Nat) : Bool := nextB zs p.1 p.2
theorem cov_pairs {zs : List Int} (h : Sets zs) : covTo zs zs.length = (pairsL zs).filter (coverB zs) := by
  have key : ∀ k, k ≤ zs.length → covTo zs k = (pairsTo zs k).filter (coverB zs) := fun k => by
    induction k with
    | zero => intro _; rfl
    | succ k ih =>
      intro hk
      rw [covTo_succ, pairsTo_succ, List.filter_append, ih (by omega), coverTo_items h (by omega), List.filter_map]
      rfl
  exact key _ (Nat.le_refl _)
def coversR (zs : List Int) : List (List Int) := if vo zs then (covTo zs zs.length).map rowOf else []
theorem pairs_len {zs : List Int} (h : zs.length ≤ 6) : (pairsL zs).length ≤ 36 := by
  have key : ∀ k, (pairsTo zs k).length ≤ 6 * k := fun k => by
    induction k with
    | zero => simp [pairsTo]
    | succ k ih =>
      have h1 : (itemsL (zs[k]?.getD 0)).length ≤ 6 := Nat.le_trans (List.length_filter_le _ _) (by simp)
      rw [pairsTo_succ]
      simp
      omega
  have := key zs.length
  unfold pairsL
  omega
def covAt (zs : List Int) (n a j : Nat) : List (List Int) := (covTo zs a).map rowOf ++ ((itemsL (coverTo zs a n)).take j).map fun b => rowOf (a, b)
theorem covAt_zero (zs : List Int) (n a : Nat) : covAt zs n a 0 = (covTo zs a).map rowOf := by simp [covAt]
theorem covAt_all {zs : List Int} {n a : Nat} (h : zs.length = n) : covAt zs n a (itemsL (coverTo zs a n)).length = (covTo zs (a + 1)).map rowOf := by
  subst h
  simp [covAt, covTo_succ, Function.comp_def]
theorem covAt_succ {zs : List Int} {n a j : Nat} (hj : j < (itemsL (coverTo zs a n)).length) : covAt zs n a j ++ [[(a : Int), ((itemsL (coverTo zs a n)).map fun x : Nat => (x : Int))[j]?.getD 0]] = covAt zs n a (j + 1) := by
  rw [covAt, covAt, List.take_succ_eq_append_getElem hj, List.map_append, ← List.append_assoc]
  simp [rowOf, hj]
theorem covAt_len {zs : List Int} {n a j : Nat} (ha : a < 6) : (covAt zs n a j).length ≤ 36 := by
  have h1 := covTo_len (zs := zs) a
  have h2 : (itemsL (coverTo zs a n)).length ≤ 6 := Nat.le_trans (List.length_filter_le _ _) (by simp)
  have h3 : ((itemsL (coverTo zs a n)).take j).length ≤ 6 := by rw [List.length_take]; omega
  simp only [covAt, List.length_append, List.length_map]
  omega

theorem own_lt {w : World} {B : Nat} {v : Value} {rs : List (List Int)} (h : Rowed w B v rs) : ∀ k, v.ownBlock = some k → k < w.heap.size := fun k hk => by
  obtain ⟨vs, h1, _⟩ := h
  obtain ⟨cs, hcs⟩ := own_block h1 k hk
  exact (Array.getElem?_eq_some_iff.1 hcs).1
theorem cell_new2 (w : World) (o : Obj) (e : TypeId) (u : Value) : ((w.alloc o).alloc (.cells #[u] e)).cell? ⟨w.heap.size + 1, 0, none⟩ = some u := by
  have h := cell_new (w.alloc o) e u
  rwa [World.size_alloc] at h
end Go.Proofs.Ythjmedbjdjkilaa

/- OrderOf: what follows. -/
namespace Go.Proofs.Ythjmedbjdjkilaa
open Go.RowKit Go.Shelf

/-- One step: what is above m is put above l, if m is. -/
def fol1 (m : Nat) (d : List Int) (l : Nat) : List Int := if bitB (d[l]?.getD 0) m then d.set l (orI (d[l]?.getD 0) (d[m]?.getD 0)) else d
def folIn (m : Nat) (d : List Int) (b : Nat) : List Int := (List.range b).foldl (fol1 m) d
def folTo (n : Nat) (d : List Int) (a : Nat) : List Int := (List.range a).foldl (fun d m => folIn m d n) d
theorem folIn_succ (m : Nat) (d : List Int) (b : Nat) : folIn m d (b + 1) = fol1 m (folIn m d b) b := by simp [folIn, List.range_succ]
theorem folTo_succ (n : Nat) (d : List Int) (a : Nat) : folTo n d (a + 1) = folIn a (folTo n d a) n := by simp [folTo, List.range_succ]
def Fit (n : Nat) (d : List Int) : Prop := d.length = n ∧ ∀ j : Nat, 0 ≤ d[j]?.getD 0 ∧ d[j]?.getD 0 < powI n
theorem fol1_fit {n m l : Nat} {d : List Int} (h : Fit n d) : Fit n (fol1 m d l) := by
  unfold fol1
  split
  · refine ⟨by simpa using h.1, fun j => ?_⟩
    by_cases hj : l = j
    · subst hj
      by_cases hl : l < d.length
      · rw [List.getElem?_set_self hl]
        exact orI_bd (h.2 _).1 (h.2 _).2 (h.2 _).1 (h.2 _).2
      · rw [List.set_eq_of_length_le (by omega)]
        exact h.2 _
    · rw [List.getElem?_set_ne hj]
      exact h.2 j
  · exact h
theorem folIn_fit {n m : Nat} {d : List Int} (h : Fit n d) : ∀ b : Nat, Fit n (folIn m d b)
  | 0 => h
  | b + 1 => by rw [folIn_succ]; exact fol1_fit (folIn_fit h b)
theorem folTo_fit {n : Nat} {d : List Int} (h : Fit n d) : ∀ a : Nat, Fit n (folTo n d a)
  | 0 => h
  | a + 1 => by rw [folTo_succ]; exact folIn_fit (folTo_fit h a) n
theorem base_fit {n : Nat} {ps : List (Nat × Nat)} (h : ∀ p ∈ ps, p.1 < n) : Fit n (downP n ps) := ⟨downP_len _ _, fun j => downP_bd h j⟩

set_option maxHeartbeats 2000000 in
theorem addWhatFollows_any (b n : Nat) (d : List Int) (w : World) (hA : Arr w b 65 d) (hf : Fit n d) (hn : n ≤ 6) :
    Calls Try.prog 116 #[.slice (some ⟨b, 0, none⟩) n n] w fun e w' => (∃ v, e = .returned v) ∧ Arr w' b 65 (folTo n d n) ∧ Upd (fun k => k = b) w w' := by
  go_enter Try.func116, Try.ntmps116
  go_wp2
  go_loopw [6] (fun i wr => ∃ a : Nat, a ≤ n ∧ i = .int .i64 a ∧ Arr wr b 65 (folTo n d a) ∧ Upd (fun k => k = b) w wr) (fun i _ => n - (intOf i).toNat)
  case atStart => exact ⟨0, by omega, rfl, hA, Upd.refl _ _⟩
  case round =>
    obtain ⟨a, ha, rfl, hAr, hU⟩ := hrel
    by_cases hak : a < n
    · have hF := folTo_fit hf a
      generalize hD0 : folTo n d a = d0 at *
      have HD0 := Lib.hid hD0
      clear hD0
      go_wp2
      go_loopw [11] (fun i wr => ∃ l : Nat, l ≤ n ∧ i = .int .i64 l ∧ Arr wr b 65 (folIn a d0 l) ∧ Upd (fun k => k = b) w wr) (fun i _ => n - (intOf i).toNat)
      case atStart => exact ⟨0, by omega, rfl, hAr, hU⟩
      case round =>
        clear hAr hU
        obtain ⟨l, hl, rfl, hAr, hU⟩ := hrel
        by_cases hlk : l < n
        · have hFi := folIn_fit (m := a) hF l
          have Hs := Lib.hid (folIn_succ a d0 l)
          generalize hD : folIn a d0 l = D at *
          have HD := Lib.hid hD
          clear hD
          have hpn := powI_le6 (n := (n : Int)) (by omega)
          have hl1 := hFi.2 l
          have ha1 := hFi.2 a
          have hcl := hAr.cell (k := l) (by rw [hFi.1]; exact hlk)
          have hca := hAr.cell (k := a) (by rw [hFi.1]; exact hak)
          have hfl := hAr.frozen l
          cases hbit : bitB (D[l]?.getD 0) a
          · have Hb := Lib.hid hbit
            clear hbit
            go_wp2_with (go_at_call 111; refine (has_any _ _ _ (by omega) (by omega) (by omega) (by omega)).mono ?_; rw [Hb.out]; rintro e w' ⟨rfl, rfl⟩)
            go_roundw
            case rel => exact ⟨l + 1, by omega, by go_num, by rw [Hs.out, fol1, Hb.out]; exact hAr, hU⟩
            case measure => simp [intOf]; omega
          · have Hb := Lib.hid hbit
            clear hbit
            have hor : bits .or .i64 (D[l]?.getD 0) (D[a]?.getD 0) = orI (D[l]?.getD 0) (D[a]?.getD 0) := bits_or (by omega) (by omega) (by omega) (by omega)
            go_wp2_with (go_at_call 111; refine (has_any _ _ _ (by omega) (by omega) (by omega) (by omega)).mono ?_; rw [Hb.out]; rintro e w' ⟨rfl, rfl⟩)
            go_region
            all_goals
              go_wp2
              go_roundw
              case rel => exact ⟨l + 1, by omega, by go_num, by rw [Hs.out, fol1, Hb.out]; exact hAr.set _ _, (hU.setCell (p := ⟨b, l, none⟩) (.inr rfl) _).drewN _⟩
              case measure => simp [intOf]; omega
        · obtain rfl : l = n := by omega
          have Hs := Lib.hid (folTo_succ l d a)
          go_wp2
          go_roundw
          case rel => exact ⟨a + 1, by omega, by go_num, by rw [Hs.out, HD0.out]; exact hAr, hU⟩
          case measure => simp [intOf]; omega
    · obtain rfl : a = n := by omega
      go_wp2
      (try simp only [Exit.inBlock, Exit.then])
      refine bodyPost_end (results_none rfl _ _ _) rfl ?_
      exact ⟨⟨_, rfl⟩, hAr, hU⟩
end Go.Proofs.Ythjmedbjdjkilaa

/- OrderOf: the program's and the model's. -/
namespace Go.Proofs.Ythjmedbjdjkilaa
open Go.RowKit Go.Shelf

/-- Whether a row is a pair of numbers of items. -/
def pairOk (n : Int) (r : List Int) : Bool := decide (r.length = 2) && inB (r[0]?.getD 0) 0 (n - 1) && inB (r[1]?.getD 0) 0 (n - 1)
def prOf (r : List Int) : Nat × Nat := ((r[1]?.getD 0).toNat, (r[0]?.getD 0).toNat)
def baseR (n : Nat) (rs : List (List Int)) : List Int := downP n (rs.map prOf)
def closR (n : Nat) (rs : List (List Int)) : List Int := folTo n (baseR n rs) n
def ordOk (n : Int) (rs : List (List Int)) : Bool := inB n 0 6 && rs.all (pairOk n) && vo (closR n.toNat rs)
def ordL (n : Int) (rs : List (List Int)) : List Int := if ordOk n rs then closR n.toNat rs else []
def GivesOrder (w : World) (n : Int) (rs : List (List Int)) (e : Ending) (w' : World) : Prop :=
  ∃ A m c, e = .returned (.tuple #[.slice A m c, .bool (ordOk n rs)]) ∧ Row w' w.heap.size w'.heap.size A m (ordL n rs) ∧ Below w.heap.size w w'

theorem inB_iff {a l h : Int} : inB a l h = true ↔ l ≤ a ∧ a ≤ h := by simp [inB]
theorem pairOk_iff {n : Int} {r : List Int} : pairOk n r = true ↔ r.length = 2 ∧ ((0 : Int) ≤ r[0]?.getD 0 ∧ r[0]?.getD 0 ≤ n - 1) ∧ ((0 : Int) ≤ r[1]?.getD 0 ∧ r[1]?.getD 0 ≤ n - 1) := by
  simp [pairOk, inB_iff, and_assoc]
theorem baseR_fit {n : Nat} {rs : List (List Int)} (h : ∀ r ∈ rs, pairOk n r = true) : Fit n (baseR n rs) ∧ Sets (baseR n rs) ∨ 6 < n := by
  by_cases hn : n ≤ 6
  · have hf : Fit n (baseR n rs) := base_fit (fun p hp => by
      obtain ⟨r, hr, rfl⟩ := List.mem_map.1 hp
      have := pairOk_iff.1 (h r hr)
      show (r[1]?.getD 0).toNat < n
      omega)
    exact .inl ⟨hf, by rw [hf.1]; exact hn, fun a _ => by rw [hf.1]; exact hf.2 a⟩
  · exact .inr (by omega)
theorem baseR_snoc (n : Nat) (rs : List (List Int)) (r : List Int) : baseR n (rs ++ [r]) = (baseR n rs).set (r[0]?.getD 0).toNat (orI ((baseR n rs)[(r[0]?.getD 0).toNat]?.getD 0) (powI (r[1]?.getD 0).toNat)) := by
  rw [baseR, List.map_append, List.map_singleton, downP_snoc]; rfl
theorem take_snoc {rs : List (List Int)} {k : Nat} (hk : k < rs.length) : rs.take k ++ [rs[k]?.getD []] = rs.take (k + 1) := by
  rw [List.take_succ_eq_append_getElem hk, List.getElem?_eq_getElem hk]; rfl
theorem fit_sets {n : Nat} {d : List Int} (h : Fit n d) (hn : n ≤ 6) : Sets d := ⟨by rw [h.1]; exact hn, fun a _ => by rw [h.1]; exact h.2 a⟩
theorem ord_no {n : Int} {rs : List (List Int)} {k : Nat} (hk : k < rs.length) (h : pairOk n (rs[k]?.getD []) = false) : ordOk n rs = false := by
  unfold ordOk
  rw [List.getElem?_eq_getElem hk, Option.getD_some] at h
  have : rs.all (pairOk n) = false := by
    rw [Bool.eq_false_iff]
    intro ha
    rw [List.all_eq_true.1 ha _ (List.getElem_mem hk)] at h
    cases h
  rw [this]; simp
theorem none_order {w w' : World} {n : Int} {rs : List (List Int)} (h : ordOk n rs = false) (hB : Below w.heap.size w w') : GivesOrder w n rs (.returned (.tuple #[.slice none 0 0, .bool false])) w' :=
  ⟨none, 0, 0, by rw [h], by rw [ordL, h]; exact Row.nil _ _ _ _, hB⟩

end Go.Proofs.Ythjmedbjdjkilaa

/- What follows: the closure by single items is transitive, and is the least one; of next ones it is the order. No program. -/
namespace Go.Proofs.Ythjmedbjdjkilaa

/-- Whether d holds the pair. -/
def qB (d : List Int) (a b : Nat) : Prop := bitB (d[a]?.getD 0) b = true
theorem qB_lt {n : Nat} {d : List Int} (h : d.length = n) {a b : Nat} (hq : qB d a b) : a < n := by
  rcases Nat.lt_or_ge a n with h1 | h1
  · exact h1
  · unfold qB at hq
    rw [List.getElem?_eq_none (by omega), Option.getD_none, bitB_zero] at hq
    cases hq
theorem fol1_q {m l : Nat} {d : List Int} (hl : l < d.length) (a b : Nat) : qB (fol1 m d l) a b ↔ qB d a b ∨ (a = l ∧ qB d l m ∧ qB d m b) := by
  unfold fol1
  split
  · rename_i h
    unfold qB
    by_cases ha : l = a
    · subst ha
      rw [List.getElem?_set_self hl, Option.getD_some, bitB_or, Bool.or_eq_true]
      simp [h]
    · rw [List.getElem?_set_ne ha]
      have : ¬ a = l := fun e => ha e.symm
      simp [this]
  · rename_i h
    unfold qB
    simp [h]
theorem folIn_len (m : Nat) (d : List Int) : ∀ b : Nat, (folIn m d b).length = d.length
  | 0 => rfl
  | b + 1 => by
    rw [folIn_succ]
    unfold fol1
    split
    · rw [List.length_set, folIn_len m d b]
    · exact folIn_len m d b
theorem folIn_q {m : Nat} {d : List Int} : ∀ b' : Nat, b' ≤ d.length → ∀ a b : Nat, qB (folIn m d b') a b ↔ qB d a b ∨ (a < b' ∧ qB d a m ∧ qB d m b)
  | 0, _, a, b => by simp [folIn]
  | b' + 1, h, a, b => by
    have ih := folIn_q (m := m) (d := d) b' (by omega)
    rw [folIn_succ, fol1_q (by rw [folIn_len]; omega), ih a b, ih b' m, ih m b]
    constructor
    · rintro ((h1 | ⟨h1, h2⟩) | ⟨rfl, (h1 | ⟨h1, _⟩), (h2 | ⟨_, _, h2⟩)⟩)
      · exact .inl h1
      · exact .inr ⟨by omega, h2⟩
      · exact .inr ⟨by omega, h1, h2⟩
      · exact .inr ⟨by omega, h1, h2⟩
      · omega
      · omega
    · rintro (h1 | ⟨h1, h2, h3⟩)
      · exact .inl (.inl h1)
      · rcases Nat.lt_or_ge a b' with h4 | h4
        · exact .inl (.inr ⟨h4, h2, h3⟩)
        · obtain rfl : a = b' := by omega
          exact .inr ⟨rfl, .inl h2, .inl h3⟩
theorem folTo_len (n : Nat) (d : List Int) : ∀ k : Nat, (folTo n d k).length = d.length
  | 0 => rfl
  | k + 1 => by rw [folTo_succ, folIn_len, folTo_len n d k]
theorem folTo_q {n : Nat} {d : List Int} (hd : d.length = n) (k a b : Nat) : qB (folTo n d (k + 1)) a b ↔ qB (folTo n d k) a b ∨ (qB (folTo n d k) a k ∧ qB (folTo n d k) k b) := by
  rw [folTo_succ, folIn_q n (by rw [folTo_len, hd]; exact Nat.le_refl _)]
  constructor
  · rintro (h | ⟨_, h⟩)
    · exact .inl h
    · exact .inr h
  · rintro (h | h)
    · exact .inl h
    · exact .inr ⟨qB_lt (by rw [folTo_len, hd]) h.1, h⟩
theorem folTo_base {n : Nat} {d : List Int} (hd : d.length = n) {a b : Nat} (h : qB d a b) : ∀ k : Nat, qB (folTo n d k) a b
  | 0 => h
  | k + 1 => (folTo_q hd k a b).2 (.inl (folTo_base hd h k))
theorem folTo_trans {n : Nat} {d : List Int} (hd : d.length = n) : ∀ k x : Nat, x < k → ∀ a b : Nat, qB (folTo n d k) a x → qB (folTo n d k) x b → qB (folTo n d k) a b
  | 0, _, h, _, _, _, _ => by omega
  | k + 1, x, hx, a, b, h1, h2 => by
    have ih := folTo_trans hd k
    rw [folTo_q hd] at h1 h2 ⊢
    rcases Nat.lt_or_ge x k with hk | hk
    · rcases h1 with h1 | ⟨h1, h1'⟩ <;> rcases h2 with h2 | ⟨h2, h2'⟩
      · exact .inl (ih x hk a b h1 h2)
      · exact .inr ⟨ih x hk a k h1 h2, h2'⟩
      · exact .inr ⟨h1, ih x hk k b h1' h2⟩
      · exact .inr ⟨h1, h2'⟩
    · obtain rfl : x = k := by omega
      have g1 : qB (folTo n d x) a x := by rcases h1 with h | h; exact h; exact h.1
      have g2 : qB (folTo n d x) x b := by rcases h2 with h | h; exact h; exact h.2
      exact .inr ⟨g1, g2⟩
theorem folTo_le {n : Nat} {d : List Int} (hd : d.length = n) {P : Nat → Nat → Prop} (hP : ∀ a b c, P a b → P b c → P a c) (h : ∀ a b, qB d a b → P a b) : ∀ k a b : Nat, qB (folTo n d k) a b → P a b
  | 0, a, b, hq => h a b hq
  | k + 1, a, b, hq => by
    have ih := folTo_le hd hP h k
    rcases (folTo_q hd k a b).1 hq with h1 | ⟨h1, h2⟩
    · exact ih a b h1
    · exact hP _ _ _ (ih a k h1) (ih k b h2)

theorem baseR_q {n : Nat} {rs : List (List Int)} (h : ∀ r ∈ rs, pairOk n r = true) (a b : Nat) : qB (baseR n rs) a b ↔ ∃ r ∈ rs, (r[0]?.getD 0).toNat = a ∧ (r[1]?.getD 0).toNat = b := by
  unfold qB baseR
  rw [downP_bit (fun p hp => by
    obtain ⟨r, hr, rfl⟩ := List.mem_map.1 hp
    have := pairOk_iff.1 (h r hr)
    show (r[0]?.getD 0).toNat < n
    omega), List.mem_map]
  constructor
  · rintro ⟨r, hr, e⟩
    simp only [prOf, Prod.mk.injEq] at e
    exact ⟨r, hr, e.2, e.1⟩
  · rintro ⟨r, hr, e1, e2⟩
    exact ⟨r, hr, by simp [prOf, e1, e2]⟩
theorem baseR_len (n : Nat) (rs : List (List Int)) : (baseR n rs).length = n := downP_len _ _
theorem closR_len (n : Nat) (rs : List (List Int)) : (closR n rs).length = n := by unfold closR; rw [folTo_len, baseR_len]
/-- Each pair is in the order. -/
theorem closR_has {n : Nat} {rs : List (List Int)} (h : ∀ r ∈ rs, pairOk n r = true) {r : List Int} (hr : r ∈ rs) : bitB ((closR n rs)[(r[0]?.getD 0).toNat]?.getD 0) (r[1]?.getD 0) = true := by
  have hq := folTo_base (baseR_len n rs) ((baseR_q h _ _).2 ⟨r, hr, rfl, rfl⟩) n
  have hp := pairOk_iff.1 (h r hr)
  unfold qB at hq
  rw [Int.toNat_of_nonneg hp.2.2.1] at hq
  exact hq

/-- Each pair of the order follows from next ones. -/
theorem covers_make {zs : List Int} (h : VoP zs) : ∀ (k a b : Nat), lt zs a b → rank zs b - rank zs a ≤ k → qB (closR zs.length (coversR zs)) a b := by
  have hcr : coversR zs = (covTo zs zs.length).map rowOf := by unfold coversR; rw [vo_true h]; rfl
  have hall : ∀ r ∈ coversR zs, pairOk zs.length r = true := fun r hr => by
    rw [hcr] at hr
    obtain ⟨p, hp, rfl⟩ := List.mem_map.1 hr
    rw [cov_pairs h.sets] at hp
    obtain ⟨h1, h2, _⟩ := h.sets.pair (a := p.1) (b := p.2) ((List.mem_filter.1 hp).1)
    rw [pairOk_iff]
    simp [rowOf]
    omega
  have hbase : ∀ a b, lt zs a b → nextB zs a b = true → qB (closR zs.length (coversR zs)) a b := fun a b hl hn => by
    refine folTo_base (baseR_len _ _) ((baseR_q hall a b).2 ⟨rowOf (a, b), ?_, by simp [rowOf], by simp [rowOf]⟩) _
    rw [hcr, cov_pairs h.sets]
    exact List.mem_map.2 ⟨(a, b), List.mem_filter.2 ⟨pairs_lt h hl, hn⟩, rfl⟩
  intro k
  induction k with
  | zero =>
    intro a b hl hk
    have := rank_lt h hl
    omega
  | succ k ih =>
    intro a b hl hk
    cases hn : nextB zs a b with
    | true => exact hbase a b hl hn
    | false =>
      unfold nextB at hn
      rw [List.all_eq_false] at hn
      obtain ⟨x, hx, hb⟩ := hn
      have hzb := h.sets.bd a hl.1
      have hxa : lt zs a x := ⟨hl.1, (mem_itemsL hzb.2).1 hx⟩
      have hxn := h.lt_n hxa
      have hxb : lt zs x b := ⟨hxn, by simpa using hb⟩
      have r1 := rank_lt h hxa
      have r2 := rank_lt h hxb
      exact folTo_trans (baseR_len _ _) _ x hxn a b (ih a x hxa (by omega)) (ih x b hxb (by omega))
theorem covers_ok {zs : List Int} (h : VoP zs) : ∀ r ∈ coversR zs, pairOk zs.length r = true := fun r hr => by
  have hcr : coversR zs = (covTo zs zs.length).map rowOf := by unfold coversR; rw [vo_true h]; rfl
  rw [hcr] at hr
  obtain ⟨p, hp, rfl⟩ := List.mem_map.1 hr
  rw [cov_pairs h.sets] at hp
  obtain ⟨h1, h2, _⟩ := h.sets.pair (a := p.1) (b := p.2) ((List.mem_filter.1 hp).1)
  rw [pairOk_iff]
  simp [rowOf]
  omega
theorem clos_covers {zs : List Int} (h : VoP zs) : closR zs.length (coversR zs) = zs := by
  have hok := covers_ok h
  have hcr : coversR zs = (covTo zs zs.length).map rowOf := by unfold coversR; rw [vo_true h]; rfl
  have hfit : Fit zs.length (closR zs.length (coversR zs)) := folTo_fit (((baseR_fit hok).resolve_right (by have := h.1; omega)).1) _
  refine List.ext_getElem (by rw [closR_len]) fun a h1 h2 => ?_
  have e1 : (closR zs.length (coversR zs))[a]?.getD 0 = (closR zs.length (coversR zs))[a] := by rw [List.getElem?_eq_getElem h1]; rfl
  have e2 : zs[a]?.getD 0 = zs[a] := by rw [List.getElem?_eq_getElem h2]; rfl
  rw [← e1, ← e2]
  refine bitB_ext (hfit.2 a).1 (h.bd a h2).1 fun b => ?_
  rw [Bool.eq_iff_iff]
  constructor
  · intro hq
    refine (folTo_le (baseR_len _ _) (P := lt zs) (fun x y z => h.trans) (fun x y hxy => ?_) _ a b hq).2
    obtain ⟨r, hr, rfl, rfl⟩ := (baseR_q hok x y).1 hxy
    rw [hcr] at hr
    obtain ⟨p, hp, rfl⟩ := List.mem_map.1 hr
    rw [cov_pairs h.sets] at hp
    have := lt_pairs ((List.mem_filter.1 hp).1)
    simpa [rowOf] using this
  · intro hb
    exact covers_make h _ a b ⟨h2, hb⟩ (Nat.le_refl _)
theorem ord_covers {zs : List Int} (h : VoP zs) : ordOk zs.length (coversR zs) = true ∧ ordL zs.length (coversR zs) = zs := by
  have hok : ordOk (zs.length : Int) (coversR zs) = true := by
    unfold ordOk
    rw [Int.toNat_natCast, clos_covers h, vo_true h, List.all_eq_true.2 (covers_ok h)]
    have := h.1
    simp [inB]
    omega
  refine ⟨hok, ?_⟩
  unfold ordL
  rw [if_pos hok, Int.toNat_natCast, clos_covers h]
theorem covers_few {zs : List Int} (h : VoP zs) : (coversR zs).length ≤ 1048576 ∧ ∀ r ∈ coversR zs, r.length ≤ 1048576 := by
  refine ⟨?_, fun r hr => by have := (pairOk_iff.1 (covers_ok h r hr)).1; omega⟩
  have hcr : coversR zs = (covTo zs zs.length).map rowOf := by unfold coversR; rw [vo_true h]; rfl
  have h1 := covTo_len (zs := zs) zs.length
  have h2 := h.1
  rw [hcr, List.length_map]
  omega
/-- What an order made of pairs is. -/
theorem ord_is {n : Int} {rs : List (List Int)} (h : ordOk n rs = true) : VoP (ordL n rs) ∧ ((ordL n rs).length : Int) = n ∧ (∀ r ∈ rs, pairOk n r = true) ∧
    ∀ r ∈ rs, bitB ((ordL n rs)[(r[0]?.getD 0).toNat]?.getD 0) (r[1]?.getD 0) = true := by
  have h' := h
  unfold ordOk at h
  simp only [Bool.and_eq_true, List.all_eq_true] at h
  obtain ⟨⟨h1, h2⟩, h3⟩ := h
  have hn := inB_iff.1 h1
  have e : ordL n rs = closR n.toNat rs := by unfold ordL; rw [if_pos h']
  have hN : ((n.toNat : Nat) : Int) = n := by omega
  refine ⟨by rw [e]; simpa [vo] using h3, by rw [e, closR_len]; exact hN, h2, fun r hr => ?_⟩
  rw [e]
  exact closR_has (fun r hr => by rw [hN]; exact h2 r hr) hr
end Go.Proofs.Ythjmedbjdjkilaa

/- The reader of pseudo-random numbers. -/
namespace Go.Proofs.Ythjmedbjdjkilaa
open Go.RowKit Go.Shelf

set_option maxHeartbeats 1000000 in
theorem newReader_any (A : Option Addr) (n c : Nat) (bs : List Int) (w : World) (h : Byts w w.heap.size A n bs) (hcap : n ≤ c) (hbig : n ≤ 1152921504606846976) :
    Calls Try.prog 59 #[.slice A n c] w fun e w' => e = .returned (.pointer (some ⟨w.heap.size, 0, none⟩)) ∧ w' = w.alloc (.cells #[.slice A (min n 2000) c, .int .i64 0] 89) := by
  by_cases hn : n ≤ 2000
  · go_enter Try.func59, Try.ntmps59
    go_wp2
    go_ret
    exact ⟨rfl, by rw [Nat.min_eq_left hn]⟩
  · obtain ⟨b, off, rfl, hb, hc⟩ := h.at_ (k := 0) (by omega)
    go_enter Try.func59, Try.ntmps59
    go_wp2
    go_ret
    exact ⟨rfl, by rw [Nat.min_eq_right (by omega)]⟩

theorem bits_xor {a b : Int} (h0 : 0 ≤ a) (h1 : a < 4611686018427387904) (g0 : 0 ≤ b) (g1 : b < 4611686018427387904) : bits .xor .i64 a b = ((a.toNat ^^^ b.toNat : Nat) : Int) := by
  obtain ⟨a, rfl⟩ := Int.eq_ofNat_of_zero_le h0
  obtain ⟨b, rfl⟩ := Int.eq_ofNat_of_zero_le g0
  have hx : a ^^^ b < 2 ^ 62 := Nat.xor_lt_two_pow (by omega) (by omega)
  show IntKind.i64.wrap ((BitVec.ofInt 64 (a : Int) ^^^ BitVec.ofInt 64 (b : Int)).toNat : Int) = _
  rw [BitVec.toNat_xor, ofInt_i64n a (by omega), ofInt_i64n b (by omega), IntKind.wrap_i64]
  simp only [Int.toNat_natCast]
  omega

/-- The reader in block R, at position p, over at most 2000 bytes that lie below it. -/
def Rd (w : World) (R p : Nat) : Prop := ∃ A m c bs, m ≤ 2000 ∧ w.heap[R]? = some (.cells #[.slice A m c, .int .i64 (p : Int)] 89 (0, 0)) ∧ Byts w R A m bs
theorem Rd.lt {w : World} {R p : Nat} (h : Rd w R p) : R < w.heap.size := by
  obtain ⟨_, _, _, _, _, hh, _⟩ := h
  exact (Array.getElem?_eq_some_iff.1 hh).1
theorem Rd.upd {w w' : World} {R p : Nat} {S : Nat → Prop} (h : Rd w R p) (hu : Upd S w w') (hS : ∀ k, S k → R < k) : Rd w' R p := by
  have hl := h.lt
  obtain ⟨A, m, c, bs, hm, hh, hb⟩ := h
  exact ⟨A, m, c, bs, hm, (hu.block R hl (fun e => by have := hS R e; omega)).trans hh, hb.keep fun q hq => World.cell?_of_block (hu.block _ (by omega) (fun e => by have := hS _ e; omega))⟩
theorem Rd.below {w w' : World} {R p B : Nat} (h : Rd w R p) (hb : Below B w w') (hB : R < B) : Rd w' R p := h.upd (Below.toUpd hb) (fun k hk => by omega)

/-- What a picked number is. -/
def Picked (n v : Int) : Prop := (1 ≤ n → 0 ≤ v ∧ v < n) ∧ (n < 1 → v = 0)
theorem picked_mod {n x : Int} (hn : 1 ≤ n) (_hx : 0 ≤ x) : Picked n (x % n) :=
  ⟨fun _ => ⟨Int.emod_nonneg _ (by omega), Int.emod_lt_of_pos _ (by omega)⟩, fun h => by omega⟩

theorem picked_tmod {n x : Int} (hn : 1 ≤ n) (hx : 0 ≤ x) : Picked n (x.tmod n) :=
  ⟨fun _ => ⟨Int.tmod_nonneg _ hx, Int.tmod_lt_of_pos _ (by omega)⟩, fun h => by omega⟩

set_option maxRecDepth 100000 in
set_option maxHeartbeats 4000000 in
theorem pick_any (R p : Nat) (n : Int) (w : World) (h : Rd w R p) (hp : p ≤ 1000000) :
    Calls Try.prog 79 #[.pointer (some ⟨R, 0, none⟩), .int .i64 n] w fun e w' => ∃ v, e = .returned (.int .i64 v) ∧ Picked n v ∧ Rd w' R (p + 1) ∧ Upd (fun k => k = R) w w' := by
  obtain ⟨A, m, c, bs, hm, hh, hb⟩ := h
  have hc0 : w.cell? ⟨R, 0, none⟩ = some (.slice A m c) := by rw [cell_of_row w R 0 _ _ (0, 0) hh]; rfl
  have hc1 : w.cell? ⟨R, 1, none⟩ = some (.int .i64 (p : Int)) := by rw [cell_of_row w R 1 _ _ (0, 0) hh]; rfl
  have hf1 : w.frozen? ⟨R, 1, none⟩ = false := by simp [World.frozen?, hh]
  have hU : Upd (fun k => k = R) w (w.setCell ⟨R, 1, none⟩ (.int .i64 ((p : Int) + 1))) := (Upd.refl (fun k => k = R) w).setCell (p := ⟨R, 1, none⟩) (.inr rfl) _
  have hRd : Rd (w.setCell ⟨R, 1, none⟩ (.int .i64 ((p : Int) + 1))) R (p + 1) := ⟨A, m, c, bs, hm, by
    simp [World.setCell, Array.getElem?_modify, hh], hb.keep fun q hq => World.cell?_of_block (hU.block _ (by have := (Array.getElem?_eq_some_iff.1 hh).1; omega) (fun e => by omega))⟩
  by_cases hn : n < 1
  · go_enter Try.func79, Try.ntmps79
    go_wp2
    go_ret
    exact ⟨0, rfl, ⟨fun h => by omega, fun _ => rfl⟩, hRd, hU⟩
  · by_cases hm0 : m = 0
    · subst hm0
      go_enter Try.func79, Try.ntmps79
      go_wp2
      go_ret
      exact ⟨0, rfl, ⟨fun h => ⟨Int.le_refl _, by omega⟩, fun _ => rfl⟩, hRd, hU⟩
    · by_cases hpm : p < m
      · obtain ⟨b, off, rfl, hbb, hc⟩ := hb.at_ hpm
        have hcb := hc p hpm
        have hbd := hb.bd p
        have hcb' : (w.setCell ⟨R, 1, none⟩ (.int .i64 ((p : Int) + 1))).cell? ⟨b, off + p, none⟩ = some (.int .u8 (bs[p]?.getD 0)) := (World.cell?_of_block (hU.block b (by have := (Array.getElem?_eq_some_iff.1 hh).1; omega) (fun e => by omega))).trans hcb
        clear hc
        have hpk := picked_mod (n := n) (x := bs[p]?.getD 0) (by omega) hbd.1
        go_enter Try.func79, Try.ntmps79
        go_wp2
        go_ret
        exact ⟨_, rfl, hpk, hRd, hU⟩
      · obtain ⟨b, off, rfl, hbb, hc⟩ := hb.at_ (k := 0) (by omega)
        have hRl := (Array.getElem?_eq_some_iff.1 hh).1
        have hc' : ∀ j, j < m → (w.setCell ⟨R, 1, none⟩ (.int .i64 ((p : Int) + 1))).cell? ⟨b, off + j, none⟩ = some (.int .u8 (bs[j]?.getD 0)) := fun j hj => (World.cell?_of_block (hU.block b (by omega) (fun e => by omega))).trans (hc j hj)
        have k1 := hc' (p % m) (Nat.mod_lt _ (by omega))
        have k2 := hc' ((p * 7 + 3) % m) (Nat.mod_lt _ (by omega))
        have d1 := hb.bd (p % m)
        have d2 := hb.bd ((p * 7 + 3) % m)
        have e1 : (p : Int) % (m : Int) = ((p % m : Nat) : Int) := by simp
        have e2 : ((p : Int) * 7 + 3) % (m : Int) = (((p * 7 + 3) % m : Nat) : Int) := by simp
        have e3 : (p : Int) / (m : Int) = ((p / m : Nat) : Int) := by simp
        have l1 : p % m < m := Nat.mod_lt _ (by omega)
        have l2 : (p * 7 + 3) % m < m := Nat.mod_lt _ (by omega)
        have l3 : p / m ≤ p := Nat.div_le_self _ _
        clear hc hc'
        generalize p % m = q1 at *
        generalize (p * 7 + 3) % m = q2 at *
        generalize p / m = q3 at *
        generalize bs[q1]?.getD 0 = x1 at *
        generalize bs[q2]?.getD 0 = x2 at *
        go_enter Try.func79, Try.ntmps79
        go_wp2
        go_region
        have hx := bits_xor (a := x1 * 131 + x2 * 1117 + (p : Int) * 29 + (q3 : Int) * 53) (b := (x1 * 131 + x2 * 1117 + (p : Int) * 29 + (q3 : Int) * 53) / 64) (by omega) (by omega) (by omega) (by omega)
        go_wp2
        go_ret
        exact ⟨_, rfl, picked_mod (by omega) (by omega), hRd, hU.drew⟩

set_option maxHeartbeats 1000000 in
/-- One of a list's numbers. -/
theorem one_any (R p : Nat) (A : Option Addr) (n c B : Nat) (zs : List Int) (w : World) (h : Rd w R p) (hp : p ≤ 1000000) (hI : Ints w B A n zs) (hRB : ∀ b off, A = some ⟨b, off, none⟩ → b ≠ R) (hn : 0 < n) (hbig : n ≤ 1152921504606846976) :
    Calls Try.prog 78 #[.pointer (some ⟨R, 0, none⟩), .slice A n c] w fun e w' => ∃ v, e = .returned (.int .i64 v) ∧ v ∈ zs ∧ Rd w' R (p + 1) ∧ Upd (fun k => k = R) w w' := by
  have hlen := Lib.hid hI.len
  obtain ⟨b, off, rfl, hb, hc⟩ := hI.at_ (k := 0) hn
  have hbR := hRB b off rfl
  go_enter Try.func78, Try.ntmps78
  go_wp2_with fail
  refine (pick_any R p n w h hp).mono ?_
  rintro e w1 ⟨v, rfl, hv, hR1, hU1⟩
  obtain ⟨h0, h1⟩ := hv.1 (by omega)
  obtain ⟨k, rfl⟩ := Int.eq_ofNat_of_zero_le h0
  have hk : k < n := by omega
  have hck := hU1.cell (hc k hk) hbR
  clear hc
  go_wp2
  go_ret
  refine ⟨_, rfl, ?_, hR1, hU1⟩
  have hkl : k < zs.length := by rw [hlen.out]; exact hk
  rw [List.getElem?_eq_getElem hkl, Option.getD_some]
  exact List.getElem_mem hkl
end Go.Proofs.Ythjmedbjdjkilaa

/- Pairs that are drawn. -/
namespace Go.Proofs.Ythjmedbjdjkilaa
open Go.RowKit Go.Shelf

theorem draw_own_lt {w : World} {B : Nat} {v : Value} {rs : List (List Int)} (h : Rowed w B v rs) : ∀ k, v.ownBlock = some k → k < w.heap.size := fun k hk => by
  obtain ⟨vs, h1, _⟩ := h
  obtain ⟨cs, hcs⟩ := own_block h1 k hk
  exact (Array.getElem?_eq_some_iff.1 hcs).1
theorem draw_cell_new2 (w : World) (o : Obj) (e : TypeId) (u : Value) : ((w.alloc o).alloc (.cells #[u] e)).cell? ⟨w.heap.size + 1, 0, none⟩ = some u := by
  have h := cell_new (w.alloc o) e u
  rwa [World.size_alloc] at h

set_option maxRecDepth 100000 in
set_option maxHeartbeats 4000000 in
theorem somePairs_any (R p : Nat) (n : Int) (w : World) (h : Rd w R p) (hp : p ≤ 900000) :
    Calls Try.prog 127 #[.pointer (some ⟨R, 0, none⟩), .int .i64 n] w fun e w' => ∃ v rs q, e = .returned v ∧ Rowed w' w.heap.size v rs ∧ (rs.length ≤ 9 ∧ ∀ r ∈ rs, r.length = 2) ∧ q ≤ 19 ∧ Rd w' R (p + q) ∧ Upd (fun k => k = R) w w' := by
  obtain ⟨i0, hi0, hz0, hz1, hz2⟩ := infoRow_parts
  have hRl := h.lt
  go_enter Try.func127, Try.ntmps127
  go_wp2_with fail
  have R1 := Rowed.new w
  have R2 := R1.keep ((Upd.refl (fun _ => False) (w.alloc (.cells #[] 23))).alloc (.cells #[Value.int .i64 3, .int .i64 4, .int .i64 2, .int .i64 5, .int .i64 1, .int .i64 7, .int .i64 0, .int .i64 9] 3)) (fun _ e => e.elim)
  have hu1 : Upd (fun k => k = R) w ((w.alloc (.cells #[] 23)).alloc (.cells #[Value.int .i64 3, .int .i64 4, .int .i64 2, .int .i64 5, .int .i64 1, .int .i64 7, .int .i64 0, .int .i64 9] 3)) := ((Upd.refl _ _).alloc _).alloc _
  have hL : Arr ((w.alloc (.cells #[] 23)).alloc (.cells #[Value.int .i64 3, .int .i64 4, .int .i64 2, .int .i64 5, .int .i64 1, .int .i64 7, .int .i64 0, .int .i64 9] 3)) (w.heap.size + 1) 3 [3, 4, 2, 5, 1, 7, 0, 9] := by
    have := heap_alloc_new (w.alloc (.cells #[] 23)) (.cells #[Value.int .i64 3, .int .i64 4, .int .i64 2, .int .i64 5, .int .i64 1, .int .i64 7, .int .i64 0, .int .i64 9] 3)
    rw [World.size_alloc] at this
    exact this
  have hR1 := h.upd (((Upd.refl (fun _ => False) w).alloc (.cells #[] 23)).alloc (.cells #[Value.int .i64 3, .int .i64 4, .int .i64 2, .int .i64 5, .int .i64 1, .int .i64 7, .int .i64 0, .int .i64 9] 3)) (fun _ e => e.elim)
  obtain ⟨W1, hW1⟩ : ∃ W1, (w.alloc (.cells #[] 23)).alloc (.cells #[Value.int .i64 3, .int .i64 4, .int .i64 2, .int .i64 5, .int .i64 1, .int .i64 7, .int .i64 0, .int .i64 9] 3) = W1 := ⟨_, rfl⟩
  rw [hW1] at R2 hu1 hL hR1 ⊢
  clear hW1 R1
  refine (one_any R p _ 8 8 _ _ W1 hR1 (by omega) (hL.ints' (n := 8) hL.lt rfl) (fun b off e => by cases e; omega) (by omega) (by omega)).mono ?_
  rintro e w2 ⟨v0, rfl, hv0, hR2, hU2⟩
  have hv9 : 0 ≤ v0 ∧ v0 ≤ 9 := by simp at hv0; omega
  obtain ⟨K, rfl⟩ := Int.eq_ofNat_of_zero_le hv9.1
  have R3 := R2.keep hU2 (fun j e => by omega)
  have hu2 := hu1.trans hU2
  clear hv0 hL R2 hU2 hR1 hu1
  go_wp2
  go_loopw [5, 6] (fun v i wr => ∃ (k p' : Nat) (rs : List (List Int)), k ≤ 9 ∧ i = .int .i64 k ∧ rs.length + k ≤ 9 ∧ (∀ r ∈ rs, r.length = 2) ∧ p ≤ p' ∧ p' + 2 * k ≤ p + 19 ∧ Rowed wr w.heap.size v rs ∧ Rd wr R p' ∧ Upd (fun k => k = R) w wr) (fun _ i _ => (intOf i).toNat)
  case atStart => exact ⟨K, p + 1, [], by omega, rfl, by simp; omega, (fun r hr => by simp at hr), by omega, by omega, R3, hR2, hu2⟩
  case round =>
    clear R3 hR2 hu2
    obtain ⟨k, p', rs, hk, rfl, hlen, hall, hpp, hp', hRo, hRd, hU⟩ := hrel
    have zU := hU.size
    by_cases hlt : 0 < k
    · go_wp2_with fail
      refine (pick_any R p' n _ hRd (by omega)).mono ?_
      rintro e w3 ⟨a, rfl, ha, hRd3, hU3⟩
      go_wp2_with fail
      refine (pick_any R (p' + 1) n _ hRd3 (by omega)).mono ?_
      rintro e w4 ⟨b, rfl, hb, hRd4, hU4⟩
      have hU34 := hU3.trans hU4
      have hRo4 := hRo.keep hU34 (fun j e => by omega)
      have hUw := hU.trans hU34
      obtain ⟨vs, hown, hC, hb1⟩ := hRo4
      have Hall := Lib.hid hall
      clear hall hRo hU hU3 hU4 hU34 hRd hRd3
      by_cases hab : b < a
      · go_wp2_with (at_builtin; go_loud (refine wpList_append1 _ rfl (.tmp 31) (.tmp 35) _ rfl w.heap.size 23 i0 _ 24 Try.underlying45 hi0 hz0 hz1 hz2 rfl _ rs.length _ rfl ((hown.alloc _).alloc _) (w4.heap.size + 1) 1 (.slice (some ⟨w4.heap.size, 0, none⟩) 2 2) rfl (draw_cell_new2 _ _ _ _) rfl (by omega) (by omega) (by simp; omega) ?_); rintro v' w' hown' hg' -)
        go_roundw
        case rel => exact ⟨k - 1, p' + 1 + 1, rs ++ [[b, a]], by omega, by go_num, by simp; omega, (fun r hr => by
          rcases List.mem_append.1 hr with hr | hr
          · exact Hall.out r hr
          · rw [List.mem_singleton.1 hr]; rfl), by omega, by omega, Rowed.step hown rfl hC hb1 hown' hg', hRd4.upd ((((Upd.refl (fun k => w.heap.size ≤ k) w4).alloc _).alloc _).grown hg' (fun k hk => .inr (own_base hown k hk))) (fun k hk => by omega), hUw.trans' ((((Upd.refl (fun k => w.heap.size ≤ k) w4).alloc _).alloc _).grown hg' (fun k hk => .inr (own_base hown k hk))) (fun i hi e => by omega)⟩
        case measure => simp [intOf]; omega
      · by_cases hab2 : a < b
        · go_wp2_with (at_builtin; go_loud (refine wpList_append1 _ rfl (.tmp 31) (.tmp 35) _ rfl w.heap.size 23 i0 _ 24 Try.underlying45 hi0 hz0 hz1 hz2 rfl _ rs.length _ rfl ((hown.alloc _).alloc _) (w4.heap.size + 1) 1 (.slice (some ⟨w4.heap.size, 0, none⟩) 2 2) rfl (draw_cell_new2 _ _ _ _) rfl (by omega) (by omega) (by simp; omega) ?_); rintro v' w' hown' hg' -)
          go_roundw
          case rel => exact ⟨k - 1, p' + 1 + 1, rs ++ [[a, b]], by omega, by go_num, by simp; omega, (fun r hr => by
            rcases List.mem_append.1 hr with hr | hr
            · exact Hall.out r hr
            · rw [List.mem_singleton.1 hr]; rfl), by omega, by omega, Rowed.step hown rfl hC hb1 hown' hg', hRd4.upd ((((Upd.refl (fun k => w.heap.size ≤ k) w4).alloc _).alloc _).grown hg' (fun k hk => .inr (own_base hown k hk))) (fun k hk => by omega), hUw.trans' ((((Upd.refl (fun k => w.heap.size ≤ k) w4).alloc _).alloc _).grown hg' (fun k hk => .inr (own_base hown k hk))) (fun i hi e => by omega)⟩
          case measure => simp [intOf]; omega
        · go_wp2
          go_roundw
          case rel => exact ⟨k - 1, p' + 1 + 1, rs, by omega, by go_num, by omega, Hall.out, by omega, by omega, ⟨vs, hown, hC, hb1⟩, hRd4, hUw⟩
          case measure => simp [intOf]; omega
    · obtain rfl : k = 0 := by omega
      go_wp2
      go_ret
      exact ⟨_, rs, p' - p, rfl, hRo, ⟨by omega, hall⟩, by omega, by rw [show p + (p' - p) = p' by omega]; exact hRd, hU⟩
end Go.Proofs.Ythjmedbjdjkilaa

/- A list of pairs that is drawn is short. -/
namespace Go.Proofs.Ythjmedbjdjkilaa
open Go.RowKit Go.Shelf

theorem Rowed.step1 {w w' : World} {B n : Nat} {v v' : Value} {rs : List (List Int)} {vs : List Value} {a : Int} (h1 : w.ownsRow B 23 1 v n vs) (hn : n = rs.length) (h2 : RowsC w B w.heap.size vs rs) (hB : B ≤ w.heap.size)
    (hown : w'.ownsRow B 23 1 v' (n + 1) (vs ++ [.slice (some ⟨w.heap.size, 0, none⟩) 1 1]))
    (hg : ((w.alloc (.cells #[.int .i64 a] 3)).alloc (.cells #[.slice (some ⟨w.heap.size, 0, none⟩) 1 1] 23)).grownBy w' v.ownBlock) : Rowed w' B v' (rs ++ [[a]]) := by
  have hu : Upd (fun _ => False) w ((w.alloc (.cells #[.int .i64 a] 3)).alloc (.cells #[.slice (some ⟨w.heap.size, 0, none⟩) 1 1] 23)) := ((Upd.refl _ w).alloc _).alloc _
  have h3 := h2.upd hu (fun j e => e.elim)
  have hA : Arr (w.alloc (.cells #[.int .i64 a] 3)) w.heap.size 3 [a] := heap_alloc_new w _
  have h4 := h3.snoc (hi' := w.heap.size + 1 + 1) (r := [a]) (c := 1) (Row.of (hA.alloc _) rfl (Nat.le_refl _) (by omega)) (by omega)
  have h5 := h4.grown (by simp) hg (own_block (h1.alloc _ |>.alloc _))
  refine ⟨_, by rw [List.length_append, ← hn]; exact hown, h5.more (by have := hg.size; simpa using this), by have := hg.size; simp at this; omega⟩

/-- Rows that read: few, and short. -/
def Few (w : World) (v : Value) (rs : List (List Int)) : Prop := ∃ A c, v = .slice A rs.length c ∧ IntsS w w.heap.size A rs.length rs ∧ rs.length ≤ 1048576 ∧ ∀ r ∈ rs, r.length ≤ 1048576
theorem Rowed.few {w : World} {B : Nat} {v : Value} {rs : List (List Int)} (h : Rowed w B v rs) (hl : rs.length ≤ 1048576) (hr : ∀ r ∈ rs, r.length ≤ 2) : Few w v rs := by
  obtain ⟨A, c, rfl, hR⟩ := h.rows
  exact ⟨A, c, rfl, hR.ints (Nat.le_refl _), hl, fun r h => by have := hr r h; omega⟩
end Go.Proofs.Ythjmedbjdjkilaa

/- One element put at its place: an append of any number of elements, as a step of a region that draws its order. -/
namespace Go.Proofs.Ythjmedbjdjkilaa
open Go.RowKit

section
variable {P : Program} (w : World)
theorem own_form {w : World} {base n : Nat} {e : TypeId} {v : Value} {xs : List Value} (h : w.ownsRow base e 1 v n xs) (hv : v ≠ .slice none 0 0) : ∃ g cap, v = .slice (some ⟨g, 0, none⟩) n cap ∧ base ≤ g ∧ g < w.heap.size ∧ n ≤ cap ∧ cap ≤ maxLen := by
  rcases h.2 with ⟨e, _⟩ | ⟨g, cap, cur, rfl, hg, hc, h1, h2, _⟩
  · exact absurd e hv
  · exact ⟨g, cap, rfl, hg, (Array.getElem?_eq_some_iff.1 hc).1, h1, h2⟩
theorem step_append_any {ops : Array Oper} {o : Oper} {a : Act} {K : Act → World → Prop} {Q : Exit → Act → World → Prop} {E : Prop} (hgd : o.guard = none) (s x : Operand) (t : TypeId)
    (ho : o.op = .call { callee := .builtin .append, args := #[s, x], argTypes := #[t, t] })
    (base : Nat) (e : TypeId) (i : TypeInfo) (z : Value) (bytes : Nat) (ht : P.underlying t = some (.slice e)) (hi : P.info? e = some i) (hz : i.zero = some z)
    (hsize : i.size = 1) (hby : i.bytes = bytes) (hzs : z.cells.size = 1)
    (v : Value) (n : Nat) (xs : List Value) (hs : a.eval s = v) (hv : v ≠ .slice none 0 0) (hown : w.ownsRow base e 1 v n xs)
    (ad : Addr) (m c : Nat) (news : List Value) (hx : a.eval x = .slice (some ad) m c) (hl : news.length = m) (hnews : ∀ j u, news[j]? = some u → w.cell? (ad.add j) = some u) (h1 : ∀ u ∈ news, u.oneCell' = true)
    (h63 : n + m ≤ maxLen) (hbytes : (n + m) * bytes ≤ 140737488355328) (hbase : base ≤ w.heap.size)
    (h : ∀ g cap w', w'.ownsRow base e 1 (.slice (some ⟨g, 0, none⟩) (n + m) cap) (n + m) (xs ++ news) → w.grownBy w' v.ownBlock → base ≤ g → g < w'.heap.size → n + m ≤ cap → cap ≤ maxLen → K (a.put o.dst (.slice (some ⟨g, 0, none⟩) (n + m) cap)) w') :
    if Region.wanted o (yielded ops a.tmps) = true then Oper.wp P o a w K Q else E := by
  have hw : Region.wanted o (yielded ops a.tmps) = true := by simp [Region.wanted, hgd]
  rw [if_pos hw]
  obtain ⟨v', w', hr, h2, h3, h4, _⟩ := run_append_own_at (P := P) w base t o.type e i z 1 bytes ht hi hz hsize hby hzs (by omega) v n xs hown ad m c news (by omega) hnews h1 h63 hbytes hbase
  obtain ⟨g, cap, rfl, hg, hlt, hnc, hcm⟩ := own_form h2 (fun e => hv (h4.1 e).1)
  unfold Oper.wp execOp
  simp only [ho, resolve, invoke, builtin, Sem.run_bind, Sem.run_pure, Result.andThen_ok, List.map_toArray, List.map_cons, List.map_nil, hs, hx, hr]
  exact h g cap w' h2 h3 hg hlt hnc hcm
theorem own_sooner {w : World} {b b' n : Nat} {e : TypeId} {v : Value} {xs : List Value} (h : w.ownsRow b e 1 v n xs) (hb : b' ≤ b) : w.ownsRow b' e 1 v n xs := by
  refine ⟨h.1, ?_⟩
  rcases h.2 with h1 | ⟨g, cap, cur, rfl, hg, hrest⟩
  · exact .inl h1
  · exact .inr ⟨g, cap, cur, rfl, by omega, hrest⟩
end
/-- The row's numbers from one place on, or up to one: as what is appended. -/
theorem news_at {w w' : World} {B b k n : Nat} {ts zs : List Int} (hc : ∀ j, j < n → w.cell? ⟨b, j, none⟩ = some (.int .i64 (ts[j]?.getD 0))) (hu : Upd (fun k => B ≤ k) w w') (hb : b < B) {ad : Addr}
    (had : ∀ j, j < zs.length → ad.add j = ⟨b, k + j, none⟩) (hz : ∀ j, j < zs.length → zs[j]?.getD 0 = ts[k + j]?.getD 0) (hl : k + zs.length ≤ n) :
    ∀ j u, (zs.map (Value.int .i64))[j]? = some u → w'.cell? (ad.add j) = some u := fun j u hu' => by
  rw [List.getElem?_map] at hu'
  cases hg : zs[j]? with
  | none => rw [hg] at hu'; cases hu'
  | some z =>
    have hj : j < zs.length := (List.getElem?_eq_some_iff.1 hg).1
    rw [hg] at hu'
    simp only [Option.map_some, Option.some.injEq] at hu'
    rw [had j hj, hu.cell (hc (k + j) (by omega)) (by simp; omega), ← hz j hj, hg, ← hu']
    rfl
theorem news_one {w : World} {ad : Addr} {u : Value} (h : w.cell? ad = some u) : ∀ j u', [u][j]? = some u' → w.cell? (ad.add j) = some u' := fun j u' hu => by
  cases j with
  | zero => simp at hu; subst hu; simpa [Addr.add] using h
  | succ j => simp at hu
theorem cell_new_alloc (w : World) (e : TypeId) (u : Value) (o : Obj) : ((w.alloc (.cells #[u] e)).alloc o).cell? ⟨w.heap.size, 0, none⟩ = some u :=
  (World.cell?_of_block (Below.heap_alloc _ _ _ (by simp))).trans (cell_new w e u)
theorem own_new2 (w : World) (o : Obj) (e : TypeId) : ((w.alloc o).alloc (.cells #[] e)).ownsRow w.heap.size e 1 (.slice (some ⟨w.heap.size + 1, 0, none⟩) 0 0) 0 [] := by
  have h := own_new (w.alloc o) e
  rw [World.size_alloc] at h
  exact own_sooner h (by omega)
theorem own_cells {w : World} {base n g cap : Nat} {e : TypeId} {zs : List Int} (h : w.ownsRow base e 1 (.slice (some ⟨g, 0, none⟩) n cap) n (zs.map (Value.int .i64))) :
    zs.length = n ∧ ∀ j, j < n → w.cell? ⟨g, j, none⟩ = some (.int .i64 (zs[j]?.getD 0)) := by
  obtain ⟨A, c, e, hI⟩ := ints_of_own h
  cases e
  refine ⟨hI.len, fun j hj => ?_⟩
  obtain ⟨b, off, e, _, hc⟩ := hI.at_ hj
  cases e
  simpa using hc j hj
theorem own_ge {w : World} {B n : Nat} {e : TypeId} {v : Value} {xs : List Value} (h : w.ownsRow B e 1 v n xs) : ∀ k, v.ownBlock = some k → B ≤ k := own_base h
end Go.Proofs.Ythjmedbjdjkilaa

/- OrderOf: the model's. -/
namespace Go.Proofs.Ythjmedbjdjkilaa
open Go.RowKit Go.Shelf

set_option maxRecDepth 100000 in
set_option maxHeartbeats 4000000 in
theorem specOrderOf_any (n : Int) (A : Option Addr) (m c : Nat) (rs : List (List Int)) (w : World) (h : IntsS w w.heap.size A m rs) (hm : m ≤ 1048576) (hr : ∀ r ∈ rs, r.length ≤ 1048576) :
    Calls Try.prog 128 #[.int .i64 n, .slice A m c] w (GivesOrder w n rs) := by
  have hlen := Lib.hid h.len
  cases hin : inB n 0 6
  · have Ho := Lib.hid (show ordOk n rs = false by simp [ordOk, hin])
    have Hin := Lib.hid hin
    clear hin
    go_enter Try.func128, Try.ntmps128
    go_wp2_with (go_at_call 80; refine (inRange_any _ _ _ _).mono ?_; rw [Hin.out]; rintro e w' ⟨rfl, rfl⟩)
    go_ret2
    exact none_order Ho.out (Below.refl _ _)
  have Hin := Lib.hid hin
  have hnn := inB_iff.1 hin
  clear hin
  obtain ⟨N, rfl⟩ := Int.eq_ofNat_of_zero_le hnn.1
  have hN : N ≤ 6 := by omega
  clear hnn
  have hmk := run_make_row' (P := Try.prog) 23 3 (.int .i64 0) 8 Try.underlying23 infoInt rfl .i64 .i64 N (by omega) (by omega)
  go_enter Try.func128, Try.ntmps128
  go_wp2_with (go_at_call 80; refine (inRange_any _ _ _ _).mono ?_; rw [Hin.out]; rintro e w' ⟨rfl, rfl⟩)
  have hA1 := Arr.new w 3 N
  have hB1 : Below w.heap.size w (w.alloc (.cells (madeCells #[.int .i64 0] N) 3)) := (Below.refl _ _).alloc (Nat.le_refl _) _
  obtain ⟨W1, hW1⟩ : ∃ W1, w.alloc (.cells (madeCells #[.int .i64 0] N) 3) = W1 := ⟨_, rfl⟩
  rw [hW1] at hA1 hB1 ⊢
  clear hW1 hmk
  go_loopw [7] (fun i wr => ∃ k : Nat, k ≤ m ∧ i = .int .i64 k ∧ (∀ r ∈ rs.take k, pairOk N r = true) ∧ Arr wr w.heap.size 3 (baseR N (rs.take k)) ∧ Below w.heap.size w wr) (fun i _ => m - (intOf i).toNat)
  case atStart => exact ⟨0, by omega, rfl, (fun r hr => by simp at hr), hA1, hB1⟩
  case round =>
    obtain ⟨k, hk, rfl, hall, hAr, hB⟩ := hrel
    by_cases hlt : k < m
    · have hkl := Lib.hid (show k < rs.length by rw [hlen.out]; exact hlt)
      obtain ⟨b, off, rfl, hb, hc⟩ := (h.below hB).at_ hlt
      obtain ⟨A', c', hcell, hI⟩ := hc k hlt
      have Hc := Lib.hid hc
      clear hc
      have Hts := Lib.hid (take_snoc hkl.out)
      have hml : (rs[k]?.getD []).length ≤ 1048576 := by
        rw [List.getElem?_eq_getElem hkl.out]
        exact hr _ (List.getElem_mem _)
      have hno := fun hp => ord_no (n := N) (rs := rs) hkl.out hp
      generalize rs[k]?.getD [] = r at *
      by_cases h2 : r.length = 2
      · have hI2 : Ints wr w.heap.size A' 2 r := by rw [h2] at hI; exact hI
        rw [h2] at hcell
        obtain ⟨b', off', rfl, hb', hc'⟩ := hI2.at_ (k := 0) (by omega)
        have hc0 := hc' 0 (by omega)
        have hc1 := hc' 1 (by omega)
        rw [Nat.add_zero] at hc0
        clear hc'
        have Hpo := Lib.hid (show pairOk N r = (inB (r[0]?.getD 0) 0 (N - 1) && inB (r[1]?.getD 0) 0 (N - 1)) by simp [pairOk, h2])
        have Hs := Lib.hid (baseR_snoc N (rs.take k) r)
        obtain ⟨hfit, -⟩ : Fit N (baseR N (rs.take k)) ∧ Sets (baseR N (rs.take k)) := (baseR_fit hall).resolve_right (by omega)
        generalize r[0]?.getD 0 = x0 at *
        generalize r[1]?.getD 0 = y0 at *
        clear h2 hml hI
        cases hx : inB x0 0 (N - 1)
        · have Hx := Lib.hid hx
          have Ho := Lib.hid (hno (by rw [Hpo.out, hx]; rfl))
          clear hx hno
          go_wp2_with (go_at_call 80; refine (inRange_any _ _ _ _).mono ?_; rw [Hx.out]; rintro e w' ⟨rfl, rfl⟩)
          go_ret2
          exact none_order Ho.out hB
        cases hy : inB y0 0 (N - 1)
        · have Hx := Lib.hid hx
          have Hy := Lib.hid hy
          have Ho := Lib.hid (hno (by rw [Hpo.out, hx, hy]; rfl))
          clear hx hy hno
          go_wp2_with (go_at_call 80; refine (inRange_any _ _ _ _).mono ?_; (first | rw [Hx.out] | rw [Hy.out]); rintro e w' ⟨rfl, rfl⟩)
          go_ret2
          exact none_order Ho.out hB
        have Hx := Lib.hid hx
        have Hy := Lib.hid hy
        have Hp := Lib.hid (show pairOk N r = true by rw [Hpo.out, hx, hy]; rfl)
        have h0 := inB_iff.1 hx
        have h1 := inB_iff.1 hy
        clear hx hy hno
        have Hall := Lib.hid (show ∀ r' ∈ rs.take k ++ [r], pairOk N r' = true from fun r' hr' => by
          rcases List.mem_append.1 hr' with h9 | h9
          · exact hall r' h9
          · rw [List.mem_singleton.1 h9]; exact Hp.out)
        obtain ⟨x, rfl⟩ := Int.eq_ofNat_of_zero_le h0.1
        obtain ⟨y, rfl⟩ := Int.eq_ofNat_of_zero_le h1.1
        have hxN : x < N := by omega
        have hyN : y < N := by omega
        clear h0 h1
        simp only [Int.toNat_natCast] at Hs
        have hcs := hAr.cell (k := x) (by rw [hfit.1]; exact hxN)
        have hfs := hAr.frozen x
        have hbd := hfit.2 x
        have hpn := powI_le6 (n := (N : Int)) (by omega)
        have hpy := powI_le6 (n := (y : Int)) (by omega)
        have hpp := powI_pos (y : Int)
        clear hfit
        generalize hD : baseR N (rs.take k) = D at *
        have HD := Lib.hid hD
        clear hD
        have hor : bits .or .i64 (D[x]?.getD 0) (powI y) = orI (D[x]?.getD 0) (powI y) := bits_or (by omega) (by omega) (by omega) (by omega)
        go_wp2_with (go_at_call 80; refine (inRange_any _ _ _ _).mono ?_; (first | rw [Hx.out] | rw [Hy.out]); rintro e w' ⟨rfl, rfl⟩)
        have hpw : ∀ W, Calls Try.prog 77 #[.int .i64 (y : Int)] W fun e w'' => e = .returned (.int .i64 (powI y)) ∧ w'' = W := fun W =>
          (power_any _ _ (by omega) (by omega)).mono (by rintro e w' ⟨rfl, rfl⟩; exact ⟨rfl, rfl⟩)
        obtain ⟨W2, hW2⟩ : ∃ W2, wr.drew = W2 := ⟨_, rfl⟩
        have kcell : W2.cell? ⟨b, off + k, none⟩ = some (.slice (some ⟨b', off', none⟩) 2 c') := by rw [← hW2]; exact hcell
        have kc0 : W2.cell? ⟨b', off', none⟩ = some (.int .i64 (x : Int)) := by rw [← hW2]; exact hc0
        have kc1 : W2.cell? ⟨b', off' + 1, none⟩ = some (.int .i64 (y : Int)) := by rw [← hW2]; exact hc1
        have kcs : W2.cell? ⟨w.heap.size, x, none⟩ = some (.int .i64 (D[x]?.getD 0)) := by rw [← hW2]; exact hcs
        have kfs : W2.frozen? ⟨w.heap.size, x, none⟩ = false := by rw [← hW2]; exact hfs
        have kAr : Arr W2 w.heap.size 3 D := by rw [← hW2]; exact hAr
        have kB : Below w.heap.size w W2 := by rw [← hW2]; exact hB.drew
        refine wp_region_still_tail 25 (by kernel_rfl) (by kernel_rfl) ?_
        simp only [List.take_succ_cons, List.take_zero, List.drop_succ_cons, List.drop_zero]
        change wpStill _ _ wr.drew (fun a' => wpList _ _ _ _ a' wr.drew) _ _
        rw [hW2]
        clear hW2 hcell hc0 hc1 hcs hfs hAr hB
        repeat (first | still_step | still_call (hpw _))
        refine wpStill_nil ?_
        go_wp2
        go_roundw
        case rel => exact ⟨k + 1, by omega, by go_num, by rw [← Hts.out]; exact Hall.out, by rw [← Hts.out, Hs.out]; exact kAr.set _ _, kB.setCell (p := ⟨w.heap.size, x, none⟩) (Nat.le_refl _) _⟩
        case measure => simp [intOf]; omega
      · have Ho := Lib.hid (hno (by simp [pairOk, h2]))
        have hmi : ((r.length : Int) != 2) = true := by simp; omega
        clear hno
        generalize r.length = q at *
        go_wp2
        go_ret2
        exact none_order Ho.out hB
    · obtain rfl : k = m := by omega
      have htk : rs.take k = rs := List.take_of_length_le (by rw [hlen.out]; exact Nat.le_refl _)
      rw [htk] at hall hAr
      obtain ⟨hfit, -⟩ : Fit N (baseR N rs) ∧ Sets (baseR N rs) := (baseR_fit hall).resolve_right (by omega)
      have Hok := Lib.hid (show ordOk N rs = vo (closR N rs) by
        rw [ordOk, show rs.all (pairOk N) = true from List.all_eq_true.2 hall, Hin.out]; simp)
      have zB := hB.size
      clear hlen h hm
      go_wp2
      go_loopw [8] (fun i wr => ∃ a : Nat, a ≤ N ∧ i = .int .i64 a ∧ Arr wr w.heap.size 3 (folTo N (baseR N rs) a) ∧ Below w.heap.size w wr) (fun i _ => N - (intOf i).toNat)
      case atStart => exact ⟨0, by omega, rfl, hAr, hB⟩
      case round =>
        clear hAr hB zB
        obtain ⟨a, ha, rfl, hAr, hB⟩ := hrel
        by_cases hak : a < N
        · have hF := folTo_fit hfit a
          generalize hD0 : folTo N (baseR N rs) a = d0 at *
          have HD0 := Lib.hid hD0
          clear hD0
          go_wp2
          go_loopw [9] (fun i wr => ∃ l : Nat, l ≤ N ∧ i = .int .i64 l ∧ Arr wr w.heap.size 3 (folIn a d0 l) ∧ Below w.heap.size w wr) (fun i _ => N - (intOf i).toNat)
          case atStart => exact ⟨0, by omega, rfl, hAr, hB⟩
          case round =>
            clear hAr hB
            obtain ⟨l, hl, rfl, hAr, hB⟩ := hrel
            by_cases hlk : l < N
            · have hFi := folIn_fit (m := a) hF l
              have Hs := Lib.hid (folIn_succ a d0 l)
              generalize hD : folIn a d0 l = D at *
              have HD := Lib.hid hD
              clear hD
              have hpn := powI_le6 (n := (N : Int)) (by omega)
              have hl1 := hFi.2 l
              have ha1 := hFi.2 a
              have hcl := hAr.cell (k := l) (by rw [hFi.1]; exact hlk)
              have hca := hAr.cell (k := a) (by rw [hFi.1]; exact hak)
              have hfl := hAr.frozen l
              clear hFi
              cases hbit : bitB (D[l]?.getD 0) a
              · have Hb := Lib.hid hbit
                have hbi : (bitI (D[l]?.getD 0) a == 1) = false := by rw [bitI_one, hbit]
                clear hbit
                go_wp2_with (go_at_call 75; refine (bit_any _ _ _ (by omega) (by omega) (by omega) (by omega)).mono ?_; rintro e w' ⟨rfl, rfl⟩)
                go_roundw
                case rel => exact ⟨l + 1, by omega, by go_num, by rw [Hs.out, fol1, Hb.out]; exact hAr, hB⟩
                case measure => simp [intOf]; omega
              · have Hb := Lib.hid hbit
                have hbi : (bitI (D[l]?.getD 0) a == 1) = true := by rw [bitI_one, hbit]
                clear hbit
                have hor : bits .or .i64 (D[l]?.getD 0) (D[a]?.getD 0) = orI (D[l]?.getD 0) (D[a]?.getD 0) := bits_or (by omega) (by omega) (by omega) (by omega)
                go_wp2_with (go_at_call 75; refine (bit_any _ _ _ (by omega) (by omega) (by omega) (by omega)).mono ?_; rintro e w' ⟨rfl, rfl⟩)
                go_region
                all_goals
                  go_wp2
                  go_roundw
                  case rel => exact ⟨l + 1, by omega, by go_num, by rw [Hs.out, fol1, Hb.out]; exact hAr.set _ _, (hB.setCell (p := ⟨w.heap.size, l, none⟩) (Nat.le_refl _) _).drew⟩
                  case measure => simp [intOf]; omega
            · obtain rfl : l = N := by omega
              have Hs := Lib.hid (folTo_succ l (baseR l rs) a)
              go_wp2
              go_roundw
              case rel => exact ⟨a + 1, by omega, by go_num, by rw [Hs.out, HD0.out]; exact hAr, hB⟩
              case measure => simp [intOf]; omega
        · obtain rfl : a = N := by omega
          have Hf := Lib.hid (folTo_fit hfit a)
          have hl2 := hAr.lt
          go_wp2_with fail
          refine (validOrder_any _ _ _ _ _ _ (hAr.ints' hAr.lt Hf.out.1) (by omega)).mono ?_
          rintro e w3 ⟨rfl, mm, hmm⟩
          have hA3 : Arr w3 w.heap.size 3 (folTo a (baseR a rs) a) := by rw [hmm]; exact hAr
          have hB3 : Below w.heap.size w w3 := by rw [hmm]; exact below_drewN hB _
          clear hmm hAr hB
          cases hvo : vo (closR a rs)
          · have Ho := Lib.hid (show ordOk a rs = false by rw [Hok.out]; exact hvo)
            have Hv := Lib.hid (show vo (folTo a (baseR a rs) a) = false from hvo)
            clear hvo
            rw [Hv.out]
            go_wp2
            go_ret2
            exact none_order Ho.out hB3
          · have Ho := Lib.hid (show ordOk a rs = true by rw [Hok.out]; exact hvo)
            have Hv := Lib.hid (show vo (folTo a (baseR a rs) a) = true from hvo)
            clear hvo
            rw [Hv.out]
            go_wp2
            go_ret2
            exact ⟨_, a, a, by rw [Ho.out]; rfl, by rw [ordL, Ho.out]; exact Row.of hA3 Hf.out.1 (Nat.le_refl _) hA3.lt, hB3⟩
end Go.Proofs.Ythjmedbjdjkilaa

/- An order under new numbers: what the drawing needs of it. -/
namespace Go.Proofs.Ythjmedbjdjkilaa
open Go.RowKit Go.Shelf

/-- Small numbers: each is a set of at most six. -/
def Small (os : List Int) : Prop := ∀ j : Nat, 0 ≤ os[j]?.getD 0 ∧ os[j]?.getD 0 < 64
theorem Small.zero (n : Nat) : Small (List.replicate n 0) := fun j => by
  have : (List.replicate n (0 : Int))[j]?.getD 0 = 0 := by by_cases h : j < n <;> simp [h]
  omega
theorem Small.set {os : List Int} (h : Small os) {k : Nat} {v : Int} (h0 : 0 ≤ v) (h1 : v < 64) : Small (os.set k v) := fun j => by
  by_cases hk : k = j
  · subst hk
    by_cases hl : k < os.length
    · rw [List.getElem?_set_self hl]; exact ⟨h0, h1⟩
    · rw [List.set_eq_of_length_le (by omega)]; exact h k
  · rw [List.getElem?_set_ne hk]; exact h j

set_option maxRecDepth 100000 in
set_option maxHeartbeats 4000000 in
theorem renumbered_any (A A' : Option Addr) (n c m c' : Nat) (zs ts : List Int) (w : World) (h : Ints w w.heap.size A n zs) (h' : Ints w w.heap.size A' m ts) (hn6 : n ≤ 6) (hnm : n ≤ m) (hz : Small zs) (ht : ∀ j, j < n → 0 ≤ ts[j]?.getD 0 ∧ ts[j]?.getD 0 < n) :
    Calls Try.prog 129 #[.slice A n c, .slice A' m c'] w fun e w' => ∃ os, e = .returned (.slice (some ⟨w.heap.size, 0, none⟩) n n) ∧ os.length = n ∧ Arr w' w.heap.size 3 os ∧ Below w.heap.size w w' := by
  have hmk := run_make_row' (P := Try.prog) 23 3 (.int .i64 0) 8 Try.underlying23 infoInt rfl .i64 .i64 n (by omega) (by omega)
  go_enter Try.func129, Try.ntmps129
  go_wp2
  have hA1 := Arr.new w 3 n
  have hB1 : Below w.heap.size w (w.alloc (.cells (madeCells #[.int .i64 0] n) 3)) := (Below.refl _ _).alloc (Nat.le_refl _) _
  obtain ⟨W1, hW1⟩ : ∃ W1, w.alloc (.cells (madeCells #[.int .i64 0] n) 3) = W1 := ⟨_, rfl⟩
  rw [hW1] at hA1 hB1 ⊢
  clear hW1 hmk
  go_loopw [6] (fun i wr => ∃ (k : Nat) (os : List Int), k ≤ n ∧ i = .int .i64 k ∧ os.length = n ∧ Small os ∧ Arr wr w.heap.size 3 os ∧ Below w.heap.size w wr) (fun i _ => n - (intOf i).toNat)
  case atStart => exact ⟨0, _, by omega, rfl, by simp, Small.zero n, hA1, hB1⟩
  case round =>
    clear hA1 hB1
    obtain ⟨k, os, hk, rfl, hlen, hsm, hAr, hB⟩ := hrel
    by_cases hlt : k < n
    · go_wp2
      go_loopw [7] (fun i wr => ∃ (j : Nat) (os : List Int), j ≤ n ∧ i = .int .i64 j ∧ os.length = n ∧ Small os ∧ Arr wr w.heap.size 3 os ∧ Below w.heap.size w wr) (fun i _ => n - (intOf i).toNat)
      case atStart => exact ⟨0, os, by omega, rfl, hlen, hsm, hAr, hB⟩
      case round =>
        clear hlen hsm hAr hB
        obtain ⟨j, os, hj, rfl, hlen, hsm, hAr, hB⟩ := hrel
        by_cases hjn : j < n
        · obtain ⟨b, off, rfl, hbw, hc⟩ := (h.below hB).at_ hlt
          have hck := hc k hlt
          obtain ⟨b', off', rfl, hbw', hc'⟩ := (h'.below hB).at_ (k := k) (by omega)
          have htk := hc' k (by omega)
          have htj := hc' j (by omega)
          have hzk := hz k
          have hkm : k < m := by omega
          have hjm : j < m := by omega
          have t1 := ht k hlt
          have t2 := ht j hjn
          clear hc hc'
          generalize zs[k]?.getD 0 = z at *
          generalize ts[k]?.getD 0 = tk at *
          generalize ts[j]?.getD 0 = tj at *
          obtain ⟨x, rfl⟩ := Int.eq_ofNat_of_zero_le t1.1
          obtain ⟨y, rfl⟩ := Int.eq_ofNat_of_zero_le t2.1
          have hxn : x < n := by omega
          have hyn : y < n := by omega
          have hcs := hAr.cell (k := x) (by omega)
          have hfs := hAr.frozen x
          have hox := hsm x
          cases hb : bitB z j
          · have hbi : (bitI z j == 1) = false := by rw [bitI_one, hb]
            go_wp2_with (go_at_call 75; refine (bit_any _ _ _ (by omega) (by omega) (by omega) (by omega)).mono ?_; rintro e w' ⟨rfl, rfl⟩)
            go_roundw
            case rel => exact ⟨j + 1, os, by omega, by go_num, hlen, hsm, hAr, hB⟩
            case measure => simp [intOf]; omega
          · have hbi : (bitI z j == 1) = true := by rw [bitI_one, hb]
            have hpw : ∀ W, Calls Try.prog 77 #[.int .i64 (y : Int)] W fun e w'' => e = .returned (.int .i64 (powI y)) ∧ w'' = W := fun W => (power_any _ _ (by omega) (by omega)).mono fun _ _ ⟨h1, h2⟩ => ⟨h1, h2.symm⟩
            have hpk : powI (y : Int) < 64 := powI_lt (k := y) (n := 6) (by omega)
            have hpp := powI_pos (y : Int)
            have hsn := fun v h0 h1 => hsm.set (k := x) (v := v) h0 h1
            generalize os[x]?.getD 0 = d at *
            have hor : bits .or .i64 d (powI y) = orI d (powI y) := bits_or (by omega) (by omega) (by omega) (by omega)
            have hob := orI_bd (a := d) (b := powI y) (n := 6) hox.1 (by simpa [powI] using hox.2) (Int.le_of_lt hpp) (by simpa [powI] using hpk)
            have hob6 : 0 ≤ orI d (powI y) ∧ orI d (powI y) < 64 := by simpa [powI] using hob
            go_wp2_with (go_at_call 75; refine (bit_any _ _ _ (by omega) (by omega) (by omega) (by omega)).mono ?_; rintro e w' ⟨rfl, rfl⟩)
            obtain ⟨W2, hW2⟩ : ∃ W2, wr.drew = W2 := ⟨_, rfl⟩
            have k1 : W2.cell? ⟨b', off' + k, none⟩ = some (.int .i64 (x : Int)) := by rw [← hW2]; exact htk
            have k2 : W2.cell? ⟨b', off' + j, none⟩ = some (.int .i64 (y : Int)) := by rw [← hW2]; exact htj
            have k3 : W2.cell? ⟨w.heap.size, x, none⟩ = some (.int .i64 d) := by rw [← hW2]; exact hcs
            have k4 : W2.frozen? ⟨w.heap.size, x, none⟩ = false := by rw [← hW2]; exact hfs
            have kAr : Arr W2 w.heap.size 3 os := by rw [← hW2]; exact hAr
            have kB : Below w.heap.size w W2 := by rw [← hW2]; exact hB.drew
            refine wp_region_still_tail 19 (by kernel_rfl) (by kernel_rfl) ?_
            simp only [List.take_succ_cons, List.take_zero, List.drop_succ_cons, List.drop_zero]
            change wpStill _ _ wr.drew (fun a' => wpList _ _ _ _ a' wr.drew) _ _
            rw [hW2]
            clear hW2 htk htj hcs hfs hAr hB
            repeat (first | still_step | still_call (hpw _))
            refine wpStill_nil ?_
            go_wp2
            go_roundw
            case rel => exact ⟨j + 1, os.set x (orI d (powI y)), by omega, by go_num, by simpa using hlen, hsn _ hob6.1 hob6.2, kAr.set _ _, kB.setCell (p := ⟨w.heap.size, x, none⟩) (Nat.le_refl _) _⟩
            case measure => simp [intOf]; omega
        · obtain rfl : j = n := by omega
          go_wp2
          go_roundw
          case rel => exact ⟨k + 1, os, by omega, by go_num, hlen, hsm, hAr, hB⟩
          case measure => simp [intOf]; omega
    · obtain rfl : k = n := by omega
      go_wp2
      go_ret
      exact ⟨os, rfl, hlen, hAr, hB⟩
end Go.Proofs.Ythjmedbjdjkilaa

/- An order that is drawn. -/
namespace Go.Proofs.Ythjmedbjdjkilaa
open Go.RowKit Go.Shelf

theorem addr_add (b k j : Nat) : (⟨b, k, none⟩ : Addr).add j = ⟨b, k + j, none⟩ := by unfold Addr.add; split <;> simp_all
/-- Pairs that are written out: a block each, then the row of their slices. -/
def litA (w : World) : List (Int × Int) → World
  | [] => w
  | r :: rs => litA (w.alloc (.cells #[.int .i64 r.1, .int .i64 r.2] 3)) rs
def litV (b : Nat) : List (Int × Int) → List Value
  | [] => []
  | _ :: rs => .slice (some ⟨b, 0, none⟩) 2 2 :: litV (b + 1) rs
def litN (b : Nat) : List (Int × Int) → Nat
  | [] => b
  | _ :: rs => litN (b + 1) rs
def litW (w : World) (rs : List (Int × Int)) : World := (litA w rs).alloc (.cells (litV w.heap.size rs).toArray 23)
theorem litA_upd : ∀ (rs : List (Int × Int)) (w : World), Upd (fun _ => False) w (litA w rs)
  | [], w => Upd.refl _ w
  | _ :: rs, w => (((Upd.refl (fun _ => False) w).alloc _)).trans (litA_upd rs _)
theorem litA_size : ∀ (rs : List (Int × Int)) (w : World), (litA w rs).heap.size = litN w.heap.size rs ∧ litN w.heap.size rs = w.heap.size + rs.length
  | [], w => ⟨rfl, rfl⟩
  | r :: rs, w => by
    have h := litA_size rs (w.alloc (.cells #[.int .i64 r.1, .int .i64 r.2] 3))
    rw [World.size_alloc] at h
    refine ⟨h.1, ?_⟩
    show litN (w.heap.size + 1) rs = _
    rw [h.2, List.length_cons]; omega
theorem litA_row : ∀ (rs : List (Int × Int)) (w : World) (j : Nat) (hj : j < rs.length), Arr (litA w rs) (w.heap.size + j) 3 [rs[j].1, rs[j].2]
  | [], _, j, hj => by simp at hj
  | r :: rs, w, 0, _ => by
    have hA : Arr (w.alloc (.cells #[.int .i64 r.1, .int .i64 r.2] 3)) w.heap.size 3 [r.1, r.2] := heap_alloc_new w _
    exact hA.upd (litA_upd rs _) (fun e => e)
  | r :: rs, w, j + 1, hj => by
    have h := litA_row rs (w.alloc (.cells #[.int .i64 r.1, .int .i64 r.2] 3)) j (by simpa using hj)
    rw [World.size_alloc, show w.heap.size + 1 + j = w.heap.size + (j + 1) by omega] at h
    exact h
theorem litV_get : ∀ (rs : List (Int × Int)) (b j : Nat), j < rs.length → (litV b rs)[j]? = some (.slice (some ⟨b + j, 0, none⟩) 2 2)
  | [], _, j, hj => by simp at hj
  | _ :: rs, b, 0, _ => rfl
  | _ :: rs, b, j + 1, hj => by
    have h := litV_get rs (b + 1) j (by simpa using hj)
    rw [show b + 1 + j = b + (j + 1) by omega] at h
    simpa [litV] using h
theorem litRows (w : World) (rs : List (Int × Int)) : IntsS (litW w rs) (litW w rs).heap.size (some ⟨litN w.heap.size rs, 0, none⟩) rs.length (rs.map fun r => [r.1, r.2]) := by
  refine ⟨by simp, fun _ => ⟨litN w.heap.size rs, 0, rfl, by unfold litW; rw [World.size_alloc, (litA_size rs w).1]; omega, fun j hj => ?_⟩⟩
  have hA := (litA_row rs w j hj).alloc (.cells (litV w.heap.size rs).toArray 23)
  have hg : (rs.map fun r => [r.1, r.2])[j]?.getD [] = [rs[j].1, rs[j].2] := by simp [hj]
  rw [hg]
  refine ⟨_, 2, ?_, hA.ints (by have := hA.lt; exact this)⟩
  have hc := heap_alloc_new (litA w rs) (.cells (litV w.heap.size rs).toArray 23)
  rw [(litA_size rs w).1] at hc
  rw [Nat.zero_add]
  refine (cell_of_row _ _ _ _ _ _ hc).trans ?_
  simpa using litV_get rs w.heap.size j hj
theorem litW_upd (w : World) (rs : List (Int × Int)) : Upd (fun _ => False) w (litW w rs) := (litA_upd rs w).alloc _

theorem ordL_small (n : Int) (rs : List (List Int)) : Small (ordL n rs) ∧ ((ordL n rs).length = 0 ∨ ((ordL n rs).length : Int) = n) ∧ (ordL n rs).length ≤ 6 := by
  cases hok : ordOk n rs with
  | false => simp [ordL, hok, Small]
  | true =>
    obtain ⟨h1, h2, _⟩ := ord_is hok
    refine ⟨fun j => ?_, .inr h2, h1.1⟩
    by_cases hj : j < (ordL n rs).length
    · exact h1.bd j hj
    · rw [List.getElem?_eq_none (by omega)]; simp

set_option maxRecDepth 100000 in
set_option maxHeartbeats 8000000 in
theorem goodOrder_any (R p : Nat) (w : World) (h : Rd w R p) (hp : p ≤ 800000) :
    Calls Try.prog 103 #[.pointer (some ⟨R, 0, none⟩), .int .i64 6] w fun e w' => ∃ A n c zs q, e = .returned (.slice A n c) ∧ n ≤ 6 ∧ Row w' w.heap.size w'.heap.size A n zs ∧ q ≤ 100 ∧ Rd w' R (p + q) ∧ Upd (fun k => k = R) w w' := by
  have hRl := h.lt
  obtain ⟨i0, hi0, hz0, hz1, hz2⟩ := infoRow_parts
  obtain ⟨i1, hi1, hzi1, hsi1, hbi1⟩ := info_parts infoInt
  go_enter Try.func103, Try.ntmps103
  go_wp2_with fail
  have hu1 : Upd (fun k => k = R) w (w.alloc (.cells #[Value.int .i64 4, .int .i64 5, .int .i64 6, .int .i64 3, .int .i64 5, .int .i64 6, .int .i64 2, .int .i64 1, .int .i64 4, .int .i64 0] 3)) := (Upd.refl _ _).alloc _
  have hL : Arr (w.alloc (.cells #[Value.int .i64 4, .int .i64 5, .int .i64 6, .int .i64 3, .int .i64 5, .int .i64 6, .int .i64 2, .int .i64 1, .int .i64 4, .int .i64 0] 3)) w.heap.size 3 [4, 5, 6, 3, 5, 6, 2, 1, 4, 0] := heap_alloc_new w _
  have hR1 := h.upd ((Upd.refl (fun _ => False) w).alloc (.cells #[Value.int .i64 4, .int .i64 5, .int .i64 6, .int .i64 3, .int .i64 5, .int .i64 6, .int .i64 2, .int .i64 1, .int .i64 4, .int .i64 0] 3)) (fun _ e => e.elim)
  obtain ⟨W1, hW1⟩ : ∃ W1, w.alloc (.cells #[Value.int .i64 4, .int .i64 5, .int .i64 6, .int .i64 3, .int .i64 5, .int .i64 6, .int .i64 2, .int .i64 1, .int .i64 4, .int .i64 0] 3) = W1 := ⟨_, rfl⟩
  rw [hW1] at hu1 hL hR1 ⊢
  clear hW1
  refine (one_any R p _ 10 10 _ _ W1 hR1 (by omega) (hL.ints' (n := 10) hL.lt rfl) (fun b off e => by cases e; omega) (by omega) (by omega)).mono ?_
  rintro e w2 ⟨v0, rfl, hv0, hR2, hU2⟩
  have hv9 : 0 ≤ v0 ∧ v0 ≤ 6 := by simp at hv0; omega
  obtain ⟨K, rfl⟩ := Int.eq_ofNat_of_zero_le hv9.1
  have hu2 := hu1.trans hU2
  clear hv0 hL hU2 hR1 hu1
  have hK6 : K ≤ 6 := by omega
  have hRw2 : Upd (fun k => k = R) w w2 := hu2
  clear hu2 hv9
  go_wp2_with fail
  refine (somePairs_any R (p + 1) K w2 hR2 (by omega)).mono ?_
  rintro e w3 ⟨v3, rs3, q3, rfl, hRo3, ⟨hl3, hr3⟩, hq3, hR3, hU3⟩
  have hRw3 := hRw2.trans hU3
  have hz2' := hRw2.size
  have hz3' := hRw3.size
  clear hR2
  go_wp2_with fail
  refine (pick_any R (p + 1 + q3) 10 w3 hR3 (by omega)).mono ?_
  rintro e w4 ⟨x, rfl, hx, hR4, hU4⟩
  have hRw4 := hRw3.trans hU4
  have hz4' := hRw4.size
  have hRo4 := hRo3.keep hU4 (fun j e => by omega)
  have hF4 := hRo4.few (by omega) (fun r hr => by rw [hr3 r hr]; omega)
  clear hRo3 hRo4
  have hx9 := hx.1 (by omega)
  clear hx hR3
  by_cases x0 : x = 0
  · subst x0
    go_wp2_with fail
    have hL := litRows w4 [(0, 3), (0, 4), (1, 3), (1, 5), (2, 4), (2, 5)]
    have hup := litW_upd w4 [(0, 3), (0, 4), (1, 3), (1, 5), (2, 4), (2, 5)]
    refine (specOrderOf_any 6 _ 6 6 _ (litW w4 [(0, 3), (0, 4), (1, 3), (1, 5), (2, 4), (2, 5)]) hL (by simp) (by simp)).mono ?_
    rintro e w5 ⟨A5, m5, c5, rfl, r5, hB5⟩
    have hzL := hup.size
    have hRw5 := (hRw4.trans (hup.mono fun _ _ e => e.elim)).below hB5 (fun k h1 h2 => by omega)
    have hR5 := (hR4.upd hup (fun _ e => e.elim)).below hB5 (by omega)
    have hr5 := r5.more (lo' := w.heap.size) (by omega) (Nat.le_refl _)
    have hos := ordL_small 6 (([(0, 3), (0, 4), (1, 3), (1, 5), (2, 4), (2, 5)] : List (Int × Int)).map fun r => [r.1, r.2])
    obtain ⟨zs5, hzs5⟩ : ∃ zs5, ordL 6 (([(0, 3), (0, 4), (1, 3), (1, 5), (2, 4), (2, 5)] : List (Int × Int)).map fun r => [r.1, r.2]) = zs5 := ⟨_, rfl⟩
    rw [hzs5] at hos hr5
    obtain ⟨hsm, hml, hm6⟩ := hos
    rw [hr5.len] at hml hm6
    have hob : ∃ bb : Bool, ordOk 6 (([(0, 3), (0, 4), (1, 3), (1, 5), (2, 4), (2, 5)] : List (Int × Int)).map fun r => [r.1, r.2]) = bb := ⟨_, rfl⟩
    obtain ⟨bb, hbb⟩ := hob
    rw [hbb]
    generalize hp5 : p + 1 + q3 + 1 = p5 at *
    have hp5' : p5 ≤ p + 40 := by omega
    obtain ⟨N, hN1', hN2'⟩ : ∃ N : Nat, N ≤ 6 ∧ 6 ≤ N := ⟨6, Nat.le_refl _, Nat.le_refl _⟩
    clear r5 hL hB5 hR4 hRw4 hup hzL
    go_wp2_with fail
    refine (pick_any R p5 3 w5 hR5 (by omega)).mono ?_
    rintro e w6 ⟨y, rfl, hy, hR6, hU6⟩
    have hRw6 := hRw5.trans hU6
    have hz6 := hRw6.size
    have hr6 := hr5.upd hU6 (fun j e => by omega)
    by_cases hyn : y = 0 ∧ 1 < N
    · obtain ⟨rfl, hN1⟩ := hyn
      try have hK1 : (1 : Int) < (K : Int) := by omega
      go_wp2_with fail
      go_loopw [10, 11] (fun v i wr => ∃ (k bt cp : Nat) (ts : List Int), k ≤ N ∧ i = .int .i64 k ∧ v = .slice (some ⟨bt, 0, none⟩) k cp ∧ (k ≤ cp ∧ cp ≤ maxLen) ∧ (bt < wr.heap.size ∧ w6.heap.size ≤ bt) ∧ ts.length = k ∧ (∀ x ∈ ts, (0 : Int) ≤ x ∧ x < k) ∧ (∀ j, j < k → wr.cell? ⟨bt, j, none⟩ = some (.int .i64 (ts[j]?.getD 0))) ∧ Rd wr R (p5 + 1 + k) ∧ Upd (fun k => k = R) w6 wr) (fun _ i _ => N - (intOf i).toNat)
      case atStart => exact ⟨0, w6.heap.size, 0, [], by omega, rfl, rfl, ⟨by omega, by simp [maxLen]⟩, ⟨by simp, by omega⟩, rfl, (fun x hx => by simp at hx), fun j hj => by omega, hR6.upd ((Upd.refl (fun _ => False) w6).alloc _) (fun _ e => e.elim), (Upd.refl _ _).alloc _⟩
      case round =>
        obtain ⟨k, bt, cp, ts, hk, rfl, rfl, ⟨hkc, hcm⟩, ⟨hbt, hbt6⟩, htl, htb, htc, hRd, hU⟩ := hrel
        have zU := hU.size
        by_cases hlt : k < N
        · go_wp2_with fail
          refine (pick_any R (p5 + 1 + k) (k + 1) _ hRd (by omega)).mono ?_
          rintro e w7 ⟨y, rfl, hy, hR7, hU7⟩
          have hy2 := hy.1 (by omega)
          obtain ⟨h, rfl⟩ := Int.eq_ofNat_of_zero_le hy2.1
          have hhk : h ≤ k := by omega
          have htc7 : ∀ j, j < k → w7.cell? ⟨bt, j, none⟩ = some (.int .i64 (ts[j]?.getD 0)) := fun j hj => hU7.cell (htc j hj) (by simp; omega)
          have hUw7 := hU.trans hU7
          have z7 := hU7.size
          clear hy hy2 htc hU hU7 hRd
          go_wp2_with fail
          obtain ⟨AD, hAD⟩ : ∃ AD, (if cp = h then some (⟨bt, 0, none⟩ : Addr) else some ⟨bt, h, none⟩) = some AD := by split <;> exact ⟨_, rfl⟩
          have hadd : ∀ j, j < (ts.drop h).length → AD.add j = ⟨bt, h + j, none⟩ := fun j hj => by
            have hne : ¬ cp = h := fun e => by simp at hj; omega
            rw [if_neg hne] at hAD
            cases hAD
            exact addr_add ..
          have hadd0 : ∀ j, j < (ts.take h).length → (⟨bt, 0, none⟩ : Addr).add j = ⟨bt, 0 + j, none⟩ := fun j hj => addr_add ..
          have htk : (ts.take h).length = h := by simp; omega
          have htd : (ts.drop h).length = k - h := by simp; omega
          have hgt : ∀ j, j < (ts.take h).length → (ts.take h)[j]?.getD 0 = ts[0 + j]?.getD 0 := fun j hj => by rw [Nat.zero_add, List.getElem?_take_of_lt (by omega)]
          have hgd : ∀ j, j < (ts.drop h).length → (ts.drop h)[j]?.getD 0 = ts[h + j]?.getD 0 := fun j hj => by rw [List.getElem?_drop]
          have hone : ∀ (zs : List Int), ∀ u ∈ zs.map (Value.int .i64), u.oneCell' = true := fun zs u hu => by
            obtain ⟨z, _, rfl⟩ := List.mem_map.1 hu; rfl
          have hbt7 : bt < w7.heap.size := by omega
          have hkN : k < 6 := by omega
          have hhc : h ≤ cp := by omega
          have hhc' : (h : Int) ≤ (cp : Int) := by omega
          have hhk' : (h : Int) ≤ (k : Int) := by omega
          go_region_law (first
            | (refine step_append_any _ rfl (.tmp 94) (.tmp 97) _ (by rfl) w7.heap.size 3 i1 _ 8 Try.underlying23 hi1 hzi1 hsi1 hbi1 rfl (.slice (some ⟨_, 0, none⟩) 0 0) 0 [] (by rfl) (by simp) (by first | exact own_new2 _ _ _ | exact own_sooner (own_new _ _) (by first | (simp; done) | (simp; omega)) | exact own_sooner ((own_new _ _).alloc _) (by first | (simp; done) | (simp; omega))) ⟨bt, 0, none⟩ h cp _ (by rfl) (by rw [List.length_map]; exact htk) (news_at htc7 (by repeat' (first | exact Upd.refl _ _ | assumption | refine Upd.alloc ?_ _ | refine Upd.drew ?_)) hbt7 hadd0 hgt (by omega)) (hone _) (by simp [maxLen]; omega) (by omega) (by first | (simp; done) | (simp; omega)) ?_; intro g1 cap1 x1 hown1 hgrow1 hg1 hl1 hc1 hm1; rw [Nat.zero_add] at hown1; have hU1 : Upd (fun k => w7.heap.size ≤ k) w7 x1 := Upd.grown (by repeat' (first | exact Upd.refl _ _ | assumption | refine Upd.alloc ?_ _ | refine Upd.drew ?_)) hgrow1 (fun q hq => by simp [Value.ownBlock] at hq; omega))
            | (refine step_append_any _ rfl (.tmp 98) (.tmp 100) _ (by rfl) w7.heap.size 3 i1 _ 8 Try.underlying23 hi1 hzi1 hsi1 hbi1 rfl (.slice (some ⟨g1, 0, none⟩) h cap1) h _ (by rfl) (by simp) (by first | exact hown1 | exact hown1.alloc _) ⟨_, 0, none⟩ 1 1 [.int .i64 (k : Int)] (by rfl) rfl (by first | exact news_one (cell_new _ _ _) | exact news_one ((hgrow1.cell_far _ (by first | (simp; done) | (simp; omega)) (by simp [Value.ownBlock])).trans (draw_cell_new2 _ _ _ _)) | exact news_one ((hgrow1.cell_far _ (by first | (simp; done) | (simp; omega)) (by simp [Value.ownBlock])).trans (cell_new _ _ _)) | exact news_one ((hgrow1.cell_far _ (by first | (simp; done) | (simp; omega)) (by simp [Value.ownBlock])).trans (cell_new_alloc _ _ _ _)) | exact news_one ((hgrow1.cell_far _ (by first | (simp; done) | (simp; omega)) (by simp [Value.ownBlock])).trans (cell_new _ _ _))) (by simp [Value.oneCell']) (by simp [maxLen]; omega) (by omega) (by have := hU1.size; simp; omega) ?_; intro g2 cap2 x2 hown2 hgrow2 hg2 hl2 hc2 hm2; have hU2 : Upd (fun k => w7.heap.size ≤ k) w7 x2 := Upd.grown (by repeat' (first | exact Upd.refl _ _ | assumption | refine Upd.alloc ?_ _ | refine Upd.drew ?_)) hgrow2 (fun q hq => by simp [Value.ownBlock] at hq; omega))
            | (refine step_append_any _ rfl (.tmp 101) (.tmp 104) _ (by rfl) w7.heap.size 3 i1 _ 8 Try.underlying23 hi1 hzi1 hsi1 hbi1 rfl (.slice (some ⟨g2, 0, none⟩) (h + 1) cap2) (h + 1) _ (by rfl) (by simp) hown2 AD (k - h) _ _ (by simp [Act.eval]; rfl) (by rw [List.length_map]; exact htd) (news_at htc7 hU2 hbt7 hadd hgd (by omega)) (hone _) (by simp [maxLen]; omega) (by omega) (by have := hU2.size; omega) ?_; intro g3 cap3 x3 hown3 hgrow3 hg3 hl3 hc3 hm3; have hU3 : Upd (fun k => w7.heap.size ≤ k) w7 x3 := Upd.grown hU2 hgrow3 (fun q hq => by simp [Value.ownBlock] at hq; omega)))
          all_goals
            have e3 : ([] ++ (ts.take h).map (Value.int .i64) ++ [Value.int .i64 (k : Int)]) ++ (ts.drop h).map (Value.int .i64) = (ts.take h ++ [(k : Int)] ++ ts.drop h).map (Value.int .i64) := by simp
            rw [e3] at hown3
            have hn3 : h + 1 + (k - h) = k + 1 := by omega
            rw [hn3] at hown3 hc3
            obtain ⟨hl3', hc3'⟩ := own_cells hown3
            simp only [hn3]
            have htb' : ∀ x ∈ ts.take h ++ [(k : Int)] ++ ts.drop h, (0 : Int) ≤ x ∧ x < ((k + 1 : Nat) : Int) := fun x hx => by
              rcases List.mem_append.1 hx with hx | hx
              · rcases List.mem_append.1 hx with hx | hx
                · have := htb x (List.mem_of_mem_take hx); omega
                · have := List.mem_singleton.1 hx; omega
              · have := htb x (List.mem_of_mem_drop hx); omega
            have hR8 : Rd x3 R (p5 + 1 + (k + 1)) := hR7.upd hU3 (fun q hq => by omega)
            have hU8 : Upd (fun k => k = R) w6 x3 := hUw7.trans' hU3 (fun i hi e => by omega)
            go_wp2
            go_roundw
            case rel => exact ⟨k + 1, g3, cap3, ts.take h ++ [(k : Int)] ++ ts.drop h, by omega, by go_num, rfl, ⟨hc3, hm3⟩, ⟨hl3, by omega⟩, hl3', htb', hc3', hR8, hU8⟩
            case measure => simp [intOf]; omega
        · obtain rfl : k = N := by omega
          go_wp2_with fail
          refine (renumbered_any A5 (some ⟨bt, 0, none⟩) m5 c5 k cp zs5 ts wr ((hr6.upd hU (fun j e => by omega)).ints (by have := hU6.size; omega)) ⟨htl, fun _ => ⟨bt, 0, rfl, hbt, fun j hj => by rw [Nat.zero_add]; exact htc j hj⟩⟩ hm6 (by omega) hsm (fun j hj => by
            have hjl : j < ts.length := by omega
            have := htb ts[j] (List.getElem_mem hjl)
            rw [List.getElem?_eq_getElem hjl, Option.getD_some]
            omega)).mono ?_
          rintro e w8 ⟨os, rfl, hos, hArr, hB8⟩
          go_wp2
          go_ret
          exact ⟨_, m5, m5, os, p5 + 1 + k - p, rfl, by omega, Row.of hArr hos (by omega) hArr.lt, by omega, by rw [show p + (p5 + 1 + k - p) = p5 + 1 + k by omega]; exact hRd.below hB8 (by omega), (hRw6.trans hU).below hB8 (fun k h1 h2 => by omega)⟩
    · by_cases hy0 : y = 0
      · subst hy0
        have hN1 : ¬ 1 < N := fun e => hyn ⟨rfl, e⟩
        first
          | (exfalso; omega)
          | (go_wp2; go_ret; exact ⟨A5, m5, c5, zs5, p5 + 1 - p, rfl, by omega, hr6.more (Nat.le_refl _) hU6.size, by omega, by rw [show p + (p5 + 1 - p) = p5 + 1 by omega]; exact hR6, hRw6⟩)
      · go_wp2
        go_ret
        exact ⟨A5, m5, c5, zs5, p5 + 1 - p, rfl, by omega, hr6.more (Nat.le_refl _) hU6.size, by omega, by rw [show p + (p5 + 1 - p) = p5 + 1 by omega]; exact hR6, hRw6⟩
  by_cases x1 : x = 1
  · subst x1
    go_wp2_with fail
    have hL := litRows w4 [(0, 2), (1, 2), (1, 3)]
    have hup := litW_upd w4 [(0, 2), (1, 2), (1, 3)]
    refine (specOrderOf_any 4 _ 3 3 _ (litW w4 [(0, 2), (1, 2), (1, 3)]) hL (by simp) (by simp)).mono ?_
    rintro e w5 ⟨A5, m5, c5, rfl, r5, hB5⟩
    have hzL := hup.size
    have hRw5 := (hRw4.trans (hup.mono fun _ _ e => e.elim)).below hB5 (fun k h1 h2 => by omega)
    have hR5 := (hR4.upd hup (fun _ e => e.elim)).below hB5 (by omega)
    have hr5 := r5.more (lo' := w.heap.size) (by omega) (Nat.le_refl _)
    have hos := ordL_small 4 (([(0, 2), (1, 2), (1, 3)] : List (Int × Int)).map fun r => [r.1, r.2])
    obtain ⟨zs5, hzs5⟩ : ∃ zs5, ordL 4 (([(0, 2), (1, 2), (1, 3)] : List (Int × Int)).map fun r => [r.1, r.2]) = zs5 := ⟨_, rfl⟩
    rw [hzs5] at hos hr5
    obtain ⟨hsm, hml, hm6⟩ := hos
    rw [hr5.len] at hml hm6
    have hob : ∃ bb : Bool, ordOk 4 (([(0, 2), (1, 2), (1, 3)] : List (Int × Int)).map fun r => [r.1, r.2]) = bb := ⟨_, rfl⟩
    obtain ⟨bb, hbb⟩ := hob
    rw [hbb]
    generalize hp5 : p + 1 + q3 + 1 = p5 at *
    have hp5' : p5 ≤ p + 40 := by omega
    obtain ⟨N, hN1', hN2'⟩ : ∃ N : Nat, N ≤ 4 ∧ 4 ≤ N := ⟨4, Nat.le_refl _, Nat.le_refl _⟩
    clear r5 hL hB5 hR4 hRw4 hup hzL
    go_wp2_with fail
    refine (pick_any R p5 3 w5 hR5 (by omega)).mono ?_
    rintro e w6 ⟨y, rfl, hy, hR6, hU6⟩
    have hRw6 := hRw5.trans hU6
    have hz6 := hRw6.size
    have hr6 := hr5.upd hU6 (fun j e => by omega)
    by_cases hyn : y = 0 ∧ 1 < N
    · obtain ⟨rfl, hN1⟩ := hyn
      try have hK1 : (1 : Int) < (K : Int) := by omega
      go_wp2_with fail
      go_loopw [10, 11] (fun v i wr => ∃ (k bt cp : Nat) (ts : List Int), k ≤ N ∧ i = .int .i64 k ∧ v = .slice (some ⟨bt, 0, none⟩) k cp ∧ (k ≤ cp ∧ cp ≤ maxLen) ∧ (bt < wr.heap.size ∧ w6.heap.size ≤ bt) ∧ ts.length = k ∧ (∀ x ∈ ts, (0 : Int) ≤ x ∧ x < k) ∧ (∀ j, j < k → wr.cell? ⟨bt, j, none⟩ = some (.int .i64 (ts[j]?.getD 0))) ∧ Rd wr R (p5 + 1 + k) ∧ Upd (fun k => k = R) w6 wr) (fun _ i _ => N - (intOf i).toNat)
      case atStart => exact ⟨0, w6.heap.size, 0, [], by omega, rfl, rfl, ⟨by omega, by simp [maxLen]⟩, ⟨by simp, by omega⟩, rfl, (fun x hx => by simp at hx), fun j hj => by omega, hR6.upd ((Upd.refl (fun _ => False) w6).alloc _) (fun _ e => e.elim), (Upd.refl _ _).alloc _⟩
      case round =>
        obtain ⟨k, bt, cp, ts, hk, rfl, rfl, ⟨hkc, hcm⟩, ⟨hbt, hbt6⟩, htl, htb, htc, hRd, hU⟩ := hrel
        have zU := hU.size
        by_cases hlt : k < N
        · go_wp2_with fail
          refine (pick_any R (p5 + 1 + k) (k + 1) _ hRd (by omega)).mono ?_
          rintro e w7 ⟨y, rfl, hy, hR7, hU7⟩
          have hy2 := hy.1 (by omega)
          obtain ⟨h, rfl⟩ := Int.eq_ofNat_of_zero_le hy2.1
          have hhk : h ≤ k := by omega
          have htc7 : ∀ j, j < k → w7.cell? ⟨bt, j, none⟩ = some (.int .i64 (ts[j]?.getD 0)) := fun j hj => hU7.cell (htc j hj) (by simp; omega)
          have hUw7 := hU.trans hU7
          have z7 := hU7.size
          clear hy hy2 htc hU hU7 hRd
          go_wp2_with fail
          obtain ⟨AD, hAD⟩ : ∃ AD, (if cp = h then some (⟨bt, 0, none⟩ : Addr) else some ⟨bt, h, none⟩) = some AD := by split <;> exact ⟨_, rfl⟩
          have hadd : ∀ j, j < (ts.drop h).length → AD.add j = ⟨bt, h + j, none⟩ := fun j hj => by
            have hne : ¬ cp = h := fun e => by simp at hj; omega
            rw [if_neg hne] at hAD
            cases hAD
            exact addr_add ..
          have hadd0 : ∀ j, j < (ts.take h).length → (⟨bt, 0, none⟩ : Addr).add j = ⟨bt, 0 + j, none⟩ := fun j hj => addr_add ..
          have htk : (ts.take h).length = h := by simp; omega
          have htd : (ts.drop h).length = k - h := by simp; omega
          have hgt : ∀ j, j < (ts.take h).length → (ts.take h)[j]?.getD 0 = ts[0 + j]?.getD 0 := fun j hj => by rw [Nat.zero_add, List.getElem?_take_of_lt (by omega)]
          have hgd : ∀ j, j < (ts.drop h).length → (ts.drop h)[j]?.getD 0 = ts[h + j]?.getD 0 := fun j hj => by rw [List.getElem?_drop]
          have hone : ∀ (zs : List Int), ∀ u ∈ zs.map (Value.int .i64), u.oneCell' = true := fun zs u hu => by
            obtain ⟨z, _, rfl⟩ := List.mem_map.1 hu; rfl
          have hbt7 : bt < w7.heap.size := by omega
          have hkN : k < 6 := by omega
          have hhc : h ≤ cp := by omega
          have hhc' : (h : Int) ≤ (cp : Int) := by omega
          have hhk' : (h : Int) ≤ (k : Int) := by omega
          go_region_law (first
            | (refine step_append_any _ rfl (.tmp 94) (.tmp 97) _ (by rfl) w7.heap.size 3 i1 _ 8 Try.underlying23 hi1 hzi1 hsi1 hbi1 rfl (.slice (some ⟨_, 0, none⟩) 0 0) 0 [] (by rfl) (by simp) (by first | exact own_new2 _ _ _ | exact own_sooner (own_new _ _) (by first | (simp; done) | (simp; omega)) | exact own_sooner ((own_new _ _).alloc _) (by first | (simp; done) | (simp; omega))) ⟨bt, 0, none⟩ h cp _ (by rfl) (by rw [List.length_map]; exact htk) (news_at htc7 (by repeat' (first | exact Upd.refl _ _ | assumption | refine Upd.alloc ?_ _ | refine Upd.drew ?_)) hbt7 hadd0 hgt (by omega)) (hone _) (by simp [maxLen]; omega) (by omega) (by first | (simp; done) | (simp; omega)) ?_; intro g1 cap1 x1 hown1 hgrow1 hg1 hl1 hc1 hm1; rw [Nat.zero_add] at hown1; have hU1 : Upd (fun k => w7.heap.size ≤ k) w7 x1 := Upd.grown (by repeat' (first | exact Upd.refl _ _ | assumption | refine Upd.alloc ?_ _ | refine Upd.drew ?_)) hgrow1 (fun q hq => by simp [Value.ownBlock] at hq; omega))
            | (refine step_append_any _ rfl (.tmp 98) (.tmp 100) _ (by rfl) w7.heap.size 3 i1 _ 8 Try.underlying23 hi1 hzi1 hsi1 hbi1 rfl (.slice (some ⟨g1, 0, none⟩) h cap1) h _ (by rfl) (by simp) (by first | exact hown1 | exact hown1.alloc _) ⟨_, 0, none⟩ 1 1 [.int .i64 (k : Int)] (by rfl) rfl (by first | exact news_one (cell_new _ _ _) | exact news_one ((hgrow1.cell_far _ (by first | (simp; done) | (simp; omega)) (by simp [Value.ownBlock])).trans (draw_cell_new2 _ _ _ _)) | exact news_one ((hgrow1.cell_far _ (by first | (simp; done) | (simp; omega)) (by simp [Value.ownBlock])).trans (cell_new _ _ _)) | exact news_one ((hgrow1.cell_far _ (by first | (simp; done) | (simp; omega)) (by simp [Value.ownBlock])).trans (cell_new_alloc _ _ _ _)) | exact news_one ((hgrow1.cell_far _ (by first | (simp; done) | (simp; omega)) (by simp [Value.ownBlock])).trans (cell_new _ _ _))) (by simp [Value.oneCell']) (by simp [maxLen]; omega) (by omega) (by have := hU1.size; simp; omega) ?_; intro g2 cap2 x2 hown2 hgrow2 hg2 hl2 hc2 hm2; have hU2 : Upd (fun k => w7.heap.size ≤ k) w7 x2 := Upd.grown (by repeat' (first | exact Upd.refl _ _ | assumption | refine Upd.alloc ?_ _ | refine Upd.drew ?_)) hgrow2 (fun q hq => by simp [Value.ownBlock] at hq; omega))
            | (refine step_append_any _ rfl (.tmp 101) (.tmp 104) _ (by rfl) w7.heap.size 3 i1 _ 8 Try.underlying23 hi1 hzi1 hsi1 hbi1 rfl (.slice (some ⟨g2, 0, none⟩) (h + 1) cap2) (h + 1) _ (by rfl) (by simp) hown2 AD (k - h) _ _ (by simp [Act.eval]; rfl) (by rw [List.length_map]; exact htd) (news_at htc7 hU2 hbt7 hadd hgd (by omega)) (hone _) (by simp [maxLen]; omega) (by omega) (by have := hU2.size; omega) ?_; intro g3 cap3 x3 hown3 hgrow3 hg3 hl3 hc3 hm3; have hU3 : Upd (fun k => w7.heap.size ≤ k) w7 x3 := Upd.grown hU2 hgrow3 (fun q hq => by simp [Value.ownBlock] at hq; omega)))
          all_goals
            have e3 : ([] ++ (ts.take h).map (Value.int .i64) ++ [Value.int .i64 (k : Int)]) ++ (ts.drop h).map (Value.int .i64) = (ts.take h ++ [(k : Int)] ++ ts.drop h).map (Value.int .i64) := by simp
            rw [e3] at hown3
            have hn3 : h + 1 + (k - h) = k + 1 := by omega
            rw [hn3] at hown3 hc3
            obtain ⟨hl3', hc3'⟩ := own_cells hown3
            simp only [hn3]
            have htb' : ∀ x ∈ ts.take h ++ [(k : Int)] ++ ts.drop h, (0 : Int) ≤ x ∧ x < ((k + 1 : Nat) : Int) := fun x hx => by
              rcases List.mem_append.1 hx with hx | hx
              · rcases List.mem_append.1 hx with hx | hx
                · have := htb x (List.mem_of_mem_take hx); omega
                · have := List.mem_singleton.1 hx; omega
              · have := htb x (List.mem_of_mem_drop hx); omega
            have hR8 : Rd x3 R (p5 + 1 + (k + 1)) := hR7.upd hU3 (fun q hq => by omega)
            have hU8 : Upd (fun k => k = R) w6 x3 := hUw7.trans' hU3 (fun i hi e => by omega)
            go_wp2
            go_roundw
            case rel => exact ⟨k + 1, g3, cap3, ts.take h ++ [(k : Int)] ++ ts.drop h, by omega, by go_num, rfl, ⟨hc3, hm3⟩, ⟨hl3, by omega⟩, hl3', htb', hc3', hR8, hU8⟩
            case measure => simp [intOf]; omega
        · obtain rfl : k = N := by omega
          go_wp2_with fail
          refine (renumbered_any A5 (some ⟨bt, 0, none⟩) m5 c5 k cp zs5 ts wr ((hr6.upd hU (fun j e => by omega)).ints (by have := hU6.size; omega)) ⟨htl, fun _ => ⟨bt, 0, rfl, hbt, fun j hj => by rw [Nat.zero_add]; exact htc j hj⟩⟩ hm6 (by omega) hsm (fun j hj => by
            have hjl : j < ts.length := by omega
            have := htb ts[j] (List.getElem_mem hjl)
            rw [List.getElem?_eq_getElem hjl, Option.getD_some]
            omega)).mono ?_
          rintro e w8 ⟨os, rfl, hos, hArr, hB8⟩
          go_wp2
          go_ret
          exact ⟨_, m5, m5, os, p5 + 1 + k - p, rfl, by omega, Row.of hArr hos (by omega) hArr.lt, by omega, by rw [show p + (p5 + 1 + k - p) = p5 + 1 + k by omega]; exact hRd.below hB8 (by omega), (hRw6.trans hU).below hB8 (fun k h1 h2 => by omega)⟩
    · by_cases hy0 : y = 0
      · subst hy0
        have hN1 : ¬ 1 < N := fun e => hyn ⟨rfl, e⟩
        first
          | (exfalso; omega)
          | (go_wp2; go_ret; exact ⟨A5, m5, c5, zs5, p5 + 1 - p, rfl, by omega, hr6.more (Nat.le_refl _) hU6.size, by omega, by rw [show p + (p5 + 1 - p) = p5 + 1 by omega]; exact hR6, hRw6⟩)
      · go_wp2
        go_ret
        exact ⟨A5, m5, c5, zs5, p5 + 1 - p, rfl, by omega, hr6.more (Nat.le_refl _) hU6.size, by omega, by rw [show p + (p5 + 1 - p) = p5 + 1 by omega]; exact hR6, hRw6⟩
  by_cases x2 : x = 2
  · subst x2
    go_wp2_with fail
    have R4 := Rowed.new w4
    go_loopw [6, 7] (fun v i wr => ∃ (i' : Nat) (rs : List (List Int)), i = .int .i64 i' ∧ (1 ≤ i' ∧ (i' ≤ K ∨ i' = 1)) ∧ rs.length + 1 = i' ∧ (∀ r ∈ rs, r.length = 2) ∧ Rowed wr w4.heap.size v rs ∧ Rd wr R (p + 1 + q3 + 1 + rs.length) ∧ Upd (fun k => k = R) w wr) (fun _ i _ => K + 1 - (intOf i).toNat)
    case atStart => exact ⟨1, [], rfl, ⟨by omega, .inr rfl⟩, rfl, (fun r hr => by simp at hr), R4, hR4.upd ((Upd.refl (fun _ => False) w4).alloc _) (fun _ e => e.elim), hRw4.alloc _⟩
    case round =>
      clear hR4 R4
      obtain ⟨i', rs, rfl, ⟨hia, hib⟩, hrl, hall, hRo, hRd, hU⟩ := hrel
      have zU := hU.size
      by_cases hlt : i' < K
      · go_wp2_with fail
        refine (pick_any R (p + 1 + q3 + 1 + rs.length) i' _ hRd (by omega)).mono ?_
        rintro e w5 ⟨a, rfl, -, hR5, hU5⟩
        have hRo5 := hRo.keep hU5 (fun j e => by omega)
        have hUw := hU.trans hU5
        have z5 := hU5.size
        obtain ⟨vs, hown, hC, hb1⟩ := hRo5
        clear hRo hRd hU hU5
        go_wp2_with (at_builtin; go_loud (refine wpList_append1 _ rfl (.tmp 46) (.tmp 52) _ rfl w4.heap.size 23 i0 _ 24 Try.underlying45 hi0 hz0 hz1 hz2 rfl _ rs.length _ rfl ((hown.alloc _).alloc _) (w5.heap.size + 1) 1 (.slice (some ⟨w5.heap.size, 0, none⟩) 2 2) rfl (draw_cell_new2 _ _ _ _) rfl (by omega) (by omega) (by simp; omega) ?_); rintro v' w' hown' hg' -)
        have hall' : ∀ r ∈ rs ++ [[a, (i' : Int)]], r.length = 2 := fun r hr => by
          rcases List.mem_append.1 hr with hr | hr
          · exact hall r hr
          · rw [List.mem_singleton.1 hr]; rfl
        have hUg : Upd (fun k => w4.heap.size ≤ k) w5 w' := (((Upd.refl (fun k => w4.heap.size ≤ k) w5).alloc _).alloc _).grown hg' (fun k hk => .inr (own_base hown k hk))
        have hR9 : Rd w' R (p + 1 + q3 + 1 + (rs ++ [[a, (i' : Int)]]).length) := by
          rw [List.length_append]; exact hR5.upd hUg (fun k hk => by omega)
        have hU9 : Upd (fun k => k = R) w w' := hUw.trans' hUg (fun i hi e => by omega)
        have hl9 : (rs ++ [[a, (i' : Int)]]).length + 1 = i' + 1 := by simp; omega
        go_roundw
        case rel => exact ⟨i' + 1, rs ++ [[a, (i' : Int)]], by go_num, ⟨by omega, .inl (by omega)⟩, hl9, hall', Rowed.step hown rfl hC hb1 hown' hg', hR9, hU9⟩
        case measure => simp [intOf]; omega
      · have hF := hRo.few (by omega) (fun r hr => by rw [hall r hr]; omega)
        obtain ⟨A3, c3, rfl, hI4, hl4, hr4⟩ := hF
        go_wp2_with fail
        refine (specOrderOf_any K A3 _ c3 rs wr hI4 hl4 hr4).mono ?_
        rintro e w5 ⟨A5, m5, c5, rfl, r5, hB5⟩
        have hRw5 := hU.below hB5 (fun k h1 h2 => by omega)
        have hR5 := hRd.below hB5 (by omega)
        have hr5 := r5.more (lo' := w.heap.size) zU (Nat.le_refl _)
        obtain ⟨hsm, hml, hm6⟩ := ordL_small K rs
        rw [r5.len] at hml hm6
        generalize ordL (K : Int) rs = zs5 at *
        generalize hp5 : p + 1 + q3 + 1 + rs.length = p5 at *
        have hp5' : p5 ≤ p + 40 := by omega
        obtain ⟨N, hN1', hN2'⟩ : ∃ N : Nat, N ≤ K ∧ K ≤ N := ⟨K, Nat.le_refl _, Nat.le_refl _⟩
        clear r5 hI4 hB5 hRd hU hr4 hl4 hRo
        go_wp2_with fail
        refine (pick_any R p5 3 w5 hR5 (by omega)).mono ?_
        rintro e w6 ⟨y, rfl, hy, hR6, hU6⟩
        have hRw6 := hRw5.trans hU6
        have hz6 := hRw6.size
        have hr6 := hr5.upd hU6 (fun j e => by omega)
        by_cases hyn : y = 0 ∧ 1 < N
        · obtain ⟨rfl, hN1⟩ := hyn
          try have hK1 : (1 : Int) < (K : Int) := by omega
          go_wp2_with fail
          go_loopw [10, 11] (fun v i wr => ∃ (k bt cp : Nat) (ts : List Int), k ≤ N ∧ i = .int .i64 k ∧ v = .slice (some ⟨bt, 0, none⟩) k cp ∧ (k ≤ cp ∧ cp ≤ maxLen) ∧ (bt < wr.heap.size ∧ w6.heap.size ≤ bt) ∧ ts.length = k ∧ (∀ x ∈ ts, (0 : Int) ≤ x ∧ x < k) ∧ (∀ j, j < k → wr.cell? ⟨bt, j, none⟩ = some (.int .i64 (ts[j]?.getD 0))) ∧ Rd wr R (p5 + 1 + k) ∧ Upd (fun k => k = R) w6 wr) (fun _ i _ => N - (intOf i).toNat)
          case atStart => exact ⟨0, w6.heap.size, 0, [], by omega, rfl, rfl, ⟨by omega, by simp [maxLen]⟩, ⟨by simp, by omega⟩, rfl, (fun x hx => by simp at hx), fun j hj => by omega, hR6.upd ((Upd.refl (fun _ => False) w6).alloc _) (fun _ e => e.elim), (Upd.refl _ _).alloc _⟩
          case round =>
            obtain ⟨k, bt, cp, ts, hk, rfl, rfl, ⟨hkc, hcm⟩, ⟨hbt, hbt6⟩, htl, htb, htc, hRd, hU⟩ := hrel
            have zU := hU.size
            by_cases hlt : k < N
            · go_wp2_with fail
              refine (pick_any R (p5 + 1 + k) (k + 1) _ hRd (by omega)).mono ?_
              rintro e w7 ⟨y, rfl, hy, hR7, hU7⟩
              have hy2 := hy.1 (by omega)
              obtain ⟨h, rfl⟩ := Int.eq_ofNat_of_zero_le hy2.1
              have hhk : h ≤ k := by omega
              have htc7 : ∀ j, j < k → w7.cell? ⟨bt, j, none⟩ = some (.int .i64 (ts[j]?.getD 0)) := fun j hj => hU7.cell (htc j hj) (by simp; omega)
              have hUw7 := hU.trans hU7
              have z7 := hU7.size
              clear hy hy2 htc hU hU7 hRd
              go_wp2_with fail
              obtain ⟨AD, hAD⟩ : ∃ AD, (if cp = h then some (⟨bt, 0, none⟩ : Addr) else some ⟨bt, h, none⟩) = some AD := by split <;> exact ⟨_, rfl⟩
              have hadd : ∀ j, j < (ts.drop h).length → AD.add j = ⟨bt, h + j, none⟩ := fun j hj => by
                have hne : ¬ cp = h := fun e => by simp at hj; omega
                rw [if_neg hne] at hAD
                cases hAD
                exact addr_add ..
              have hadd0 : ∀ j, j < (ts.take h).length → (⟨bt, 0, none⟩ : Addr).add j = ⟨bt, 0 + j, none⟩ := fun j hj => addr_add ..
              have htk : (ts.take h).length = h := by simp; omega
              have htd : (ts.drop h).length = k - h := by simp; omega
              have hgt : ∀ j, j < (ts.take h).length → (ts.take h)[j]?.getD 0 = ts[0 + j]?.getD 0 := fun j hj => by rw [Nat.zero_add, List.getElem?_take_of_lt (by omega)]
              have hgd : ∀ j, j < (ts.drop h).length → (ts.drop h)[j]?.getD 0 = ts[h + j]?.getD 0 := fun j hj => by rw [List.getElem?_drop]
              have hone : ∀ (zs : List Int), ∀ u ∈ zs.map (Value.int .i64), u.oneCell' = true := fun zs u hu => by
                obtain ⟨z, _, rfl⟩ := List.mem_map.1 hu; rfl
              have hbt7 : bt < w7.heap.size := by omega
              have hkN : k < 6 := by omega
              have hhc : h ≤ cp := by omega
              have hhc' : (h : Int) ≤ (cp : Int) := by omega
              have hhk' : (h : Int) ≤ (k : Int) := by omega
              go_region_law (first
                | (refine step_append_any _ rfl (.tmp 94) (.tmp 97) _ (by rfl) w7.heap.size 3 i1 _ 8 Try.underlying23 hi1 hzi1 hsi1 hbi1 rfl (.slice (some ⟨_, 0, none⟩) 0 0) 0 [] (by rfl) (by simp) (by first | exact own_new2 _ _ _ | exact own_sooner (own_new _ _) (by first | (simp; done) | (simp; omega)) | exact own_sooner ((own_new _ _).alloc _) (by first | (simp; done) | (simp; omega))) ⟨bt, 0, none⟩ h cp _ (by rfl) (by rw [List.length_map]; exact htk) (news_at htc7 (by repeat' (first | exact Upd.refl _ _ | assumption | refine Upd.alloc ?_ _ | refine Upd.drew ?_)) hbt7 hadd0 hgt (by omega)) (hone _) (by simp [maxLen]; omega) (by omega) (by first | (simp; done) | (simp; omega)) ?_; intro g1 cap1 x1 hown1 hgrow1 hg1 hl1 hc1 hm1; rw [Nat.zero_add] at hown1; have hU1 : Upd (fun k => w7.heap.size ≤ k) w7 x1 := Upd.grown (by repeat' (first | exact Upd.refl _ _ | assumption | refine Upd.alloc ?_ _ | refine Upd.drew ?_)) hgrow1 (fun q hq => by simp [Value.ownBlock] at hq; omega))
                | (refine step_append_any _ rfl (.tmp 98) (.tmp 100) _ (by rfl) w7.heap.size 3 i1 _ 8 Try.underlying23 hi1 hzi1 hsi1 hbi1 rfl (.slice (some ⟨g1, 0, none⟩) h cap1) h _ (by rfl) (by simp) (by first | exact hown1 | exact hown1.alloc _) ⟨_, 0, none⟩ 1 1 [.int .i64 (k : Int)] (by rfl) rfl (by first | exact news_one (cell_new _ _ _) | exact news_one ((hgrow1.cell_far _ (by first | (simp; done) | (simp; omega)) (by simp [Value.ownBlock])).trans (draw_cell_new2 _ _ _ _)) | exact news_one ((hgrow1.cell_far _ (by first | (simp; done) | (simp; omega)) (by simp [Value.ownBlock])).trans (cell_new _ _ _)) | exact news_one ((hgrow1.cell_far _ (by first | (simp; done) | (simp; omega)) (by simp [Value.ownBlock])).trans (cell_new_alloc _ _ _ _)) | exact news_one ((hgrow1.cell_far _ (by first | (simp; done) | (simp; omega)) (by simp [Value.ownBlock])).trans (cell_new _ _ _))) (by simp [Value.oneCell']) (by simp [maxLen]; omega) (by omega) (by have := hU1.size; simp; omega) ?_; intro g2 cap2 x2 hown2 hgrow2 hg2 hl2 hc2 hm2; have hU2 : Upd (fun k => w7.heap.size ≤ k) w7 x2 := Upd.grown (by repeat' (first | exact Upd.refl _ _ | assumption | refine Upd.alloc ?_ _ | refine Upd.drew ?_)) hgrow2 (fun q hq => by simp [Value.ownBlock] at hq; omega))
                | (refine step_append_any _ rfl (.tmp 101) (.tmp 104) _ (by rfl) w7.heap.size 3 i1 _ 8 Try.underlying23 hi1 hzi1 hsi1 hbi1 rfl (.slice (some ⟨g2, 0, none⟩) (h + 1) cap2) (h + 1) _ (by rfl) (by simp) hown2 AD (k - h) _ _ (by simp [Act.eval]; rfl) (by rw [List.length_map]; exact htd) (news_at htc7 hU2 hbt7 hadd hgd (by omega)) (hone _) (by simp [maxLen]; omega) (by omega) (by have := hU2.size; omega) ?_; intro g3 cap3 x3 hown3 hgrow3 hg3 hl3 hc3 hm3; have hU3 : Upd (fun k => w7.heap.size ≤ k) w7 x3 := Upd.grown hU2 hgrow3 (fun q hq => by simp [Value.ownBlock] at hq; omega)))
              all_goals
                have e3 : ([] ++ (ts.take h).map (Value.int .i64) ++ [Value.int .i64 (k : Int)]) ++ (ts.drop h).map (Value.int .i64) = (ts.take h ++ [(k : Int)] ++ ts.drop h).map (Value.int .i64) := by simp
                rw [e3] at hown3
                have hn3 : h + 1 + (k - h) = k + 1 := by omega
                rw [hn3] at hown3 hc3
                obtain ⟨hl3', hc3'⟩ := own_cells hown3
                simp only [hn3]
                have htb' : ∀ x ∈ ts.take h ++ [(k : Int)] ++ ts.drop h, (0 : Int) ≤ x ∧ x < ((k + 1 : Nat) : Int) := fun x hx => by
                  rcases List.mem_append.1 hx with hx | hx
                  · rcases List.mem_append.1 hx with hx | hx
                    · have := htb x (List.mem_of_mem_take hx); omega
                    · have := List.mem_singleton.1 hx; omega
                  · have := htb x (List.mem_of_mem_drop hx); omega
                have hR8 : Rd x3 R (p5 + 1 + (k + 1)) := hR7.upd hU3 (fun q hq => by omega)
                have hU8 : Upd (fun k => k = R) w6 x3 := hUw7.trans' hU3 (fun i hi e => by omega)
                go_wp2
                go_roundw
                case rel => exact ⟨k + 1, g3, cap3, ts.take h ++ [(k : Int)] ++ ts.drop h, by omega, by go_num, rfl, ⟨hc3, hm3⟩, ⟨hl3, by omega⟩, hl3', htb', hc3', hR8, hU8⟩
                case measure => simp [intOf]; omega
            · obtain rfl : k = N := by omega
              go_wp2_with fail
              refine (renumbered_any A5 (some ⟨bt, 0, none⟩) m5 c5 k cp zs5 ts wr ((hr6.upd hU (fun j e => by omega)).ints (by have := hU6.size; omega)) ⟨htl, fun _ => ⟨bt, 0, rfl, hbt, fun j hj => by rw [Nat.zero_add]; exact htc j hj⟩⟩ hm6 (by omega) hsm (fun j hj => by
                have hjl : j < ts.length := by omega
                have := htb ts[j] (List.getElem_mem hjl)
                rw [List.getElem?_eq_getElem hjl, Option.getD_some]
                omega)).mono ?_
              rintro e w8 ⟨os, rfl, hos, hArr, hB8⟩
              go_wp2
              go_ret
              exact ⟨_, m5, m5, os, p5 + 1 + k - p, rfl, by omega, Row.of hArr hos (by omega) hArr.lt, by omega, by rw [show p + (p5 + 1 + k - p) = p5 + 1 + k by omega]; exact hRd.below hB8 (by omega), (hRw6.trans hU).below hB8 (fun k h1 h2 => by omega)⟩
        · by_cases hy0 : y = 0
          · subst hy0
            have hN1 : ¬ 1 < N := fun e => hyn ⟨rfl, e⟩
            first
              | (exfalso; omega)
              | (go_wp2; go_ret; exact ⟨A5, m5, c5, zs5, p5 + 1 - p, rfl, by omega, hr6.more (Nat.le_refl _) hU6.size, by omega, by rw [show p + (p5 + 1 - p) = p5 + 1 by omega]; exact hR6, hRw6⟩)
          · go_wp2
            go_ret
            exact ⟨A5, m5, c5, zs5, p5 + 1 - p, rfl, by omega, hr6.more (Nat.le_refl _) hU6.size, by omega, by rw [show p + (p5 + 1 - p) = p5 + 1 by omega]; exact hR6, hRw6⟩
  by_cases x3 : x = 3
  · subst x3
    go_wp2_with fail
    have hL := litRows w4 [(0, 1), (0, 2), (0, 3), (1, 4), (2, 4), (3, 4)]
    have hup := litW_upd w4 [(0, 1), (0, 2), (0, 3), (1, 4), (2, 4), (3, 4)]
    refine (specOrderOf_any 5 _ 6 6 _ (litW w4 [(0, 1), (0, 2), (0, 3), (1, 4), (2, 4), (3, 4)]) hL (by simp) (by simp)).mono ?_
    rintro e w5 ⟨A5, m5, c5, rfl, r5, hB5⟩
    have hzL := hup.size
    have hRw5 := (hRw4.trans (hup.mono fun _ _ e => e.elim)).below hB5 (fun k h1 h2 => by omega)
    have hR5 := (hR4.upd hup (fun _ e => e.elim)).below hB5 (by omega)
    have hr5 := r5.more (lo' := w.heap.size) (by omega) (Nat.le_refl _)
    have hos := ordL_small 5 (([(0, 1), (0, 2), (0, 3), (1, 4), (2, 4), (3, 4)] : List (Int × Int)).map fun r => [r.1, r.2])
    obtain ⟨zs5, hzs5⟩ : ∃ zs5, ordL 5 (([(0, 1), (0, 2), (0, 3), (1, 4), (2, 4), (3, 4)] : List (Int × Int)).map fun r => [r.1, r.2]) = zs5 := ⟨_, rfl⟩
    rw [hzs5] at hos hr5
    obtain ⟨hsm, hml, hm6⟩ := hos
    rw [hr5.len] at hml hm6
    have hob : ∃ bb : Bool, ordOk 5 (([(0, 1), (0, 2), (0, 3), (1, 4), (2, 4), (3, 4)] : List (Int × Int)).map fun r => [r.1, r.2]) = bb := ⟨_, rfl⟩
    obtain ⟨bb, hbb⟩ := hob
    rw [hbb]
    generalize hp5 : p + 1 + q3 + 1 = p5 at *
    have hp5' : p5 ≤ p + 40 := by omega
    obtain ⟨N, hN1', hN2'⟩ : ∃ N : Nat, N ≤ 5 ∧ 5 ≤ N := ⟨5, Nat.le_refl _, Nat.le_refl _⟩
    clear r5 hL hB5 hR4 hRw4 hup hzL
    go_wp2_with fail
    refine (pick_any R p5 3 w5 hR5 (by omega)).mono ?_
    rintro e w6 ⟨y, rfl, hy, hR6, hU6⟩
    have hRw6 := hRw5.trans hU6
    have hz6 := hRw6.size
    have hr6 := hr5.upd hU6 (fun j e => by omega)
    by_cases hyn : y = 0 ∧ 1 < N
    · obtain ⟨rfl, hN1⟩ := hyn
      try have hK1 : (1 : Int) < (K : Int) := by omega
      go_wp2_with fail
      go_loopw [10, 11] (fun v i wr => ∃ (k bt cp : Nat) (ts : List Int), k ≤ N ∧ i = .int .i64 k ∧ v = .slice (some ⟨bt, 0, none⟩) k cp ∧ (k ≤ cp ∧ cp ≤ maxLen) ∧ (bt < wr.heap.size ∧ w6.heap.size ≤ bt) ∧ ts.length = k ∧ (∀ x ∈ ts, (0 : Int) ≤ x ∧ x < k) ∧ (∀ j, j < k → wr.cell? ⟨bt, j, none⟩ = some (.int .i64 (ts[j]?.getD 0))) ∧ Rd wr R (p5 + 1 + k) ∧ Upd (fun k => k = R) w6 wr) (fun _ i _ => N - (intOf i).toNat)
      case atStart => exact ⟨0, w6.heap.size, 0, [], by omega, rfl, rfl, ⟨by omega, by simp [maxLen]⟩, ⟨by simp, by omega⟩, rfl, (fun x hx => by simp at hx), fun j hj => by omega, hR6.upd ((Upd.refl (fun _ => False) w6).alloc _) (fun _ e => e.elim), (Upd.refl _ _).alloc _⟩
      case round =>
        obtain ⟨k, bt, cp, ts, hk, rfl, rfl, ⟨hkc, hcm⟩, ⟨hbt, hbt6⟩, htl, htb, htc, hRd, hU⟩ := hrel
        have zU := hU.size
        by_cases hlt : k < N
        · go_wp2_with fail
          refine (pick_any R (p5 + 1 + k) (k + 1) _ hRd (by omega)).mono ?_
          rintro e w7 ⟨y, rfl, hy, hR7, hU7⟩
          have hy2 := hy.1 (by omega)
          obtain ⟨h, rfl⟩ := Int.eq_ofNat_of_zero_le hy2.1
          have hhk : h ≤ k := by omega
          have htc7 : ∀ j, j < k → w7.cell? ⟨bt, j, none⟩ = some (.int .i64 (ts[j]?.getD 0)) := fun j hj => hU7.cell (htc j hj) (by simp; omega)
          have hUw7 := hU.trans hU7
          have z7 := hU7.size
          clear hy hy2 htc hU hU7 hRd
          go_wp2_with fail
          obtain ⟨AD, hAD⟩ : ∃ AD, (if cp = h then some (⟨bt, 0, none⟩ : Addr) else some ⟨bt, h, none⟩) = some AD := by split <;> exact ⟨_, rfl⟩
          have hadd : ∀ j, j < (ts.drop h).length → AD.add j = ⟨bt, h + j, none⟩ := fun j hj => by
            have hne : ¬ cp = h := fun e => by simp at hj; omega
            rw [if_neg hne] at hAD
            cases hAD
            exact addr_add ..
          have hadd0 : ∀ j, j < (ts.take h).length → (⟨bt, 0, none⟩ : Addr).add j = ⟨bt, 0 + j, none⟩ := fun j hj => addr_add ..
          have htk : (ts.take h).length = h := by simp; omega
          have htd : (ts.drop h).length = k - h := by simp; omega
          have hgt : ∀ j, j < (ts.take h).length → (ts.take h)[j]?.getD 0 = ts[0 + j]?.getD 0 := fun j hj => by rw [Nat.zero_add, List.getElem?_take_of_lt (by omega)]
          have hgd : ∀ j, j < (ts.drop h).length → (ts.drop h)[j]?.getD 0 = ts[h + j]?.getD 0 := fun j hj => by rw [List.getElem?_drop]
          have hone : ∀ (zs : List Int), ∀ u ∈ zs.map (Value.int .i64), u.oneCell' = true := fun zs u hu => by
            obtain ⟨z, _, rfl⟩ := List.mem_map.1 hu; rfl
          have hbt7 : bt < w7.heap.size := by omega
          have hkN : k < 6 := by omega
          have hhc : h ≤ cp := by omega
          have hhc' : (h : Int) ≤ (cp : Int) := by omega
          have hhk' : (h : Int) ≤ (k : Int) := by omega
          go_region_law (first
            | (refine step_append_any _ rfl (.tmp 94) (.tmp 97) _ (by rfl) w7.heap.size 3 i1 _ 8 Try.underlying23 hi1 hzi1 hsi1 hbi1 rfl (.slice (some ⟨_, 0, none⟩) 0 0) 0 [] (by rfl) (by simp) (by first | exact own_new2 _ _ _ | exact own_sooner (own_new _ _) (by first | (simp; done) | (simp; omega)) | exact own_sooner ((own_new _ _).alloc _) (by first | (simp; done) | (simp; omega))) ⟨bt, 0, none⟩ h cp _ (by rfl) (by rw [List.length_map]; exact htk) (news_at htc7 (by repeat' (first | exact Upd.refl _ _ | assumption | refine Upd.alloc ?_ _ | refine Upd.drew ?_)) hbt7 hadd0 hgt (by omega)) (hone _) (by simp [maxLen]; omega) (by omega) (by first | (simp; done) | (simp; omega)) ?_; intro g1 cap1 x1 hown1 hgrow1 hg1 hl1 hc1 hm1; rw [Nat.zero_add] at hown1; have hU1 : Upd (fun k => w7.heap.size ≤ k) w7 x1 := Upd.grown (by repeat' (first | exact Upd.refl _ _ | assumption | refine Upd.alloc ?_ _ | refine Upd.drew ?_)) hgrow1 (fun q hq => by simp [Value.ownBlock] at hq; omega))
            | (refine step_append_any _ rfl (.tmp 98) (.tmp 100) _ (by rfl) w7.heap.size 3 i1 _ 8 Try.underlying23 hi1 hzi1 hsi1 hbi1 rfl (.slice (some ⟨g1, 0, none⟩) h cap1) h _ (by rfl) (by simp) (by first | exact hown1 | exact hown1.alloc _) ⟨_, 0, none⟩ 1 1 [.int .i64 (k : Int)] (by rfl) rfl (by first | exact news_one (cell_new _ _ _) | exact news_one ((hgrow1.cell_far _ (by first | (simp; done) | (simp; omega)) (by simp [Value.ownBlock])).trans (draw_cell_new2 _ _ _ _)) | exact news_one ((hgrow1.cell_far _ (by first | (simp; done) | (simp; omega)) (by simp [Value.ownBlock])).trans (cell_new _ _ _)) | exact news_one ((hgrow1.cell_far _ (by first | (simp; done) | (simp; omega)) (by simp [Value.ownBlock])).trans (cell_new_alloc _ _ _ _)) | exact news_one ((hgrow1.cell_far _ (by first | (simp; done) | (simp; omega)) (by simp [Value.ownBlock])).trans (cell_new _ _ _))) (by simp [Value.oneCell']) (by simp [maxLen]; omega) (by omega) (by have := hU1.size; simp; omega) ?_; intro g2 cap2 x2 hown2 hgrow2 hg2 hl2 hc2 hm2; have hU2 : Upd (fun k => w7.heap.size ≤ k) w7 x2 := Upd.grown (by repeat' (first | exact Upd.refl _ _ | assumption | refine Upd.alloc ?_ _ | refine Upd.drew ?_)) hgrow2 (fun q hq => by simp [Value.ownBlock] at hq; omega))
            | (refine step_append_any _ rfl (.tmp 101) (.tmp 104) _ (by rfl) w7.heap.size 3 i1 _ 8 Try.underlying23 hi1 hzi1 hsi1 hbi1 rfl (.slice (some ⟨g2, 0, none⟩) (h + 1) cap2) (h + 1) _ (by rfl) (by simp) hown2 AD (k - h) _ _ (by simp [Act.eval]; rfl) (by rw [List.length_map]; exact htd) (news_at htc7 hU2 hbt7 hadd hgd (by omega)) (hone _) (by simp [maxLen]; omega) (by omega) (by have := hU2.size; omega) ?_; intro g3 cap3 x3 hown3 hgrow3 hg3 hl3 hc3 hm3; have hU3 : Upd (fun k => w7.heap.size ≤ k) w7 x3 := Upd.grown hU2 hgrow3 (fun q hq => by simp [Value.ownBlock] at hq; omega)))
          all_goals
            have e3 : ([] ++ (ts.take h).map (Value.int .i64) ++ [Value.int .i64 (k : Int)]) ++ (ts.drop h).map (Value.int .i64) = (ts.take h ++ [(k : Int)] ++ ts.drop h).map (Value.int .i64) := by simp
            rw [e3] at hown3
            have hn3 : h + 1 + (k - h) = k + 1 := by omega
            rw [hn3] at hown3 hc3
            obtain ⟨hl3', hc3'⟩ := own_cells hown3
            simp only [hn3]
            have htb' : ∀ x ∈ ts.take h ++ [(k : Int)] ++ ts.drop h, (0 : Int) ≤ x ∧ x < ((k + 1 : Nat) : Int) := fun x hx => by
              rcases List.mem_append.1 hx with hx | hx
              · rcases List.mem_append.1 hx with hx | hx
                · have := htb x (List.mem_of_mem_take hx); omega
                · have := List.mem_singleton.1 hx; omega
              · have := htb x (List.mem_of_mem_drop hx); omega
            have hR8 : Rd x3 R (p5 + 1 + (k + 1)) := hR7.upd hU3 (fun q hq => by omega)
            have hU8 : Upd (fun k => k = R) w6 x3 := hUw7.trans' hU3 (fun i hi e => by omega)
            go_wp2
            go_roundw
            case rel => exact ⟨k + 1, g3, cap3, ts.take h ++ [(k : Int)] ++ ts.drop h, by omega, by go_num, rfl, ⟨hc3, hm3⟩, ⟨hl3, by omega⟩, hl3', htb', hc3', hR8, hU8⟩
            case measure => simp [intOf]; omega
        · obtain rfl : k = N := by omega
          go_wp2_with fail
          refine (renumbered_any A5 (some ⟨bt, 0, none⟩) m5 c5 k cp zs5 ts wr ((hr6.upd hU (fun j e => by omega)).ints (by have := hU6.size; omega)) ⟨htl, fun _ => ⟨bt, 0, rfl, hbt, fun j hj => by rw [Nat.zero_add]; exact htc j hj⟩⟩ hm6 (by omega) hsm (fun j hj => by
            have hjl : j < ts.length := by omega
            have := htb ts[j] (List.getElem_mem hjl)
            rw [List.getElem?_eq_getElem hjl, Option.getD_some]
            omega)).mono ?_
          rintro e w8 ⟨os, rfl, hos, hArr, hB8⟩
          go_wp2
          go_ret
          exact ⟨_, m5, m5, os, p5 + 1 + k - p, rfl, by omega, Row.of hArr hos (by omega) hArr.lt, by omega, by rw [show p + (p5 + 1 + k - p) = p5 + 1 + k by omega]; exact hRd.below hB8 (by omega), (hRw6.trans hU).below hB8 (fun k h1 h2 => by omega)⟩
    · by_cases hy0 : y = 0
      · subst hy0
        have hN1 : ¬ 1 < N := fun e => hyn ⟨rfl, e⟩
        first
          | (exfalso; omega)
          | (go_wp2; go_ret; exact ⟨A5, m5, c5, zs5, p5 + 1 - p, rfl, by omega, hr6.more (Nat.le_refl _) hU6.size, by omega, by rw [show p + (p5 + 1 - p) = p5 + 1 by omega]; exact hR6, hRw6⟩)
      · go_wp2
        go_ret
        exact ⟨A5, m5, c5, zs5, p5 + 1 - p, rfl, by omega, hr6.more (Nat.le_refl _) hU6.size, by omega, by rw [show p + (p5 + 1 - p) = p5 + 1 by omega]; exact hR6, hRw6⟩
  obtain ⟨A3, c3, rfl, hI4, hl4, hr4⟩ := hF4
  go_wp2_with fail
  refine (specOrderOf_any K A3 _ c3 rs3 w4 hI4 hl4 hr4).mono ?_
  rintro e w5 ⟨A5, m5, c5, rfl, r5, hB5⟩
  have hRw5 := hRw4.below hB5 (fun k h1 h2 => by omega)
  have hR5 := hR4.below hB5 (by omega)
  have hr5 := r5.more (lo' := w.heap.size) hz4' (Nat.le_refl _)
  obtain ⟨hsm, hml, hm6⟩ := ordL_small K rs3
  rw [r5.len] at hml hm6
  generalize ordL (K : Int) rs3 = zs5 at *
  generalize hp5 : p + 1 + q3 + 1 = p5 at *
  have hp5' : p5 ≤ p + 40 := by omega
  obtain ⟨N, hN1', hN2'⟩ : ∃ N : Nat, N ≤ K ∧ K ≤ N := ⟨K, Nat.le_refl _, Nat.le_refl _⟩
  clear r5 hI4 hB5 hR4 hRw4 hr4 hl4
  go_wp2_with fail
  refine (pick_any R p5 3 w5 hR5 (by omega)).mono ?_
  rintro e w6 ⟨y, rfl, hy, hR6, hU6⟩
  have hRw6 := hRw5.trans hU6
  have hz6 := hRw6.size
  have hr6 := hr5.upd hU6 (fun j e => by omega)
  by_cases hyn : y = 0 ∧ 1 < N
  · obtain ⟨rfl, hN1⟩ := hyn
    try have hK1 : (1 : Int) < (K : Int) := by omega
    go_wp2_with fail
    go_loopw [10, 11] (fun v i wr => ∃ (k bt cp : Nat) (ts : List Int), k ≤ N ∧ i = .int .i64 k ∧ v = .slice (some ⟨bt, 0, none⟩) k cp ∧ (k ≤ cp ∧ cp ≤ maxLen) ∧ (bt < wr.heap.size ∧ w6.heap.size ≤ bt) ∧ ts.length = k ∧ (∀ x ∈ ts, (0 : Int) ≤ x ∧ x < k) ∧ (∀ j, j < k → wr.cell? ⟨bt, j, none⟩ = some (.int .i64 (ts[j]?.getD 0))) ∧ Rd wr R (p5 + 1 + k) ∧ Upd (fun k => k = R) w6 wr) (fun _ i _ => N - (intOf i).toNat)
    case atStart => exact ⟨0, w6.heap.size, 0, [], by omega, rfl, rfl, ⟨by omega, by simp [maxLen]⟩, ⟨by simp, by omega⟩, rfl, (fun x hx => by simp at hx), fun j hj => by omega, hR6.upd ((Upd.refl (fun _ => False) w6).alloc _) (fun _ e => e.elim), (Upd.refl _ _).alloc _⟩
    case round =>
      obtain ⟨k, bt, cp, ts, hk, rfl, rfl, ⟨hkc, hcm⟩, ⟨hbt, hbt6⟩, htl, htb, htc, hRd, hU⟩ := hrel
      have zU := hU.size
      by_cases hlt : k < N
      · go_wp2_with fail
        refine (pick_any R (p5 + 1 + k) (k + 1) _ hRd (by omega)).mono ?_
        rintro e w7 ⟨y, rfl, hy, hR7, hU7⟩
        have hy2 := hy.1 (by omega)
        obtain ⟨h, rfl⟩ := Int.eq_ofNat_of_zero_le hy2.1
        have hhk : h ≤ k := by omega
        have htc7 : ∀ j, j < k → w7.cell? ⟨bt, j, none⟩ = some (.int .i64 (ts[j]?.getD 0)) := fun j hj => hU7.cell (htc j hj) (by simp; omega)
        have hUw7 := hU.trans hU7
        have z7 := hU7.size
        clear hy hy2 htc hU hU7 hRd
        go_wp2_with fail
        obtain ⟨AD, hAD⟩ : ∃ AD, (if cp = h then some (⟨bt, 0, none⟩ : Addr) else some ⟨bt, h, none⟩) = some AD := by split <;> exact ⟨_, rfl⟩
        have hadd : ∀ j, j < (ts.drop h).length → AD.add j = ⟨bt, h + j, none⟩ := fun j hj => by
          have hne : ¬ cp = h := fun e => by simp at hj; omega
          rw [if_neg hne] at hAD
          cases hAD
          exact addr_add ..
        have hadd0 : ∀ j, j < (ts.take h).length → (⟨bt, 0, none⟩ : Addr).add j = ⟨bt, 0 + j, none⟩ := fun j hj => addr_add ..
        have htk : (ts.take h).length = h := by simp; omega
        have htd : (ts.drop h).length = k - h := by simp; omega
        have hgt : ∀ j, j < (ts.take h).length → (ts.take h)[j]?.getD 0 = ts[0 + j]?.getD 0 := fun j hj => by rw [Nat.zero_add, List.getElem?_take_of_lt (by omega)]
        have hgd : ∀ j, j < (ts.drop h).length → (ts.drop h)[j]?.getD 0 = ts[h + j]?.getD 0 := fun j hj => by rw [List.getElem?_drop]
        have hone : ∀ (zs : List Int), ∀ u ∈ zs.map (Value.int .i64), u.oneCell' = true := fun zs u hu => by
          obtain ⟨z, _, rfl⟩ := List.mem_map.1 hu; rfl
        have hbt7 : bt < w7.heap.size := by omega
        have hkN : k < 6 := by omega
        have hhc : h ≤ cp := by omega
        have hhc' : (h : Int) ≤ (cp : Int) := by omega
        have hhk' : (h : Int) ≤ (k : Int) := by omega
        go_region_law (first
          | (refine step_append_any _ rfl (.tmp 94) (.tmp 97) _ (by rfl) w7.heap.size 3 i1 _ 8 Try.underlying23 hi1 hzi1 hsi1 hbi1 rfl (.slice (some ⟨_, 0, none⟩) 0 0) 0 [] (by rfl) (by simp) (by first | exact own_new2 _ _ _ | exact own_sooner (own_new _ _) (by first | (simp; done) | (simp; omega)) | exact own_sooner ((own_new _ _).alloc _) (by first | (simp; done) | (simp; omega))) ⟨bt, 0, none⟩ h cp _ (by rfl) (by rw [List.length_map]; exact htk) (news_at htc7 (by repeat' (first | exact Upd.refl _ _ | assumption | refine Upd.alloc ?_ _ | refine Upd.drew ?_)) hbt7 hadd0 hgt (by omega)) (hone _) (by simp [maxLen]; omega) (by omega) (by first | (simp; done) | (simp; omega)) ?_; intro g1 cap1 x1 hown1 hgrow1 hg1 hl1 hc1 hm1; rw [Nat.zero_add] at hown1; have hU1 : Upd (fun k => w7.heap.size ≤ k) w7 x1 := Upd.grown (by repeat' (first | exact Upd.refl _ _ | assumption | refine Upd.alloc ?_ _ | refine Upd.drew ?_)) hgrow1 (fun q hq => by simp [Value.ownBlock] at hq; omega))
          | (refine step_append_any _ rfl (.tmp 98) (.tmp 100) _ (by rfl) w7.heap.size 3 i1 _ 8 Try.underlying23 hi1 hzi1 hsi1 hbi1 rfl (.slice (some ⟨g1, 0, none⟩) h cap1) h _ (by rfl) (by simp) (by first | exact hown1 | exact hown1.alloc _) ⟨_, 0, none⟩ 1 1 [.int .i64 (k : Int)] (by rfl) rfl (by first | exact news_one (cell_new _ _ _) | exact news_one ((hgrow1.cell_far _ (by first | (simp; done) | (simp; omega)) (by simp [Value.ownBlock])).trans (draw_cell_new2 _ _ _ _)) | exact news_one ((hgrow1.cell_far _ (by first | (simp; done) | (simp; omega)) (by simp [Value.ownBlock])).trans (cell_new _ _ _)) | exact news_one ((hgrow1.cell_far _ (by first | (simp; done) | (simp; omega)) (by simp [Value.ownBlock])).trans (cell_new_alloc _ _ _ _)) | exact news_one ((hgrow1.cell_far _ (by first | (simp; done) | (simp; omega)) (by simp [Value.ownBlock])).trans (cell_new _ _ _))) (by simp [Value.oneCell']) (by simp [maxLen]; omega) (by omega) (by have := hU1.size; simp; omega) ?_; intro g2 cap2 x2 hown2 hgrow2 hg2 hl2 hc2 hm2; have hU2 : Upd (fun k => w7.heap.size ≤ k) w7 x2 := Upd.grown (by repeat' (first | exact Upd.refl _ _ | assumption | refine Upd.alloc ?_ _ | refine Upd.drew ?_)) hgrow2 (fun q hq => by simp [Value.ownBlock] at hq; omega))
          | (refine step_append_any _ rfl (.tmp 101) (.tmp 104) _ (by rfl) w7.heap.size 3 i1 _ 8 Try.underlying23 hi1 hzi1 hsi1 hbi1 rfl (.slice (some ⟨g2, 0, none⟩) (h + 1) cap2) (h + 1) _ (by rfl) (by simp) hown2 AD (k - h) _ _ (by simp [Act.eval]; rfl) (by rw [List.length_map]; exact htd) (news_at htc7 hU2 hbt7 hadd hgd (by omega)) (hone _) (by simp [maxLen]; omega) (by omega) (by have := hU2.size; omega) ?_; intro g3 cap3 x3 hown3 hgrow3 hg3 hl3 hc3 hm3; have hU3 : Upd (fun k => w7.heap.size ≤ k) w7 x3 := Upd.grown hU2 hgrow3 (fun q hq => by simp [Value.ownBlock] at hq; omega)))
        all_goals
          have e3 : ([] ++ (ts.take h).map (Value.int .i64) ++ [Value.int .i64 (k : Int)]) ++ (ts.drop h).map (Value.int .i64) = (ts.take h ++ [(k : Int)] ++ ts.drop h).map (Value.int .i64) := by simp
          rw [e3] at hown3
          have hn3 : h + 1 + (k - h) = k + 1 := by omega
          rw [hn3] at hown3 hc3
          obtain ⟨hl3', hc3'⟩ := own_cells hown3
          simp only [hn3]
          have htb' : ∀ x ∈ ts.take h ++ [(k : Int)] ++ ts.drop h, (0 : Int) ≤ x ∧ x < ((k + 1 : Nat) : Int) := fun x hx => by
            rcases List.mem_append.1 hx with hx | hx
            · rcases List.mem_append.1 hx with hx | hx
              · have := htb x (List.mem_of_mem_take hx); omega
              · have := List.mem_singleton.1 hx; omega
            · have := htb x (List.mem_of_mem_drop hx); omega
          have hR8 : Rd x3 R (p5 + 1 + (k + 1)) := hR7.upd hU3 (fun q hq => by omega)
          have hU8 : Upd (fun k => k = R) w6 x3 := hUw7.trans' hU3 (fun i hi e => by omega)
          go_wp2
          go_roundw
          case rel => exact ⟨k + 1, g3, cap3, ts.take h ++ [(k : Int)] ++ ts.drop h, by omega, by go_num, rfl, ⟨hc3, hm3⟩, ⟨hl3, by omega⟩, hl3', htb', hc3', hR8, hU8⟩
          case measure => simp [intOf]; omega
      · obtain rfl : k = N := by omega
        go_wp2_with fail
        refine (renumbered_any A5 (some ⟨bt, 0, none⟩) m5 c5 k cp zs5 ts wr ((hr6.upd hU (fun j e => by omega)).ints (by have := hU6.size; omega)) ⟨htl, fun _ => ⟨bt, 0, rfl, hbt, fun j hj => by rw [Nat.zero_add]; exact htc j hj⟩⟩ hm6 (by omega) hsm (fun j hj => by
          have hjl : j < ts.length := by omega
          have := htb ts[j] (List.getElem_mem hjl)
          rw [List.getElem?_eq_getElem hjl, Option.getD_some]
          omega)).mono ?_
        rintro e w8 ⟨os, rfl, hos, hArr, hB8⟩
        go_wp2
        go_ret
        exact ⟨_, m5, m5, os, p5 + 1 + k - p, rfl, by omega, Row.of hArr hos (by omega) hArr.lt, by omega, by rw [show p + (p5 + 1 + k - p) = p5 + 1 + k by omega]; exact hRd.below hB8 (by omega), (hRw6.trans hU).below hB8 (fun k h1 h2 => by omega)⟩
  · by_cases hy0 : y = 0
    · subst hy0
      have hN1 : ¬ 1 < N := fun e => hyn ⟨rfl, e⟩
      first
        | (exfalso; omega)
        | (go_wp2; go_ret; exact ⟨A5, m5, c5, zs5, p5 + 1 - p, rfl, by omega, hr6.more (Nat.le_refl _) hU6.size, by omega, by rw [show p + (p5 + 1 - p) = p5 + 1 by omega]; exact hR6, hRw6⟩)
    · go_wp2
      go_ret
      exact ⟨A5, m5, c5, zs5, p5 + 1 - p, rfl, by omega, hr6.more (Nat.le_refl _) hU6.size, by omega, by rw [show p + (p5 + 1 - p) = p5 + 1 by omega]; exact hR6, hRw6⟩
end Go.Proofs.Ythjmedbjdjkilaa

/- A list that is drawn, an order most often. -/
namespace Go.Proofs.Ythjmedbjdjkilaa
open Go.RowKit Go.Shelf

set_option maxRecDepth 100000 in
set_option maxHeartbeats 4000000 in
theorem someOrder_any (R p : Nat) (w : World) (h : Rd w R p) (hp : p ≤ 700000) :
    Calls Try.prog 58 #[.pointer (some ⟨R, 0, none⟩), .int .i64 6] w fun e w' => ∃ A n c zs q, e = .returned (.slice A n c) ∧ n ≤ 7 ∧ Row w' w.heap.size w'.heap.size A n zs ∧ q ≤ 110 ∧ Rd w' R (p + q) ∧ Upd (fun k => k = R) w w' := by
  have hRl := h.lt
  go_enter Try.func58, Try.ntmps58
  go_wp2_with fail
  refine (goodOrder_any R p w h (by omega)).mono ?_
  rintro e w1 ⟨A, n, c, zs, q, rfl, hn6, r1, hq, hR1, hU1⟩
  have z1 := hU1.size
  by_cases hn : 0 < n
  · obtain ⟨b, ys, rfl, hb0, hb1, hAr⟩ := r1.2 hn
    have hlen := Lib.hid r1.len
    clear r1
    go_wp2_with fail
    refine (pick_any R (p + q) n w1 hR1 (by omega)).mono ?_
    rintro e w2 ⟨k, rfl, hk, hR2, hU2⟩
    obtain ⟨k0, k1⟩ := hk.1 (by omega)
    obtain ⟨k, rfl⟩ := Int.eq_ofNat_of_zero_le k0
    have hA2 := hAr.upd hU2 (by omega)
    have z2 := hU2.size
    have hUw2 := hU1.trans hU2
    clear hk hR1 hAr hU2
    go_wp2_with fail
    refine (pick_any R (p + q + 1) 40 w2 hR2 (by omega)).mono ?_
    rintro e w3 ⟨x, rfl, -, hR3, hU3⟩
    have hA3 := hA2.upd hU3 (by omega)
    have z3 := hU3.size
    have hUw3 := hUw2.trans hU3
    clear hR2 hA2 hU3 hUw2
    have hkl : k < (zs ++ ys).length := by rw [List.length_append, hlen.out]; omega
    have hck := hA3.cell hkl
    have hfk := hA3.frozen k
    have hset : ∀ v : Int, (zs ++ ys).set k v = zs.set k v ++ ys := fun v => List.set_append_left _ _ (by rw [hlen.out]; omega)
    have hpk : ∀ w, Calls Try.prog 77 #[.int .i64 (k : Int)] w fun e w' => e = .returned (.int .i64 (powI k)) ∧ w = w' := fun w => power_any _ _ (by omega) (by omega)
    have hpn : ∀ w, Calls Try.prog 77 #[.int .i64 (n : Int)] w fun e w' => e = .returned (.int .i64 (powI n)) ∧ w = w' := fun w => power_any _ _ (by omega) (by omega)
    by_cases x0 : x = 0
    · subst x0
      obtain ⟨z, hz⟩ : ∃ z, (zs ++ ys)[k]?.getD 0 = z := ⟨_, rfl⟩
      rw [hz] at hck
      have hRd : Rd w3.drew R (p + q + 1 + 1) := hR3
      have hcel : ∀ w4, Upd (fun k => k = R) w3.drew w4 → w4.cell? ⟨b, k, none⟩ = some (.int .i64 z) ∧ w4.frozen? ⟨b, k, none⟩ = false := fun w4 hU4 =>
        ⟨hU4.cell (p := ⟨b, k, none⟩) hck (by simp; omega), (hA3.drew.upd hU4 (by omega)).frozen k⟩
      have hfin : ∀ w4 xv, Upd (fun k => k = R) w3.drew w4 → Rd w4 R (p + q + 1 + 1 + 1) →
          Row (w4.setCell ⟨b, k, none⟩ (.int .i64 xv)) w.heap.size (w4.setCell ⟨b, k, none⟩ (.int .i64 xv)).heap.size (some ⟨b, 0, none⟩) n (zs.set k xv) ∧
          Rd (w4.setCell ⟨b, k, none⟩ (.int .i64 xv)) R (p + (q + 3)) ∧ Upd (fun k => k = R) w (w4.setCell ⟨b, k, none⟩ (.int .i64 xv)) := fun w4 xv hU4 hR4 => by
        have hA4 := hA3.drew.upd hU4 (by omega)
        have z4 : w3.heap.size ≤ w4.heap.size := hU4.size
        have hU4' := hUw3.drew.trans hU4
        have hA6 := hA4.set k xv
        rw [hset] at hA6
        have hU6 : Upd (fun i => w.heap.size ≤ i ∧ i = b) w4 (w4.setCell ⟨b, k, none⟩ (.int .i64 xv)) := (Upd.refl (fun i => w.heap.size ≤ i ∧ i = b) w4).setCell (p := ⟨b, k, none⟩) (.inr ⟨hb0, rfl⟩) _
        refine ⟨⟨by simpa using hlen.out, fun _ => ⟨b, ys, rfl, hb0, by simp [World.setCell]; omega, hA6⟩⟩, ?_, hU4'.trans' hU6 (fun i hi e => by omega)⟩
        rw [show p + (q + 3) = p + q + 1 + 1 + 1 by omega]; exact hR4.upd hU6 (fun i hi => by omega)
      have hpick : Calls Try.prog 79 #[.pointer (some ⟨R, 0, none⟩), .int .i64 (n : Int)] w3.drew fun e w' => ∃ v, e = .returned (.int .i64 v) ∧ 0 ≤ v ∧ v < n ∧ Rd w' R (p + q + 1 + 1 + 1) ∧ Upd (fun k => k = R) w3.drew w' := by
        refine (pick_any R (p + q + 1 + 1) n _ hRd (by omega)).mono ?_
        rintro e w4 ⟨v, rfl, hv, hR4, hU4⟩
        exact ⟨v, rfl, (hv.1 (by omega)).1, (hv.1 (by omega)).2, hR4, hU4⟩
      have hq : q + 3 ≤ 110 := by omega
      have hn7 : n ≤ 7 := by omega
      clear hpk hpn hRd hset hR3 hA3 hUw3 hz hlen hkl hRl h hp hU1 z1 hb0 hb1 z2 z3
      go_wp2
      go_region_with (first
        | (go_at_call 79; refine hpick.mono ?_; rintro e w4 ⟨v, rfl, hv0, hv1, hR4, hU4⟩; obtain ⟨hck4, hfk4⟩ := hcel w4 hU4)
        | (go_at_call 77; refine (power_any _ _ (by omega) (by omega)).mono ?_; rintro e w' ⟨rfl, rfl⟩))
      all_goals
        obtain ⟨hf1, hf2, hf3⟩ := hfin w4 (bits .xor .i64 z (powI v)) hU4 hR4
        clear hfin hcel hpick hck hfk hck4 hfk4 hR4 hU4
        obtain ⟨W5, hW5⟩ : ∃ W5, w4.setCell ⟨b, k, none⟩ (.int .i64 (bits .xor .i64 z (powI v))) = W5 := ⟨_, rfl⟩
        rw [hW5] at hf1 hf2 hf3 ⊢
        obtain ⟨xv, hxv⟩ : ∃ xv, bits .xor .i64 z (powI v) = xv := ⟨_, rfl⟩
        rw [hxv] at hf1 ⊢
        clear hW5 hxv
        go_wp2
        go_ret
        exact ⟨_, n, c, _, q + 3, rfl, hn7, hf1, hq, hf2, hf3⟩
    · by_cases x1 : x = 1
      · subst x1
        go_wp2_with (first
          | (go_at_call 77; with_reducible refine (hpn _).mono ?_; rintro e w' ⟨rfl, rfl⟩)
          | (go_at_call 77; with_reducible refine (hpk _).mono ?_; rintro e w' ⟨rfl, rfl⟩))
        have hL : Arr (w3.alloc (.cells #[Value.int .i64 (-1), .int .i64 (powI n), .int .i64 (powI k)] 3)) w3.heap.size 3 [-1, powI n, powI k] := heap_alloc_new w3 _
        have hup : Upd (fun _ => False) w3 (w3.alloc (.cells #[Value.int .i64 (-1), .int .i64 (powI n), .int .i64 (powI k)] 3)) := (Upd.refl _ _).alloc _
        obtain ⟨W4, hW4⟩ : ∃ W4, w3.alloc (.cells #[Value.int .i64 (-1), .int .i64 (powI n), .int .i64 (powI k)] 3) = W4 := ⟨_, rfl⟩
        rw [hW4] at hL hup ⊢
        clear hW4
        have z4 := hup.size
        refine (one_any R (p + q + 1 + 1) _ 3 3 _ _ W4 (hR3.upd hup (fun _ e => e.elim)) (by omega) (hL.ints' (n := 3) hL.lt rfl) (fun b off e => by cases e; omega) (by omega) (by omega)).mono ?_
        rintro e w5 ⟨v, rfl, -, hR5, hU5⟩
        have hA5 := (hA3.upd hup (fun e => e)).upd hU5 (by omega)
        have z5 := hU5.size
        have hck5 := hA5.cell hkl
        have hfk5 := hA5.frozen k
        have hU5' := (hUw3.trans (hup.mono fun _ _ e => e.elim)).trans hU5
        go_wp2
        go_ret
        have hA6 := hA5.set k v
        rw [hset] at hA6
        have hU6 : Upd (fun i => w.heap.size ≤ i ∧ i = b) w5 (w5.setCell ⟨b, k, none⟩ (.int .i64 v)) := (Upd.refl (fun i => w.heap.size ≤ i ∧ i = b) w5).setCell (p := ⟨b, k, none⟩) (.inr ⟨hb0, rfl⟩) _
        exact ⟨_, n, c, zs.set k v, q + 3, rfl, by omega, ⟨by simpa using hlen.out, fun _ => ⟨b, ys, rfl, hb0, by simp [World.setCell]; omega, hA6⟩⟩, by omega, hR5.upd hU6 (fun i hi => by omega), hU5'.trans' hU6 (fun i hi e => by omega)⟩
      · by_cases x2 : x = 2
        · subst x2
          have hmk := run_make_row' (P := Try.prog) 23 3 (.int .i64 0) 8 Try.underlying23 infoInt rfl .i64 .i64 7 (by omega) (by omega)
          simp only [Int.cast_ofNat_Int] at hmk
          go_wp2
          go_ret
          exact ⟨_, 7, 7, List.replicate 7 0, q + 2, rfl, by omega, Row.of (Arr.new w3 3 7) (by simp) (by omega) (by simp), by omega, hR3.upd ((Upd.refl (fun _ => False) w3).alloc _) (fun _ e => e.elim), hUw3.alloc _⟩
        · go_wp2
          go_ret
          exact ⟨_, n, c, zs, q + 2, rfl, by omega, ⟨hlen.out, fun _ => ⟨b, ys, rfl, hb0, by omega, hA3⟩⟩, by omega, hR3, hUw3⟩
  · obtain rfl : n = 0 := by omega
    go_wp2
    go_ret
    exact ⟨A, 0, c, zs, q, rfl, by omega, r1, by omega, hR1, hU1⟩
end Go.Proofs.Ythjmedbjdjkilaa

/- Arguments that are drawn: a new reader, and what is drawn reads as numbers. -/
namespace Go.Proofs.Ythjmedbjdjkilaa
open Go.RowKit Go.Shelf

/-- A list that is drawn reads as numbers, few of them. -/
def Drawn (w : World) (e : Ending) (w' : World) : Prop := ∃ A n c zs, e = .returned (.slice A n c) ∧ n ≤ 7 ∧ Ints w' w'.heap.size A n zs ∧ Below w.heap.size w w'
theorem newReader_rd {A : Option Addr} {m c : Nat} {bs : List Int} {w : World} (h : Byts w w.heap.size A m bs) (hcap : m ≤ c) (hbig : m ≤ 1152921504606846976) :
    Calls Try.prog 59 #[.slice A m c] w fun e w' => e = .returned (.pointer (some ⟨w.heap.size, 0, none⟩)) ∧ Rd w' w.heap.size 0 ∧ Below w.heap.size w w' ∧ w.heap.size < w'.heap.size := by
  refine (newReader_any A m c bs w h hcap hbig).mono ?_
  rintro e w0 ⟨rfl, rfl⟩
  exact ⟨rfl, ⟨A, min m 2000, c, bs.take (min m 2000), by omega, heap_alloc_new w _, (h.take (by omega)).below (((Below.refl w.heap.size w).alloc (Nat.le_refl _)) _)⟩, (Below.refl w.heap.size w).alloc (Nat.le_refl _) _, by simp⟩
end Go.Proofs.Ythjmedbjdjkilaa

/- LineAt: the program's, whole. -/
namespace Go.Proofs.Ythjmedbjdjkilaa
open Go.RowKit Go.Shelf

set_option maxHeartbeats 4000000 in
theorem LineAt_any (A : Option Addr) (n c : Nat) (zs : List Int) (r : Int) (w : World) (h : Ints w w.heap.size A n zs) (hbig : n ≤ 1152921504606846976) :
    Calls Try.prog 18 #[.slice A n c, .int .i64 r] w (GivesAtV w (atR zs r) (hasAt zs r)) := by
  have hlen := Lib.hid h.len
  cases hv : vo zs
  · have Hh := Lib.hid (show hasAt zs r = false by unfold hasAt; rw [hv]; rfl)
    have Ht := Lib.hid (show atR zs r = [] by unfold atR; rw [Hh.out]; rfl)
    have Hv := Lib.hid hv
    clear hv
    go_enter Try.func18, Try.ntmps18
    go_wp2_with fail
    refine (readOrder_any _ _ _ zs _ h hbig).mono ?_
    rintro e w' ⟨hB, (⟨hv, b, rfl, _, _⟩ | ⟨_, rfl⟩)⟩
    · rw [Hv.out] at hv; cases hv
    · go_wp2_with fail
      go_ret2
      exact ⟨none, 0, 0, by rw [Hh.out]; rfl, by rw [Ht.out]; exact RowV.nil _ _ _ _, hB⟩
  · have hvo : VoP zs := by simpa [vo] using hv
    have Hv := Lib.hid hv
    clear hv
    have hn6 : n ≤ 6 := by have := hvo.1; rw [hlen.out] at this; exact this
    have hp64 := pow_le64 hn6
    have hpp := Nat.two_pow_pos n
    have hF := cF_le hvo (s := 2 ^ n - 1) (by rw [hlen.out]; omega)
    have Hall := Lib.hid (show powI n - 1 = ((2 ^ n - 1 : Nat) : Int) by
      have : powI (n : Int) = ((2 ^ n : Nat) : Int) := by simp [powI]
      omega)
    have hwr := (writes_le (show 2 ^ n - 1 < 64 by omega)).2
    go_enter Try.func18, Try.ntmps18
    go_wp2_with fail
    refine (readOrder_any _ _ _ zs _ h hbig).mono ?_
    rintro e w1 ⟨hB, (⟨_, b, rfl, hb, hAr⟩ | ⟨hv, _⟩)⟩
    · have z1 := hB.size
      go_wp2_with fail
      refine (lineup_any _ n _ zs hvo.sets _ (hAr.ints' hAr.lt hlen.out)).mono ?_
      rintro e w2 ⟨bd, bm, rfl, hA2, hm2, hbd, hbm, hne, hB2⟩
      unfold lineV
      have z2 := hB2.size
      have C2 := hB.trans (hB2.mono z1)
      have l2 := hA2.lt
      have hm2l := (Array.getElem?_eq_some_iff.1 hm2).1
      have hs0 : (w2.alloc (.cells #[Value.slice (some ⟨bd, 0, none⟩) n n, .map (some bm)] 62)).heap[w2.heap.size]? = some (.cells #[Value.slice (some ⟨bd, 0, none⟩) n n, .map (some bm)] 62 (0, 0)) := heap_alloc_new w2 _
      have hU3 : Upd (fun _ => False) w2 (w2.alloc (.cells #[Value.slice (some ⟨bd, 0, none⟩) n n, .map (some bm)] 62)) := (Upd.refl _ w2).alloc _
      have hz3 : (w2.alloc (.cells #[Value.slice (some ⟨bd, 0, none⟩) n n, .map (some bm)] 62)).heap.size = w2.heap.size + 1 := by simp
      have hA3 := hA2.upd hU3 (fun e => e)
      have hM3 : MapOk zs (w2.alloc (.cells #[Value.slice (some ⟨bd, 0, none⟩) n n, .map (some bm)] 62)) bm 0 := (MapOk.new hm2).upd hU3 (fun e => e)
      have C3 := C2.trans (hU3.toBelow (B := w.heap.size) (fun _ e => e.elim) (by omega))
      by_cases hr0 : r < 0
      · have hd : decide (r < 0) = true := decide_eq_true hr0
        have Hh := Lib.hid (show hasAt zs r = false by unfold hasAt; rw [decide_eq_false (show ¬ 0 ≤ r by omega)]; simp)
        have Ht := Lib.hid (show atR zs r = [] by unfold atR; rw [Hh.out]; rfl)
        go_wp2_with fail
        refine region_T (S := (fun w' => w'.heap[w2.heap.size]? = some (.cells #[Value.slice (some ⟨bd, 0, none⟩) n n, .map (some bm)] 62 (0, 0)))) 9 (by kernel_rfl) ?_
        have hS0 : (fun w' => w'.heap[w2.heap.size]? = some (.cells #[Value.slice (some ⟨bd, 0, none⟩) n n, .map (some bm)] 62 (0, 0))) (w2.alloc (.cells #[Value.slice (some ⟨bd, 0, none⟩) n n, .map (some bm)] 62)).drew := hs0
        refine anyT_take (i := 0) (oi := ?oi0) (v := .int .i64 r) ?hi0 (by kernel_rfl) ?hq0 ?hy0 (by assumption) ?rest0
        case hi0 => (simp only [List.getElem?_toArray, List.getElem?_cons_zero]; first | done | rfl)
        case hq0 => exact fun _ _ _ h => h
        case hy0 => (refine Or.inl ⟨by rfl, ?_⟩; intro wz hSw; go_simp; first | done | with_reducible rfl | simp [hd] | omega)
        try simp only [Act.put, List.setIfInBounds_toArray, List.set_cons_zero, List.set_cons_succ]
        refine anyT_take (i := 1) (oi := ?oi1) (v := .bool true) ?hi1 (by kernel_rfl) ?hq1 ?hy1 (by assumption) ?rest1
        case hi1 => (simp only [List.getElem?_toArray, List.getElem?_cons_succ, List.getElem?_cons_zero]; first | done | rfl)
        case hq1 => exact fun _ _ _ h => h
        case hy1 => (refine Or.inl ⟨by rfl, ?_⟩; intro wz hSw; go_simp; first | done | with_reducible rfl | simp [hd] | omega)
        try simp only [Act.put, List.setIfInBounds_toArray, List.set_cons_zero, List.set_cons_succ]
        refine anyT_take (i := 2) (oi := ?oi2) (v := .bool true) ?hi2 (by kernel_rfl) ?hq2 ?hy2 (by assumption) ?rest2
        case hi2 => (simp only [List.getElem?_toArray, List.getElem?_cons_succ, List.getElem?_cons_zero]; first | done | rfl)
        case hq2 => exact fun _ _ _ h => h
        case hy2 => (refine Or.inl ⟨by rfl, ?_⟩; intro wz hSw; go_simp; first | done | with_reducible rfl | simp [hd] | omega)
        try simp only [Act.put, List.setIfInBounds_toArray, List.set_cons_zero, List.set_cons_succ]
        refine anyT_take (i := 3) (oi := ?oi3) (v := undef) ?hi3 (by kernel_rfl) ?hq3 ?hy3 (by assumption) ?rest3
        case hi3 => (simp only [List.getElem?_toArray, List.getElem?_cons_succ, List.getElem?_cons_zero]; first | done | rfl)
        case hq3 => exact fun _ _ _ h => h
        case hy3 => exact Or.inr ⟨by rfl, rfl⟩
        try simp only [Act.put, List.setIfInBounds_toArray, List.set_cons_zero, List.set_cons_succ]
        refine anyT_take (i := 4) (oi := ?oi4) (v := undef) ?hi4 (by kernel_rfl) ?hq4 ?hy4 (by assumption) ?rest4
        case hi4 => (simp only [List.getElem?_toArray, List.getElem?_cons_succ, List.getElem?_cons_zero]; first | done | rfl)
        case hq4 => exact fun _ _ _ h => h
        case hy4 => exact Or.inr ⟨by rfl, rfl⟩
        try simp only [Act.put, List.setIfInBounds_toArray, List.set_cons_zero, List.set_cons_succ]
        refine anyT_take (i := 5) (oi := ?oi5) (v := undef) ?hi5 (by kernel_rfl) ?hq5 ?hy5 (by assumption) ?rest5
        case hi5 => (simp only [List.getElem?_toArray, List.getElem?_cons_succ, List.getElem?_cons_zero]; first | done | rfl)
        case hq5 => exact fun _ _ _ h => h
        case hy5 => exact Or.inr ⟨by rfl, rfl⟩
        try simp only [Act.put, List.setIfInBounds_toArray, List.set_cons_zero, List.set_cons_succ]
        refine anyT_take (i := 6) (oi := ?oi6) (v := undef) ?hi6 (by kernel_rfl) ?hq6 ?hy6 (by assumption) ?rest6
        case hi6 => (simp only [List.getElem?_toArray, List.getElem?_cons_succ, List.getElem?_cons_zero]; first | done | rfl)
        case hq6 => exact fun _ _ _ h => h
        case hy6 => exact Or.inr ⟨by rfl, rfl⟩
        try simp only [Act.put, List.setIfInBounds_toArray, List.set_cons_zero, List.set_cons_succ]
        refine anyT_take (i := 7) (oi := ?oi7) (v := undef) ?hi7 (by kernel_rfl) ?hq7 ?hy7 (by assumption) ?rest7
        case hi7 => (simp only [List.getElem?_toArray, List.getElem?_cons_succ, List.getElem?_cons_zero]; first | done | rfl)
        case hq7 => exact fun _ _ _ h => h
        case hy7 => exact Or.inr ⟨by rfl, rfl⟩
        try simp only [Act.put, List.setIfInBounds_toArray, List.set_cons_zero, List.set_cons_succ]
        refine anyT_take (i := 8) (oi := ?oi8) (v := undef) ?hi8 (by kernel_rfl) ?hq8 ?hy8 (by assumption) ?rest8
        case hi8 => (simp only [List.getElem?_toArray, List.getElem?_cons_succ, List.getElem?_cons_zero]; first | done | rfl)
        case hq8 => exact fun _ _ _ h => h
        case hy8 => exact Or.inr ⟨by rfl, rfl⟩
        try simp only [Act.put, List.setIfInBounds_toArray, List.set_cons_zero, List.set_cons_succ]
        refine anyT_one (i := 9) (by kernel_rfl) rfl (fun K' hK => ?_)
        go_simp
        refine hK.out _ _ (fun h => absurd rfl h) ?_
        clear hK K'
        try simp only [Act.put, List.setIfInBounds_toArray, List.set_cons_zero, List.set_cons_succ]
        refine anyT_done (by kernel_rfl) ?_ _
        go_wp2_with fail
        go_ret2
        exact ⟨none, 0, 0, by rw [Hh.out]; rfl, by rw [Ht.out]; exact RowV.nil _ _ _ _, below_drewN C3 1⟩
      · have hd : decide (r < 0) = false := decide_eq_false hr0
        obtain ⟨R, rfl⟩ : ∃ R : Nat, r = (R : Int) := ⟨r.toNat, by omega⟩
        have hrec := fun w' hA' hM' => lcount_any zs hvo n hlen.out bd bm hne _ (2 ^ n - 1) 0 w' (Nat.le_refl _) (by omega) hA' hM' (by omega)
        obtain ⟨F, hFF⟩ : ∃ F, cF zs (2 ^ n - 1) = F := ⟨_, rfl⟩
        have HF := Lib.hid hFF
        rw [hFF] at hF
        simp only [hFF] at hrec
        clear hFF
        go_wp2_with fail
        refine region_T (S := (fun w' => w'.heap[w2.heap.size]? = some (.cells #[Value.slice (some ⟨bd, 0, none⟩) n n, .map (some bm)] 62 (0, 0)))) 9 (by kernel_rfl) ?_
        have hS0 : (fun w' => w'.heap[w2.heap.size]? = some (.cells #[Value.slice (some ⟨bd, 0, none⟩) n n, .map (some bm)] 62 (0, 0))) (w2.alloc (.cells #[Value.slice (some ⟨bd, 0, none⟩) n n, .map (some bm)] 62)).drew := hs0
        refine anyT_take (i := 0) (oi := ?oib0) (v := .int .i64 (R : Int)) ?hib0 (by kernel_rfl) ?hqb0 ?hyb0 (by assumption) ?restb0
        case hib0 => (simp only [List.getElem?_toArray, List.getElem?_cons_zero]; first | done | rfl)
        case hqb0 => exact fun _ _ _ h => h
        case hyb0 => (refine Or.inl ⟨by rfl, ?_⟩; intro wz hSw; go_simp; first | done | with_reducible rfl | simp [hd] | omega)
        try simp only [Act.put, List.setIfInBounds_toArray, List.set_cons_zero, List.set_cons_succ]
        refine anyT_take (i := 1) (oi := ?oib1) (v := .bool false) ?hib1 (by kernel_rfl) ?hqb1 ?hyb1 (by assumption) ?restb1
        case hib1 => (simp only [List.getElem?_toArray, List.getElem?_cons_succ, List.getElem?_cons_zero]; first | done | rfl)
        case hqb1 => exact fun _ _ _ h => h
        case hyb1 => (refine Or.inl ⟨by rfl, ?_⟩; intro wz hSw; go_simp; first | done | with_reducible rfl | simp [hd] | omega)
        try simp only [Act.put, List.setIfInBounds_toArray, List.set_cons_zero, List.set_cons_succ]
        refine anyT_take (i := 2) (oi := ?oib2) (v := .bool false) ?hib2 (by kernel_rfl) ?hqb2 ?hyb2 (by assumption) ?restb2
        case hib2 => (simp only [List.getElem?_toArray, List.getElem?_cons_succ, List.getElem?_cons_zero]; first | done | rfl)
        case hqb2 => exact fun _ _ _ h => h
        case hyb2 => (refine Or.inl ⟨by rfl, ?_⟩; intro wz hSw; go_simp; first | done | with_reducible rfl | simp [hd] | omega)
        try simp only [Act.put, List.setIfInBounds_toArray, List.set_cons_zero, List.set_cons_succ]
        refine anyT_take (i := 3) (oi := ?oib3) (v := .int .i64 (R : Int)) ?hib3 (by kernel_rfl) ?hqb3 ?hyb3 (by assumption) ?restb3
        case hib3 => (simp only [List.getElem?_toArray, List.getElem?_cons_succ, List.getElem?_cons_zero]; first | done | rfl)
        case hqb3 => exact fun _ _ _ h => h
        case hyb3 => (refine Or.inl ⟨by rfl, ?_⟩; intro wz hSw; go_simp; first | done | with_reducible rfl | simp [hd] | omega)
        try simp only [Act.put, List.setIfInBounds_toArray, List.set_cons_zero, List.set_cons_succ]
        refine anyT_take (i := 4) (oi := ?oib4) (v := .agg #[Value.slice (some ⟨bd, 0, none⟩) n n, .map (some bm)]) ?hib4 (by kernel_rfl) ?hqb4 ?hyb4 (by assumption) ?restb4
        case hib4 => (simp only [List.getElem?_toArray, List.getElem?_cons_succ, List.getElem?_cons_zero]; first | done | rfl)
        case hqb4 => exact fun _ _ _ h => h
        case hyb4 => exact yieldsIf_load_row (by rfl) _ _ rfl w2.heap.size rfl _ _ _ (fun _ h => h) Try.underlying62 rfl (by kernel_rfl)
        try simp only [Act.put, List.setIfInBounds_toArray, List.set_cons_zero, List.set_cons_succ]
        refine anyT_take (i := 5) (oi := ?oib5) (v := .agg #[Value.slice (some ⟨bd, 0, none⟩) n n, .map (some bm)]) ?hib5 (by kernel_rfl) ?hqb5 ?hyb5 (by assumption) ?restb5
        case hib5 => (simp only [List.getElem?_toArray, List.getElem?_cons_succ, List.getElem?_cons_zero]; first | done | rfl)
        case hqb5 => exact fun _ _ _ h => h
        case hyb5 => exact yieldsIf_load_row (by rfl) _ _ rfl w2.heap.size rfl _ _ _ (fun _ h => h) Try.underlying62 rfl (by kernel_rfl)
        try simp only [Act.put, List.setIfInBounds_toArray, List.set_cons_zero, List.set_cons_succ]
        have hA4 : Arr (w2.alloc (.cells #[Value.slice (some ⟨bd, 0, none⟩) n n, .map (some bm)] 62)).drew bd 65 (du zs) := hA3
        have hM4 : MapOk zs (w2.alloc (.cells #[Value.slice (some ⟨bd, 0, none⟩) n n, .map (some bm)] 62)).drew bm 0 := hM3
        have C4 := below_drewN C3 1
        have hz4 : (w2.alloc (.cells #[Value.slice (some ⟨bd, 0, none⟩) n n, .map (some bm)] 62)).drew.heap.size = w2.heap.size + 1 := hz3
        obtain ⟨W4, hW4⟩ : ∃ W4, (w2.alloc (.cells #[Value.slice (some ⟨bd, 0, none⟩) n n, .map (some bm)] 62)).drew = W4 := ⟨_, rfl⟩
        have C4' : Below w.heap.size w W4 := hW4 ▸ C4
        rw [hW4] at hA4 hM4 hz4 hS0 ⊢
        clear hW4 C4 C3 hA3 hM3 hU3 hz3 hs0
        refine anyT_one (i := 6) (by kernel_rfl) rfl (fun K' hK => ?_)
        go_simp
        refine (lall2_any bd bm n _ hn6).mono ?_
        rintro e w5 ⟨rfl, hB5⟩
        have hS5 : (fun w' => w'.heap[w2.heap.size]? = some (.cells #[Value.slice (some ⟨bd, 0, none⟩) n n, .map (some bm)] 62 (0, 0))) w5 := (hB5.block _ (by omega)).trans hS0
        refine hK.out _ _ (fun _ => hS5) ?_
        clear hK K'
        try simp only [Act.put, List.setIfInBounds_toArray, List.set_cons_zero, List.set_cons_succ]
        rw [Hall.out]
        refine anyT_one (i := 7) (by kernel_rfl) rfl (fun K' hK => ?_)
        go_simp
        refine (hrec w5 (hA4.below hB5 hA4.lt) (hM4.upd (Below.toUpd hB5) (fun e => by have := hM4.lt; omega))).mono ?_
        rintro e w6 ⟨rfl, hM6, hU6⟩
        have z5 := hB5.size
        have hS6 : (fun w' => w'.heap[w2.heap.size]? = some (.cells #[Value.slice (some ⟨bd, 0, none⟩) n n, .map (some bm)] 62 (0, 0))) w6 := (hU6.block _ (by omega) (by omega)).trans hS5
        have hA6 := (hA4.below hB5 hA4.lt).upd hU6 hne
        have C6 := (C4'.trans (hB5.mono C4'.size)).trans (hU6.toBelow (B := w.heap.size) (fun i e => by omega) (by omega))
        refine hK.out _ _ (fun _ => hS6) ?_
        clear hK K' hS0
        have hS0 := hS6
        try simp only [Act.put, List.setIfInBounds_toArray, List.set_cons_zero, List.set_cons_succ]
        by_cases hrF : R < F
        · have hge : decide ((F : Int) ≤ (R : Int)) = false := decide_eq_false (by omega)
          refine anyT_take (i := 8) (oi := ?oi8x) (v := .bool false) ?hi8x (by kernel_rfl) ?hq8x ?hy8x (by assumption) ?rest8x
          case hi8x => (simp only [List.getElem?_toArray, List.getElem?_cons_succ, List.getElem?_cons_zero]; first | done | rfl)
          case hq8x => exact fun _ _ _ h => h
          case hy8x => (refine Or.inl ⟨by rfl, ?_⟩; intro wz hSw; go_simp; first | done | with_reducible rfl | simp [hge] | omega)
          try simp only [Act.put, List.setIfInBounds_toArray, List.set_cons_zero, List.set_cons_succ]
          refine anyT_one (i := 9) (by kernel_rfl) rfl (fun K' hK => ?_)
          go_simp
          refine hK.out _ _ (fun h => absurd rfl h) ?_
          clear hK K'
          try simp only [Act.put, List.setIfInBounds_toArray, List.set_cons_zero, List.set_cons_succ]
          refine anyT_done (by kernel_rfl) ?_ _
          have hRF : R < cF zs (2 ^ zs.length - 1) := by rw [hlen.out, HF.out]; exact hrF
          have Hh := Lib.hid (show hasAt zs (R : Int) = true by unfold hasAt; rw [Hv.out, hlen.out, HF.out, decide_eq_true (show (0 : Int) ≤ (R : Int) by omega), decide_eq_true (show (R : Int) < (F : Int) by omega)]; rfl)
          have Ht := Lib.hid (show atR zs (R : Int) = atL zs R n by unfold atR; rw [Hh.out, if_pos rfl, hlen.out]; rfl)
          go_wp2_with (refine wpList_load_row rfl _ _ rfl w2.heap.size rfl _ _ (0, 0) _ hS6 Try.underlying62 rfl (by kernel_rfl) ?_)
          refine (lat_any zs hvo R n hlen.out hRF bd bm hne w6 hA6 (hM6.mono (by omega))).mono ?_
          rintro e w7 ⟨v, rfl, hO7, hU7⟩
          have z6 := C6.size
          obtain ⟨A7, c7, rfl, hV7⟩ := rowV_of_own hO7.2
          have Hal := Lib.hid (atL_len zs R n)
          rw [Hal.out] at hV7 ⊢
          go_wp2_with fail
          go_ret2
          exact ⟨A7, n, c7, by rw [Hh.out]; rfl, by rw [Ht.out]; exact hV7.more z6 (Nat.le_refl _), C6.trans (hU7.toBelow (B := w.heap.size) (fun i e => by omega) z6)⟩
        · have hge : decide ((F : Int) ≤ (R : Int)) = true := decide_eq_true (by omega)
          refine anyT_take (i := 8) (oi := ?oi8y) (v := .bool true) ?hi8y (by kernel_rfl) ?hq8y ?hy8y (by assumption) ?rest8y
          case hi8y => (simp only [List.getElem?_toArray, List.getElem?_cons_succ, List.getElem?_cons_zero]; first | done | rfl)
          case hq8y => exact fun _ _ _ h => h
          case hy8y => (refine Or.inl ⟨by rfl, ?_⟩; intro wz hSw; go_simp; first | done | with_reducible rfl | simp [hge] | omega)
          try simp only [Act.put, List.setIfInBounds_toArray, List.set_cons_zero, List.set_cons_succ]
          refine anyT_one (i := 9) (by kernel_rfl) rfl (fun K' hK => ?_)
          go_simp
          refine hK.out _ _ (fun h => absurd rfl h) ?_
          clear hK K'
          try simp only [Act.put, List.setIfInBounds_toArray, List.set_cons_zero, List.set_cons_succ]
          refine anyT_done (by kernel_rfl) ?_ _
          have Hh := Lib.hid (show hasAt zs (R : Int) = false by unfold hasAt; rw [Hv.out, hlen.out, HF.out, decide_eq_false (show ¬ (R : Int) < (F : Int) by omega)]; simp)
          have Ht := Lib.hid (show atR zs (R : Int) = [] by unfold atR; rw [Hh.out]; rfl)
          go_wp2_with fail
          go_ret2
          exact ⟨none, 0, 0, by rw [Hh.out]; rfl, by rw [Ht.out]; exact RowV.nil _ _ _ _, C6⟩
    · rw [Hv.out] at hv; cases hv
end Go.Proofs.Ythjmedbjdjkilaa

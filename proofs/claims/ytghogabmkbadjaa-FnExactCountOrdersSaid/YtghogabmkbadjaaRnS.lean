/- An order under new numbers: the model's. -/
import Derived.Test.YtghogabmkbadjaaGxd
import Derived.Test.YtghogabmkbadjaaGa
import Derived.Test.YtghogabmkbadjaaGb
set_option linter.unusedVariables false
set_option linter.unusedSimpArgs false
namespace Go.Proofs.Ytghogabmkbadjaa
open Go.RowKit Go.Shelf

set_option maxRecDepth 100000 in
set_option maxHeartbeats 4000000 in
theorem rnS_any (A A' : Option Addr) (n c c' : Nat) (zs ts : List Int) (w : World) (h : Ints w w.heap.size A n zs) (h' : Ints w w.heap.size A' n ts) (hv : Sets zs) (ht0 : lineB (zr n) ts = true) :
    Calls Try.prog 46 #[.slice A n c, .slice A' n c'] w fun e w' => e = .returned (.slice (some ⟨w.heap.size, 0, none⟩) n n) ∧ Arr w' w.heap.size 3 (rnL zs ts) ∧ Below w.heap.size w w' := by
  have hlen := Lib.hid h.len
  have hn6 : n ≤ 6 := by have := hv.1; rw [hlen.out] at this; exact this
  have Ht := Lib.hid ht0
  clear ht0
  have hmk := run_make_row' (P := Try.prog) 22 3 (.int .i64 0) 8 Try.underlying22 infoInt rfl .i64 .i64 n (by omega) (by omega)
  go_enter Try.func46, Try.ntmps46
  go_wp2
  have hA1 := Arr.new w 3 n
  have hB1 : Below w.heap.size w (w.alloc (.cells (madeCells #[.int .i64 0] n) 3)) := (Below.refl _ _).alloc (Nat.le_refl _) _
  obtain ⟨W1, hW1⟩ : ∃ W1, w.alloc (.cells (madeCells #[.int .i64 0] n) 3) = W1 := ⟨_, rfl⟩
  rw [hW1] at hA1 hB1 ⊢
  clear hW1 hmk
  go_loopw [6] (fun i wr => ∃ a : Nat, a ≤ n ∧ i = .int .i64 a ∧ Arr wr w.heap.size 3 (rnP ts n (pairsTo zs a)) ∧ Below w.heap.size w wr) (fun i _ => n - (intOf i).toNat)
  case atStart => exact ⟨0, by omega, rfl, hA1, hB1⟩
  case round =>
    clear hA1 hB1
    obtain ⟨a, ha, rfl, hAr, hB⟩ := hrel
    by_cases hlt : a < n
    · go_wp2
      go_loopw [7] (fun i wr => ∃ b : Nat, b ≤ n ∧ i = .int .i64 b ∧ Arr wr w.heap.size 3 (rnP ts n (pairsTo zs a ++ (itemsTo (zs[a]?.getD 0) b).map fun x => (a, x))) ∧ Below w.heap.size w wr) (fun i _ => n - (intOf i).toNat)
      case atStart => exact ⟨0, by omega, rfl, by simpa [itemsTo] using hAr, hB⟩
      case round =>
        clear hAr hB
        obtain ⟨b, hb, rfl, hAr, hB⟩ := hrel
        by_cases hbn : b < n
        · obtain ⟨bl, off, rfl, hbl, hc⟩ := (h.below hB).at_ hlt
          have hck := hc a hlt
          obtain ⟨bl', off', rfl, hbl', hc'⟩ := (h'.below hB).at_ hlt
          have htk := hc' a hlt
          have htj := hc' b hbn
          have hz := hv.bd a (by rw [hlen.out]; exact hlt)
          obtain ⟨t1, t2⟩ := it_lt Ht.out hlt
          obtain ⟨t3, t4⟩ := it_lt Ht.out hbn
          rw [t1] at htk
          rw [t3] at htj
          have Hs := Lib.hid (rnP_snoc ts n (pairsTo zs a ++ (itemsTo (zs[a]?.getD 0) b).map fun x => (a, x)) a b)
          have hlb : itN ts a < (rnP ts n (pairsTo zs a ++ (itemsTo (zs[a]?.getD 0) b).map fun x => (a, x))).length := by rw [rnP_len]; exact t2
          have hbd := rnP_bd (ts := ts) (n := n) (m := n) (ps := pairsTo zs a ++ (itemsTo (zs[a]?.getD 0) b).map fun x => (a, x)) (fun p hp => by
            rcases List.mem_append.1 hp with h1 | h1
            · obtain ⟨q1, q2⟩ := p
              have h2 := (pairsTo_le zs (k := a) (m := zs.length) (by rw [hlen.out]; omega)).subset h1
              have h3 := (hv.pair h2).2.1
              rw [hlen.out] at h3
              exact (it_lt Ht.out h3).2
            · obtain ⟨x, hx, rfl⟩ := List.mem_map.1 h1
              have h3 : x < b := by
                unfold itemsTo at hx
                exact List.mem_range.1 (List.mem_filter.1 hx).1
              exact (it_lt Ht.out (show x < n by omega)).2) (itN ts a)
          clear hc hc' t1 t3
          cases hbit : bitB (zs[a]?.getD 0) b
          · have hbi : (bitI (zs[a]?.getD 0) b == 1) = false := by rw [bitI_one, hbit]
            have Hn := Lib.hid (itemsTo_no hbit)
            clear hlb
            generalize itN ts a = x at *
            generalize itN ts b = y at *
            generalize zs[a]?.getD 0 = z at *
            go_wp2_with (go_at_call 70; refine (bit_any _ _ _ (by omega) (by omega) (by omega) (by omega)).mono ?_; rintro e w' ⟨rfl, rfl⟩)
            go_roundw
            case rel => exact ⟨b + 1, by omega, by go_num, by rw [Hn.out]; exact hAr, hB⟩
            case measure => simp [intOf]; omega
          · have hbi : (bitI (zs[a]?.getD 0) b == 1) = true := by rw [bitI_one, hbit]
            have Hn := Lib.hid (itemsTo_yes hbit)
            have hcs := hAr.cell hlb
            have hfs := hAr.frozen (itN ts a)
            clear hlb hbit
            generalize itN ts a = x at *
            generalize itN ts b = y at *
            generalize hD : rnP ts n (pairsTo zs a ++ (itemsTo (zs[a]?.getD 0) b).map fun x => (a, x)) = D at *
            have HD := Lib.hid hD
            clear hD
            generalize zs[a]?.getD 0 = z at *
            have hpn := powI_le6 (n := (n : Int)) (by omega)
            have hpk : powI (y : Int) < powI (n : Int) := powI_lt t4
            have hpp := powI_pos (y : Int)
            have hpw : ∀ W, Calls Try.prog 69 #[.int .i64 (y : Int)] W fun e w'' => e = .returned (.int .i64 (powI y)) ∧ w'' = W := fun W => (power_any _ _ (by omega) (by omega)).mono fun _ _ ⟨h1, h2⟩ => ⟨h1, h2.symm⟩
            generalize D[x]?.getD 0 = d at *
            have hor : bits .or .i64 d (powI y) = orI d (powI y) := bits_or (by omega) (by omega) (by omega) (by omega)
            go_wp2_with (go_at_call 70; refine (bit_any _ _ _ (by omega) (by omega) (by omega) (by omega)).mono ?_; rintro e w' ⟨rfl, rfl⟩)
            rename World => wr
            obtain ⟨W2, hW2⟩ : ∃ W2, wr.drew = W2 := ⟨_, rfl⟩
            have k1 : W2.cell? ⟨bl', off' + a, none⟩ = some (.int .i64 (x : Int)) := by rw [← hW2]; exact htk
            have k2 : W2.cell? ⟨bl', off' + b, none⟩ = some (.int .i64 (y : Int)) := by rw [← hW2]; exact htj
            have k3 : W2.cell? ⟨w.heap.size, x, none⟩ = some (.int .i64 d) := by rw [← hW2]; exact hcs
            have k4 : W2.frozen? ⟨w.heap.size, x, none⟩ = false := by rw [← hW2]; exact hfs
            have kAr : Arr W2 w.heap.size 3 D := by rw [← hW2]; exact hAr
            have kB : Below w.heap.size w W2 := by rw [← hW2]; exact hB.drew
            refine wp_region_still_tail 19 (by kernel_rfl) (by kernel_rfl) ?_
            simp only [List.take_succ_cons, List.take_zero, List.drop_succ_cons, List.drop_zero]
            change wpStill _ _ wr.drew (fun a' => wpList _ _ _ _ a' wr.drew) _ _
            rw [hW2]
            clear hW2 htk htj hcs hfs hAr hB
            repeat (first | still_step | still_call (hpw _))
            refine wpStill_nil ?_
            go_wp2
            go_roundw
            case rel => exact ⟨b + 1, by omega, by go_num, by rw [Hn.out, List.map_append, ← List.append_assoc, List.map_cons, List.map_nil, Hs.out]; exact kAr.set _ _, kB.setCell (p := ⟨w.heap.size, x, none⟩) (Nat.le_refl _) _⟩
            case measure => simp [intOf]; omega
        · obtain rfl : b = n := by omega
          have Hall := Lib.hid (itemsTo_all (s := zs[a]?.getD 0) (n := b) (by have h1 := (hv.2 a (by rw [hlen.out]; exact hlt)).2; rw [hlen.out] at h1; exact h1) hn6)
          have Hps := Lib.hid (pairsTo_succ zs a)
          go_wp2
          go_roundw
          case rel => exact ⟨a + 1, by omega, by go_num, by rw [Hps.out, ← Hall.out]; exact hAr, hB⟩
          case measure => simp [intOf]; omega
    · obtain rfl : a = n := by omega
      have Hps := Lib.hid (show rnL zs ts = rnP ts a (pairsTo zs a) by unfold rnL pairsL; rw [hlen.out])
      go_wp2
      go_ret
      exact ⟨rfl, by rw [Hps.out]; exact hAr, hB⟩
end Go.Proofs.Ytghogabmkbadjaa

/- DualOf: the model's and the program's. -/
import Derived.Test.YtidggolnhagfdaaDoorHelp
import Derived.Test.YtidggolnhagfdaaDoorValid
import Derived.Deep.RegionWith
namespace Go.Proofs.YtidggolnhagfdaaDoor
open Go.RowKit Go.Shelf
attribute [local go_sem] Oper.semAt_some
attribute [local go_sem, local simp] wide_fn

/-- What has been turned round when a list of pairs is over. -/
def downP (n : Nat) (ps : List (Nat × Nat)) : List Int := ps.foldl (fun (d : List Int) (p : Nat × Nat) => d.set p.2 (orI (d[p.2]?.getD 0) (powI p.1))) (List.replicate n 0)
theorem downP_snoc (n : Nat) (ps : List (Nat × Nat)) (a b : Nat) : downP n (ps ++ [(a, b)]) = (downP n ps).set b (orI ((downP n ps)[b]?.getD 0) (powI a)) := by simp [downP]
theorem downP_len (n : Nat) : ∀ ps : List (Nat × Nat), (downP n ps).length = n := fun ps => by
  unfold downP
  generalize hd : List.replicate n (0 : Int) = d
  have hl : d.length = n := by rw [← hd]; simp
  clear hd
  induction ps generalizing d with
  | nil => exact hl
  | cons p ps ih => exact ih _ (by simpa using hl)
theorem downP_bd {n m : Nat} {ps : List (Nat × Nat)} (h : ∀ p ∈ ps, p.1 < m) (j : Nat) : 0 ≤ (downP n ps)[j]?.getD 0 ∧ (downP n ps)[j]?.getD 0 < powI m := by
  have hp := powI_pos (m : Int)
  unfold downP
  generalize hd : List.replicate n (0 : Int) = d
  have hl : ∀ j : Nat, 0 ≤ d[j]?.getD 0 ∧ d[j]?.getD 0 < powI m := fun j => by
    rw [← hd]
    by_cases hj : j < n
    · simp [hj]; exact hp
    · simp [hj]; exact hp
  clear hd
  induction ps generalizing d with
  | nil => exact hl j
  | cons p ps ih =>
    refine ih (fun q hq => h q (by simp [hq])) _ (fun i => ?_)
    have h1 := h p (by simp)
    by_cases hi : p.2 = i
    · subst hi
      by_cases hlt : p.2 < d.length
      · rw [List.getElem?_set_self hlt]
        exact orI_bd (hl _).1 (hl _).2 (Int.le_of_lt (powI_pos _)) (powI_lt h1)
      · dsimp only
        rw [List.set_eq_of_length_le (by omega)]
        exact hl _
    · rw [List.getElem?_set_ne hi]
      exact hl i

theorem pairsTo_lt {zs : List Int} {k : Nat} {p : Nat × Nat} (h : p ∈ pairsTo zs k) : p.1 < k := by
  simp only [pairsTo, List.mem_flatMap, List.mem_range, List.mem_map] at h
  obtain ⟨x, hx, y, _, rfl⟩ := h
  exact hx
theorem upTo_lt {zs : List Int} {a b : Nat} : ∀ p ∈ pairsTo zs a ++ (itemsTo (zs[a]?.getD 0) b).map (fun x => (a, x)), p.1 < a + 1 := fun p hp => by
  rcases List.mem_append.1 hp with h | h
  · have := pairsTo_lt h; omega
  · obtain ⟨x, _, rfl⟩ := List.mem_map.1 h
    simp
/-- Of a set of n items the first n numbers tell all. -/
theorem itemsTo_all {s : Int} {n : Nat} (h1 : s < powI n) (hn : n ≤ 6) : itemsTo s n = itemsL s := by
  have key : ∀ d : Nat, itemsTo s (n + d) = itemsTo s n := fun d => by
    induction d with
    | zero => rfl
    | succ d ih =>
      have hb : bitB s ((n + d : Nat) : Int) = false := by
        cases h : bitB s ((n + d : Nat) : Int) with
        | false => rfl
        | true => have := bitB_lt h1 h; omega
      rw [← Nat.add_assoc, itemsTo_no hb, ih]
  rw [itemsL, show (6 : Nat) = n + (6 - n) from by omega, key]

set_option maxHeartbeats 1000000 in
theorem downOf_any (A : Option Addr) (n c : Nat) (zs : List Int) (w : World) (h : Ints w w.heap.size A n zs) (hv : Sets zs) :
    Calls Tryd.prog 10 #[.slice A n c] w fun e w' => e = .returned (.slice (some ⟨w.heap.size, 0, none⟩) n n) ∧ Arr w' w.heap.size 3 (downP n (pairsL zs)) ∧ Below w.heap.size w w' := by
  have hlen := Lib.hid h.len
  have hn6 : n ≤ 6 := by have := hv.1; rw [hlen.out] at this; exact this
  have hmk := run_make_row' (P := Tryd.prog) 22 3 (.int .i64 0) 8 Tryd.underlying22 infoInt rfl .i64 .i64 n (by omega) (by omega)
  go_enter Tryd.func10, Tryd.ntmps10
  go_wp2
  have hA1 := Arr.new w 3 n
  have hB1 : Below w.heap.size w (w.alloc (.cells (madeCells #[.int .i64 0] n) 3)) := (Below.refl _ _).alloc (Nat.le_refl _) _
  obtain ⟨W1, hW1⟩ : ∃ W1, w.alloc (.cells (madeCells #[.int .i64 0] n) 3) = W1 := ⟨_, rfl⟩
  rw [hW1] at hA1 hB1 ⊢
  clear hW1 hmk
  go_loopw [4] (fun i wr => ∃ a : Nat, a ≤ n ∧ i = .int .i64 a ∧ Arr wr w.heap.size 3 (downP n (pairsTo zs a)) ∧ Below w.heap.size w wr) (fun i _ => n - (intOf i).toNat)
  case atStart => exact ⟨0, by omega, rfl, hA1, hB1⟩
  case round =>
    obtain ⟨a, ha, rfl, hAr, hB⟩ := hrel
    by_cases hak : a < n
    · have hz := hv.bd a (by rw [hlen.out]; exact hak)
      go_wp2
      go_loopw [5] (fun i wr => ∃ b : Nat, b ≤ n ∧ i = .int .i64 b ∧ Arr wr w.heap.size 3 (downP n (pairsTo zs a ++ (itemsTo (zs[a]?.getD 0) b).map fun x => (a, x))) ∧ Below w.heap.size w wr) (fun i _ => n - (intOf i).toNat)
      case atStart => exact ⟨0, by omega, rfl, by simpa [itemsTo] using hAr, hB⟩
      case round =>
        clear hAr hB
        obtain ⟨b, hb, rfl, hAr, hB⟩ := hrel
        by_cases hbk : b < n
        · obtain ⟨bl, off, rfl, hbl, hc⟩ := (h.below hB).at_ hak
          have hck := hc a hak
          clear hc
          cases hbit : bitB (zs[a]?.getD 0) b
          · have hbi : (bitI (zs[a]?.getD 0) b == 1) = false := by rw [bitI_one, hbit]
            have Hn := Lib.hid (itemsTo_no hbit)
            go_wp2_with (go_at_call 16; refine (bit_any _ _ _ (by omega) (by omega) (by omega) (by omega)).mono ?_; rintro e w' ⟨rfl, rfl⟩)
            go_roundw
            case rel => exact ⟨b + 1, by omega, by go_num, by rw [Hn.out]; exact hAr, hB⟩
            case measure => simp [intOf]; omega
          · have hbi : (bitI (zs[a]?.getD 0) b == 1) = true := by rw [bitI_one, hbit]
            have Hn := Lib.hid (itemsTo_yes hbit)
            have hlb : b < (downP n (pairsTo zs a ++ (itemsTo (zs[a]?.getD 0) b).map fun x => (a, x))).length := by rw [downP_len]; exact hbk
            have hcs := hAr.cell hlb
            have hfs := hAr.frozen b
            have Hs := Lib.hid (downP_snoc n (pairsTo zs a ++ (itemsTo (zs[a]?.getD 0) b).map fun x => (a, x)) a b)
            have hbd := downP_bd (n := n) (m := a + 1) (ps := pairsTo zs a ++ (itemsTo (zs[a]?.getD 0) b).map fun x => (a, x)) upTo_lt b
            clear hlb
            generalize hD : downP n (pairsTo zs a ++ (itemsTo (zs[a]?.getD 0) b).map fun x => (a, x)) = D at *
            have HD := Lib.hid hD
            clear hD
            have hpa := powI_le6 (n := ((a + 1 : Nat) : Int)) (by omega)
            have hpb := powI_le6 (n := (a : Int)) (by omega)
            have hpp := powI_pos (a : Int)
            have hor : bits .or .i64 (D[b]?.getD 0) (powI a) = orI (D[b]?.getD 0) (powI a) := bits_or (by omega) (by omega) (by omega) (by omega)
            go_wp2_with (go_at_call 16; refine (bit_any _ _ _ (by omega) (by omega) (by omega) (by omega)).mono ?_; rintro e w' ⟨rfl, rfl⟩)
            go_region_with ((go_at_call 11; refine (power_any _ _ (by omega) (by omega)).mono ?_; rintro e w' ⟨rfl, rfl⟩))
            all_goals
              go_wp2
              go_roundw
              case rel => exact ⟨b + 1, by omega, by go_num, by rw [Hn.out, List.map_append, ← List.append_assoc, List.map_cons, List.map_nil, Hs.out]; exact hAr.set _ _, (hB.setCell (p := ⟨w.heap.size, b, none⟩) (Nat.le_refl _) _).drew⟩
              case measure => simp [intOf]; omega
        · obtain rfl : b = n := by omega
          have Hall := Lib.hid (itemsTo_all (s := zs[a]?.getD 0) (n := b) (by have h1 := (hv.2 a (by rw [hlen.out]; exact hak)).2; rw [hlen.out] at h1; exact h1) hn6)
          have Hps := Lib.hid (pairsTo_succ zs a)
          go_wp2
          go_roundw
          case rel => exact ⟨a + 1, by omega, by go_num, by rw [Hps.out, ← Hall.out]; exact hAr, hB⟩
          case measure => simp [intOf]; omega
    · obtain rfl : a = n := by omega
      have Hps := Lib.hid (show pairsL zs = pairsTo zs a by rw [pairsL, hlen.out])
      go_wp2
      go_ret
      exact ⟨rfl, by rw [Hps.out]; exact hAr, hB⟩

def dualR (zs : List Int) : List Int := if vo zs then downP zs.length (pairsL zs) else []

end Go.Proofs.YtidggolnhagfdaaDoor

/- DualOf: the model's and the program's. -/
import Derived.Test.YtipdmaggfbfnlaaHelp
import Derived.Test.YtipdmaggfbfnlaaValid
import Derived.Deep.RegionWith
set_option linter.unusedVariables false
set_option linter.unusedSimpArgs false
namespace Go.Proofs.Ytipdmaggfbfnlaa
open Go.RowKit Go.Shelf
attribute [local go_sem] Oper.semAt_some
attribute [local go_sem, local simp] wide_fn

/-- What has been turned round when a list of pairs is over. -/
def downP (n : Nat) (ps : List (Nat × Nat)) : List Int := ps.foldl (fun (d : List Int) (p : Nat × Nat) => d.set p.2 (orI (d[p.2]?.getD 0) (powI p.1))) (List.replicate n 0)
theorem downP_snoc (n : Nat) (ps : List (Nat × Nat)) (a b : Nat) : downP n (ps ++ [(a, b)]) = (downP n ps).set b (orI ((downP n ps)[b]?.getD 0) (powI a)) := by simp [downP]
theorem downP_len (n : Nat) : ∀ ps : List (Nat × Nat), (downP n ps).length = n := fun ps => by
  unfold downP
  generalize hd : List.replicate n (0 : Int) = d
  have hl : d.length = n := by rw [← hd]; simp
  clear hd
  induction ps generalizing d with
  | nil => exact hl
  | cons p ps ih => exact ih _ (by simpa using hl)
theorem downP_bd {n m : Nat} {ps : List (Nat × Nat)} (h : ∀ p ∈ ps, p.1 < m) (j : Nat) : 0 ≤ (downP n ps)[j]?.getD 0 ∧ (downP n ps)[j]?.getD 0 < powI m := by
  have hp := powI_pos (m : Int)
  unfold downP
  generalize hd : List.replicate n (0 : Int) = d
  have hl : ∀ j : Nat, 0 ≤ d[j]?.getD 0 ∧ d[j]?.getD 0 < powI m := fun j => by
    rw [← hd]
    by_cases hj : j < n
    · simp [hj]; exact hp
    · simp [hj]; exact hp
  clear hd
  induction ps generalizing d with
  | nil => exact hl j
  | cons p ps ih =>
    refine ih (fun q hq => h q (by simp [hq])) _ (fun i => ?_)
    have h1 := h p (by simp)
    by_cases hi : p.2 = i
    · subst hi
      by_cases hlt : p.2 < d.length
      · rw [List.getElem?_set_self hlt]
        exact orI_bd (hl _).1 (hl _).2 (Int.le_of_lt (powI_pos _)) (powI_lt h1)
      · dsimp only
        rw [List.set_eq_of_length_le (by omega)]
        exact hl _
    · rw [List.getElem?_set_ne hi]
      exact hl i

theorem pairsTo_lt {zs : List Int} {k : Nat} {p : Nat × Nat} (h : p ∈ pairsTo zs k) : p.1 < k := by
  simp only [pairsTo, List.mem_flatMap, List.mem_range, List.mem_map] at h
  obtain ⟨x, hx, y, _, rfl⟩ := h
  exact hx
theorem upTo_lt {zs : List Int} {a b : Nat} : ∀ p ∈ pairsTo zs a ++ (itemsTo (zs[a]?.getD 0) b).map (fun x => (a, x)), p.1 < a + 1 := fun p hp => by
  rcases List.mem_append.1 hp with h | h
  · have := pairsTo_lt h; omega
  · obtain ⟨x, _, rfl⟩ := List.mem_map.1 h
    simp
/-- Of a set of n items the first n numbers tell all. -/
theorem itemsTo_all {s : Int} {n : Nat} (h1 : s < powI n) (hn : n ≤ 6) : itemsTo s n = itemsL s := by
  have key : ∀ d : Nat, itemsTo s (n + d) = itemsTo s n := fun d => by
    induction d with
    | zero => rfl
    | succ d ih =>
      have hb : bitB s ((n + d : Nat) : Int) = false := by
        cases h : bitB s ((n + d : Nat) : Int) with
        | false => rfl
        | true => have := bitB_lt h1 h; omega
      rw [← Nat.add_assoc, itemsTo_no hb, ih]
  rw [itemsL, show (6 : Nat) = n + (6 - n) from by omega, key]

set_option maxHeartbeats 1000000 in
theorem downOf_any (A : Option Addr) (n c : Nat) (zs : List Int) (w : World) (h : Ints w w.heap.size A n zs) (hv : Sets zs) :
    Calls Try.prog 65 #[.slice A n c] w fun e w' => e = .returned (.slice (some ⟨w.heap.size, 0, none⟩) n n) ∧ Arr w' w.heap.size 3 (downP n (pairsL zs)) ∧ Below w.heap.size w w' := by
  have hlen := Lib.hid h.len
  have hn6 : n ≤ 6 := by have := hv.1; rw [hlen.out] at this; exact this
  have hmk := run_make_row' (P := Try.prog) 22 3 (.int .i64 0) 8 Try.underlying22 infoInt rfl .i64 .i64 n (by omega) (by omega)
  go_enter Try.func65, Try.ntmps65
  go_wp2
  have hA1 := Arr.new w 3 n
  have hB1 : Below w.heap.size w (w.alloc (.cells (madeCells #[.int .i64 0] n) 3)) := (Below.refl _ _).alloc (Nat.le_refl _) _
  obtain ⟨W1, hW1⟩ : ∃ W1, w.alloc (.cells (madeCells #[.int .i64 0] n) 3) = W1 := ⟨_, rfl⟩
  rw [hW1] at hA1 hB1 ⊢
  clear hW1 hmk
  go_loopw [4] (fun i wr => ∃ a : Nat, a ≤ n ∧ i = .int .i64 a ∧ Arr wr w.heap.size 3 (downP n (pairsTo zs a)) ∧ Below w.heap.size w wr) (fun i _ => n - (intOf i).toNat)
  case atStart => exact ⟨0, by omega, rfl, hA1, hB1⟩
  case round =>
    obtain ⟨a, ha, rfl, hAr, hB⟩ := hrel
    by_cases hak : a < n
    · have hz := hv.bd a (by rw [hlen.out]; exact hak)
      go_wp2
      go_loopw [5] (fun i wr => ∃ b : Nat, b ≤ n ∧ i = .int .i64 b ∧ Arr wr w.heap.size 3 (downP n (pairsTo zs a ++ (itemsTo (zs[a]?.getD 0) b).map fun x => (a, x))) ∧ Below w.heap.size w wr) (fun i _ => n - (intOf i).toNat)
      case atStart => exact ⟨0, by omega, rfl, by simpa [itemsTo] using hAr, hB⟩
      case round =>
        clear hAr hB
        obtain ⟨b, hb, rfl, hAr, hB⟩ := hrel
        by_cases hbk : b < n
        · obtain ⟨bl, off, rfl, hbl, hc⟩ := (h.below hB).at_ hak
          have hck := hc a hak
          clear hc
          cases hbit : bitB (zs[a]?.getD 0) b
          · have hbi : (bitI (zs[a]?.getD 0) b == 1) = false := by rw [bitI_one, hbit]
            have Hn := Lib.hid (itemsTo_no hbit)
            go_wp2_with (go_at_call 67; refine (bit_any _ _ _ (by omega) (by omega) (by omega) (by omega)).mono ?_; rintro e w' ⟨rfl, rfl⟩)
            go_roundw
            case rel => exact ⟨b + 1, by omega, by go_num, by rw [Hn.out]; exact hAr, hB⟩
            case measure => simp [intOf]; omega
          · have hbi : (bitI (zs[a]?.getD 0) b == 1) = true := by rw [bitI_one, hbit]
            have Hn := Lib.hid (itemsTo_yes hbit)
            have hlb : b < (downP n (pairsTo zs a ++ (itemsTo (zs[a]?.getD 0) b).map fun x => (a, x))).length := by rw [downP_len]; exact hbk
            have hcs := hAr.cell hlb
            have hfs := hAr.frozen b
            have Hs := Lib.hid (downP_snoc n (pairsTo zs a ++ (itemsTo (zs[a]?.getD 0) b).map fun x => (a, x)) a b)
            have hbd := downP_bd (n := n) (m := a + 1) (ps := pairsTo zs a ++ (itemsTo (zs[a]?.getD 0) b).map fun x => (a, x)) upTo_lt b
            clear hlb
            generalize hD : downP n (pairsTo zs a ++ (itemsTo (zs[a]?.getD 0) b).map fun x => (a, x)) = D at *
            have HD := Lib.hid hD
            clear hD
            have hpa := powI_le6 (n := ((a + 1 : Nat) : Int)) (by omega)
            have hpb := powI_le6 (n := (a : Int)) (by omega)
            have hpp := powI_pos (a : Int)
            have hor : bits .or .i64 (D[b]?.getD 0) (powI a) = orI (D[b]?.getD 0) (powI a) := bits_or (by omega) (by omega) (by omega) (by omega)
            go_wp2_with (go_at_call 67; refine (bit_any _ _ _ (by omega) (by omega) (by omega) (by omega)).mono ?_; rintro e w' ⟨rfl, rfl⟩)
            go_region_with ((go_at_call 96; refine (power_any _ _ (by omega) (by omega)).mono ?_; rintro e w' ⟨rfl, rfl⟩))
            all_goals
              go_wp2
              go_roundw
              case rel => exact ⟨b + 1, by omega, by go_num, by rw [Hn.out, List.map_append, ← List.append_assoc, List.map_cons, List.map_nil, Hs.out]; exact hAr.set _ _, (hB.setCell (p := ⟨w.heap.size, b, none⟩) (Nat.le_refl _) _).drew⟩
              case measure => simp [intOf]; omega
        · obtain rfl : b = n := by omega
          have Hall := Lib.hid (itemsTo_all (s := zs[a]?.getD 0) (n := b) (by have h1 := (hv.2 a (by rw [hlen.out]; exact hak)).2; rw [hlen.out] at h1; exact h1) hn6)
          have Hps := Lib.hid (pairsTo_succ zs a)
          go_wp2
          go_roundw
          case rel => exact ⟨a + 1, by omega, by go_num, by rw [Hps.out, ← Hall.out]; exact hAr, hB⟩
          case measure => simp [intOf]; omega
    · obtain rfl : a = n := by omega
      have Hps := Lib.hid (show pairsL zs = pairsTo zs a by rw [pairsL, hlen.out])
      go_wp2
      go_ret
      exact ⟨rfl, by rw [Hps.out]; exact hAr, hB⟩

/-- 'list': a copy as numbers. -/
theorem list_any (A : Option Addr) (n c : Nat) (zs : List Int) (w : World) (hA : Ints w w.heap.size A n zs) (hbig : n ≤ 1048576) :
    Calls Try.prog 74 #[.slice A n c] w fun e w' => e = .returned (.slice (some ⟨w.heap.size, 0, none⟩) n n) ∧ Arr w' w.heap.size 3 zs ∧ Below w.heap.size w w' := by
  have hlen := Lib.hid hA.len
  have hmk := run_make_row' (P := Try.prog) 22 3 (.int .i64 0) 8 Try.underlying22 infoInt rfl .i64 .i64 n (by omega) (by omega)
  go_enter Try.func74, Try.ntmps74
  go_wp2
  have hA1 := Arr.new w 3 n
  have hB1 : Below w.heap.size w (w.alloc (.cells (madeCells #[.int .i64 0] n) 3)) := (Below.refl _ _).alloc (Nat.le_refl _) _
  obtain ⟨W1, hW1⟩ : ∃ W1, w.alloc (.cells (madeCells #[.int .i64 0] n) 3) = W1 := ⟨_, rfl⟩
  rw [hW1] at hA1 hB1 ⊢
  clear hW1 hmk
  go_loopw [11] (fun i wr => ∃ k : Nat, k ≤ n ∧ i = .int .i64 k ∧ Arr wr w.heap.size 3 (copied zs n k) ∧ Below w.heap.size w wr) (fun i _ => n - (intOf i).toNat)
  case atStart => exact ⟨0, by omega, rfl, by rw [copied_zero]; exact hA1, hB1⟩
  case round =>
    obtain ⟨k, hk, rfl, hAr, hB⟩ := hrel
    have Hcl := Lib.hid (copied_len hlen.out hk)
    by_cases hlt : k < n
    · obtain ⟨b, off, rfl, hbw, hc⟩ := (hA.below hB).at_ hlt
      have hck := hc k hlt
      have hcs := hAr.cell (k := k) (by rw [Hcl.out]; exact hlt)
      have hfs := hAr.frozen k
      clear hc
      have Hcp := Lib.hid (copied_succ hlen.out hlt)
      go_wp2
      go_roundw
      case rel => exact ⟨k + 1, by omega, by go_num, by rw [← Hcp.out]; exact hAr.set _ _, hB.setCell (p := ⟨w.heap.size, k, none⟩) (Nat.le_refl _) _⟩
      case measure => simp [intOf]; omega
    · obtain rfl : k = n := by omega
      have Hfull := Lib.hid (copied_full hlen.out)
      go_wp2
      go_ret
      exact ⟨rfl, by rw [← Hfull.out]; exact hAr, hB⟩

set_option maxRecDepth 100000 in
set_option maxHeartbeats 4000000 in
theorem dual_any (A : Option Addr) (n c : Nat) (zs : List Int) (hv : Sets zs) (w : World) (hA : Ints w w.heap.size A n zs) :
    Calls Try.prog 75 #[.slice A n c] w fun e W' => e = .returned (.slice (some ⟨w.heap.size, 0, none⟩) n n) ∧ Arr W' w.heap.size 79 (downP n (pairsL zs)) ∧ Below w.heap.size w W' := by
  have hlen := Lib.hid hA.len
  have hn6 : n ≤ 6 := by have := hv.1; rw [hlen.out] at this; exact this
  have hmk := run_make_row' (P := Try.prog) 43 79 (.int .i64 0) 8 Try.underlying43 infoItems rfl .i64 .i64 n (by omega) (by omega)
  refine (callsIn_wide (n := 9)).1 ?_
  refine callsIn_of_wp_marks Try.func75 rfl trivial ?_ rfl
  simp only [Try.ntmps75, List.size_toArray, List.length_cons, List.length_nil, Nat.reduceAdd, Nat.reduceSub, Array.replicate_succ, Array.replicate_zero, List.push_toArray, List.append_toArray, List.nil_append, List.cons_append]
  gi_wp2_with (gi_at_call 72; refine (callsIn_wide.2 (pairs_any _ _ _ _)).mono ?_; rintro e w' ⟨rfl, rfl⟩)
  have aD := ((Arr.new w 79 n).alloc (.cells #[Value.slice (some ⟨w.heap.size, 0, none⟩) n n] 43)).alloc (.cells #[Value.slice A n c] 43)
  have bD := (Boxed.new (w.alloc (.cells (madeCells #[Value.int .i64 0] n) 79)) 43 (.slice (some ⟨w.heap.size, 0, none⟩) n n)).alloc (.cells #[Value.slice A n c] 43)
  have bP := Boxed.new ((w.alloc (.cells (madeCells #[Value.int .i64 0] n) 79)).alloc (.cells #[Value.slice (some ⟨w.heap.size, 0, none⟩) n n] 43)) 43 (.slice A n c)
  have hu0 : Upd (fun _ => False) w (((w.alloc (.cells (madeCells #[Value.int .i64 0] n) 79)).alloc (.cells #[Value.slice (some ⟨w.heap.size, 0, none⟩) n n] 43)).alloc (.cells #[Value.slice A n c] 43)) := (((Upd.refl _ w).alloc _).alloc _).alloc _
  have hz0 : (((w.alloc (.cells (madeCells #[Value.int .i64 0] n) 79)).alloc (.cells #[Value.slice (some ⟨w.heap.size, 0, none⟩) n n] 43)).alloc (.cells #[Value.slice A n c] 43)).heap.size = w.heap.size + 3 := by simp
  simp only [World.size_alloc] at bD bP
  clear hmk
  obtain ⟨W0, hW0⟩ : ∃ W0, (((w.alloc (.cells (madeCells #[Value.int .i64 0] n) 79)).alloc (.cells #[Value.slice (some ⟨w.heap.size, 0, none⟩) n n] 43)).alloc (.cells #[Value.slice A n c] 43)) = W0 := ⟨_, rfl⟩
  rw [hW0] at aD bD bP hu0 hz0 ⊢
  clear hW0
  have hA0 : Ints W0 w.heap.size A n zs := hA.below (hu0.toBelow (fun _ e => e.elim) (Nat.le_refl _))
  refine range_out (n := 9) (gf := 113) (lb := #[.pointer (some ⟨w.heap.size + 1 + 1, 0, none⟩)]) rfl (enters_of Try.func113 (by kernel_rfl) rfl) (encs := encP) (L := pairsL zs)
    (fun k => k = w.heap.size) (fun k e => by omega) (fun _ => rfl)
    (fun W1 l1 hu1 hl1 hl2 => pairs_iter_at hv bP (fun k e => by omega) (by omega) hA0 (by omega) (fun k e => by omega) hu1 hl1 hl2)
    (fun pre D W => Arr W w.heap.size 79 (downP n pre) ∧ Upd (fun k => k = w.heap.size) W0 W)
    (fun _ _ _ _ => False)
    (fun _ D X Y hs hu => ⟨hs.1.upd hu (fun e => by omega), hs.2.trans' hu (fun i hi e => by omega)⟩)
    (fun _ _ _ _ _ hs _ => hs)
    ⟨aD, Upd.refl _ _⟩ ?owes ?done ?stop
  case owes =>
    rintro l1 pre ⟨lo, hi⟩ D1 W hl1 hl2 hDl hD1 - hpre K hK
    gi_wp2
    refine hK _ _ (Upd.refl _ _) ?_
    rintro Wb hWb - ⟨aD1, hU⟩
    clear hK
    obtain ⟨hlo, hhi, hbit⟩ := hv.pair (a := lo) (b := hi) (hpre.subset (by simp))
    rw [hlen.out] at hlo hhi
    have hcD := (hU.boxed bD (by omega)).cell
    have hsb := hU.size
    have hszb := hWb.size
    have hlb : hi < (downP n pre).length := by rw [downP_len]; exact hhi
    have hcs := aD1.cell hlb
    have hfs := aD1.frozen hi
    have Hs := Lib.hid (downP_snoc n pre lo hi)
    have hbd := downP_bd (n := n) (m := n) (ps := pre) (fun p hp => by
      have := (hv.pair (a := p.1) (b := p.2) (hpre.subset (by simp [hp]))).1
      rw [hlen.out] at this; exact this) hi
    have hpn := powI_le6 (n := (n : Int)) (by omega)
    clear hlb
    generalize hD : downP n pre = D at *
    have HD := Lib.hid hD
    clear hD
    gi_wp2
    refine region_tail_round 9 (by kernel_rfl) (by kernel_rfl) (by kernel_rfl) ?_
    simp only [List.take_succ_cons, List.take_zero, List.drop_succ_cons, List.drop_zero]
    repeat (gi_big_quiet_step ((first
      | (gi_at_call 115; exact quietIn_add (with_any _ _ _ (by omega) (by omega) (by omega) (by omega)))
      | (gi_at_call 115; exact quietIn_left (with_any _ _ _ (by omega) (by omega) (by omega) (by omega))))))
    refine wpQuietIn_nil ?_
    intro _ hw'
    obtain ⟨nq, hw''⟩ := hw'
    subst hw''
    gi_wp2
    exact ⟨D1, ⟨by rw [Hs.out]; exact (aD1.drewN nq).set _ _, (hU.drewN _).setCell (p := ⟨w.heap.size, hi, none⟩) (.inr rfl) _⟩, ((Upd.refl _ _).drewN _).setCell (p := ⟨w.heap.size, hi, none⟩) (.inr (.inl rfl)) _, fun k hk => .inl hk⟩
  case done =>
    rintro d D1 W hd ⟨aD1, hU⟩ hD1 hKd
    have hcD := (hU.boxed bD (by omega)).cell
    gi_wp2
    refine leaves_marks [d] _ ⟨by simp, fun b hb => ?_⟩ (fun W' hu' => ?_)
    · rw [List.mem_singleton.1 hb]
      exact hKd
    · exact ⟨.slice (some ⟨w.heap.size, 0, none⟩) n n, by simp [results, Try.f75, go_sem], rfl, aD1.upd hu' (by simp; omega),
        (((hu0.mono fun _ _ e => e.elim).trans' hU (fun i hi e => by omega)).trans' hu' (fun i hi e => by simp at e; omega)).toBelow (R := fun _ => False) (fun _ e => e.elim) (Nat.le_refl _)⟩
  case stop =>
    rintro d D1 co pre W hd hpre h
    exact h.elim

def dualR (zs : List Int) : List Int := if vo zs then downP zs.length (pairsL zs) else []

theorem DualOf_any (A : Option Addr) (n c : Nat) (zs : List Int) (w : World) (h : Ints w w.heap.size A n zs) (hbig : n ≤ 1152921504606846976) :
    Calls Try.prog 22 #[.slice A n c] w (GivesRow w (dualR zs)) := by
  have hlen := Lib.hid h.len
  cases hv : vo zs
  · have Ht := Lib.hid (show dualR zs = [] by unfold dualR; rw [hv]; rfl)
    have Hv := Lib.hid hv
    clear hv
    go_enter Try.func22, Try.ntmps22
    go_wp2_with fail
    refine (readOrder_any _ _ _ zs _ h hbig).mono ?_
    rintro e w' ⟨hB, (⟨hv, b, rfl, _, _⟩ | ⟨_, rfl⟩)⟩
    · rw [Hv.out] at hv; cases hv
    · go_wp2_with fail
      go_ret
      exact ⟨none, 0, 0, rfl, by rw [Ht.out]; exact Row.nil _ _ _ _, hB⟩
  · have hvo : VoP zs := by simpa [vo] using hv
    have hn6 : n ≤ 6 := by have := hvo.1; rw [hlen.out] at this; exact this
    have Ht := Lib.hid (show dualR zs = downP n (pairsL zs) by unfold dualR; rw [hv, hlen.out]; rfl)
    have Hv := Lib.hid hv
    clear hv
    go_enter Try.func22, Try.ntmps22
    go_wp2_with fail
    refine (readOrder_any _ _ _ zs _ h hbig).mono ?_
    rintro e w1 ⟨hB, (⟨_, b, rfl, hb, hAr⟩ | ⟨hv, _⟩)⟩
    · have z1 := hB.size
      go_wp2_with fail
      refine (dual_any _ _ _ zs hvo.sets _ (hAr.ints' hAr.lt hlen.out)).mono ?_
      rintro e w2 ⟨rfl, hA2, hB2⟩
      have z2 := hB2.size
      go_wp2_with fail
      refine (list_any _ _ _ _ _ (hA2.ints' hA2.lt (downP_len _ _)) (by omega)).mono ?_
      rintro e w3 ⟨rfl, hA3, hB3⟩
      go_wp2_with fail
      go_ret
      exact ⟨_, n, n, rfl, by rw [Ht.out]; exact Row.of hA3 (downP_len _ _) (by omega) hA3.lt, hB.trans ((hB2.mono z1).trans (hB3.mono (by omega)))⟩
    · rw [Hv.out] at hv; cases hv
end Go.Proofs.Ytipdmaggfbfnlaa

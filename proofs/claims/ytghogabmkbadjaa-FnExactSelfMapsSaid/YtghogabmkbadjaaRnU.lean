/- SelfMaps, MapOrder, CanonOf: the model's, whole. -/
import Derived.Test.YtghogabmkbadjaaRnT
import Derived.Test.YtghogabmkbadjaaLessR
import Derived.Test.YtghogabmkbadjaaGa
import Derived.Test.YtghogabmkbadjaaGb
set_option linter.unusedVariables false
set_option linter.unusedSimpArgs false
namespace Go.Proofs.Ytghogabmkbadjaa
open Go.RowKit Go.Shelf

/-- All numberings as rows. -/
theorem perm_rows (n : Nat) (hn6 : n ≤ 6) (w : World) :
    Calls Try.prog 51 #[.int .i64 (n : Int)] w fun e w' => ∃ g N c, e = .returned (.slice (some ⟨g, 0, none⟩) N c) ∧ (alL (zr n)).length = N ∧ N ≤ 46656 ∧ IntsS w' w'.heap.size (some ⟨g, 0, none⟩) N (alL (zr n)) ∧ Below w.heap.size w w' := by
  refine (perm_any n hn6 w).mono ?_
  rintro e w' ⟨g, c, L, rfl, hL, hR, hB⟩
  have h1 := hR.ints rfl
  rw [hL] at h1
  have h2 : (alL (zr n)).length = L.length := by rw [← hL, List.length_map]
  have h3 := alL_count (zs := zr n) (by rw [zr_len]; exact hn6)
  exact ⟨g, L.length, c, rfl, h2, by omega, h1, hB⟩
theorem alz_row {n k : Nat} (hk : k < (alL (zr n)).length) : lineB (zr n) ((alL (zr n))[k]?.getD []) = true ∧ ((alL (zr n))[k]?.getD []).length = n := by
  have h1 : lineB (zr n) ((alL (zr n))[k]?.getD []) = true := by
    rw [List.getElem?_eq_getElem hk, Option.getD_some]
    exact (alL_mem _ _).1 (List.getElem_mem hk)
  exact ⟨h1, (zr_steps h1).1⟩
theorem take_snoc {α : Type} {l : List (List α)} {k : Nat} (hk : k < l.length) : l.take (k + 1) = l.take k ++ [l[k]?.getD []] := by
  rw [List.take_succ_eq_append_getElem hk, List.getElem?_eq_getElem hk]
  rfl

set_option maxRecDepth 100000 in
set_option maxHeartbeats 4000000 in
theorem specSelfMapsF_any (A : Option Addr) (n c : Nat) (zs : List Int) (w : World) (h : Ints w w.heap.size A n zs) (hbig : n ≤ 1152921504606846976) :
    Calls Try.prog 24 #[.slice A n c] w fun e w' => e = .returned (.int .i64 (selfR zs)) ∧ Below w.heap.size w w' := by
  have hlen := Lib.hid h.len
  cases hv : vo zs
  · have Ht := Lib.hid (show selfR zs = -1 by unfold selfR triB; rw [hv]; rfl)
    go_enter Try.func24, Try.ntmps24
    go_wp2_with fail
    refine (validOrder_any _ _ _ _ zs _ h hbig).mono ?_
    rw [hv]
    rintro e w' ⟨rfl, m, rfl⟩
    go_wp2_with fail
    go_ret
    exact ⟨ret_int Ht.out.symm, below_drewN (Below.refl _ _) m⟩
  · have hvo : VoP zs := by simpa [vo] using hv
    have Hv := Lib.hid hv
    clear hv
    have hn6 : n ≤ 6 := by have := hvo.1; rw [hlen.out] at this; exact this
    by_cases hn5 : n ≤ 5
    · have Ht := Lib.hid (show selfR zs = (((alL (zr n)).filter fun t => decide (rnL zs t = zs)).length : Int) by unfold selfR; rw [triB_of hvo (by rw [hlen.out]; exact hn5), hlen.out]; rfl)
      go_enter Try.func24, Try.ntmps24
      go_wp2_with fail
      refine (validOrder_any _ _ _ _ zs _ h hbig).mono ?_
      rw [Hv.out]
      rintro e w' ⟨rfl, m, rfl⟩
      have i1 : Ints (w.drewN m) (w.drewN m).heap.size A n zs := h.drewN m
      have B1 : Below w.heap.size w (w.drewN m) := below_drewN (Below.refl _ _) m
      generalize w.drewN m = w1 at *
      have z1 := B1.size
      go_wp2_with fail
      refine (perm_rows n hn6 w1).mono ?_
      rintro e w2 ⟨g, N, cN, rfl, hN, hNb, hR, hB2⟩
      have z2 := hB2.size
      have i2 := i1.to hB2 (Nat.le_refl _) z2
      have C2 := B1.trans (hB2.mono z1)
      have HN := Lib.hid hN
      clear hN i1 h hB2 B1
      go_wp2_with fail
      go_loopw [3, 5] (fun cnt i wr => ∃ k : Nat, k ≤ N ∧ i = .int .i64 k ∧ cnt = .int .i64 ((((alL (zr n)).take k).filter fun t => decide (rnL zs t = zs)).length : Nat) ∧ Below w2.heap.size w2 wr) (fun _ i _ => N - (intOf i).toNat)
      case atStart => exact ⟨0, by omega, rfl, rfl, Below.refl _ _⟩
      case round =>
        obtain ⟨k, hk, rfl, rfl, hB⟩ := hrel
        rename World => wr
        have zB := hB.size
        by_cases hlt : k < N
        · obtain ⟨b0, off, e0, hb0, hc⟩ := (hR.below hB).at_ hlt
          cases e0
          obtain ⟨A', c', hcell, hI⟩ := hc k hlt
          clear hc
          obtain ⟨hlb, hll⟩ := alz_row (n := n) (k := k) (by rw [HN.out]; exact hlt)
          have htk := take_snoc (l := alL (zr n)) (k := k) (by rw [HN.out]; exact hlt)
          generalize hrr : (alL (zr n))[k]?.getD [] = r at *
          have Htk := Lib.hid (show (((alL (zr n)).take (k + 1)).filter fun t => decide (rnL zs t = zs)).length = (((alL (zr n)).take k).filter fun t => decide (rnL zs t = zs)).length + (if rnL zs r = zs then 1 else 0) by
            rw [htk, List.filter_append, List.length_append, List.filter_cons]
            by_cases e : rnL zs r = zs <;> simp [e])
          have hcb : (((alL (zr n)).take k).filter fun t => decide (rnL zs t = zs)).length ≤ k := Nat.le_trans (List.length_filter_le _ _) (by rw [List.length_take]; exact Nat.min_le_left _ _)
          have Hlb := Lib.hid hlb
          clear htk hrr hlb
          rw [hll, Nat.zero_add] at hcell
          rw [hll] at hI
          generalize (((alL (zr n)).take k).filter fun t => decide (rnL zs t = zs)).length = q at *
          have i3 := i2.to hB (Nat.le_refl _) zB
          go_wp2_with fail
          refine (rnS_any A A' n c c' zs r wr i3 (hI.more zB) hvo.sets Hlb.out).mono ?_
          rintro e w3 ⟨rfl, hA3, hB3⟩
          have z3 := hB3.size
          have hD := hB.trans (hB3.mono zB)
          go_wp2_with fail
          refine (below_quiet (sameInts_any _ _ _ _ _ _ w3.heap.size w3.heap.size _ zs _ (hA3.ints' hA3.lt (by rw [rnL_len, hlen.out])) (i3.to hB3 (Nat.le_refl _) z3) (by omega) (by omega))).mono ?_
          rintro e w4 ⟨rfl, hB4⟩
          have hD4 := hD.trans (hB4.mono (by omega))
          by_cases he : rnL zs r = zs
          · have hdec : decide (rnL zs r = zs) = true := by simpa using he
            rw [if_pos he] at Htk
            clear he
            go_wp2_with fail
            go_roundw
            case rel => exact ⟨k + 1, by omega, by go_num, congrArg (Value.int .i64) (by rw [Htk.out]; omega), hD4⟩
            case measure => simp [intOf]; omega
          · have hdec : decide (rnL zs r = zs) = false := by simpa using he
            rw [if_neg he] at Htk
            clear he
            go_wp2_with fail
            go_roundw
            case rel => exact ⟨k + 1, by omega, by go_num, congrArg (Value.int .i64) (by rw [Htk.out]; rfl), hD4⟩
            case measure => simp [intOf]; omega
        · obtain rfl : k = N := by omega
          have Htk := Lib.hid (show (alL (zr n)).take k = alL (zr n) by rw [List.take_of_length_le]; rw [HN.out]; exact Nat.le_refl _)
          go_wp2
          go_ret
          exact ⟨ret_int (by rw [Ht.out, Htk.out]), C2.trans (hB.mono C2.size)⟩
    · have Ht := Lib.hid (show selfR zs = -1 by unfold selfR triB; rw [Hv.out, hlen.out]; simp [hn5])
      go_enter Try.func24, Try.ntmps24
      go_wp2_with fail
      refine (validOrder_any _ _ _ _ zs _ h hbig).mono ?_
      rw [Hv.out]
      rintro e w' ⟨rfl, m, rfl⟩
      go_wp2_with fail
      go_ret
      exact ⟨ret_int Ht.out.symm, below_drewN (Below.refl _ _) m⟩
end Go.Proofs.Ytghogabmkbadjaa

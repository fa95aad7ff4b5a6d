/- The order of spans: the program's whole. -/
import Derived.Test.YtdcdddmjffgibaaGreatSoK
import Derived.Test.YtdcdddmjffgibaaGreatGa
import Derived.Test.YtdcdddmjffgibaaGreatGc
set_option linter.unusedVariables false
set_option linter.unusedSimpArgs false
namespace Go.Proofs.YtdcdddmjffgibaaGreat
open Go.RowKit Go.Shelf
attribute [local go_sem] Oper.semAt_some

theorem RowV.ofA {w : World} {lo hi n b : Nat} {xs : List Int} (h : Arr w b 3 xs) (hn : xs.length = n) (hlo : lo ≤ b) (hhi : b < hi) : RowV w lo hi (some ⟨b, 0, none⟩) n xs :=
  ⟨hn, fun _ => ⟨b, _, rfl, hlo, hhi, h, by rw [← hn]; exact List.take_of_length_le (by simp)⟩⟩
theorem copied_at {zs : List Int} {n k : Nat} (h : zs.length = n) (hk : k < n) : (copied zs n k)[k]? = some 0 := by
  subst h
  have e : (zs.take k).length = k := by rw [List.length_take]; omega
  unfold copied
  rw [List.getElem?_append_right (by rw [e]; exact Nat.le_refl _), e, Nat.sub_self, List.getElem?_replicate, if_pos (by omega)]
theorem copied_set0 {zs : List Int} {n k : Nat} (h : zs.length = n) (hk : k < n) : (copied zs n k).set k 0 = copied zs n k := by
  refine List.ext_getElem? fun i => ?_
  rw [List.getElem?_set]
  split
  · rename_i e
    subst e
    rw [if_pos (by rw [copied_len h (by omega)]; exact hk), copied_at h hk]
  · rfl

set_option maxRecDepth 100000 in
set_option maxHeartbeats 4000000 in
theorem orderOfSpans_any (b n c : Nat) (rs : List (List Int)) (w : World) (hS : Arr w b 69 (flS (fsS rs) (lsS rs))) (hl : rs.length = n) (hn : n ≤ 6) :
    Calls Tryz.prog 34 #[.slice (some ⟨b, 0, none⟩) n c] w fun e w' => e = .returned (.slice (some ⟨w.heap.size, 0, none⟩) n n) ∧ Arr w' w.heap.size 59 (soL rs) ∧ Below w.heap.size w w' := by
  have Hlen := Lib.hid hl
  have hSl : (flS (fsS rs) (lsS rs)).length = n * 2 := by rw [flS_len, fsS_len, Hlen.out]
  have HSl := Lib.hid hSl
  have Hol := Lib.hid (show (soL rs).length = n by rw [soL_len]; exact hl)
  have hlt := hS.lt
  have hmk := run_make_row' (P := Tryz.prog) 40 59 (.int .i64 0) 8 Tryz.underlying40 infoItems rfl .i64 .i64 n (by omega) (by omega)
  clear hl hSl
  go_enter Tryz.func34, Tryz.ntmps34
  go_wp2_with fail
  have hA1 := Arr.new w 59 n
  have hU0 : Upd (fun _ => False) w (w.alloc (.cells (madeCells #[.int .i64 0] n) 59)) := (Upd.refl _ _).alloc _
  have Z0 := Lib.hid (show (w.alloc (.cells (madeCells #[.int .i64 0] n) 59)).heap.size = w.heap.size + 1 by simp)
  have hS1 := hS.alloc (.cells (madeCells #[.int .i64 0] n) 59)
  obtain ⟨W1, hW1⟩ : ∃ W1, w.alloc (.cells (madeCells #[.int .i64 0] n) 59) = W1 := ⟨_, rfl⟩
  rw [hW1] at hA1 hU0 Z0 hS1 ⊢
  clear hW1 hmk hS
  go_loopw [13] (fun i wr => ∃ k : Nat, k ≤ n ∧ i = .int .i64 k ∧ Arr wr w.heap.size 59 (copied (soL rs) n k) ∧ Upd (fun q => q = w.heap.size) W1 wr) (fun i _ => n - (intOf i).toNat)
  case atStart => exact ⟨0, by omega, rfl, by rw [copied_zero]; exact hA1, Upd.refl _ _⟩
  case round =>
    obtain ⟨k, hk, rfl, hAr, hU⟩ := hrel
    rename World => wr
    have zU := hU.size
    by_cases hltk : k < n
    · have hSr := hS1.upd hU (by omega)
      have Hs0 := Lib.hid (copied_set0 Hol.out hltk)
      have Hs1 := Lib.hid (show (copied (soL rs) n k).set k (soTo rs k n) = copied (soL rs) n (k + 1) by rw [← copied_succ Hol.out hltk, soL_get (by rw [Hlen.out]; exact hltk), Hlen.out])
      have Hcl := Lib.hid (copied_len Hol.out (show k ≤ n by omega))
      obtain ⟨hg0, hg1⟩ := spS_get rs (i := k) (by rw [Hlen.out]; exact hltk)
      have hc0 := hSr.cell (k := k * 2) (by rw [HSl.out]; omega)
      have hc1 := hSr.cell (k := k * 2 + 1) (by rw [HSl.out]; omega)
      rw [hg0] at hc0
      rw [hg1] at hc1
      clear hg0 hg1
      have Hy := Lib.hid (fun (j : Nat) hh => soTo_yes (rs := rs) (i := k) (k := j) hh)
      have Hn := Lib.hid (fun (j : Nat) hh => soTo_no (rs := rs) (i := k) (k := j) hh)
      generalize sF rs k = fk at *
      generalize sL rs k = lk at *
      go_wp2_with fail
      have hAq := hAr.alloc (.cells #[.int .i64 fk, .int .i64 lk] 69)
      have hUq := hU.alloc (.cells #[.int .i64 fk, .int .i64 lk] 69)
      have hSq := hSr.alloc (.cells #[.int .i64 fk, .int .i64 lk] 69)
      have hbq := heap_alloc_new wr (.cells #[.int .i64 fk, .int .i64 lk] 69)
      have Zq := Lib.hid (show (wr.alloc (.cells #[.int .i64 fk, .int .i64 lk] 69)).heap.size = wr.heap.size + 1 by simp)
      obtain ⟨W2, hW2⟩ : ∃ W2, wr.alloc (.cells #[.int .i64 fk, .int .i64 lk] 69) = W2 := ⟨_, rfl⟩
      rw [hW2] at hAq hUq hSq hbq Zq ⊢
      have hwb : w.heap.size < wr.heap.size := hAr.lt
      have hbb : b < wr.heap.size := hSr.lt
      clear hW2 hAr hU hSr hc0 hc1
      go_loopw [20] (fun i wy => ∃ j : Nat, j ≤ n ∧ i = .int .i64 j ∧ Arr wy w.heap.size 59 ((copied (soL rs) n k).set k (soTo rs k j)) ∧ Upd (fun q => q = w.heap.size) W2 wy) (fun i _ => n - (intOf i).toNat)
      case atStart => exact ⟨0, by omega, rfl, by unfold soTo; rw [Hs0.out]; exact hAq, Upd.refl _ _⟩
      case round =>
        obtain ⟨j, hj, rfl, hAy, hUy⟩ := hrel
        rename World => wy
        have zy := hUy.size
        rw [Zq.out] at zy
        by_cases hlj : j < n
        · have hSy := hSq.upd hUy (by omega)
          have hby := (hUy.block wr.heap.size (by rw [Zq.out]; omega) (by omega)).trans hbq
          have hcy := hAy.cell (k := k) (by rw [List.length_set, Hcl.out]; exact hltk)
          rw [show ((copied (soL rs) n k).set k (soTo rs k j))[k]?.getD 0 = soTo rs k j by rw [List.getElem?_set_self (by rw [Hcl.out]; exact hltk)]; rfl] at hcy
          have hfy := hAy.frozen k
          obtain ⟨hg0, hg1⟩ := spS_get rs (i := j) (by rw [Hlen.out]; exact hlj)
          have hc0 := hSy.cell (k := j * 2) (by rw [HSl.out]; omega)
          have hc1 := hSy.cell (k := j * 2 + 1) (by rw [HSl.out]; omega)
          rw [hg0] at hc0
          rw [hg1] at hc1
          clear hg0 hg1
          have HY := Lib.hid (Hy.out j)
          have HN := Lib.hid (Hn.out j)
          have hbd := soTo_bd rs k j
          have hpj := powI_le6 (n := (j : Int)) (by omega)
          have hpp := powI_pos (j : Int)
          generalize sF rs j = fj at *
          generalize sL rs j = lj at *
          have hbz : (wy.alloc (.cells #[.int .i64 fj, .int .i64 lj] 69)).heap[wr.heap.size]? = some (.cells #[.int .i64 fk, .int .i64 lk] 69 (0, 0)) := (Below.heap_alloc _ _ _ (by omega)).trans hby
          have h50 : (wy.alloc (.cells #[.int .i64 fj, .int .i64 lj] 69)).cell? ⟨wr.heap.size, 0, none⟩ = some (.int .i64 fk) := by rw [cell_of_row _ _ 0 _ _ (0, 0) hbz]; rfl
          have h51 : (wy.alloc (.cells #[.int .i64 fj, .int .i64 lj] 69)).cell? ⟨wr.heap.size, 1, none⟩ = some (.int .i64 lk) := by rw [cell_of_row _ _ 1 _ _ (0, 0) hbz]; rfl
          go_wp2_with fail
          refine (isBehind_any fj lj fk lk _).mono ?_
          rintro e w6 ⟨rfl, hU6⟩
          have hUa : Upd (fun _ => False) wy w6 := ((Upd.refl _ wy).alloc _).trans hU6
          have hA6 := hAy.upd hUa (fun e => e)
          have hU7 := hUy.trans' hUa (fun i hi e => e.elim)
          have hc6 := hUa.cell hcy (fun e => e)
          have z6 := hUa.size
          clear hUa hU6 hAy hUy hcy hbz h50 h51 hc0 hc1 hSy hby hbq hSq hfy
          have hor : ((orI (soTo rs k j) (powI (j : Int))) : Int) = orI (soTo rs k j) (powI (j : Int)) := rfl
          generalize hso : soTo rs k j = so at *
          have Hso := Lib.hid hso
          clear hso hor
          by_cases hge : lk < fj
          · have H1 := Lib.hid (show soTo rs k (j + 1) = orI so (powI (j : Int)) by rw [HY.out hge])
            rw [decide_eq_true hge]
            go_wp2_with fail
            refine (with_any so (j : Int) w6 (by omega) (by omega) (by omega) (by omega)).mono ?_
            rintro e w9 ⟨rfl, rfl⟩
            have hf6 := hA6.frozen k
            go_wp2_with fail
            go_roundw
            case rel => exact ⟨j + 1, by omega, by go_num, by rw [H1.out, ← List.set_set]; exact hA6.set k _, hU7.setCell (p := ⟨w.heap.size, k, none⟩) (.inr rfl) _⟩
            case measure => simp [intOf]; omega
          · have H1 := Lib.hid (show soTo rs k (j + 1) = so by rw [HN.out (by omega)])
            rw [decide_eq_false hge]
            go_wp2_with fail
            go_roundw
            case rel => exact ⟨j + 1, by omega, by go_num, by rw [H1.out]; exact hA6, hU7⟩
            case measure => simp [intOf]; omega
        · obtain rfl : j = n := by omega
          rw [Hs1.out] at hAy
          go_wp2_with fail
          go_roundw
          case rel => exact ⟨k + 1, by omega, by go_num, hAy, hUq.trans' hUy (fun i hi e => e)⟩
          case measure => simp [intOf]; omega
    · obtain rfl : k = n := by omega
      have Hfull := Lib.hid (copied_full Hol.out)
      rw [Hfull.out] at hAr
      go_wp2
      go_ret
      exact ⟨rfl, hAr, ((hU0.mono fun _ _ e => e.elim).trans' hU (fun i hi e => e)).toBelow (R := fun q => q = w.heap.size) (fun k e => by omega) (Nat.le_refl _)⟩

set_option maxRecDepth 100000 in
set_option maxHeartbeats 2000000 in
theorem SpansOrder_any (A : Option Addr) (n c : Nat) (rs : List (List Int)) (w : World) (h : IntsS w w.heap.size A n rs) (hn : n ≤ 1048576) (hr : ∀ r ∈ rs, r.length ≤ 1048576) :
    Calls Tryz.prog 14 #[.slice A n c] w (GivesAtV w (soR rs) (soB rs)) := by
  have Hlen := Lib.hid h.len
  go_enter Tryz.func14, Tryz.ntmps14
  go_wp2_with fail
  refine (readSpans_any A n c rs w h hn hr).mono ?_
  rintro e w1 ⟨hB1, (⟨hso, rfl⟩ | ⟨hso, b, rfl, hb, hS⟩)⟩
  · have Hso := Lib.hid hso
    have Hr := Lib.hid (show soR rs = [] by unfold soR; rw [hso]; rfl)
    rw [Hso.out]
    clear hso
    go_wp2_with fail
    go_ret2
    exact ⟨none, 0, 0, by rw [Hso.out]; rfl, by rw [Hr.out]; exact RowV.nil _ _ _ _, hB1⟩
  · have Hso := Lib.hid hso
    have Hr := Lib.hid (show soR rs = soL rs by unfold soR; rw [hso]; rfl)
    have hn6 : n ≤ 6 := by
      unfold soB at hso
      rw [Bool.and_eq_true, decide_eq_true_eq] at hso
      rw [← Hlen.out]; exact hso.2
    have Hol := Lib.hid (show (soL rs).length = n by rw [soL_len]; exact Hlen.out)
    rw [Hso.out]
    clear hso
    have z1 := hB1.size
    go_wp2_with fail
    refine (orderOfSpans_any b n n rs w1 hS Hlen.out hn6).mono ?_
    rintro e w2 ⟨rfl, hO2, hB2⟩
    have z2 := hB2.size
    have C2 := hB1.trans (hB2.mono z1)
    go_wp2_with fail
    refine (list_any _ n n (soL rs) w2 (hO2.ints' hO2.lt Hol.out) (by omega)).mono ?_
    rintro e w3 ⟨rfl, hL3, hB3⟩
    go_wp2_with fail
    go_ret2
    exact ⟨some ⟨w2.heap.size, 0, none⟩, n, n, by rw [Hso.out]; rfl, by rw [Hr.out]; exact RowV.ofA hL3 Hol.out (by omega) hL3.lt, C2.trans (hB3.mono (by omega))⟩
end Go.Proofs.YtdcdddmjffgibaaGreat

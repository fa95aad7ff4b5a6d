/- Texts that several claims share, one behind the other. -/
import Derived.Test.YtghogabmkbadjabGb
import Derived.Test.YtghogabmkbadjabGa
import Derived.Maps.Own
set_option linter.unusedVariables false
set_option linter.unusedSimpArgs false
/- The program's lineup: its making, what is free, all items; an item less. -/
namespace Go.Proofs.Ytghogabmkbadjab
open Go.RowKit Go.Shelf

/-- A lineup: the order turned round in block b, the map in block m. -/
def lineV (b m n : Nat) : Value := .agg #[.slice (some ⟨b, 0, none⟩) n n, .map (some m)]

set_option maxRecDepth 100000 in
set_option maxHeartbeats 4000000 in
theorem lineup_any (A : Option Addr) (n c : Nat) (zs : List Int) (hv : Sets zs) (w : World) (h : Ints w w.heap.size A n zs) :
    Calls Try.prog 88 #[.slice A n c] w fun e w' => ∃ b m, e = .returned (lineV b m n) ∧ Arr w' b 76 (du zs) ∧ w'.heap[m]? = some (.map #[] 0) ∧ w.heap.size ≤ b ∧ w.heap.size ≤ m ∧ b ≠ m ∧ Below w.heap.size w w' := by
  have hlen := Lib.hid h.len
  have Hdu := Lib.hid (show downP n (pairsL zs) = du zs by unfold du; rw [hlen.out])
  have hmm := @run_makeMap Try.prog
  go_enter Try.func88, Try.ntmps88
  go_wp2_with fail
  refine (dual_any A n c zs hv _ (h.to ((Below.refl w.heap.size w).alloc (Nat.le_refl _) _) (Nat.le_refl _) (by simp))).mono ?_
  rintro e w2 ⟨rfl, hA2, hB2⟩
  rw [Hdu.out] at hA2
  have hh1 : (w.alloc (.cells #[.slice none 0 0, .map none] 74)).heap[w.heap.size]? = some (.cells #[.slice none 0 0, .map none] 74 (0, 0)) := heap_alloc_new w _
  have hs1 : (w.alloc (.cells #[.slice none 0 0, .map none] 74)).heap.size = w.heap.size + 1 := by simp
  have hC1 : Below w.heap.size w (w.alloc (.cells #[.slice none 0 0, .map none] 74)) := (Below.refl w.heap.size w).alloc (Nat.le_refl _) _
  rw [hs1] at hA2 hB2
  have z2 := hB2.size
  rw [hs1] at z2
  have hh2 := (hB2.block w.heap.size (by omega)).trans hh1
  have hC2 := hC1.trans (hB2.mono (by omega))
  have hh3 := (Below.heap_alloc w2 (.map #[] 0) w.heap.size (by omega)).trans hh2
  have hA3 := hA2.alloc (.map #[] 0)
  have hm3 : (w2.alloc (.map #[] 0)).heap[w2.heap.size]? = some (.map #[] 0) := heap_alloc_new w2 _
  have hC3 := hC2.alloc (by omega) (.map #[] 0)
  have hs3 : (w2.alloc (.map #[] 0)).heap.size = w2.heap.size + 1 := by simp
  have hc0 : (w2.alloc (.map #[] 0)).cell? ⟨w.heap.size, 0, none⟩ = some (.slice none 0 0) := by rw [cell_of_row _ _ 0 _ _ (0, 0) hh3]; rfl
  have hc1 : (w2.alloc (.map #[] 0)).cell? ⟨w.heap.size, 1, none⟩ = some (.map none) := by rw [cell_of_row _ _ 1 _ _ (0, 0) hh3]; rfl
  have hf0 : (w2.alloc (.map #[] 0)).frozen? ⟨w.heap.size, 0, none⟩ = false := frozen_of_row _ _ 0 _ _ hh3
  have hf1 : (w2.alloc (.map #[] 0)).frozen? ⟨w.heap.size, 1, none⟩ = false := frozen_of_row _ _ 1 _ _ hh3
  have hl2 := hA2.lt
  clear hh1 hh2 hC1 hC2 hB2 hA2 h
  obtain ⟨W4, hW4⟩ : ∃ W4, ((w2.alloc (.map #[] 0)).setCell ⟨w.heap.size, 0, none⟩ (.slice (some ⟨w.heap.size + 1, 0, none⟩) n n)).setCell ⟨w.heap.size, 1, none⟩ (.map (some w2.heap.size)) = W4 := ⟨_, rfl⟩
  have kh : W4.heap[w.heap.size]? = some (.cells #[.slice (some ⟨w.heap.size + 1, 0, none⟩) n n, .map (some w2.heap.size)] 74 (0, 0)) := by
    rw [← hW4]
    simp [World.setCell, Array.getElem?_modify, hh3]
  have kA : Arr W4 (w.heap.size + 1) 76 (du zs) := by rw [← hW4]; exact (hA3.far (by simp) _).far (by simp) _
  have km : W4.heap[w2.heap.size]? = some (.map #[] 0) := by
    rw [← hW4, Below.heap_setCell _ _ _ _ (by simp; omega), Below.heap_setCell _ _ _ _ (by simp; omega)]
    exact hm3
  have kC : Below w.heap.size w W4 := by rw [← hW4]; exact (hC3.setCell (p := ⟨w.heap.size, 0, none⟩) (Nat.le_refl _) _).setCell (p := ⟨w.heap.size, 1, none⟩) (Nat.le_refl _) _
  go_wp2
  refine bodyPost_ret (v := lineV (w.heap.size + 1) w2.heap.size n) (results_cell_row rfl _ _ w.heap.size _ _ (0, 0) _ rfl kh Try.underlying74 rfl (by kernel_rfl)) rfl ?_
  exact ⟨w.heap.size + 1, w2.heap.size, rfl, kA, km, by omega, by omega, by omega, kC⟩

theorem without_any (s j : Int) (w : World) (h0 : 0 ≤ s) (h1 : s < 64) (j0 : 0 ≤ j) (j1 : j ≤ 6) :
    Calls Try.prog 134 #[.int .i64 s, .int .i64 j] w fun e w' => e = .returned (.int .i64 (lessI s (powI j))) ∧ w = w' := by
  go_enter Try.func134, Try.ntmps134
  go_wp2
  go_ret
  have hp := powI_le6 j1
  have hq := powI_pos j
  exact ⟨ret_int (by
    have : wrap64 (2 ^ j.toNat) = powI j := IntWalk.wrap64_in _ ⟨by unfold powI at hq; omega, by unfold powI at hp; omega⟩
    rw [this]; exact bits_less h0 (by omega) (by omega) (by omega)), rfl⟩
theorem oall_any (A : Option Addr) (n c : Nat) (w : World) (h1 : n ≤ 6) :
    Calls Try.prog 120 #[.slice A n c] w fun e w' => e = .returned (.int .i64 (powI n - 1)) ∧ w = w' := by
  have hp := powI_le6 (n := (n : Int)) (by omega)
  have hq := powI_pos (n : Int)
  go_enter Try.func120, Try.ntmps120
  go_wp2
  go_ret
  exact ⟨ret_int (by
    have : wrap64 (2 ^ ((n : Int)).toNat) = powI n := IntWalk.wrap64_in _ ⟨by unfold powI at hq; omega, by unfold powI at hp; omega⟩
    simp only [Int.toNat_natCast] at this
    rw [this]; exact IntWalk.wrap64_in _ ⟨by omega, by omega⟩), rfl⟩
theorem lall2_any (b m n : Nat) (w : World) (h1 : n ≤ 6) :
    Calls Try.prog 131 #[lineV b m n] w fun e w' => e = .returned (.int .i64 (powI n - 1)) ∧ Below w.heap.size w w' := by
  unfold lineV
  go_enter Try.func131, Try.ntmps131
  go_wp2_with fail
  refine (oall_any _ _ _ _ h1).mono ?_
  rintro e w' ⟨rfl, rfl⟩
  go_wp2_with fail
  go_ret
  exact ⟨rfl, (Below.refl w.heap.size w).alloc (Nat.le_refl _) _⟩
theorem free_any (b m n : Nat) (zs : List Int) (s : Int) (hv : Sets zs) (w : World) (hA : Ints w w.heap.size (some ⟨b, 0, none⟩) n (du zs)) (h0 : 0 ≤ s) (h1 : s < powI n) :
    Calls Try.prog 133 #[lineV b m n, .int .i64 s] w fun e w' => e = .returned (.int .i64 (topsTo (du zs) s n)) ∧ Below w.heap.size w w' := by
  unfold lineV
  go_enter Try.func133, Try.ntmps133
  go_wp2_with fail
  refine (tops_any _ n _ (du zs) s (du_sets hv) _ (hA.to ((Below.refl w.heap.size w).alloc (Nat.le_refl _) _) (Nat.le_refl _) (by simp)) h0 h1).mono ?_
  rintro e w' ⟨rfl, hB⟩
  go_wp2_with fail
  go_ret
  exact ⟨rfl, ((Below.refl w.heap.size w).alloc (Nat.le_refl _) _).trans (hB.mono (by simp))⟩
end Go.Proofs.Ytghogabmkbadjab

/- IsLine: the program's. -/
namespace Go.Proofs.Ytghogabmkbadjab
open Go.RowKit Go.Shelf

set_option maxRecDepth 100000 in
set_option maxHeartbeats 4000000 in
theorem lisLine_any (b m n : Nat) (A' : Option Addr) (n' c' : Nat) (zs ls : List Int) (hvo : VoP zs) (hlen0 : zs.length = n) (w : World) (hA : Ints w w.heap.size (some ⟨b, 0, none⟩) n (du zs)) (h' : Ints w w.heap.size A' n' ls) (hbig' : n' ≤ 1152921504606846976) :
    Calls Try.prog 89 #[lineV b m n, .slice A' n' c'] w fun e w' => e = .returned (.bool (lineB zs ls)) ∧ Below w.heap.size w w' := by
  have hlen' := Lib.hid h'.len
  have hlen := Lib.hid hlen0
  have hn6 : n ≤ 6 := by have := hvo.1; rw [hlen0] at this; exact this
  have hp64 := powI_le6 (n := (n : Int)) (by omega)
  clear hlen0
  have hh1 : (w.alloc (.cells #[.slice (some ⟨b, 0, none⟩) n n, .map (some m)] 74)).heap[w.heap.size]? = some (.cells #[.slice (some ⟨b, 0, none⟩) n n, .map (some m)] 74 (0, 0)) := heap_alloc_new w _
  have hC1 : Below w.heap.size w (w.alloc (.cells #[.slice (some ⟨b, 0, none⟩) n n, .map (some m)] 74)) := (Below.refl w.heap.size w).alloc (Nat.le_refl _) _
  have hs1 : (w.alloc (.cells #[.slice (some ⟨b, 0, none⟩) n n, .map (some m)] 74)).heap.size = w.heap.size + 1 := by simp
  have key : ∀ wr, Below (w.heap.size + 1) (w.alloc (.cells #[.slice (some ⟨b, 0, none⟩) n n, .map (some m)] 74)) wr → w.heap.size + 1 ≤ wr.heap.size ∧ wr.heap[w.heap.size]? = some (.cells #[.slice (some ⟨b, 0, none⟩) n n, .map (some m)] 74 (0, 0)) ∧ Ints wr wr.heap.size (some ⟨b, 0, none⟩) n (du zs) ∧ Ints wr wr.heap.size A' n' ls ∧ Below w.heap.size w wr := fun wr hB => by
    have hz := hB.size
    rw [hs1] at hz
    have hB0 := hC1.trans (hB.mono (by omega))
    exact ⟨hz, (hB.block _ (by omega)).trans hh1, hA.to hB0 (Nat.le_refl _) hB0.size, h'.to hB0 (Nat.le_refl _) hB0.size, hB0⟩
  unfold lineV
  by_cases hnl : n' = n
  · subst hnl
    have Hl := Lib.hid (show n' = zs.length from hlen.out.symm)
    go_enter Try.func89, Try.ntmps89
    go_wp2_with fail
    refine (lall2_any b m n' _ hn6).mono ?_
    rintro e w2 ⟨rfl, hB2⟩
    rw [hs1] at hB2
    clear hh1 hC1 hs1
    go_wp2_with fail
    go_loopw [5, 18] (fun s i wr => ∃ k : Nat, k ≤ n' ∧ i = .int .i64 k ∧ s = .int .i64 (leftTo n' ls k) ∧ (∀ a, a < k → stepOk zs ls a = true) ∧ Below (w.heap.size + 1) (w.alloc (.cells #[.slice (some ⟨b, 0, none⟩) n' n', .map (some m)] 74)) wr) (fun _ i _ => n' - (intOf i).toNat)
    case atStart => exact ⟨0, by omega, rfl, rfl, fun a ha => by omega, hB2⟩
    case round =>
      obtain ⟨k, hk, rfl, rfl, hok, hBr⟩ := hrel
      have Hok := Lib.hid hok
      obtain ⟨zr, hhr, hDr, hLr, hCr⟩ := key wr hBr
      have hlb := leftTo_bd (n := n') (ls := ls) k
      by_cases hlt : k < n'
      · obtain ⟨b2, off2, rfl, hb2, hc2⟩ := hLr.at_ hlt
        have hck := hc2 k hlt
        have hf0 : wr.cell? ⟨w.heap.size, 0, none⟩ = some (.slice (some ⟨b, 0, none⟩) n' n') := by rw [cell_of_row _ _ 0 _ _ (0, 0) hhr]; rfl
        have hf1 : wr.cell? ⟨w.heap.size, 1, none⟩ = some (.map (some m)) := by rw [cell_of_row _ _ 1 _ _ (0, 0) hhr]; rfl
        have Hs := Lib.hid (show leftTo n' ls (k + 1) = lessI (leftTo n' ls k) (powI (ls[k]?.getD 0)) from rfl)
        have hstep := fun (a : Nat) ha hn => step_tops (zs := zs) (ls := ls) hvo (k := k) hok (a := a) ha hn
        rw [hlen.out] at hstep
        have hst : stepOk zs ls k = true → 0 ≤ ls[k]?.getD 0 ∧ ls[k]?.getD 0 < n' := fun e => by have := stepOk_in e; rw [hlen.out] at this; exact this
        have Hno := Lib.hid (fun e : stepOk zs ls k = false => lineB_no (zs := zs) hlen'.out hlt e)
        clear hc2 hok hLr
        cases hin : inB (ls[k]?.getD 0) 0 ((n' : Int) - 1)
        · have Ht := Lib.hid (Hno.out (by
            unfold stepOk
            rw [hlen.out, hin]
            rfl))
          have Hin := Lib.hid hin
          clear hin hst hstep
          generalize ls[k]?.getD 0 = x at *
          go_wp2_with fail
          refine (isItemOf_any _ x wr).mono ?_
          rw [Hin.out]
          rintro e w' ⟨rfl, rfl⟩
          go_wp2_with fail
          go_ret
          exact ⟨ret_bool Ht.out.symm, hCr⟩
        · have Hin := Lib.hid hin
          have hx0 : (0 : Int) ≤ ls[k]?.getD 0 ∧ ls[k]?.getD 0 ≤ (n' : Int) - 1 := by simpa [inB] using hin
          have hx : 0 ≤ ls[k]?.getD 0 ∧ ls[k]?.getD 0 < n' := by omega
          clear hin hst hx0
          obtain ⟨a, ha⟩ := Int.eq_ofNat_of_zero_le hx.1
          have Hst := Lib.hid (hstep a ha (by omega))
          rw [ha] at hck hx Hin Hs
          clear hstep
          have htb := topsTo_bd (du zs) (leftTo n' ls k) n'
          have Htt := Lib.hid (show bitB (topsTo (du zs) (leftTo n' ls k) n') (a : Int) = stepOk zs ls k from Hst.out)
          cases hok : stepOk zs ls k
          · have Ht := Lib.hid (Hno.out hok)
            rw [hok] at Htt
            clear hok ha
            go_wp2_with fail
            refine (isItemOf_any _ (a : Int) wr).mono ?_
            rw [Hin.out]
            rintro e w' ⟨rfl, rfl⟩
            go_wp2_with fail
            refine (free_any b m n' zs (leftTo n' ls k) hvo.sets _ hDr hlb.1 hlb.2).mono ?_
            rintro e w3 ⟨rfl, hB3⟩
            go_wp2_with fail
            refine (has_any _ (a : Int) w3 htb.1 (by omega) (by omega) (by omega)).mono ?_
            rw [Htt.out]
            rintro e w' ⟨rfl, rfl⟩
            go_wp2_with fail
            go_ret
            exact ⟨ret_bool Ht.out.symm, hCr.trans (hB3.mono hCr.size)⟩
          · have Hall := Lib.hid (all_snoc Hok.out hok)
            rw [hok] at Htt
            clear hok ha
            go_wp2_with fail
            refine (isItemOf_any _ (a : Int) wr).mono ?_
            rw [Hin.out]
            rintro e w' ⟨rfl, rfl⟩
            go_wp2_with fail
            refine (free_any b m n' zs (leftTo n' ls k) hvo.sets _ hDr hlb.1 hlb.2).mono ?_
            rintro e w3 ⟨rfl, hB3⟩
            go_wp2_with fail
            refine (has_any _ (a : Int) w3 htb.1 (by omega) (by omega) (by omega)).mono ?_
            rw [Htt.out]
            rintro e w' ⟨rfl, rfl⟩
            go_wp2_with fail
            refine (without_any _ (a : Int) w3 hlb.1 (by omega) (by omega) (by omega)).mono ?_
            rintro e w' ⟨rfl, rfl⟩
            go_wp2_with fail
            go_roundw
            case rel => exact ⟨k + 1, by omega, by go_num, by rw [Hs.out], Hall.out, hBr.trans (hB3.mono (by omega))⟩
            case measure => simp [intOf]; omega
      · obtain rfl : k = n' := by omega
        have Ht := Lib.hid (lineB_yes (zs := zs) hlen'.out Hl.out Hok.out)
        go_wp2_with fail
        go_ret
        exact ⟨ret_bool Ht.out.symm, hCr⟩
  · have Ht := Lib.hid (lineB_len (zs := zs) hlen'.out (by rw [hlen.out]; exact hnl))
    have hne : ((n' : Int) != (n : Int)) = true := by simp; omega
    clear hnl
    go_enter Try.func89, Try.ntmps89
    go_wp2
    go_ret
    exact ⟨ret_bool Ht.out.symm, hC1⟩

set_option maxHeartbeats 1000000 in
theorem IsLine_any (A : Option Addr) (n c : Nat) (zs : List Int) (A' : Option Addr) (n' c' : Nat) (ls : List Int) (w : World) (h : Ints w w.heap.size A n zs) (h' : Ints w w.heap.size A' n' ls) (hbig : n ≤ 1152921504606846976) (hbig' : n' ≤ 1152921504606846976) :
    Calls Try.prog 28 #[.slice A n c, .slice A' n' c'] w fun e w' => e = .returned (.bool (isLineR zs ls)) ∧ Below w.heap.size w w' := by
  have hlen := Lib.hid h.len
  cases hv : vo zs
  · have Ht := Lib.hid (show isLineR zs ls = false by unfold isLineR; rw [hv]; rfl)
    have Hv := Lib.hid hv
    clear hv
    go_enter Try.func28, Try.ntmps28
    go_wp2_with fail
    refine (readOrder_any _ _ _ zs _ h hbig).mono ?_
    rintro e w' ⟨hB, (⟨hv, b, rfl, _, _⟩ | ⟨_, rfl⟩)⟩
    · rw [Hv.out] at hv; cases hv
    · go_wp2_with fail
      go_ret
      exact ⟨ret_bool Ht.out.symm, hB⟩
  · have hvo : VoP zs := by simpa [vo] using hv
    have Ht := Lib.hid (show isLineR zs ls = lineB zs ls by unfold isLineR; rw [hv]; rfl)
    have Hv := Lib.hid hv
    clear hv
    go_enter Try.func28, Try.ntmps28
    go_wp2_with fail
    refine (readOrder_any _ _ _ zs _ h hbig).mono ?_
    rintro e w1 ⟨hB, (⟨_, b, rfl, hb, hAr⟩ | ⟨hv, _⟩)⟩
    · have i1 := h'.to hB (Nat.le_refl _) hB.size
      go_wp2_with fail
      refine (lineup_any _ n _ zs hvo.sets _ (hAr.ints' hAr.lt hlen.out)).mono ?_
      rintro e w2 ⟨bd, bm, rfl, hA2, -, hbd, -, -, hB2⟩
      have C2 := hB.trans (hB2.mono hB.size)
      go_wp2_with fail
      refine (lisLine_any bd bm n A' n' c' zs ls hvo hlen.out w2 (hA2.ints' hA2.lt (by rw [du_len, hlen.out])) (i1.to hB2 (Nat.le_refl _) hB2.size) hbig').mono ?_
      rintro e w3 ⟨rfl, hB3⟩
      go_wp2_with fail
      go_ret
      exact ⟨ret_bool Ht.out.symm, C2.trans (hB3.mono C2.size)⟩
    · rw [Hv.out] at hv; cases hv
end Go.Proofs.Ytghogabmkbadjab

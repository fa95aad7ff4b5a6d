/- IsLine: the program's. -/
import Derived.Test.YtghogabmkbadjaaLineI
set_option linter.unusedVariables false
set_option linter.unusedSimpArgs false
namespace Go.Proofs.Ytghogabmkbadjaa
open Go.RowKit Go.Shelf

set_option maxRecDepth 100000 in
set_option maxHeartbeats 4000000 in
theorem lisLine_any (b m n : Nat) (A' : Option Addr) (n' c' : Nat) (zs ls : List Int) (hvo : VoP zs) (hlen0 : zs.length = n) (w : World) (hA : Ints w w.heap.size (some ⟨b, 0, none⟩) n (du zs)) (h' : Ints w w.heap.size A' n' ls) (hbig' : n' ≤ 1152921504606846976) :
    Calls Try.prog 75 #[lineV b m n, .slice A' n' c'] w fun e w' => e = .returned (.bool (lineB zs ls)) ∧ Below w.heap.size w w' := by
  have hlen' := Lib.hid h'.len
  have hlen := Lib.hid hlen0
  have hn6 : n ≤ 6 := by have := hvo.1; rw [hlen0] at this; exact this
  have hp64 := powI_le6 (n := (n : Int)) (by omega)
  clear hlen0
  have hh1 : (w.alloc (.cells #[.slice (some ⟨b, 0, none⟩) n n, .map (some m)] 68)).heap[w.heap.size]? = some (.cells #[.slice (some ⟨b, 0, none⟩) n n, .map (some m)] 68 (0, 0)) := heap_alloc_new w _
  have hC1 : Below w.heap.size w (w.alloc (.cells #[.slice (some ⟨b, 0, none⟩) n n, .map (some m)] 68)) := (Below.refl w.heap.size w).alloc (Nat.le_refl _) _
  have hs1 : (w.alloc (.cells #[.slice (some ⟨b, 0, none⟩) n n, .map (some m)] 68)).heap.size = w.heap.size + 1 := by simp
  have key : ∀ wr, Below (w.heap.size + 1) (w.alloc (.cells #[.slice (some ⟨b, 0, none⟩) n n, .map (some m)] 68)) wr → w.heap.size + 1 ≤ wr.heap.size ∧ wr.heap[w.heap.size]? = some (.cells #[.slice (some ⟨b, 0, none⟩) n n, .map (some m)] 68 (0, 0)) ∧ Ints wr wr.heap.size (some ⟨b, 0, none⟩) n (du zs) ∧ Ints wr wr.heap.size A' n' ls ∧ Below w.heap.size w wr := fun wr hB => by
    have hz := hB.size
    rw [hs1] at hz
    have hB0 := hC1.trans (hB.mono (by omega))
    exact ⟨hz, (hB.block _ (by omega)).trans hh1, hA.to hB0 (Nat.le_refl _) hB0.size, h'.to hB0 (Nat.le_refl _) hB0.size, hB0⟩
  unfold lineV
  by_cases hnl : n' = n
  · subst hnl
    have Hl := Lib.hid (show n' = zs.length from hlen.out.symm)
    go_enter Try.func75, Try.ntmps75
    go_wp2_with fail
    refine (lall2_any b m n' _ hn6).mono ?_
    rintro e w2 ⟨rfl, hB2⟩
    rw [hs1] at hB2
    clear hh1 hC1 hs1
    go_wp2_with fail
    go_loopw [5, 18] (fun s i wr => ∃ k : Nat, k ≤ n' ∧ i = .int .i64 k ∧ s = .int .i64 (leftTo n' ls k) ∧ (∀ a, a < k → stepOk zs ls a = true) ∧ Below (w.heap.size + 1) (w.alloc (.cells #[.slice (some ⟨b, 0, none⟩) n' n', .map (some m)] 68)) wr) (fun _ i _ => n' - (intOf i).toNat)
    case atStart => exact ⟨0, by omega, rfl, rfl, fun a ha => by omega, hB2⟩
    case round =>
      obtain ⟨k, hk, rfl, rfl, hok, hBr⟩ := hrel
      have Hok := Lib.hid hok
      obtain ⟨zr, hhr, hDr, hLr, hCr⟩ := key wr hBr
      have hlb := leftTo_bd (n := n') (ls := ls) k
      by_cases hlt : k < n'
      · obtain ⟨b2, off2, rfl, hb2, hc2⟩ := hLr.at_ hlt
        have hck := hc2 k hlt
        have hf0 : wr.cell? ⟨w.heap.size, 0, none⟩ = some (.slice (some ⟨b, 0, none⟩) n' n') := by rw [cell_of_row _ _ 0 _ _ (0, 0) hhr]; rfl
        have hf1 : wr.cell? ⟨w.heap.size, 1, none⟩ = some (.map (some m)) := by rw [cell_of_row _ _ 1 _ _ (0, 0) hhr]; rfl
        have Hs := Lib.hid (show leftTo n' ls (k + 1) = lessI (leftTo n' ls k) (powI (ls[k]?.getD 0)) from rfl)
        have hstep := fun (a : Nat) ha hn => step_tops (zs := zs) (ls := ls) hvo (k := k) hok (a := a) ha hn
        rw [hlen.out] at hstep
        have hst : stepOk zs ls k = true → 0 ≤ ls[k]?.getD 0 ∧ ls[k]?.getD 0 < n' := fun e => by have := stepOk_in e; rw [hlen.out] at this; exact this
        have Hno := Lib.hid (fun e : stepOk zs ls k = false => lineB_no (zs := zs) hlen'.out hlt e)
        clear hc2 hok hLr
        cases hin : inB (ls[k]?.getD 0) 0 ((n' : Int) - 1)
        · have Ht := Lib.hid (Hno.out (by
            unfold stepOk
            rw [hlen.out, hin]
            rfl))
          have Hin := Lib.hid hin
          clear hin hst hstep
          generalize ls[k]?.getD 0 = x at *
          go_wp2_with fail
          refine (isItemOf_any _ x wr).mono ?_
          rw [Hin.out]
          rintro e w' ⟨rfl, rfl⟩
          go_wp2_with fail
          go_ret
          exact ⟨ret_bool Ht.out.symm, hCr⟩
        · have Hin := Lib.hid hin
          have hx0 : (0 : Int) ≤ ls[k]?.getD 0 ∧ ls[k]?.getD 0 ≤ (n' : Int) - 1 := by simpa [inB] using hin
          have hx : 0 ≤ ls[k]?.getD 0 ∧ ls[k]?.getD 0 < n' := by omega
          clear hin hst hx0
          obtain ⟨a, ha⟩ := Int.eq_ofNat_of_zero_le hx.1
          have Hst := Lib.hid (hstep a ha (by omega))
          rw [ha] at hck hx Hin Hs
          clear hstep
          have htb := topsTo_bd (du zs) (leftTo n' ls k) n'
          have Htt := Lib.hid (show bitB (topsTo (du zs) (leftTo n' ls k) n') (a : Int) = stepOk zs ls k from Hst.out)
          cases hok : stepOk zs ls k
          · have Ht := Lib.hid (Hno.out hok)
            rw [hok] at Htt
            clear hok ha
            go_wp2_with fail
            refine (isItemOf_any _ (a : Int) wr).mono ?_
            rw [Hin.out]
            rintro e w' ⟨rfl, rfl⟩
            go_wp2_with fail
            refine (free_any b m n' zs (leftTo n' ls k) hvo.sets _ hDr hlb.1 hlb.2).mono ?_
            rintro e w3 ⟨rfl, hB3⟩
            go_wp2_with fail
            refine (has_any _ (a : Int) w3 htb.1 (by omega) (by omega) (by omega)).mono ?_
            rw [Htt.out]
            rintro e w' ⟨rfl, rfl⟩
            go_wp2_with fail
            go_ret
            exact ⟨ret_bool Ht.out.symm, hCr.trans (hB3.mono hCr.size)⟩
          · have Hall := Lib.hid (all_snoc Hok.out hok)
            rw [hok] at Htt
            clear hok ha
            go_wp2_with fail
            refine (isItemOf_any _ (a : Int) wr).mono ?_
            rw [Hin.out]
            rintro e w' ⟨rfl, rfl⟩
            go_wp2_with fail
            refine (free_any b m n' zs (leftTo n' ls k) hvo.sets _ hDr hlb.1 hlb.2).mono ?_
            rintro e w3 ⟨rfl, hB3⟩
            go_wp2_with fail
            refine (has_any _ (a : Int) w3 htb.1 (by omega) (by omega) (by omega)).mono ?_
            rw [Htt.out]
            rintro e w' ⟨rfl, rfl⟩
            go_wp2_with fail
            refine (without_any _ (a : Int) w3 hlb.1 (by omega) (by omega) (by omega)).mono ?_
            rintro e w' ⟨rfl, rfl⟩
            go_wp2_with fail
            go_roundw
            case rel => exact ⟨k + 1, by omega, by go_num, by rw [Hs.out], Hall.out, hBr.trans (hB3.mono (by omega))⟩
            case measure => simp [intOf]; omega
      · obtain rfl : k = n' := by omega
        have Ht := Lib.hid (lineB_yes (zs := zs) hlen'.out Hl.out Hok.out)
        go_wp2_with fail
        go_ret
        exact ⟨ret_bool Ht.out.symm, hCr⟩
  · have Ht := Lib.hid (lineB_len (zs := zs) hlen'.out (by rw [hlen.out]; exact hnl))
    have hne : ((n' : Int) != (n : Int)) = true := by simp; omega
    clear hnl
    go_enter Try.func75, Try.ntmps75
    go_wp2
    go_ret
    exact ⟨ret_bool Ht.out.symm, hC1⟩

end Go.Proofs.Ytghogabmkbadjaa

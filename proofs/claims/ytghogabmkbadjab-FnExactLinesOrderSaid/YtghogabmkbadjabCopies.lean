/- Copies of rows of rows, and their sizes. -/
import Derived.Test.YtghogabmkbadjabGxd
import Derived.Test.YtghogabmkbadjabGa
set_option linter.unusedVariables false
set_option linter.unusedSimpArgs false
namespace Go.Proofs.Ytghogabmkbadjab
open Go.RowKit

theorem szIntS_any (A : Option Addr) (n c : Nat) (k : Int) (w : World) (hn : n ≤ 9223372036854775807) (hk0 : 0 ≤ k) (hk1 : k ≤ 1048576) :
    Calls Try.prog 109 #[.slice A n c, .int .i64 k] w fun e w' => e = .returned (.int .i64 (if k - n < 0 then -1 else k - n)) ∧ w = w' := by
  by_cases hlt : k - n < 0
  · go_enter Try.func109, Try.ntmps109
    go_wp2
    go_ret
    exact ⟨ret_int (by first | rfl | rw [if_pos hlt]), rfl⟩
  · go_enter Try.func109, Try.ntmps109
    go_wp2
    go_ret
    exact ⟨ret_int (by first | rfl | rw [if_neg (by omega)]), rfl⟩

set_option maxHeartbeats 1000000 in
theorem szIntSS_any (A : Option Addr) (n c B : Nat) (rs : List (List Int)) (w : World) (h : IntsS w B A n rs) (hn : n ≤ 9223372036854775807) (hr : ∀ r ∈ rs, r.length ≤ 9223372036854775807) :
    Calls Try.prog 56 #[.slice A n c, .int .i64 1048576] w fun e w' => (∃ z : Int, e = .returned (.int .i64 z) ∧ (z < 0 ∨ 0 ≤ z ∧ n ≤ 1048576 ∧ tot rs ≤ 1048576)) ∧ w = w' := by
  have hlen := Lib.hid h.len
  by_cases hs : n ≤ 1048576
  · go_enter Try.func56, Try.ntmps56
    go_wp2
    go_loop [1, 5] (fun v i => ∃ j : Nat, j ≤ n ∧ i = .int .i64 j ∧ v = .int .i64 (1048576 - n - tot (rs.take j)) ∧ (n : Int) + tot (rs.take j) ≤ 1048576) (fun _ i => n - (intOf i).toNat)
    case atStart => exact ⟨0, by omega, rfl, by simp [tot], by simp [tot]; omega⟩
    case round =>
      obtain ⟨j, hj, rfl, rfl, hb⟩ := hrel
      by_cases hlt : j < n
      · have Hl := Lib.hid (show j < rs.length by rw [hlen.out]; exact hlt)
        obtain ⟨b, off, rfl, _, hc⟩ := h.at_ hlt
        obtain ⟨A', c', hcell, hI⟩ := hc j hlt
        have Hc := Lib.hid hc
        clear hc
        have hm : (rs[j]?.getD []).length ≤ 9223372036854775807 := by
          rw [List.getElem?_eq_getElem Hl.out]
          exact hr _ (List.getElem_mem _)
        have Hts := Lib.hid (tot_take_succ Hl.out)
        generalize (rs[j]?.getD []).length = q at *
        by_cases hq : (1048576 : Int) - n - tot (rs.take j) - q < 0
        · go_wp2_with fail
          refine (szIntS_any A' q c' _ w hm (by omega) (by omega)).mono ?_
          rw [if_pos hq]
          rintro e w1 ⟨rfl, rfl⟩
          go_wp2
          go_ret
          exact ⟨⟨_, rfl, .inl (by omega)⟩, rfl⟩
        · go_wp2_with fail
          refine (szIntS_any A' q c' _ w hm (by omega) (by omega)).mono ?_
          rw [if_neg (by omega)]
          rintro e w1 ⟨rfl, rfl⟩
          go_wp2
          go_round
          case rel => exact ⟨j + 1, by omega, by go_num, congrArg (Value.int .i64) (by rw [Hts.out]; omega), by rw [Hts.out]; omega⟩
          case measure => simp [intOf]; omega
      · obtain rfl : j = n := by omega
        have Htk := Lib.hid (show rs.take j = rs by rw [List.take_of_length_le (by rw [hlen.out]; exact Nat.le_refl _)])
        rw [Htk.out] at hb
        go_wp2
        go_ret
        exact ⟨⟨_, rfl, by rw [Htk.out]; omega⟩, rfl⟩
  · go_enter Try.func56, Try.ntmps56
    go_wp2
    go_ret
    exact ⟨⟨_, rfl, .inl (by omega)⟩, rfl⟩

theorem RowsC.sooner' {w : World} : ∀ {lo lo' hi : Nat} {vs : List Value} {rs : List (List Int)}, RowsC w lo hi vs rs → lo' ≤ lo → RowsC w lo' hi vs rs
  | _, _, _, [], [], h, h' => Nat.le_trans h' h
  | _, _, _, _ :: _, _ :: _, ⟨A, c, mid, e, h1, hr, h2⟩, h' => ⟨A, c, mid, e, Nat.le_trans h' h1, hr.more h' (Nat.le_refl _), h2⟩
theorem infoRow4 : ∃ i : TypeInfo, Try.prog.info? 22 = some i ∧ i.zero = some (.slice none 0 0) ∧ i.size = 1 ∧ i.bytes = 24 := by
  have h := infoRow
  cases hi : Try.prog.info? 22 with
  | none => rw [hi] at h; cases h
  | some i =>
    rw [hi] at h
    simp only [Option.map_some, Option.some.injEq, Prod.mk.injEq] at h
    exact ⟨i, rfl, h.1, h.2.1, h.2.2⟩

set_option maxHeartbeats 1000000 in
/-- A copy of rows, row by row. -/
theorem toIntSS_any (A : Option Addr) (n c : Nat) (rs : List (List Int)) (w : World) (h : IntsS w w.heap.size A n rs) (hn : n ≤ 1048576) (hr : ∀ r ∈ rs, r.length ≤ 1048576) :
    Calls Try.prog 57 #[.slice A n c] w fun e w' => ∃ A', e = .returned (.slice A' n n) ∧ RowsR w' w.heap.size w'.heap.size A' n rs ∧ Below w.heap.size w w' := by
  have hlen := Lib.hid h.len
  have hmk := run_make_row' (P := Try.prog) 32 22 (.slice none 0 0) 24 Try.underlying32 infoRow rfl .i64 .i64 n (by omega) (by omega)
  go_enter Try.func57, Try.ntmps57
  go_wp2
  have hE := heap_alloc_new w (.cells (madeCells #[Value.slice none 0 0] n) 22)
  have hsz : (madeCells #[Value.slice none 0 0] n).size = n := by simp [madeCells]
  have hB1 : Below w.heap.size w (w.alloc (.cells (madeCells #[Value.slice none 0 0] n) 22)) := (Below.refl _ _).alloc (Nat.le_refl _) _
  have hw1 : (w.alloc (.cells (madeCells #[Value.slice none 0 0] n) 22)).heap.size = w.heap.size + 1 := by simp
  obtain ⟨W1, hW1⟩ : ∃ W1, w.alloc (.cells (madeCells #[Value.slice none 0 0] n) 22) = W1 := ⟨_, rfl⟩
  rw [hW1] at hE hB1 hw1 ⊢
  clear hW1 hmk
  go_loopw [4] (fun i wr => ∃ k : Nat, k ≤ n ∧ i = .int .i64 k ∧ (∃ (vs : List Value) (cs : Array Value), wr.heap[w.heap.size]? = some (.cells cs 22 (0, 0)) ∧ cs.size = n ∧ vs.length = k ∧ (∀ (j : Nat) (u : Value), vs[j]? = some u → cs[j]? = some u) ∧ RowsC wr (w.heap.size + 1) wr.heap.size vs (rs.take k)) ∧ Below w.heap.size w wr) (fun i _ => n - (intOf i).toNat)
  case atStart => exact ⟨0, by omega, rfl, ⟨[], _, hE, hsz, rfl, (fun j u h => by simp at h), by simp [RowsC]; omega⟩, hB1⟩
  case round =>
    clear hE hsz hB1
    obtain ⟨k, hk, rfl, ⟨vs, cs, hG, hcs, hvl, hvc, hC⟩, hB⟩ := hrel
    by_cases hlt : k < n
    · have Hl := Lib.hid (show k < rs.length by rw [hlen.out]; exact hlt)
      obtain ⟨b, off, rfl, hb, hc⟩ := (h.below hB).at_ hlt
      obtain ⟨A', c', hcell, hI⟩ := hc k hlt
      have Hc := Lib.hid hc
      clear hc
      have hm : (rs[k]?.getD []).length ≤ 1048576 := by
        rw [List.getElem?_eq_getElem Hl.out]
        exact hr _ (List.getElem_mem _)
      have Hts := Lib.hid (show rs.take k ++ [rs[k]?.getD []] = rs.take (k + 1) by rw [List.take_succ_eq_append_getElem Hl.out, List.getElem?_eq_getElem Hl.out]; rfl)
      generalize rs[k]?.getD [] = r at *
      have HG := Lib.hid hG
      have zG := (Array.getElem?_eq_some_iff.1 hG).1
      have HC := Lib.hid hC
      have Hvc := Lib.hid hvc
      clear hG hC hvc
      go_wp2_with fail
      refine (toIntS_any A' r.length c' r wr (hI.more (by omega)) hm).mono ?_
      rintro e w1 ⟨rfl, hA1, hB1⟩
      have z1 := hB1.size
      have hG1 : w1.heap[w.heap.size]? = some (.cells cs 22 (0, 0)) := (hB1.block _ zG).trans HG.out
      have hcl : w1.cell? ⟨w.heap.size, k, none⟩ = cs[k]? := cell_of_row _ _ _ _ _ _ hG1
      have hcl2 : w1.cell? ⟨w.heap.size, k, none⟩ = some (cs[k]'(by omega)) := by rw [hcl, Array.getElem?_eq_getElem]
      have hfz : w1.frozen? ⟨w.heap.size, k, none⟩ = false := by simp [World.frozen?, hG1]
      generalize cs[k]'(by omega) = old at hcl2
      clear hcl
      have HG1 := Lib.hid hG1
      clear hG1
      go_wp2
      go_roundw
      case rel =>
        have hus : Upd (fun j => j = w.heap.size) w1 (w1.setCell ⟨w.heap.size, k, none⟩ (.slice (some ⟨wr.heap.size, 0, none⟩) r.length r.length)) := (Upd.refl (fun j => j = w.heap.size) w1).setCell (p := ⟨w.heap.size, k, none⟩) (.inr rfl) _
        refine ⟨k + 1, by omega, by go_num, ⟨vs ++ [.slice (some ⟨wr.heap.size, 0, none⟩) r.length r.length], cs.setIfInBounds k (.slice (some ⟨wr.heap.size, 0, none⟩) r.length r.length), ?_, by simpa using hcs, by simp [hvl], fun j u hj => ?_, ?_⟩, (hB.trans (hB1.mono (by omega))).setCell (p := ⟨w.heap.size, k, none⟩) (Nat.le_refl _) _⟩
        · have h9 := HG1.out
          simp [World.setCell, Array.getElem?_modify, h9]
        · by_cases hjk : j = k
          · subst hjk
            rw [List.getElem?_append_right (by omega), hvl, Nat.sub_self] at hj
            simp at hj
            subst hj
            rw [Array.getElem?_setIfInBounds_self_of_lt (by omega)]
          · have hjl : j < vs.length := by
              have := (List.getElem?_eq_some_iff.1 hj).1
              simp at this
              omega
            rw [List.getElem?_append_left hjl] at hj
            rw [Array.getElem?_setIfInBounds_ne (by omega)]
            exact Hvc.out j u hj
        · rw [← Hts.out]
          have h9 := ((HC.out.upd (Below.toUpd hB1) (fun j hj => .inr hj)).snoc (hi' := w1.heap.size) (c := r.length) (Row.of hA1 rfl (Nat.le_refl _) hA1.lt) z1).upd hus (fun j hj => .inl (by omega))
          exact h9.more hus.size
      case measure => simp [intOf]; omega
    · obtain rfl : k = n := by omega
      have Htk := Lib.hid (show rs.take k = rs by rw [List.take_of_length_le (by rw [hlen.out]; exact Nat.le_refl _)])
      have HG := Lib.hid hG
      have zG := (Array.getElem?_eq_some_iff.1 hG).1
      have Hvc := Lib.hid hvc
      clear hG hvc
      rw [Htk.out] at hC
      have HC := Lib.hid hC
      clear hC
      go_wp2
      go_ret
      exact ⟨_, rfl, ⟨hlen.out, fun _ => ⟨w.heap.size, vs, cs, rfl, Nat.le_refl _, zG, HG.out, Hvc.out, HC.out.sooner' (by omega)⟩⟩, hB⟩
end Go.Proofs.Ytghogabmkbadjab

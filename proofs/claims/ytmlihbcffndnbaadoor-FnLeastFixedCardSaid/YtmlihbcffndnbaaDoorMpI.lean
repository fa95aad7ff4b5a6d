/- Lists that take items of an order to items of an order: the program's. -/
import Derived.Test.YtmlihbcffndnbaaDoorGxc
import Derived.Test.YtmlihbcffndnbaaDoorGxf
import Derived.Test.YtmlihbcffndnbaaDoorCuI
import Derived.Test.YtmlihbcffndnbaaDoorGb
import Derived.Test.YtmlihbcffndnbaaDoorLineI
set_option linter.unusedVariables false
set_option linter.unusedSimpArgs false
namespace Go.Proofs.YtmlihbcffndnbaaDoor
open Go.RowKit Go.Shelf
attribute [local go_sem] Oper.semAt_some
attribute [local go_sem, local simp] wide_fn

set_option maxRecDepth 100000 in
theorem isAtOrAbove_any (A : Option Addr) (n c B : Nat) (zs : List Int) (a b : Nat) (w : World) (h : Ints w B A n zs) (hv : Sets zs) (ha : a < n) (hb : b < n) :
    Calls Tryd.prog 79 #[.slice A n c, .int .i64 (b : Int), .int .i64 (a : Int)] w fun e w' => e = .returned (.bool (amB zs a b)) ∧ w = w' := by
  have hlen := Lib.hid h.len
  have hn6 : n ≤ 6 := by have := hv.1; rw [hlen.out] at this; exact this
  obtain ⟨bl, off, rfl, _, hc⟩ := h.at_ ha
  have hca := hc a ha
  clear hc
  have hza := hv.bd a (by rw [hlen.out]; exact ha)
  have hua := atUp_bd hv (a := a) (by rw [hlen.out]; exact ha)
  have hpn := powI_le6 (n := (zs.length : Int)) (by rw [hlen.out]; omega)
  have Hu := Lib.hid (amB_up zs a b)
  have hw1 : ∀ w, Calls Tryd.prog 64 #[.int .i64 (zs[a]?.getD 0), .int .i64 (a : Int)] w fun e w' => e = .returned (.int .i64 (atUp zs a)) ∧ w = w' := fun w => with_any _ _ w (by omega) (by omega) (by omega) (by omega)
  have hw2 := fun w => has_any (atUp zs a) (b : Int) w (by omega) (by omega) (by omega) (by omega)
  rw [← Hu.out]
  go_enter Tryd.func79, Tryd.ntmps79
  go_wp2_with (first
    | (go_at_call 64; refine (hw1 _).mono ?_; rintro e w' ⟨rfl, rfl⟩)
    | (go_at_call 84; refine (hw2 _).mono ?_; rintro e w' ⟨rfl, rfl⟩))
  go_ret
  exact ⟨rfl, rfl⟩

/-- What takes items of one order to items of another one. -/
def tkV (A : Option Addr) (n : Nat) (A' : Option Addr) (m : Nat) (F : Option Addr) (k cf : Nat) : Value := .agg #[.slice A n n, .slice A' m m, .slice F k cf]

theorem noItem_any (bb : Nat) (A' : Option Addr) (m c' : Nat) (y : Int) (w : World) (hb : Boxed w bb 42 (.slice A' m c')) :
    Calls Tryd.prog 77 #[.int .i64 y, .pointer (some ⟨bb, 0, none⟩)] w fun e w' => e = .returned (.bool (!inB y 0 ((m : Int) - 1))) ∧ w = w' := by
  have hcb := hb.cell
  go_enter Tryd.func77, Tryd.ntmps77
  go_wp2_with (go_at_call 71; refine (isItemOf_any _ _ _).mono ?_; rintro e w' ⟨rfl, rfl⟩)
  go_ret
  exact ⟨rfl, rfl⟩
theorem ends_no {m : Nat} {fs : List Int} {k : Nat} (hk : k < fs.length) (h : inB (fs[k]?.getD 0) 0 ((m : Int) - 1) = false) : endsB m fs = false := by
  cases e : endsB m fs
  · rfl
  · have h1 := List.all_eq_true.1 e (fs[k]?.getD 0) (by rw [List.getElem?_eq_getElem hk]; exact List.getElem_mem _)
    rw [h] at h1; cases h1
theorem ends_all {m : Nat} {fs : List Int} (h : ∀ x, x < fs.length → inB (fs[x]?.getD 0) 0 ((m : Int) - 1) = true) : endsB m fs = true := List.all_eq_true.2 fun y hy => by
  obtain ⟨x, hx, rfl⟩ := List.getElem_of_mem hy
  have := h x hx
  rw [List.getElem?_eq_getElem hx] at this
  exact this

set_option maxRecDepth 100000 in
set_option maxHeartbeats 1000000 in
theorem indexNone_any (bb : Nat) (A : Option Addr) (k c B : Nat) (fs : List Int) (A' : Option Addr) (m c' : Nat) (w : World) (h : Ints w B A k fs) (hb : Boxed w bb 42 (.slice A' m c')) (hbig : k ≤ 1152921504606846976) :
    Calls Tryd.prog 99 #[.slice A k c, .func (.func 77) #[] #[.pointer (some ⟨bb, 0, none⟩)]] w fun e w' => ∃ j : Int, e = .returned (.int .i64 j) ∧ decide (0 ≤ j) = !endsB m fs ∧ w = w' := by
  have hlen := Lib.hid h.len
  go_enter Tryd.func99, Tryd.ntmps99
  go_wp2
  go_loop [8] (fun i => ∃ x : Nat, x ≤ k ∧ i = .int .i64 x ∧ (∀ j, j < x → inB (fs[j]?.getD 0) 0 ((m : Int) - 1) = true)) (fun i => k - (intOf i).toNat)
  case atStart => exact ⟨0, by omega, rfl, fun j hj => by omega⟩
  case round =>
    obtain ⟨x, hx, rfl, hok⟩ := hrel
    have Hok := Lib.hid hok
    clear hok
    by_cases hlt : x < k
    · obtain ⟨b, off, rfl, _, hc⟩ := h.at_ hlt
      have hck := hc x hlt
      clear hc
      have htg := noItem_any bb A' m c' (fs[x]?.getD 0) w hb
      cases hin : inB (fs[x]?.getD 0) 0 ((m : Int) - 1)
      · have Hn := Lib.hid (ends_no (m := m) (by rw [hlen.out]; exact hlt) hin)
        rw [hin] at htg
        clear hin
        go_wp2_with (go_at_call 77; refine htg.mono ?_; rintro e w' ⟨rfl, rfl⟩)
        go_ret
        exact ⟨(x : Int), rfl, by rw [Hn.out]; simp, rfl⟩
      · have Hn := Lib.hid (all_snoc Hok.out hin)
        rw [hin] at htg
        clear hin
        go_wp2_with (go_at_call 77; refine htg.mono ?_; rintro e w' ⟨rfl, rfl⟩)
        go_round
        case rel => exact ⟨x + 1, by omega, by go_num, Hn.out⟩
        case measure => simp [intOf]; omega
    · obtain rfl : x = k := by omega
      have Hn := Lib.hid (ends_all (m := m) (fs := fs) (by rw [hlen.out]; exact Hok.out))
      go_wp2
      go_ret
      exact ⟨-1, rfl, by rw [Hn.out]; rfl, rfl⟩
theorem containsNone_any (bb : Nat) (A : Option Addr) (k c B : Nat) (fs : List Int) (A' : Option Addr) (m c' : Nat) (w : World) (h : Ints w B A k fs) (hb : Boxed w bb 42 (.slice A' m c')) (hbig : k ≤ 1152921504606846976) :
    Calls Tryd.prog 78 #[.slice A k c, .func (.func 77) #[] #[.pointer (some ⟨bb, 0, none⟩)]] w fun e w' => e = .returned (.bool (!endsB m fs)) ∧ w = w' := by
  go_enter Tryd.func78, Tryd.ntmps78
  go_wp2_with fail
  refine (indexNone_any bb A k c B fs A' m c' w h hb hbig).mono ?_
  rintro e w' ⟨j, rfl, hj, rfl⟩
  have Hj := Lib.hid hj
  clear hj
  go_wp2_with fail
  go_ret
  exact ⟨ret_bool (by rw [← Hj.out]), rfl⟩

/-- A struct of three slices in a block. -/
theorem three_set {w : World} {b : Nat} {t : TypeId} {x1 x2 x3 y1 y2 y3 : Value} (h : w.heap[b]? = some (.cells #[x1, x2, x3] t (0, 0))) :
    (((w.setCell ⟨b, 0, none⟩ y1).setCell ⟨b, 1, none⟩ y2).setCell ⟨b, 2, none⟩ y3).heap[b]? = some (.cells #[y1, y2, y3] t (0, 0)) := by
  simp [World.setCell, Array.getElem?_modify, h]
theorem three_cells {w : World} {b : Nat} {t : TypeId} {x1 x2 x3 : Value} (h : w.heap[b]? = some (.cells #[x1, x2, x3] t (0, 0))) :
    w.cell? ⟨b, 0, none⟩ = some x1 ∧ w.cell? ⟨b, 1, none⟩ = some x2 ∧ w.cell? ⟨b, 2, none⟩ = some x3 ∧ w.frozen? ⟨b, 0, none⟩ = false ∧ w.frozen? ⟨b, 1, none⟩ = false ∧ w.frozen? ⟨b, 2, none⟩ = false := by
  refine ⟨?_, ?_, ?_, frozen_of_row _ _ 0 _ _ h, frozen_of_row _ _ 1 _ _ h, frozen_of_row _ _ 2 _ _ h⟩
  · rw [cell_of_row _ _ 0 _ _ (0, 0) h]; rfl
  · rw [cell_of_row _ _ 1 _ _ (0, 0) h]; rfl
  · rw [cell_of_row _ _ 2 _ _ (0, 0) h]; rfl

/-- What reading two orders and a list gives. -/
def ReadsT (ok : Bool) (zs ys : List Int) (n m : Nat) (F : Option Addr) (k cf : Nat) (w : World) (e : Ending) (w' : World) : Prop :=
  Below w.heap.size w w' ∧ ((ok = true ∧ ∃ b b', e = .returned (.tuple #[tkV (some ⟨b, 0, none⟩) n (some ⟨b', 0, none⟩) m F k cf, .bool true]) ∧ Arr w' b 59 zs ∧ Arr w' b' 59 ys) ∨
    (ok = false ∧ e = .returned (.tuple #[.agg #[.slice none 0 0, .slice none 0 0, .slice none 0 0], .bool false])))

set_option maxRecDepth 100000 in
set_option maxHeartbeats 2000000 in
theorem readTaking_any (A : Option Addr) (n c : Nat) (zs : List Int) (A' : Option Addr) (m c' : Nat) (ys : List Int) (F : Option Addr) (k cf : Nat) (fs : List Int) (w : World) (h : Ints w w.heap.size A n zs) (h' : Ints w w.heap.size A' m ys) (hf : Ints w w.heap.size F k fs)
    (hbig : n ≤ 1152921504606846976) (hbig' : m ≤ 1152921504606846976) (hbigf : k ≤ 1152921504606846976) :
    Calls Tryd.prog 51 #[.slice A n c, .slice A' m c', .slice F k cf] w (ReadsT (mpB zs ys fs) zs ys n m F k cf w) := by
  have hlen := Lib.hid h.len
  have hlen' := Lib.hid h'.len
  have hlenf := Lib.hid hf.len
  go_enter Tryd.func51, Tryd.ntmps51
  go_wp2_with fail
  have kh0 : (w.alloc (.cells #[.slice none 0 0, .slice none 0 0, .slice none 0 0] 44)).heap[w.heap.size]? = some (.cells #[.slice none 0 0, .slice none 0 0, .slice none 0 0] 44 (0, 0)) := heap_alloc_new w _
  have kB0 : Below w.heap.size w (w.alloc (.cells #[.slice none 0 0, .slice none 0 0, .slice none 0 0] 44)) := (Below.refl w.heap.size w).alloc (Nat.le_refl _) _
  have kz0 : w.heap.size < (w.alloc (.cells #[.slice none 0 0, .slice none 0 0, .slice none 0 0] 44)).heap.size := by simp
  obtain ⟨w1, hw1⟩ : ∃ w1, w.alloc (.cells #[.slice none 0 0, .slice none 0 0, .slice none 0 0] 44) = w1 := ⟨_, rfl⟩
  rw [hw1] at kh0 kB0 kz0 ⊢
  clear hw1
  refine (readBoth_any A n c zs A' m c' ys _ (h.to kB0 (Nat.le_refl _) (Nat.le_of_lt kz0)) (h'.to kB0 (Nat.le_refl _) (Nat.le_of_lt kz0)) hbig hbig').mono ?_
  rintro e w2 ⟨hB2, (⟨hv, hv', b, b', rfl, hAr, hAr'⟩ | ⟨hno, A1, k1, A2, k2, rfl⟩)⟩
  · have kh2 := (hB2.block w.heap.size kz0).trans kh0
    have kB2 := kB0.trans (hB2.mono (Nat.le_of_lt kz0))
    have z2 := hB2.size
    have hArn : b ≠ w.heap.size := by
      rintro rfl
      have h1 := hAr
      unfold Arr at h1
      rw [kh2] at h1
      exact absurd h1 (by simp)
    have hArn' : b' ≠ w.heap.size := by
      rintro rfl
      have h1 := hAr'
      unfold Arr at h1
      rw [kh2] at h1
      exact absurd h1 (by simp)
    by_cases hkn : k = n
    · have Hkn := Lib.hid hkn
      have hkn2 : ((k : Int) != (n : Int)) = false := by simp; omega
      clear hkn
      cases he : endsB m fs
      · have Hn := Lib.hid (show mpB zs ys fs = false from mp_no3 (by rw [hlen'.out]; exact he))
        have Hc := Lib.hid (fun w B h hb => containsNone_any w2.heap.size F k cf B fs (some ⟨b', 0, none⟩) m m w h hb hbigf)
        rw [he] at Hc
        clear he
        go_wp2_with fail
        have bX := Boxed.new w2 42 (.slice (some ⟨b', 0, none⟩) m m)
        have kh3 : (w2.alloc (.cells #[.slice (some ⟨b', 0, none⟩) m m] 42)).heap[w.heap.size]? = some (.cells #[.slice none 0 0, .slice none 0 0, .slice none 0 0] 44 (0, 0)) := (Below.heap_alloc w2 _ w.heap.size (by omega)).trans kh2
        have kB3 : Below w.heap.size w (w2.alloc (.cells #[.slice (some ⟨b', 0, none⟩) m m] 42)) := kB2.alloc (by omega) _
        have hA3 := hAr.alloc (.cells #[.slice (some ⟨b', 0, none⟩) m m] 42)
        have hA3' := hAr'.alloc (.cells #[.slice (some ⟨b', 0, none⟩) m m] 42)
        have hAn : b ≠ w.heap.size := hArn
        have hAn' : b' ≠ w.heap.size := hArn'
        obtain ⟨W3, hW3⟩ : ∃ W3, w2.alloc (.cells #[.slice (some ⟨b', 0, none⟩) m m] 42) = W3 := ⟨_, rfl⟩
        rw [hW3] at bX kh3 kB3 hA3 hA3' ⊢
        clear hW3
        obtain ⟨q0, q1, q2, g0, g1, g2⟩ := three_cells kh3
        refine (Hc.out _ _ ((hf.below kB3)) bX).mono ?_
        rintro e w' ⟨rfl, rfl⟩
        have kh4 := three_set (y1 := .slice none 0 0) (y2 := .slice none 0 0) (y3 := .slice none 0 0) kh3
        go_wp2_with fail
        refine bodyPost_ret (v := .tuple #[.agg #[.slice none 0 0, .slice none 0 0, .slice none 0 0], .bool false]) (results_cell_row2 rfl _ _ w.heap.size _ _ (0, 0) _ _ rfl rfl kh4 Tryd.underlying44 rfl (by kernel_rfl)) rfl ?_
        exact ⟨((kB3.setCell (p := ⟨w.heap.size, 0, none⟩) (Nat.le_refl _) _).setCell (p := ⟨w.heap.size, 1, none⟩) (Nat.le_refl _) _).setCell (p := ⟨w.heap.size, 2, none⟩) (Nat.le_refl _) _, .inr ⟨Hn.out, rfl⟩⟩
      · have Hn := Lib.hid (show mpB zs ys fs = true from mp_yes hv hv' (by rw [hlen.out, hlenf.out]; exact Hkn.out) (by rw [hlen'.out]; exact he))
        have Hc := Lib.hid (fun w B h hb => containsNone_any w2.heap.size F k cf B fs (some ⟨b', 0, none⟩) m m w h hb hbigf)
        rw [he] at Hc
        clear he
        go_wp2_with fail
        have bX := Boxed.new w2 42 (.slice (some ⟨b', 0, none⟩) m m)
        have kh3 : (w2.alloc (.cells #[.slice (some ⟨b', 0, none⟩) m m] 42)).heap[w.heap.size]? = some (.cells #[.slice none 0 0, .slice none 0 0, .slice none 0 0] 44 (0, 0)) := (Below.heap_alloc w2 _ w.heap.size (by omega)).trans kh2
        have kB3 : Below w.heap.size w (w2.alloc (.cells #[.slice (some ⟨b', 0, none⟩) m m] 42)) := kB2.alloc (by omega) _
        have hA3 := hAr.alloc (.cells #[.slice (some ⟨b', 0, none⟩) m m] 42)
        have hA3' := hAr'.alloc (.cells #[.slice (some ⟨b', 0, none⟩) m m] 42)
        have hAn : b ≠ w.heap.size := hArn
        have hAn' : b' ≠ w.heap.size := hArn'
        obtain ⟨W3, hW3⟩ : ∃ W3, w2.alloc (.cells #[.slice (some ⟨b', 0, none⟩) m m] 42) = W3 := ⟨_, rfl⟩
        rw [hW3] at bX kh3 kB3 hA3 hA3' ⊢
        clear hW3
        obtain ⟨q0, q1, q2, g0, g1, g2⟩ := three_cells kh3
        refine (Hc.out _ _ ((hf.below kB3)) bX).mono ?_
        rintro e w' ⟨rfl, rfl⟩
        have kh4 := three_set (y1 := .slice (some ⟨b, 0, none⟩) n n) (y2 := .slice (some ⟨b', 0, none⟩) m m) (y3 := .slice F k cf) kh3
        have cX := bX.cell
        go_wp2_with fail
        refine bodyPost_ret (v := .tuple #[tkV (some ⟨b, 0, none⟩) n (some ⟨b', 0, none⟩) m F k cf, .bool true]) (results_cell_row2 rfl _ _ w.heap.size _ _ (0, 0) _ _ rfl rfl kh4 Tryd.underlying44 rfl (by kernel_rfl)) rfl ?_
        exact ⟨((kB3.setCell (p := ⟨w.heap.size, 0, none⟩) (Nat.le_refl _) _).setCell (p := ⟨w.heap.size, 1, none⟩) (Nat.le_refl _) _).setCell (p := ⟨w.heap.size, 2, none⟩) (Nat.le_refl _) _, .inl ⟨Hn.out, b, b', rfl,
          ((hA3.far (p := ⟨w.heap.size, 0, none⟩) hAn _).far (p := ⟨w.heap.size, 1, none⟩) hAn _).far (p := ⟨w.heap.size, 2, none⟩) hAn _, ((hA3'.far (p := ⟨w.heap.size, 0, none⟩) hAn' _).far (p := ⟨w.heap.size, 1, none⟩) hAn' _).far (p := ⟨w.heap.size, 2, none⟩) hAn' _⟩⟩
    · have Hn := Lib.hid (show mpB zs ys fs = false from mp_no2 (by rw [hlen.out, hlenf.out]; exact hkn))
      have hkn2 : ((k : Int) != (n : Int)) = true := by simp; omega
      clear hkn
      have kh3 : (w2.alloc (.cells #[.slice (some ⟨b', 0, none⟩) m m] 42)).heap[w.heap.size]? = some (.cells #[.slice none 0 0, .slice none 0 0, .slice none 0 0] 44 (0, 0)) := (Below.heap_alloc w2 _ w.heap.size (by omega)).trans kh2
      have kB3 : Below w.heap.size w (w2.alloc (.cells #[.slice (some ⟨b', 0, none⟩) m m] 42)) := kB2.alloc (by omega) _
      obtain ⟨q0, q1, q2, g0, g1, g2⟩ := three_cells kh3
      have kh4 := three_set (y1 := .slice none 0 0) (y2 := .slice none 0 0) (y3 := .slice none 0 0) kh3
      go_wp2_with fail
      refine bodyPost_ret (v := .tuple #[.agg #[.slice none 0 0, .slice none 0 0, .slice none 0 0], .bool false]) (results_cell_row2 rfl _ _ w.heap.size _ _ (0, 0) _ _ rfl rfl kh4 Tryd.underlying44 rfl (by kernel_rfl)) rfl ?_
      exact ⟨((kB3.setCell (p := ⟨w.heap.size, 0, none⟩) (Nat.le_refl _) _).setCell (p := ⟨w.heap.size, 1, none⟩) (Nat.le_refl _) _).setCell (p := ⟨w.heap.size, 2, none⟩) (Nat.le_refl _) _, .inr ⟨Hn.out, rfl⟩⟩
  · have Hn := Lib.hid (show mpB zs ys fs = false from mp_no1 hno)
    have kh2 := (hB2.block w.heap.size kz0).trans kh0
    have kB2 := kB0.trans (hB2.mono (Nat.le_of_lt kz0))
    have z2 := hB2.size
    clear hno
    have kh3 : (w2.alloc (.cells #[.slice A2 k2 k2] 42)).heap[w.heap.size]? = some (.cells #[.slice none 0 0, .slice none 0 0, .slice none 0 0] 44 (0, 0)) := (Below.heap_alloc w2 _ w.heap.size (by omega)).trans kh2
    have kB3 : Below w.heap.size w (w2.alloc (.cells #[.slice A2 k2 k2] 42)) := kB2.alloc (by omega) _
    obtain ⟨q0, q1, q2, g0, g1, g2⟩ := three_cells kh3
    have kh4 := three_set (y1 := .slice none 0 0) (y2 := .slice none 0 0) (y3 := .slice none 0 0) kh3
    go_wp2_with fail
    refine bodyPost_ret (v := .tuple #[.agg #[.slice none 0 0, .slice none 0 0, .slice none 0 0], .bool false]) (results_cell_row2 rfl _ _ w.heap.size _ _ (0, 0) _ _ rfl rfl kh4 Tryd.underlying44 rfl (by kernel_rfl)) rfl ?_
    exact ⟨((kB3.setCell (p := ⟨w.heap.size, 0, none⟩) (Nat.le_refl _) _).setCell (p := ⟨w.heap.size, 1, none⟩) (Nat.le_refl _) _).setCell (p := ⟨w.heap.size, 2, none⟩) (Nat.le_refl _) _, .inr ⟨Hn.out, rfl⟩⟩

end Go.Proofs.YtmlihbcffndnbaaDoor

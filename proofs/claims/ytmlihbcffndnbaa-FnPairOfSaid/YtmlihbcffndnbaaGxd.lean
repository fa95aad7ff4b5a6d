/- Texts that several claims share, one behind the other. -/
import Derived.Test.YtmlihbcffndnbaaGxc
import Derived.Test.YtmlihbcffndnbaaGxb
import Derived.Test.YtmlihbcffndnbaaCuI
import Derived.Test.YtmlihbcffndnbaaGb
import Derived.Test.YtmlihbcffndnbaaLineI
import Derived.Test.YtmlihbcffndnbaaLsI
import Derived.Test.YtmlihbcffndnbaaAny2
import Derived.Test.YtmlihbcffndnbaaGxa
import Derived.Test.YtmlihbcffndnbaaGa
set_option linter.unusedVariables false
set_option linter.unusedSimpArgs false
/- Lists that take items of an order to items of an order: the program's. -/
namespace Go.Proofs.Ytmlihbcffndnbaa
open Go.RowKit Go.Shelf
attribute [local go_sem] Oper.semAt_some
attribute [local go_sem, local simp] wide_fn

set_option maxRecDepth 100000 in
theorem isAtOrAbove_any (A : Option Addr) (n c B : Nat) (zs : List Int) (a b : Nat) (w : World) (h : Ints w B A n zs) (hv : Sets zs) (ha : a < n) (hb : b < n) :
    Calls Try.prog 78 #[.slice A n c, .int .i64 (b : Int), .int .i64 (a : Int)] w fun e w' => e = .returned (.bool (amB zs a b)) ∧ w = w' := by
  have hlen := Lib.hid h.len
  have hn6 : n ≤ 6 := by have := hv.1; rw [hlen.out] at this; exact this
  obtain ⟨bl, off, rfl, _, hc⟩ := h.at_ ha
  have hca := hc a ha
  clear hc
  have hza := hv.bd a (by rw [hlen.out]; exact ha)
  have hua := atUp_bd hv (a := a) (by rw [hlen.out]; exact ha)
  have hpn := powI_le6 (n := (zs.length : Int)) (by rw [hlen.out]; omega)
  have Hu := Lib.hid (amB_up zs a b)
  have hw1 : ∀ w, Calls Try.prog 63 #[.int .i64 (zs[a]?.getD 0), .int .i64 (a : Int)] w fun e w' => e = .returned (.int .i64 (atUp zs a)) ∧ w = w' := fun w => with_any _ _ w (by omega) (by omega) (by omega) (by omega)
  have hw2 := fun w => has_any (atUp zs a) (b : Int) w (by omega) (by omega) (by omega) (by omega)
  rw [← Hu.out]
  go_enter Try.func78, Try.ntmps78
  go_wp2_with (first
    | (go_at_call 63; refine (hw1 _).mono ?_; rintro e w' ⟨rfl, rfl⟩)
    | (go_at_call 80; refine (hw2 _).mono ?_; rintro e w' ⟨rfl, rfl⟩))
  go_ret
  exact ⟨rfl, rfl⟩

/-- What takes items of one order to items of another one. -/
def tkV (A : Option Addr) (n : Nat) (A' : Option Addr) (m : Nat) (F : Option Addr) (k cf : Nat) : Value := .agg #[.slice A n n, .slice A' m m, .slice F k cf]

theorem noItem_any (bb : Nat) (A' : Option Addr) (m c' : Nat) (y : Int) (w : World) (hb : Boxed w bb 42 (.slice A' m c')) :
    Calls Try.prog 65 #[.int .i64 y, .pointer (some ⟨bb, 0, none⟩)] w fun e w' => e = .returned (.bool (!inB y 0 ((m : Int) - 1))) ∧ w = w' := by
  have hcb := hb.cell
  go_enter Try.func65, Try.ntmps65
  go_wp2_with (go_at_call 66; refine (isItemOf_any _ _ _).mono ?_; rintro e w' ⟨rfl, rfl⟩)
  go_ret
  exact ⟨rfl, rfl⟩
theorem ends_no {m : Nat} {fs : List Int} {k : Nat} (hk : k < fs.length) (h : inB (fs[k]?.getD 0) 0 ((m : Int) - 1) = false) : endsB m fs = false := by
  cases e : endsB m fs
  · rfl
  · have h1 := List.all_eq_true.1 e (fs[k]?.getD 0) (by rw [List.getElem?_eq_getElem hk]; exact List.getElem_mem _)
    rw [h] at h1; cases h1
theorem ends_all {m : Nat} {fs : List Int} (h : ∀ x, x < fs.length → inB (fs[x]?.getD 0) 0 ((m : Int) - 1) = true) : endsB m fs = true := List.all_eq_true.2 fun y hy => by
  obtain ⟨x, hx, rfl⟩ := List.getElem_of_mem hy
  have := h x hx
  rw [List.getElem?_eq_getElem hx] at this
  exact this

set_option maxRecDepth 100000 in
set_option maxHeartbeats 1000000 in
theorem indexNone_any (bb : Nat) (A : Option Addr) (k c B : Nat) (fs : List Int) (A' : Option Addr) (m c' : Nat) (w : World) (h : Ints w B A k fs) (hb : Boxed w bb 42 (.slice A' m c')) (hbig : k ≤ 1152921504606846976) :
    Calls Try.prog 82 #[.slice A k c, .func (.func 65) #[] #[.pointer (some ⟨bb, 0, none⟩)]] w fun e w' => ∃ j : Int, e = .returned (.int .i64 j) ∧ decide (0 ≤ j) = !endsB m fs ∧ w = w' := by
  have hlen := Lib.hid h.len
  go_enter Try.func82, Try.ntmps82
  go_wp2
  go_loop [8] (fun i => ∃ x : Nat, x ≤ k ∧ i = .int .i64 x ∧ (∀ j, j < x → inB (fs[j]?.getD 0) 0 ((m : Int) - 1) = true)) (fun i => k - (intOf i).toNat)
  case atStart => exact ⟨0, by omega, rfl, fun j hj => by omega⟩
  case round =>
    obtain ⟨x, hx, rfl, hok⟩ := hrel
    have Hok := Lib.hid hok
    clear hok
    by_cases hlt : x < k
    · obtain ⟨b, off, rfl, _, hc⟩ := h.at_ hlt
      have hck := hc x hlt
      clear hc
      have htg := noItem_any bb A' m c' (fs[x]?.getD 0) w hb
      cases hin : inB (fs[x]?.getD 0) 0 ((m : Int) - 1)
      · have Hn := Lib.hid (ends_no (m := m) (by rw [hlen.out]; exact hlt) hin)
        rw [hin] at htg
        clear hin
        go_wp2_with (go_at_call 65; refine htg.mono ?_; rintro e w' ⟨rfl, rfl⟩)
        go_ret
        exact ⟨(x : Int), rfl, by rw [Hn.out]; simp, rfl⟩
      · have Hn := Lib.hid (all_snoc Hok.out hin)
        rw [hin] at htg
        clear hin
        go_wp2_with (go_at_call 65; refine htg.mono ?_; rintro e w' ⟨rfl, rfl⟩)
        go_round
        case rel => exact ⟨x + 1, by omega, by go_num, Hn.out⟩
        case measure => simp [intOf]; omega
    · obtain rfl : x = k := by omega
      have Hn := Lib.hid (ends_all (m := m) (fs := fs) (by rw [hlen.out]; exact Hok.out))
      go_wp2
      go_ret
      exact ⟨-1, rfl, by rw [Hn.out]; rfl, rfl⟩
theorem containsNone_any (bb : Nat) (A : Option Addr) (k c B : Nat) (fs : List Int) (A' : Option Addr) (m c' : Nat) (w : World) (h : Ints w B A k fs) (hb : Boxed w bb 42 (.slice A' m c')) (hbig : k ≤ 1152921504606846976) :
    Calls Try.prog 67 #[.slice A k c, .func (.func 65) #[] #[.pointer (some ⟨bb, 0, none⟩)]] w fun e w' => e = .returned (.bool (!endsB m fs)) ∧ w = w' := by
  go_enter Try.func67, Try.ntmps67
  go_wp2_with fail
  refine (indexNone_any bb A k c B fs A' m c' w h hb hbig).mono ?_
  rintro e w' ⟨j, rfl, hj, rfl⟩
  have Hj := Lib.hid hj
  clear hj
  go_wp2_with fail
  go_ret
  exact ⟨ret_bool (by rw [← Hj.out]), rfl⟩

/-- A struct of three slices in a block. -/
theorem three_set {w : World} {b : Nat} {t : TypeId} {x1 x2 x3 y1 y2 y3 : Value} (h : w.heap[b]? = some (.cells #[x1, x2, x3] t (0, 0))) :
    (((w.setCell ⟨b, 0, none⟩ y1).setCell ⟨b, 1, none⟩ y2).setCell ⟨b, 2, none⟩ y3).heap[b]? = some (.cells #[y1, y2, y3] t (0, 0)) := by
  simp [World.setCell, Array.getElem?_modify, h]
theorem three_cells {w : World} {b : Nat} {t : TypeId} {x1 x2 x3 : Value} (h : w.heap[b]? = some (.cells #[x1, x2, x3] t (0, 0))) :
    w.cell? ⟨b, 0, none⟩ = some x1 ∧ w.cell? ⟨b, 1, none⟩ = some x2 ∧ w.cell? ⟨b, 2, none⟩ = some x3 ∧ w.frozen? ⟨b, 0, none⟩ = false ∧ w.frozen? ⟨b, 1, none⟩ = false ∧ w.frozen? ⟨b, 2, none⟩ = false := by
  refine ⟨?_, ?_, ?_, frozen_of_row _ _ 0 _ _ h, frozen_of_row _ _ 1 _ _ h, frozen_of_row _ _ 2 _ _ h⟩
  · rw [cell_of_row _ _ 0 _ _ (0, 0) h]; rfl
  · rw [cell_of_row _ _ 1 _ _ (0, 0) h]; rfl
  · rw [cell_of_row _ _ 2 _ _ (0, 0) h]; rfl

/-- What reading two orders and a list gives. -/
def ReadsT (ok : Bool) (zs ys : List Int) (n m : Nat) (F : Option Addr) (k cf : Nat) (w : World) (e : Ending) (w' : World) : Prop :=
  Below w.heap.size w w' ∧ ((ok = true ∧ ∃ b b', e = .returned (.tuple #[tkV (some ⟨b, 0, none⟩) n (some ⟨b', 0, none⟩) m F k cf, .bool true]) ∧ Arr w' b 55 zs ∧ Arr w' b' 55 ys) ∨
    (ok = false ∧ e = .returned (.tuple #[.agg #[.slice none 0 0, .slice none 0 0, .slice none 0 0], .bool false])))

set_option maxRecDepth 100000 in
set_option maxHeartbeats 2000000 in
theorem readTaking_any (A : Option Addr) (n c : Nat) (zs : List Int) (A' : Option Addr) (m c' : Nat) (ys : List Int) (F : Option Addr) (k cf : Nat) (fs : List Int) (w : World) (h : Ints w w.heap.size A n zs) (h' : Ints w w.heap.size A' m ys) (hf : Ints w w.heap.size F k fs)
    (hbig : n ≤ 1152921504606846976) (hbig' : m ≤ 1152921504606846976) (hbigf : k ≤ 1152921504606846976) :
    Calls Try.prog 44 #[.slice A n c, .slice A' m c', .slice F k cf] w (ReadsT (mpB zs ys fs) zs ys n m F k cf w) := by
  have hlen := Lib.hid h.len
  have hlen' := Lib.hid h'.len
  have hlenf := Lib.hid hf.len
  go_enter Try.func44, Try.ntmps44
  go_wp2_with fail
  have kh0 : (w.alloc (.cells #[.slice none 0 0, .slice none 0 0, .slice none 0 0] 44)).heap[w.heap.size]? = some (.cells #[.slice none 0 0, .slice none 0 0, .slice none 0 0] 44 (0, 0)) := heap_alloc_new w _
  have kB0 : Below w.heap.size w (w.alloc (.cells #[.slice none 0 0, .slice none 0 0, .slice none 0 0] 44)) := (Below.refl w.heap.size w).alloc (Nat.le_refl _) _
  have kz0 : w.heap.size < (w.alloc (.cells #[.slice none 0 0, .slice none 0 0, .slice none 0 0] 44)).heap.size := by simp
  obtain ⟨w1, hw1⟩ : ∃ w1, w.alloc (.cells #[.slice none 0 0, .slice none 0 0, .slice none 0 0] 44) = w1 := ⟨_, rfl⟩
  rw [hw1] at kh0 kB0 kz0 ⊢
  clear hw1
  refine (readBoth_any A n c zs A' m c' ys _ (h.to kB0 (Nat.le_refl _) (Nat.le_of_lt kz0)) (h'.to kB0 (Nat.le_refl _) (Nat.le_of_lt kz0)) hbig hbig').mono ?_
  rintro e w2 ⟨hB2, (⟨hv, hv', b, b', rfl, hAr, hAr'⟩ | ⟨hno, A1, k1, A2, k2, rfl⟩)⟩
  · have kh2 := (hB2.block w.heap.size kz0).trans kh0
    have kB2 := kB0.trans (hB2.mono (Nat.le_of_lt kz0))
    have z2 := hB2.size
    have hArn : b ≠ w.heap.size := by
      rintro rfl
      have h1 := hAr
      unfold Arr at h1
      rw [kh2] at h1
      exact absurd h1 (by simp)
    have hArn' : b' ≠ w.heap.size := by
      rintro rfl
      have h1 := hAr'
      unfold Arr at h1
      rw [kh2] at h1
      exact absurd h1 (by simp)
    by_cases hkn : k = n
    · have Hkn := Lib.hid hkn
      have hkn2 : ((k : Int) != (n : Int)) = false := by simp; omega
      clear hkn
      cases he : endsB m fs
      · have Hn := Lib.hid (show mpB zs ys fs = false from mp_no3 (by rw [hlen'.out]; exact he))
        have Hc := Lib.hid (fun w B h hb => containsNone_any w2.heap.size F k cf B fs (some ⟨b', 0, none⟩) m m w h hb hbigf)
        rw [he] at Hc
        clear he
        go_wp2_with fail
        have bX := Boxed.new w2 42 (.slice (some ⟨b', 0, none⟩) m m)
        have kh3 : (w2.alloc (.cells #[.slice (some ⟨b', 0, none⟩) m m] 42)).heap[w.heap.size]? = some (.cells #[.slice none 0 0, .slice none 0 0, .slice none 0 0] 44 (0, 0)) := (Below.heap_alloc w2 _ w.heap.size (by omega)).trans kh2
        have kB3 : Below w.heap.size w (w2.alloc (.cells #[.slice (some ⟨b', 0, none⟩) m m] 42)) := kB2.alloc (by omega) _
        have hA3 := hAr.alloc (.cells #[.slice (some ⟨b', 0, none⟩) m m] 42)
        have hA3' := hAr'.alloc (.cells #[.slice (some ⟨b', 0, none⟩) m m] 42)
        have hAn : b ≠ w.heap.size := hArn
        have hAn' : b' ≠ w.heap.size := hArn'
        obtain ⟨W3, hW3⟩ : ∃ W3, w2.alloc (.cells #[.slice (some ⟨b', 0, none⟩) m m] 42) = W3 := ⟨_, rfl⟩
        rw [hW3] at bX kh3 kB3 hA3 hA3' ⊢
        clear hW3
        obtain ⟨q0, q1, q2, g0, g1, g2⟩ := three_cells kh3
        refine (Hc.out _ _ ((hf.below kB3)) bX).mono ?_
        rintro e w' ⟨rfl, rfl⟩
        have kh4 := three_set (y1 := .slice none 0 0) (y2 := .slice none 0 0) (y3 := .slice none 0 0) kh3
        go_wp2_with fail
        refine bodyPost_ret (v := .tuple #[.agg #[.slice none 0 0, .slice none 0 0, .slice none 0 0], .bool false]) (results_cell_row2 rfl _ _ w.heap.size _ _ (0, 0) _ _ rfl rfl kh4 Try.underlying44 rfl (by kernel_rfl)) rfl ?_
        exact ⟨((kB3.setCell (p := ⟨w.heap.size, 0, none⟩) (Nat.le_refl _) _).setCell (p := ⟨w.heap.size, 1, none⟩) (Nat.le_refl _) _).setCell (p := ⟨w.heap.size, 2, none⟩) (Nat.le_refl _) _, .inr ⟨Hn.out, rfl⟩⟩
      · have Hn := Lib.hid (show mpB zs ys fs = true from mp_yes hv hv' (by rw [hlen.out, hlenf.out]; exact Hkn.out) (by rw [hlen'.out]; exact he))
        have Hc := Lib.hid (fun w B h hb => containsNone_any w2.heap.size F k cf B fs (some ⟨b', 0, none⟩) m m w h hb hbigf)
        rw [he] at Hc
        clear he
        go_wp2_with fail
        have bX := Boxed.new w2 42 (.slice (some ⟨b', 0, none⟩) m m)
        have kh3 : (w2.alloc (.cells #[.slice (some ⟨b', 0, none⟩) m m] 42)).heap[w.heap.size]? = some (.cells #[.slice none 0 0, .slice none 0 0, .slice none 0 0] 44 (0, 0)) := (Below.heap_alloc w2 _ w.heap.size (by omega)).trans kh2
        have kB3 : Below w.heap.size w (w2.alloc (.cells #[.slice (some ⟨b', 0, none⟩) m m] 42)) := kB2.alloc (by omega) _
        have hA3 := hAr.alloc (.cells #[.slice (some ⟨b', 0, none⟩) m m] 42)
        have hA3' := hAr'.alloc (.cells #[.slice (some ⟨b', 0, none⟩) m m] 42)
        have hAn : b ≠ w.heap.size := hArn
        have hAn' : b' ≠ w.heap.size := hArn'
        obtain ⟨W3, hW3⟩ : ∃ W3, w2.alloc (.cells #[.slice (some ⟨b', 0, none⟩) m m] 42) = W3 := ⟨_, rfl⟩
        rw [hW3] at bX kh3 kB3 hA3 hA3' ⊢
        clear hW3
        obtain ⟨q0, q1, q2, g0, g1, g2⟩ := three_cells kh3
        refine (Hc.out _ _ ((hf.below kB3)) bX).mono ?_
        rintro e w' ⟨rfl, rfl⟩
        have kh4 := three_set (y1 := .slice (some ⟨b, 0, none⟩) n n) (y2 := .slice (some ⟨b', 0, none⟩) m m) (y3 := .slice F k cf) kh3
        have cX := bX.cell
        go_wp2_with fail
        refine bodyPost_ret (v := .tuple #[tkV (some ⟨b, 0, none⟩) n (some ⟨b', 0, none⟩) m F k cf, .bool true]) (results_cell_row2 rfl _ _ w.heap.size _ _ (0, 0) _ _ rfl rfl kh4 Try.underlying44 rfl (by kernel_rfl)) rfl ?_
        exact ⟨((kB3.setCell (p := ⟨w.heap.size, 0, none⟩) (Nat.le_refl _) _).setCell (p := ⟨w.heap.size, 1, none⟩) (Nat.le_refl _) _).setCell (p := ⟨w.heap.size, 2, none⟩) (Nat.le_refl _) _, .inl ⟨Hn.out, b, b', rfl,
          ((hA3.far (p := ⟨w.heap.size, 0, none⟩) hAn _).far (p := ⟨w.heap.size, 1, none⟩) hAn _).far (p := ⟨w.heap.size, 2, none⟩) hAn _, ((hA3'.far (p := ⟨w.heap.size, 0, none⟩) hAn' _).far (p := ⟨w.heap.size, 1, none⟩) hAn' _).far (p := ⟨w.heap.size, 2, none⟩) hAn' _⟩⟩
    · have Hn := Lib.hid (show mpB zs ys fs = false from mp_no2 (by rw [hlen.out, hlenf.out]; exact hkn))
      have hkn2 : ((k : Int) != (n : Int)) = true := by simp; omega
      clear hkn
      have kh3 : (w2.alloc (.cells #[.slice (some ⟨b', 0, none⟩) m m] 42)).heap[w.heap.size]? = some (.cells #[.slice none 0 0, .slice none 0 0, .slice none 0 0] 44 (0, 0)) := (Below.heap_alloc w2 _ w.heap.size (by omega)).trans kh2
      have kB3 : Below w.heap.size w (w2.alloc (.cells #[.slice (some ⟨b', 0, none⟩) m m] 42)) := kB2.alloc (by omega) _
      obtain ⟨q0, q1, q2, g0, g1, g2⟩ := three_cells kh3
      have kh4 := three_set (y1 := .slice none 0 0) (y2 := .slice none 0 0) (y3 := .slice none 0 0) kh3
      go_wp2_with fail
      refine bodyPost_ret (v := .tuple #[.agg #[.slice none 0 0, .slice none 0 0, .slice none 0 0], .bool false]) (results_cell_row2 rfl _ _ w.heap.size _ _ (0, 0) _ _ rfl rfl kh4 Try.underlying44 rfl (by kernel_rfl)) rfl ?_
      exact ⟨((kB3.setCell (p := ⟨w.heap.size, 0, none⟩) (Nat.le_refl _) _).setCell (p := ⟨w.heap.size, 1, none⟩) (Nat.le_refl _) _).setCell (p := ⟨w.heap.size, 2, none⟩) (Nat.le_refl _) _, .inr ⟨Hn.out, rfl⟩⟩
  · have Hn := Lib.hid (show mpB zs ys fs = false from mp_no1 hno)
    have kh2 := (hB2.block w.heap.size kz0).trans kh0
    have kB2 := kB0.trans (hB2.mono (Nat.le_of_lt kz0))
    have z2 := hB2.size
    clear hno
    have kh3 : (w2.alloc (.cells #[.slice A2 k2 k2] 42)).heap[w.heap.size]? = some (.cells #[.slice none 0 0, .slice none 0 0, .slice none 0 0] 44 (0, 0)) := (Below.heap_alloc w2 _ w.heap.size (by omega)).trans kh2
    have kB3 : Below w.heap.size w (w2.alloc (.cells #[.slice A2 k2 k2] 42)) := kB2.alloc (by omega) _
    obtain ⟨q0, q1, q2, g0, g1, g2⟩ := three_cells kh3
    have kh4 := three_set (y1 := .slice none 0 0) (y2 := .slice none 0 0) (y3 := .slice none 0 0) kh3
    go_wp2_with fail
    refine bodyPost_ret (v := .tuple #[.agg #[.slice none 0 0, .slice none 0 0, .slice none 0 0], .bool false]) (results_cell_row2 rfl _ _ w.heap.size _ _ (0, 0) _ _ rfl rfl kh4 Try.underlying44 rfl (by kernel_rfl)) rfl ?_
    exact ⟨((kB3.setCell (p := ⟨w.heap.size, 0, none⟩) (Nat.le_refl _) _).setCell (p := ⟨w.heap.size, 1, none⟩) (Nat.le_refl _) _).setCell (p := ⟨w.heap.size, 2, none⟩) (Nat.le_refl _) _, .inr ⟨Hn.out, rfl⟩⟩

end Go.Proofs.Ytmlihbcffndnbaa

/- Pairings: the program's. -/
namespace Go.Proofs.Ytmlihbcffndnbaa
open Go.RowKit Go.Shelf
attribute [local go_sem] Oper.semAt_some
attribute [local go_sem, local simp] wide_fn

theorem quiet_left0 {P : Program} {f : FuncId} {args : Array Value} {w : World} {n : Nat} {v : Value}
    (h : Calls P f args (w.drewN n) fun e w' => e = .returned v ∧ w.drewN n = w') :
    Calls P f args (w.drewN n) fun e w'' => e = .returned v ∧ ∃ m, w'' = w.drewN m :=
  h.mono fun _ _ ⟨he, hm⟩ => ⟨he, n, hm.symm⟩

/-- A list one way: from, to, list. -/
def wayV (B : Option Addr) (j : Nat) (A : Option Addr) (m : Nat) (F : Option Addr) (k cf : Nat) : Value := .agg #[.slice B j j, .slice A m m, .slice F k cf]
theorem way_eq (B : Option Addr) (j : Nat) (A : Option Addr) (m : Nat) (F : Option Addr) (k cf : Nat) : tkV B j A m F k cf = wayV B j A m F k cf := rfl

set_option maxRecDepth 100000 in
set_option maxHeartbeats 1000000 in
theorem endsAt_any (B : Option Addr) (j : Nat) (A : Option Addr) (m : Nat) (F : Option Addr) (k cf : Nat) (ys fs : List Int) (x y : Nat) (w : World) (h : Ints w w.heap.size A m ys) (hf : Ints w w.heap.size F k fs) (hv : Sets ys) (he : endsB m fs = true) (hx : x < k) (hy : y < m) :
    Calls Try.prog 68 #[wayV B j A m F k cf, .int .i64 (x : Int), .int .i64 (y : Int)] w fun e w' => e = .returned (.bool (amB ys (itN fs x) y)) ∧ Below w.heap.size w w' := by
  have hlenf := Lib.hid hf.len
  obtain ⟨e1, l1⟩ := ends_it he (k := x) (by rw [hlenf.out]; exact hx)
  obtain ⟨bf, off, rfl, hbf, hcf⟩ := hf.at_ hx
  have hcx := hcf x hx
  rw [e1] at hcx
  clear hcf e1
  unfold wayV
  have kt : (w.alloc (.cells #[.slice B j j, .slice A m m, .slice (some ⟨bf, off, none⟩) k cf] 58)).heap[w.heap.size]? = some (.cells #[.slice B j j, .slice A m m, .slice (some ⟨bf, off, none⟩) k cf] 58 (0, 0)) := heap_alloc_new w _
  obtain ⟨c0, c1, c2, -, -, -⟩ := three_cells kt
  have kB : Below w.heap.size w (w.alloc (.cells #[.slice B j j, .slice A m m, .slice (some ⟨bf, off, none⟩) k cf] 58)) := (Below.refl w.heap.size w).alloc (Nat.le_refl _) _
  have hA1 := h.below kB
  go_enter Try.func68, Try.ntmps68
  go_wp2
  have hao := fun q => isAtOrAbove_any A m m w.heap.size ys (itN fs x) y _ (hA1.drewN q) hv l1 hy
  go_quiet ((go_at_call 78; first | exact quiet_add_left (hao _) | exact quiet_left0 (hao _)))
  go_wp2
  go_ret
  exact ⟨rfl, below_drewN kB _⟩
set_option maxRecDepth 100000 in
set_option maxHeartbeats 1000000 in
theorem startsAt_any (B : Option Addr) (j : Nat) (A : Option Addr) (m : Nat) (F : Option Addr) (k cf : Nat) (zs gs : List Int) (x y : Nat) (w : World) (h : Ints w w.heap.size A m zs) (hf : Ints w w.heap.size F k gs) (hv : Sets zs) (he : endsB m gs = true) (hx : x < m) (hy : y < k) :
    Calls Try.prog 69 #[wayV B j A m F k cf, .int .i64 (x : Int), .int .i64 (y : Int)] w fun e w' => e = .returned (.bool (amB zs x (itN gs y))) ∧ Below w.heap.size w w' := by
  have hlenf := Lib.hid hf.len
  obtain ⟨e1, l1⟩ := ends_it he (k := y) (by rw [hlenf.out]; exact hy)
  obtain ⟨bf, off, rfl, hbf, hcf⟩ := hf.at_ hy
  have hcx := hcf y hy
  rw [e1] at hcx
  clear hcf e1
  unfold wayV
  have kt : (w.alloc (.cells #[.slice B j j, .slice A m m, .slice (some ⟨bf, off, none⟩) k cf] 59)).heap[w.heap.size]? = some (.cells #[.slice B j j, .slice A m m, .slice (some ⟨bf, off, none⟩) k cf] 59 (0, 0)) := heap_alloc_new w _
  obtain ⟨c0, c1, c2, -, -, -⟩ := three_cells kt
  have kB : Below w.heap.size w (w.alloc (.cells #[.slice B j j, .slice A m m, .slice (some ⟨bf, off, none⟩) k cf] 59)) := (Below.refl w.heap.size w).alloc (Nat.le_refl _) _
  have hA1 := h.below kB
  go_enter Try.func69, Try.ntmps69
  go_wp2
  have hao := fun q => isAtOrAbove_any A m m w.heap.size zs x (itN gs y) _ (hA1.drewN q) hv hx l1
  go_quiet ((go_at_call 78; first | exact quiet_add_left (hao _) | exact quiet_left0 (hao _)))
  go_wp2
  go_ret
  exact ⟨rfl, below_drewN kB _⟩

set_option maxRecDepth 100000 in
set_option maxHeartbeats 2000000 in
theorem allEnding_any (B : Option Addr) (j : Nat) (A : Option Addr) (m : Nat) (F : Option Addr) (k cf : Nat) (ys fs : List Int) (y : Nat) (w : World) (h : Ints w w.heap.size A m ys) (hf : Ints w w.heap.size F k fs) (hv : Sets ys) (he : endsB m fs = true) (hy : y < m) (hk6 : k ≤ 6) :
    Calls Try.prog 71 #[wayV B j A m F k cf, .int .i64 (y : Int)] w fun e w' => e = .returned (.int .i64 (enTo ys fs y k)) ∧ Below w.heap.size w w' := by
  have Hc := Lib.hid (fun x w h hf hx => endsAt_any B j A m F k cf ys fs x y w h hf hv he hx hy)
  unfold wayV at Hc ⊢
  have kt0 : (w.alloc (.cells #[.slice B j j, .slice A m m, .slice F k cf] 58)).heap[w.heap.size]? = some (.cells #[.slice B j j, .slice A m m, .slice F k cf] 58 (0, 0)) := heap_alloc_new w _
  obtain ⟨c0, c1, c2, -, -, -⟩ := three_cells kt0
  have kB0 : Below w.heap.size w (w.alloc (.cells #[.slice B j j, .slice A m m, .slice F k cf] 58)) := (Below.refl w.heap.size w).alloc (Nat.le_refl _) _
  have kz0 : w.heap.size < (w.alloc (.cells #[.slice B j j, .slice A m m, .slice F k cf] 58)).heap.size := by simp
  go_enter Try.func71, Try.ntmps71
  go_wp2
  obtain ⟨w1, hw1⟩ : ∃ w1, w.alloc (.cells #[.slice B j j, .slice A m m, .slice F k cf] 58) = w1 := ⟨_, rfl⟩
  rw [hw1] at kt0 kB0 kz0 ⊢
  clear hw1 c0 c1 c2
  go_loopw [5, 10] (fun s i wr => ∃ x : Nat, x ≤ k ∧ i = .int .i64 x ∧ s = .int .i64 (enTo ys fs y x) ∧ Below w.heap.size w wr ∧ Below w1.heap.size w1 wr) (fun _ i _ => k - (intOf i).toNat)
  case atStart => exact ⟨0, by omega, rfl, rfl, kB0, Below.refl _ _⟩
  case round =>
    obtain ⟨x, hx, rfl, rfl, hB, hB1⟩ := hrel
    rename World => wy
    have zy := hB1.size
    have hbd := enTo_bd ys fs y x
    have hpx := powI_le6 (n := (x : Int)) (by omega)
    by_cases hlt : x < k
    · have kt := (hB1.block w.heap.size kz0).trans kt0
      obtain ⟨c0, c1, c2, -, -, -⟩ := three_cells kt
      have hA2 := h.to hB (Nat.le_refl _) hB.size
      have hF2 := hf.to hB (Nat.le_refl _) hB.size
      have Hcx := Lib.hid (Hc.out x wy hA2 hF2 hlt)
      cases ham : amB ys (itN fs x) y
      · have Hs := Lib.hid (enTo_no (ys := ys) (fs := fs) (y := y) (k := x) ham)
        rw [ham] at Hcx
        clear ham hA2 hF2
        go_wp2_with fail
        refine Hcx.out.mono ?_
        clear Hcx
        rintro e w3 ⟨rfl, hB3⟩
        have z3 := hB3.size
        go_wp2_with fail
        go_roundw
        case rel => exact ⟨x + 1, by omega, by go_num, by rw [Hs.out], hB.trans (hB3.mono (by omega)), hB1.trans (hB3.mono (by omega))⟩
        case measure => simp [intOf]; omega
      · have Hs := Lib.hid (enTo_yes (ys := ys) (fs := fs) (y := y) (k := x) ham)
        rw [ham] at Hcx
        clear ham hA2 hF2
        have hw := fun w => with_any (enTo ys fs y x) (x : Int) w (by omega) (by omega) (by omega) (by omega)
        go_wp2_with fail
        refine Hcx.out.mono ?_
        clear Hcx
        rintro e w3 ⟨rfl, hB3⟩
        have z3 := hB3.size
        go_wp2_with (go_at_call 63; refine (hw _).mono ?_; rintro e w' ⟨rfl, rfl⟩)
        go_roundw
        case rel => exact ⟨x + 1, by omega, by go_num, by rw [Hs.out], hB.trans (hB3.mono (by omega)), hB1.trans (hB3.mono (by omega))⟩
        case measure => simp [intOf]; omega
    · obtain rfl : x = k := by omega
      go_wp2
      go_ret
      exact ⟨rfl, hB⟩
/-- A list each way. -/
def prV (B1 : Option Addr) (j1 : Nat) (A1 : Option Addr) (m : Nat) (F : Option Addr) (k cf : Nat) (B2 : Option Addr) (j2 : Nat) (A2 : Option Addr) (n : Nat) (G : Option Addr) (l cg : Nat) : Value :=
  .agg #[.slice B1 j1 j1, .slice A1 m m, .slice F k cf, .slice B2 j2 j2, .slice A2 n n, .slice G l cg]
theorem six_cells {w : World} {b : Nat} {t : TypeId} {x1 x2 x3 x4 x5 x6 : Value} (h : w.heap[b]? = some (.cells #[x1, x2, x3, x4, x5, x6] t (0, 0))) :
    w.cell? ⟨b, 0, none⟩ = some x1 ∧ w.cell? ⟨b, 1, none⟩ = some x2 ∧ w.cell? ⟨b, 2, none⟩ = some x3 ∧ w.cell? ⟨b, 3, none⟩ = some x4 ∧ w.cell? ⟨b, 4, none⟩ = some x5 ∧ w.cell? ⟨b, 5, none⟩ = some x6 := by
  refine ⟨?_, ?_, ?_, ?_, ?_, ?_⟩
  · rw [cell_of_row _ _ 0 _ _ (0, 0) h]; rfl
  · rw [cell_of_row _ _ 1 _ _ (0, 0) h]; rfl
  · rw [cell_of_row _ _ 2 _ _ (0, 0) h]; rfl
  · rw [cell_of_row _ _ 3 _ _ (0, 0) h]; rfl
  · rw [cell_of_row _ _ 4 _ _ (0, 0) h]; rfl
  · rw [cell_of_row _ _ 5 _ _ (0, 0) h]; rfl

set_option maxRecDepth 100000 in
set_option maxHeartbeats 8000000 in
theorem holds_any (B1 : Option Addr) (j1 : Nat) (A1 : Option Addr) (m : Nat) (F : Option Addr) (k cf : Nat) (B2 : Option Addr) (j2 : Nat) (A2 : Option Addr) (n : Nat) (G : Option Addr) (l cg : Nat) (zs ys fs gs : List Int) (w : World)
    (hA : Ints w w.heap.size A1 m ys) (hF : Ints w w.heap.size F k fs) (hB : Ints w w.heap.size A2 n zs) (hG : Ints w w.heap.size G l gs) (hv : Sets zs) (hvy : Sets ys) (hkn : k = n) (hlm : l = m) (he : endsB m fs = true) (he2 : endsB n gs = true) :
    Calls Try.prog 45 #[prV B1 j1 A1 m F k cf B2 j2 A2 n G l cg] w fun e w' => e = .returned (.bool (prB zs ys fs gs)) ∧ Below w.heap.size w w' := by
  have hlenf := Lib.hid hF.len
  have hleng := Lib.hid hG.len
  have hlenz := Lib.hid hB.len
  have hn6 : n ≤ 6 := by have := hv.1; rw [hlenz.out] at this; exact this
  have Hkn := Lib.hid hkn
  have Hlm := Lib.hid hlm
  have hk6 : k ≤ 6 := by omega
  have hm6 : m ≤ 6 := by have := hvy.1; rw [hA.len] at this; exact this
  have hl6 : l ≤ 6 := by omega
  clear hkn hlm
  have HC1 := Lib.hid (fun x y w (hA : Ints w w.heap.size A1 m ys) (hF : Ints w w.heap.size F k fs) (_ : Ints w w.heap.size A2 n zs) (_ : Ints w w.heap.size G l gs) hx hy => endsAt_any B1 j1 A1 m F k cf ys fs x y w hA hF hvy he hx hy)
  have HC2 := Lib.hid (fun x y w (_ : Ints w w.heap.size A1 m ys) (_ : Ints w w.heap.size F k fs) (hB : Ints w w.heap.size A2 n zs) (hG : Ints w w.heap.size G l gs) hx hy => startsAt_any B2 j2 A2 n G l cg zs gs x y w hB hG hv he2 hx hy)
  unfold wayV at HC1 HC2
  unfold prV
  have kt0 : (w.alloc (.cells #[.slice B1 j1 j1, .slice A1 m m, .slice F k cf, .slice B2 j2 j2, .slice A2 n n, .slice G l cg] 61)).heap[w.heap.size]? = some (.cells #[.slice B1 j1 j1, .slice A1 m m, .slice F k cf, .slice B2 j2 j2, .slice A2 n n, .slice G l cg] 61 (0, 0)) := heap_alloc_new w _
  have kB0 : Below w.heap.size w (w.alloc (.cells #[.slice B1 j1 j1, .slice A1 m m, .slice F k cf, .slice B2 j2 j2, .slice A2 n n, .slice G l cg] 61)) := (Below.refl w.heap.size w).alloc (Nat.le_refl _) _
  have kz0 : w.heap.size < (w.alloc (.cells #[.slice B1 j1 j1, .slice A1 m m, .slice F k cf, .slice B2 j2 j2, .slice A2 n n, .slice G l cg] 61)).heap.size := by simp
  obtain ⟨c0, c1, c2, c3, c4, c5⟩ := six_cells kt0
  go_enter Try.func45, Try.ntmps45
  go_wp2
  obtain ⟨w1, hw1⟩ : ∃ w1, w.alloc (.cells #[.slice B1 j1 j1, .slice A1 m m, .slice F k cf, .slice B2 j2 j2, .slice A2 n n, .slice G l cg] 61) = w1 := ⟨_, rfl⟩
  rw [hw1] at kt0 kB0 kz0 ⊢
  clear hw1 c0 c1 c2 c3 c4 c5
  go_loopw [9, 16] (fun i _ wr => ∃ x : Nat, x ≤ k ∧ i = .int .i64 x ∧ (∀ a, a < x → ∀ b, b < l → amB ys (itN fs a) b = amB zs a (itN gs b)) ∧ Below w.heap.size w wr ∧ Below w1.heap.size w1 wr) (fun i _ _ => k - (intOf i).toNat)
  case atStart => exact ⟨0, by omega, rfl, fun a ha => by omega, kB0, Below.refl _ _⟩
  case round =>
    obtain ⟨x, hx, rfl, hall, hC, hC1⟩ := hrel
    rename World => wx
    have Hall := Lib.hid hall
    clear hall
    by_cases hlt : x < k
    · have ktx := (hC1.block w.heap.size kz0).trans kt0
      obtain ⟨c0, c1, c2, c3, c4, c5⟩ := six_cells ktx
      go_wp2
      clear c0 c1 c2 c3 c4 c5
      go_loopw [16] (fun i wr => ∃ y : Nat, y ≤ l ∧ i = .int .i64 y ∧ (∀ b, b < y → amB ys (itN fs x) b = amB zs x (itN gs b)) ∧ Below w.heap.size w wr ∧ Below w1.heap.size w1 wr) (fun i _ => l - (intOf i).toNat)
      case atStart => exact ⟨0, by omega, rfl, fun a ha => by omega, hC, hC1⟩
      case round =>
        clear hC hC1 ktx
        obtain ⟨y, hy, rfl, hin, hC, hC1⟩ := hrel
        rename World => wy
        have Hin := Lib.hid hin
        clear hin
        have zy := hC1.size
        by_cases hly : y < l
        · have kty := (hC1.block w.heap.size kz0).trans kt0
          have hA2 := hA.to hC (Nat.le_refl _) hC.size
          have hF2 := hF.to hC (Nat.le_refl _) hC.size
          have hB2 := hB.to hC (Nat.le_refl _) hC.size
          have hG2 := hG.to hC (Nat.le_refl _) hC.size
          have Hc1 := Lib.hid (fun w a b c d => HC1.out x y w a b c d hlt (by have := Hlm.out; omega))
          have Hc2 := Lib.hid (fun w a b c d => HC2.out x y w a b c d (by have := Hkn.out; omega) hly)
          by_cases heq : amB ys (itN fs x) y = amB zs x (itN gs y)
          · have Hq := Lib.hid heq
            rw [heq] at Hc1
            clear heq
            obtain ⟨b2, hb2⟩ : ∃ b2, amB zs x (itN gs y) = b2 := ⟨_, rfl⟩
            rw [hb2] at Hc1 Hc2
            clear hb2
            go_wp2
            have hud : Upd (fun _ => False) wy wy.drew := (Upd.refl _ wy).drew
            have ktd : wy.drew.heap[w.heap.size]? = some (.cells #[.slice B1 j1 j1, .slice A1 m m, .slice F k cf, .slice B2 j2 j2, .slice A2 n n, .slice G l cg] 61 (0, 0)) := kty
            have hzd : wy.heap.size ≤ wy.drew.heap.size := Nat.le_refl _
            have kd : Below wy.heap.size wy wy.drew := hud.toBelow (fun _ e => e.elim) (Nat.le_refl _)
            refine region_T (S := (fun w' => w'.cell? ⟨w.heap.size, 0, none⟩ = some (.slice B1 j1 j1) ∧ w'.cell? ⟨w.heap.size, 1, none⟩ = some (.slice A1 m m) ∧ w'.cell? ⟨w.heap.size, 2, none⟩ = some (.slice F k cf) ∧ w'.cell? ⟨w.heap.size, 3, none⟩ = some (.slice B2 j2 j2) ∧ w'.cell? ⟨w.heap.size, 4, none⟩ = some (.slice A2 n n) ∧ w'.cell? ⟨w.heap.size, 5, none⟩ = some (.slice G l cg))) 10 (by kernel_rfl) ?_
            obtain ⟨wd, hwd⟩ : ∃ wd, wy.drew = wd := ⟨_, rfl⟩
            rw [hwd] at ktd hzd kd ⊢
            clear hwd hud
            have hSd := six_cells ktd
            refine anyT_take (i := 0) (oi := ?oi0a) (v := .pointer (some ⟨w.heap.size, 0, none⟩)) ?hi0a (by kernel_rfl) ?hq0a ?hy0a (by assumption) ?rest0a
            case hi0a => (simp only [List.getElem?_toArray, List.getElem?_cons_zero]; first | done | rfl)
            case hq0a => first | exact fun _ _ _ h => h | exact fun _ _ _ h => (by cases h.1)
            case hy0a => (refine Or.inl ⟨by rfl, ?_⟩; intro wz hSw; go_simp; first | done | with_reducible rfl | simp | omega)
            try simp only [Act.put, List.setIfInBounds_toArray, List.set_cons_zero, List.set_cons_succ]
            refine anyT_take (i := 1) (oi := ?oi1a) (v := .agg #[.slice B1 j1 j1, .slice A1 m m, .slice F k cf]) ?hi1a (by kernel_rfl) ?hq1a ?hy1a (by assumption) ?rest1a
            case hi1a => (simp only [List.getElem?_toArray, List.getElem?_cons_succ, List.getElem?_cons_zero]; first | done | rfl)
            case hq1a => first | exact fun _ _ _ h => h | exact fun _ _ _ h => (by cases h.1)
            case hy1a => (refine Or.inl ⟨by rfl, ?_⟩; intro wz hSw; obtain ⟨s0, s1, s2, s3, s4, s5⟩ := hSw; go_simp; first | done | with_reducible rfl | simp | omega)
            try simp only [Act.put, List.setIfInBounds_toArray, List.set_cons_zero, List.set_cons_succ]
            refine anyT_take (i := 2) (oi := ?oi2a) (v := .int .i64 (x : Int)) ?hi2a (by kernel_rfl) ?hq2a ?hy2a (by assumption) ?rest2a
            case hi2a => (simp only [List.getElem?_toArray, List.getElem?_cons_succ, List.getElem?_cons_zero]; first | done | rfl)
            case hq2a => first | exact fun _ _ _ h => h | exact fun _ _ _ h => (by cases h.1)
            case hy2a => (refine Or.inl ⟨by rfl, ?_⟩; intro wz hSw; go_simp; first | done | with_reducible rfl | simp | omega)
            try simp only [Act.put, List.setIfInBounds_toArray, List.set_cons_zero, List.set_cons_succ]
            refine anyT_take (i := 3) (oi := ?oi3a) (v := .int .i64 (y : Int)) ?hi3a (by kernel_rfl) ?hq3a ?hy3a (by assumption) ?rest3a
            case hi3a => (simp only [List.getElem?_toArray, List.getElem?_cons_succ, List.getElem?_cons_zero]; first | done | rfl)
            case hq3a => first | exact fun _ _ _ h => h | exact fun _ _ _ h => (by cases h.1)
            case hy3a => (refine Or.inl ⟨by rfl, ?_⟩; intro wz hSw; go_simp; first | done | with_reducible rfl | simp | omega)
            try simp only [Act.put, List.setIfInBounds_toArray, List.set_cons_zero, List.set_cons_succ]
            refine anyT_take (i := 5) (oi := ?oi5a) (v := .pointer (some ⟨w.heap.size, 3, none⟩)) ?hi5a (by kernel_rfl) ?hq5a ?hy5a (by assumption) ?rest5a
            case hi5a => (simp only [List.getElem?_toArray, List.getElem?_cons_succ, List.getElem?_cons_zero]; first | done | rfl)
            case hq5a => first | exact fun _ _ _ h => h | exact fun _ _ _ h => (by cases h.1)
            case hy5a => (refine Or.inl ⟨by rfl, ?_⟩; intro wz hSw; go_simp; first | done | with_reducible rfl | simp | omega)
            try simp only [Act.put, List.setIfInBounds_toArray, List.set_cons_zero, List.set_cons_succ]
            refine anyT_take (i := 6) (oi := ?oi6a) (v := .agg #[.slice B2 j2 j2, .slice A2 n n, .slice G l cg]) ?hi6a (by kernel_rfl) ?hq6a ?hy6a (by assumption) ?rest6a
            case hi6a => (simp only [List.getElem?_toArray, List.getElem?_cons_succ, List.getElem?_cons_zero]; first | done | rfl)
            case hq6a => first | exact fun _ _ _ h => h | exact fun _ _ _ h => (by cases h.1)
            case hy6a => (refine Or.inl ⟨by rfl, ?_⟩; intro wz hSw; obtain ⟨s0, s1, s2, s3, s4, s5⟩ := hSw; go_simp; first | done | with_reducible rfl | simp | omega)
            try simp only [Act.put, List.setIfInBounds_toArray, List.set_cons_zero, List.set_cons_succ]
            refine anyT_take (i := 7) (oi := ?oi7a) (v := .int .i64 (x : Int)) ?hi7a (by kernel_rfl) ?hq7a ?hy7a (by assumption) ?rest7a
            case hi7a => (simp only [List.getElem?_toArray, List.getElem?_cons_succ, List.getElem?_cons_zero]; first | done | rfl)
            case hq7a => first | exact fun _ _ _ h => h | exact fun _ _ _ h => (by cases h.1)
            case hy7a => (refine Or.inl ⟨by rfl, ?_⟩; intro wz hSw; go_simp; first | done | with_reducible rfl | simp | omega)
            try simp only [Act.put, List.setIfInBounds_toArray, List.set_cons_zero, List.set_cons_succ]
            refine anyT_take (i := 8) (oi := ?oi8a) (v := .int .i64 (y : Int)) ?hi8a (by kernel_rfl) ?hq8a ?hy8a (by assumption) ?rest8a
            case hi8a => (simp only [List.getElem?_toArray, List.getElem?_cons_succ, List.getElem?_cons_zero]; first | done | rfl)
            case hq8a => first | exact fun _ _ _ h => h | exact fun _ _ _ h => (by cases h.1)
            case hy8a => (refine Or.inl ⟨by rfl, ?_⟩; intro wz hSw; go_simp; first | done | with_reducible rfl | simp | omega)
            try simp only [Act.put, List.setIfInBounds_toArray, List.set_cons_zero, List.set_cons_succ]
            refine anyT_one (i := 4) (by kernel_rfl) rfl (fun K' hK => ?_)
            go_simp
            refine (Hc1.out wd (hA2.to kd (Nat.le_refl _) kd.size) (hF2.to kd (Nat.le_refl _) kd.size) (hB2.to kd (Nat.le_refl _) kd.size) (hG2.to kd (Nat.le_refl _) kd.size)).mono ?_
            rintro e w3 ⟨rfl, hB3⟩
            have z3 := hB3.size
            have kd3 := kd.trans (hB3.mono kd.size)
            have hS3 := six_cells ((hB3.block w.heap.size (by omega)).trans ktd)
            refine hK.out _ _ (fun _ => hS3) ?_
            clear hK K'
            try simp only [Act.put, List.setIfInBounds_toArray, List.set_cons_zero, List.set_cons_succ]
            refine anyT_one (i := 9) (by kernel_rfl) rfl (fun K' hK => ?_)
            go_simp
            refine (Hc2.out w3 (hA2.to kd3 (Nat.le_refl _) kd3.size) (hF2.to kd3 (Nat.le_refl _) kd3.size) (hB2.to kd3 (Nat.le_refl _) kd3.size) (hG2.to kd3 (Nat.le_refl _) kd3.size)).mono ?_
            rintro e w4 ⟨rfl, hB4⟩
            have z4 := hB4.size
            have kd4 := kd3.trans (hB4.mono kd3.size)
            have hS4 := six_cells ((hB4.block w.heap.size (by omega)).trans ((hB3.block w.heap.size (by omega)).trans ktd))
            refine hK.out _ _ (fun _ => hS4) ?_
            clear hK K'
            try simp only [Act.put, List.setIfInBounds_toArray, List.set_cons_zero, List.set_cons_succ]
            refine anyT_one (i := 10) (by kernel_rfl) rfl (fun K' hK => ?_)
            go_simp
            refine hK.out _ _ (fun h => absurd rfl h) ?_
            clear hK K'
            try simp only [Act.put, List.setIfInBounds_toArray, List.set_cons_zero, List.set_cons_succ]
            refine anyT_done (by kernel_rfl) ?_ _
            go_wp2
            go_roundw
            case rel => exact ⟨y + 1, by omega, by go_num, all_snoc Hin.out Hq.out, hC.trans (kd4.mono hC.size), hC1.trans (kd4.mono zy)⟩
            case measure => simp [intOf]; omega
          · have Hn := Lib.hid (prB_no (zs := zs) (ys := ys) (fs := fs) (gs := gs) (x := x) (y := y) (by rw [hlenf.out]; exact hlt) (by rw [hleng.out]; exact hly) heq)
            obtain ⟨b1, hb1⟩ : ∃ b1, amB ys (itN fs x) y = b1 := ⟨_, rfl⟩
            obtain ⟨b2, hb2⟩ : ∃ b2, amB zs x (itN gs y) = b2 := ⟨_, rfl⟩
            rw [hb1] at Hc1 heq
            rw [hb2] at Hc2 heq
            obtain rfl : b1 = !b2 := by cases b1 <;> cases b2 <;> simp_all
            clear hb1 hb2 heq
            go_wp2
            have hud : Upd (fun _ => False) wy wy.drew := (Upd.refl _ wy).drew
            have ktd : wy.drew.heap[w.heap.size]? = some (.cells #[.slice B1 j1 j1, .slice A1 m m, .slice F k cf, .slice B2 j2 j2, .slice A2 n n, .slice G l cg] 61 (0, 0)) := kty
            have hzd : wy.heap.size ≤ wy.drew.heap.size := Nat.le_refl _
            have kd : Below wy.heap.size wy wy.drew := hud.toBelow (fun _ e => e.elim) (Nat.le_refl _)
            refine region_T (S := (fun w' => w'.cell? ⟨w.heap.size, 0, none⟩ = some (.slice B1 j1 j1) ∧ w'.cell? ⟨w.heap.size, 1, none⟩ = some (.slice A1 m m) ∧ w'.cell? ⟨w.heap.size, 2, none⟩ = some (.slice F k cf) ∧ w'.cell? ⟨w.heap.size, 3, none⟩ = some (.slice B2 j2 j2) ∧ w'.cell? ⟨w.heap.size, 4, none⟩ = some (.slice A2 n n) ∧ w'.cell? ⟨w.heap.size, 5, none⟩ = some (.slice G l cg))) 10 (by kernel_rfl) ?_
            obtain ⟨wd, hwd⟩ : ∃ wd, wy.drew = wd := ⟨_, rfl⟩
            rw [hwd] at ktd hzd kd ⊢
            clear hwd hud
            have hSd := six_cells ktd
            refine anyT_take (i := 0) (oi := ?oi0b) (v := .pointer (some ⟨w.heap.size, 0, none⟩)) ?hi0b (by kernel_rfl) ?hq0b ?hy0b (by assumption) ?rest0b
            case hi0b => (simp only [List.getElem?_toArray, List.getElem?_cons_zero]; first | done | rfl)
            case hq0b => first | exact fun _ _ _ h => h | exact fun _ _ _ h => (by cases h.1)
            case hy0b => (refine Or.inl ⟨by rfl, ?_⟩; intro wz hSw; go_simp; first | done | with_reducible rfl | simp | omega)
            try simp only [Act.put, List.setIfInBounds_toArray, List.set_cons_zero, List.set_cons_succ]
            refine anyT_take (i := 1) (oi := ?oi1b) (v := .agg #[.slice B1 j1 j1, .slice A1 m m, .slice F k cf]) ?hi1b (by kernel_rfl) ?hq1b ?hy1b (by assumption) ?rest1b
            case hi1b => (simp only [List.getElem?_toArray, List.getElem?_cons_succ, List.getElem?_cons_zero]; first | done | rfl)
            case hq1b => first | exact fun _ _ _ h => h | exact fun _ _ _ h => (by cases h.1)
            case hy1b => (refine Or.inl ⟨by rfl, ?_⟩; intro wz hSw; obtain ⟨s0, s1, s2, s3, s4, s5⟩ := hSw; go_simp; first | done | with_reducible rfl | simp | omega)
            try simp only [Act.put, List.setIfInBounds_toArray, List.set_cons_zero, List.set_cons_succ]
            refine anyT_take (i := 2) (oi := ?oi2b) (v := .int .i64 (x : Int)) ?hi2b (by kernel_rfl) ?hq2b ?hy2b (by assumption) ?rest2b
            case hi2b => (simp only [List.getElem?_toArray, List.getElem?_cons_succ, List.getElem?_cons_zero]; first | done | rfl)
            case hq2b => first | exact fun _ _ _ h => h | exact fun _ _ _ h => (by cases h.1)
            case hy2b => (refine Or.inl ⟨by rfl, ?_⟩; intro wz hSw; go_simp; first | done | with_reducible rfl | simp | omega)
            try simp only [Act.put, List.setIfInBounds_toArray, List.set_cons_zero, List.set_cons_succ]
            refine anyT_take (i := 3) (oi := ?oi3b) (v := .int .i64 (y : Int)) ?hi3b (by kernel_rfl) ?hq3b ?hy3b (by assumption) ?rest3b
            case hi3b => (simp only [List.getElem?_toArray, List.getElem?_cons_succ, List.getElem?_cons_zero]; first | done | rfl)
            case hq3b => first | exact fun _ _ _ h => h | exact fun _ _ _ h => (by cases h.1)
            case hy3b => (refine Or.inl ⟨by rfl, ?_⟩; intro wz hSw; go_simp; first | done | with_reducible rfl | simp | omega)
            try simp only [Act.put, List.setIfInBounds_toArray, List.set_cons_zero, List.set_cons_succ]
            refine anyT_take (i := 5) (oi := ?oi5b) (v := .pointer (some ⟨w.heap.size, 3, none⟩)) ?hi5b (by kernel_rfl) ?hq5b ?hy5b (by assumption) ?rest5b
            case hi5b => (simp only [List.getElem?_toArray, List.getElem?_cons_succ, List.getElem?_cons_zero]; first | done | rfl)
            case hq5b => first | exact fun _ _ _ h => h | exact fun _ _ _ h => (by cases h.1)
            case hy5b => (refine Or.inl ⟨by rfl, ?_⟩; intro wz hSw; go_simp; first | done | with_reducible rfl | simp | omega)
            try simp only [Act.put, List.setIfInBounds_toArray, List.set_cons_zero, List.set_cons_succ]
            refine anyT_take (i := 6) (oi := ?oi6b) (v := .agg #[.slice B2 j2 j2, .slice A2 n n, .slice G l cg]) ?hi6b (by kernel_rfl) ?hq6b ?hy6b (by assumption) ?rest6b
            case hi6b => (simp only [List.getElem?_toArray, List.getElem?_cons_succ, List.getElem?_cons_zero]; first | done | rfl)
            case hq6b => first | exact fun _ _ _ h => h | exact fun _ _ _ h => (by cases h.1)
            case hy6b => (refine Or.inl ⟨by rfl, ?_⟩; intro wz hSw; obtain ⟨s0, s1, s2, s3, s4, s5⟩ := hSw; go_simp; first | done | with_reducible rfl | simp | omega)
            try simp only [Act.put, List.setIfInBounds_toArray, List.set_cons_zero, List.set_cons_succ]
            refine anyT_take (i := 7) (oi := ?oi7b) (v := .int .i64 (x : Int)) ?hi7b (by kernel_rfl) ?hq7b ?hy7b (by assumption) ?rest7b
            case hi7b => (simp only [List.getElem?_toArray, List.getElem?_cons_succ, List.getElem?_cons_zero]; first | done | rfl)
            case hq7b => first | exact fun _ _ _ h => h | exact fun _ _ _ h => (by cases h.1)
            case hy7b => (refine Or.inl ⟨by rfl, ?_⟩; intro wz hSw; go_simp; first | done | with_reducible rfl | simp | omega)
            try simp only [Act.put, List.setIfInBounds_toArray, List.set_cons_zero, List.set_cons_succ]
            refine anyT_take (i := 8) (oi := ?oi8b) (v := .int .i64 (y : Int)) ?hi8b (by kernel_rfl) ?hq8b ?hy8b (by assumption) ?rest8b
            case hi8b => (simp only [List.getElem?_toArray, List.getElem?_cons_succ, List.getElem?_cons_zero]; first | done | rfl)
            case hq8b => first | exact fun _ _ _ h => h | exact fun _ _ _ h => (by cases h.1)
            case hy8b => (refine Or.inl ⟨by rfl, ?_⟩; intro wz hSw; go_simp; first | done | with_reducible rfl | simp | omega)
            try simp only [Act.put, List.setIfInBounds_toArray, List.set_cons_zero, List.set_cons_succ]
            refine anyT_one (i := 4) (by kernel_rfl) rfl (fun K' hK => ?_)
            go_simp
            refine (Hc1.out wd (hA2.to kd (Nat.le_refl _) kd.size) (hF2.to kd (Nat.le_refl _) kd.size) (hB2.to kd (Nat.le_refl _) kd.size) (hG2.to kd (Nat.le_refl _) kd.size)).mono ?_
            rintro e w3 ⟨rfl, hB3⟩
            have z3 := hB3.size
            have kd3 := kd.trans (hB3.mono kd.size)
            have hS3 := six_cells ((hB3.block w.heap.size (by omega)).trans ktd)
            refine hK.out _ _ (fun _ => hS3) ?_
            clear hK K'
            try simp only [Act.put, List.setIfInBounds_toArray, List.set_cons_zero, List.set_cons_succ]
            refine anyT_one (i := 9) (by kernel_rfl) rfl (fun K' hK => ?_)
            go_simp
            refine (Hc2.out w3 (hA2.to kd3 (Nat.le_refl _) kd3.size) (hF2.to kd3 (Nat.le_refl _) kd3.size) (hB2.to kd3 (Nat.le_refl _) kd3.size) (hG2.to kd3 (Nat.le_refl _) kd3.size)).mono ?_
            rintro e w4 ⟨rfl, hB4⟩
            have z4 := hB4.size
            have kd4 := kd3.trans (hB4.mono kd3.size)
            have hS4 := six_cells ((hB4.block w.heap.size (by omega)).trans ((hB3.block w.heap.size (by omega)).trans ktd))
            refine hK.out _ _ (fun _ => hS4) ?_
            clear hK K'
            try simp only [Act.put, List.setIfInBounds_toArray, List.set_cons_zero, List.set_cons_succ]
            refine anyT_one (i := 10) (by kernel_rfl) rfl (fun K' hK => ?_)
            go_simp
            refine hK.out _ _ (fun h => absurd rfl h) ?_
            clear hK K'
            try simp only [Act.put, List.setIfInBounds_toArray, List.set_cons_zero, List.set_cons_succ]
            refine anyT_done (by kernel_rfl) ?_ _
            go_wp2
            go_ret
            exact ⟨ret_bool Hn.out.symm, hC.trans (kd4.mono hC.size)⟩
        · obtain rfl : y = l := by omega
          go_wp2
          go_roundw
          case rel => exact ⟨x + 1, by omega, by go_num, all_snoc Hall.out Hin.out, hC, hC1⟩
          case measure => simp [intOf]; omega
    · obtain rfl : x = k := by omega
      have Hn := Lib.hid (show prB zs ys fs gs = true from prB_iff.2 fun a b ha hb => Hall.out a (by rw [← hlenf.out]; exact ha) b (by rw [← hleng.out]; exact hb))
      go_wp2
      go_ret
      exact ⟨ret_bool Hn.out.symm, hC⟩
end Go.Proofs.Ytmlihbcffndnbaa

/- The list that makes a pairing: the program's. -/
namespace Go.Proofs.Ytmlihbcffndnbaa
open Go.RowKit Go.Shelf
attribute [local go_sem] Oper.semAt_some
attribute [local go_sem, local simp] wide_fn

theorem six_frozen {w : World} {b : Nat} {t : TypeId} {x1 x2 x3 x4 x5 x6 : Value} (h : w.heap[b]? = some (.cells #[x1, x2, x3, x4, x5, x6] t (0, 0))) :
    w.frozen? ⟨b, 0, none⟩ = false ∧ w.frozen? ⟨b, 1, none⟩ = false ∧ w.frozen? ⟨b, 2, none⟩ = false ∧ w.frozen? ⟨b, 3, none⟩ = false ∧ w.frozen? ⟨b, 4, none⟩ = false ∧ w.frozen? ⟨b, 5, none⟩ = false :=
  ⟨frozen_of_row _ _ 0 _ _ h, frozen_of_row _ _ 1 _ _ h, frozen_of_row _ _ 2 _ _ h, frozen_of_row _ _ 3 _ _ h, frozen_of_row _ _ 4 _ _ h, frozen_of_row _ _ 5 _ _ h⟩
theorem six_set {w : World} {b : Nat} {t : TypeId} {x1 x2 x3 x4 x5 x6 y1 y2 y3 y4 y5 y6 : Value} (h : w.heap[b]? = some (.cells #[x1, x2, x3, x4, x5, x6] t (0, 0))) :
    ((((((w.setCell ⟨b, 0, none⟩ y1).setCell ⟨b, 1, none⟩ y2).setCell ⟨b, 2, none⟩ y3).setCell ⟨b, 3, none⟩ y4).setCell ⟨b, 4, none⟩ y5).setCell ⟨b, 5, none⟩ y6).heap[b]? = some (.cells #[y1, y2, y3, y4, y5, y6] t (0, 0)) := by
  simp [World.setCell, Array.getElem?_modify, h]
theorem six_upd {w : World} (b : Nat) (y1 y2 y3 y4 y5 y6 : Value) :
    Upd (fun k => k = b) w ((((((w.setCell ⟨b, 0, none⟩ y1).setCell ⟨b, 1, none⟩ y2).setCell ⟨b, 2, none⟩ y3).setCell ⟨b, 3, none⟩ y4).setCell ⟨b, 4, none⟩ y5).setCell ⟨b, 5, none⟩ y6) :=
  ((((((Upd.refl (fun k => k = b) w).setCell (p := ⟨b, 0, none⟩) (.inr rfl) _).setCell (p := ⟨b, 1, none⟩) (.inr rfl) _).setCell (p := ⟨b, 2, none⟩) (.inr rfl) _).setCell (p := ⟨b, 3, none⟩) (.inr rfl) _).setCell (p := ⟨b, 4, none⟩) (.inr rfl) _).setCell (p := ⟨b, 5, none⟩) (.inr rfl) _
theorem OwnS.calls {S : Nat → Prop} {w w' : World} {B : Nat} {e : TypeId} {v : Value} {xs : List Int} (h : OwnS S w B e v xs) (hb : Below w.heap.size w w') : OwnS S w' B e v xs :=
  ⟨h.1, ((show OwnS (fun k => v.ownBlock = some k) w B e v xs from ⟨fun _ hk => hk, h.2⟩).keep (Below.toUpd hb) (fun k hk hr => by have := own_lt' h.2 k hk; omega)).2⟩
theorem six_set5 {w : World} {b : Nat} {t : TypeId} {x1 x2 x3 x4 x5 x6 y : Value} (h : w.heap[b]? = some (.cells #[x1, x2, x3, x4, x5, x6] t (0, 0))) :
    (w.setCell ⟨b, 5, none⟩ y).heap[b]? = some (.cells #[x1, x2, x3, x4, x5, y] t (0, 0)) := by
  simp [World.setCell, Array.getElem?_modify, h]

/-- What the list's pairing gives: it, or nothing. -/
def GivesPr (w : World) (A : Option Addr) (n : Nat) (A' : Option Addr) (m : Nat) (F : Option Addr) (k cf : Nat) (zs ys fs : List Int) (e : Ending) (w' : World) : Prop :=
  Below w.heap.size w w' ∧ ((poB zs ys fs = true ∧ ∃ v, e = .returned (.tuple #[.agg #[.slice A n n, .slice A' m m, .slice F k cf, .slice A' m m, .slice A n n, v], .bool true]) ∧ OwnS (fun k => w.heap.size ≤ k) w' w.heap.size 3 v (gsTo zs ys fs ys.length)) ∨
    (poB zs ys fs = false ∧ ∃ (a1 : Option Addr) (n1 m1 : Nat) (a2 : Option Addr) (n2 m2 : Nat) (a3 : Option Addr) (n3 m3 : Nat) (a4 : Option Addr) (n4 m4 : Nat) (a5 : Option Addr) (n5 m5 : Nat) (a6 : Option Addr) (n6 m6 : Nat), e = .returned (.tuple #[.agg #[.slice a1 n1 m1, .slice a2 n2 m2, .slice a3 n3 m3, .slice a4 n4 m4, .slice a5 n5 m5, .slice a6 n6 m6], .bool false])))

set_option maxRecDepth 100000 in
set_option maxHeartbeats 8000000 in
theorem tPairing_any (A : Option Addr) (n : Nat) (A' : Option Addr) (m : Nat) (F : Option Addr) (k cf : Nat) (zs ys fs : List Int) (w : World) (h : Ints w w.heap.size A n zs) (h' : Ints w w.heap.size A' m ys) (hf : Ints w w.heap.size F k fs) (hm : mpB zs ys fs = true) :
    Calls Try.prog 48 #[tkV A n A' m F k cf] w (GivesPr w A n A' m F k cf zs ys fs) := by
  have hlen := Lib.hid h.len
  have hlen' := Lib.hid h'.len
  have hlenf := Lib.hid hf.len
  have Hm := Lib.hid hm
  obtain ⟨hvo, hvy, hln, hen⟩ := mp_parts hm
  rw [hlen.out, hlenf.out] at hln
  subst hln
  rw [hlen'.out] at hen
  have hk6 : k ≤ 6 := by have := hvo.1; rw [hlen.out] at this; exact this
  have hm6 : m ≤ 6 := by have := hvy.1; rw [hlen'.out] at this; exact this
  obtain ⟨i0, hi0, hz0, hz1, hz2⟩ := info_parts infoInt
  clear hm
  unfold tkV
  have kt : (w.alloc (.cells #[.slice A k k, .slice A' m m, .slice F k cf] 44)).heap[w.heap.size]? = some (.cells #[.slice A k k, .slice A' m m, .slice F k cf] 44 (0, 0)) := heap_alloc_new w _
  have kt2 := (Below.heap_alloc (w.alloc (.cells #[.slice A k k, .slice A' m m, .slice F k cf] 44)) (.cells #[.slice none 0 0, .slice none 0 0, .slice none 0 0, .slice none 0 0, .slice none 0 0, .slice none 0 0] 61) w.heap.size (by simp)).trans kt
  have kt3 := (Below.heap_alloc ((w.alloc (.cells #[.slice A k k, .slice A' m m, .slice F k cf] 44)).alloc (.cells #[.slice none 0 0, .slice none 0 0, .slice none 0 0, .slice none 0 0, .slice none 0 0, .slice none 0 0] 61)) (.cells #[.slice A k k, .slice A' m m, .slice F k cf, .slice A' m m, .slice A k k, .slice none 0 0] 61) w.heap.size (by simp; omega)).trans kt2
  have kr2 : ((w.alloc (.cells #[.slice A k k, .slice A' m m, .slice F k cf] 44)).alloc (.cells #[.slice none 0 0, .slice none 0 0, .slice none 0 0, .slice none 0 0, .slice none 0 0, .slice none 0 0] 61)).heap[w.heap.size + 1]? = some (.cells #[.slice none 0 0, .slice none 0 0, .slice none 0 0, .slice none 0 0, .slice none 0 0, .slice none 0 0] 61 (0, 0)) := by
    have := heap_alloc_new (w.alloc (.cells #[.slice A k k, .slice A' m m, .slice F k cf] 44)) (.cells #[.slice none 0 0, .slice none 0 0, .slice none 0 0, .slice none 0 0, .slice none 0 0, .slice none 0 0] 61)
    rwa [World.size_alloc] at this
  have kr3 := (Below.heap_alloc ((w.alloc (.cells #[.slice A k k, .slice A' m m, .slice F k cf] 44)).alloc (.cells #[.slice none 0 0, .slice none 0 0, .slice none 0 0, .slice none 0 0, .slice none 0 0, .slice none 0 0] 61)) (.cells #[.slice A k k, .slice A' m m, .slice F k cf, .slice A' m m, .slice A k k, .slice none 0 0] 61) (w.heap.size + 1) (by simp)).trans kr2
  have kp3 : (((w.alloc (.cells #[.slice A k k, .slice A' m m, .slice F k cf] 44)).alloc (.cells #[.slice none 0 0, .slice none 0 0, .slice none 0 0, .slice none 0 0, .slice none 0 0, .slice none 0 0] 61)).alloc (.cells #[.slice A k k, .slice A' m m, .slice F k cf, .slice A' m m, .slice A k k, .slice none 0 0] 61)).heap[w.heap.size + 1 + 1]? = some (.cells #[.slice A k k, .slice A' m m, .slice F k cf, .slice A' m m, .slice A k k, .slice none 0 0] 61 (0, 0)) := by
    have := heap_alloc_new ((w.alloc (.cells #[.slice A k k, .slice A' m m, .slice F k cf] 44)).alloc (.cells #[.slice none 0 0, .slice none 0 0, .slice none 0 0, .slice none 0 0, .slice none 0 0, .slice none 0 0] 61)) (.cells #[.slice A k k, .slice A' m m, .slice F k cf, .slice A' m m, .slice A k k, .slice none 0 0] 61)
    rwa [World.size_alloc, World.size_alloc] at this
  have kB3 : Below w.heap.size w (((w.alloc (.cells #[.slice A k k, .slice A' m m, .slice F k cf] 44)).alloc (.cells #[.slice none 0 0, .slice none 0 0, .slice none 0 0, .slice none 0 0, .slice none 0 0, .slice none 0 0] 61)).alloc (.cells #[.slice A k k, .slice A' m m, .slice F k cf, .slice A' m m, .slice A k k, .slice none 0 0] 61)) := (((Below.refl w.heap.size w).alloc (Nat.le_refl _) _).alloc (by simp) _).alloc (by simp; omega) _
  have kz3 : (((w.alloc (.cells #[.slice A k k, .slice A' m m, .slice F k cf] 44)).alloc (.cells #[.slice none 0 0, .slice none 0 0, .slice none 0 0, .slice none 0 0, .slice none 0 0, .slice none 0 0] 61)).alloc (.cells #[.slice A k k, .slice A' m m, .slice F k cf, .slice A' m m, .slice A k k, .slice none 0 0] 61)).heap.size = w.heap.size + 3 := by simp
  obtain ⟨c0, c1, c2, -, -, -⟩ := three_cells kt2
  go_enter Try.func48, Try.ntmps48
  go_wp2_with fail
  obtain ⟨w3, hw3⟩ : ∃ w3, ((w.alloc (.cells #[.slice A k k, .slice A' m m, .slice F k cf] 44)).alloc (.cells #[.slice none 0 0, .slice none 0 0, .slice none 0 0, .slice none 0 0, .slice none 0 0, .slice none 0 0] 61)).alloc (.cells #[.slice A k k, .slice A' m m, .slice F k cf, .slice A' m m, .slice A k k, .slice none 0 0] 61) = w3 := ⟨_, rfl⟩
  rw [hw3] at kt3 kr3 kp3 kB3 kz3 ⊢
  obtain ⟨kza, kzb⟩ : w.heap.size + 3 ≤ w3.heap.size ∧ w3.heap.size ≤ w.heap.size + 3 := by omega
  clear hw3 kt kt2 kr2 c0 c1 c2 kz3
  refine (dual_any A k k zs hvo.sets w3 (h.to kB3 (Nat.le_refl _) (by omega))).mono ?_
  rintro e w4 ⟨rfl, hAd, hB4⟩
  have hdz : downP k (pairsL zs) = du zs := by unfold du; rw [hlen.out]
  rw [hdz] at hAd
  have hdl := hAd.lt
  have kt4 := (hB4.block w.heap.size (by omega)).trans kt3
  have kr4 := (hB4.block (w.heap.size + 1) (by omega)).trans kr3
  have kp4 := (hB4.block (w.heap.size + 1 + 1) (by omega)).trans kp3
  have kB4 := kB3.trans (hB4.mono (by omega))
  have z4 := hB4.size
  have hgb := fun y => gI_bd zs ys fs y
  rw [hlen.out] at hgb
  have Hgn := Lib.hid (fun y (hy : y < m) (hg : gI zs ys fs y < 0) => (show poB zs ys fs = false by unfold poB; rw [gAll_no (by rw [hlen'.out]; exact hy) hg]; simp))
  have Hen := Lib.hid (fun y => enTo_bd ys fs y k)
  have HgI := Lib.hid (fun y => show jnI (du zs) (enTo ys fs y k) = gI zs ys fs y by unfold gI; rw [hlen.out])
  obtain ⟨d0, d1, d2, -, -, -⟩ := three_cells kt4
  clear kt3 kr3 kp3 hdz
  go_wp2_with fail
  clear d0 d1 d2
  go_loopw [22] (fun i wr => ∃ (y : Nat) (v : Value), y ≤ m ∧ i = .int .i64 y ∧ (∀ a, a < y → 0 ≤ gI zs ys fs a) ∧ OwnS (fun j => w4.heap.size ≤ j) wr w.heap.size 3 v (gsTo zs ys fs y) ∧ wr.heap[w.heap.size + 1 + 1]? = some (.cells #[.slice A k k, .slice A' m m, .slice F k cf, .slice A' m m, .slice A k k, v] 61 (0, 0)) ∧ Upd (fun j => j = w.heap.size + 1 + 1 ∨ w4.heap.size ≤ j) w4 wr) (fun i _ => m - (intOf i).toNat)
  case atStart => exact ⟨0, _, by omega, rfl, fun a ha => by omega, OwnS.none _ _ _ _, kp4, Upd.refl _ _⟩
  case round =>
    obtain ⟨y, v, hy, rfl, hall, hO, kp, hU⟩ := hrel
    rename World => wy
    have Hall := Lib.hid hall
    clear hall
    have zy := hU.size
    have kB : Below w.heap.size w wy := kB4.trans (hU.toBelow (fun j hj => by omega) (by omega))
    have kt := (hU.block w.heap.size (by omega) (by omega)).trans kt4
    have kr := (hU.block (w.heap.size + 1) (by omega) (by omega)).trans kr4
    have hAd2 := hAd.upd hU (by omega)
    have hlw := kB.size
    by_cases hlt : y < m
    · have Hb1 := Lib.hid (allEnding_any A k A' m F k cf ys fs y wy (h'.to kB (Nat.le_refl _) hlw) (hf.to kB (Nat.le_refl _) hlw) hvy.sets hen hlt hk6)
      unfold wayV at Hb1
      obtain ⟨p0, p1, p2, p3, p4, p5⟩ := six_cells kp
      have hel := Hen.out y
      go_wp2_with fail
      refine Hb1.out.mono ?_
      clear Hb1
      rintro e w5 ⟨rfl, hB5⟩
      have z5 := hB5.size
      have hAd3 := hAd2.below hB5 hAd2.lt
      have kp5 := (hB5.block (w.heap.size + 1 + 1) (by omega)).trans kp
      have kr5 := (hB5.block (w.heap.size + 1) (by omega)).trans kr
      have hO5 := hO.calls hB5
      have hU5 := hU.below hB5 (fun j h1 h2 => by omega)
      clear p0 p1 p2 p3 p4 p5
      go_wp2_with fail
      refine (least_any (some ⟨w3.heap.size, 0, none⟩) k k (du zs) (enTo ys fs y k) (du_vo hvo).sets w5 (hAd3.ints' hAd3.lt (by rw [du_len, hlen.out])) hel.1 hel.2).mono ?_
      rintro e w6 ⟨rfl, hB6⟩
      have z6 := hB6.size
      have kp6 := (hB6.block (w.heap.size + 1 + 1) (by omega)).trans kp5
      have kr6 := (hB6.block (w.heap.size + 1) (by omega)).trans kr5
      have hO6 := hO5.calls hB6
      have hU6 := hU5.below hB6 (fun j h1 h2 => by omega)
      have hgy := hgb y
      clear hU hU5 hO hO5 kp kp5 kr kr5 hB5 hB6 hAd3
      by_cases hg : gI zs ys fs y < 0
      · have Hn := Lib.hid (Hgn.out y hlt hg)
        have HV := Lib.hid (show lsV (du zs) (enTo ys fs y k) = .tuple #[.int .i64 0, .bool false] by unfold lsV; rw [HgI.out y, if_pos hg])
        rw [HV.out]
        obtain ⟨r0, r1, r2, r3, r4, r5⟩ := six_cells kr6
        obtain ⟨f0, f1, f2, f3, f4, f5⟩ := six_frozen kr6
        have kr7 := six_set (y1 := .slice none 0 0) (y2 := .slice none 0 0) (y3 := .slice none 0 0) (y4 := .slice none 0 0) (y5 := .slice none 0 0) (y6 := .slice none 0 0) kr6
        have hU7 := six_upd (w := w6) (w.heap.size + 1) (.slice none 0 0) (.slice none 0 0) (.slice none 0 0) (.slice none 0 0) (.slice none 0 0) (.slice none 0 0)
        clear hg
        go_wp2_with fail
        refine bodyPost_ret (v := .tuple #[.agg #[.slice none 0 0, .slice none 0 0, .slice none 0 0, .slice none 0 0, .slice none 0 0, .slice none 0 0], .bool false]) (results_cell_row2 rfl _ _ (w.heap.size + 1) _ _ (0, 0) _ _ rfl rfl kr7 Try.underlying61 rfl (by kernel_rfl)) rfl ?_
        exact ⟨kB4.trans ((hU6.toBelow (fun j hj => by omega) (by omega)).trans (hU7.toBelow (fun j hj => by omega) (by omega))), .inr ⟨Hn.out, _, _, _, _, _, _, _, _, _, _, _, _, _, _, _, _, _, _, rfl⟩⟩
      · obtain ⟨g, hgg⟩ : ∃ g : Nat, gI zs ys fs y = (g : Int) := ⟨(gI zs ys fs y).toNat, by omega⟩
        have HV := Lib.hid (show lsV (du zs) (enTo ys fs y k) = .tuple #[.int .i64 (g : Int), .bool true] by unfold lsV; rw [HgI.out y, if_neg hg, hgg])
        rw [HV.out]
        have Hsn := Lib.hid (show gsTo zs ys fs (y + 1) = gsTo zs ys fs y ++ [(g : Int)] by rw [gsTo_succ, hgg])
        have Hgl := Lib.hid (show (gsTo zs ys fs y).length = y from gsTo_len _ _ _ _)
        have Hg0 := Lib.hid (show 0 ≤ gI zs ys fs y by omega)
        have hg6 : g < 6 := by omega
        obtain ⟨p0, p1, p2, p3, p4, p5⟩ := six_cells kp6
        have hvb := hO6.1
        clear hgg hg hgy HV
        go_wp2_with (at_builtin; refine wpList_append1 _ rfl (.tmp 39) (.tmp 41) _ rfl w.heap.size 3 i0 _ 8 Try.underlying22 hi0 hz0 hz1 hz2 rfl _ (gsTo zs ys fs y).length _ rfl (hO6.2.alloc _) w6.heap.size 1 (.int .i64 (g : Int)) rfl (cell_new _ _ _) rfl (by rw [Hgl.out]; omega) (by rw [Hgl.out]; omega) (by simp; omega) ?_; go_loud (rintro v' w' hown' hg' hv'; have hU7 : Upd (fun j => w4.heap.size ≤ j) w6 w' := ((Upd.refl (fun j => w4.heap.size ≤ j) w6).alloc _).grown hg' (fun j hj => .inr (hvb j hj)); have kp7 := (hU7.block (w.heap.size + 1 + 1) (by omega) (by omega)).trans kp6; have zg := hU7.size; clear p0 p1 p2 p3 p4 p5; obtain ⟨p0, p1, p2, p3, p4, p5⟩ := six_cells kp7; obtain ⟨f0, f1, f2, f3, f4, f5⟩ := six_frozen kp7; have hO7 : OwnS (fun j => w4.heap.size ≤ j) w' w.heap.size 3 v' (gsTo zs ys fs (y + 1)) := (by rw [Hsn.out]; exact OwnS.step hO6 hown' hv' (fun j hj => hj) (fun _ => by omega)); obtain ⟨g', cap', hvv⟩ := own_some hown' (by omega); subst hvv))
        have kp8 := six_set5 (y := .slice (some ⟨g', 0, none⟩) ((gsTo zs ys fs y).length + 1) cap') kp7
        have hs8 : Upd (fun j => j = w.heap.size + 1 + 1) w' (w'.setCell ⟨w.heap.size + 1 + 1, 5, none⟩ (.slice (some ⟨g', 0, none⟩) ((gsTo zs ys fs y).length + 1) cap')) := (Upd.refl (fun j => j = w.heap.size + 1 + 1) w').setCell (p := ⟨w.heap.size + 1 + 1, 5, none⟩) (.inr rfl) _
        have hO8 := hO7.keep hs8 (fun j hj e => by omega)
        have hU8 := (hU6.trans' hU7 (fun j hj e => .inr e)).trans' hs8 (fun j hj e => .inl e)
        go_roundw
        case rel => exact ⟨y + 1, _, by omega, by go_num, all_snoc Hall.out Hg0.out, hO8, kp8, hU8⟩
        case measure => simp [intOf]; omega
    · obtain rfl : y = m := by omega
      have Hga := Lib.hid (show gAll zs ys fs = true from gAll_iff.2 fun a ha => Hall.out a (by rw [← hlen'.out]; exact ha))
      have Hpr := Lib.hid (po_pr Hm.out Hga.out)
      have Hge := Lib.hid (show endsB k (gsTo zs ys fs y) = true by
        have := gs_ends (zs := zs) (ys := ys) (fs := fs) Hall.out
        rwa [hlen.out] at this)
      rw [hlen'.out] at Hpr
      have Hgl := Lib.hid (show (gsTo zs ys fs y).length = y from gsTo_len _ _ _ _)
      obtain ⟨G, cg, rfl, hG⟩ := ints_of_own hO.2
      rw [Hgl.out] at hG kp hO
      have Hh := Lib.hid (fun w h1 h2 h3 h4 => holds_any A k A' y F k cf A' y A k G y cg zs ys fs (gsTo zs ys fs y) w h1 h2 h3 h4 hvo.sets hvy.sets rfl rfl hen Hge.out)
      unfold prV at Hh
      rw [Hpr.out] at Hh
      have HP := Lib.hid (show poB zs ys fs = riB zs ys fs by unfold poB; rw [Hm.out, Hga.out]; simp)
      rw [← HP.out] at Hh
      go_wp2
      have hud : Upd (fun _ => False) wy wy.drew := (Upd.refl _ wy).drew
      have kpd : wy.drew.heap[w.heap.size + 1 + 1]? = some (.cells #[.slice A k k, .slice A' y y, .slice F k cf, .slice A' y y, .slice A k k, .slice G y cg] 61 (0, 0)) := kp
      have krd : wy.drew.heap[w.heap.size + 1]? = some (.cells #[.slice none 0 0, .slice none 0 0, .slice none 0 0, .slice none 0 0, .slice none 0 0, .slice none 0 0] 61 (0, 0)) := kr
      have kd : Below wy.heap.size wy wy.drew := hud.toBelow (fun _ e => e.elim) (Nat.le_refl _)
      have hzd := kd.size
      have hOd := hO.calls kd
      have hGd := hG.to kd (Nat.le_refl _) hzd
      have kBd := kB.trans (kd.mono hlw)
      refine region_T (S := (fun w' => w'.cell? ⟨w.heap.size + 1 + 1, 0, none⟩ = some (.slice A k k) ∧ w'.cell? ⟨w.heap.size + 1 + 1, 1, none⟩ = some (.slice A' y y) ∧ w'.cell? ⟨w.heap.size + 1 + 1, 2, none⟩ = some (.slice F k cf) ∧ w'.cell? ⟨w.heap.size + 1 + 1, 3, none⟩ = some (.slice A' y y) ∧ w'.cell? ⟨w.heap.size + 1 + 1, 4, none⟩ = some (.slice A k k) ∧ w'.cell? ⟨w.heap.size + 1 + 1, 5, none⟩ = some (.slice G y cg))) 4 (by kernel_rfl) ?_
      obtain ⟨wd, hwd⟩ : ∃ wd, wy.drew = wd := ⟨_, rfl⟩
      rw [hwd] at kpd krd kd hzd hOd hGd kBd ⊢
      clear hwd hud
      have hSd := six_cells kpd
      refine anyT_take (i := 0) (oi := ?oi0a) (v := .agg #[.slice A k k, .slice A' y y, .slice F k cf, .slice A' y y, .slice A k k, .slice G y cg]) ?hi0a (by kernel_rfl) ?hq0a ?hy0a (by assumption) ?rest0a
      case hi0a => (simp only [List.getElem?_toArray, List.getElem?_cons_zero]; first | done | rfl)
      case hq0a => first | exact fun _ _ _ h => h | exact fun _ _ _ h => (by cases h.1)
      case hy0a => (refine Or.inl ⟨by rfl, ?_⟩; intro wz hSw; obtain ⟨s0, s1, s2, s3, s4, s5⟩ := hSw; go_simp; first | done | with_reducible rfl | simp | omega)
      try simp only [Act.put, List.setIfInBounds_toArray, List.set_cons_zero, List.set_cons_succ]
      refine anyT_take (i := 1) (oi := ?oi1a) (v := .agg #[.slice A k k, .slice A' y y, .slice F k cf, .slice A' y y, .slice A k k, .slice G y cg]) ?hi1a (by kernel_rfl) ?hq1a ?hy1a (by assumption) ?rest1a
      case hi1a => (simp only [List.getElem?_toArray, List.getElem?_cons_succ, List.getElem?_cons_zero]; first | done | rfl)
      case hq1a => first | exact fun _ _ _ h => h | exact fun _ _ _ h => (by cases h.1)
      case hy1a => (refine Or.inl ⟨by rfl, ?_⟩; intro wz hSw; obtain ⟨s0, s1, s2, s3, s4, s5⟩ := hSw; go_simp; first | done | with_reducible rfl | simp | omega)
      try simp only [Act.put, List.setIfInBounds_toArray, List.set_cons_zero, List.set_cons_succ]
      refine anyT_one (i := 2) (by kernel_rfl) rfl (fun K' hK => ?_)
      go_simp
      refine (Hh.out wd (h'.to kBd (Nat.le_refl _) kBd.size) (hf.to kBd (Nat.le_refl _) kBd.size) (h.to kBd (Nat.le_refl _) kBd.size) hGd).mono ?_
      rintro e w6 ⟨rfl, hB6⟩
      have z6 := hB6.size
      have kp6 := (hB6.block (w.heap.size + 1 + 1) (by omega)).trans kpd
      have kr6 := (hB6.block (w.heap.size + 1) (by omega)).trans krd
      have hO6 := hOd.calls hB6
      have kB6 := kBd.trans (hB6.mono (by omega))
      have hS6 := six_cells kp6
      refine hK.out _ _ (fun _ => hS6) ?_
      clear hK K'
      try simp only [Act.put, List.setIfInBounds_toArray, List.set_cons_zero, List.set_cons_succ]
      obtain ⟨r0, r1, r2, r3, r4, r5⟩ := six_cells kr6
      obtain ⟨f0, f1, f2, f3, f4, f5⟩ := six_frozen kr6
      have hU7 := six_upd (w := w6) (w.heap.size + 1) (.slice A k k) (.slice A' y y) (.slice F k cf) (.slice A' y y) (.slice A k k) (.slice G y cg)
      have kr7 := six_set (y1 := .slice A k k) (y2 := .slice A' y y) (y3 := .slice F k cf) (y4 := .slice A' y y) (y5 := .slice A k k) (y6 := .slice G y cg) kr6
      have hO7 := hO6.keep hU7 (fun j hj e => by omega)
      have kp7 := (hU7.block (w.heap.size + 1 + 1) (by omega) (by omega)).trans kp6
      have kB7 := kB6.trans (hU7.toBelow (fun j hj => by omega) (by omega))
      have hS7 := six_cells kp7
      refine anyT_one (i := 3) (by kernel_rfl) rfl (fun K' hK => ?_)
      go_simp
      refine hK.out _ _ (fun _ => hS7) ?_
      clear hK K'
      try simp only [Act.put, List.setIfInBounds_toArray, List.set_cons_zero, List.set_cons_succ]
      refine anyT_one (i := 4) (by kernel_rfl) rfl (fun K' hK => ?_)
      go_simp
      refine hK.out _ _ (fun h => absurd rfl h) ?_
      clear hK K'
      try simp only [Act.put, List.setIfInBounds_toArray, List.set_cons_zero, List.set_cons_succ]
      refine anyT_done (by kernel_rfl) ?_ _
      go_wp2
      refine bodyPost_ret (v := .tuple #[.agg #[.slice A k k, .slice A' y y, .slice F k cf, .slice A' y y, .slice A k k, .slice G y cg], .bool (poB zs ys fs)]) (results_cell_row2 rfl _ _ (w.heap.size + 1) _ _ (0, 0) _ _ rfl rfl kr7 Try.underlying61 rfl (by kernel_rfl)) rfl ?_
      refine ⟨kB7, ?_⟩
      cases hpo : poB zs ys fs
      · exact .inr ⟨rfl, _, _, _, _, _, _, _, _, _, _, _, _, _, _, _, _, _, _, rfl⟩
      · exact .inl ⟨rfl, _, rfl, fun j hj => (by have := hO7.1 j hj; omega), by rw [hlen'.out]; exact hO7.2⟩
end Go.Proofs.Ytmlihbcffndnbaa

/- PairOf: the program's, whole. -/
namespace Go.Proofs.Ytmlihbcffndnbaa
open Go.RowKit Go.Shelf
attribute [local go_sem] Oper.semAt_some
attribute [local go_sem, local simp] wide_fn

theorem poR_len (zs ys fs : List Int) : (poR zs ys fs).length ≤ 1048576 := by
  unfold poR
  cases h : poB zs ys fs
  · simp
  · have hv : VoP ys := by
      unfold poB at h
      rw [Bool.and_eq_true] at h
      exact (mp_parts h.1).2.1
    have := hv.1
    simp only [if_true]
    rw [gsTo_len]; omega

set_option maxRecDepth 100000 in
set_option maxHeartbeats 2000000 in
theorem PairOf_any (A : Option Addr) (n c : Nat) (zs : List Int) (A' : Option Addr) (m c' : Nat) (ys : List Int) (F : Option Addr) (k cf : Nat) (fs : List Int) (w : World) (h : Ints w w.heap.size A n zs) (h' : Ints w w.heap.size A' m ys) (hf : Ints w w.heap.size F k fs)
    (hbig : n ≤ 1152921504606846976) (hbig' : m ≤ 1152921504606846976) (hbigf : k ≤ 1152921504606846976) :
    Calls Try.prog 23 #[.slice A n c, .slice A' m c', .slice F k cf] w (GivesAtV w (poR zs ys fs) (poB zs ys fs)) := by
  have hlen := Lib.hid h.len
  have hlen' := Lib.hid h'.len
  have hlenf := Lib.hid hf.len
  go_enter Try.func23, Try.ntmps23
  go_wp2_with fail
  refine (readTaking_any A n c zs A' m c' ys F k cf fs w h h' hf hbig hbig' hbigf).mono ?_
  rintro e w2 ⟨hB2, (⟨hm, b, b', rfl, hAr, hAr'⟩ | ⟨hm, rfl⟩)⟩
  · have z2 := hB2.size
    have Hm := Lib.hid hm
    clear hm
    unfold tkV
    have kt : (w2.alloc (.cells #[.slice (some ⟨b, 0, none⟩) n n, .slice (some ⟨b', 0, none⟩) m m, .slice F k cf] 44)).heap[w2.heap.size]? = some (.cells #[.slice (some ⟨b, 0, none⟩) n n, .slice (some ⟨b', 0, none⟩) m m, .slice F k cf] 44 (0, 0)) := heap_alloc_new w2 _
    obtain ⟨c0, c1, c2, -, -, -⟩ := three_cells kt
    have kB3 := hB2.alloc z2 (.cells #[.slice (some ⟨b, 0, none⟩) n n, .slice (some ⟨b', 0, none⟩) m m, .slice F k cf] 44)
    have hA3 := hAr.alloc (.cells #[.slice (some ⟨b, 0, none⟩) n n, .slice (some ⟨b', 0, none⟩) m m, .slice F k cf] 44)
    have hA3' := hAr'.alloc (.cells #[.slice (some ⟨b, 0, none⟩) n n, .slice (some ⟨b', 0, none⟩) m m, .slice F k cf] 44)
    have z3 : w2.heap.size < (w2.alloc (.cells #[.slice (some ⟨b, 0, none⟩) n n, .slice (some ⟨b', 0, none⟩) m m, .slice F k cf] 44)).heap.size := by simp
    go_wp2_with fail
    obtain ⟨w3, hw3⟩ : ∃ w3, w2.alloc (.cells #[.slice (some ⟨b, 0, none⟩) n n, .slice (some ⟨b', 0, none⟩) m m, .slice F k cf] 44) = w3 := ⟨_, rfl⟩
    rw [hw3] at kB3 hA3 hA3' z3 ⊢
    clear hw3 kt c0 c1 c2
    have hp := tPairing_any (some ⟨b, 0, none⟩) n (some ⟨b', 0, none⟩) m F k cf zs ys fs w3 (hA3.ints' hA3.lt hlen.out) (hA3'.ints' hA3'.lt hlen'.out) (hf.to kB3 (Nat.le_refl _) (by omega)) Hm.out
    unfold tkV at hp
    refine hp.mono ?_
    clear hp
    rintro e w4 ⟨hB4, (⟨hpo, v, rfl, hO⟩ | ⟨hpo, a1, n1, m1, a2, n2, m2, a3, n3, m3, a4, n4, m4, a5, n5, m5, a6, n6, m6, rfl⟩)⟩
    · have Hb := Lib.hid hpo
      have Ht := Lib.hid (show poR zs ys fs = gsTo zs ys fs m by unfold poR; rw [hpo, hlen'.out]; rfl)
      have z4 := hB4.size
      rw [hlen'.out] at hO
      have Hgl := Lib.hid (show (gsTo zs ys fs m).length = m from gsTo_len _ _ _ _)
      obtain ⟨G, cg, rfl, hV⟩ := rowV_of_own hO.2
      rw [Hgl.out] at hV ⊢
      clear hO hpo
      have kq : (w4.alloc (.cells #[.slice (some ⟨b, 0, none⟩) n n, .slice (some ⟨b', 0, none⟩) m m, .slice F k cf, .slice (some ⟨b', 0, none⟩) m m, .slice (some ⟨b, 0, none⟩) n n, .slice G m cg] 61)).heap[w4.heap.size]? = some (.cells #[.slice (some ⟨b, 0, none⟩) n n, .slice (some ⟨b', 0, none⟩) m m, .slice F k cf, .slice (some ⟨b', 0, none⟩) m m, .slice (some ⟨b, 0, none⟩) n n, .slice G m cg] 61 (0, 0)) := heap_alloc_new w4 _
      obtain ⟨p0, p1, p2, p3, p4, p5⟩ := six_cells kq
      have kB5 := (kB3.trans (hB4.mono (by omega))).alloc (by omega) (.cells #[.slice (some ⟨b, 0, none⟩) n n, .slice (some ⟨b', 0, none⟩) m m, .slice F k cf, .slice (some ⟨b', 0, none⟩) m m, .slice (some ⟨b, 0, none⟩) n n, .slice G m cg] 61)
      have hu5 : Upd (fun _ => False) w4 (w4.alloc (.cells #[.slice (some ⟨b, 0, none⟩) n n, .slice (some ⟨b', 0, none⟩) m m, .slice F k cf, .slice (some ⟨b', 0, none⟩) m m, .slice (some ⟨b, 0, none⟩) n n, .slice G m cg] 61)) := (Upd.refl _ w4).alloc _
      have hV5 := (hV.upd hu5 (fun j e => e.elim)).more (lo' := w.heap.size) (hi' := (w4.alloc (.cells #[.slice (some ⟨b, 0, none⟩) n n, .slice (some ⟨b', 0, none⟩) m m, .slice F k cf, .slice (some ⟨b', 0, none⟩) m m, .slice (some ⟨b, 0, none⟩) n n, .slice G m cg] 61)).heap.size) (by omega) hu5.size
      go_wp2_with fail
      go_ret2
      exact ⟨G, m, cg, by rw [Hb.out]; rfl, by rw [Ht.out]; exact hV5, kB5⟩
    · have Hb := Lib.hid hpo
      have Ht := Lib.hid (show poR zs ys fs = [] by unfold poR; rw [hpo]; rfl)
      have z4 := hB4.size
      clear hpo
      have kB5 := (kB3.trans (hB4.mono (by omega))).alloc (by omega) (.cells #[.slice a1 n1 m1, .slice a2 n2 m2, .slice a3 n3 m3, .slice a4 n4 m4, .slice a5 n5 m5, .slice a6 n6 m6] 61)
      go_wp2_with fail
      go_ret2
      exact ⟨none, 0, 0, by rw [Hb.out]; rfl, by rw [Ht.out]; exact RowV.nil _ _ _ _, kB5⟩
  · have Hb := Lib.hid (show poB zs ys fs = false by unfold poB; rw [hm]; rfl)
    have Ht := Lib.hid (show poR zs ys fs = [] by unfold poR; rw [Hb.out]; rfl)
    have z2 := hB2.size
    have kB3 := hB2.alloc z2 (.cells #[.slice none 0 0, .slice none 0 0, .slice none 0 0] 44)
    clear hm
    go_wp2_with fail
    go_ret2
    exact ⟨none, 0, 0, by rw [Hb.out]; rfl, by rw [Ht.out]; exact RowV.nil _ _ _ _, kB3⟩
end Go.Proofs.Ytmlihbcffndnbaa

/- The list that makes a pairing: the model's. -/
namespace Go.Proofs.Ytmlihbcffndnbaa
open Go.RowKit Go.Shelf
attribute [local go_sem] Oper.semAt_some
attribute [local go_sem, local simp] wide_fn

theorem anyT_more {P : Program} {ops : Array Oper} {Q : Exit → Act → World → Prop} {md : Region.Mode} {S S' : World → Prop} {z : Nat} (hS : ∀ w, S' w → S w) :
    ∀ (fuel : Nat) (listed : Array Bool) (a : Act) (w : World), anyT P md ops Q S' z fuel listed a w → anyT P md ops Q S z fuel listed a w
  | 0, _, _, _, h => h
  | fuel + 1, _, _, _, h => ⟨h.1, fun i hi => wpOp_mono (fun a' w' h' => ⟨fun hz => hS _ (h'.1 hz), anyT_more hS fuel _ a' w' h'.2⟩) (h.2 i hi)⟩
/-- What the model's top is, so far. -/
def topOk (zs : List Int) (s : Int) (x : Nat) (t : Int) : Prop := (t = -1 ∧ ∀ j, j < x → jnB (du zs) s j = false) ∨ ∃ c : Nat, c < x ∧ t = c ∧ jnB (du zs) s c = true
theorem topOk_bd {zs : List Int} {s : Int} {x : Nat} {t : Int} (h : topOk zs s x t) : -1 ≤ t ∧ t < (x : Int) := by
  rcases h with ⟨h, _⟩ | ⟨c, hc, h, _⟩ <;> omega
theorem topOk_no {zs : List Int} {s : Int} {x : Nat} {t : Int} (h : topOk zs s x t) (hb : jnB (du zs) s x = false) : topOk zs s (x + 1) t := by
  rcases h with ⟨h, h2⟩ | ⟨c, hc, h, h2⟩
  · exact .inl ⟨h, all_snoc h2 hb⟩
  · exact .inr ⟨c, by omega, h, h2⟩
theorem topOk_yes {zs : List Int} {s : Int} {x : Nat} (hb : jnB (du zs) s x = true) : topOk zs s (x + 1) (x : Int) := .inr ⟨x, by omega, rfl, hb⟩
theorem topOk_end {zs ys fs : List Int} (hv : VoP zs) {y : Nat} {t : Int} (h : topOk zs (enTo ys fs y zs.length) zs.length t) : t = gI zs ys fs y := by
  unfold gI
  rcases jnI_cases (zs := du zs) (s := enTo ys fs y zs.length) with ⟨e, h2⟩ | ⟨c, e, hc, hb⟩
  · rcases h with ⟨h, _⟩ | ⟨d, hd, _, hb⟩
    · omega
    · rw [h2 d (by rw [du_len]; exact hd)] at hb; cases hb
  · rcases h with ⟨_, h2⟩ | ⟨d, hd, h, hb2⟩
    · rw [h2 c (by rw [du_len] at hc; exact hc)] at hb; cases hb
    · rw [e, h, jn_one hv (fun j hj => bitB_lt (enTo_bd ys fs y zs.length).2 hj) hb hb2]

set_option maxRecDepth 100000 in
set_option maxHeartbeats 8000000 in
theorem specPairOfF_any (A : Option Addr) (n c : Nat) (zs : List Int) (A' : Option Addr) (m c' : Nat) (ys : List Int) (F : Option Addr) (k cf : Nat) (fs : List Int) (w : World) (h : Ints w w.heap.size A n zs) (h' : Ints w w.heap.size A' m ys) (hf : Ints w w.heap.size F k fs)
    (hbig : n ≤ 1152921504606846976) (hbig' : m ≤ 1152921504606846976) (hbigf : k ≤ 1152921504606846976) :
    Calls Try.prog 22 #[.slice A n c, .slice A' m c', .slice F k cf] w (GivesAtV w (poR zs ys fs) (poB zs ys fs)) := by
  have hlen := Lib.hid h.len
  have hlen' := Lib.hid h'.len
  have hlenf := Lib.hid hf.len
  go_enter Try.func22, Try.ntmps22
  cases hm : mpB zs ys fs
  · have Hb := Lib.hid (show poB zs ys fs = false by unfold poB; rw [hm]; rfl)
    have Ht := Lib.hid (show poR zs ys fs = [] by unfold poR; rw [Hb.out]; rfl)
    go_wp2_with fail
    refine (svalidMap_any A n c zs A' m c' ys F k cf fs w h h' hf hbig hbig' hbigf).mono ?_
    rw [hm]
    rintro e w' ⟨rfl, q, rfl⟩
    clear hm
    go_wp2_with fail
    go_ret2
    exact ⟨none, 0, 0, by rw [Hb.out]; rfl, by rw [Ht.out]; exact RowV.nil _ _ _ _, below_drewN (Below.refl _ _) q⟩
  · have Hm := Lib.hid hm
    obtain ⟨hvo, hvy, hln, hen⟩ := mp_parts hm
    rw [hlen.out, hlenf.out] at hln
    subst hln
    rw [hlen'.out] at hen
    have hk6 : k ≤ 6 := by have := hvo.1; rw [hlen.out] at this; exact this
    have hm6 : m ≤ 6 := by have := hvy.1; rw [hlen'.out] at this; exact this
    clear hm
    have Hr := Lib.hid (fun q => sisRising_any A k c zs A' m c' ys F cf w.heap.size fs (w.drewN q) (h.drewN q) (h'.drewN q) (hf.drewN q) hvo.sets hvy.sets hen)
    cases hr : riB zs ys fs
    · have Hb := Lib.hid (show poB zs ys fs = false by unfold poB; rw [hr]; simp)
      have Ht := Lib.hid (show poR zs ys fs = [] by unfold poR; rw [Hb.out]; rfl)
      rw [hr] at Hr
      clear hr
      go_wp2_with fail
      refine (svalidMap_any A k c zs A' m c' ys F k cf fs w h h' hf hbig hbig' hbigf).mono ?_
      rw [Hm.out]
      rintro e w' ⟨rfl, q, rfl⟩
      go_wp2_with fail
      refine (Hr.out q).mono ?_
      rintro e w' ⟨rfl, q2, rfl⟩
      go_wp2_with fail
      go_ret2
      exact ⟨none, 0, 0, by rw [Hb.out]; rfl, by rw [Ht.out]; exact RowV.nil _ _ _ _, below_drewN (Below.refl _ _) _⟩
    · have Hri := Lib.hid hr
      rw [hr] at Hr
      clear hr
      go_wp2_with fail
      refine (svalidMap_any A k c zs A' m c' ys F k cf fs w h h' hf hbig hbig' hbigf).mono ?_
      rw [Hm.out]
      rintro e w' ⟨rfl, q, rfl⟩
      go_wp2_with fail
      refine (Hr.out q).mono ?_
      rintro e w' ⟨rfl, q2, rfl⟩
      clear Hr
      have kB1 : Below w.heap.size w (w.drewN (q + q2)) := below_drewN (Below.refl _ _) (q + q2)
      have zz1 : w.heap.size ≤ (w.drewN (q + q2)).heap.size := Nat.le_refl _
      obtain ⟨i0, hi0, hz0, hz1, hz2⟩ := info_parts infoInt
      have Hgn := Lib.hid (fun y (hy : y < m) (hg : gI zs ys fs y < 0) => (show poB zs ys fs = false by unfold poB; rw [gAll_no (by rw [hlen'.out]; exact hy) hg]; simp))
      have Hen := Lib.hid (fun y x => enTo_bd ys fs y x)
      have Htop := Lib.hid (fun y t (ht : topOk zs (enTo ys fs y k) k t) => show t = gI zs ys fs y from topOk_end hvo (by rw [hlen.out]; exact ht))
      have hdz : downP k (pairsL zs) = du zs := by unfold du; rw [hlen.out]
      have Hdz := Lib.hid hdz
      have Hdo := Lib.hid (fun w (h : Ints w w.heap.size A k zs) => downOf_any A k c zs w h hvo.sets)
      have Hds := Lib.hid (du_vo hvo).sets
      have hsy := hvy.sets
      clear hdz
      have hown := own_new (w.drewN (q + q2)) 3
      have kB2 := kB1.alloc zz1 (.cells #[] 3)
      have hO2 : OwnS (fun j => w.heap.size ≤ j) ((w.drewN (q + q2)).alloc (.cells #[] 3)) w.heap.size 3 (.slice (some ⟨w.heap.size, 0, none⟩) 0 0) (gsTo zs ys fs 0) := ⟨fun j hj => by simp [Value.ownBlock] at hj; omega, own_sooner hown zz1⟩
      clear hown
      go_wp2_with fail
      generalize (w.drewN (q + q2)).alloc (.cells #[] 3) = w2 at *
      generalize w.drewN (q + q2) = w1 at *
      go_loopw [8, 9] (fun v0 i wr => ∃ (y : Nat) (v : Value), v = v0 ∧ y ≤ m ∧ i = .int .i64 y ∧ (∀ a, a < y → 0 ≤ gI zs ys fs a) ∧ OwnS (fun j => w.heap.size ≤ j) wr w.heap.size 3 v (gsTo zs ys fs y) ∧ Below w.heap.size w wr) (fun _ i _ => m - (intOf i).toNat)
      case atStart => exact ⟨0, _, rfl, by omega, rfl, fun a ha => by omega, hO2, kB2⟩
      case round =>
        clear hO2 kB2
        obtain ⟨y, v, rfl, hy, rfl, hall, hO, hB⟩ := hrel
        rename World => wy
        have Hall := Lib.hid hall
        clear hall
        have hlw := hB.size
        by_cases hlt : y < m
        · go_wp2
          have hAy := h.to hB (Nat.le_refl _) hlw
          have hBy := h'.to hB (Nat.le_refl _) hlw
          have hFy := hf.to hB (Nat.le_refl _) hlw
          go_loop [10, 11] (fun s i => ∃ x : Nat, x ≤ k ∧ i = .int .i64 x ∧ s = .int .i64 (enTo ys fs y x)) (fun _ i => k - (intOf i).toNat)
          case atStart => exact ⟨0, by omega, rfl, rfl⟩
          case round =>
            obtain ⟨x, hx, rfl, rfl⟩ := hrel
            have hel := Hen.out y x
            have hpx := powI_le6 (n := (x : Int)) (by omega)
            have hpx0 := powI_pos (x : Int)
            by_cases hxk : x < k
            · obtain ⟨bf, off, rfl, _, hcf⟩ := hFy.at_ hxk
              have hfx := hcf x hxk
              obtain ⟨e1, l1⟩ := ends_it hen (k := x) (by rw [hlenf.out]; exact hxk)
              rw [e1] at hfx
              clear hcf e1
              have hq := fun w (h : Ints w wy.heap.size A' m ys) => satMost_any A' m c' _ ys (itN fs x) y w h hsy l1 hlt
              have hp := fun w => power_any (x : Int) w (by omega) (by omega)
              cases ham : amB ys (itN fs x) y
              · have Hs := Lib.hid (enTo_no (ys := ys) (fs := fs) (y := y) (k := x) ham)
                rw [ham] at hq
                clear ham
                go_wp2_with (go_at_call 43; refine (hq _ hBy).mono ?_; rintro e w' ⟨rfl, rfl⟩)
                go_round
                case rel => exact ⟨x + 1, by omega, by go_num, by rw [Hs.out]⟩
                case measure => simp [intOf]; omega
              · have Hs := Lib.hid (enTo_yes (ys := ys) (fs := fs) (y := y) (k := x) ham)
                rw [ham] at hq
                clear ham
                have ho : bits .or .i64 (enTo ys fs y x) (powI x) = orI (enTo ys fs y x) (powI x) := bits_or (by omega) (by omega) (by omega) (by omega)
                rw [← Hs.out] at ho
                generalize hS2 : enTo ys fs y (x + 1) = s2 at *
                have HS2 := Lib.hid hS2
                clear hS2
                go_wp2_with (first
                  | (go_at_call 43; refine (hq _ hBy).mono ?_; rintro e w' ⟨rfl, rfl⟩)
                  | (go_at_call 41; refine (hp _).mono ?_; rintro e w' ⟨rfl, rfl⟩))
                go_round
                case rel => exact ⟨x + 1, by omega, by go_num, by rw [HS2.out]⟩
                case measure => simp [intOf]; omega
            · obtain rfl : x = k := by omega
              clear hpx hpx0 hAy hBy hFy hxk
              have hel64 : enTo ys fs y x < 64 := by
                have := hel.2
                have := powI_le6 (n := (x : Int)) (by omega)
                omega
              have hel0 := hel.1
              clear hel
              go_wp2
              go_loopw [12, 13] (fun t i wr => ∃ (j : Nat) (tt : Int), j ≤ x ∧ i = .int .i64 j ∧ t = .int .i64 tt ∧ topOk zs (enTo ys fs y x) j tt ∧ OwnS (fun j => w.heap.size ≤ j) wr w.heap.size 3 v (gsTo zs ys fs y) ∧ Below w.heap.size w wr) (fun _ i _ => x - (intOf i).toNat)
              case atStart => exact ⟨0, -1, by omega, rfl, rfl, .inl ⟨rfl, fun j hj => by omega⟩, hO, hB⟩
              case round =>
                clear hO hB hlw
                obtain ⟨j, tt, hj, rfl, rfl, htt, hO, hB⟩ := hrel
                rename World => wz
                have Htt := Lib.hid htt
                have htb := topOk_bd htt
                clear htt
                have hlw := hB.size
                by_cases hjx : j < x
                · have hAz := h.to hB (Nat.le_refl _) hlw
                  have hqt := fun w => bit_any (enTo ys fs y x) (j : Int) w (by omega) (by omega) (by omega) (by omega)
                  have hqk := fun w => power_any (j : Int) w (by omega) (by omega)
                  cases hb : bitB (enTo ys fs y x) j
                  · have hbi : (bitI (enTo ys fs y x) j == 1) = false := by rw [bitI_one, hb]
                    have Hn := Lib.hid (show jnB (du zs) (enTo ys fs y x) j = false by unfold jnB; rw [hb]; rfl)
                    clear hb
                    go_wp2
                    go_quiet ((first | (go_at_call 46; exact quiet_add_left (hqt _)) | (go_at_call 46; exact quiet_left0 (hqt _))))
                    go_wp2
                    go_roundw
                    case rel => exact ⟨j + 1, tt, by omega, by go_num, rfl, topOk_no Htt.out Hn.out, hO.calls (below_drewN (Below.refl _ _) _), below_drewN hB _⟩
                    case measure => simp [intOf]; omega
                  · have hbi : (bitI (enTo ys fs y x) j == 1) = true := by rw [bitI_one, hb]
                    have Hbj := Lib.hid hb
                    clear hb
                    have hud : Upd (fun _ => False) wz wz.drew := (Upd.refl _ wz).drew
                    have kd : Below wz.heap.size wz wz.drew := hud.toBelow (fun _ e => e.elim) (Nat.le_refl _)
                    have hzd := kd.size
                    have hdb := Hds.out.bd j (by rw [du_len, hlen.out]; exact hjx)
                    have hpj := powI_le6 (n := (j : Int)) (by omega)
                    have hpj0 := powI_pos (j : Int)
                    have hor : bits .or .i64 ((du zs)[j]?.getD 0) (powI j) = atUp (du zs) j := bits_or (by omega) (by omega) (by omega) (by omega)
                    have hab := atUp_bd Hds.out (a := j) (by rw [du_len, hlen.out]; exact hjx)
                    have hpl := powI_le6 (n := ((du zs).length : Int)) (by rw [du_len, hlen.out]; omega)
                    have hle : bits .andNot .i64 (enTo ys fs y x) (atUp (du zs) j) = lessI (enTo ys fs y x) (atUp (du zs) j) := bits_less (by omega) (by omega) (by omega) (by omega)
                    have Hjn := Lib.hid (show jnB (du zs) (enTo ys fs y x) j = (lessI (enTo ys fs y x) (atUp (du zs) j) == 0) by unfold jnB; rw [Hbj.out]; rfl)
                    have hOz := hO
                    go_wp2
                    obtain ⟨ans, hans⟩ : ∃ ans, (lessI (enTo ys fs y x) (atUp (du zs) j) == 0) = ans := ⟨_, rfl⟩
                    rw [hans] at Hjn
                    generalize lessI (enTo ys fs y x) (atUp (du zs) j) = lv at *
                    generalize atUp (du zs) j = uv at *
                    generalize hdv : (du zs)[j]?.getD 0 = dv at *
                    have Hdv := Lib.hid hdv
                    clear hdv hdb hab hpl hpj hpj0
                    generalize powI (j : Int) = pw at *
                    refine region_T (S := (fun _ => True)) 16 (by kernel_rfl) ?_
                    obtain ⟨wd, hwd⟩ : ∃ wd, wz.drew = wd := ⟨_, rfl⟩
                    rw [hwd] at kd hzd ⊢
                    clear hwd hud
                    have hS0 : (fun _ => True) wd := trivial
                    refine anyT_take (i := 0) (oi := ?oi0a) (v := .int .i64 (enTo ys fs y x)) ?hi0a (by kernel_rfl) ?hq0a ?hy0a (by assumption) ?rest0a
                    case hi0a => (simp only [List.getElem?_toArray, List.getElem?_cons_zero]; first | done | rfl)
                    case hq0a => first | exact fun _ _ _ h => h | exact fun _ _ _ h => (by cases h.1)
                    case hy0a => (refine Or.inl ⟨by rfl, ?_⟩; intro wz hSw; go_simp; first | done | with_reducible rfl | simp | omega)
                    try simp only [Act.put, List.setIfInBounds_toArray, List.set_cons_zero, List.set_cons_succ]
                    refine anyT_take (i := 1) (oi := ?oi1a) (v := .int .i64 (j : Int)) ?hi1a (by kernel_rfl) ?hq1a ?hy1a (by assumption) ?rest1a
                    case hi1a => (simp only [List.getElem?_toArray, List.getElem?_cons_succ, List.getElem?_cons_zero]; first | done | rfl)
                    case hq1a => first | exact fun _ _ _ h => h | exact fun _ _ _ h => (by cases h.1)
                    case hy1a => (refine Or.inl ⟨by rfl, ?_⟩; intro wz hSw; go_simp; first | done | with_reducible rfl | simp | omega)
                    try simp only [Act.put, List.setIfInBounds_toArray, List.set_cons_zero, List.set_cons_succ]
                    refine anyT_one (i := 2) (by kernel_rfl) rfl (fun K' hK => ?_)
                    go_simp
                    refine (hqt _).mono ?_
                    rintro e w' ⟨rfl, rfl⟩
                    refine hK.out _ _ (fun _ => trivial) ?_
                    clear hK K'
                    try simp only [Act.put, List.setIfInBounds_toArray, List.set_cons_zero, List.set_cons_succ]
                    refine anyT_take (i := 3) (oi := ?oi3b) (v := .bool true) ?hi3b (by kernel_rfl) ?hq3b ?hy3b (by assumption) ?rest3b
                    case hi3b => (simp only [List.getElem?_toArray, List.getElem?_cons_succ, List.getElem?_cons_zero]; first | done | rfl)
                    case hq3b => first | exact fun _ _ _ h => h | exact fun _ _ _ h => (by cases h.1)
                    case hy3b => (refine Or.inl ⟨by rfl, ?_⟩; intro wz hSw; go_simp; first | done | with_reducible rfl | simp [hbi] | omega)
                    try simp only [Act.put, List.setIfInBounds_toArray, List.set_cons_zero, List.set_cons_succ]
                    refine anyT_take (i := 4) (oi := ?oi4b) (v := .bool true) ?hi4b (by kernel_rfl) ?hq4b ?hy4b (by assumption) ?rest4b
                    case hi4b => (simp only [List.getElem?_toArray, List.getElem?_cons_succ, List.getElem?_cons_zero]; first | done | rfl)
                    case hq4b => first | exact fun _ _ _ h => h | exact fun _ _ _ h => (by cases h.1)
                    case hy4b => (refine Or.inl ⟨by rfl, ?_⟩; intro wz hSw; go_simp; first | done | with_reducible rfl | simp | omega)
                    try simp only [Act.put, List.setIfInBounds_toArray, List.set_cons_zero, List.set_cons_succ]
                    refine anyT_take (i := 5) (oi := ?oi5b) (v := .int .i64 (enTo ys fs y x)) ?hi5b (by kernel_rfl) ?hq5b ?hy5b (by assumption) ?rest5b
                    case hi5b => (simp only [List.getElem?_toArray, List.getElem?_cons_succ, List.getElem?_cons_zero]; first | done | rfl)
                    case hq5b => first | exact fun _ _ _ h => h | exact fun _ _ _ h => (by cases h.1)
                    case hy5b => (refine Or.inl ⟨by rfl, ?_⟩; intro wz hSw; go_simp; first | done | with_reducible rfl | simp | omega)
                    try simp only [Act.put, List.setIfInBounds_toArray, List.set_cons_zero, List.set_cons_succ]
                    refine anyT_take (i := 6) (oi := ?oi6b) (v := .slice A x c) ?hi6b (by kernel_rfl) ?hq6b ?hy6b (by assumption) ?rest6b
                    case hi6b => (simp only [List.getElem?_toArray, List.getElem?_cons_succ, List.getElem?_cons_zero]; first | done | rfl)
                    case hq6b => first | exact fun _ _ _ h => h | exact fun _ _ _ h => (by cases h.1)
                    case hy6b => (refine Or.inl ⟨by rfl, ?_⟩; intro wz hSw; go_simp; first | done | with_reducible rfl | simp | omega)
                    try simp only [Act.put, List.setIfInBounds_toArray, List.set_cons_zero, List.set_cons_succ]
                    refine anyT_take (i := 8) (oi := ?oi8b) (v := .int .i64 (j : Int)) ?hi8b (by kernel_rfl) ?hq8b ?hy8b (by assumption) ?rest8b
                    case hi8b => (simp only [List.getElem?_toArray, List.getElem?_cons_succ, List.getElem?_cons_zero]; first | done | rfl)
                    case hq8b => first | exact fun _ _ _ h => h | exact fun _ _ _ h => (by cases h.1)
                    case hy8b => (refine Or.inl ⟨by rfl, ?_⟩; intro wz hSw; go_simp; first | done | with_reducible rfl | simp | omega)
                    try simp only [Act.put, List.setIfInBounds_toArray, List.set_cons_zero, List.set_cons_succ]
                    refine anyT_take (i := 11) (oi := ?oi11b) (v := .int .i64 (j : Int)) ?hi11b (by kernel_rfl) ?hq11b ?hy11b (by assumption) ?rest11b
                    case hi11b => (simp only [List.getElem?_toArray, List.getElem?_cons_succ, List.getElem?_cons_zero]; first | done | rfl)
                    case hq11b => first | exact fun _ _ _ h => h | exact fun _ _ _ h => (by cases h.1)
                    case hy11b => (refine Or.inl ⟨by rfl, ?_⟩; intro wz hSw; go_simp; first | done | with_reducible rfl | simp | omega)
                    try simp only [Act.put, List.setIfInBounds_toArray, List.set_cons_zero, List.set_cons_succ]
                    refine anyT_one (i := 7) (by kernel_rfl) rfl (fun K' hK => ?_)
                    go_simp
                    refine (Hdo.out wd (hAz.to kd (Nat.le_refl _) hzd)).mono ?_
                    rintro e w3 ⟨rfl, hA3, hB3⟩
                    rw [Hdz.out] at hA3
                    have z3 := hB3.size
                    have kB3 := kd.trans (hB3.mono hzd)
                    have hc3 := hA3.cell (k := j) (by rw [du_len, hlen.out]; exact hjx)
                    rw [Hdv.out] at hc3
                    refine hK.out _ _ (fun _ => trivial) ?_
                    clear hK K'
                    try simp only [Act.put, List.setIfInBounds_toArray, List.set_cons_zero, List.set_cons_succ]
                    refine anyT_more (S' := (fun w' => w'.cell? ⟨wd.heap.size, j, none⟩ = some (.int .i64 dv))) (fun _ _ => trivial) _ _ _ _ ?_
                    have hS3 : (fun w' => w'.cell? ⟨wd.heap.size, j, none⟩ = some (.int .i64 dv)) w3 := hc3
                    refine anyT_take (i := 9) (oi := ?oi9c) (v := .pointer (some ⟨wd.heap.size, j, none⟩)) ?hi9c (by kernel_rfl) ?hq9c ?hy9c (by assumption) ?rest9c
                    case hi9c => (simp only [List.getElem?_toArray, List.getElem?_cons_succ, List.getElem?_cons_zero]; first | done | rfl)
                    case hq9c => first | exact fun _ _ _ h => h | exact fun _ _ _ h => (by cases h.1)
                    case hy9c => (refine Or.inl ⟨by rfl, ?_⟩; intro wz hSw; go_simp; first | done | with_reducible rfl | simp | omega)
                    try simp only [Act.put, List.setIfInBounds_toArray, List.set_cons_zero, List.set_cons_succ]
                    refine anyT_take (i := 10) (oi := ?oi10c) (v := .int .i64 dv) ?hi10c (by kernel_rfl) ?hq10c ?hy10c (by assumption) ?rest10c
                    case hi10c => (simp only [List.getElem?_toArray, List.getElem?_cons_succ, List.getElem?_cons_zero]; first | done | rfl)
                    case hq10c => first | exact fun _ _ _ h => h | exact fun _ _ _ h => (by cases h.1)
                    case hy10c => (refine Or.inl ⟨by rfl, ?_⟩; intro wz hSw; go_simp; first | done | with_reducible rfl | simp | omega)
                    try simp only [Act.put, List.setIfInBounds_toArray, List.set_cons_zero, List.set_cons_succ]
                    refine anyT_one (i := 12) (by kernel_rfl) rfl (fun K' hK => ?_)
                    go_simp
                    refine (hqk _).mono ?_
                    rintro e w' ⟨rfl, rfl⟩
                    refine hK.out _ _ (fun _ => hS3) ?_
                    clear hK K'
                    try simp only [Act.put, List.setIfInBounds_toArray, List.set_cons_zero, List.set_cons_succ]
                    refine anyT_take (i := 13) (oi := ?oi13d) (v := .int .i64 uv) ?hi13d (by kernel_rfl) ?hq13d ?hy13d (by assumption) ?rest13d
                    case hi13d => (simp only [List.getElem?_toArray, List.getElem?_cons_succ, List.getElem?_cons_zero]; first | done | rfl)
                    case hq13d => first | exact fun _ _ _ h => h | exact fun _ _ _ h => (by cases h.1)
                    case hy13d => (refine Or.inl ⟨by rfl, ?_⟩; intro wz hSw; go_simp; first | done | with_reducible rfl | simp [hor] | omega)
                    try simp only [Act.put, List.setIfInBounds_toArray, List.set_cons_zero, List.set_cons_succ]
                    refine anyT_take (i := 14) (oi := ?oi14d) (v := .int .i64 lv) ?hi14d (by kernel_rfl) ?hq14d ?hy14d (by assumption) ?rest14d
                    case hi14d => (simp only [List.getElem?_toArray, List.getElem?_cons_succ, List.getElem?_cons_zero]; first | done | rfl)
                    case hq14d => first | exact fun _ _ _ h => h | exact fun _ _ _ h => (by cases h.1)
                    case hy14d => (refine Or.inl ⟨by rfl, ?_⟩; intro wz hSw; go_simp; first | done | with_reducible rfl | simp [hle] | omega)
                    try simp only [Act.put, List.setIfInBounds_toArray, List.set_cons_zero, List.set_cons_succ]
                    refine anyT_take (i := 15) (oi := ?oi15d) (v := .bool ans) ?hi15d (by kernel_rfl) ?hq15d ?hy15d (by assumption) ?rest15d
                    case hi15d => (simp only [List.getElem?_toArray, List.getElem?_cons_succ, List.getElem?_cons_zero]; first | done | rfl)
                    case hq15d => first | exact fun _ _ _ h => h | exact fun _ _ _ h => (by cases h.1)
                    case hy15d => (refine Or.inl ⟨by rfl, ?_⟩; intro wz hSw; go_simp; first | done | with_reducible rfl | simp [hans] | omega)
                    try simp only [Act.put, List.setIfInBounds_toArray, List.set_cons_zero, List.set_cons_succ]
                    refine anyT_one (i := 16) (by kernel_rfl) rfl (fun K' hK => ?_)
                    go_simp
                    refine hK.out _ _ (fun h => absurd rfl h) ?_
                    clear hK K'
                    try simp only [Act.put, List.setIfInBounds_toArray, List.set_cons_zero, List.set_cons_succ]
                    refine anyT_done (by kernel_rfl) ?_ _
                    have hO3 := hOz.calls kB3
                    have hB4 := hB.trans (kB3.mono hlw)
                    clear hle hor hans
                    cases ans
                    · go_wp2
                      go_roundw
                      case rel => exact ⟨j + 1, tt, by omega, by go_num, rfl, topOk_no Htt.out Hjn.out, hO3, hB4⟩
                      case measure => simp [intOf]; omega
                    · go_wp2
                      go_roundw
                      case rel => exact ⟨j + 1, (j : Int), by omega, by go_num, by go_num, topOk_yes Hjn.out, hO3, hB4⟩
                      case measure => simp [intOf]; omega
                · obtain rfl : j = x := by omega
                  have Hgy := Lib.hid (Htop.out y tt Htt.out)
                  by_cases htn : tt < 0
                  · have Hb := Lib.hid (Hgn.out y hlt (by rw [← Hgy.out]; exact htn))
                    have Ht := Lib.hid (show poR zs ys fs = [] by unfold poR; rw [Hb.out]; rfl)
                    go_wp2_with fail
                    go_ret2
                    exact ⟨none, 0, 0, by rw [Hb.out]; rfl, by rw [Ht.out]; exact RowV.nil _ _ _ _, hB⟩
                  · have Hsn := Lib.hid (show gsTo zs ys fs (y + 1) = gsTo zs ys fs y ++ [tt] by rw [gsTo_succ, ← Hgy.out])
                    have Hg0 := Lib.hid (show 0 ≤ gI zs ys fs y by rw [← Hgy.out]; omega)
                    have Hgl := Lib.hid (show (gsTo zs ys fs y).length = y from gsTo_len _ _ _ _)
                    have hvb := hO.1
                    go_wp2_with (at_builtin; refine wpList_append1 _ rfl (.tmp 76) (.tmp 78) _ rfl w.heap.size 3 i0 _ 8 Try.underlying22 hi0 hz0 hz1 hz2 rfl _ (gsTo zs ys fs y).length _ rfl (hO.2.alloc _) wz.heap.size 1 (.int .i64 tt) rfl (cell_new _ _ _) rfl (by rw [Hgl.out]; omega) (by rw [Hgl.out]; omega) (by simp; omega) ?_; go_loud (rintro v' w' hown' hg' hv'; have hU7 : Upd (fun j => w.heap.size ≤ j) wz w' := ((Upd.refl (fun j => w.heap.size ≤ j) wz).alloc _).grown hg' (fun j hj => .inr (hvb j hj)); have hO7 : OwnS (fun j => w.heap.size ≤ j) w' w.heap.size 3 v' (gsTo zs ys fs (y + 1)) := (by rw [Hsn.out]; exact OwnS.step hO hown' hv' (fun j hj => hj) (fun _ => by omega))))
                    go_roundw
                    case rel => exact ⟨y + 1, _, rfl, by omega, by go_num, all_snoc Hall.out Hg0.out, hO7, hB.trans (hU7.toBelow (fun j hj => hj) hlw)⟩
                    case measure => simp [intOf]; omega
        · obtain rfl : y = m := by omega
          have Hga := Lib.hid (show gAll zs ys fs = true from gAll_iff.2 fun a ha => Hall.out a (by rw [← hlen'.out]; exact ha))
          have HP := Lib.hid (show poB zs ys fs = true by unfold poB; rw [Hm.out, Hga.out, Hri.out]; rfl)
          have HR := Lib.hid (show poR zs ys fs = gsTo zs ys fs y by unfold poR; rw [HP.out, hlen'.out]; rfl)
          have Hgl := Lib.hid (show (gsTo zs ys fs y).length = y from gsTo_len _ _ _ _)
          obtain ⟨A5, c5, rfl, hV⟩ := rowV_of_own hO.2
          rw [Hgl.out] at hV ⊢
          clear hO
          go_wp2
          go_ret2
          exact ⟨A5, y, c5, by rw [HP.out]; rfl, by rw [HR.out]; exact hV, hB⟩
end Go.Proofs.Ytmlihbcffndnbaa

/- The walk of the exact law of PairOf. -/
namespace Go.Proofs.Ytmlihbcffndnbaa
open Go.RowKit

set_option maxHeartbeats 8000000 in
theorem exactPairOf_walkR (A0 : Option Addr) (n0 c0 : Nat) (z0 : List Int) (A1 : Option Addr) (n1 c1 : Nat) (z1 : List Int) (A2 : Option Addr) (n2 c2 : Nat) (z2 : List Int) (w : World) (h0 : Ints w w.heap.size A0 n0 z0) (h1 : Ints w w.heap.size A1 n1 z1) (h2 : Ints w w.heap.size A2 n2 z2) (hR : (poR z0 z1 z2).length ≤ 1048576) :
    Calls Try.prog 7 #[.slice A0 n0 c0, .slice A1 n1 c1, .slice A2 n2 c2] w fun e w' => e = .returned (.bool true) ∧ Below w.heap.size w w' := by
  have HR := Lib.hid hR
  clear hR
  obtain ⟨tb, htb⟩ : ∃ tb, poB z0 z1 z2 = tb := ⟨_, rfl⟩
  have htn : (tb != tb) = false := by cases tb <;> rfl
  have Htb := Lib.hid htb
  clear htb
  by_cases s0 : n0 ≤ 1048576
  · by_cases s1 : n1 ≤ 1048576
    · by_cases s2 : n2 ≤ 1048576
      · have C0 : Below w.heap.size w w := Below.refl _ _
        have hw0 := h0.len
        have hw1 := h1.len
        have hw2 := h2.len
        go_enter Try.func7, Try.ntmps7
        go_wp2_with fail
        refine (toIntS_any A0 n0 c0 z0 w (h0.to C0 (Nat.le_refl _) C0.size) s0).mono ?_
        rintro e w1 ⟨rfl, hA1, hB1⟩
        have sz1 := hB1.size
        have C1 := C0.trans (hB1.mono C0.size)
        have l1 := hA1.lt
        have aa1 : Row w1 w.heap.size w1.heap.size (some ⟨w.heap.size, 0, none⟩) n0 z0 := Row.of hA1 h0.len (Nat.le_refl _) l1
        clear hA1
        go_wp2_with fail
        refine (toIntS_any A1 n1 c1 z1 w1 (h1.to C1 (Nat.le_refl _) C1.size) s1).mono ?_
        rintro e w2 ⟨rfl, hA2, hB2⟩
        have sz2 := hB2.size
        have C2 := C1.trans (hB2.mono C1.size)
        have aa2 := aa1.below hB2 (by omega)
        have l2 := hA2.lt
        have ab2 : Row w2 w1.heap.size w2.heap.size (some ⟨w1.heap.size, 0, none⟩) n1 z1 := Row.of hA2 h1.len (Nat.le_refl _) l2
        clear hA2
        go_wp2_with fail
        refine (toIntS_any A2 n2 c2 z2 w2 (h2.to C2 (Nat.le_refl _) C2.size) s2).mono ?_
        rintro e w3 ⟨rfl, hA3, hB3⟩
        have sz3 := hB3.size
        have C3 := C2.trans (hB3.mono C2.size)
        have aa3 := aa2.below hB3 (by omega)
        have ab3 := ab2.below hB3 (by omega)
        have l3 := hA3.lt
        have ad3 : Row w3 w2.heap.size w3.heap.size (some ⟨w2.heap.size, 0, none⟩) n2 z2 := Row.of hA3 h2.len (Nat.le_refl _) l3
        clear hA3
        go_wp2_with fail
        refine (specPairOfF_any _ n0 _ z0 _ n1 _ z1 _ n2 _ z2 w3 (aa3.ints (by omega)) (ab3.ints (by omega)) (ad3.ints (by omega)) (by omega) (by omega) (by omega)).mono ?_
        rw [Htb.out]
        rintro e w4 ⟨A_4, n_4, c_4, rfl, r4, hB4⟩
        have sz4 := hB4.size
        have C4 := C3.trans (hB4.mono C3.size)
        have aa4 := aa3.below hB4 (by omega)
        have ab4 := ab3.below hB4 (by omega)
        have ad4 := ad3.below hB4 (by omega)
        have hn_4 : n_4 ≤ 1048576 := by rw [← r4.len]; exact HR.out
        clear aa4
        clear ab4
        clear ad4
        go_wp2_with fail
        refine (toIntS_any A0 n0 c0 z0 w4 (h0.to C4 (Nat.le_refl _) C4.size) s0).mono ?_
        rintro e w5 ⟨rfl, hA5, hB5⟩
        have sz5 := hB5.size
        have C5 := C4.trans (hB5.mono C4.size)
        have r5 := r4.below hB5 (by omega)
        have l5 := hA5.lt
        have xa5 : Row w5 w4.heap.size w5.heap.size (some ⟨w4.heap.size, 0, none⟩) n0 z0 := Row.of hA5 h0.len (Nat.le_refl _) l5
        clear hA5
        go_wp2_with fail
        refine (toIntS_any A1 n1 c1 z1 w5 (h1.to C5 (Nat.le_refl _) C5.size) s1).mono ?_
        rintro e w6 ⟨rfl, hA6, hB6⟩
        have sz6 := hB6.size
        have C6 := C5.trans (hB6.mono C5.size)
        have r6 := r5.below hB6 (by omega)
        have xa6 := xa5.below hB6 (by omega)
        have l6 := hA6.lt
        have xb6 : Row w6 w5.heap.size w6.heap.size (some ⟨w5.heap.size, 0, none⟩) n1 z1 := Row.of hA6 h1.len (Nat.le_refl _) l6
        clear hA6
        go_wp2_with fail
        refine (toIntS_any A2 n2 c2 z2 w6 (h2.to C6 (Nat.le_refl _) C6.size) s2).mono ?_
        rintro e w7 ⟨rfl, hA7, hB7⟩
        have sz7 := hB7.size
        have C7 := C6.trans (hB7.mono C6.size)
        have r7 := r6.below hB7 (by omega)
        have xa7 := xa6.below hB7 (by omega)
        have xb7 := xb6.below hB7 (by omega)
        have l7 := hA7.lt
        have xd7 : Row w7 w6.heap.size w7.heap.size (some ⟨w6.heap.size, 0, none⟩) n2 z2 := Row.of hA7 h2.len (Nat.le_refl _) l7
        clear hA7
        go_wp2_with fail
        refine (PairOf_any _ n0 _ z0 _ n1 _ z1 _ n2 _ z2 w7 (xa7.ints (by omega)) (xb7.ints (by omega)) (xd7.ints (by omega)) (by omega) (by omega) (by omega)).mono ?_
        rw [Htb.out]
        rintro e w8 ⟨A_8, n_8, c_8, rfl, g8, hB8⟩
        have sz8 := hB8.size
        have C8 := C7.trans (hB8.mono C7.size)
        have r8 := r7.below hB8 (by omega)
        have xa8 := xa7.below hB8 (by omega)
        have xb8 := xb7.below hB8 (by omega)
        have xd8 := xd7.below hB8 (by omega)
        have hn_8 : n_8 ≤ 1048576 := by rw [← g8.len]; exact HR.out
        have hrr : decide (poR z0 z1 z2 = poR z0 z1 z2) = true := by simp
        have hz0 : decide (z0 = z0) = true := by simp
        have hz1 : decide (z1 = z1) = true := by simp
        have hz2 : decide (z2 = z2) = true := by simp
        go_wp2_with fail
        refine (below_quiet (eqIntS_any _ _ _ _ _ _ w8.heap.size w8.heap.size _ _ _ (g8.ints (by omega)) (r8.ints (by omega)) (by omega) (by omega))).mono ?_
        rintro e w9 ⟨rfl, hB9⟩
        have sz9 := hB9.size
        have C9 := C8.trans (hB9.mono C8.size)
        have r9 := r8.below hB9 (by omega)
        have xa9 := xa8.below hB9 (by omega)
        have xb9 := xb8.below hB9 (by omega)
        have xd9 := xd8.below hB9 (by omega)
        have g9 := g8.below hB9 (by omega)
        go_wp2_with fail
        refine (toIntS_any A0 n0 c0 z0 w9 (h0.to C9 (Nat.le_refl _) C9.size) s0).mono ?_
        rintro e w10 ⟨rfl, hA10, hB10⟩
        have sz10 := hB10.size
        have C10 := C9.trans (hB10.mono C9.size)
        have r10 := r9.below hB10 (by omega)
        have xa10 := xa9.below hB10 (by omega)
        have xb10 := xb9.below hB10 (by omega)
        have xd10 := xd9.below hB10 (by omega)
        have g10 := g9.below hB10 (by omega)
        have l10 := hA10.lt
        have am10 : Row w10 w9.heap.size w10.heap.size (some ⟨w9.heap.size, 0, none⟩) n0 z0 := Row.of hA10 h0.len (Nat.le_refl _) l10
        clear hA10
        go_wp2_with fail
        refine (below_quiet (eqIntS_any _ _ _ _ _ _ w10.heap.size w10.heap.size _ _ _ (xa10.ints (by omega)) (am10.ints (by omega)) (by omega) (by omega))).mono ?_
        rintro e w11 ⟨rfl, hB11⟩
        have sz11 := hB11.size
        have C11 := C10.trans (hB11.mono C10.size)
        have r11 := r10.below hB11 (by omega)
        have xa11 := xa10.below hB11 (by omega)
        have xb11 := xb10.below hB11 (by omega)
        have xd11 := xd10.below hB11 (by omega)
        have g11 := g10.below hB11 (by omega)
        have am11 := am10.below hB11 (by omega)
        clear am11
        go_wp2_with fail
        refine (toIntS_any A1 n1 c1 z1 w11 (h1.to C11 (Nat.le_refl _) C11.size) s1).mono ?_
        rintro e w12 ⟨rfl, hA12, hB12⟩
        have sz12 := hB12.size
        have C12 := C11.trans (hB12.mono C11.size)
        have r12 := r11.below hB12 (by omega)
        have xa12 := xa11.below hB12 (by omega)
        have xb12 := xb11.below hB12 (by omega)
        have xd12 := xd11.below hB12 (by omega)
        have g12 := g11.below hB12 (by omega)
        have l12 := hA12.lt
        have am12 : Row w12 w11.heap.size w12.heap.size (some ⟨w11.heap.size, 0, none⟩) n1 z1 := Row.of hA12 h1.len (Nat.le_refl _) l12
        clear hA12
        go_wp2_with fail
        refine (below_quiet (eqIntS_any _ _ _ _ _ _ w12.heap.size w12.heap.size _ _ _ (xb12.ints (by omega)) (am12.ints (by omega)) (by omega) (by omega))).mono ?_
        rintro e w13 ⟨rfl, hB13⟩
        have sz13 := hB13.size
        have C13 := C12.trans (hB13.mono C12.size)
        have r13 := r12.below hB13 (by omega)
        have xa13 := xa12.below hB13 (by omega)
        have xb13 := xb12.below hB13 (by omega)
        have xd13 := xd12.below hB13 (by omega)
        have g13 := g12.below hB13 (by omega)
        have am13 := am12.below hB13 (by omega)
        clear am13
        go_wp2_with fail
        refine (toIntS_any A2 n2 c2 z2 w13 (h2.to C13 (Nat.le_refl _) C13.size) s2).mono ?_
        rintro e w14 ⟨rfl, hA14, hB14⟩
        have sz14 := hB14.size
        have C14 := C13.trans (hB14.mono C13.size)
        have r14 := r13.below hB14 (by omega)
        have xa14 := xa13.below hB14 (by omega)
        have xb14 := xb13.below hB14 (by omega)
        have xd14 := xd13.below hB14 (by omega)
        have g14 := g13.below hB14 (by omega)
        have l14 := hA14.lt
        have am14 : Row w14 w13.heap.size w14.heap.size (some ⟨w13.heap.size, 0, none⟩) n2 z2 := Row.of hA14 h2.len (Nat.le_refl _) l14
        clear hA14
        go_wp2_with fail
        refine (below_quiet (eqIntS_any _ _ _ _ _ _ w14.heap.size w14.heap.size _ _ _ (xd14.ints (by omega)) (am14.ints (by omega)) (by omega) (by omega))).mono ?_
        rintro e w15 ⟨rfl, hB15⟩
        have sz15 := hB15.size
        have C15 := C14.trans (hB15.mono C14.size)
        have r15 := r14.below hB15 (by omega)
        have xa15 := xa14.below hB15 (by omega)
        have xb15 := xb14.below hB15 (by omega)
        have xd15 := xd14.below hB15 (by omega)
        have g15 := g14.below hB15 (by omega)
        have am15 := am14.below hB15 (by omega)
        clear am15
        go_wp2_with fail
        refine (markIntS_row _ _ _ _ _ _ _ _ xa15 s0 (by omega) (by omega)).mono ?_
        rintro e w16 ⟨rfl, xa16, hU16⟩
        have sz16 := hU16.size
        have C16 : Below w.heap.size w w16 := C15.trans (hU16.toBelow (fun j hj => by omega) (by omega))
        have r16 := r15.upd hU16 (fun j hj => by omega)
        have xb16 := xb15.upd hU16 (fun j hj => by omega)
        have xd16 := xd15.upd hU16 (fun j hj => by omega)
        have g16 := g15.upd hU16 (fun j hj => by omega)
        go_wp2_with fail
        refine (markIntS_row _ _ _ _ _ _ _ _ xb16 s1 (by omega) (by omega)).mono ?_
        rintro e w17 ⟨rfl, xb17, hU17⟩
        have sz17 := hU17.size
        have C17 : Below w.heap.size w w17 := C16.trans (hU17.toBelow (fun j hj => by omega) (by omega))
        have r17 := r16.upd hU17 (fun j hj => by omega)
        have xa17 := xa16.upd hU17 (fun j hj => by omega)
        have xd17 := xd16.upd hU17 (fun j hj => by omega)
        have g17 := g16.upd hU17 (fun j hj => by omega)
        go_wp2_with fail
        refine (markIntS_row _ _ _ _ _ _ _ _ xd17 s2 (by omega) (by omega)).mono ?_
        rintro e w18 ⟨rfl, xd18, hU18⟩
        have sz18 := hU18.size
        have C18 : Below w.heap.size w w18 := C17.trans (hU18.toBelow (fun j hj => by omega) (by omega))
        have r18 := r17.upd hU18 (fun j hj => by omega)
        have xa18 := xa17.upd hU18 (fun j hj => by omega)
        have xb18 := xb17.upd hU18 (fun j hj => by omega)
        have g18 := g17.upd hU18 (fun j hj => by omega)
        have hk : decide (1 + (n0 : Int) + (n1 : Int) + (n2 : Int) < 0) = false := decide_eq_false (by omega)
        go_wp2_with fail
        refine (below_quiet (eqIntS_any _ _ _ _ _ _ w18.heap.size w18.heap.size _ _ _ (g18.ints (by omega)) (r18.ints (by omega)) (by omega) (by omega))).mono ?_
        rintro e w19 ⟨rfl, hB19⟩
        have sz19 := hB19.size
        have C19 := C18.trans (hB19.mono C18.size)
        have r19 := r18.below hB19 (by omega)
        have xa19 := xa18.below hB19 (by omega)
        have xb19 := xb18.below hB19 (by omega)
        have xd19 := xd18.below hB19 (by omega)
        have g19 := g18.below hB19 (by omega)
        clear xa19
        clear xb19
        clear xd19
        go_wp2_with fail
        refine (markIntS_rowV _ _ _ _ _ _ _ _ g19 hn_8 (by omega) (by omega)).mono ?_
        rintro e w20 ⟨rfl, g20, hU20⟩
        have sz20 := hU20.size
        have C20 : Below w.heap.size w w20 := C19.trans (hU20.toBelow (fun j hj => by omega) (by omega))
        have r20 := r19.upd hU20 (fun j hj => by omega)
        have hne : (1 + (n_8 : Int) != 1 + (n_8 : Int)) = false := by simp
        go_wp2_with fail
        refine (heldIntS_any _ _ _ w20.heap.size _ _ (g20.ints (by omega)) hn_8 (by omega) (by omega)).mono ?_
        rintro e wx ⟨rfl, rfl⟩
        go_wp2_with fail
        refine (toIntS_any A0 n0 c0 z0 w20 (h0.to C20 (Nat.le_refl _) C20.size) s0).mono ?_
        rintro e w21 ⟨rfl, hA21, hB21⟩
        have sz21 := hB21.size
        have C21 := C20.trans (hB21.mono C20.size)
        have r21 := r20.below hB21 (by omega)
        have g21 := g20.below hB21 (by omega)
        have l21 := hA21.lt
        have aa21 : Row w21 w20.heap.size w21.heap.size (some ⟨w20.heap.size, 0, none⟩) n0 z0 := Row.of hA21 h0.len (Nat.le_refl _) l21
        clear hA21
        go_wp2_with fail
        refine (toIntS_any A1 n1 c1 z1 w21 (h1.to C21 (Nat.le_refl _) C21.size) s1).mono ?_
        rintro e w22 ⟨rfl, hA22, hB22⟩
        have sz22 := hB22.size
        have C22 := C21.trans (hB22.mono C21.size)
        have r22 := r21.below hB22 (by omega)
        have g22 := g21.below hB22 (by omega)
        have aa22 := aa21.below hB22 (by omega)
        have l22 := hA22.lt
        have ab22 : Row w22 w21.heap.size w22.heap.size (some ⟨w21.heap.size, 0, none⟩) n1 z1 := Row.of hA22 h1.len (Nat.le_refl _) l22
        clear hA22
        go_wp2_with fail
        refine (toIntS_any A2 n2 c2 z2 w22 (h2.to C22 (Nat.le_refl _) C22.size) s2).mono ?_
        rintro e w23 ⟨rfl, hA23, hB23⟩
        have sz23 := hB23.size
        have C23 := C22.trans (hB23.mono C22.size)
        have r23 := r22.below hB23 (by omega)
        have g23 := g22.below hB23 (by omega)
        have aa23 := aa22.below hB23 (by omega)
        have ab23 := ab22.below hB23 (by omega)
        have l23 := hA23.lt
        have ad23 : Row w23 w22.heap.size w23.heap.size (some ⟨w22.heap.size, 0, none⟩) n2 z2 := Row.of hA23 h2.len (Nat.le_refl _) l23
        clear hA23
        go_wp2_with fail
        refine (PairOf_any _ n0 _ z0 _ n1 _ z1 _ n2 _ z2 w23 (aa23.ints (by omega)) (ab23.ints (by omega)) (ad23.ints (by omega)) (by omega) (by omega) (by omega)).mono ?_
        rw [Htb.out]
        rintro e w24 ⟨A_24, n_24, c_24, rfl, q24, hB24⟩
        have sz24 := hB24.size
        have C24 := C23.trans (hB24.mono C23.size)
        have r24 := r23.below hB24 (by omega)
        have g24 := g23.below hB24 (by omega)
        have aa24 := aa23.below hB24 (by omega)
        have ab24 := ab23.below hB24 (by omega)
        have ad24 := ad23.below hB24 (by omega)
        have hn_24 : n_24 ≤ 1048576 := by rw [← q24.len]; exact HR.out
        clear aa24
        clear ab24
        clear ad24
        go_wp2_with fail
        refine (below_quiet (eqIntS_any _ _ _ _ _ _ w24.heap.size w24.heap.size _ _ _ (q24.ints (by omega)) (r24.ints (by omega)) (by omega) (by omega))).mono ?_
        rintro e w25 ⟨rfl, hB25⟩
        have sz25 := hB25.size
        have C25 := C24.trans (hB25.mono C24.size)
        have r25 := r24.below hB25 (by omega)
        have g25 := g24.below hB25 (by omega)
        have q25 := q24.below hB25 (by omega)
        go_wp2_with fail
        refine (heldIntS_any _ _ _ w25.heap.size _ _ (g25.ints (by omega)) hn_8 (by omega) (by omega)).mono ?_
        rintro e wx ⟨rfl, rfl⟩
        go_wp2_with fail
        go_ret
        exact ⟨rfl, C25⟩
      · go_enter Try.func7, Try.ntmps7
        go_wp2
        go_ret
        exact ⟨rfl, Below.refl _ _⟩
    · go_enter Try.func7, Try.ntmps7
      go_wp2
      go_ret
      exact ⟨rfl, Below.refl _ _⟩
  · go_enter Try.func7, Try.ntmps7
    go_wp2
    go_ret
    exact ⟨rfl, Below.refl _ _⟩
theorem exactPairOf_walk (A0 : Option Addr) (n0 c0 : Nat) (z0 : List Int) (A1 : Option Addr) (n1 c1 : Nat) (z1 : List Int) (A2 : Option Addr) (n2 c2 : Nat) (z2 : List Int) (w : World) (h0 : Ints w w.heap.size A0 n0 z0) (h1 : Ints w w.heap.size A1 n1 z1) (h2 : Ints w w.heap.size A2 n2 z2) :
    Calls Try.prog 7 #[.slice A0 n0 c0, .slice A1 n1 c1, .slice A2 n2 c2] w fun e w' => e = .returned (.bool true) ∧ Below w.heap.size w w' :=
  exactPairOf_walkR A0 n0 c0 z0 A1 n1 c1 z1 A2 n2 c2 z2 w h0 h1 h2 (poR_len z0 z1 z2)
end Go.Proofs.Ytmlihbcffndnbaa

/- IsPairing: the program's, whole. -/
namespace Go.Proofs.Ytmlihbcffndnbaa
open Go.RowKit Go.Shelf
attribute [local go_sem] Oper.semAt_some
attribute [local go_sem, local simp] wide_fn

set_option maxRecDepth 100000 in
set_option maxHeartbeats 4000000 in
theorem IsPairing_any (A : Option Addr) (n c : Nat) (zs : List Int) (A' : Option Addr) (m c' : Nat) (ys : List Int) (F : Option Addr) (k cf : Nat) (fs : List Int) (G : Option Addr) (l cg : Nat) (gs : List Int) (w : World) (h : Ints w w.heap.size A n zs) (h' : Ints w w.heap.size A' m ys) (hf : Ints w w.heap.size F k fs) (hg : Ints w w.heap.size G l gs)
    (hbig : n ≤ 1152921504606846976) (hbig' : m ≤ 1152921504606846976) (hbigf : k ≤ 1152921504606846976) (hbigg : l ≤ 1152921504606846976) :
    Calls Try.prog 21 #[.slice A n c, .slice A' m c', .slice F k cf, .slice G l cg] w fun e w' => e = .returned (.bool (pairB zs ys fs gs)) ∧ Below w.heap.size w w' := by
  have hlen := Lib.hid h.len
  have hlen' := Lib.hid h'.len
  have hlenf := Lib.hid hf.len
  have hleng := Lib.hid hg.len
  go_enter Try.func21, Try.ntmps21
  go_wp2_with fail
  refine (readTaking_any A n c zs A' m c' ys F k cf fs w h h' hf hbig hbig' hbigf).mono ?_
  rintro e w2 ⟨hB2, (⟨hm, b1, b2, rfl, hAr, hAr'⟩ | ⟨hm, rfl⟩)⟩
  · have z2 := hB2.size
    unfold tkV
    have hA3 := hAr.alloc (.cells #[.slice (some ⟨b1, 0, none⟩) n n, .slice (some ⟨b2, 0, none⟩) m m, .slice F k cf] 44)
    have hB3a := hAr'.alloc (.cells #[.slice (some ⟨b1, 0, none⟩) n n, .slice (some ⟨b2, 0, none⟩) m m, .slice F k cf] 44)
    have kt2 : (w2.alloc (.cells #[.slice (some ⟨b1, 0, none⟩) n n, .slice (some ⟨b2, 0, none⟩) m m, .slice F k cf] 44)).heap[w2.heap.size]? = some (.cells #[.slice (some ⟨b1, 0, none⟩) n n, .slice (some ⟨b2, 0, none⟩) m m, .slice F k cf] 44 (0, 0)) := heap_alloc_new w2 _
    have kB3 := hB2.alloc (by omega) (.cells #[.slice (some ⟨b1, 0, none⟩) n n, .slice (some ⟨b2, 0, none⟩) m m, .slice F k cf] 44)
    have z3 : w2.heap.size < (w2.alloc (.cells #[.slice (some ⟨b1, 0, none⟩) n n, .slice (some ⟨b2, 0, none⟩) m m, .slice F k cf] 44)).heap.size := by simp
    go_wp2_with fail
    obtain ⟨w3, hw3⟩ : ∃ w3, w2.alloc (.cells #[.slice (some ⟨b1, 0, none⟩) n n, .slice (some ⟨b2, 0, none⟩) m m, .slice F k cf] 44) = w3 := ⟨_, rfl⟩
    rw [hw3] at kt2 kB3 z3 hA3 hB3a ⊢
    clear hw3
    refine (readTaking_any A' m c' ys A n c zs G l cg gs w3 (h'.to kB3 (Nat.le_refl _) (by omega)) (h.to kB3 (Nat.le_refl _) (by omega)) (hg.to kB3 (Nat.le_refl _) (by omega)) hbig' hbig hbigg).mono ?_
    rintro e w4 ⟨hB4, (⟨hm2, b3, b4, rfl, hAr2, hAr2'⟩ | ⟨hm2, rfl⟩)⟩
    · have z4 := hB4.size
      obtain ⟨hvo, hvy, hln, hen⟩ := mp_parts hm
      obtain ⟨-, -, hlm, hen2⟩ := mp_parts hm2
      rw [hlen.out, hlenf.out] at hln
      rw [hlen'.out, hleng.out] at hlm
      rw [hlen'.out] at hen
      rw [hlen.out] at hen2
      have Hn := Lib.hid (show pairB zs ys fs gs = prB zs ys fs gs by unfold pairB; rw [hm, hm2]; rfl)
      have Hln := Lib.hid hln
      have Hlm := Lib.hid hlm
      clear hm hm2 hln hlm
      unfold tkV
      have hA4 := hA3.below hB4 hA3.lt
      have hB4a := hB3a.below hB4 hB3a.lt
      have kt4 := (Below.heap_alloc w4 (.cells #[.slice (some ⟨b3, 0, none⟩) m m, .slice (some ⟨b4, 0, none⟩) n n, .slice G l cg] 44) w2.heap.size (by omega)).trans ((hB4.block w2.heap.size z3).trans kt2)
      have ku4 : (w4.alloc (.cells #[.slice (some ⟨b3, 0, none⟩) m m, .slice (some ⟨b4, 0, none⟩) n n, .slice G l cg] 44)).heap[w4.heap.size]? = some (.cells #[.slice (some ⟨b3, 0, none⟩) m m, .slice (some ⟨b4, 0, none⟩) n n, .slice G l cg] 44 (0, 0)) := heap_alloc_new w4 _
      have kB4 := kB3.trans (hB4.mono (by omega))
      have kB5 := kB4.alloc (by omega) (.cells #[.slice (some ⟨b3, 0, none⟩) m m, .slice (some ⟨b4, 0, none⟩) n n, .slice G l cg] 44)
      have hA5 := hA4.alloc (.cells #[.slice (some ⟨b3, 0, none⟩) m m, .slice (some ⟨b4, 0, none⟩) n n, .slice G l cg] 44)
      have hB5 := hB4a.alloc (.cells #[.slice (some ⟨b3, 0, none⟩) m m, .slice (some ⟨b4, 0, none⟩) n n, .slice G l cg] 44)
      have hC5 := hAr2.alloc (.cells #[.slice (some ⟨b3, 0, none⟩) m m, .slice (some ⟨b4, 0, none⟩) n n, .slice G l cg] 44)
      have hD5 := hAr2'.alloc (.cells #[.slice (some ⟨b3, 0, none⟩) m m, .slice (some ⟨b4, 0, none⟩) n n, .slice G l cg] 44)
      have z5 : w4.heap.size < (w4.alloc (.cells #[.slice (some ⟨b3, 0, none⟩) m m, .slice (some ⟨b4, 0, none⟩) n n, .slice G l cg] 44)).heap.size := by simp
      obtain ⟨c0, c1, c2, -, -, -⟩ := three_cells kt4
      obtain ⟨d0, d1, d2, -, -, -⟩ := three_cells ku4
      go_wp2_with fail
      have hh := holds_any (some ⟨b1, 0, none⟩) n (some ⟨b2, 0, none⟩) m F k cf (some ⟨b3, 0, none⟩) m (some ⟨b4, 0, none⟩) n G l cg zs ys fs gs _ (hB5.ints' hB5.lt hlen'.out) (hf.to kB5 (Nat.le_refl _) (by omega)) (hD5.ints' hD5.lt hlen.out) (hg.to kB5 (Nat.le_refl _) (by omega)) hvo.sets hvy.sets Hln.out Hlm.out hen hen2
      unfold prV at hh
      refine hh.mono ?_
      clear hh
      rintro e w6 ⟨rfl, hB6⟩
      go_wp2_with fail
      go_ret
      exact ⟨ret_bool (by first | (rw [Hn.out]; done) | simp [Hn.out]), kB5.trans (hB6.mono (by omega))⟩
    · have z4 := hB4.size
      have Hn := Lib.hid (show pairB zs ys fs gs = false by unfold pairB; rw [hm2]; simp)
      have kB5 := (kB3.trans (hB4.mono (by omega))).alloc (by omega) (.cells #[.slice none 0 0, .slice none 0 0, .slice none 0 0] 44)
      clear hm2 hm
      go_wp2_with fail
      go_ret
      exact ⟨ret_bool Hn.out.symm, kB5⟩
  · have z2 := hB2.size
    have Hn := Lib.hid (show pairB zs ys fs gs = false by unfold pairB; rw [hm]; rfl)
    clear hm
    have kt2 : (w2.alloc (.cells #[.slice none 0 0, .slice none 0 0, .slice none 0 0] 44)).heap[w2.heap.size]? = some (.cells #[.slice none 0 0, .slice none 0 0, .slice none 0 0] 44 (0, 0)) := heap_alloc_new w2 _
    have kB3 := hB2.alloc (by omega) (.cells #[.slice none 0 0, .slice none 0 0, .slice none 0 0] 44)
    have z3 : w2.heap.size < (w2.alloc (.cells #[.slice none 0 0, .slice none 0 0, .slice none 0 0] 44)).heap.size := by simp
    go_wp2_with fail
    obtain ⟨w3, hw3⟩ : ∃ w3, w2.alloc (.cells #[.slice none 0 0, .slice none 0 0, .slice none 0 0] 44) = w3 := ⟨_, rfl⟩
    rw [hw3] at kt2 kB3 z3 ⊢
    clear hw3
    refine (readTaking_any A' m c' ys A n c zs G l cg gs w3 (h'.to kB3 (Nat.le_refl _) (by omega)) (h.to kB3 (Nat.le_refl _) (by omega)) (hg.to kB3 (Nat.le_refl _) (by omega)) hbig' hbig hbigg).mono ?_
    rintro e w4 ⟨hB4, (⟨hm2, b3, b4, rfl, hAr2, hAr2'⟩ | ⟨hm2, rfl⟩)⟩
    · have z4 := hB4.size
      unfold tkV
      have kB5 := (kB3.trans (hB4.mono (by omega))).alloc (by omega) (.cells #[.slice (some ⟨b3, 0, none⟩) m m, .slice (some ⟨b4, 0, none⟩) n n, .slice G l cg] 44)
      clear hm2
      go_wp2_with fail
      go_ret
      exact ⟨ret_bool Hn.out.symm, kB5⟩
    · have z4 := hB4.size
      skip
      have kB5 := (kB3.trans (hB4.mono (by omega))).alloc (by omega) (.cells #[.slice none 0 0, .slice none 0 0, .slice none 0 0] 44)
      clear hm2
      go_wp2_with fail
      go_ret
      exact ⟨ret_bool Hn.out.symm, kB5⟩
end Go.Proofs.Ytmlihbcffndnbaa

/- The walk of the exact law of IsPairing. -/
namespace Go.Proofs.Ytmlihbcffndnbaa
open Go.RowKit

set_option maxHeartbeats 4000000 in
theorem exactIsPairing_walk (A0 : Option Addr) (n0 c0 : Nat) (z0 : List Int) (A1 : Option Addr) (n1 c1 : Nat) (z1 : List Int) (A2 : Option Addr) (n2 c2 : Nat) (z2 : List Int) (A3 : Option Addr) (n3 c3 : Nat) (z3 : List Int) (w : World) (h0 : Ints w w.heap.size A0 n0 z0) (h1 : Ints w w.heap.size A1 n1 z1) (h2 : Ints w w.heap.size A2 n2 z2) (h3 : Ints w w.heap.size A3 n3 z3) :
    Calls Try.prog 6 #[.slice A0 n0 c0, .slice A1 n1 c1, .slice A2 n2 c2, .slice A3 n3 c3] w fun e w' => e = .returned (.bool true) ∧ Below w.heap.size w w' := by
  by_cases s0 : n0 ≤ 1048576
  · by_cases s1 : n1 ≤ 1048576
    · by_cases s2 : n2 ≤ 1048576
      · by_cases s3 : n3 ≤ 1048576
        · go_enter Try.func6, Try.ntmps6
          go_wp2_with fail
          refine (toIntS_any A0 n0 c0 z0 w h0 s0).mono ?_
          rintro e w1 ⟨rfl, hA1, hB1⟩
          have C1 := hB1
          have ia1 := hA1.ints' hA1.lt h0.len
          go_wp2_with fail
          refine (toIntS_any A1 n1 c1 z1 w1 (h1.to C1 (Nat.le_refl _) C1.size) s1).mono ?_
          rintro e w2 ⟨rfl, hA2, hB2⟩
          have C2 := C1.trans (hB2.mono C1.size)
          have ia2 := ia1.to hB2 (Nat.le_refl _) hB2.size
          have jb2 := hA2.ints' hA2.lt h1.len
          go_wp2_with fail
          refine (toIntS_any A2 n2 c2 z2 w2 (h2.to C2 (Nat.le_refl _) C2.size) s2).mono ?_
          rintro e w3 ⟨rfl, hA3, hB3⟩
          have C3 := C2.trans (hB3.mono C2.size)
          have ia3 := ia2.to hB3 (Nat.le_refl _) hB3.size
          have jb3 := jb2.to hB3 (Nat.le_refl _) hB3.size
          have kd3 := hA3.ints' hA3.lt h2.len
          go_wp2_with fail
          refine (toIntS_any A3 n3 c3 z3 w3 (h3.to C3 (Nat.le_refl _) C3.size) s3).mono ?_
          rintro e w4 ⟨rfl, hA4, hB4⟩
          have C4 := C3.trans (hB4.mono C3.size)
          have ia4 := ia3.to hB4 (Nat.le_refl _) hB4.size
          have jb4 := jb3.to hB4 (Nat.le_refl _) hB4.size
          have kd4 := kd3.to hB4 (Nat.le_refl _) hB4.size
          have lg4 := hA4.ints' hA4.lt h3.len
          go_wp2_with fail
          refine (specIsPairingF_any _ n0 _ z0 _ n1 _ z1 _ n2 _ z2 _ n3 _ z3 w4 ia4 jb4 kd4 lg4 (by omega) (by omega) (by omega) (by omega)).mono ?_
          rintro e w5 ⟨rfl, hB5⟩
          have C5 := C4.trans (hB5.mono C4.size)
          have ia5 := ia4.to hB5 (Nat.le_refl _) hB5.size
          have jb5 := jb4.to hB5 (Nat.le_refl _) hB5.size
          have kd5 := kd4.to hB5 (Nat.le_refl _) hB5.size
          have lg5 := lg4.to hB5 (Nat.le_refl _) hB5.size
          clear ia5
          clear jb5
          clear kd5
          clear lg5
          go_wp2_with fail
          refine (toIntS_any A0 n0 c0 z0 w5 (h0.to C5 (Nat.le_refl _) C5.size) s0).mono ?_
          rintro e w6 ⟨rfl, hA6, hB6⟩
          have C6 := C5.trans (hB6.mono C5.size)
          have xa6 := hA6.ints' hA6.lt h0.len
          go_wp2_with fail
          refine (toIntS_any A1 n1 c1 z1 w6 (h1.to C6 (Nat.le_refl _) C6.size) s1).mono ?_
          rintro e w7 ⟨rfl, hA7, hB7⟩
          have C7 := C6.trans (hB7.mono C6.size)
          have xa7 := xa6.to hB7 (Nat.le_refl _) hB7.size
          have xb7 := hA7.ints' hA7.lt h1.len
          go_wp2_with fail
          refine (toIntS_any A2 n2 c2 z2 w7 (h2.to C7 (Nat.le_refl _) C7.size) s2).mono ?_
          rintro e w8 ⟨rfl, hA8, hB8⟩
          have C8 := C7.trans (hB8.mono C7.size)
          have xa8 := xa7.to hB8 (Nat.le_refl _) hB8.size
          have xb8 := xb7.to hB8 (Nat.le_refl _) hB8.size
          have xd8 := hA8.ints' hA8.lt h2.len
          go_wp2_with fail
          refine (toIntS_any A3 n3 c3 z3 w8 (h3.to C8 (Nat.le_refl _) C8.size) s3).mono ?_
          rintro e w9 ⟨rfl, hA9, hB9⟩
          have C9 := C8.trans (hB9.mono C8.size)
          have xa9 := xa8.to hB9 (Nat.le_refl _) hB9.size
          have xb9 := xb8.to hB9 (Nat.le_refl _) hB9.size
          have xd9 := xd8.to hB9 (Nat.le_refl _) hB9.size
          have xg9 := hA9.ints' hA9.lt h3.len
          go_wp2_with fail
          refine (IsPairing_any _ n0 _ z0 _ n1 _ z1 _ n2 _ z2 _ n3 _ z3 w9 xa9 xb9 xd9 xg9 (by omega) (by omega) (by omega) (by omega)).mono ?_
          rintro e w10 ⟨rfl, hB10⟩
          have C10 := C9.trans (hB10.mono C9.size)
          have xa10 := xa9.to hB10 (Nat.le_refl _) hB10.size
          have xb10 := xb9.to hB10 (Nat.le_refl _) hB10.size
          have xd10 := xd9.to hB10 (Nat.le_refl _) hB10.size
          have xg10 := xg9.to hB10 (Nat.le_refl _) hB10.size
          have hne : (pairB z0 z1 z2 z3 != pairB z0 z1 z2 z3) = false := by simp
          have hz0 : decide (z0 = z0) = true := by simp
          have hz1 : decide (z1 = z1) = true := by simp
          have hz2 : decide (z2 = z2) = true := by simp
          have hz3 : decide (z3 = z3) = true := by simp
          go_wp2_with fail
          refine (toIntS_any A0 n0 c0 z0 w10 (h0.to C10 (Nat.le_refl _) C10.size) s0).mono ?_
          rintro e w11 ⟨rfl, hA11, hB11⟩
          have C11 := C10.trans (hB11.mono C10.size)
          have xa11 := xa10.to hB11 (Nat.le_refl _) hB11.size
          have xb11 := xb10.to hB11 (Nat.le_refl _) hB11.size
          have xd11 := xd10.to hB11 (Nat.le_refl _) hB11.size
          have xg11 := xg10.to hB11 (Nat.le_refl _) hB11.size
          have ma11 := hA11.ints' hA11.lt h0.len
          go_wp2_with fail
          refine (below_quiet (eqIntS_any _ _ _ _ _ _ w11.heap.size w11.heap.size z0 z0 _ xa11 ma11 (by omega) (by omega))).mono ?_
          rintro e w12 ⟨rfl, hB12⟩
          have C12 := C11.trans (hB12.mono C11.size)
          have xa12 := xa11.to hB12 (Nat.le_refl _) hB12.size
          have xb12 := xb11.to hB12 (Nat.le_refl _) hB12.size
          have xd12 := xd11.to hB12 (Nat.le_refl _) hB12.size
          have xg12 := xg11.to hB12 (Nat.le_refl _) hB12.size
          have ma12 := ma11.to hB12 (Nat.le_refl _) hB12.size
          clear ma12
          go_wp2_with fail
          refine (toIntS_any A1 n1 c1 z1 w12 (h1.to C12 (Nat.le_refl _) C12.size) s1).mono ?_
          rintro e w13 ⟨rfl, hA13, hB13⟩
          have C13 := C12.trans (hB13.mono C12.size)
          have xa13 := xa12.to hB13 (Nat.le_refl _) hB13.size
          have xb13 := xb12.to hB13 (Nat.le_refl _) hB13.size
          have xd13 := xd12.to hB13 (Nat.le_refl _) hB13.size
          have xg13 := xg12.to hB13 (Nat.le_refl _) hB13.size
          have ma13 := hA13.ints' hA13.lt h1.len
          go_wp2_with fail
          refine (below_quiet (eqIntS_any _ _ _ _ _ _ w13.heap.size w13.heap.size z1 z1 _ xb13 ma13 (by omega) (by omega))).mono ?_
          rintro e w14 ⟨rfl, hB14⟩
          have C14 := C13.trans (hB14.mono C13.size)
          have xa14 := xa13.to hB14 (Nat.le_refl _) hB14.size
          have xb14 := xb13.to hB14 (Nat.le_refl _) hB14.size
          have xd14 := xd13.to hB14 (Nat.le_refl _) hB14.size
          have xg14 := xg13.to hB14 (Nat.le_refl _) hB14.size
          have ma14 := ma13.to hB14 (Nat.le_refl _) hB14.size
          clear ma14
          go_wp2_with fail
          refine (toIntS_any A2 n2 c2 z2 w14 (h2.to C14 (Nat.le_refl _) C14.size) s2).mono ?_
          rintro e w15 ⟨rfl, hA15, hB15⟩
          have C15 := C14.trans (hB15.mono C14.size)
          have xa15 := xa14.to hB15 (Nat.le_refl _) hB15.size
          have xb15 := xb14.to hB15 (Nat.le_refl _) hB15.size
          have xd15 := xd14.to hB15 (Nat.le_refl _) hB15.size
          have xg15 := xg14.to hB15 (Nat.le_refl _) hB15.size
          have ma15 := hA15.ints' hA15.lt h2.len
          go_wp2_with fail
          refine (below_quiet (eqIntS_any _ _ _ _ _ _ w15.heap.size w15.heap.size z2 z2 _ xd15 ma15 (by omega) (by omega))).mono ?_
          rintro e w16 ⟨rfl, hB16⟩
          have C16 := C15.trans (hB16.mono C15.size)
          have xa16 := xa15.to hB16 (Nat.le_refl _) hB16.size
          have xb16 := xb15.to hB16 (Nat.le_refl _) hB16.size
          have xd16 := xd15.to hB16 (Nat.le_refl _) hB16.size
          have xg16 := xg15.to hB16 (Nat.le_refl _) hB16.size
          have ma16 := ma15.to hB16 (Nat.le_refl _) hB16.size
          clear ma16
          go_wp2_with fail
          refine (toIntS_any A3 n3 c3 z3 w16 (h3.to C16 (Nat.le_refl _) C16.size) s3).mono ?_
          rintro e w17 ⟨rfl, hA17, hB17⟩
          have C17 := C16.trans (hB17.mono C16.size)
          have xa17 := xa16.to hB17 (Nat.le_refl _) hB17.size
          have xb17 := xb16.to hB17 (Nat.le_refl _) hB17.size
          have xd17 := xd16.to hB17 (Nat.le_refl _) hB17.size
          have xg17 := xg16.to hB17 (Nat.le_refl _) hB17.size
          have ma17 := hA17.ints' hA17.lt h3.len
          go_wp2_with fail
          refine (below_quiet (eqIntS_any _ _ _ _ _ _ w17.heap.size w17.heap.size z3 z3 _ xg17 ma17 (by omega) (by omega))).mono ?_
          rintro e w18 ⟨rfl, hB18⟩
          have C18 := C17.trans (hB18.mono C17.size)
          have xa18 := xa17.to hB18 (Nat.le_refl _) hB18.size
          have xb18 := xb17.to hB18 (Nat.le_refl _) hB18.size
          have xd18 := xd17.to hB18 (Nat.le_refl _) hB18.size
          have xg18 := xg17.to hB18 (Nat.le_refl _) hB18.size
          have ma18 := ma17.to hB18 (Nat.le_refl _) hB18.size
          clear ma18
          go_wp2_with fail
          go_ret
          exact ⟨rfl, C18⟩
        · go_enter Try.func6, Try.ntmps6
          go_wp2
          go_ret
          exact ⟨rfl, Below.refl _ _⟩
      · go_enter Try.func6, Try.ntmps6
        go_wp2
        go_ret
        exact ⟨rfl, Below.refl _ _⟩
    · go_enter Try.func6, Try.ntmps6
      go_wp2
      go_ret
      exact ⟨rfl, Below.refl _ _⟩
  · go_enter Try.func6, Try.ntmps6
    go_wp2
    go_ret
    exact ⟨rfl, Below.refl _ _⟩
end Go.Proofs.Ytmlihbcffndnbaa

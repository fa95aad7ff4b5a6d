/- LinesOrder: the program's. -/
import Derived.Test.YtipdmaggfbfnlaaLoV
import Derived.Test.YtipdmaggfbfnlaaIsLineI
import Derived.Test.YtipdmaggfbfnlaaCloI
import Derived.Test.YtipdmaggfbfnlaaGa
set_option linter.unusedVariables false
set_option linter.unusedSimpArgs false
namespace Go.Proofs.Ytipdmaggfbfnlaa
open Go.RowKit Go.Shelf
attribute [local go_sem] Oper.semAt_some
attribute [local go_sem, local simp] wide_fn

theorem infoOrder : (Try.prog.info? 43).map (fun i => (i.zero, i.size, i.bytes)) = some (some (.slice none 0 0), 1, 24) := by kernel_rfl

set_option maxRecDepth 100000 in
set_option maxHeartbeats 2000000 in
theorem orderOfLine_any (n : Nat) (A : Option Addr) (c : Nat) (r : List Int) (w : World) (h : Ints w w.heap.size A n r) (hn6 : n ≤ 6) (hl : lineB (zr n) r = true) :
    Calls Try.prog 122 #[.slice A n c] w fun e w' => e = .returned (.slice (some ⟨w.heap.size, 0, none⟩) n n) ∧ Arr w' w.heap.size 79 (meL n [r]) ∧ Below w.heap.size w w' := by
  have Hl := Lib.hid hl
  have hmk := run_make_row' (P := Try.prog) 43 79 (.int .i64 0) 8 Try.underlying43 infoItems rfl .i64 .i64 n (by omega) (by omega)
  have Hall := Lib.hid (lnL_all hn6 hl)
  clear hl
  go_enter Try.func122, Try.ntmps122
  go_wp2_with fail
  refine (oall_any _ _ _ _ hn6).mono ?_
  rintro e w' ⟨rfl, rfl⟩
  have hA1 : Arr (w.alloc (.cells (madeCells #[.int .i64 0] n) 79)) w.heap.size 79 (lnL n r 0) := by rw [lnL_zero hn6 Hl.out]; exact Arr.new w 79 n
  have hB1 : Below w.heap.size w (w.alloc (.cells (madeCells #[.int .i64 0] n) 79)) := (Below.refl _ _).alloc (Nat.le_refl _) _
  obtain ⟨W1, hW1⟩ : ∃ W1, w.alloc (.cells (madeCells #[.int .i64 0] n) 79) = W1 := ⟨_, rfl⟩
  rw [hW1] at hA1 hB1 ⊢
  clear hW1 hmk
  go_wp2_with fail
  go_loopw [4, 14] (fun s i wr => ∃ k : Nat, k ≤ n ∧ i = .int .i64 k ∧ s = .int .i64 (leftTo n r k) ∧ Arr wr w.heap.size 79 (lnL n r k) ∧ Below w.heap.size w wr) (fun _ i _ => n - (intOf i).toNat)
  case atStart => exact ⟨0, by omega, rfl, rfl, hA1, hB1⟩
  case round =>
    clear hA1 hB1
    obtain ⟨k, hk, rfl, rfl, hAr, hB⟩ := hrel
    rename World => wr
    by_cases hlt : k < n
    · obtain ⟨b2, off2, rfl, hb2, hc2⟩ := (h.below hB).at_ hlt
      have hck := hc2 k hlt
      obtain ⟨hx1, hx2⟩ := it_lt Hl.out hlt
      have Hs := Lib.hid (lnL_step hn6 Hl.out hlt)
      have Hlf := Lib.hid (show leftTo n r (k + 1) = lessI (leftTo n r k) (powI (itN r k : Int)) by rw [← hx1]; rfl)
      have hlb := leftTo_bd (n := n) (ls := r) k
      have hp64 := powI_le6 (n := (n : Int)) (by omega)
      rw [hx1] at hck
      clear hc2 hx1
      have hcs := hAr.cell (k := itN r k) (by rw [lnL_len]; exact hx2)
      have hfs := hAr.frozen (itN r k)
      generalize itN r k = x at *
      rw [Hlf.out] at Hs
      generalize leftTo n r k = lf at *
      generalize (lnL n r k)[x]?.getD 0 = dx at *
      go_wp2_with fail
      refine (without_any lf (x : Int) wr hlb.1 (by omega) (by omega) (by omega)).mono ?_
      rintro e w' ⟨rfl, rfl⟩
      go_wp2_with fail
      go_roundw
      case rel => exact ⟨k + 1, by omega, by go_num, by rw [Hlf.out], by rw [Hs.out]; exact hAr.set _ _, hB.setCell (p := ⟨w.heap.size, x, none⟩) (Nat.le_refl _) _⟩
      case measure => simp [intOf]; omega
    · obtain rfl : k = n := by omega
      go_wp2_with fail
      go_ret
      exact ⟨rfl, by rw [← Hall.out]; exact hAr, hB⟩

/-- Orders of lines, in a list under way. -/
def Ords (w : World) (bt m n : Nat) (rs : List (List Int)) (k : Nat) : Prop := ∃ cs : Array Value, w.heap[bt]? = some (.cells cs 43 (0, 0)) ∧ cs.size = m ∧ ∀ i, i < k → ∃ b c, cs[i]? = some (.slice (some ⟨b, 0, none⟩) n c) ∧ bt < b ∧ Arr w b 79 (meL n [rs[i]?.getD []])
section
variable {w w' : World} {bt m n k : Nat} {rs : List (List Int)}
theorem Ords.lt (h : Ords w bt m n rs k) : bt < w.heap.size := by
  obtain ⟨cs, h1, _⟩ := h
  exact (Array.getElem?_eq_some_iff.1 h1).1
theorem Ords.below (h : Ords w bt m n rs k) (hu : Below w.heap.size w w') : Ords w' bt m n rs k := by
  have hl := h.lt
  obtain ⟨cs, h1, h2, h3⟩ := h
  refine ⟨cs, (hu.block _ hl).trans h1, h2, fun i hi => ?_⟩
  obtain ⟨b, c, e, hb, hA⟩ := h3 i hi
  exact ⟨b, c, e, hb, hA.below hu hA.lt⟩
theorem Ords.size (h : Ords w bt m n rs k) : ∃ cs : Array Value, w.heap[bt]? = some (.cells cs 43 (0, 0)) ∧ cs.size = m := by
  obtain ⟨cs, h1, h2, _⟩ := h
  exact ⟨cs, h1, h2⟩
theorem Ords.at_ (h : Ords w bt m n rs k) {i : Nat} (hi : i < k) : ∃ b c, w.cell? ⟨bt, i, none⟩ = some (.slice (some ⟨b, 0, none⟩) n c) ∧ Arr w b 79 (meL n [rs[i]?.getD []]) := by
  obtain ⟨cs, h1, h2, h3⟩ := h
  obtain ⟨b, c, e, hb, hA⟩ := h3 i hi
  exact ⟨b, c, by rw [cell_of_row _ _ _ _ _ _ h1]; exact e, hA⟩
theorem Ords.set (h : Ords w bt m n rs k) (hk : k < m) {b c : Nat} (hb : bt < b) (hA : Arr w b 79 (meL n [rs[k]?.getD []])) : Ords (w.setCell ⟨bt, k, none⟩ (.slice (some ⟨b, 0, none⟩) n c)) bt m n rs (k + 1) := by
  obtain ⟨cs, h1, h2, h3⟩ := h
  refine ⟨cs.setIfInBounds k (.slice (some ⟨b, 0, none⟩) n c), by simp [World.setCell, Array.getElem?_modify, h1], by simpa using h2, fun i hi => ?_⟩
  by_cases hik : k = i
  · subst hik
    exact ⟨b, c, by rw [Array.getElem?_setIfInBounds_self_of_lt (by omega)], hb, hA.far (by simp; omega) _⟩
  · obtain ⟨b', c', e, hb', hA'⟩ := h3 i (by omega)
    exact ⟨b', c', by rw [Array.getElem?_setIfInBounds, if_neg hik]; exact e, hb', hA'.far (by simp; omega) _⟩
theorem Ords.cell (h : Ords w bt m n rs k) {i : Nat} (hi : i < m) : (∃ u, w.cell? ⟨bt, i, none⟩ = some u) ∧ w.frozen? ⟨bt, i, none⟩ = false := by
  obtain ⟨cs, h1, h2, _⟩ := h
  exact ⟨⟨cs[i]'(by omega), by rw [cell_of_row _ _ _ _ _ _ h1, Array.getElem?_eq_getElem]⟩, frozen_of_row _ _ _ _ _ h1⟩
end

/-- What reading lines gives. -/
def ReadsLn (w : World) (n : Int) (m : Nat) (rs : List (List Int)) (e : Ending) (w' : World) : Prop :=
  Below w.heap.size w w' ∧ ((lnOk n rs = false ∧ e = .returned (.tuple #[.slice none 0 0, .bool false])) ∨
    (lnOk n rs = true ∧ ∃ bt, e = .returned (.tuple #[.slice (some ⟨bt, 0, none⟩) m m, .bool true]) ∧ Ords w' bt m n.toNat rs m))

set_option maxRecDepth 100000 in
set_option maxHeartbeats 4000000 in
theorem readLines_any (n : Int) (A : Option Addr) (m c : Nat) (rs : List (List Int)) (w : World) (h : IntsS w w.heap.size A m rs) (hm : m ≤ 1048576) (hr : ∀ r ∈ rs, r.length ≤ 1048576) :
    Calls Try.prog 90 #[.int .i64 n, .slice A m c] w (ReadsLn w n m rs) := by
  have hlen := Lib.hid h.len
  by_cases hn0 : n < 0
  · have Ho := Lib.hid (show lnOk n rs = false by simp [lnOk, inB]; omega)
    go_enter Try.func90, Try.ntmps90
    go_wp2_with fail
    go_ret2
    exact ⟨Below.refl _ _, .inl ⟨Ho.out, rfl⟩⟩
  by_cases hn6 : 6 < n
  · have Ho := Lib.hid (show lnOk n rs = false by simp [lnOk, inB]; omega)
    go_enter Try.func90, Try.ntmps90
    go_wp2_with fail
    go_ret2
    exact ⟨Below.refl _ _, .inl ⟨Ho.out, rfl⟩⟩
  obtain ⟨N, rfl⟩ := Int.eq_ofNat_of_zero_le (show 0 ≤ n by omega)
  have hN : N ≤ 6 := by omega
  have Hok := Lib.hid (lnOk_in (rs := rs) hN)
  by_cases hm0 : m = 0
  · subst hm0
    have Ho := Lib.hid (show lnOk (N : Int) rs = false by rw [Hok.out]; unfold lnsB; rw [hlen.out]; simp)
    go_enter Try.func90, Try.ntmps90
    go_wp2_with fail
    go_ret2
    exact ⟨Below.refl _ _, .inl ⟨Ho.out, rfl⟩⟩
  have hme : ((m : Int) == 0) = false := by simp; omega
  have hmk := run_make_row' (P := Try.prog) 43 79 (.int .i64 0) 8 Try.underlying43 infoItems rfl .i64 .i64 N (by omega) (by omega)
  have hmk2 := run_make_row' (P := Try.prog) 73 43 (.slice none 0 0) 24 Try.underlying73 infoOrder rfl .i64 .i64 m (by omega) (by omega)
  go_enter Try.func90, Try.ntmps90
  go_wp2_with fail
  have hA1 : Arr (w.alloc (.cells (madeCells #[.int .i64 0] N) 79)) w.heap.size 79 (zr N) := Arr.new w 79 N
  have hB1 : Below w.heap.size w (w.alloc (.cells (madeCells #[.int .i64 0] N) 79)) := (Below.refl _ _).alloc (Nat.le_refl _) _
  obtain ⟨W1, hW1⟩ : ∃ W1, w.alloc (.cells (madeCells #[.int .i64 0] N) 79) = W1 := ⟨_, rfl⟩
  rw [hW1] at hA1 hB1 ⊢
  clear hW1 hmk
  have z1 := hB1.size
  refine (lineup_any _ N _ (zr N) (zr_vo hN).sets _ (hA1.ints' hA1.lt (zr_len N))).mono ?_
  rintro e w2 ⟨bd, bm, rfl, hA2, -, hbd, hbm, -, hB2⟩
  have C2 := hB1.trans (hB2.mono z1)
  have z2 := C2.size
  unfold lineV
  go_wp2_with fail
  have hS4 : ((w2.alloc (.cells #[.slice (some ⟨bd, 0, none⟩) N N, .map (some bm)] 48)).alloc (.cells (madeCells #[.slice none 0 0] m) 43)).heap[w2.heap.size]? = some (.cells #[.slice (some ⟨bd, 0, none⟩) N N, .map (some bm)] 48 (0, 0)) := (Below.heap_alloc _ _ _ (by simp)).trans (heap_alloc_new w2 _)
  have hz3 : (w2.alloc (.cells #[.slice (some ⟨bd, 0, none⟩) N N, .map (some bm)] 48)).heap.size = w2.heap.size + 1 := by simp
  have hO4 : Ords ((w2.alloc (.cells #[.slice (some ⟨bd, 0, none⟩) N N, .map (some bm)] 48)).alloc (.cells (madeCells #[.slice none 0 0] m) 43)) (w2.heap.size + 1) m N rs 0 := by
    refine ⟨madeCells #[.slice none 0 0] m, ?_, by simp [madeCells], fun i hi => by omega⟩
    have := heap_alloc_new (w2.alloc (.cells #[.slice (some ⟨bd, 0, none⟩) N N, .map (some bm)] 48)) (.cells (madeCells #[.slice none 0 0] m) 43)
    rwa [hz3] at this
  have hA4 := (hA2.alloc (.cells #[.slice (some ⟨bd, 0, none⟩) N N, .map (some bm)] 48)).alloc (.cells (madeCells #[.slice none 0 0] m) 43)
  have C4 := (C2.alloc z2 (.cells #[.slice (some ⟨bd, 0, none⟩) N N, .map (some bm)] 48)).alloc (by simp; omega) (.cells (madeCells #[.slice none 0 0] m) 43)
  have hz4 : ((w2.alloc (.cells #[.slice (some ⟨bd, 0, none⟩) N N, .map (some bm)] 48)).alloc (.cells (madeCells #[.slice none 0 0] m) 43)).heap.size = w2.heap.size + 2 := by simp
  have hb4 := hA2.lt
  have hl4 : w2.heap.size + 1 < ((w2.alloc (.cells #[.slice (some ⟨bd, 0, none⟩) N N, .map (some bm)] 48)).alloc (.cells (madeCells #[.slice none 0 0] m) 43)).heap.size := by omega
  obtain ⟨W4, hW4⟩ : ∃ W4, (w2.alloc (.cells #[.slice (some ⟨bd, 0, none⟩) N N, .map (some bm)] 48)).alloc (.cells (madeCells #[.slice none 0 0] m) 43) = W4 := ⟨_, rfl⟩
  rw [hW4] at hS4 hO4 hA4 C4 hl4 ⊢
  clear hW4 hz3 hz4 hA2 C2 hB2 hB1 hA1 hmk2
  generalize hbt : w2.heap.size + 1 = bt at *
  have Hbt := Lib.hid hbt
  clear hbt
  have hbs : w2.heap.size < bt := by rw [← Hbt.out]; omega
  generalize w2.heap.size = bs at *
  clear Hbt
  go_loopw [29] (fun i wr => ∃ k : Nat, k ≤ m ∧ i = .int .i64 k ∧ (∀ a, a < k → lineB (zr N) (rs[a]?.getD []) = true) ∧ Ords wr bt m N rs k ∧ Upd (fun j => j = bt) W4 wr) (fun i _ => m - (intOf i).toNat)
  case atStart => exact ⟨0, by omega, rfl, fun a ha => by omega, hO4, Upd.refl _ _⟩
  case round =>
    clear hO4
    obtain ⟨k, hk, rfl, hok, hO, hU⟩ := hrel
    rename World => wr
    have Hlines := Lib.hid hok
    clear hok
    have zU := hU.size
    have C : Below w.heap.size w wr := C4.trans (hU.toBelow (B := w.heap.size) (fun j e => by omega) C4.size)
    have z := C.size
    by_cases hlt : k < m
    · have hkl := Lib.hid (show k < rs.length by rw [hlen.out]; exact hlt)
      obtain ⟨b0, off, rfl, hb0, hc⟩ := (h.below C).at_ hlt
      obtain ⟨A', c', hcell, hI⟩ := hc k hlt
      clear hc
      have hml : (rs[k]?.getD []).length ≤ 1048576 := by
        rw [List.getElem?_eq_getElem hkl.out]
        exact hr _ (List.getElem_mem _)
      have Hno := Lib.hid (fun e => lnsB_no (n := N) hkl.out e)
      have hSr : wr.heap[bs]? = some (.cells #[.slice (some ⟨bd, 0, none⟩) N N, .map (some bm)] 48 (0, 0)) := (hU.block bs (by omega) (by omega)).trans hS4
      have hAr : Arr wr bd 79 (du (zr N)) := hA4.upd hU (by omega)
      generalize hrr : rs[k]?.getD [] = r at *
      have Hrr := Lib.hid hrr
      clear hrr
      have Hcall := Lib.hid (lisLine_any bd bm N A' r.length c' (zr N) r (zr_vo hN) (zr_len N) wr (hAr.ints' hAr.lt (by rw [du_len, zr_len])) (hI.more z) (by omega))
      unfold lineV at Hcall
      cases hl : lineB (zr N) r
      · have Hl := Lib.hid hl
        have Ho := Lib.hid (show lnOk (N : Int) rs = false by rw [Hok.out]; exact Hno.out hl)
        clear hl
        go_wp2_with (refine wpList_load_row rfl _ _ rfl bs rfl _ _ (0, 0) _ hSr Try.underlying48 rfl (by kernel_rfl) ?_)
        refine Hcall.out.mono ?_
        rw [Hl.out]
        rintro e w5 ⟨rfl, hB5⟩
        go_wp2_with fail
        go_ret2
        exact ⟨C.trans (hB5.mono z), .inl ⟨Ho.out, rfl⟩⟩
      · have Hl := Lib.hid hl
        have hrl := (zr_steps hl).1
        clear hl
        rw [hrl] at hI hcell Hcall
        clear hml
        go_wp2_with (refine wpList_load_row rfl _ _ rfl bs rfl _ _ (0, 0) _ hSr Try.underlying48 rfl (by kernel_rfl) ?_)
        refine Hcall.out.mono ?_
        rw [Hl.out]
        rintro e w5 ⟨rfl, hB5⟩
        have C5 := C.trans (hB5.mono z)
        have z5 := hB5.size
        have hO5 := hO.below hB5
        have hU5 : Upd (fun j => j = bt) W4 w5 := hU.below hB5 (fun j h1 h2 => by omega)
        have hbl := hO.lt
        go_wp2_with fail
        refine (orderOfLine_any N A' c' r w5 (hI.to hB5 z (by omega)) hN Hl.out).mono ?_
        rintro e w6 ⟨rfl, hA6, hB6⟩
        have z6 := hB6.size
        have hO6 := hO5.below hB6
        have hU6 : Upd (fun j => j = bt) W4 w6 := hU5.below hB6 (fun j h1 h2 => by omega)
        obtain ⟨⟨u6, hu6⟩, hf6⟩ := hO6.cell hlt
        rw [← Hrr.out] at hA6
        go_wp2_with fail
        go_roundw
        case rel => exact ⟨k + 1, by omega, by go_num, all_snoc Hlines.out (by rw [Hrr.out]; exact Hl.out), hO6.set hlt (by omega) hA6, hU6.setCell (p := ⟨bt, k, none⟩) (.inr rfl) _⟩
        case measure => simp [intOf]; omega
    · obtain rfl : k = m := by omega
      have Ho := Lib.hid (show lnOk (N : Int) rs = true by rw [Hok.out, lnsB_yes hlen.out Hlines.out]; simp; omega)
      go_wp2_with fail
      go_ret2
      exact ⟨C, .inr ⟨Ho.out, bt, rfl, hO⟩⟩
end Go.Proofs.Ytipdmaggfbfnlaa

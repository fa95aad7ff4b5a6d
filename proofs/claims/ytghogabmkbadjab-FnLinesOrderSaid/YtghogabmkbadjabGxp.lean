/- Texts that several claims share, one behind the other. -/
import Derived.Test.YtghogabmkbadjabGxo
import Derived.Test.YtghogabmkbadjabIsN
import Derived.Test.YtghogabmkbadjabGxe
import Derived.Test.YtghogabmkbadjabGa
set_option linter.unusedVariables false
set_option linter.unusedSimpArgs false
/- LinesOrder: the program's. -/
namespace Go.Proofs.Ytghogabmkbadjab
open Go.RowKit Go.Shelf
attribute [local go_sem] Oper.semAt_some
attribute [local go_sem, local simp] wide_fn

theorem infoOrder : (Try.prog.info? 49).map (fun i => (i.zero, i.size, i.bytes)) = some (some (.slice none 0 0), 1, 24) := by kernel_rfl

set_option maxRecDepth 100000 in
set_option maxHeartbeats 2000000 in
theorem orderOfLine_any (n : Nat) (A : Option Addr) (c : Nat) (r : List Int) (w : World) (h : Ints w w.heap.size A n r) (hn6 : n ≤ 6) (hl : lineB (zr n) r = true) :
    Calls Try.prog 121 #[.slice A n c] w fun e w' => e = .returned (.slice (some ⟨w.heap.size, 0, none⟩) n n) ∧ Arr w' w.heap.size 76 (meL n [r]) ∧ Below w.heap.size w w' := by
  have Hl := Lib.hid hl
  have hmk := run_make_row' (P := Try.prog) 49 76 (.int .i64 0) 8 Try.underlying49 infoItems rfl .i64 .i64 n (by omega) (by omega)
  have Hall := Lib.hid (lnL_all hn6 hl)
  clear hl
  go_enter Try.func121, Try.ntmps121
  go_wp2_with fail
  refine (oall_any _ _ _ _ hn6).mono ?_
  rintro e w' ⟨rfl, rfl⟩
  have hA1 : Arr (w.alloc (.cells (madeCells #[.int .i64 0] n) 76)) w.heap.size 76 (lnL n r 0) := by rw [lnL_zero hn6 Hl.out]; exact Arr.new w 76 n
  have hB1 : Below w.heap.size w (w.alloc (.cells (madeCells #[.int .i64 0] n) 76)) := (Below.refl _ _).alloc (Nat.le_refl _) _
  obtain ⟨W1, hW1⟩ : ∃ W1, w.alloc (.cells (madeCells #[.int .i64 0] n) 76) = W1 := ⟨_, rfl⟩
  rw [hW1] at hA1 hB1 ⊢
  clear hW1 hmk
  go_wp2_with fail
  go_loopw [4, 14] (fun s i wr => ∃ k : Nat, k ≤ n ∧ i = .int .i64 k ∧ s = .int .i64 (leftTo n r k) ∧ Arr wr w.heap.size 76 (lnL n r k) ∧ Below w.heap.size w wr) (fun _ i _ => n - (intOf i).toNat)
  case atStart => exact ⟨0, by omega, rfl, rfl, hA1, hB1⟩
  case round =>
    clear hA1 hB1
    obtain ⟨k, hk, rfl, rfl, hAr, hB⟩ := hrel
    rename World => wr
    by_cases hlt : k < n
    · obtain ⟨b2, off2, rfl, hb2, hc2⟩ := (h.below hB).at_ hlt
      have hck := hc2 k hlt
      obtain ⟨hx1, hx2⟩ := it_lt Hl.out hlt
      have Hs := Lib.hid (lnL_step hn6 Hl.out hlt)
      have Hlf := Lib.hid (show leftTo n r (k + 1) = lessI (leftTo n r k) (powI (itN r k : Int)) by rw [← hx1]; rfl)
      have hlb := leftTo_bd (n := n) (ls := r) k
      have hp64 := powI_le6 (n := (n : Int)) (by omega)
      rw [hx1] at hck
      clear hc2 hx1
      have hcs := hAr.cell (k := itN r k) (by rw [lnL_len]; exact hx2)
      have hfs := hAr.frozen (itN r k)
      generalize itN r k = x at *
      rw [Hlf.out] at Hs
      generalize leftTo n r k = lf at *
      generalize (lnL n r k)[x]?.getD 0 = dx at *
      go_wp2_with fail
      refine (without_any lf (x : Int) wr hlb.1 (by omega) (by omega) (by omega)).mono ?_
      rintro e w' ⟨rfl, rfl⟩
      go_wp2_with fail
      go_roundw
      case rel => exact ⟨k + 1, by omega, by go_num, by rw [Hlf.out], by rw [Hs.out]; exact hAr.set _ _, hB.setCell (p := ⟨w.heap.size, x, none⟩) (Nat.le_refl _) _⟩
      case measure => simp [intOf]; omega
    · obtain rfl : k = n := by omega
      go_wp2_with fail
      go_ret
      exact ⟨rfl, by rw [← Hall.out]; exact hAr, hB⟩

/-- Orders of lines, in a list under way. -/
def Ords (w : World) (bt m n : Nat) (rs : List (List Int)) (k : Nat) : Prop := ∃ cs : Array Value, w.heap[bt]? = some (.cells cs 49 (0, 0)) ∧ cs.size = m ∧ ∀ i, i < k → ∃ b c, cs[i]? = some (.slice (some ⟨b, 0, none⟩) n c) ∧ bt < b ∧ Arr w b 76 (meL n [rs[i]?.getD []])
section
variable {w w' : World} {bt m n k : Nat} {rs : List (List Int)}
theorem Ords.lt (h : Ords w bt m n rs k) : bt < w.heap.size := by
  obtain ⟨cs, h1, _⟩ := h
  exact (Array.getElem?_eq_some_iff.1 h1).1
theorem Ords.below (h : Ords w bt m n rs k) (hu : Below w.heap.size w w') : Ords w' bt m n rs k := by
  have hl := h.lt
  obtain ⟨cs, h1, h2, h3⟩ := h
  refine ⟨cs, (hu.block _ hl).trans h1, h2, fun i hi => ?_⟩
  obtain ⟨b, c, e, hb, hA⟩ := h3 i hi
  exact ⟨b, c, e, hb, hA.below hu hA.lt⟩
theorem Ords.size (h : Ords w bt m n rs k) : ∃ cs : Array Value, w.heap[bt]? = some (.cells cs 49 (0, 0)) ∧ cs.size = m := by
  obtain ⟨cs, h1, h2, _⟩ := h
  exact ⟨cs, h1, h2⟩
theorem Ords.at_ (h : Ords w bt m n rs k) {i : Nat} (hi : i < k) : ∃ b c, w.cell? ⟨bt, i, none⟩ = some (.slice (some ⟨b, 0, none⟩) n c) ∧ Arr w b 76 (meL n [rs[i]?.getD []]) := by
  obtain ⟨cs, h1, h2, h3⟩ := h
  obtain ⟨b, c, e, hb, hA⟩ := h3 i hi
  exact ⟨b, c, by rw [cell_of_row _ _ _ _ _ _ h1]; exact e, hA⟩
theorem Ords.set (h : Ords w bt m n rs k) (hk : k < m) {b c : Nat} (hb : bt < b) (hA : Arr w b 76 (meL n [rs[k]?.getD []])) : Ords (w.setCell ⟨bt, k, none⟩ (.slice (some ⟨b, 0, none⟩) n c)) bt m n rs (k + 1) := by
  obtain ⟨cs, h1, h2, h3⟩ := h
  refine ⟨cs.setIfInBounds k (.slice (some ⟨b, 0, none⟩) n c), by simp [World.setCell, Array.getElem?_modify, h1], by simpa using h2, fun i hi => ?_⟩
  by_cases hik : k = i
  · subst hik
    exact ⟨b, c, by rw [Array.getElem?_setIfInBounds_self_of_lt (by omega)], hb, hA.far (by simp; omega) _⟩
  · obtain ⟨b', c', e, hb', hA'⟩ := h3 i (by omega)
    exact ⟨b', c', by rw [Array.getElem?_setIfInBounds, if_neg hik]; exact e, hb', hA'.far (by simp; omega) _⟩
theorem Ords.cell (h : Ords w bt m n rs k) {i : Nat} (hi : i < m) : (∃ u, w.cell? ⟨bt, i, none⟩ = some u) ∧ w.frozen? ⟨bt, i, none⟩ = false := by
  obtain ⟨cs, h1, h2, _⟩ := h
  exact ⟨⟨cs[i]'(by omega), by rw [cell_of_row _ _ _ _ _ _ h1, Array.getElem?_eq_getElem]⟩, frozen_of_row _ _ _ _ _ h1⟩
end

/-- What reading lines gives. -/
def ReadsLn (w : World) (n : Int) (m : Nat) (rs : List (List Int)) (e : Ending) (w' : World) : Prop :=
  Below w.heap.size w w' ∧ ((lnOk n rs = false ∧ e = .returned (.tuple #[.slice none 0 0, .bool false])) ∨
    (lnOk n rs = true ∧ ∃ bt, e = .returned (.tuple #[.slice (some ⟨bt, 0, none⟩) m m, .bool true]) ∧ Ords w' bt m n.toNat rs m))

set_option maxRecDepth 100000 in
set_option maxHeartbeats 4000000 in
theorem readLines_any (n : Int) (A : Option Addr) (m c : Nat) (rs : List (List Int)) (w : World) (h : IntsS w w.heap.size A m rs) (hm : m ≤ 1048576) (hr : ∀ r ∈ rs, r.length ≤ 1048576) :
    Calls Try.prog 84 #[.int .i64 n, .slice A m c] w (ReadsLn w n m rs) := by
  have hlen := Lib.hid h.len
  by_cases hn0 : n < 0
  · have Ho := Lib.hid (show lnOk n rs = false by simp [lnOk, inB]; omega)
    go_enter Try.func84, Try.ntmps84
    go_wp2_with fail
    go_ret2
    exact ⟨Below.refl _ _, .inl ⟨Ho.out, rfl⟩⟩
  by_cases hn6 : 6 < n
  · have Ho := Lib.hid (show lnOk n rs = false by simp [lnOk, inB]; omega)
    go_enter Try.func84, Try.ntmps84
    go_wp2_with fail
    go_ret2
    exact ⟨Below.refl _ _, .inl ⟨Ho.out, rfl⟩⟩
  obtain ⟨N, rfl⟩ := Int.eq_ofNat_of_zero_le (show 0 ≤ n by omega)
  have hN : N ≤ 6 := by omega
  have Hok := Lib.hid (lnOk_in (rs := rs) hN)
  by_cases hm0 : m = 0
  · subst hm0
    have Ho := Lib.hid (show lnOk (N : Int) rs = false by rw [Hok.out]; unfold lnsB; rw [hlen.out]; simp)
    go_enter Try.func84, Try.ntmps84
    go_wp2_with fail
    go_ret2
    exact ⟨Below.refl _ _, .inl ⟨Ho.out, rfl⟩⟩
  have hme : ((m : Int) == 0) = false := by simp; omega
  have hmk2 := run_make_row' (P := Try.prog) 67 49 (.slice none 0 0) 24 Try.underlying67 infoOrder rfl .i64 .i64 m (by omega) (by omega)
  go_enter Try.func84, Try.ntmps84
  go_wp2_with fail
  have hO4 : Ords (w.alloc (.cells (madeCells #[.slice none 0 0] m) 49)) w.heap.size m N rs 0 := ⟨madeCells #[.slice none 0 0] m, heap_alloc_new w _, by simp [madeCells], fun i hi => by omega⟩
  have C4 : Below w.heap.size w (w.alloc (.cells (madeCells #[.slice none 0 0] m) 49)) := (Below.refl _ _).alloc (Nat.le_refl _) _
  obtain ⟨W4, hW4⟩ : ∃ W4, w.alloc (.cells (madeCells #[.slice none 0 0] m) 49) = W4 := ⟨_, rfl⟩
  rw [hW4] at hO4 C4 ⊢
  clear hW4 hmk2
  obtain ⟨bt, hbt⟩ : ∃ bt, w.heap.size = bt := ⟨_, rfl⟩
  have Hbt := Lib.hid hbt
  rw [hbt] at hO4 ⊢
  have hbw : w.heap.size ≤ bt := by omega
  clear hbt
  go_loopw [25] (fun i wr => ∃ k : Nat, k ≤ m ∧ i = .int .i64 k ∧ (∀ a, a < k → lineB (zr N) (rs[a]?.getD []) = true) ∧ Ords wr bt m N rs k ∧ Upd (fun j => j = bt) W4 wr) (fun i _ => m - (intOf i).toNat)
  case atStart => exact ⟨0, by omega, rfl, fun a ha => by omega, hO4, Upd.refl _ _⟩
  case round =>
    clear hO4
    obtain ⟨k, hk, rfl, hok, hO, hU⟩ := hrel
    rename World => wr
    have Hlines := Lib.hid hok
    clear hok
    have zU := hU.size
    have C : Below w.heap.size w wr := C4.trans (hU.toBelow (B := w.heap.size) (fun j e => by omega) C4.size)
    have z := C.size
    by_cases hlt : k < m
    · have hkl := Lib.hid (show k < rs.length by rw [hlen.out]; exact hlt)
      obtain ⟨b0, off, rfl, hb0, hc⟩ := (h.below C).at_ hlt
      obtain ⟨A', c', hcell, hI⟩ := hc k hlt
      clear hc
      have hml : (rs[k]?.getD []).length ≤ 1048576 := by
        rw [List.getElem?_eq_getElem hkl.out]
        exact hr _ (List.getElem_mem _)
      have Hno := Lib.hid (fun e => lnsB_no (n := N) hkl.out e)
      generalize hrr : rs[k]?.getD [] = r at *
      have Hrr := Lib.hid hrr
      clear hrr
      have Hcall := Lib.hid (isNumbering_any N A' r.length c' r wr hN (hI.more z) (by omega))
      cases hl : lineB (zr N) r
      · have Hl := Lib.hid hl
        have Ho := Lib.hid (show lnOk (N : Int) rs = false by rw [Hok.out]; exact Hno.out hl)
        clear hl
        go_wp2_with fail
        refine Hcall.out.mono ?_
        rw [Hl.out]
        rintro e w5 ⟨rfl, hB5⟩
        go_wp2_with fail
        go_ret2
        exact ⟨C.trans (hB5.mono z), .inl ⟨Ho.out, rfl⟩⟩
      · have Hl := Lib.hid hl
        have hrl := (zr_steps hl).1
        clear hl
        rw [hrl] at hI hcell Hcall
        clear hml
        go_wp2_with fail
        refine Hcall.out.mono ?_
        rw [Hl.out]
        rintro e w5 ⟨rfl, hB5⟩
        have C5 := C.trans (hB5.mono z)
        have z5 := hB5.size
        have hO5 := hO.below hB5
        have hU5 : Upd (fun j => j = bt) W4 w5 := hU.below hB5 (fun j h1 h2 => by omega)
        have hbl := hO.lt
        go_wp2_with fail
        refine (orderOfLine_any N A' c' r w5 (hI.to hB5 z (by omega)) hN Hl.out).mono ?_
        rintro e w6 ⟨rfl, hA6, hB6⟩
        have z6 := hB6.size
        have hO6 := hO5.below hB6
        have hU6 : Upd (fun j => j = bt) W4 w6 := hU5.below hB6 (fun j h1 h2 => by omega)
        obtain ⟨⟨u6, hu6⟩, hf6⟩ := hO6.cell hlt
        rw [← Hrr.out] at hA6
        go_wp2_with fail
        go_roundw
        case rel => exact ⟨k + 1, by omega, by go_num, all_snoc Hlines.out (by rw [Hrr.out]; exact Hl.out), hO6.set hlt (by omega) hA6, hU6.setCell (p := ⟨bt, k, none⟩) (.inr rfl) _⟩
        case measure => simp [intOf]; omega
    · obtain rfl : k = m := by omega
      have Ho := Lib.hid (show lnOk (N : Int) rs = true by rw [Hok.out, lnsB_yes hlen.out Hlines.out]; simp; omega)
      go_wp2_with fail
      go_ret2
      exact ⟨C, .inr ⟨Ho.out, bt, rfl, hO⟩⟩
end Go.Proofs.Ytghogabmkbadjab

/- LinesOrder: the program's: what two orders have in common, or one of both; LinesOrder whole. -/
namespace Go.Proofs.Ytghogabmkbadjab
open Go.RowKit Go.Shelf
attribute [local go_sem] Oper.semAt_some
attribute [local go_sem, local simp] wide_fn

set_option maxRecDepth 100000 in
set_option maxHeartbeats 2000000 in
theorem clone_any (A : Option Addr) (n c : Nat) (zs : List Int) (w : World) (h : Ints w w.heap.size A n zs) (hn : n ≤ 6) :
    Calls Try.prog 129 #[.slice A n c] w fun e w' => ∃ v, e = .returned v ∧ OwnS (fun k => w.heap.size ≤ k) w' w.heap.size 76 v zs ∧ Below w.heap.size w w' := by
  have Hl := Lib.hid h.len
  cases A with
  | none =>
    have hn0 : n = 0 := by
      rcases Nat.eq_zero_or_pos n with e | e
      · exact e
      · obtain ⟨b, off, e2, _⟩ := h.at_ (k := 0) e
        cases e2
    subst hn0
    have hzs : zs = [] := List.eq_nil_of_length_eq_zero Hl.out
    subst hzs
    have hcmp : ∀ w : World, (binOp BinOp.eql 49 (Value.slice none 0 c) (Value.slice none 0 0)).run Try.prog w = .ok (.bool true) w := fun w => by first | rfl | kernel_rfl | simp [binOp]
    go_enter Try.func129, Try.ntmps129
    go_wp2_with fail
    go_ret
    exact ⟨_, rfl, OwnS.none _ _ _ _, Below.refl _ _⟩
  | some ad =>
    obtain ⟨i0, hi0, hz0, hz1, hz2⟩ := info_parts infoItems
    have hcmp : ∀ w : World, (binOp BinOp.eql 49 (Value.slice (some ad) n c) (Value.slice none 0 0)).run Try.prog w = .ok (.bool false) w := fun w => by first | rfl | kernel_rfl | simp [binOp]
    go_enter Try.func129, Try.ntmps129
    have hown := own_new w 76
    have hU1 : Upd (fun _ => False) w (w.alloc (.cells #[] 76)) := (Upd.refl _ w).alloc _
    have hz1' : (w.alloc (.cells #[] 76)).heap.size = w.heap.size + 1 := by simp
    have hnews : ∀ j u, (zs.map (Value.int .i64))[j]? = some u → (w.alloc (.cells #[] 76)).cell? (ad.add j) = some u := fun j u hj => by
      rw [List.getElem?_map] at hj
      rcases Nat.lt_or_ge j n with hlt | hge
      · obtain ⟨b, off, e, hb, hc⟩ := h.at_ hlt
        cases e
        rw [addr_add3]
        refine hU1.cell (hc j hlt |>.trans ?_) (fun e => e)
        rw [← hj]
        have : j < zs.length := by rw [Hl.out]; exact hlt
        rw [List.getElem?_eq_getElem this]; rfl
      · rw [List.getElem?_eq_none (by rw [Hl.out]; exact hge)] at hj
        cases hj
    go_wp2_with (at_builtin; refine wpList_appendK _ rfl (.tmp 5) (.tmp 6) _ rfl w.heap.size 76 i0 _ 8 Try.underlying49 hi0 hz0 hz1 hz2 rfl _ 0 [] rfl hown ad n c _ rfl (by rw [List.length_map]; exact Hl.out) hnews (fun u hu => by obtain ⟨z, _, rfl⟩ := List.mem_map.1 hu; rfl) (by simp [maxLen]; omega) (by omega) (by simp) ?_; intro v' w' hown' hg')
    go_ret
    rw [Nat.zero_add, List.nil_append] at hown'
    refine ⟨v', rfl, ⟨fun k hk => own_ge hown' k hk, by rw [Hl.out]; exact hown'⟩, ?_⟩
    exact ((hU1.mono (S := fun k => w.heap.size ≤ k) (fun _ _ e => e.elim)).grown hg' (fun k hk => by simp [Value.ownBlock, Act.eval] at hk; exact .inl (by omega))).toBelow (fun k e => e) (Nat.le_refl _)

theorem own_setI {w : World} {base n g cap : Nat} {e : TypeId} {zs : List Int} (h : w.ownsRow base e 1 (.slice (some ⟨g, 0, none⟩) n cap) n (zs.map (Value.int .i64))) (k : Nat) (x : Int) :
    (w.setCell ⟨g, k, none⟩ (.int .i64 x)).ownsRow base e 1 (.slice (some ⟨g, 0, none⟩) n cap) n ((zs.set k x).map (Value.int .i64)) := by
  have := own_set h k (.int .i64 x)
  rwa [List.map_set]

--BEGIN
set_option maxRecDepth 100000 in
set_option maxHeartbeats 4000000 in
theorem common_any (A : Option Addr) (n c : Nat) (xs : List Int) (A' : Option Addr) (c' : Nat) (ys : List Int) (w : World) (h : Ints w w.heap.size A n xs) (h' : Ints w w.heap.size A' n ys) (hn : n ≤ 6)
    (hx : ∀ a, a < n → 0 ≤ xs[a]?.getD 0 ∧ xs[a]?.getD 0 < powI n) (hy : ∀ a, a < n → 0 ≤ ys[a]?.getD 0 ∧ ys[a]?.getD 0 < powI n) :
    Calls Try.prog 85 #[.slice A n c, .slice A' n c'] w fun e w' => ∃ v, e = .returned v ∧ OwnS (fun k => w.heap.size ≤ k) w' w.heap.size 76 v (opL andI xs ys n) ∧ Below w.heap.size w w' := by
  have Hl := Lib.hid h.len
  have Hol := Lib.hid (fun k => opL_len andI xs ys k)
  go_enter Try.func85, Try.ntmps85
  go_wp2_with fail
  refine (clone_any A n c xs w h hn).mono ?_
  rintro e w1 ⟨v1, rfl, hO1, hB1⟩
  have z1 := hB1.size
  go_wp2_with fail
  go_loopw [12] (fun i wr => ∃ k : Nat, k ≤ n ∧ i = .int .i64 k ∧ OwnS (fun j => w.heap.size ≤ j) wr w.heap.size 76 v1 (opL andI xs ys k) ∧ Below w.heap.size w wr) (fun i _ => n - (intOf i).toNat)
  case atStart => exact ⟨0, by omega, rfl, by rw [opL_zero]; exact hO1, hB1⟩
  case round =>
    clear hO1 hB1
    obtain ⟨k, hk, rfl, hO, hB⟩ := hrel
    rename World => wr
    by_cases hlt : k < n
    · obtain ⟨b2, off2, rfl, hb2, hc2⟩ := (h'.below hB).at_ hlt
      have hck := hc2 k hlt
      clear hc2
      have hln : (opL andI xs ys k).length = n := by rw [Hol.out]; exact Hl.out
      have hOr := hO.2
      rw [hln] at hOr
      obtain ⟨g, cap, rfl⟩ := own_some hOr (by omega)
      have hgl : w.heap.size ≤ g := hO.1 g rfl
      obtain ⟨hcs, hfs, hgw⟩ := own_cell hOr
      have hcg := hcs k hlt
      have hfg := hfs k
      clear hcs hfs
      have hxy := hx k hlt
      have hyy := hy k hlt
      have Hst := Lib.hid (opL_step andI xs ys (k := k) (by rw [Hl.out]; exact hlt))
      have hxk : (opL andI xs ys k)[k]?.getD 0 = xs[k]?.getD 0 := by rw [opL_get andI xs ys k (by rw [Hl.out]; exact hlt), if_neg (by omega)]
      rw [hxk] at hcg Hst
      have Hln := Lib.hid hln
      have HOr := Lib.hid hOr
      have HS := Lib.hid hO.1
      clear hln hxk hOr hO
      have hpn := powI_le6 (n := (n : Int)) (by omega)
      have hand : bits .and .i64 (xs[k]?.getD 0) (ys[k]?.getD 0) = andI (xs[k]?.getD 0) (ys[k]?.getD 0) := bits_and (by omega) (by omega) (by omega) (by omega)
      have Hset := Lib.hid (own_setI HOr.out k (andI (xs[k]?.getD 0) (ys[k]?.getD 0)))
      rw [Hst.out] at Hset
      generalize andI (xs[k]?.getD 0) (ys[k]?.getD 0) = z at *
      generalize xs[k]?.getD 0 = x at *
      generalize ys[k]?.getD 0 = y at *
      go_wp2_with fail
      go_roundw
      case rel => exact ⟨k + 1, by omega, by go_num, ⟨HS.out, by rw [Hol.out, Hl.out]; exact Hset.out⟩, hB.setCell (p := ⟨g, k, none⟩) hgl _⟩
      case measure => simp [intOf]; omega
    · obtain rfl : k = n := by omega
      go_wp2_with fail
      go_ret
      exact ⟨v1, rfl, hO, hB⟩
--END

set_option maxRecDepth 100000 in
set_option maxHeartbeats 4000000 in
theorem LinesOrder_any (n : Int) (A : Option Addr) (m c : Nat) (rs : List (List Int)) (w : World) (h : IntsS w w.heap.size A m rs) (hm : m ≤ 1048576) (hr : ∀ r ∈ rs, r.length ≤ 1048576) :
    Calls Try.prog 25 #[.int .i64 n, .slice A m c] w (GivesLn w n rs) := by
  have Hlen := Lib.hid h.len
  go_enter Try.func25, Try.ntmps25
  go_wp2_with fail
  refine (readLines_any n A m c rs w h hm hr).mono ?_
  rintro e w1 ⟨hB1, (⟨Ho, rfl⟩ | ⟨Ho, bt, rfl, hO⟩)⟩
  · have Ho := Lib.hid Ho
    go_wp2_with fail
    go_ret2
    exact none_ln Ho.out hB1
  · have hn := Ho
    unfold lnOk at hn
    rw [Bool.and_eq_true, Bool.and_eq_true, decide_eq_true_eq, inB_iff] at hn
    obtain ⟨hn0, -, hn2⟩ := hn
    rw [Hlen.out] at hn2
    obtain ⟨N, rfl⟩ := Int.eq_ofNat_of_zero_le hn0.1
    have hN : N ≤ 6 := by omega
    clear hn0
    simp only [Int.toNat_natCast] at hO
    have Ho := Lib.hid Ho
    have z1 := hB1.size
    obtain ⟨b0, c0, hc0, hA0⟩ := hO.at_ (i := 0) (by omega)
    have hbt := hO.lt
    have hA0' : Ints w1 w1.heap.size (some ⟨b0, 0, none⟩) N (meL N (rs.take 1)) := by
      have e : [rs[0]?.getD []] = rs.take 1 := by
        have := take_snoc (rs := rs) (k := 0) (by rw [Hlen.out]; omega)
        simpa using this
      rw [e] at hA0
      exact hA0.ints' hA0.lt (meL_len _ _)
    by_cases hm1 : m = 1
    · subst hm1
      have Htk := Lib.hid (show rs.take 1 = rs from List.take_of_length_le (by rw [Hlen.out]; omega))
      rw [Htk.out] at hA0'
      go_wp2_with fail
      go_loopw [8, 25] (fun v i wr => v = .slice (some ⟨b0, 0, none⟩) N c0 ∧ i = .int .i64 0 ∧ wr = w1) (fun _ _ _ => 0)
      case atStart => exact ⟨rfl, rfl, rfl⟩
      case round =>
        obtain ⟨rfl, rfl, rfl⟩ := hrel
        go_wp2_with fail
        refine (list_any _ N c0 _ _ hA0' (by omega)).mono ?_
        rintro e w4 ⟨rfl, hA4, hB4⟩
        go_wp2_with fail
        go_ret2
        exact ⟨_, N, N, by rw [Ho.out]; rfl, by rw [lnR, Ho.out]; exact (Row.of hA4 (meL_len N rs) (by omega) hA4.lt), hB1.trans (hB4.mono z1)⟩
    go_wp2_with fail
    go_loopw [8, 25] (fun v i wr => ∃ (j : Nat) (Av : Option Addr) (cv : Nat), j ≤ m - 1 ∧ i = .int .i64 j ∧ v = .slice Av N cv ∧ Ints wr wr.heap.size Av N (meL N (rs.take (j + 1))) ∧ Ords wr bt m N rs m ∧ Below w.heap.size w wr) (fun _ i _ => m - 1 - (intOf i).toNat)
    case atStart => exact ⟨0, _, _, by omega, rfl, rfl, hA0', hO, hB1⟩
    case round =>
      clear hO hA0 hA0' hc0 hbt hB1 z1
      obtain ⟨j, Av, cv, hj, rfl, rfl, hI, hO, hB⟩ := hrel
      rename World => wr
      have z := hB.size
      by_cases hlt : j < m - 1
      · obtain ⟨b, c2, hcb, hAb⟩ := hO.at_ (i := 1 + j) (by omega)
        have hIb := hAb.ints' hAb.lt (meL_len _ _)
        have Hts := Lib.hid (show meL N (rs.take (j + 1 + 1)) = opL andI (meL N (rs.take (j + 1))) (meL N [rs[1 + j]?.getD []]) N by
          rw [meL_snoc, ← take_snoc (rs := rs) (k := j + 1) (by rw [Hlen.out]; omega), Nat.add_comm 1 j])
        go_wp2_with fail
        refine (common_any Av N cv _ _ c2 _ wr hI hIb hN (fun a _ => meL_bd _ _ _) (fun a _ => meL_bd _ _ _)).mono ?_
        rintro e w3 ⟨v3, rfl, hO3, hB3⟩
        have z3 := hB3.size
        rw [← Hts.out] at hO3
        obtain ⟨A3, c3, rfl, hR3⟩ := rowC_of_own hO3.2
        rw [meL_len] at hR3
        go_wp2_with fail
        go_roundw
        case rel => exact ⟨j + 1, A3, c3, by omega, by go_num, by rw [meL_len], hR3.ints (Nat.le_refl _), hO.below hB3, hB.trans (hB3.mono z)⟩
        case measure => simp [intOf]; omega
      · obtain rfl : j = m - 1 := by omega
        have Htk := Lib.hid (show rs.take (m - 1 + 1) = rs from List.take_of_length_le (by rw [Hlen.out]; omega))
        rw [Htk.out] at hI
        go_wp2_with fail
        refine (list_any Av N cv _ wr hI (by omega)).mono ?_
        rintro e w4 ⟨rfl, hA4, hB4⟩
        go_wp2_with fail
        go_ret2
        exact ⟨_, N, N, by rw [Ho.out]; rfl, by rw [lnR, Ho.out]; exact (Row.of hA4 (meL_len N rs) (by omega) hA4.lt), hB.trans (hB4.mono z)⟩
end Go.Proofs.Ytghogabmkbadjab

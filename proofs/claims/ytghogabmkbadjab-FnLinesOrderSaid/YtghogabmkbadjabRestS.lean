/- What is left, lined up: the model's count of it. -/
import Derived.Test.YtghogabmkbadjabGb
import Derived.Test.YtghogabmkbadjabCntS
import Derived.Test.YtghogabmkbadjabGd
set_option linter.unusedVariables false
set_option linter.unusedSimpArgs false
namespace Go.Proofs.Ytghogabmkbadjab
open Go.RowKit Go.Shelf
attribute [local go_sem] Oper.semAt_some
attribute [local go_sem, local simp] wide_fn

/-- As numbers. -/
def asI (l : List Nat) : List Int := l.map fun x : Nat => (x : Int)
theorem asI_len (l : List Nat) : (asI l).length = l.length := by simp [asI]
theorem asI_get {l : List Nat} {i : Nat} (hi : i < l.length) : (asI l)[i]?.getD 0 = ((l[i]?.getD 0 : Nat) : Int) := by simp [asI, hi]
theorem asI_snoc (l : List Nat) (x : Nat) : asI (l ++ [x]) = asI l ++ [(x : Int)] := by simp [asI]
/-- The items less than k of a set. -/
def leftK (s k : Nat) : List Nat := (List.range k).filter fun j => s.testBit j
theorem leftK_yes {s k : Nat} (h : s.testBit k = true) : leftK s (k + 1) = leftK s k ++ [k] := by simp [leftK, List.range_succ, h]
theorem leftK_no {s k : Nat} (h : s.testBit k = false) : leftK s (k + 1) = leftK s k := by simp [leftK, List.range_succ, h]
theorem leftK_len (s k : Nat) : (leftK s k).length ≤ k := by
  have := List.length_filter_le (fun j => s.testBit j) (List.range k)
  rwa [List.length_range] at this
theorem take_snocI (l : List Int) {k : Nat} (hk : k < l.length) : l.take (k + 1) = l.take k ++ [l[k]?.getD 0] := by
  rw [List.take_succ_eq_append_getElem hk, List.getElem?_eq_getElem hk]; rfl

theorem ind_row {zs : List Int} {l : List Nat} {i m : Nat} (hm : l.length = m) (hi : i < m) : (ind zs l)[i]?.getD 0 = rowTo (zs[l[i]?.getD 0]?.getD 0) l m := by
  subst hm
  unfold ind
  rw [List.getElem?_map, List.getElem?_eq_getElem hi]
  rfl

set_option maxRecDepth 100000 in
set_option maxHeartbeats 4000000 in
theorem srest_any (A : Option Addr) (n c : Nat) (zs : List Int) (hvo : VoP zs) (d : Nat) (w : World) (h : Ints w w.heap.size A n zs) (hd : d < 2 ^ n) :
    Calls Try.prog 159 #[.slice A n c, .int .i64 (d : Int)] w fun e w' => e = .returned (.int .i64 (cF zs (2 ^ n - 1 - d) : Int)) ∧ Below w.heap.size w w' := by
  obtain ⟨i0, hi0, hz0, hz1, hz2⟩ := info_parts infoInt
  have hlen := Lib.hid h.len
  have hn6 : n ≤ 6 := by have := hvo.1; rw [hlen.out] at this; exact this
  have hp64 := pow_le64 hn6
  have hs : 2 ^ n - 1 - d < 2 ^ n := by omega
  obtain ⟨s, hsd⟩ : ∃ s, 2 ^ n - 1 - d = s := ⟨_, rfl⟩
  rw [hsd] at hs ⊢
  have Hbit := Lib.hid (show ∀ j, j < n → s.testBit j = !d.testBit j from fun j hj => by
    have := com_bit_fin ⟨n, by omega⟩ ⟨d, by omega⟩ hd ⟨j, by omega⟩
    simp only at this
    rw [← hsd, this]; simp [hj])
  clear hsd
  have HL := Lib.hid (show leftK s n = leftL zs.length s by unfold leftK leftL; rw [hlen.out])
  have Hinc := Lib.hid (leftL_inc zs s)
  have Hres := Lib.hid (rest_is hvo (s := s) (by rw [hlen.out]; exact hs))
  have Hivo := Lib.hid (ind_vo hvo Hinc.out)
  have Hil := Lib.hid (ind_len zs (leftL zs.length s))
  go_enter Try.func159, Try.ntmps159
  go_wp2_with fail
  have h1 := own_new w 3
  have hU1 : Upd (fun _ => False) w (w.alloc (.cells #[] 3)) := (Upd.refl _ w).alloc _
  have hz1a : w.heap.size ≤ (w.alloc (.cells #[] 3)).heap.size := hU1.size
  obtain ⟨W1, hW1⟩ : ∃ W1, w.alloc (.cells #[] 3) = W1 := ⟨_, rfl⟩
  rw [hW1] at h1 hU1 hz1a ⊢
  clear hW1
  go_loopw [5, 6] (fun v i wr => ∃ k : Nat, k ≤ n ∧ i = .int .i64 k ∧ OwnS (fun k => w.heap.size ≤ k) wr w.heap.size 3 v (asI (leftK s k)) ∧ Upd (fun _ => False) w wr) (fun _ i _ => n - (intOf i).toNat)
  case atStart => exact ⟨0, by omega, rfl, ⟨fun k hk => by simp [Value.ownBlock] at hk; omega, h1⟩, hU1⟩
  case round =>
    clear hz1a hU1 h1
    obtain ⟨k, hk, rfl, hO, hU⟩ := hrel
    have zr := hU.size
    by_cases hlt : k < n
    · have hb := Hbit.out k hlt
      have hkl := leftK_len s k
      cases hdk : d.testBit k
      · have hbi : (bitI (d : Int) k == 0) = true := by unfold bitI; rw [bit_cast, hdk]; rfl
        have Hn := Lib.hid (show asI (leftK s (k + 1)) = asI (leftK s k) ++ [(k : Int)] by rw [leftK_yes (by rw [hb, hdk]; rfl), asI_snoc])
        have Hln := Lib.hid (asI_len (leftK s k))
        clear hb
        go_wp2_with (first
          | (go_at_call 63; refine (bit_any _ _ _ (by omega) (by omega) (by omega) (by omega)).mono ?_; rintro e w' ⟨rfl, rfl⟩)
          | (at_builtin; refine wpList_append1 _ rfl (.tmp 22) (.tmp 24) _ rfl w.heap.size 3 i0 _ 8 Try.underlying22 hi0 hz0 hz1 hz2 rfl _ (asI (leftK s k)).length _ rfl (hO.2.alloc _) wr.heap.size 1 (.int .i64 k) rfl (cell_new _ _ _) rfl (by rw [Hln.out]; omega) (by rw [Hln.out]; omega) (by simp; omega) ?_; rintro v' w' hown' hg' hv'))
        have zg := hg'.size
        simp at zg
        go_roundw
        case rel => exact ⟨k + 1, by omega, by go_num, by rw [Hn.out]; exact hO.step hown' hv' (fun k e => e) (fun _ => by omega), (hU.alloc _).grown hg' (fun k hk => .inl (hO.1 k hk))⟩
        case measure => simp [intOf]; omega
      · have hbi : (bitI (d : Int) k == 0) = false := by unfold bitI; rw [bit_cast, hdk]; rfl
        have Hn := Lib.hid (leftK_no (s := s) (k := k) (by rw [hb, hdk]; rfl))
        clear hb
        go_wp2_with (go_at_call 63; refine (bit_any _ _ _ (by omega) (by omega) (by omega) (by omega)).mono ?_; rintro e w' ⟨rfl, rfl⟩)
        go_roundw
        case rel => exact ⟨k + 1, by omega, by go_num, by rw [Hn.out]; exact hO, hU⟩
        case measure => simp [intOf]; omega
    · obtain rfl : k = n := by omega
      rw [HL.out] at hO
      obtain ⟨A', c', rfl, hI, -⟩ := ints_of_own_at hO.2
      have hB0 : Below w.heap.size w wr := hU.toBelow (fun _ e => e.elim) (Nat.le_refl _)
      have hA := h.to hB0 (Nat.le_refl _) zr
      obtain ⟨m, hm⟩ : ∃ m, (asI (leftL zs.length s)).length = m := ⟨_, rfl⟩
      rw [hm] at hI ⊢
      have Hm := Lib.hid (show (leftL zs.length s).length = m by rw [← hm, asI_len])
      clear hm
      have hml : m ≤ k := by have h1 := Hinc.out.len_le; have h2 := hlen.out; have h3 := Hm.out; omega
      clear hO hU
      have Hlt := Lib.hid (show ∀ i, i < m → (leftL zs.length s)[i]?.getD 0 < k from fun i hi => by have h1 := Hinc.out.at_lt (i := i) (by rw [Hm.out]; exact hi); have h2 := hlen.out; omega)
      have Hget := Lib.hid (show ∀ i, i < m → (asI (leftL zs.length s))[i]?.getD 0 = (((leftL zs.length s)[i]?.getD 0 : Nat) : Int) from fun i hi => asI_get (by rw [Hm.out]; exact hi))
      have Hind := Lib.hid (show ∀ i, i < m → (ind zs (leftL zs.length s))[i]?.getD 0 = rowTo (zs[(leftL zs.length s)[i]?.getD 0]?.getD 0) (leftL zs.length s) m from fun i hi => ind_row Hm.out hi)
      generalize hl : leftL zs.length s = l at *
      have Hl := Lib.hid hl
      clear hl
      rename World => w2
      go_wp2_with fail
      have h1 := own_new w2 3
      have hU1 : Upd (fun _ => False) w2 (w2.alloc (.cells #[] 3)) := (Upd.refl _ w2).alloc _
      obtain ⟨W1, hW1⟩ : ∃ W1, w2.alloc (.cells #[] 3) = W1 := ⟨_, rfl⟩
      rw [hW1] at h1 hU1 ⊢
      clear hW1
      go_loopw [7, 8] (fun v i wr => ∃ k : Nat, k ≤ m ∧ i = .int .i64 k ∧ OwnS (fun k => w2.heap.size ≤ k) wr w2.heap.size 3 v ((ind zs l).take k) ∧ Upd (fun _ => False) w2 wr) (fun _ i _ => m - (intOf i).toNat)
      case atStart => exact ⟨0, by omega, rfl, ⟨fun k hk => by simp [Value.ownBlock] at hk; omega, by simpa using h1⟩, hU1⟩
      case round =>
        clear hU1 h1
        obtain ⟨i, hi, rfl, hO, hU⟩ := hrel
        rename World => w3
        have zx := hU.size
        have hBx : Below w2.heap.size w2 w3 := hU.toBelow (fun _ e => e.elim) (Nat.le_refl _)
        have hAx := hA.to hBx (Nat.le_refl _) zx
        have hIx := hI.to hBx (Nat.le_refl _) zx
        by_cases hlt2 : i < m
        · have hli := Hlt.out i hlt2
          have hgi := Hget.out i hlt2
          have Hrow := Lib.hid (Hind.out i hlt2)
          generalize hx : l[i]?.getD 0 = x at *
          have Hx := Lib.hid hx
          clear hx
          have hz := hvo.bd x (by rw [hlen.out]; exact hli)
          have Htk := Lib.hid (take_snocI (ind zs l) (k := i) (by rw [Hil.out, Hm.out]; exact hlt2))
          go_wp2
          go_loopw [9, 10] (fun t i wr => ∃ j q : Nat, j ≤ m ∧ i = .int .i64 j ∧ t = .int .i64 (rowTo (zs[x]?.getD 0) l j) ∧ wr = w3.drewN q) (fun _ i _ => m - (intOf i).toNat)
          case atStart => exact ⟨0, 0, by omega, rfl, rfl, rfl⟩
          case round =>
            obtain ⟨j, q, hj, rfl, rfl, rfl⟩ := hrel
            have hrb := rowTo_bd (zs[x]?.getD 0) l j
            by_cases hlt3 : j < m
            · have hlj := Hlt.out j hlt3
              have hgj := Hget.out j hlt3
              have Hrs := Lib.hid (show rowTo (zs[x]?.getD 0) l (j + 1) = orI (rowTo (zs[x]?.getD 0) l j) (bitI (zs[x]?.getD 0) ((l[j]?.getD 0 : Nat) : Int) * powI j) from rfl)
              generalize hy : l[j]?.getD 0 = y at *
              have Hy := Lib.hid hy
              clear hy
              obtain ⟨bl, ol, rfl, -, hcl⟩ := hIx.at_ hlt2
              have hci := hcl i hlt2
              have hcj := hcl j hlt3
              rw [hgi] at hci
              rw [hgj] at hcj
              obtain ⟨bz, oz, rfl, -, hcz⟩ := hAx.at_ hli
              have hcx := hcz x hli
              clear hcl hcz hgi hgj
              have hb01 := bitI_01 (zs[x]?.getD 0) y
              have hpj := powI_le6 (n := (j : Int)) (by omega)
              have hpp := powI_pos (j : Int)
              have hp6 := powI_le6 (n := (m : Int)) (by omega)
              have hmb : 0 ≤ bitI (zs[x]?.getD 0) y * powI j ∧ bitI (zs[x]?.getD 0) y * powI j ≤ 64 := by
                rw [bitI_mul]; split <;> omega
              have hacc64 : rowTo (zs[x]?.getD 0) l j < 64 := by omega
              have hor : bits .or .i64 (rowTo (zs[x]?.getD 0) l j) (bitI (zs[x]?.getD 0) y * powI j) = orI (rowTo (zs[x]?.getD 0) l j) (bitI (zs[x]?.getD 0) y * powI j) := bits_or (by omega) (by omega) (by omega) (by omega)
              have hw : IntKind.i64.wrap (bitI (zs[x]?.getD 0) y * powI j) = bitI (zs[x]?.getD 0) y * powI j := by rw [IntKind.wrap_i64]; omega
              generalize rowTo (zs[x]?.getD 0) l j = acc at *
              have hbit := fun w => bit_any (zs[x]?.getD 0) y w (by omega) (by omega) (by omega) (by omega)
              have hpow := fun w => power_any (j : Int) w (by omega) (by omega)
              generalize bitI (zs[x]?.getD 0) y = bt at *
              generalize powI (j : Int) = pw at *
              generalize zs[x]?.getD 0 = z at *
              go_wp2
              go_quiet ((first | (go_at_call 63; exact quiet_add_left (hbit _)) | (go_at_call 96; exact quiet_add_left (hpow _))))
              go_wp2
              go_roundw
              case rel => exact ⟨j + 1, _, by omega, by go_num, by rw [Hrs.out], rfl⟩
              case measure => simp [intOf]; omega
            · obtain rfl : j = m := by omega
              have hO' : OwnS (fun k => w2.heap.size ≤ k) (w3.drewN q) w2.heap.size 3 _ ((ind zs l).take i) := hO
              have hU' : Upd (fun _ => False) w2 (w3.drewN q) := hU.drewN q
              have Hln := Lib.hid (show ((ind zs l).take i).length = i by rw [List.length_take, Hil.out, Hm.out]; omega)
              have zx' : w2.heap.size ≤ (w3.drewN q).heap.size := zx
              have Hrow2 := Lib.hid (show (ind zs l)[i]?.getD 0 = rowTo (zs[x]?.getD 0) l j from Hrow.out)
              generalize rowTo (zs[x]?.getD 0) l j = row at *
              generalize w3.drewN q = w4 at *
              go_wp2_with (at_builtin; refine wpList_append1 _ rfl (.tmp 56) (.tmp 58) _ rfl w2.heap.size 3 i0 _ 8 Try.underlying22 hi0 hz0 hz1 hz2 rfl _ ((ind zs l).take i).length _ rfl (hO'.2.alloc _) w4.heap.size 1 (.int .i64 row) rfl (cell_new _ _ _) rfl (by rw [Hln.out]; omega) (by rw [Hln.out]; omega) (by simp; omega) ?_; rintro v' w' hown' hg' hv')
              have zg := hg'.size
              simp at zg
              go_roundw
              case rel => exact ⟨i + 1, by omega, by go_num, by rw [Htk.out, Hrow2.out]; exact hO'.step hown' hv' (fun k e => e) (fun _ => by omega), (hU'.alloc _).grown hg' (fun k hk => .inl (hO'.1 k hk))⟩
              case measure => simp [intOf]; omega
        · obtain rfl : i = m := by omega
          have hO' := hO
          rw [List.take_of_length_le (by rw [Hil.out, Hm.out]; exact Nat.le_refl _)] at hO'
          obtain ⟨A2, c2, hv2, hI2, -⟩ := ints_of_own_at hO'.2
          have hLn := Lib.hid (show (ind zs l).length = i by rw [Hil.out, Hm.out])
          rw [hLn.out] at hI2 hv2
          subst hv2
          go_wp2_with fail
          refine (scountLines_any A2 i c2 (ind zs l) Hivo.out _ hI2).mono ?_
          rintro e w5 ⟨rfl, hB5⟩
          go_wp2_with fail
          go_ret
          exact ⟨ret_int (by have h1 := Hres.out; rw [Hm.out] at h1; rw [h1]), hB0.trans ((hBx.mono hB0.size).trans (hB5.mono (Nat.le_trans hB0.size hBx.size)))⟩
end Go.Proofs.Ytghogabmkbadjab

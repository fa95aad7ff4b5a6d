/- Texts that several claims share, one behind the other. -/
import Derived.Test.YtidggolnhagfdaaGb
import Derived.Test.YtidggolnhagfdaaRows
import Derived.Test.YtidggolnhagfdaaGa
import Derived.ProofKit
import Derived.OpenShut
import Derived.JoinedOf
import Derived.JoinedAt
import Derived.ChangeSlices
import Derived.ChangeSame
import Derived.JoinedCond
/- What is left, lined up: the model's count of it. -/
namespace Go.Proofs.Ytidggolnhagfdaa
open Go.RowKit Go.Shelf
attribute [local go_sem] Oper.semAt_some
attribute [local go_sem, local simp] wide_fn

/-- As numbers. -/
def asI (l : List Nat) : List Int := l.map fun x : Nat => (x : Int)
theorem asI_len (l : List Nat) : (asI l).length = l.length := by simp [asI]
theorem asI_get {l : List Nat} {i : Nat} (hi : i < l.length) : (asI l)[i]?.getD 0 = ((l[i]?.getD 0 : Nat) : Int) := by simp [asI, hi]
theorem asI_snoc (l : List Nat) (x : Nat) : asI (l ++ [x]) = asI l ++ [(x : Int)] := by simp [asI]
/-- The items less than k of a set. -/
def leftK (s k : Nat) : List Nat := (List.range k).filter fun j => s.testBit j
theorem leftK_yes {s k : Nat} (h : s.testBit k = true) : leftK s (k + 1) = leftK s k ++ [k] := by simp [leftK, List.range_succ, h]
theorem leftK_no {s k : Nat} (h : s.testBit k = false) : leftK s (k + 1) = leftK s k := by simp [leftK, List.range_succ, h]
theorem leftK_len (s k : Nat) : (leftK s k).length ≤ k := by
  have := List.length_filter_le (fun j => s.testBit j) (List.range k)
  rwa [List.length_range] at this
theorem take_snocI (l : List Int) {k : Nat} (hk : k < l.length) : l.take (k + 1) = l.take k ++ [l[k]?.getD 0] := by
  rw [List.take_succ_eq_append_getElem hk, List.getElem?_eq_getElem hk]; rfl

theorem ind_row {zs : List Int} {l : List Nat} {i m : Nat} (hm : l.length = m) (hi : i < m) : (ind zs l)[i]?.getD 0 = rowTo (zs[l[i]?.getD 0]?.getD 0) l m := by
  subst hm
  unfold ind
  rw [List.getElem?_map, List.getElem?_eq_getElem hi]
  rfl

set_option maxRecDepth 100000 in
set_option maxHeartbeats 4000000 in
theorem srest_any (A : Option Addr) (n c : Nat) (zs : List Int) (hvo : VoP zs) (d : Nat) (w : World) (h : Ints w w.heap.size A n zs) (hd : d < 2 ^ n) :
    Calls Try.prog 67 #[.slice A n c, .int .i64 (d : Int)] w fun e w' => e = .returned (.int .i64 (cF zs (2 ^ n - 1 - d) : Int)) ∧ Below w.heap.size w w' := by
  obtain ⟨i0, hi0, hz0, hz1, hz2⟩ := info_parts infoInt
  have hlen := Lib.hid h.len
  have hn6 : n ≤ 6 := by have := hvo.1; rw [hlen.out] at this; exact this
  have hp64 := pow_le64 hn6
  have hs : 2 ^ n - 1 - d < 2 ^ n := by omega
  obtain ⟨s, hsd⟩ : ∃ s, 2 ^ n - 1 - d = s := ⟨_, rfl⟩
  rw [hsd] at hs ⊢
  have Hbit := Lib.hid (show ∀ j, j < n → s.testBit j = !d.testBit j from fun j hj => by
    have := com_bit_fin ⟨n, by omega⟩ ⟨d, by omega⟩ hd ⟨j, by omega⟩
    simp only at this
    rw [← hsd, this]; simp [hj])
  clear hsd
  have HL := Lib.hid (show leftK s n = leftL zs.length s by unfold leftK leftL; rw [hlen.out])
  have Hinc := Lib.hid (leftL_inc zs s)
  have Hres := Lib.hid (rest_is hvo (s := s) (by rw [hlen.out]; exact hs))
  have Hivo := Lib.hid (ind_vo hvo Hinc.out)
  have Hil := Lib.hid (ind_len zs (leftL zs.length s))
  go_enter Try.func67, Try.ntmps67
  go_wp2_with fail
  have h1 := own_new w 3
  have hU1 : Upd (fun _ => False) w (w.alloc (.cells #[] 3)) := (Upd.refl _ w).alloc _
  have hz1a : w.heap.size ≤ (w.alloc (.cells #[] 3)).heap.size := hU1.size
  obtain ⟨W1, hW1⟩ : ∃ W1, w.alloc (.cells #[] 3) = W1 := ⟨_, rfl⟩
  rw [hW1] at h1 hU1 hz1a ⊢
  clear hW1
  go_loopw [5, 6] (fun v i wr => ∃ k : Nat, k ≤ n ∧ i = .int .i64 k ∧ OwnS (fun k => w.heap.size ≤ k) wr w.heap.size 3 v (asI (leftK s k)) ∧ Upd (fun _ => False) w wr) (fun _ i _ => n - (intOf i).toNat)
  case atStart => exact ⟨0, by omega, rfl, ⟨fun k hk => by simp [Value.ownBlock] at hk; omega, h1⟩, hU1⟩
  case round =>
    clear hz1a hU1 h1
    obtain ⟨k, hk, rfl, hO, hU⟩ := hrel
    have zr := hU.size
    by_cases hlt : k < n
    · have hb := Hbit.out k hlt
      have hkl := leftK_len s k
      cases hdk : d.testBit k
      · have hbi : (bitI (d : Int) k == 0) = true := by unfold bitI; rw [bit_cast, hdk]; rfl
        have Hn := Lib.hid (show asI (leftK s (k + 1)) = asI (leftK s k) ++ [(k : Int)] by rw [leftK_yes (by rw [hb, hdk]; rfl), asI_snoc])
        have Hln := Lib.hid (asI_len (leftK s k))
        clear hb
        go_wp2_with (first
          | (go_at_call 66; refine (bit_any _ _ _ (by omega) (by omega) (by omega) (by omega)).mono ?_; rintro e w' ⟨rfl, rfl⟩)
          | (at_builtin; refine wpList_append1 _ rfl (.tmp 22) (.tmp 24) _ rfl w.heap.size 3 i0 _ 8 Try.underlying22 hi0 hz0 hz1 hz2 rfl _ (asI (leftK s k)).length _ rfl (hO.2.alloc _) wr.heap.size 1 (.int .i64 k) rfl (cell_new _ _ _) rfl (by rw [Hln.out]; omega) (by rw [Hln.out]; omega) (by simp; omega) ?_; rintro v' w' hown' hg' hv'))
        have zg := hg'.size
        simp at zg
        go_roundw
        case rel => exact ⟨k + 1, by omega, by go_num, by rw [Hn.out]; exact hO.step hown' hv' (fun k e => e) (fun _ => by omega), (hU.alloc _).grown hg' (fun k hk => .inl (hO.1 k hk))⟩
        case measure => simp [intOf]; omega
      · have hbi : (bitI (d : Int) k == 0) = false := by unfold bitI; rw [bit_cast, hdk]; rfl
        have Hn := Lib.hid (leftK_no (s := s) (k := k) (by rw [hb, hdk]; rfl))
        clear hb
        go_wp2_with (go_at_call 66; refine (bit_any _ _ _ (by omega) (by omega) (by omega) (by omega)).mono ?_; rintro e w' ⟨rfl, rfl⟩)
        go_roundw
        case rel => exact ⟨k + 1, by omega, by go_num, by rw [Hn.out]; exact hO, hU⟩
        case measure => simp [intOf]; omega
    · obtain rfl : k = n := by omega
      rw [HL.out] at hO
      obtain ⟨A', c', rfl, hI, -⟩ := ints_of_own_at hO.2
      have hB0 : Below w.heap.size w wr := hU.toBelow (fun _ e => e.elim) (Nat.le_refl _)
      have hA := h.to hB0 (Nat.le_refl _) zr
      obtain ⟨m, hm⟩ : ∃ m, (asI (leftL zs.length s)).length = m := ⟨_, rfl⟩
      rw [hm] at hI ⊢
      have Hm := Lib.hid (show (leftL zs.length s).length = m by rw [← hm, asI_len])
      clear hm
      have hml : m ≤ k := by have h1 := Hinc.out.len_le; have h2 := hlen.out; have h3 := Hm.out; omega
      clear hO hU
      have Hlt := Lib.hid (show ∀ i, i < m → (leftL zs.length s)[i]?.getD 0 < k from fun i hi => by have h1 := Hinc.out.at_lt (i := i) (by rw [Hm.out]; exact hi); have h2 := hlen.out; omega)
      have Hget := Lib.hid (show ∀ i, i < m → (asI (leftL zs.length s))[i]?.getD 0 = (((leftL zs.length s)[i]?.getD 0 : Nat) : Int) from fun i hi => asI_get (by rw [Hm.out]; exact hi))
      have Hind := Lib.hid (show ∀ i, i < m → (ind zs (leftL zs.length s))[i]?.getD 0 = rowTo (zs[(leftL zs.length s)[i]?.getD 0]?.getD 0) (leftL zs.length s) m from fun i hi => ind_row Hm.out hi)
      generalize hl : leftL zs.length s = l at *
      have Hl := Lib.hid hl
      clear hl
      rename World => w2
      go_wp2_with fail
      have h1 := own_new w2 3
      have hU1 : Upd (fun _ => False) w2 (w2.alloc (.cells #[] 3)) := (Upd.refl _ w2).alloc _
      obtain ⟨W1, hW1⟩ : ∃ W1, w2.alloc (.cells #[] 3) = W1 := ⟨_, rfl⟩
      rw [hW1] at h1 hU1 ⊢
      clear hW1
      go_loopw [7, 8] (fun v i wr => ∃ k : Nat, k ≤ m ∧ i = .int .i64 k ∧ OwnS (fun k => w2.heap.size ≤ k) wr w2.heap.size 3 v ((ind zs l).take k) ∧ Upd (fun _ => False) w2 wr) (fun _ i _ => m - (intOf i).toNat)
      case atStart => exact ⟨0, by omega, rfl, ⟨fun k hk => by simp [Value.ownBlock] at hk; omega, by simpa using h1⟩, hU1⟩
      case round =>
        clear hU1 h1
        obtain ⟨i, hi, rfl, hO, hU⟩ := hrel
        rename World => w3
        have zx := hU.size
        have hBx : Below w2.heap.size w2 w3 := hU.toBelow (fun _ e => e.elim) (Nat.le_refl _)
        have hAx := hA.to hBx (Nat.le_refl _) zx
        have hIx := hI.to hBx (Nat.le_refl _) zx
        by_cases hlt2 : i < m
        · have hli := Hlt.out i hlt2
          have hgi := Hget.out i hlt2
          have Hrow := Lib.hid (Hind.out i hlt2)
          generalize hx : l[i]?.getD 0 = x at *
          have Hx := Lib.hid hx
          clear hx
          have hz := hvo.bd x (by rw [hlen.out]; exact hli)
          have Htk := Lib.hid (take_snocI (ind zs l) (k := i) (by rw [Hil.out, Hm.out]; exact hlt2))
          go_wp2
          go_loopw [9, 10] (fun t i wr => ∃ j q : Nat, j ≤ m ∧ i = .int .i64 j ∧ t = .int .i64 (rowTo (zs[x]?.getD 0) l j) ∧ wr = w3.drewN q) (fun _ i _ => m - (intOf i).toNat)
          case atStart => exact ⟨0, 0, by omega, rfl, rfl, rfl⟩
          case round =>
            obtain ⟨j, q, hj, rfl, rfl, rfl⟩ := hrel
            have hrb := rowTo_bd (zs[x]?.getD 0) l j
            by_cases hlt3 : j < m
            · have hlj := Hlt.out j hlt3
              have hgj := Hget.out j hlt3
              have Hrs := Lib.hid (show rowTo (zs[x]?.getD 0) l (j + 1) = orI (rowTo (zs[x]?.getD 0) l j) (bitI (zs[x]?.getD 0) ((l[j]?.getD 0 : Nat) : Int) * powI j) from rfl)
              generalize hy : l[j]?.getD 0 = y at *
              have Hy := Lib.hid hy
              clear hy
              obtain ⟨bl, ol, rfl, -, hcl⟩ := hIx.at_ hlt2
              have hci := hcl i hlt2
              have hcj := hcl j hlt3
              rw [hgi] at hci
              rw [hgj] at hcj
              obtain ⟨bz, oz, rfl, -, hcz⟩ := hAx.at_ hli
              have hcx := hcz x hli
              clear hcl hcz hgi hgj
              have hb01 := bitI_01 (zs[x]?.getD 0) y
              have hpj := powI_le6 (n := (j : Int)) (by omega)
              have hpp := powI_pos (j : Int)
              have hp6 := powI_le6 (n := (m : Int)) (by omega)
              have hmb : 0 ≤ bitI (zs[x]?.getD 0) y * powI j ∧ bitI (zs[x]?.getD 0) y * powI j ≤ 64 := by
                rw [bitI_mul]; split <;> omega
              have hacc64 : rowTo (zs[x]?.getD 0) l j < 64 := by omega
              have hor : bits .or .i64 (rowTo (zs[x]?.getD 0) l j) (bitI (zs[x]?.getD 0) y * powI j) = orI (rowTo (zs[x]?.getD 0) l j) (bitI (zs[x]?.getD 0) y * powI j) := bits_or (by omega) (by omega) (by omega) (by omega)
              have hw : IntKind.i64.wrap (bitI (zs[x]?.getD 0) y * powI j) = bitI (zs[x]?.getD 0) y * powI j := by rw [IntKind.wrap_i64]; omega
              generalize rowTo (zs[x]?.getD 0) l j = acc at *
              have hbit := fun w => bit_any (zs[x]?.getD 0) y w (by omega) (by omega) (by omega) (by omega)
              have hpow := fun w => power_any (j : Int) w (by omega) (by omega)
              generalize bitI (zs[x]?.getD 0) y = bt at *
              generalize powI (j : Int) = pw at *
              generalize zs[x]?.getD 0 = z at *
              go_wp2
              go_quiet ((first | (go_at_call 66; exact quiet_add_left (hbit _)) | (go_at_call 54; exact quiet_add_left (hpow _))))
              go_wp2
              go_roundw
              case rel => exact ⟨j + 1, _, by omega, by go_num, by rw [Hrs.out], rfl⟩
              case measure => simp [intOf]; omega
            · obtain rfl : j = m := by omega
              have hO' : OwnS (fun k => w2.heap.size ≤ k) (w3.drewN q) w2.heap.size 3 _ ((ind zs l).take i) := hO
              have hU' : Upd (fun _ => False) w2 (w3.drewN q) := hU.drewN q
              have Hln := Lib.hid (show ((ind zs l).take i).length = i by rw [List.length_take, Hil.out, Hm.out]; omega)
              have zx' : w2.heap.size ≤ (w3.drewN q).heap.size := zx
              have Hrow2 := Lib.hid (show (ind zs l)[i]?.getD 0 = rowTo (zs[x]?.getD 0) l j from Hrow.out)
              generalize rowTo (zs[x]?.getD 0) l j = row at *
              generalize w3.drewN q = w4 at *
              go_wp2_with (at_builtin; refine wpList_append1 _ rfl (.tmp 56) (.tmp 58) _ rfl w2.heap.size 3 i0 _ 8 Try.underlying22 hi0 hz0 hz1 hz2 rfl _ ((ind zs l).take i).length _ rfl (hO'.2.alloc _) w4.heap.size 1 (.int .i64 row) rfl (cell_new _ _ _) rfl (by rw [Hln.out]; omega) (by rw [Hln.out]; omega) (by simp; omega) ?_; rintro v' w' hown' hg' hv')
              have zg := hg'.size
              simp at zg
              go_roundw
              case rel => exact ⟨i + 1, by omega, by go_num, by rw [Htk.out, Hrow2.out]; exact hO'.step hown' hv' (fun k e => e) (fun _ => by omega), (hU'.alloc _).grown hg' (fun k hk => .inl (hO'.1 k hk))⟩
              case measure => simp [intOf]; omega
        · obtain rfl : i = m := by omega
          have hO' := hO
          rw [List.take_of_length_le (by rw [Hil.out, Hm.out]; exact Nat.le_refl _)] at hO'
          obtain ⟨A2, c2, hv2, hI2, -⟩ := ints_of_own_at hO'.2
          have hLn := Lib.hid (show (ind zs l).length = i by rw [Hil.out, Hm.out])
          rw [hLn.out] at hI2 hv2
          subst hv2
          go_wp2_with fail
          refine (scountLines_any A2 i c2 (ind zs l) Hivo.out _ hI2).mono ?_
          rintro e w5 ⟨rfl, hB5⟩
          go_wp2_with fail
          go_ret
          exact ⟨ret_int (by have h1 := Hres.out; rw [Hm.out] at h1; rw [h1]), hB0.trans ((hBx.mono hB0.size).trans (hB5.mono (Nat.le_trans hB0.size hBx.size)))⟩
end Go.Proofs.Ytidggolnhagfdaa

/- LineAt: the model's. -/
namespace Go.Proofs.Ytidggolnhagfdaa
open Go.RowKit Go.Shelf
attribute [local go_sem] Oper.semAt_some
attribute [local go_sem, local simp] wide_fn

/-- What a function that hands back a line and whether there is one does. -/
def GivesAt (w : World) (xs : List Int) (t : Bool) (e : Ending) (w' : World) : Prop := ∃ A n c, e = .returned (.tuple #[.slice A n c, .bool t]) ∧ RowC w' w.heap.size w'.heap.size A n xs ∧ Below w.heap.size w w'

theorem OwnS.keep' {S R : Nat → Prop} {w w' : World} {B : Nat} {e : TypeId} {v : Value} {xs : List Int} (h : OwnS S w B e v xs) (hu : Upd R w w') (hS : ∀ k, S k → k < w.heap.size → ¬ R k) : OwnS S w' B e v xs := by
  obtain ⟨h0, h1⟩ := h
  refine ⟨h0, h1.1, ?_⟩
  rcases h1.2 with e | ⟨g, cap, cur, rfl, hg, hc, hrest⟩
  · exact .inl e
  · have hl := (Array.getElem?_eq_some_iff.1 hc).1
    exact .inr ⟨g, cap, cur, rfl, hg, (hu.block g hl (hS g (h0 g rfl) hl)).trans hc, hrest⟩

set_option maxRecDepth 100000 in
set_option maxHeartbeats 8000000 in
theorem specLineAtF_any (A : Option Addr) (n c : Nat) (zs : List Int) (r : Int) (w : World) (h : Ints w w.heap.size A n zs) (hbig : n ≤ 1152921504606846976) :
    Calls Try.prog 39 #[.slice A n c, .int .i64 r] w (GivesAt w (atR zs r) (hasAt zs r)) := by
  obtain ⟨i0, hi0, hz0, hz1, hz2⟩ := info_parts infoInt
  have hlen := Lib.hid h.len
  cases hv : vo zs
  · have Hh := Lib.hid (show hasAt zs r = false by unfold hasAt; rw [hv]; rfl)
    have Ht := Lib.hid (show atR zs r = [] by unfold atR; rw [Hh.out]; rfl)
    go_enter Try.func39, Try.ntmps39
    go_wp2_with fail
    refine (validOrder_any _ _ _ _ zs _ h hbig).mono ?_
    rw [hv]
    rintro e w' ⟨rfl, m, rfl⟩
    go_wp2_with fail
    go_ret2
    exact ⟨none, 0, 0, by rw [Hh.out]; rfl, by rw [Ht.out]; exact RowC.nil _ _ _ _, below_drewN (Below.refl _ _) m⟩
  · have hvo : VoP zs := by simpa [vo] using hv
    have Hv := Lib.hid hv
    clear hv
    have hn6 : n ≤ 6 := by have := hvo.1; rw [hlen.out] at this; exact this
    have hg := cF_le hvo (s := 2 ^ n - 1) (by rw [hlen.out]; have := Nat.two_pow_pos n; omega)
    obtain ⟨g, hgg⟩ : ∃ g, cF zs (2 ^ n - 1) = g := ⟨_, rfl⟩
    have Hgg := Lib.hid (show cG zs (2 ^ n - 1) = g by rw [← hgg]; have := count_both hvo; rw [hlen.out] at this; exact this)
    have Hgf := Lib.hid hgg
    have Hhas := Lib.hid (show hasAt zs r = inB r 0 ((g : Int) - 1) by
      unfold hasAt inB; rw [Hv.out, hlen.out, hgg, Bool.true_and, ← Bool.decide_and]
      exact decide_eq_decide.2 (by omega))
    rw [hgg] at hg
    clear hgg
    cases hin : inB r 0 ((g : Int) - 1)
    · have Hh := Lib.hid (Hhas.out.trans hin)
      have Ht := Lib.hid (show atR zs r = [] by unfold atR; rw [Hh.out]; rfl)
      have Hin := Lib.hid hin
      clear hin
      go_enter Try.func39, Try.ntmps39
      go_wp2_with fail
      refine (validOrder_any _ _ _ _ zs _ h hbig).mono ?_
      rw [Hv.out]
      rintro e w' ⟨rfl, m, rfl⟩
      have hB1 := below_drewN (Below.refl w.heap.size w) m
      go_wp2_with fail
      refine (scountLines_any A n c zs hvo _ ((h.drewN m).more (by simp))).mono ?_
      rw [Hgg.out]
      rintro e w2 ⟨rfl, hB2⟩
      have C2 := hB1.trans (hB2.mono (by simp))
      go_wp2_with fail
      refine (inRange_any _ _ _ _).mono ?_
      rw [Hin.out]
      rintro e w' ⟨rfl, rfl⟩
      go_wp2_with fail
      go_ret2
      exact ⟨none, 0, 0, by rw [Hh.out]; rfl, by rw [Ht.out]; exact RowC.nil _ _ _ _, C2⟩
    · have Hh := Lib.hid (Hhas.out.trans hin)
      obtain ⟨R, rfl⟩ : ∃ R : Nat, r = (R : Int) := ⟨r.toNat, by simp only [inB, decide_eq_true_eq] at hin; omega⟩
      have hRg : R < g := by simp only [inB, decide_eq_true_eq] at hin; omega
      have hRF : R < cF zs (2 ^ zs.length - 1) := by rw [hlen.out, Hgf.out]; exact hRg
      have Ht := Lib.hid (show atR zs (R : Int) = atL zs R n by unfold atR; rw [Hh.out, if_pos rfl, hlen.out]; rfl)
      have Hin := Lib.hid hin
      clear hin
      have Hok := Lib.hid (fun k hk => stA_ok hvo hRF (k := k) hk)
      have Hst := Lib.hid (fun k (hk : k < zs.length) => stA_step hvo hRF hk)
      clear hRF
      have Hdu := Lib.hid (show downP n (pairsL zs) = du zs by unfold du; rw [hlen.out])
      have hds := du_sets hvo.sets
      have Hdl := Lib.hid (show (du zs).length = n by rw [du_len, hlen.out])
      have hp64 := pow_le64 hn6
      go_enter Try.func39, Try.ntmps39
      go_wp2_with fail
      refine (validOrder_any _ _ _ _ zs _ h hbig).mono ?_
      rw [Hv.out]
      rintro e w' ⟨rfl, m, rfl⟩
      have i1 : Ints (w.drewN m) (w.drewN m).heap.size A n zs := h.drewN m
      have B1 : Below w.heap.size w (w.drewN m) := below_drewN (Below.refl _ _) m
      have z1 : w.heap.size ≤ (w.drewN m).heap.size := B1.size
      generalize w.drewN m = w1 at *
      go_wp2_with fail
      refine (scountLines_any A n c zs hvo _ i1).mono ?_
      rw [Hgg.out]
      rintro e w2 ⟨rfl, hB2⟩
      have z2 := hB2.size
      have i2 := i1.to hB2 (Nat.le_refl _) z2
      have B2 := B1.trans (hB2.mono z1)
      clear i1 B1 hB2
      go_wp2_with fail
      refine (inRange_any _ _ _ _).mono ?_
      rw [Hin.out]
      rintro e w' ⟨rfl, rfl⟩
      go_wp2_with fail
      have h1 := own_new w2 3
      have hU1 : Upd (fun _ => False) w2 (w2.alloc (.cells #[] 3)) := (Upd.refl _ w2).alloc _
      have hz1' : (w2.alloc (.cells #[] 3)).heap.size = w2.heap.size + 1 := by simp
      obtain ⟨W1, hW1⟩ : ∃ W1, w2.alloc (.cells #[] 3) = W1 := ⟨_, rfl⟩
      rw [hW1] at h1 hU1 hz1' ⊢
      clear hW1
      obtain ⟨hza, hzb⟩ : w2.heap.size < W1.heap.size ∧ W1.heap.size ≤ w2.heap.size + 1 := by omega
      clear hz1'
      have hB1 : Below w2.heap.size w2 W1 := hU1.toBelow (fun _ e => e.elim) (Nat.le_refl _)
      refine (downOf_any A n c zs W1 (i2.to hB1 (Nat.le_refl _) (by omega)) hvo.sets).mono ?_
      rintro e w3 ⟨rfl, hA3, hB3⟩
      rw [Hdu.out] at hA3
      have z3 := hB3.size
      have l3 := hA3.lt
      have O3 : OwnS (fun k => k = w2.heap.size) w3 w2.heap.size 3 (.slice (some ⟨w2.heap.size, 0, none⟩) 0 0) [] := OwnS.keep (S := fun k => k = w2.heap.size) ⟨fun k hk => by simp [Value.ownBlock] at hk; exact hk.symm, h1⟩ (Below.toUpd hB3) (fun k hk e => by omega)
      have hU3 : Upd (fun _ => False) w2 w3 := hU1.below hB3 (fun k h1 h2 => by omega)
      have i3 := i2.to (hU3.toBelow (B := w2.heap.size) (fun _ e => e.elim) (Nat.le_refl _)) (Nat.le_refl _) (Nat.le_refl _)
      obtain ⟨q, hq⟩ : ∃ q, W1.heap.size = q := ⟨_, rfl⟩
      rw [hq] at hA3 hza hzb z3 l3 ⊢
      clear hq h1 hU1 hB1 hB3 i2
      go_wp2_with fail
      go_loopw [1, 6, 7] (fun rk v t wr => ∃ k : Nat, k ≤ n ∧ rk = .int .i64 ((stA zs R k).2 : Int) ∧ t = .int .i64 ((stA zs R k).1 : Int) ∧ OwnS (fun k => k = w2.heap.size ∨ w3.heap.size ≤ k) wr w2.heap.size 3 v (atL zs R k) ∧ Upd (fun k => k = w2.heap.size) w3 wr) (fun _ _ t _ => n - (popI (intOf t)).toNat)
      case atStart => exact ⟨0, by omega, rfl, rfl, ⟨fun k hk => .inl (O3.1 k hk), O3.2⟩, Upd.refl _ _⟩
      case round =>
        obtain ⟨k, hk, rfl, rfl, hO, hU⟩ := hrel
        rename World => w4
        have z4 := hU.size
        obtain ⟨A4, c4, hv4, hI4, -⟩ := ints_of_own_at hO.2
        have Hal := Lib.hid (atL_len zs R k)
        rw [Hal.out] at hv4
        subst hv4
        by_cases hlt : k < n
        · obtain ⟨hD, hP, hPr⟩ := Hst.out k (by rw [hlen.out]; exact hlt)
          have hpp := Hok.out k (by rw [hlen.out]; exact hk)
          have hpop := hpp.2.1
          have hpop2 := (Hok.out (k + 1) (by rw [hlen.out]; exact hlt)).2.1
          have hpk := pk_ok hPr
          have hpn := pk_next hPr
          have hpc := pk_cnt hPr
          have Hs1 := Lib.hid (show stA zs R (k + 1) = ((stA zs R k).1 + 2 ^ pk zs (stA zs R k).1 (stA zs R k).2, (stA zs R k).2 - rkIn zs (stA zs R k).1 (pk zs (stA zs R k).1 (stA zs R k).2)) from rfl)
          have Hl1 := Lib.hid (show atL zs R (k + 1) = atL zs R k ++ [(pk zs (stA zs R k).1 (stA zs R k).2 : Int)] from rfl)
          have Hmono := Lib.hid (fun a b (e : a ≤ b) => rkIn_mono' (zs := zs) (D := (stA zs R k).1) e)
          have Hp1 := Lib.hid hpop
          have Hp2 := Lib.hid hpop2
          clear hpp hpop hpop2 hPr
          rw [hlen.out] at hD hpk hpc
          have d4 : Arr w4 q 3 (du zs) := hA3.upd hU (fun e => by omega)
          have hD64 : (stA zs R k).1 < 64 := by omega
          generalize hxx : pk zs (stA zs R k).1 (stA zs R k).2 = x at *
          generalize hdd : (stA zs R k).1 = D at *
          generalize hrr : (stA zs R k).2 = P at *
          have Hxx := Lib.hid hxx
          have Hdd := Lib.hid hdd
          have Hrr := Lib.hid hrr
          clear hxx hdd hrr
          obtain ⟨hx1, hx2, hx3⟩ := hpk
          go_wp2_with fail
          go_loopw [1, 6, 7, 9] (fun rk v t i wr => ∃ a : Nat, a ≤ x ∧ i = .int .i64 a ∧ rk = .int .i64 ((P - rkIn zs D a : Nat) : Int) ∧ v = .slice A4 k c4 ∧ t = .int .i64 (D : Int) ∧ Upd (fun _ => False) w4 wr) (fun _ _ _ i _ => x - (intOf i).toNat)
          case atStart => exact ⟨0, by omega, rfl, by simp [rkIn], rfl, rfl, Upd.refl _ _⟩
          case round =>
            obtain ⟨a, ha, rfl, rfl, rfl, rfl, hUa⟩ := hrel
            rename World => w5
            have z5 := hUa.size
            have hle := Hmono.out a x ha
            have han : a < n := by omega
            have hcd := (d4.upd hUa (fun e => e)).cell (k := a) (by rw [Hdl.out]; exact han)
            have hz := hds.bd a (by rw [Hdl.out]; exact han)
            have hless : bits .andNot .i64 ((du zs)[a]?.getD 0) (D : Int) = lessI ((du zs)[a]?.getD 0) (D : Int) := bits_less (by omega) (by omega) (by omega) (by omega)
            have Hsu := Lib.hid (rkIn_succ zs D a)
            have hU5 : Upd (fun k => k = w2.heap.size) w3 w5 := hU.trans' hUa (fun i hi e => e.elim)
            have i5 := i3.to (hU5.toBelow (B := w2.heap.size) (fun _ e => by omega) (by omega)) (Nat.le_refl _) (C := w5.heap.size) (by omega)
            cases hbd : D.testBit a
            · have hbi : (bitI (D : Int) a == 1) = false := by unfold bitI; rw [bit_cast, hbd]; rfl
              cases hl : (lessI ((du zs)[a]?.getD 0) (D : Int) != 0)
              · have hne : nextE zs D a = true := by unfold nextE; rw [hbd]; simpa [bne] using hl
                have hadd := add_lt hn6 hD han hbd
                have Hor := Lib.hid ((bits_or (a := (D : Int)) (b := powI a) (by omega) (by omega) (Int.le_of_lt (powI_pos _)) (by have := powI_le6 (n := (a : Int)) (by omega); omega)).trans (or_is hD64 (show a < 6 by omega) hbd))
                have hcb := cF_le hvo (s := 2 ^ n - 1 - (D + 2 ^ a)) (by rw [hlen.out]; exact Nat.lt_of_le_of_lt (Nat.sub_le _ _) (by have := Nat.two_pow_pos n; omega))
                by_cases hax : a = x
                · subst hax
                  obtain ⟨cc, hcc⟩ : ∃ cc, cF zs (2 ^ n - 1 - (D + 2 ^ a)) = cc := ⟨_, rfl⟩
                  have hO5 := hO.keep hUa (fun _ _ e => e)
                  have Hln := Lib.hid (show (atL zs R k).length = k from Hal.out)
                  have hra : rkIn zs D a ≤ P := hx2
                  rw [hcc] at hpc hcb
                  clear hne hpn hx3
                  generalize rkIn zs D a = ra at *
                  go_wp2_with (first
                    | (go_at_call 66; refine (bit_any _ _ _ (by omega) (by omega) (by omega) (by omega)).mono ?_; rintro e w' ⟨rfl, rfl⟩)
                    | (go_at_call 54; refine (power_any _ _ (by omega) (by omega)).mono ?_; rintro e w' ⟨rfl, rfl⟩))
                  rw [Hor.out]
                  refine (srest_any _ n _ zs hvo (D + 2 ^ a) w5 i5 hadd).mono ?_
                  rw [hcc]
                  rintro e w6 ⟨rfl, hB6⟩
                  have z6 := hB6.size
                  have hO6 := hO5.keep' (Below.toUpd hB6) (fun i hi h2 e => by omega)
                  have hU6 : Upd (fun _ => False) w4 w6 := hUa.below hB6 (fun i h1 h2 => by omega)
                  have Hx4 := Lib.hid Hl1.out
                  go_wp2_with (first
                    | (go_at_call 54; refine (power_any _ _ (by omega) (by omega)).mono ?_; rintro e w' ⟨rfl, rfl⟩)
                    | (at_builtin; refine wpList_append1 _ rfl (.tmp 58) (.tmp 60) _ rfl w2.heap.size 3 i0 _ 8 Try.underlying22 hi0 hz0 hz1 hz2 rfl _ (atL zs R k).length _ rfl (hO6.2.alloc _) w6.heap.size 1 (.int .i64 a) rfl (cell_new _ _ _) rfl (by rw [Hln.out]; omega) (by rw [Hln.out]; omega) (by simp; omega) ?_; rintro v' w' hown' hg' hv'))
                  rw [Hor.out]
                  have zg := hg'.size
                  simp at zg
                  go_roundw
                  case rel => exact ⟨k + 1, by omega, by rw [Hs1.out], by rw [Hs1.out], by rw [Hl1.out]; exact hO6.step hown' hv' (fun k e => e) (fun _ => .inr (by omega)), ((hU.trans' hU6 (fun i hi e => e.elim)).alloc _).grown hg' (fun k hk => by rcases hO.1 k hk with e | e <;> omega)⟩
                  case measure => (have hp2 := Hp2.out; rw [Hs1.out] at hp2; have hp1 := Hp1.out; simp only [intOf] at hp1 hp2 ⊢; rw [hp1, hp2]; omega)
                · have Hsu2 := Lib.hid (show rkIn zs D (a + 1) = rkIn zs D a + cF zs (2 ^ n - 1 - (D + 2 ^ a)) by rw [Hsu.out, hne, hlen.out, if_pos rfl])
                  have hle2 := Hmono.out (a + 1) x (by omega)
                  rw [Hsu2.out] at hle2
                  obtain ⟨cc, hcc⟩ : ∃ cc, cF zs (2 ^ n - 1 - (D + 2 ^ a)) = cc := ⟨_, rfl⟩
                  have Hcc := Lib.hid hcc
                  rw [hcc] at hle2 hcb
                  clear hcc hne
                  generalize hra : rkIn zs D a = ra at *
                  have Hra := Lib.hid hra
                  clear hra
                  go_wp2_with (first
                    | (go_at_call 66; refine (bit_any _ _ _ (by omega) (by omega) (by omega) (by omega)).mono ?_; rintro e w' ⟨rfl, rfl⟩)
                    | (go_at_call 54; refine (power_any _ _ (by omega) (by omega)).mono ?_; rintro e w' ⟨rfl, rfl⟩))
                  rw [Hor.out]
                  refine (srest_any _ n _ zs hvo (D + 2 ^ a) w5 i5 hadd).mono ?_
                  rw [Hcc.out]
                  rintro e w6 ⟨rfl, hB6⟩
                  go_wp2_with fail
                  go_roundw
                  case rel => exact ⟨a + 1, by omega, by go_num, congrArg (Value.int .i64) (by rw [Hsu2.out, Hcc.out]; omega), rfl, rfl, hUa.below hB6 (fun i h1 h2 => by omega)⟩
                  case measure => simp [intOf]; omega
              · have hne : nextE zs D a = false := by unfold nextE; rw [hbd]; simpa [bne] using hl
                have hax : a ≠ x := fun e => by rw [e] at hne; rw [hne] at hpn; cases hpn
                have Hn := Lib.hid (show rkIn zs D (a + 1) = rkIn zs D a by rw [Hsu.out, hne]; simp)
                clear hne
                go_wp2_with (go_at_call 66; refine (bit_any _ _ _ (by omega) (by omega) (by omega) (by omega)).mono ?_; rintro e w' ⟨rfl, rfl⟩)
                go_roundw
                case rel => exact ⟨a + 1, by omega, by go_num, by rw [Hn.out], rfl, rfl, hUa⟩
                case measure => simp [intOf]; omega
            · have hbi : (bitI (D : Int) a == 1) = true := by unfold bitI; rw [bit_cast, hbd]; rfl
              have hne : nextE zs D a = false := by unfold nextE; rw [hbd]; rfl
              have hax : a ≠ x := fun e => by rw [e] at hne; rw [hne] at hpn; cases hpn
              have Hn := Lib.hid (show rkIn zs D (a + 1) = rkIn zs D a by rw [Hsu.out, hne]; simp)
              clear hne
              go_wp2_with (go_at_call 66; refine (bit_any _ _ _ (by omega) (by omega) (by omega) (by omega)).mono ?_; rintro e w' ⟨rfl, rfl⟩)
              go_roundw
              case rel => exact ⟨a + 1, by omega, by go_num, by rw [Hn.out], rfl, rfl, hUa⟩
              case measure => simp [intOf]; omega
        · obtain rfl : k = n := by omega
          obtain ⟨A', c', he, hRC⟩ := rowC_of_own hO.2
          rw [Hal.out] at he hRC
          have zz := B2.size
          go_wp2_with fail
          go_ret2
          exact ⟨A4, k, c4, by rw [Hh.out]; rfl, by rw [Ht.out]; exact hRC.more zz (Nat.le_refl _), B2.trans ((hU3.trans' hU (fun i hi e => by omega)).toBelow (fun _ e => e.elim) zz)⟩
end Go.Proofs.Ytidggolnhagfdaa

/- The arguments of the laws, opened and shut: lists of numbers. -/
namespace Go.Proofs.Ytidggolnhagfdaa
open Go.ChangeShapes Go.WideShapes Go.ChangeAt Go.RowKit
set_option linter.unusedVariables false

section
variable {H : Type} {enc : TypeId × Value → H} {P : Program}
/-- The row's last step where the call leaves all that lay as it lay. -/
theorem post_of_below {f : Func} {s : ChangeSpec} {apart fresh handsOn again : Bool} {W W' : World} {args : Array Value} {v : Value} {ds gs : List (DataW H)} {before pa pv : List MemPlace}
    (hW : DataW.Whole enc P f.params.toList s.vars apart W args.toList ds gs before)
    (hres : ∀ (b : Nat) (sp : Nat → Bool) (hd : Bool), DataW.TrodAll enc P W' b sp hd f.resultTypes.toList (v.resultList f.resultTypes.size) (s.fn H (ds ++ gs)).results [])
    (hargs : ∀ sp : Nat → Bool, (∀ p ∈ before, sp p.block = true) → DataW.TrodAll enc P W' 0 sp true f.params.toList args.toList (s.fn H (ds ++ gs)).args pa)
    (hvars : ∀ sp : Nat → Bool, (∀ p ∈ before, sp p.block = true) → DataW.TrodVars enc P W' sp s.vars (s.fn H (ds ++ gs)).vars pv)
    (hps : before = pa ++ pv) (hb : Below W.heap.size W W')
    (hok : ∀ (j : Nat) (t : TypeId) (r : Value), f.resultTypes[j]? = some t → (v.resultList f.resultTypes.size)[j]? = some r → Value.okWide P W' .any 0 t r) :
    s.post enc P f apart fresh handsOn again W args v W' := by
  have hlt : ∀ p ∈ before, p.block < W.heap.size := fun p hp => hW.lt p hp
  have hold : ∀ p ∈ before, (fun b => decide (b < W.heap.size)) p.block = true := fun p hp => by simpa using hlt p hp
  refine ⟨ds, gs, before, [], pa, pv, hW, hres _ _ _, hargs _ hold, hvars _ hold, World.keptBut_mono (fun p hp => ⟨hp, ?_⟩) (hb.frame (· ∈ before)), fun _ => ?_⟩
  · rw [hps, List.mem_append] at hp
    exact Or.inr hp
  · obtain ⟨_, _, _, _, _, hz, hn⟩ := hW
    refine ⟨hok, _, _, ([] ++ pa) ++ pv, ⟨[] ++ pa, pv, trodAll_append (hargs _ (fun _ _ => rfl)) (hres _ _ _), hvars _ (fun _ _ => rfl), rfl, ?_, ?_⟩, ?_⟩
    · intro b off hp
      have hin : MemPlace.cell b off ∈ before := by rw [hps]; simpa using hp
      rw [hb.frozen (hlt _ hin)]
      exact hz b off hin
    · intro ha
      have := hn ha
      rw [hps] at this
      simpa using this
    · intro p hp _
      rw [hps]
      simpa using hp
end

theorem own : ownKnob Try.prog.godebug = none := by kernel_rfl
theorem cellsInt : Try.prog.cellsOf 3 = 1 := by kernel_rfl

theorem cell_lt {w : World} {a : Addr} {v : Value} (h : w.cell? a = some v) : a.block < w.heap.size := by
  obtain ⟨o, ho, _⟩ := cells_of_cell h
  exact (Array.getElem?_eq_some_iff.1 ho).1
theorem block_of_add (a : Addr) (n : Nat) : (a.add n).block = a.block := by unfold Addr.add; split <;> rfl

section
variable {H : Type} {enc : TypeId × Value → H}
set_option maxRecDepth 100000 in
/-- A list of numbers that comes in: it reads as numbers, and reads again so in whatever world that keeps what lay. -/
theorem arg_ints {W : World} {v : Value} {d : DataW H} {p : List MemPlace} {base : Nat} (hok : Value.okWide Try.prog W .any base 22 v)
    (h : DataW.Trod enc Try.prog W 0 (fun _ => true) true 22 v d p) :
    ∃ (A : Option Addr) (n c : Nat) (zs : List Int), v = .slice A n c ∧ Ints W W.heap.size A n zs ∧ (∀ x ∈ zs, (Lit.int .i64 x).wf = true) ∧
      ∀ (W' : World), Below W.heap.size W W' → ∀ sp : Nat → Bool, (∀ q ∈ p, sp q.block = true) → DataW.Trod enc Try.prog W' 0 sp true 22 v d p := by
  obtain ⟨a0, len, cap, rfl⟩ := okWide_slice Try.underlying22 hok
  obtain ⟨fuel, hf⟩ := h
  rcases open_ints Try.underlying22 Try.underlying3 cellsInt hf with ⟨hcs, hx⟩ | ⟨a, len', cap', zs, hcs, _, hl, hm, hz, hx, hcell, hwz⟩
  · simp [Value.cells] at hcs
    obtain ⟨rfl, rfl, rfl⟩ := hcs
    simp only [Prod.mk.injEq] at hx
    obtain ⟨rfl, rfl⟩ := hx
    exact ⟨none, 0, 0, [], rfl, Ints.nil _ _ _, (fun _ hx => by cases hx), fun W' hb sp _ => shut_slice_nil Try.underlying22⟩
  · simp [Value.cells] at hcs
    obtain ⟨rfl, rfl, rfl⟩ := hcs
    simp only [Prod.mk.injEq] at hx
    obtain ⟨rfl, rfl⟩ := hx
    simp only [if_true] at hz
    have hlt : ∀ j, j < zs.length → a.block < W.heap.size := fun j hj => by
      have := cell_lt (hcell j hj)
      rwa [block_of_add] at this
    refine ⟨some a, len, cap, zs.take len, rfl, ⟨by simp; omega, fun hn => ?_⟩, fun x hx => hwz x (List.mem_of_mem_take hx), fun W' hb sp hsp => ?_⟩
    · obtain ⟨b, off, spot⟩ := a
      have hspot : spot = none := by simpa [Addr.add] using World.cell?_spot (hcell 0 (by omega))
      subst hspot
      refine ⟨b, off, rfl, hlt 0 (by omega), fun j hj => ?_⟩
      rw [← add_plain, hcell j (by omega)]
      simp [hj]
    · by_cases hz0 : zs.length = 0
      · have hc0 : cap = 0 := by omega
        have hl0 : len = 0 := by omega
        subst hc0; subst hl0
        have t0 := shut_ints (enc := enc) (w := W') (base := 0) (spare := sp) (held := true) (a := a) (len := 0) (cap := 0) (zs := zs) 0 Try.underlying22 Try.underlying3 cellsInt (Nat.zero_le _) (Nat.le_refl _) hm (by simp [hz0]) (fun j hj => by omega) hwz
        exact ⟨2, by simpa [Value.cells] using t0⟩
      · have hspb : sp a.block = true := by
          have := hsp (.cell a.block a.off) (MemPlace.mem_row.2 ⟨0, by omega, by simp⟩)
          exact this
        have t0 := shut_ints (enc := enc) (w := W') (base := 0) (spare := sp) (held := true) (a := a) (len := len) (cap := cap) (zs := zs) 0 Try.underlying22 Try.underlying3 cellsInt (Nat.zero_le _) hl hm (by simp [hspb, hz]) (fun j hj => by
          rw [hb.cell (by rw [block_of_add]; exact hlt j hj)]; exact hcell j hj) hwz
        exact ⟨2, by simpa [Value.cells] using t0⟩
end
end Go.Proofs.Ytidggolnhagfdaa

/- Rows that grew by append: their block has spare cells behind; marking them. -/
namespace Go.Proofs.Ytidggolnhagfdaa
open Go.RowKit

/-- A row at the head of a block of numbers' cells, in a block from lo up to less than hi (empty ones may lie anywhere). -/
def RowV (w : World) (lo hi : Nat) (A : Option Addr) (n : Nat) (xs : List Int) : Prop :=
  xs.length = n ∧ (0 < n → ∃ b cur, A = some ⟨b, 0, none⟩ ∧ lo ≤ b ∧ b < hi ∧ w.heap[b]? = some (.cells cur 3 (0, 0)) ∧ cur.toList.take n = xs.map (Value.int .i64))
section
variable {w w' : World} {lo hi n : Nat} {A : Option Addr} {xs : List Int} {R : Nat → Prop}
theorem RowV.len (h : RowV w lo hi A n xs) : xs.length = n := h.1
theorem RowV.nil (w : World) (lo hi : Nat) (A : Option Addr) : RowV w lo hi A 0 [] := ⟨rfl, fun h => absurd h (by omega)⟩
theorem RowV.upd (h : RowV w lo hi A n xs) (hu : Upd R w w') (hr : ∀ j, R j → j < lo ∨ hi ≤ j) : RowV w' lo hi A n xs :=
  ⟨h.1, fun hn => by
    obtain ⟨b, cur, e, hl, hb, hc, ht⟩ := h.2 hn
    exact ⟨b, cur, e, hl, hb, (hu.block b (Array.getElem?_eq_some_iff.1 hc).1 (fun hr' => by have := hr b hr'; omega)).trans hc, ht⟩⟩
theorem RowV.below {B : Nat} (h : RowV w lo hi A n xs) (hu : Below B w w') (hB : hi ≤ B) : RowV w' lo hi A n xs := h.upd (Below.toUpd hu) (fun j hj => by omega)
theorem RowV.more {lo' hi' : Nat} (h : RowV w lo hi A n xs) (h1 : lo' ≤ lo) (h2 : hi ≤ hi') : RowV w lo' hi' A n xs :=
  ⟨h.1, fun hn => by
    obtain ⟨b, cur, e, hl, hb, hc⟩ := h.2 hn
    exact ⟨b, cur, e, by omega, by omega, hc⟩⟩
theorem take_at {cur : Array Value} {n j : Nat} {ys : List Value} (h : cur.toList.take n = ys) (hj : j < n) : cur[j]? = ys[j]? := by
  rw [← h, List.getElem?_take, if_pos hj, Array.getElem?_toList]
theorem RowV.told (h : RowV w lo hi A n xs) : RowC w lo hi A n xs :=
  ⟨h.1, fun hn => by
    obtain ⟨b, cur, e, hl, hb, hc, ht⟩ := h.2 hn
    refine ⟨b, e, hl, hb, fun j hj => ?_⟩
    have hj2 : j < xs.length := by rw [h.1]; exact hj
    rw [cell_of_row w b j _ _ (0, 0) hc, take_at ht hj, List.getElem?_map, List.getElem?_eq_getElem hj2]
    simp⟩
theorem RowV.ints (h : RowV w lo hi A n xs) {B : Nat} (hB : hi ≤ B) : Ints w B A n xs := h.told.ints hB
theorem rowV_of_own {base m : Nat} {v : Value} (h : w.ownsRow base 3 1 v m (xs.map (Value.int .i64))) : ∃ A c, v = .slice A m c ∧ RowV w base w.heap.size A m xs := by
  have hl : xs.length = m := by simpa using h.1
  rcases h.2 with ⟨rfl, rfl⟩ | ⟨g, cap, cur, rfl, hg, hc, _, _, _, ht⟩
  · obtain rfl : xs = [] := List.eq_nil_of_length_eq_zero hl
    exact ⟨none, 0, rfl, RowV.nil _ _ _ _⟩
  · exact ⟨_, cap, rfl, hl, fun _ => ⟨g, cur, rfl, hg, (Array.getElem?_eq_some_iff.1 hc).1, hc, by simpa using ht⟩⟩
end

set_option maxHeartbeats 1000000 in
theorem markIntS_cells (b n c : Nat) (zs : List Int) (cur : Array Value) (k : Int) (w : World) (hA : w.heap[b]? = some (.cells cur 3 (0, 0))) (ht : cur.toList.take n = zs.map (Value.int .i64)) (hn : zs.length = n) (hbig : n ≤ 1048576) (hk0 : 0 ≤ k) (hk1 : k ≤ 1152921504606846976) :
    Calls Try.prog 22 #[.slice (some ⟨b, 0, none⟩) n c, .int .i64 k] w fun e w' => e = .returned (.int .i64 (k + n)) ∧ (∃ cur' : Array Value, w'.heap[b]? = some (.cells cur' 3 (0, 0)) ∧ cur'.toList.take n = (counted k n).map (Value.int .i64)) ∧ w.grownBy w' (some b) := by
  have hlen := Lib.hid hn
  clear hn
  go_enter Try.func22, Try.ntmps22
  go_wp2
  go_loopw [1, 5] (fun v i wr => ∃ j : Nat, j ≤ n ∧ i = .int .i64 j ∧ v = .int .i64 (k + j) ∧ (∃ cur' : Array Value, wr.heap[b]? = some (.cells cur' 3 (0, 0)) ∧ cur'.toList.take n = (markedTo zs k j).map (Value.int .i64)) ∧ w.grownBy wr (some b)) (fun _ i _ => n - (intOf i).toNat)
  case atStart => exact ⟨0, by omega, rfl, by go_num, ⟨cur, hA, ht⟩, World.grownBy.refl w _⟩
  case round =>
    obtain ⟨j, hj, rfl, rfl, ⟨cur', hc, hm⟩, hG⟩ := hrel
    rename World => wx
    by_cases hlt : j < n
    · have hl2 := markedTo_len (zs := zs) (k := k) (i := j) (by rw [hlen.out]; exact hj)
      have hcs : wx.cell? ⟨b, j, none⟩ = some (.int .i64 ((markedTo zs k j)[j]?.getD 0)) := by
        rw [cell_of_row _ b j _ _ (0, 0) hc, take_at hm hlt, List.getElem?_map, List.getElem?_eq_getElem (by rw [hl2, hlen.out]; exact hlt)]
        simp
      have hfs := frozen_of_row _ b j _ _ hc
      have Hms := Lib.hid (markedTo_succ (zs := zs) (k := k) (i := j) (by rw [hlen.out]; exact hlt))
      have Hm := Lib.hid hm
      clear hl2 hm
      go_wp2
      go_roundw
      case rel =>
        refine ⟨j + 1, by omega, by go_num, by rw [Int.natCast_add, ← Int.add_assoc]; rfl, ⟨cur'.setIfInBounds j (.int .i64 (k + (j : Int))), by simp [World.setCell, Array.getElem?_modify, hc], ?_⟩, only_setCell hG (.inl rfl) _⟩
        rw [Array.toList_setIfInBounds, List.take_set, Hm.out, ← List.map_set, Hms.out]
      case measure => simp [intOf]; omega
    · obtain rfl : j = n := by omega
      go_wp2
      go_ret
      refine ⟨rfl, ⟨cur', hc, ?_⟩, hG⟩
      rw [hm, markedTo, List.drop_eq_nil_of_le (by rw [hlen.out]; exact Nat.le_refl _), List.append_nil]

theorem markIntS_rowV (A : Option Addr) (n c lo hi : Nat) (xs : List Int) (k : Int) (w : World) (h : RowV w lo hi A n xs) (hbig : n ≤ 1048576) (hk0 : 0 ≤ k) (hk1 : k ≤ 1152921504606846976) :
    Calls Try.prog 22 #[.slice A n c, .int .i64 k] w fun e w' => e = .returned (.int .i64 (k + n)) ∧ RowV w' lo hi A n (counted k n) ∧ Upd (fun j => lo ≤ j ∧ j < hi) w w' := by
  by_cases hn : 0 < n
  · obtain ⟨b, cur, rfl, hl, hb, hA, ht⟩ := h.2 hn
    refine (markIntS_cells b n c xs cur k w hA ht h.1 hbig hk0 hk1).mono ?_
    rintro e w' ⟨rfl, ⟨cur', hA', ht'⟩, hg⟩
    exact ⟨rfl, ⟨by simp [counted], fun _ => ⟨b, cur', rfl, hl, hb, hA', ht'⟩⟩, (Upd.refl _ _).grown hg (fun j e => by cases e; exact .inr ⟨hl, hb⟩)⟩
  · obtain rfl : n = 0 := by omega
    refine (markIntS_nil A c k w).mono ?_
    rintro e w' ⟨rfl, rfl⟩
    exact ⟨ret_int (by simp), by simpa [counted] using RowV.nil _ lo hi A, Upd.refl _ _⟩
/-- What a function that hands back a new row of numbers does. -/
def GivesRowV (w : World) (xs : List Int) (e : Ending) (w' : World) : Prop := ∃ A n c, e = .returned (.slice A n c) ∧ RowV w' w.heap.size w'.heap.size A n xs ∧ Below w.heap.size w w'
end Go.Proofs.Ytidggolnhagfdaa

/- LineAt: the program's, whole. -/
namespace Go.Proofs.Ytidggolnhagfdaa
open Go.RowKit Go.Shelf

/-- What a function that hands back a new row and whether there is one does. -/
def GivesAtV (w : World) (xs : List Int) (t : Bool) (e : Ending) (w' : World) : Prop := ∃ A n c, e = .returned (.tuple #[.slice A n c, .bool t]) ∧ RowV w' w.heap.size w'.heap.size A n xs ∧ Below w.heap.size w w'

set_option maxHeartbeats 4000000 in
theorem LineAt_any (A : Option Addr) (n c : Nat) (zs : List Int) (r : Int) (w : World) (h : Ints w w.heap.size A n zs) (hbig : n ≤ 1152921504606846976) :
    Calls Try.prog 40 #[.slice A n c, .int .i64 r] w (GivesAtV w (atR zs r) (hasAt zs r)) := by
  have hlen := Lib.hid h.len
  cases hv : vo zs
  · have Hh := Lib.hid (show hasAt zs r = false by unfold hasAt; rw [hv]; rfl)
    have Ht := Lib.hid (show atR zs r = [] by unfold atR; rw [Hh.out]; rfl)
    have Hv := Lib.hid hv
    clear hv
    go_enter Try.func40, Try.ntmps40
    go_wp2_with fail
    refine (readOrder_any _ _ _ zs _ h hbig).mono ?_
    rintro e w' ⟨hB, (⟨hv, b, rfl, _, _⟩ | ⟨_, rfl⟩)⟩
    · rw [Hv.out] at hv; cases hv
    · go_wp2_with fail
      go_ret2
      exact ⟨none, 0, 0, by rw [Hh.out]; rfl, by rw [Ht.out]; exact RowV.nil _ _ _ _, hB⟩
  · have hvo : VoP zs := by simpa [vo] using hv
    have Hv := Lib.hid hv
    clear hv
    have hn6 : n ≤ 6 := by have := hvo.1; rw [hlen.out] at this; exact this
    have hp64 := pow_le64 hn6
    have hpp := Nat.two_pow_pos n
    have hF := cF_le hvo (s := 2 ^ n - 1) (by rw [hlen.out]; omega)
    have Hall := Lib.hid (show powI n - 1 = ((2 ^ n - 1 : Nat) : Int) by
      have : powI (n : Int) = ((2 ^ n : Nat) : Int) := by simp [powI]
      omega)
    have hwr := (writes_le (show 2 ^ n - 1 < 64 by omega)).2
    go_enter Try.func40, Try.ntmps40
    go_wp2_with fail
    refine (readOrder_any _ _ _ zs _ h hbig).mono ?_
    rintro e w1 ⟨hB, (⟨_, b, rfl, hb, hAr⟩ | ⟨hv, _⟩)⟩
    · have z1 := hB.size
      go_wp2_with fail
      refine (lineup_any _ n _ zs hvo.sets _ (hAr.ints' hAr.lt hlen.out)).mono ?_
      rintro e w2 ⟨bd, bm, rfl, hA2, hm2, hbd, hbm, hne, hB2⟩
      unfold lineV
      have z2 := hB2.size
      have C2 := hB.trans (hB2.mono z1)
      have l2 := hA2.lt
      have hm2l := (Array.getElem?_eq_some_iff.1 hm2).1
      have hs0 : (w2.alloc (.cells #[Value.slice (some ⟨bd, 0, none⟩) n n, .map (some bm)] 56)).heap[w2.heap.size]? = some (.cells #[Value.slice (some ⟨bd, 0, none⟩) n n, .map (some bm)] 56 (0, 0)) := heap_alloc_new w2 _
      have hU3 : Upd (fun _ => False) w2 (w2.alloc (.cells #[Value.slice (some ⟨bd, 0, none⟩) n n, .map (some bm)] 56)) := (Upd.refl _ w2).alloc _
      have hz3 : (w2.alloc (.cells #[Value.slice (some ⟨bd, 0, none⟩) n n, .map (some bm)] 56)).heap.size = w2.heap.size + 1 := by simp
      have hA3 := hA2.upd hU3 (fun e => e)
      have hM3 : MapOk zs (w2.alloc (.cells #[Value.slice (some ⟨bd, 0, none⟩) n n, .map (some bm)] 56)) bm 0 := (MapOk.new hm2).upd hU3 (fun e => e)
      have C3 := C2.trans (hU3.toBelow (B := w.heap.size) (fun _ e => e.elim) (by omega))
      by_cases hr0 : r < 0
      · have hd : decide (r < 0) = true := decide_eq_true hr0
        have Hh := Lib.hid (show hasAt zs r = false by unfold hasAt; rw [decide_eq_false (show ¬ 0 ≤ r by omega)]; simp)
        have Ht := Lib.hid (show atR zs r = [] by unfold atR; rw [Hh.out]; rfl)
        go_wp2_with fail
        refine region_T (S := (fun w' => w'.heap[w2.heap.size]? = some (.cells #[Value.slice (some ⟨bd, 0, none⟩) n n, .map (some bm)] 56 (0, 0)))) 9 (by kernel_rfl) ?_
        have hS0 : (fun w' => w'.heap[w2.heap.size]? = some (.cells #[Value.slice (some ⟨bd, 0, none⟩) n n, .map (some bm)] 56 (0, 0))) (w2.alloc (.cells #[Value.slice (some ⟨bd, 0, none⟩) n n, .map (some bm)] 56)).drew := hs0
        refine anyT_take (i := 0) (oi := ?oi0) (v := .int .i64 r) ?hi0 (by kernel_rfl) ?hq0 ?hy0 (by assumption) ?rest0
        case hi0 => (simp only [List.getElem?_toArray, List.getElem?_cons_zero]; first | done | rfl)
        case hq0 => exact fun _ _ _ h => h
        case hy0 => (refine Or.inl ⟨by rfl, ?_⟩; intro wz hSw; go_simp; first | done | with_reducible rfl | simp [hd] | omega)
        try simp only [Act.put, List.setIfInBounds_toArray, List.set_cons_zero, List.set_cons_succ]
        refine anyT_take (i := 1) (oi := ?oi1) (v := .bool true) ?hi1 (by kernel_rfl) ?hq1 ?hy1 (by assumption) ?rest1
        case hi1 => (simp only [List.getElem?_toArray, List.getElem?_cons_succ, List.getElem?_cons_zero]; first | done | rfl)
        case hq1 => exact fun _ _ _ h => h
        case hy1 => (refine Or.inl ⟨by rfl, ?_⟩; intro wz hSw; go_simp; first | done | with_reducible rfl | simp [hd] | omega)
        try simp only [Act.put, List.setIfInBounds_toArray, List.set_cons_zero, List.set_cons_succ]
        refine anyT_take (i := 2) (oi := ?oi2) (v := .bool true) ?hi2 (by kernel_rfl) ?hq2 ?hy2 (by assumption) ?rest2
        case hi2 => (simp only [List.getElem?_toArray, List.getElem?_cons_succ, List.getElem?_cons_zero]; first | done | rfl)
        case hq2 => exact fun _ _ _ h => h
        case hy2 => (refine Or.inl ⟨by rfl, ?_⟩; intro wz hSw; go_simp; first | done | with_reducible rfl | simp [hd] | omega)
        try simp only [Act.put, List.setIfInBounds_toArray, List.set_cons_zero, List.set_cons_succ]
        refine anyT_take (i := 3) (oi := ?oi3) (v := undef) ?hi3 (by kernel_rfl) ?hq3 ?hy3 (by assumption) ?rest3
        case hi3 => (simp only [List.getElem?_toArray, List.getElem?_cons_succ, List.getElem?_cons_zero]; first | done | rfl)
        case hq3 => exact fun _ _ _ h => h
        case hy3 => exact Or.inr ⟨by rfl, rfl⟩
        try simp only [Act.put, List.setIfInBounds_toArray, List.set_cons_zero, List.set_cons_succ]
        refine anyT_take (i := 4) (oi := ?oi4) (v := undef) ?hi4 (by kernel_rfl) ?hq4 ?hy4 (by assumption) ?rest4
        case hi4 => (simp only [List.getElem?_toArray, List.getElem?_cons_succ, List.getElem?_cons_zero]; first | done | rfl)
        case hq4 => exact fun _ _ _ h => h
        case hy4 => exact Or.inr ⟨by rfl, rfl⟩
        try simp only [Act.put, List.setIfInBounds_toArray, List.set_cons_zero, List.set_cons_succ]
        refine anyT_take (i := 5) (oi := ?oi5) (v := undef) ?hi5 (by kernel_rfl) ?hq5 ?hy5 (by assumption) ?rest5
        case hi5 => (simp only [List.getElem?_toArray, List.getElem?_cons_succ, List.getElem?_cons_zero]; first | done | rfl)
        case hq5 => exact fun _ _ _ h => h
        case hy5 => exact Or.inr ⟨by rfl, rfl⟩
        try simp only [Act.put, List.setIfInBounds_toArray, List.set_cons_zero, List.set_cons_succ]
        refine anyT_take (i := 6) (oi := ?oi6) (v := undef) ?hi6 (by kernel_rfl) ?hq6 ?hy6 (by assumption) ?rest6
        case hi6 => (simp only [List.getElem?_toArray, List.getElem?_cons_succ, List.getElem?_cons_zero]; first | done | rfl)
        case hq6 => exact fun _ _ _ h => h
        case hy6 => exact Or.inr ⟨by rfl, rfl⟩
        try simp only [Act.put, List.setIfInBounds_toArray, List.set_cons_zero, List.set_cons_succ]
        refine anyT_take (i := 7) (oi := ?oi7) (v := undef) ?hi7 (by kernel_rfl) ?hq7 ?hy7 (by assumption) ?rest7
        case hi7 => (simp only [List.getElem?_toArray, List.getElem?_cons_succ, List.getElem?_cons_zero]; first | done | rfl)
        case hq7 => exact fun _ _ _ h => h
        case hy7 => exact Or.inr ⟨by rfl, rfl⟩
        try simp only [Act.put, List.setIfInBounds_toArray, List.set_cons_zero, List.set_cons_succ]
        refine anyT_take (i := 8) (oi := ?oi8) (v := undef) ?hi8 (by kernel_rfl) ?hq8 ?hy8 (by assumption) ?rest8
        case hi8 => (simp only [List.getElem?_toArray, List.getElem?_cons_succ, List.getElem?_cons_zero]; first | done | rfl)
        case hq8 => exact fun _ _ _ h => h
        case hy8 => exact Or.inr ⟨by rfl, rfl⟩
        try simp only [Act.put, List.setIfInBounds_toArray, List.set_cons_zero, List.set_cons_succ]
        refine anyT_one (i := 9) (by kernel_rfl) rfl (fun K' hK => ?_)
        go_simp
        refine hK.out _ _ (fun h => absurd rfl h) ?_
        clear hK K'
        try simp only [Act.put, List.setIfInBounds_toArray, List.set_cons_zero, List.set_cons_succ]
        refine anyT_done (by kernel_rfl) ?_ _
        go_wp2_with fail
        go_ret2
        exact ⟨none, 0, 0, by rw [Hh.out]; rfl, by rw [Ht.out]; exact RowV.nil _ _ _ _, below_drewN C3 1⟩
      · have hd : decide (r < 0) = false := decide_eq_false hr0
        obtain ⟨R, rfl⟩ : ∃ R : Nat, r = (R : Int) := ⟨r.toNat, by omega⟩
        have hrec := fun w' hA' hM' => lcount_any zs hvo n hlen.out bd bm hne _ (2 ^ n - 1) 0 w' (Nat.le_refl _) (by omega) hA' hM' (by omega)
        obtain ⟨F, hFF⟩ : ∃ F, cF zs (2 ^ n - 1) = F := ⟨_, rfl⟩
        have HF := Lib.hid hFF
        rw [hFF] at hF
        simp only [hFF] at hrec
        clear hFF
        go_wp2_with fail
        refine region_T (S := (fun w' => w'.heap[w2.heap.size]? = some (.cells #[Value.slice (some ⟨bd, 0, none⟩) n n, .map (some bm)] 56 (0, 0)))) 9 (by kernel_rfl) ?_
        have hS0 : (fun w' => w'.heap[w2.heap.size]? = some (.cells #[Value.slice (some ⟨bd, 0, none⟩) n n, .map (some bm)] 56 (0, 0))) (w2.alloc (.cells #[Value.slice (some ⟨bd, 0, none⟩) n n, .map (some bm)] 56)).drew := hs0
        refine anyT_take (i := 0) (oi := ?oib0) (v := .int .i64 (R : Int)) ?hib0 (by kernel_rfl) ?hqb0 ?hyb0 (by assumption) ?restb0
        case hib0 => (simp only [List.getElem?_toArray, List.getElem?_cons_zero]; first | done | rfl)
        case hqb0 => exact fun _ _ _ h => h
        case hyb0 => (refine Or.inl ⟨by rfl, ?_⟩; intro wz hSw; go_simp; first | done | with_reducible rfl | simp [hd] | omega)
        try simp only [Act.put, List.setIfInBounds_toArray, List.set_cons_zero, List.set_cons_succ]
        refine anyT_take (i := 1) (oi := ?oib1) (v := .bool false) ?hib1 (by kernel_rfl) ?hqb1 ?hyb1 (by assumption) ?restb1
        case hib1 => (simp only [List.getElem?_toArray, List.getElem?_cons_succ, List.getElem?_cons_zero]; first | done | rfl)
        case hqb1 => exact fun _ _ _ h => h
        case hyb1 => (refine Or.inl ⟨by rfl, ?_⟩; intro wz hSw; go_simp; first | done | with_reducible rfl | simp [hd] | omega)
        try simp only [Act.put, List.setIfInBounds_toArray, List.set_cons_zero, List.set_cons_succ]
        refine anyT_take (i := 2) (oi := ?oib2) (v := .bool false) ?hib2 (by kernel_rfl) ?hqb2 ?hyb2 (by assumption) ?restb2
        case hib2 => (simp only [List.getElem?_toArray, List.getElem?_cons_succ, List.getElem?_cons_zero]; first | done | rfl)
        case hqb2 => exact fun _ _ _ h => h
        case hyb2 => (refine Or.inl ⟨by rfl, ?_⟩; intro wz hSw; go_simp; first | done | with_reducible rfl | simp [hd] | omega)
        try simp only [Act.put, List.setIfInBounds_toArray, List.set_cons_zero, List.set_cons_succ]
        refine anyT_take (i := 3) (oi := ?oib3) (v := .int .i64 (R : Int)) ?hib3 (by kernel_rfl) ?hqb3 ?hyb3 (by assumption) ?restb3
        case hib3 => (simp only [List.getElem?_toArray, List.getElem?_cons_succ, List.getElem?_cons_zero]; first | done | rfl)
        case hqb3 => exact fun _ _ _ h => h
        case hyb3 => (refine Or.inl ⟨by rfl, ?_⟩; intro wz hSw; go_simp; first | done | with_reducible rfl | simp [hd] | omega)
        try simp only [Act.put, List.setIfInBounds_toArray, List.set_cons_zero, List.set_cons_succ]
        refine anyT_take (i := 4) (oi := ?oib4) (v := .agg #[Value.slice (some ⟨bd, 0, none⟩) n n, .map (some bm)]) ?hib4 (by kernel_rfl) ?hqb4 ?hyb4 (by assumption) ?restb4
        case hib4 => (simp only [List.getElem?_toArray, List.getElem?_cons_succ, List.getElem?_cons_zero]; first | done | rfl)
        case hqb4 => exact fun _ _ _ h => h
        case hyb4 => exact yieldsIf_load_row (by rfl) _ _ rfl w2.heap.size rfl _ _ _ (fun _ h => h) Try.underlying56 rfl (by kernel_rfl)
        try simp only [Act.put, List.setIfInBounds_toArray, List.set_cons_zero, List.set_cons_succ]
        refine anyT_take (i := 5) (oi := ?oib5) (v := .agg #[Value.slice (some ⟨bd, 0, none⟩) n n, .map (some bm)]) ?hib5 (by kernel_rfl) ?hqb5 ?hyb5 (by assumption) ?restb5
        case hib5 => (simp only [List.getElem?_toArray, List.getElem?_cons_succ, List.getElem?_cons_zero]; first | done | rfl)
        case hqb5 => exact fun _ _ _ h => h
        case hyb5 => exact yieldsIf_load_row (by rfl) _ _ rfl w2.heap.size rfl _ _ _ (fun _ h => h) Try.underlying56 rfl (by kernel_rfl)
        try simp only [Act.put, List.setIfInBounds_toArray, List.set_cons_zero, List.set_cons_succ]
        have hA4 : Arr (w2.alloc (.cells #[Value.slice (some ⟨bd, 0, none⟩) n n, .map (some bm)] 56)).drew bd 43 (du zs) := hA3
        have hM4 : MapOk zs (w2.alloc (.cells #[Value.slice (some ⟨bd, 0, none⟩) n n, .map (some bm)] 56)).drew bm 0 := hM3
        have C4 := below_drewN C3 1
        have hz4 : (w2.alloc (.cells #[Value.slice (some ⟨bd, 0, none⟩) n n, .map (some bm)] 56)).drew.heap.size = w2.heap.size + 1 := hz3
        obtain ⟨W4, hW4⟩ : ∃ W4, (w2.alloc (.cells #[Value.slice (some ⟨bd, 0, none⟩) n n, .map (some bm)] 56)).drew = W4 := ⟨_, rfl⟩
        have C4' : Below w.heap.size w W4 := hW4 ▸ C4
        rw [hW4] at hA4 hM4 hz4 hS0 ⊢
        clear hW4 C4 C3 hA3 hM3 hU3 hz3 hs0
        refine anyT_one (i := 6) (by kernel_rfl) rfl (fun K' hK => ?_)
        go_simp
        refine (lall2_any bd bm n _ hn6).mono ?_
        rintro e w5 ⟨rfl, hB5⟩
        have hS5 : (fun w' => w'.heap[w2.heap.size]? = some (.cells #[Value.slice (some ⟨bd, 0, none⟩) n n, .map (some bm)] 56 (0, 0))) w5 := (hB5.block _ (by omega)).trans hS0
        refine hK.out _ _ (fun _ => hS5) ?_
        clear hK K'
        try simp only [Act.put, List.setIfInBounds_toArray, List.set_cons_zero, List.set_cons_succ]
        rw [Hall.out]
        refine anyT_one (i := 7) (by kernel_rfl) rfl (fun K' hK => ?_)
        go_simp
        refine (hrec w5 (hA4.below hB5 hA4.lt) (hM4.upd (Below.toUpd hB5) (fun e => by have := hM4.lt; omega))).mono ?_
        rintro e w6 ⟨rfl, hM6, hU6⟩
        have z5 := hB5.size
        have hS6 : (fun w' => w'.heap[w2.heap.size]? = some (.cells #[Value.slice (some ⟨bd, 0, none⟩) n n, .map (some bm)] 56 (0, 0))) w6 := (hU6.block _ (by omega) (by omega)).trans hS5
        have hA6 := (hA4.below hB5 hA4.lt).upd hU6 hne
        have C6 := (C4'.trans (hB5.mono C4'.size)).trans (hU6.toBelow (B := w.heap.size) (fun i e => by omega) (by omega))
        refine hK.out _ _ (fun _ => hS6) ?_
        clear hK K' hS0
        have hS0 := hS6
        try simp only [Act.put, List.setIfInBounds_toArray, List.set_cons_zero, List.set_cons_succ]
        by_cases hrF : R < F
        · have hge : decide ((F : Int) ≤ (R : Int)) = false := decide_eq_false (by omega)
          refine anyT_take (i := 8) (oi := ?oi8x) (v := .bool false) ?hi8x (by kernel_rfl) ?hq8x ?hy8x (by assumption) ?rest8x
          case hi8x => (simp only [List.getElem?_toArray, List.getElem?_cons_succ, List.getElem?_cons_zero]; first | done | rfl)
          case hq8x => exact fun _ _ _ h => h
          case hy8x => (refine Or.inl ⟨by rfl, ?_⟩; intro wz hSw; go_simp; first | done | with_reducible rfl | simp [hge] | omega)
          try simp only [Act.put, List.setIfInBounds_toArray, List.set_cons_zero, List.set_cons_succ]
          refine anyT_one (i := 9) (by kernel_rfl) rfl (fun K' hK => ?_)
          go_simp
          refine hK.out _ _ (fun h => absurd rfl h) ?_
          clear hK K'
          try simp only [Act.put, List.setIfInBounds_toArray, List.set_cons_zero, List.set_cons_succ]
          refine anyT_done (by kernel_rfl) ?_ _
          have hRF : R < cF zs (2 ^ zs.length - 1) := by rw [hlen.out, HF.out]; exact hrF
          have Hh := Lib.hid (show hasAt zs (R : Int) = true by unfold hasAt; rw [Hv.out, hlen.out, HF.out, decide_eq_true (show (0 : Int) ≤ (R : Int) by omega), decide_eq_true (show (R : Int) < (F : Int) by omega)]; rfl)
          have Ht := Lib.hid (show atR zs (R : Int) = atL zs R n by unfold atR; rw [Hh.out, if_pos rfl, hlen.out]; rfl)
          go_wp2_with (refine wpList_load_row rfl _ _ rfl w2.heap.size rfl _ _ (0, 0) _ hS6 Try.underlying56 rfl (by kernel_rfl) ?_)
          refine (lat_any zs hvo R n hlen.out hRF bd bm hne w6 hA6 (hM6.mono (by omega))).mono ?_
          rintro e w7 ⟨v, rfl, hO7, hU7⟩
          have z6 := C6.size
          obtain ⟨A7, c7, rfl, hV7⟩ := rowV_of_own hO7.2
          have Hal := Lib.hid (atL_len zs R n)
          rw [Hal.out] at hV7 ⊢
          go_wp2_with fail
          go_ret2
          exact ⟨A7, n, c7, by rw [Hh.out]; rfl, by rw [Ht.out]; exact hV7.more z6 (Nat.le_refl _), C6.trans (hU7.toBelow (B := w.heap.size) (fun i e => by omega) z6)⟩
        · have hge : decide ((F : Int) ≤ (R : Int)) = true := decide_eq_true (by omega)
          refine anyT_take (i := 8) (oi := ?oi8y) (v := .bool true) ?hi8y (by kernel_rfl) ?hq8y ?hy8y (by assumption) ?rest8y
          case hi8y => (simp only [List.getElem?_toArray, List.getElem?_cons_succ, List.getElem?_cons_zero]; first | done | rfl)
          case hq8y => exact fun _ _ _ h => h
          case hy8y => (refine Or.inl ⟨by rfl, ?_⟩; intro wz hSw; go_simp; first | done | with_reducible rfl | simp [hge] | omega)
          try simp only [Act.put, List.setIfInBounds_toArray, List.set_cons_zero, List.set_cons_succ]
          refine anyT_one (i := 9) (by kernel_rfl) rfl (fun K' hK => ?_)
          go_simp
          refine hK.out _ _ (fun h => absurd rfl h) ?_
          clear hK K'
          try simp only [Act.put, List.setIfInBounds_toArray, List.set_cons_zero, List.set_cons_succ]
          refine anyT_done (by kernel_rfl) ?_ _
          have Hh := Lib.hid (show hasAt zs (R : Int) = false by unfold hasAt; rw [Hv.out, hlen.out, HF.out, decide_eq_false (show ¬ (R : Int) < (F : Int) by omega)]; simp)
          have Ht := Lib.hid (show atR zs (R : Int) = [] by unfold atR; rw [Hh.out]; rfl)
          go_wp2_with fail
          go_ret2
          exact ⟨none, 0, 0, by rw [Hh.out]; rfl, by rw [Ht.out]; exact RowV.nil _ _ _ _, C6⟩
    · rw [Hv.out] at hv; cases hv
end Go.Proofs.Ytidggolnhagfdaa

/- The walk of the exact law of LineAt. -/
namespace Go.Proofs.Ytidggolnhagfdaa
open Go.RowKit

theorem atR_len (zs : List Int) (r : Int) : (atR zs r).length ≤ 1048576 := by
  unfold atR
  cases hh : hasAt zs r
  · simp
  · unfold hasAt at hh
    rw [Bool.and_eq_true] at hh
    have hvo : VoP zs := by simpa [vo] using hh.1
    have := hvo.1
    rw [if_pos rfl, atL_len]; omega
theorem bne_self_bool (b : Bool) : (b != b) = false := by cases b <;> rfl

set_option maxHeartbeats 2000000 in
theorem exactLineAt_walk (A : Option Addr) (n c : Nat) (zs : List Int) (r : Int) (w : World) (h : Ints w w.heap.size A n zs) :
    Calls Try.prog 13 #[.slice A n c, .int .i64 r] w fun e w' => e = .returned (.bool true) ∧ Below w.heap.size w w' := by
  by_cases hs : n ≤ 1048576
  · have HR := Lib.hid (atR_len zs r)
    obtain ⟨tb, htb⟩ : ∃ tb, hasAt zs r = tb := ⟨_, rfl⟩
    have htn := bne_self_bool tb
    have Htb := Lib.hid htb
    clear htb
    go_enter Try.func13, Try.ntmps13
    go_wp2_with fail
    refine (toIntS_any A n c zs _ h hs).mono ?_
    rintro e w1 ⟨rfl, hA1, hB1⟩
    have z1 := hB1.size
    go_wp2_with fail
    refine (specLineAtF_any _ _ _ zs r _ (hA1.ints' hA1.lt h.len) (by omega)).mono ?_
    rw [Htb.out]
    rintro e w2 ⟨A2, n2, c2, rfl, r2, hB2⟩
    have z2 := hB2.size
    have C2 := hB1.trans (hB2.mono z1)
    have hn2 : n2 ≤ 1048576 := by rw [← r2.len]; exact HR.out
    go_wp2_with fail
    refine (toIntS_any A n c zs _ (h.to C2 (Nat.le_refl _) (by omega)) hs).mono ?_
    rintro e w3 ⟨rfl, hA3, hB3⟩
    have z3 := hB3.size
    have C3 := C2.trans (hB3.mono (by omega))
    have r3 := r2.below hB3 (Nat.le_refl _)
    have l3 := hA3.lt
    have x3 : Row w3 w2.heap.size w3.heap.size (some ⟨w2.heap.size, 0, none⟩) n zs := Row.of hA3 h.len (Nat.le_refl _) l3
    clear hA3 hA1
    go_wp2_with fail
    refine (LineAt_any _ _ _ zs r _ (x3.ints (Nat.le_refl _)) (by omega)).mono ?_
    rw [Htb.out]
    rintro e w4 ⟨A4, n4, c4, rfl, g4, hB4⟩
    have z4 := hB4.size
    have C4 := C3.trans (hB4.mono (by omega))
    have r4 := r3.below hB4 (by omega)
    have x4 := x3.below hB4 (by omega)
    have hn4 : n4 ≤ 1048576 := by rw [← g4.len]; exact HR.out
    have hrr : decide (atR zs r = atR zs r) = true := by simp
    have hzz : decide (zs = zs) = true := by simp
    go_wp2_with fail
    refine (below_quiet (eqIntS_any _ _ _ _ _ _ w4.heap.size w4.heap.size _ _ _ (g4.ints (Nat.le_refl _)) (r4.ints (by omega)) (by omega) (by omega))).mono ?_
    rintro e w5 ⟨rfl, hB5⟩
    have z5 := hB5.size
    have C5 := C4.trans (hB5.mono (by omega))
    have r5 := r4.below hB5 (by omega)
    have x5 := x4.below hB5 (by omega)
    have g5 := g4.below hB5 (by omega)
    go_wp2_with fail
    refine (toIntS_any A n c zs _ (h.to C5 (Nat.le_refl _) (by omega)) hs).mono ?_
    rintro e w6 ⟨rfl, hA6, hB6⟩
    have z6 := hB6.size
    have C6 := C5.trans (hB6.mono (by omega))
    have r6 := r5.below hB6 (by omega)
    have x6 := x5.below hB6 (by omega)
    have g6 := g5.below hB6 (by omega)
    go_wp2_with fail
    refine (below_quiet (eqIntS_any _ _ _ _ _ _ w6.heap.size w6.heap.size _ _ _ (x6.ints (by omega)) (hA6.ints' hA6.lt h.len) (by omega) (by omega))).mono ?_
    rintro e w7 ⟨rfl, hB7⟩
    have z7 := hB7.size
    have C7 := C6.trans (hB7.mono (by omega))
    have r7 := r6.below hB7 (by omega)
    have x7 := x6.below hB7 (by omega)
    have g7 := g6.below hB7 (by omega)
    clear hA6
    go_wp2_with fail
    refine (markIntS_row _ _ _ _ _ _ _ _ x7 hs (by omega) (by omega)).mono ?_
    rintro e w8 ⟨rfl, x8, hU8⟩
    have z8 := hU8.size
    have hw := h.len
    have C8 : Below w.heap.size w w8 := C7.trans (hU8.toBelow (fun j hj => by omega) (by omega))
    have r8 := r7.upd hU8 (fun j hj => by omega)
    have g8 := g7.upd hU8 (fun j hj => by omega)
    go_wp2_with fail
    refine (below_quiet (eqIntS_any _ _ _ _ _ _ w8.heap.size w8.heap.size _ _ _ (g8.ints (by omega)) (r8.ints (by omega)) (by omega) (by omega))).mono ?_
    rintro e w9 ⟨rfl, hB9⟩
    have z9 := hB9.size
    have C9 := C8.trans (hB9.mono (by omega))
    have r9 := r8.below hB9 (by omega)
    have g9 := g8.below hB9 (by omega)
    clear x8 x7 x6 x5 x4 x3
    go_wp2_with fail
    refine (markIntS_rowV _ _ _ _ _ _ _ _ g9 hn4 (by omega) (by omega)).mono ?_
    rintro e w10 ⟨rfl, g10, hU10⟩
    have z10 := hU10.size
    have C10 : Below w.heap.size w w10 := C9.trans (hU10.toBelow (fun j hj => by omega) (by omega))
    have r10 := r9.upd hU10 (fun j hj => by omega)
    have hne : (1 + (n4 : Int) != 1 + (n4 : Int)) = false := by simp
    go_wp2_with fail
    refine (heldIntS_any _ _ _ w10.heap.size _ _ (g10.ints (by omega)) hn4 (by omega) (by omega)).mono ?_
    rintro e w11 ⟨rfl, rfl⟩
    go_wp2_with fail
    refine (toIntS_any A n c zs _ (h.to C10 (Nat.le_refl _) (by omega)) hs).mono ?_
    rintro e w12 ⟨rfl, hA12, hB12⟩
    have z12 := hB12.size
    have C12 := C10.trans (hB12.mono (by omega))
    have r12 := r10.below hB12 (by omega)
    have g12 := g10.below hB12 (by omega)
    go_wp2_with fail
    refine (LineAt_any _ _ _ zs r _ (hA12.ints' hA12.lt h.len) (by omega)).mono ?_
    rw [Htb.out]
    rintro e w13 ⟨A13, n13, c13, rfl, h13, hB13⟩
    have z13 := hB13.size
    have C13 := C12.trans (hB13.mono (by omega))
    have r13 := r12.below hB13 (by omega)
    have g13 := g12.below hB13 (by omega)
    have hn13 : n13 ≤ 1048576 := by rw [← h13.len]; exact HR.out
    go_wp2_with fail
    refine (below_quiet (eqIntS_any _ _ _ _ _ _ w13.heap.size w13.heap.size _ _ _ (h13.ints (Nat.le_refl _)) (r13.ints (by omega)) (by omega) (by omega))).mono ?_
    rintro e w14 ⟨rfl, hB14⟩
    have z14 := hB14.size
    have C14 := C13.trans (hB14.mono (by omega))
    have g14 := g13.below hB14 (by omega)
    go_wp2_with fail
    refine (heldIntS_any _ _ _ w14.heap.size _ _ (g14.ints (by omega)) hn4 (by omega) (by omega)).mono ?_
    rintro e w15 ⟨rfl, rfl⟩
    go_wp2_with fail
    go_ret
    exact ⟨rfl, C14⟩
  · go_enter Try.func13, Try.ntmps13
    go_wp2
    go_ret
    exact ⟨rfl, Below.refl _ _⟩

end Go.Proofs.Ytidggolnhagfdaa

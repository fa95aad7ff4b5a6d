/- PartOf: the model's and the program's. -/
import Derived.Test.YtogiooecjfnkcaaGc
import Derived.Test.YtogiooecjfnkcaaGa
import Derived.Test.YtogiooecjfnkcaaRestS
namespace Go.Proofs.Ytogiooecjfnkcaa
open Go.RowKit Go.Shelf
attribute [local go_sem] Oper.semAt_some
attribute [local go_sem, local simp] wide_fn

theorem plN_le {s a : Nat} (hs : s < 64) (ha : a ≤ 6) : plN s a ≤ 6 := by
  rw [plN_is hs ha]
  unfold leftL
  have := List.length_filter_le (fun j => s.testBit j) (List.range a)
  rw [List.length_range] at this
  omega
theorem place_any (s a : Nat) (w : World) (h1 : s < 64) (ha : a ≤ 6) :
    Calls Try.prog 62 #[.int .i64 (s : Int), .int .i64 (a : Int)] w fun e w' => e = .returned (.int .i64 (plN s a : Int)) ∧ w = w' := by
  have hp := powI_le6 (n := (a : Int)) (by omega)
  have hq := powI_pos (a : Int)
  have e1 : wrap64 (2 ^ a) = powI a := by
    have : (2 : Int) ^ a = powI a := by simp [powI]
    rw [this]
    exact IntWalk.wrap64_in _ ⟨by omega, by omega⟩
  have hand : bits .and .i64 (s : Int) (powI a - 1) = andI (s : Int) (powI a - 1) := bits_and (by omega) (by omega) (by omega) (by omega)
  have hb := andI_bd (s : Int) (powI a - 1)
  have hpb := popI_bd (s := andI (s : Int) (powI a - 1)) (by omega) (by omega)
  have Hp := Lib.hid (show (plN s a : Int) = popI (andI (s : Int) (powI a - 1)) by unfold plN; omega)
  go_enter Try.func62, Try.ntmps62
  go_wp2_with (go_at_call 52; refine (size_any _ _ (by omega) (by omega)).mono ?_; rintro e w' ⟨rfl, rfl⟩)
  go_ret
  exact ⟨ret_int Hp.out.symm, rfl⟩
theorem left_items {n s : Nat} (hn : n ≤ 6) (hs : s < 2 ^ n) : itemsL (s : Int) = leftL n s := by
  rw [← itemsTo_all (n := n) (by unfold powI; simp; exact_mod_cast hs) hn]
  unfold itemsTo leftL
  exact List.filter_congr fun j _ => bit_cast s j

set_option maxRecDepth 100000 in
set_option maxHeartbeats 4000000 in
theorem spart_any (A : Option Addr) (n c : Nat) (zs : List Int) (hvo : VoP zs) (s : Nat) (w0 : World) (h : Ints w0 w0.heap.size A n zs) (hs : s < 2 ^ n) :
    Calls Try.prog 36 #[.slice A n c, .int .i64 (s : Int)] w0 (GivesRowC w0 (ind zs (leftL n s))) := by
  obtain ⟨i0, hi0, hz0, hz1, hz2⟩ := info_parts infoInt
  have hlen := Lib.hid h.len
  have hn6 : n ≤ 6 := by have := hvo.1; rw [hlen.out] at this; exact this
  have hp64 := pow_le64 hn6
  have HL := Lib.hid (left_items hn6 hs)
  have Hinc := Lib.hid (leftL_inc zs s)
  rw [hlen.out] at Hinc
  have Hil := Lib.hid (ind_len zs (leftL n s))
  go_enter Try.func36, Try.ntmps36
  go_wp2_with fail
  refine (listOf_any (s : Int) _ (by omega) (by omega)).mono ?_
  rintro e w2 ⟨A', c', rfl, hI, hB0, -⟩
  rw [HL.out] at hI ⊢
  have hA := h.to hB0 (Nat.le_refl _) hB0.size
  obtain ⟨m, hm⟩ : ∃ m, (leftL n s).length = m := ⟨_, rfl⟩
  rw [hm] at hI ⊢
  have Hm := Lib.hid hm
  clear hm
  have hml : m ≤ n := by have h1 := Hinc.out.len_le; have h2 := hlen.out; have h3 := Hm.out; omega
  have Hlt := Lib.hid (show ∀ i, i < m → (leftL n s)[i]?.getD 0 < n from fun i hi => by have h1 := Hinc.out.at_lt (i := i) (by rw [Hm.out]; exact hi); have h2 := hlen.out; omega)
  have Hget := Lib.hid (show ∀ i, i < m → (asI (leftL n s))[i]?.getD 0 = (((leftL n s)[i]?.getD 0 : Nat) : Int) from fun i hi => asI_get (by rw [Hm.out]; exact hi))
  have Hind := Lib.hid (show ∀ i, i < m → (ind zs (leftL n s))[i]?.getD 0 = rowTo (zs[(leftL n s)[i]?.getD 0]?.getD 0) (leftL n s) m from fun i hi => ind_row Hm.out hi)
  have hI : Ints w2 w2.heap.size A' m (asI (leftL n s)) := hI
  generalize hl : leftL n s = l at *
  have Hl := Lib.hid hl
  clear hl
  go_wp2_with fail
  have h1 := own_new w2 3
  have hU1 : Upd (fun _ => False) w2 (w2.alloc (.cells #[] 3)) := (Upd.refl _ w2).alloc _
  obtain ⟨W1, hW1⟩ : ∃ W1, w2.alloc (.cells #[] 3) = W1 := ⟨_, rfl⟩
  rw [hW1] at h1 hU1 ⊢
  clear hW1
  go_loopw [6, 7] (fun v i wr => ∃ k : Nat, k ≤ m ∧ i = .int .i64 k ∧ OwnS (fun k => w2.heap.size ≤ k) wr w2.heap.size 3 v ((ind zs l).take k) ∧ Upd (fun _ => False) w2 wr) (fun _ i _ => m - (intOf i).toNat)
  case atStart => exact ⟨0, by omega, rfl, ⟨fun k hk => by simp [Value.ownBlock] at hk; omega, by simpa using h1⟩, hU1⟩
  case round =>
    clear hU1 h1
    obtain ⟨i, hi, rfl, hO, hU⟩ := hrel
    rename World => w3
    have zx := hU.size
    have hBx : Below w2.heap.size w2 w3 := hU.toBelow (fun _ e => e.elim) (Nat.le_refl _)
    have hAx := hA.to hBx (Nat.le_refl _) zx
    have hIx := hI.to hBx (Nat.le_refl _) zx
    by_cases hlt2 : i < m
    · have hli := Hlt.out i hlt2
      have hgi := Hget.out i hlt2
      have Hrow := Lib.hid (Hind.out i hlt2)
      generalize hx : l[i]?.getD 0 = x at *
      have Hx := Lib.hid hx
      clear hx
      have hz := hvo.bd x (by rw [hlen.out]; exact hli)
      have Htk := Lib.hid (take_snocI (ind zs l) (k := i) (by rw [Hil.out, Hm.out]; exact hlt2))
      go_wp2
      go_loopw [8, 9] (fun t i wr => ∃ j q : Nat, j ≤ m ∧ i = .int .i64 j ∧ t = .int .i64 (rowTo (zs[x]?.getD 0) l j) ∧ wr = w3.drewN q) (fun _ i _ => m - (intOf i).toNat)
      case atStart => exact ⟨0, 0, by omega, rfl, rfl, rfl⟩
      case round =>
        obtain ⟨j, q, hj, rfl, rfl, rfl⟩ := hrel
        have hrb := rowTo_bd (zs[x]?.getD 0) l j
        by_cases hlt3 : j < m
        · have hlj := Hlt.out j hlt3
          have hgj := Hget.out j hlt3
          have Hrs := Lib.hid (show rowTo (zs[x]?.getD 0) l (j + 1) = orI (rowTo (zs[x]?.getD 0) l j) (bitI (zs[x]?.getD 0) ((l[j]?.getD 0 : Nat) : Int) * powI j) from rfl)
          generalize hy : l[j]?.getD 0 = y at *
          have Hy := Lib.hid hy
          clear hy
          obtain ⟨bl, ol, rfl, -, hcl⟩ := hIx.at_ hlt2
          have hci := hcl i hlt2
          have hcj := hcl j hlt3
          rw [hgi] at hci
          rw [hgj] at hcj
          obtain ⟨bz, oz, rfl, -, hcz⟩ := hAx.at_ hli
          have hcx := hcz x hli
          clear hcl hcz hgi hgj
          have hb01 := bitI_01 (zs[x]?.getD 0) y
          have hpj := powI_le6 (n := (j : Int)) (by omega)
          have hpp := powI_pos (j : Int)
          have hp6 := powI_le6 (n := (m : Int)) (by omega)
          have hmb : 0 ≤ bitI (zs[x]?.getD 0) y * powI j ∧ bitI (zs[x]?.getD 0) y * powI j ≤ 64 := by
            rw [bitI_mul]; split <;> omega
          have hacc64 : rowTo (zs[x]?.getD 0) l j < 64 := by omega
          have hor : bits .or .i64 (rowTo (zs[x]?.getD 0) l j) (bitI (zs[x]?.getD 0) y * powI j) = orI (rowTo (zs[x]?.getD 0) l j) (bitI (zs[x]?.getD 0) y * powI j) := bits_or (by omega) (by omega) (by omega) (by omega)
          have hw : IntKind.i64.wrap (bitI (zs[x]?.getD 0) y * powI j) = bitI (zs[x]?.getD 0) y * powI j := by rw [IntKind.wrap_i64]; omega
          generalize rowTo (zs[x]?.getD 0) l j = acc at *
          have hbit := fun w => bit_any (zs[x]?.getD 0) y w (by omega) (by omega) (by omega) (by omega)
          have hpow := fun w => power_any (j : Int) w (by omega) (by omega)
          generalize bitI (zs[x]?.getD 0) y = bt at *
          generalize powI (j : Int) = pw at *
          generalize zs[x]?.getD 0 = z at *
          go_wp2
          go_quiet ((first | (go_at_call 54; exact quiet_add_left (hbit _)) | (go_at_call 41; exact quiet_add_left (hpow _))))
          go_wp2
          go_roundw
          case rel => exact ⟨j + 1, _, by omega, by go_num, by rw [Hrs.out], rfl⟩
          case measure => simp [intOf]; omega
        · obtain rfl : j = m := by omega
          have hO' : OwnS (fun k => w2.heap.size ≤ k) (w3.drewN q) w2.heap.size 3 _ ((ind zs l).take i) := hO
          have hU' : Upd (fun _ => False) w2 (w3.drewN q) := hU.drewN q
          have Hln := Lib.hid (show ((ind zs l).take i).length = i by rw [List.length_take, Hil.out, Hm.out]; omega)
          have zx' : w2.heap.size ≤ (w3.drewN q).heap.size := zx
          have Hrow2 := Lib.hid (show (ind zs l)[i]?.getD 0 = rowTo (zs[x]?.getD 0) l j from Hrow.out)
          generalize rowTo (zs[x]?.getD 0) l j = row at *
          generalize w3.drewN q = w4 at *
          go_wp2_with (at_builtin; refine wpList_append1 _ rfl (.tmp 42) (.tmp 44) _ rfl w2.heap.size 3 i0 _ 8 Try.underlying22 hi0 hz0 hz1 hz2 rfl _ ((ind zs l).take i).length _ rfl (hO'.2.alloc _) w4.heap.size 1 (.int .i64 row) rfl (cell_new _ _ _) rfl (by rw [Hln.out]; omega) (by rw [Hln.out]; omega) (by simp; omega) ?_; rintro v' w' hown' hg' hv')
          have zg := hg'.size
          simp at zg
          go_roundw
          case rel => exact ⟨i + 1, by omega, by go_num, by rw [Htk.out, Hrow2.out]; exact hO'.step hown' hv' (fun k e => e) (fun _ => by omega), (hU'.alloc _).grown hg' (fun k hk => .inl (hO'.1 k hk))⟩
          case measure => simp [intOf]; omega
    · obtain rfl : i = m := by omega
      have hO' := hO
      rw [List.take_of_length_le (by rw [Hil.out, Hm.out]; exact Nat.le_refl _)] at hO'
      obtain ⟨A2, c2, hv2, hR2⟩ := rowC_of_own hO'.2
      subst hv2
      go_wp2_with fail
      go_ret
      exact ⟨A2, _, c2, rfl, hR2.more hB0.size (Nat.le_refl _), hB0.trans (hBx.mono hB0.size)⟩

theorem specPartOfF_any (A : Option Addr) (n c : Nat) (zs : List Int) (s : Int) (w : World) (h : Ints w w.heap.size A n zs) (hbig : n ≤ 1152921504606846976) :
    Calls Try.prog 13 #[.slice A n c, .int .i64 s] w (GivesRowC w (partR zs s)) := by
  have hlen := Lib.hid h.len
  cases hq : (vo zs && inB s 0 (powI n - 1))
  · have Ht := Lib.hid (show partR zs s = [] by unfold partR; rw [hlen.out, hq]; rfl)
    go_enter Try.func13, Try.ntmps13
    go_wp2_with (go_at_call 35; refine (validSet_any _ _ _ _ zs s _ h hbig).mono ?_; rintro e w' ⟨rfl, m, rfl⟩)
    go_ret
    exact ⟨none, 0, 0, rfl, by rw [Ht.out]; exact RowC.nil _ _ _ _, below_drewN (Below.refl _ _) _⟩
  · have hv : VoP zs := by simp [vo] at hq; exact hq.1
    have hs : 0 ≤ s ∧ s < powI n := by simp [inB] at hq; omega
    have Ht := Lib.hid (show partR zs s = ind zs (leftL n s.toNat) by unfold partR; rw [hlen.out, hq, if_pos rfl])
    have Hq := Lib.hid hq
    clear hq
    obtain ⟨s, rfl⟩ := Int.eq_ofNat_of_zero_le hs.1
    rw [Int.toNat_natCast] at Ht
    have hs2 : s < 2 ^ n := by have := hs.2; unfold powI at this; simp at this; exact_mod_cast this
    go_enter Try.func13, Try.ntmps13
    go_wp2_with fail
    refine (validSet_any _ _ _ _ zs _ _ h hbig).mono ?_
    rw [Hq.out]
    rintro e w1 ⟨rfl, m, hm⟩
    have hB : Below w.heap.size w w1 := by rw [hm]; exact below_drewN (Below.refl _ _) _
    have hI := h.below hB
    have hz1 := hB.size
    clear hm
    go_wp2_with fail
    refine (spart_any _ _ _ zs hv s _ (hI.more (by omega)) hs2).mono ?_
    rintro e w2 ⟨A2, n2, c2, rfl, r2, hB2⟩
    go_wp2_with fail
    go_ret
    exact ⟨A2, n2, c2, rfl, by rw [Ht.out]; exact r2.more hz1 (Nat.le_refl _), hB.trans (hB2.mono hz1)⟩

set_option maxRecDepth 100000 in
set_option maxHeartbeats 8000000 in
theorem opart_any (A : Option Addr) (n c : Nat) (zs : List Int) (hvo : VoP zs) (s : Nat) (w : World) (hA : Ints w w.heap.size A n zs) (hs : s < 2 ^ n) :
    Calls Try.prog 39 #[.slice A n c, .int .i64 (s : Int)] w fun e W' => e = .returned (.slice (some ⟨w.heap.size + 1, 0, none⟩) (leftL n s).length (leftL n s).length) ∧ Arr W' (w.heap.size + 1) 43 (ind zs (leftL n s)) ∧ Below w.heap.size w W' := by
  have hlen := Lib.hid hA.len
  have hv := hvo.sets
  have hn6 : n ≤ 6 := by have := hv.1; rw [hlen.out] at this; exact this
  have hp64 := pow_le64 hn6
  have Hpi := Lib.hid (part_is hvo (s := s) (by rw [hlen.out]; exact hs))
  rw [hlen.out] at Hpi
  have Hpa := Lib.hid (show ∀ a, a < n → s.testBit a = true → plN s a < (leftL n s).length from fun a ha hb => (pl_at (by omega) hn6 ha hb).1)
  have hp := left_pop hn6 hs
  have hml := (leftL_inc zs s).len_le
  rw [hlen.out] at hml
  rw [← Hpi.out]
  generalize (leftL n s).length = m at *
  have hsz : ∀ w, Calls Try.prog 52 #[.int .i64 (s : Int)] w fun e w' => e = .returned (.int .i64 (m : Int)) ∧ w = w' := fun w => by
    rw [← hp]; exact size_any _ _ (by omega) (by omega)
  clear hp
  have hmk := run_make_row' (P := Try.prog) 40 43 (.int .i64 0) 8 Try.underlying40 infoItems rfl .i64 .i64 m (by omega) (by omega)
  refine (callsIn_wide (n := 9)).1 ?_
  refine callsIn_of_wp_marks Try.func39 rfl trivial ?_ rfl
  simp only [Try.ntmps39, List.size_toArray, List.length_cons, List.length_nil, Nat.reduceAdd, Nat.reduceSub, Array.replicate_succ, Array.replicate_zero, List.push_toArray, List.append_toArray, List.nil_append, List.cons_append]
  gi_wp2_with (first
    | (gi_at_call 52; refine (callsIn_wide.2 (hsz _)).mono ?_; rintro e w' ⟨rfl, rfl⟩)
    | (gi_at_call 47; refine (callsIn_wide.2 (pairs_any _ _ _ _)).mono ?_; rintro e w' ⟨rfl, rfl⟩))
  have bS := (((Boxed.new w 43 (.int .i64 (s : Int))).alloc (.cells (madeCells #[Value.int .i64 0] m) 43)).alloc (.cells #[Value.slice (some ⟨w.heap.size + 1, 0, none⟩) m m] 40)).alloc (.cells #[Value.slice A n c] 40)
  have aD := ((Arr.new (w.alloc (.cells #[Value.int .i64 (s : Int)] 43)) 43 m).alloc (.cells #[Value.slice (some ⟨w.heap.size + 1, 0, none⟩) m m] 40)).alloc (.cells #[Value.slice A n c] 40)
  have bD := (Boxed.new ((w.alloc (.cells #[Value.int .i64 (s : Int)] 43)).alloc (.cells (madeCells #[Value.int .i64 0] m) 43)) 40 (.slice (some ⟨w.heap.size + 1, 0, none⟩) m m)).alloc (.cells #[Value.slice A n c] 40)
  have bP := Boxed.new (((w.alloc (.cells #[Value.int .i64 (s : Int)] 43)).alloc (.cells (madeCells #[Value.int .i64 0] m) 43)).alloc (.cells #[Value.slice (some ⟨w.heap.size + 1, 0, none⟩) m m] 40)) 40 (.slice A n c)
  have hu0 : Upd (fun _ => False) w ((((w.alloc (.cells #[Value.int .i64 (s : Int)] 43)).alloc (.cells (madeCells #[Value.int .i64 0] m) 43)).alloc (.cells #[Value.slice (some ⟨w.heap.size + 1, 0, none⟩) m m] 40)).alloc (.cells #[Value.slice A n c] 40)) := ((((Upd.refl _ w).alloc _).alloc _).alloc _).alloc _
  have hz0 : ((((w.alloc (.cells #[Value.int .i64 (s : Int)] 43)).alloc (.cells (madeCells #[Value.int .i64 0] m) 43)).alloc (.cells #[Value.slice (some ⟨w.heap.size + 1, 0, none⟩) m m] 40)).alloc (.cells #[Value.slice A n c] 40)).heap.size = w.heap.size + 4 := by simp
  simp only [World.size_alloc] at aD bD bP
  clear hmk
  obtain ⟨W0, hW0⟩ : ∃ W0, ((((w.alloc (.cells #[Value.int .i64 (s : Int)] 43)).alloc (.cells (madeCells #[Value.int .i64 0] m) 43)).alloc (.cells #[Value.slice (some ⟨w.heap.size + 1, 0, none⟩) m m] 40)).alloc (.cells #[Value.slice A n c] 40)) = W0 := ⟨_, rfl⟩
  rw [hW0] at bS aD bD bP hu0 hz0 ⊢
  clear hW0
  have hA0 : Ints W0 w.heap.size A n zs := hA.below (hu0.toBelow (fun _ e => e.elim) (Nat.le_refl _))
  refine range_out (n := 9) (gf := 67) (lb := #[.pointer (some ⟨w.heap.size + 1 + 1 + 1, 0, none⟩)]) rfl (enters_of Try.func67 (by kernel_rfl) rfl) (encs := encP) (L := pairsL zs)
    (fun k => k = w.heap.size + 1) (fun k e => by omega) (fun _ => rfl)
    (fun W1 l1 hu1 hl1 hl2 => pairs_iter_at hv bP (fun k e => by omega) (by omega) hA0 (by omega) (fun k e => by omega) hu1 hl1 hl2)
    (fun pre D W => Arr W (w.heap.size + 1) 43 (downP m (ptP s pre)) ∧ Upd (fun k => k = w.heap.size + 1) W0 W)
    (fun _ _ _ _ => False)
    (fun _ D X Y hs hu => ⟨hs.1.upd hu (fun e => by omega), hs.2.trans' hu (fun i hi e => by omega)⟩)
    (fun _ _ _ _ _ hs _ => hs)
    ⟨aD, Upd.refl _ _⟩ ?owes ?done ?stop
  case owes =>
    rintro l1 pre ⟨lo, hi⟩ D1 W hl1 hl2 hDl hD1 - hpre K hK
    gi_wp2
    refine hK _ _ (Upd.refl _ _) ?_
    rintro Wb hWb - ⟨aD1, hU⟩
    clear hK
    obtain ⟨hlo, hhi, hbit⟩ := hv.pair (a := lo) (b := hi) (hpre.subset (by simp))
    rw [hlen.out] at hlo hhi
    have hcS := (hU.boxed bS (by omega)).cell
    have hcD := (hU.boxed bD (by omega)).cell
    have hsb := hU.size
    have hszb := hWb.size
    clear hbit
    have hla := fun w => has_any (s : Int) (lo : Int) w (by omega) (by omega) (by omega) (by omega)
    have hhb := fun w => has_any (s : Int) (hi : Int) w (by omega) (by omega) (by omega) (by omega)
    by_cases hlb : bitB (s : Int) (lo : Int) = true
    · rw [hlb] at hla
      by_cases hhb2 : bitB (s : Int) (hi : Int) = true
      · rw [hhb2] at hhb
        have hpl := plN_le (s := s) (a := lo) (by omega) (by omega)
        have hph := plN_le (s := s) (a := hi) (by omega) (by omega)
        have hqi := Hpa.out lo hlo (by rw [← bit_cast]; exact hlb)
        have hqj := Hpa.out hi hhi (by rw [← bit_cast]; exact hhb2)
        have Hs := Lib.hid (show downP m (ptP s (pre ++ [(lo, hi)])) = (downP m (ptP s pre)).set (plN s lo) (orI ((downP m (ptP s pre))[plN s lo]?.getD 0) (powI (plN s hi))) by rw [ptP_yes hlb hhb2, downP_snoc])
        have hpa := fun w => place_any s lo w (by omega) (by omega)
        have hpb := fun w => place_any s hi w (by omega) (by omega)
        generalize plN s lo = pi at *
        generalize plN s hi = pj at *
        have hlb' : pi < (downP m (ptP s pre)).length := by rw [downP_len]; exact hqi
        have hcs := aD1.cell hlb'
        have hfs := aD1.frozen pi
        have hbd := downP_bd (n := m) (m := m) (ps := ptP s pre) (fun p hp => by
          unfold ptP at hp
          rw [List.mem_map] at hp
          obtain ⟨⟨x, y⟩, hxy, rfl⟩ := hp
          rw [List.mem_filter] at hxy
          have hm := hv.pair (a := x) (b := y) (hpre.subset (by simp [hxy.1]))
          rw [hlen.out] at hm
          have h2 := hxy.2
          unfold ptB at h2
          rw [Bool.and_eq_true, bit_cast, bit_cast] at h2
          exact Hpa.out y hm.2.1 h2.2) pi
        have hpn := powI_le6 (n := (m : Int)) (by omega)
        clear hlb'
        generalize hD : downP m (ptP s pre) = D at *
        have HD := Lib.hid hD
        clear hD
        gi_wp2_with (first
          | (gi_at_call 61; refine (CallsIn.inRound l1 (callsIn_wide.2 (hla _))).mono ?_; rintro e w' ⟨rfl, rfl⟩)
          | (gi_at_call 61; refine (CallsIn.inRound l1 (callsIn_wide.2 (hhb _))).mono ?_; rintro e w' ⟨rfl, rfl⟩)
          | (gi_at_call 62; refine (CallsIn.inRound l1 (callsIn_wide.2 (hpa _))).mono ?_; rintro e w' ⟨rfl, rfl⟩))
        refine region_tail_round 11 (by kernel_rfl) (by kernel_rfl) (by kernel_rfl) ?_
        simp only [List.take_succ_cons, List.take_zero, List.drop_succ_cons, List.drop_zero]
        repeat (gi_big_quiet_step ((first
          | (gi_at_call 62; exact quietIn_add (hpb _))
          | (gi_at_call 62; exact quietIn_left (hpb _))
          | (gi_at_call 59; exact quietIn_add (with_any _ _ _ (by omega) (by omega) (by omega) (by omega)))
          | (gi_at_call 59; exact quietIn_left (with_any _ _ _ (by omega) (by omega) (by omega) (by omega))))))
        refine wpQuietIn_nil ?_
        intro _ hw'
        obtain ⟨nq, hw''⟩ := hw'
        subst hw''
        gi_wp2
        exact ⟨D1, ⟨by rw [Hs.out]; exact (aD1.drewN nq).set _ _, (hU.drewN _).setCell (p := ⟨w.heap.size + 1, pi, none⟩) (.inr rfl) _⟩, ((Upd.refl _ _).drewN _).setCell (p := ⟨w.heap.size + 1, pi, none⟩) (.inr (.inl rfl)) _, fun k hk => .inl hk⟩
      · have hhb3 : bitB (s : Int) (hi : Int) = false := by simpa using hhb2
        rw [hhb3] at hhb
        have Hs := Lib.hid (ptP_no (ps := pre) (a := lo) (b := hi) (.inr hhb3))
        gi_wp2_with (first
          | (gi_at_call 61; refine (CallsIn.inRound l1 (callsIn_wide.2 (hla _))).mono ?_; rintro e w' ⟨rfl, rfl⟩)
          | (gi_at_call 61; refine (CallsIn.inRound l1 (callsIn_wide.2 (hhb _))).mono ?_; rintro e w' ⟨rfl, rfl⟩))
        exact ⟨D1, ⟨by rw [Hs.out]; exact aD1, hU⟩, Upd.refl _ _, fun k hk => .inl hk⟩
    · have hlb3 : bitB (s : Int) (lo : Int) = false := by simpa using hlb
      rw [hlb3] at hla
      have Hs := Lib.hid (ptP_no (ps := pre) (a := lo) (b := hi) (.inl hlb3))
      gi_wp2_with (gi_at_call 61; refine (CallsIn.inRound l1 (callsIn_wide.2 (hla _))).mono ?_; rintro e w' ⟨rfl, rfl⟩)
      exact ⟨D1, ⟨by rw [Hs.out]; exact aD1, hU⟩, Upd.refl _ _, fun k hk => .inl hk⟩
  case done =>
    rintro d D1 W hd ⟨aD1, hU⟩ hD1 hKd
    have hcD := (hU.boxed bD (by omega)).cell
    gi_wp2
    refine leaves_marks [d] _ ⟨by simp, fun b hb => ?_⟩ (fun W' hu' => ?_)
    · rw [List.mem_singleton.1 hb]
      exact hKd
    · exact ⟨.slice (some ⟨w.heap.size + 1, 0, none⟩) m m, by simp [results, Try.f39, go_sem], rfl, aD1.upd hu' (by simp; omega),
        (((hu0.mono fun _ _ e => e.elim).trans' hU (fun i hi e => by omega)).trans' hu' (fun i hi e => by simp at e; omega)).toBelow (R := fun _ => False) (fun _ e => e.elim) (Nat.le_refl _)⟩
  case stop =>
    rintro d D1 co pre W hd hpre h
    exact h.elim
end Go.Proofs.Ytogiooecjfnkcaa

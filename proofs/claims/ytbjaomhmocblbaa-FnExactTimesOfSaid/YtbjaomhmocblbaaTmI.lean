/- Pairs of items of two orders: the program's. -/
import Derived.Test.YtbjaomhmocblbaaTmN
import Derived.Test.YtbjaomhmocblbaaGb
namespace Go.Proofs.Ytbjaomhmocblbaa
open Go.RowKit Go.Shelf
attribute [local go_sem] Oper.semAt_some
attribute [local go_sem, local simp] wide_fn

theorem own_ne {w : World} {base n : Nat} {e : TypeId} {v : Value} {xs : List Value} (h : w.ownsRow base e 1 v n xs) {j : Nat} (hj : w.heap[j]? = some (.deferred (some []))) : some j ≠ v.ownBlock := by
  rcases h.2 with ⟨rfl, _⟩ | ⟨g, cap, cur, rfl, _, hc, _⟩
  · simp [Value.ownBlock]
  · intro e
    simp [Value.ownBlock] at e
    subst e
    rw [hc] at hj
    cases hj

set_option maxRecDepth 100000 in
set_option maxHeartbeats 8000000 in
theorem times_any (b n c : Nat) (zs : List Int) (b' m c' : Nat) (ys : List Int) (w : World) (hA : Arr w b 54 zs) (hA' : Arr w b' 54 ys) (hlen0 : zs.length = n) (hlen0' : ys.length = m) (hvo : VoP zs) (hvy : VoP ys) (hnm : n * m ≤ 6) :
    Calls Try.prog 32 #[.slice (some ⟨b, 0, none⟩) n c, .slice (some ⟨b', 0, none⟩) m c'] w fun e w' => ∃ v, e = .returned v ∧ OwnS (fun k => w.heap.size ≤ k) w' w.heap.size 54 v (tmL zs ys) ∧ Below w.heap.size w w' := by
  obtain ⟨i0, hi0, hz0, hz1, hz2⟩ := info_parts infoItems
  have hn6 : n ≤ 6 := by have := hvo.1; rw [hlen0] at this; exact this
  have hm6 : m ≤ 6 := by have := hvy.1; rw [hlen0'] at this; exact this
  have hlen := Lib.hid hlen0
  have hlen' := Lib.hid hlen0'
  have Htl := Lib.hid (tmL_len zs ys)
  rw [hlen0, hlen0'] at Htl
  have Hsn := Lib.hid (fun i hi => tmL_snoc zs ys hlen0 hlen0' (i := i) hi)
  have Hdone := Lib.hid (fun a bb => acc_done (a := a) (b := bb) hlen0 hlen0' hnm)
  have hbl := hA.lt
  have hbl' := hA'.lt
  clear hlen0 hlen0'
  refine (callsIn_wide (n := 9)).1 ?_
  refine callsIn_of_wp_marks Try.func32 rfl trivial ?_ rfl
  simp only [Try.ntmps32, List.size_toArray, List.length_cons, List.length_nil, Nat.reduceAdd, Nat.reduceSub, Array.replicate_succ, Array.replicate_zero, List.push_toArray, List.append_toArray, List.nil_append, List.cons_append]
  gi_wp2
  have bO := Boxed.new w 36 (.slice (some ⟨b', 0, none⟩) m c')
  have hu0 : Upd (fun _ => False) w (w.alloc (.cells #[Value.slice (some ⟨b', 0, none⟩) m c'] 36)) := (Upd.refl _ w).alloc _
  have hz00 : w.heap.size < (w.alloc (.cells #[Value.slice (some ⟨b', 0, none⟩) m c'] 36)).heap.size := by simp
  obtain ⟨W0, hW0⟩ : ∃ W0, w.alloc (.cells #[Value.slice (some ⟨b', 0, none⟩) m c'] 36) = W0 := ⟨_, rfl⟩
  rw [hW0] at bO hu0 hz00 ⊢
  clear hW0
  refine wpIn_loop (fun a' wr => ∃ (a : Nat) (bs : List Nat) (V v6 v7 v8 v9 v12 v13 v14 v15 v16 v17 v18 v19 v20 v21 v22 v23 v24 v25 v26 v27 v28 v29 v30 v31 v32 v33 v34 v35 v36 v37 v38 v39 v40 v41 v42 v43 v44 v45 v46 v47 v48 v49 : Value),
      (a ≤ n ∧ v12 = .int .i64 (a : Int) ∧ OwnS (fun k => w.heap.size < k) wr w.heap.size 54 V ((tmL zs ys).take (a * m)) ∧ Upd (fun _ => False) w wr ∧ Boxed wr w.heap.size 36 (.slice (some ⟨b', 0, none⟩) m c') ∧ Open bs wr ∧ (∀ j ∈ bs, w.heap.size < j)) ∧
      a' = { tmps := #[.slice (some ⟨b, 0, none⟩) n c, .slice (some ⟨b', 0, none⟩) m c', undef, .pointer (some ⟨w.heap.size, 0, none⟩), .slice none 0 0, V, v6, v7, v8, v9, .slice (some ⟨b, 0, none⟩) n c, .int .i64 (n : Int), v12, v13, v14, v15, v16, v17, v18, v19, v20, v21, v22, v23, v24, v25, v26, v27, v28, v29, v30, v31, v32, v33, v34, v35, v36, v37, v38, v39, v40, v41, v42, v43, v44, v45, v46, v47, v48, v49, undef], defers := marks bs })
    (fun a' _ => n - (intOf (a'.tmps.getD 12 undef)).toNat) ?_ ?_
  · exact ⟨0, [], _, _, _, _, _, _, _, _, _, _, _, _, _, _, _, _, _, _, _, _, _, _, _, _, _, _, _, _, _, _, _, _, _, _, _, _, _, _, _, _, _, _, _, ⟨by omega, rfl, by rw [Nat.zero_mul, List.take_zero]; exact OwnS.none _ _ _ _, hu0, bO, ⟨List.nodup_nil, fun _ e => by cases e⟩, fun _ e => by cases e⟩, rfl⟩
  · rintro a' wr ⟨a, bs, V, v6, v7, v8, v9, v12, v13, v14, v15, v16, v17, v18, v19, v20, v21, v22, v23, v24, v25, v26, v27, v28, v29, v30, v31, v32, v33, v34, v35, v36, v37, v38, v39, v40, v41, v42, v43, v44, v45, v46, v47, v48, v49, ⟨ha, rfl, hO, hU, hbr, hop, hbs⟩, rfl⟩
    clear bO hu0 hz00
    have hszr := hU.size
    by_cases hlt : a < n
    · have hco := hbr.cell
      gi_wp2
      refine wpIn_loop (fun a' wr => ∃ (bb : Nat) (bs : List Nat) (V v7 v8 v9 v17 v18 v19 v20 v21 v22 v23 v24 v25 v26 v27 v28 v29 v30 v31 v32 v33 v34 v35 v36 v37 v38 v39 v40 v41 v42 v43 v44 v45 v46 v47 v48 : Value),
          (bb ≤ m ∧ v17 = .int .i64 (bb : Int) ∧ OwnS (fun k => w.heap.size < k) wr w.heap.size 54 V ((tmL zs ys).take (a * m + bb)) ∧ Upd (fun _ => False) w wr ∧ Boxed wr w.heap.size 36 (.slice (some ⟨b', 0, none⟩) m c') ∧ Open bs wr ∧ (∀ j ∈ bs, w.heap.size < j)) ∧
          a' = { tmps := #[.slice (some ⟨b, 0, none⟩) n c, .slice (some ⟨b', 0, none⟩) m c', undef, .pointer (some ⟨w.heap.size, 0, none⟩), .slice none 0 0, V, .int .i64 (a : Int), v7, v8, v9, .slice (some ⟨b, 0, none⟩) n c, .int .i64 (n : Int), .int .i64 (a : Int), .bool true, .int .i64 (a : Int), .slice (some ⟨b', 0, none⟩) m c', .int .i64 (m : Int), v17, v18, v19, v20, v21, v22, v23, v24, v25, v26, v27, v28, v29, v30, v31, v32, v33, v34, v35, v36, v37, v38, v39, v40, v41, v42, v43, v44, v45, v46, v47, v48, v49, undef], defers := marks bs })
        (fun a' _ => m - (intOf (a'.tmps.getD 17 undef)).toNat) ?_ ?_
      · exact ⟨0, bs, _, _, _, _, _, _, _, _, _, _, _, _, _, _, _, _, _, _, _, _, _, _, _, _, _, _, _, _, _, _, _, _, _, _, _, _, ⟨by omega, rfl, hO, hU, hbr, hop, hbs⟩, rfl⟩
      · clear hO hU hbr hop hbs hszr hco
        rintro a' wr ⟨bb, bs, V, v7, v8, v9, v17, v18, v19, v20, v21, v22, v23, v24, v25, v26, v27, v28, v29, v30, v31, v32, v33, v34, v35, v36, v37, v38, v39, v40, v41, v42, v43, v44, v45, v46, v47, v48, ⟨hbb, rfl, hO, hU, hbr, hop, hbs⟩, rfl⟩
        have hszr := hU.size
        have hco := hbr.cell
        by_cases hltb : bb < m
        · obtain ⟨p, hp⟩ : ∃ p, a * m + bb = p := ⟨_, rfl⟩
          have hpn : p < n * m := by
            have h1 : (a + 1) * m ≤ n * m := Nat.mul_le_mul_right m hlt
            rw [Nat.add_mul, Nat.one_mul] at h1
            omega
          have hz := hvo.sets.2 a (by rw [hlen.out]; exact hlt)
          have hy := hvy.sets.2 bb (by rw [hlen'.out]; exact hltb)
          rw [hlen.out] at hz
          rw [hlen'.out] at hy
          have hpa := powI_lt (k := a) (n := n) hlt
          have hpb := powI_lt (k := bb) (n := m) hltb
          have hpa0 := powI_pos (a : Int)
          have hpb0 := powI_pos (bb : Int)
          have hpn6 := powI_le6 (n := (n : Int)) (by omega)
          have hpm6 := powI_le6 (n := (m : Int)) (by omega)
          have hpnm6 := powI_le6 (n := ((n * m : Nat) : Int)) (by omega)
          have hzq := orI_bd (n := (n : Int)) hz.1 hz.2 (Int.le_of_lt hpa0) hpa
          have hyq := orI_bd (n := (m : Int)) hy.1 hy.2 (Int.le_of_lt hpb0) hpb
          have Hfin := Lib.hid (Hdone.out a bb hzq (by omega) hyq hltb)
          rw [hp] at Hfin
          have Hsi := Lib.hid (Hsn.out p hpn)
          rw [hp] at hO
          have Hlp := Lib.hid (show ((tmL zs ys).take p).length = p by rw [List.length_take, Htl.out]; exact Nat.min_eq_left (Nat.le_of_lt hpn))
          have hck := (hA.upd hU (fun e => e)).cell (k := a) (by rw [hlen.out]; exact hlt)
          have hW1 := fun w => with_any (zs[a]?.getD 0) (a : Int) w hz.1 (by omega) (by omega) (by omega)
          have hW2 := fun w => with_any (ys[bb]?.getD 0) (bb : Int) w hy.1 (by omega) (by omega) (by omega)
          have hcy0 : Arr wr b' 54 ys := hA'.upd hU (fun e => e)
          have hcyc := hcy0.cell (k := bb) (by rw [hlen'.out]; exact hltb)
          generalize zs[a]?.getD 0 = z at *
          generalize ys[bb]?.getD 0 = y at *
          generalize orI z (powI (a : Int)) = zq at *
          generalize orI y (powI (bb : Int)) = yq at *
          have hbd := accP_bd (n := n) hyq.1 hyq.2
          have hmb := fun h (hh : h < n) => mulpow_bd (n := n) (m := m) (h := h) hyq.1 hyq.2 hh
          generalize powI ((n * m : Nat) : Int) = pnm at *
          obtain ⟨A0, c0, rfl, -⟩ := ints_of_own hO.2
          rw [Hlp.out] at hO ⊢
          have hown := own_lt' hO.2
          have hOb : OwnS (fun k => w.heap.size < k ∧ k < wr.heap.size) wr w.heap.size 54 (.slice A0 p c0) ((tmL zs ys).take p) := ⟨fun k hk => ⟨hO.1 k hk, hown k hk⟩, hO.2⟩
          clear hO hpa hpb hpa0 hpb0 hcy0
          have hu2 : Upd (fun _ => False) wr ((wr.alloc (.cells #[Value.int .i64 (bb : Int)] 3)).alloc (.cells #[Value.int .i64 0] 54)) := ((Upd.refl _ wr).alloc _).alloc _
          have hck2 := hu2.cell hck (fun e => e)
          clear hck
          gi_wp2_with (first
            | (gi_at_call 46; refine (callsIn_wide.2 (hW1 _)).mono ?_; rintro e w' ⟨rfl, rfl⟩)
            | (gi_at_call 47; refine (callsIn_wide.2 (each_any _ _)).mono ?_; rintro e w' ⟨rfl, rfl⟩))
          have bC := (((Boxed.new wr 3 (.int .i64 (bb : Int))).alloc (.cells #[Value.int .i64 0] 54)).alloc (.cells #[Value.int .i64 zq] 54))
          have b8 := (Boxed.new (wr.alloc (.cells #[Value.int .i64 (bb : Int)] 3)) 54 (.int .i64 0)).alloc (.cells #[Value.int .i64 zq] 54)
          have b9 := Boxed.new ((wr.alloc (.cells #[Value.int .i64 (bb : Int)] 3)).alloc (.cells #[Value.int .i64 0] 54)) 54 (.int .i64 zq)
          have huc : Upd (fun _ => False) wr (((wr.alloc (.cells #[Value.int .i64 (bb : Int)] 3)).alloc (.cells #[Value.int .i64 0] 54)).alloc (.cells #[Value.int .i64 zq] 54)) := (((Upd.refl _ wr).alloc _).alloc _).alloc _
          have hzc : (((wr.alloc (.cells #[Value.int .i64 (bb : Int)] 3)).alloc (.cells #[Value.int .i64 0] 54)).alloc (.cells #[Value.int .i64 zq] 54)).heap.size = wr.heap.size + 3 := by simp
          simp only [World.size_alloc] at bC b8 b9
          obtain ⟨Wc, hWc⟩ : ∃ Wc, (((wr.alloc (.cells #[Value.int .i64 (bb : Int)] 3)).alloc (.cells #[Value.int .i64 0] 54)).alloc (.cells #[Value.int .i64 zq] 54)) = Wc := ⟨_, rfl⟩
          rw [hWc] at bC b8 b9 huc hzc ⊢
          clear hWc hck2 hu2 hco
          have hbc := huc.boxed hbr (fun e => e)
          have hop' := hop.upd huc (fun _ _ e => e)
          have hbs' : ∀ j ∈ bs, j < wr.heap.size := fun j hj => (Array.getElem?_eq_some_iff.1 (hop.2 j hj)).1
          have hUc : Upd (fun _ => False) w Wc := hU.trans huc
          have hOc := hOb.keep huc (fun _ _ e => e)
          have hlw := hbr.lt
          have hcyW := huc.cell hcyc (fun e => e)
          have hblw := hUc.size
          clear hOb hop hcyc hbr huc hU
          refine range_out (n := 9) (gf := 58) (lb := #[.pointer (some ⟨wr.heap.size + 1 + 1, 0, none⟩)]) rfl (enters_of Try.func58 (by kernel_rfl) rfl) (encs := encI) (L := itemsL zq)
            (fun k => k = wr.heap.size + 1) (fun k e => by omega) (fun _ => rfl)
            (fun W1 l1 hu1 hl1 hl2 => each_iter zq hzq.1 (by omega) _ _ W1 (hu1.boxed b9 (fun e => e)) (fun e => by omega))
            (fun pre D W => Boxed W (wr.heap.size + 1) 54 (.int .i64 (accP m yq pre)) ∧ Upd (fun k => k = wr.heap.size + 1) Wc W)
            (fun _ _ _ _ => False)
            (fun _ D X Y hs hu => ⟨hu.boxed hs.1 (fun e => by omega), hs.2.trans' hu (fun i hi e => by omega)⟩)
            (fun _ _ _ _ _ hs _ => hs)
            ⟨b8, Upd.refl _ _⟩ ?owes ?done ?stop
          case owes =>
            rintro l1 pre x D1 W hl1 hl2 hDl hD1 - hpre K hK
            gi_wp2
            refine hK _ _ (Upd.refl _ _) ?_
            rintro Wb hWb - ⟨b81, hU1⟩
            clear hK
            obtain ⟨hx6, hxb⟩ := mem_itemsTo.1 (hpre.subset (by simp : x ∈ pre ++ [x]))
            have hxn := bitB_lt hzq.2 hxb
            have hba := hbd pre (fun h hh => bitB_lt hzq.2 (mem_itemsTo.1 (hpre.subset (by simp [hh]))).2)
            have hmx := hmb x hxn
            have Hn := Lib.hid (accP_snoc m yq pre x)
            obtain ⟨d, hd⟩ : ∃ d, x * m = d := ⟨_, rfl⟩
            have hmul : wrap64 ((x : Int) * (m : Int)) = (d : Int) := by
              have e : (x : Int) * (m : Int) = (d : Int) := by rw [← hd, Int.natCast_mul]
              have hd36 : d ≤ 36 := by rw [← hd]; exact Nat.le_trans (Nat.mul_le_mul (show x ≤ 6 by omega) hm6) (by decide)
              rw [e]; exact IntWalk.wrap64_in _ ⟨by omega, by omega⟩
            rw [hd] at hmx Hn
            have hd64 : d < 64 := by rw [← hd]; exact Nat.lt_of_le_of_lt (Nat.mul_le_mul (by omega : x ≤ 6) hm6) (by decide)
            clear hd
            have hshe : yq * 2 ^ d = yq * powI (d : Int) := by simp [powI]
            have hsh1 : IntKind.i64.wrap (yq * 2 ^ d) = yq * powI (d : Int) := by rw [IntKind.wrap_i64, hshe]; omega
            have hsh2 : wrap64 (yq * 2 ^ d) = yq * powI (d : Int) := by rw [hshe]; exact IntWalk.wrap64_in _ ⟨by omega, by omega⟩
            have hor : bits .or .i64 (accP m yq pre) (yq * powI (d : Int)) = orI (accP m yq pre) (yq * powI (d : Int)) := bits_or (by omega) (by omega) (by omega) (by omega)
            clear hshe
            have hc3 := (hU1.boxed hbc (by omega)).cell
            have hc7 := (hU1.boxed bC (by omega)).cell
            have hc8 := b81.cell
            have hf8 := b81.frozen
            have hcy := hU1.cell hcyW (fun e => by simp at e; omega)
            have hsb := hU1.size
            have hszb := hWb.size
            generalize yq * powI (d : Int) = q at *
            generalize accP m yq pre = acc at *
            gi_wp2
            refine region_tail_round 13 (by kernel_rfl) (by kernel_rfl) (by kernel_rfl) ?_
            simp only [List.take_succ_cons, List.take_zero, List.drop_succ_cons, List.drop_zero]
            repeat (gi_big_quiet_step ((first
              | (gi_at_call 46; exact quietIn_add (hW2 _))
              | (gi_at_call 46; exact quietIn_left (hW2 _)))))
            refine wpQuietIn_nil ?_
            intro _ hw'
            obtain ⟨nq, hw''⟩ := hw'
            subst hw''
            gi_wp2
            exact ⟨D1, ⟨by rw [Hn.out]; exact b81.set _, (hU1.drewN _).setCell (p := ⟨wr.heap.size + 1, 0, none⟩) (.inr rfl) _⟩, ((Upd.refl _ _).drewN _).setCell (p := ⟨wr.heap.size + 1, 0, none⟩) (.inr (.inl rfl)) _, fun k hk => .inl hk⟩
          case done =>
            rintro d D1 W hd ⟨b8L, hu2⟩ hD1 hKd
            have hop2 : Open bs W := hop'.upd hu2 (fun j hj e => by have := hbs' j hj; omega)
            have hop3 : Open (d :: bs) W := hop2.cons hKd (fun e => by have := hbs' d e; omega)
            have hu3 : Upd (fun _ => False) w W := hUc.trans' hu2 (fun i hi e => by omega)
            have hb3 := hu2.boxed hbc (by omega)
            have hbs3 : ∀ j ∈ d :: bs, w.heap.size < j := fun j hj => by
              rcases List.mem_cons.1 hj with rfl | hj
              · omega
              · exact hbs j hj
            have hO4 := hOc.keep hu2 (fun k hk e => by omega)
            have hc8 := b8L.cell
            have hacc := hbd (itemsL zq) (fun h hh => bitB_lt hzq.2 (mem_itemsTo.1 hh).2)
            have hzw := hu2.size
            have hwo := fun w => without_any (accP m yq (itemsL zq)) (p : Int) w (by omega) (by omega) (by omega) (by omega)
            rw [Hfin.out] at hwo
            generalize tmTo zs ys m p (n * m) = row at *
            generalize accP m yq (itemsL zq) = acc at *
            have hpm : decide ((p : Int) < (p : Int) + 1) = true := decide_eq_true (by omega)
            clear hop2 hu2 hop' hbs' hbc b8L hOc hUc b9 bC hcyW hzq hyq hbd hmb hz hy hpn6 hpm6 hpnm6 Hfin
            gi_wp2_with (first
              | (gi_at_call 48; refine (callsIn_wide.2 (hwo _)).mono ?_; rintro e w' ⟨rfl, rfl⟩)
              | (gi_at_builtin; refine wpListIn_append1 _ rfl (.tmp 41) (.tmp 46) _ rfl w.heap.size 54 i0 _ 8 Try.underlying36 hi0 hz0 hz1 hz2 rfl _ ((tmL zs ys).take p).length _ rfl (hO4.2.alloc _) W.heap.size 1 (.int .i64 row) rfl (cell_new _ _ _) rfl (by rw [Hlp.out]; omega) (by rw [Hlp.out]; omega) (by simp; omega) ?_; rintro v' w' hown' hg' hv'))
            have zg := hg'.size
            simp at zg
            have hopA : Open (d :: bs) (W.alloc (.cells #[Value.int .i64 row] 54)) := hop3.upd ((Upd.refl (fun _ => False) W).alloc _) (fun _ _ e => e)
            have hop4 : Open (d :: bs) w' := ⟨hopA.1, fun j hj => (hg'.block j ((Array.getElem?_eq_some_iff.1 (hopA.2 j hj)).1) (own_ne hO4.2 (hop3.2 j hj))).trans (hopA.2 j hj)⟩
            have hb4 : Boxed w' w.heap.size 36 (.slice (some ⟨b', 0, none⟩) m c') := (hb3.alloc _).kept hg' (fun e => by have := (hO4.1 _ e.symm).1; omega)
            have hu4 : Upd (fun _ => False) w w' := (hu3.alloc _).grown hg' (fun k hk => .inl (by have := (hO4.1 k hk).1; omega))
            have hO5 := hO4.step (S' := fun k => w.heap.size < k) hown' hv' (fun k hk => hk.1) (fun _ => by omega)
            rw [← Hsi.out] at hO5
            refine ⟨⟨bb + 1, d :: bs, _, _, _, _, _, _, _, _, _, _, _, _, _, _, _, _, _, _, _, _, _, _, _, _, _, _, _, _, _, _, _, _, _, _, _, _, ⟨by omega, by go_num, by rw [← Nat.add_assoc, hp]; exact hO5, hu4, hb4, hop4, hbs3⟩, rfl⟩, ?_⟩
            simp [intOf]; omega
          case stop =>
            rintro d D1 co pre W hd hpre h
            exact h.elim
        · obtain rfl : bb = m := by omega
          gi_wp2
          refine ⟨⟨a + 1, bs, _, _, _, _, _, _, _, _, _, _, _, _, _, _, _, _, _, _, _, _, _, _, _, _, _, _, _, _, _, _, _, _, _, _, _, _, _, _, _, _, _, _, _, ⟨by omega, by go_num, by rw [Nat.add_mul, Nat.one_mul]; exact hO, hU, hbr, hop, hbs⟩, rfl⟩, ?_⟩
          simp [intOf]; omega
    · obtain rfl : a = n := by omega
      gi_wp2
      have hOf := hO.2
      refine leaves_marks bs wr hop (fun W' hu' => ?_)
      have hO6 : OwnS (fun k => w.heap.size < k ∧ k ∉ bs) wr w.heap.size 54 V ((tmL zs ys).take (a * m)) := ⟨fun k hk => ⟨hO.1 k hk, fun e => own_ne hOf (hop.2 k e) hk.symm⟩, hOf⟩
      have hO7 := hO6.keep hu' (fun k hk e => hk.2 e)
      rw [List.take_of_length_le (by rw [Htl.out]; exact Nat.le_refl _)] at hO7
      have hu4 : Upd (fun _ => False) w W' := hU.trans' hu' (fun i hi e => by have := hbs i e; omega)
      exact ⟨V, by simp [results, Try.f32, go_sem], V, rfl, ⟨fun k hk => Nat.le_of_lt (hO7.1 k hk).1, hO7.2⟩, hu4.toBelow (fun _ e => e.elim) (Nat.le_refl _)⟩
end Go.Proofs.Ytbjaomhmocblbaa

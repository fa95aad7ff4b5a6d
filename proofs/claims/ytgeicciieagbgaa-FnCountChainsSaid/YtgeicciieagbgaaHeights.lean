/- HeightsOf: the model's and the program's. -/
import Derived.Test.YtgeicciieagbgaaHgt
import Derived.RegionTactic
import Derived.BigRegion
namespace Go.Proofs.Ytgeicciieagbgaa
open Go.RowKit Go.Shelf
attribute [local go_sem] Oper.semAt_some
attribute [local go_sem, local simp] wide_fn

theorem swaps_snoc (ps : List (Nat × Nat)) (a b : Nat) : swaps (ps ++ [(a, b)]) = swaps ps ++ [(b, a)] := by simp [swaps]

set_option maxHeartbeats 2000000 in
theorem levels_any (A : Option Addr) (n c : Nat) (zs : List Int) (w : World) (h : Ints w w.heap.size A n zs) (hv : VoP zs) :
    Calls Try.prog 83 #[.slice A n c] w fun e w' => e = .returned (.slice (some ⟨w.heap.size, 0, none⟩) n n) ∧ Arr w' w.heap.size 3 ((List.range n).map (hgt zs)) ∧ Below w.heap.size w w' := by
  have hlen := Lib.hid h.len
  have hn6 : n ≤ 6 := by have := hv.1; rw [hlen.out] at this; exact this
  have hmk := run_make_row' (P := Try.prog) 23 3 (.int .i64 0) 8 Try.underlying23 infoInt rfl .i64 .i64 n (by omega) (by omega)
  go_enter Try.func83, Try.ntmps83
  go_wp2_with fail
  have hA1 := Arr.new w 3 n
  have hB1 : Below w.heap.size w (w.alloc (.cells (madeCells #[.int .i64 0] n) 3)) := (Below.refl _ _).alloc (Nat.le_refl _) _
  have z1 : (w.alloc (.cells (madeCells #[.int .i64 0] n) 3)).heap.size ≤ w.heap.size + 1 := by simp
  have z1' : w.heap.size < (w.alloc (.cells (madeCells #[.int .i64 0] n) 3)).heap.size := by simp
  obtain ⟨W1, hW1⟩ : ∃ W1, w.alloc (.cells (madeCells #[.int .i64 0] n) 3) = W1 := ⟨_, rfl⟩
  rw [hW1] at hA1 hB1 z1 z1' ⊢
  clear hW1 hmk
  refine (downOf_any A n c zs W1 (h.to hB1 (Nat.le_refl _) (by omega)) hv.sets).mono ?_
  rintro e W2 ⟨rfl, hD2, hB2⟩
  have hA2 := hA1.below hB2 z1'
  have C2 := hB1.trans (hB2.mono (by omega))
  have z2 := hB2.size
  have hlD := hD2.lt
  have hlA := hA2.lt
  have hne : w.heap.size ≠ W1.heap.size := by omega
  obtain ⟨bd, hbd⟩ : ∃ bd, W1.heap.size = bd := ⟨_, rfl⟩
  have hsD := Lib.hid (down_sets hv.sets)
  have hDl := Lib.hid (show (downP n (pairsL zs)).length = n from downP_len _ _)
  have hsD' : Sets (downP n (pairsL zs)) := by have := hsD.out; rwa [hlen.out] at this
  have HLow := Lib.hid (upN_low hv (swaps_lt hv))
  have HAll := Lib.hid (upN_all hv (swaps_lt hv) (lt_swaps hv))
  have HSwl := Lib.hid (swaps_lt hv)
  rw [hlen.out] at HLow HAll HSwl
  rw [hbd] at hD2 hlD hne ⊢
  clear hbd hB1 hA1 hB2
  generalize hDD : downP n (pairsL zs) = DD at *
  have HDD := Lib.hid hDD
  clear hDD
  go_wp2_with fail
  go_loopw [5] (fun i wr => ∃ r : Nat, r ≤ n ∧ i = .int .i64 r ∧ Arr wr w.heap.size 3 (upN (swaps (pairsL DD)) r (List.replicate n 0)) ∧ Arr wr bd 3 DD ∧ Below w.heap.size w wr) (fun i _ => n - (intOf i).toNat)
  case atStart => exact ⟨0, by omega, rfl, hA2, hD2, C2⟩
  case round =>
    clear hA2 hD2 C2 hlA
    obtain ⟨r, hr, rfl, hAr, hDr, hB⟩ := hrel
    have HL := Lib.hid (HLow.out r)
    by_cases hrk : r < n
    · generalize hS : upN (swaps (pairsL DD)) r (List.replicate n 0) = S at *
      have HS := Lib.hid hS
      clear hS
      go_wp2_with fail
      go_loopw [6] (fun i wr => ∃ a : Nat, a ≤ n ∧ i = .int .i64 a ∧ Arr wr w.heap.size 3 (upL S (swaps (pairsTo DD a))) ∧ Arr wr bd 3 DD ∧ Below w.heap.size w wr) (fun i _ => n - (intOf i).toNat)
      case atStart => exact ⟨0, by omega, rfl, hAr, hDr, hB⟩
      case round =>
        clear hAr hDr hB
        obtain ⟨a, ha, rfl, hAr, hDr, hB⟩ := hrel
        by_cases hak : a < n
        · have hz := hsD'.bd a (by rw [hDl.out]; exact hak)
          go_wp2_with fail
          go_loopw [7] (fun i wr => ∃ b : Nat, b ≤ n ∧ i = .int .i64 b ∧ Arr wr w.heap.size 3 (upL S (swaps (pairsTo DD a ++ (itemsTo (DD[a]?.getD 0) b).map fun x => (a, x)))) ∧ Arr wr bd 3 DD ∧ Below w.heap.size w wr) (fun i _ => n - (intOf i).toNat)
          case atStart => exact ⟨0, by omega, rfl, by simpa [itemsTo] using hAr, hDr, hB⟩
          case round =>
            clear hAr hDr hB
            obtain ⟨b, hb, rfl, hAr, hDr, hB⟩ := hrel
            by_cases hbk : b < n
            · have hck := hDr.cell (k := a) (by rw [hDl.out]; exact hak)
              cases hbit : bitB (DD[a]?.getD 0) b
              · have hbi : (bitI (DD[a]?.getD 0) b == 1) = false := by rw [bitI_one, hbit]
                have Hn := Lib.hid (itemsTo_no hbit)
                go_wp2_with (go_at_call 100; refine (bit_any _ _ _ (by omega) (by omega) (by omega) (by omega)).mono ?_; rintro e w' ⟨rfl, rfl⟩)
                go_roundw
                case rel => exact ⟨b + 1, by omega, by go_num, by rw [Hn.out]; exact hAr, hDr, hB⟩
                case measure => simp [intOf]; omega
              · have hbi : (bitI (DD[a]?.getD 0) b == 1) = true := by rw [bitI_one, hbit]
                have Hn := Lib.hid (itemsTo_yes hbit)
                have hps : ∀ p ∈ swaps (pairsTo DD a ++ (itemsTo (DD[a]?.getD 0) b).map fun x => (a, x)), lt zs p.1 p.2 := fun p hp => by
                  obtain ⟨q, hq, rfl⟩ := List.mem_map.1 hp
                  exact HSwl.out _ (List.mem_map.2 ⟨q, (pairs_pre (by rw [hDl.out]; exact hak) (itemsTo_le (by omega))).subset hq, rfl⟩)
                have Hs := Lib.hid (upL_snoc S (swaps (pairsTo DD a ++ (itemsTo (DD[a]?.getD 0) b).map fun x => (a, x))) (b, a))
                have hlow := (upL_low hv _ S HL.out hps).1
                have hla := hlow.2 a (by rw [hlen.out]; exact hak)
                have hlb := hlow.2 b (by rw [hlen.out]; exact hbk)
                have hga := hgt_bd hv (b := a) (by rw [hlen.out]; exact hak)
                have hgb := hgt_bd hv (b := b) (by rw [hlen.out]; exact hbk)
                have hll := hlow.1
                rw [hlen.out] at hga hgb hll
                have hca := hAr.cell (k := a) (by rw [hll]; exact hak)
                have hcb := hAr.cell (k := b) (by rw [hll]; exact hbk)
                have hfs := hAr.frozen a
                clear hps hlow hll
                generalize hT : upL S (swaps (pairsTo DD a ++ (itemsTo (DD[a]?.getD 0) b).map fun x => (a, x))) = T at *
                have HT := Lib.hid hT
                clear hT
                go_wp2_with (go_at_call 100; refine (bit_any _ _ _ (by omega) (by omega) (by omega) (by omega)).mono ?_; rintro e w' ⟨rfl, rfl⟩)
                go_region
                have Hm := Lib.hid (show (if T[a]?.getD 0 < T[b]?.getD 0 + 1 then T[b]?.getD 0 + 1 else T[a]?.getD 0) = max (T[a]?.getD 0) (T[b]?.getD 0 + 1) by split <;> omega)
                go_wp2
                go_roundw
                case rel => exact ⟨b + 1, by omega, by go_num, by rw [Hn.out, List.map_append, ← List.append_assoc, List.map_cons, List.map_nil, swaps_snoc, Hs.out, up1, ← Hm.out]; exact hAr.set _ _, (hDr.far (p := ⟨w.heap.size, a, none⟩) (Ne.symm hne) _).drew, (hB.setCell (p := ⟨w.heap.size, a, none⟩) (Nat.le_refl _) _).drew⟩
                case measure => simp [intOf]; omega
            · obtain rfl : b = n := by omega
              have Hall := Lib.hid (itemsTo_all (s := DD[a]?.getD 0) (n := b) (by have h1 := (hsD'.2 a (by rw [hDl.out]; exact hak)).2; rw [hDl.out] at h1; exact h1) hn6)
              have Hps := Lib.hid (pairsTo_succ DD a)
              go_wp2
              go_roundw
              case rel => exact ⟨a + 1, by omega, by go_num, by rw [Hps.out, ← Hall.out]; exact hAr, hDr, hB⟩
              case measure => simp [intOf]; omega
        · obtain rfl : a = n := by omega
          have Hps := Lib.hid (show pairsL DD = pairsTo DD a by rw [pairsL, hDl.out])
          go_wp2
          go_roundw
          case rel => exact ⟨r + 1, by omega, by go_num, by rw [upN, HS.out, Hps.out]; exact hAr, hDr, hB⟩
          case measure => simp [intOf]; omega
    · obtain rfl : r = n := by omega
      go_wp2
      go_ret
      exact ⟨rfl, by rw [← HAll.out]; exact hAr, hB⟩

set_option maxRecDepth 100000 in
set_option maxHeartbeats 8000000 in
theorem heights_any (A : Option Addr) (n c : Nat) (zs : List Int) (hv : VoP zs) (w : World) (hA : Ints w w.heap.size A n zs) :
    Calls Try.prog 82 #[.slice A n c] w fun e W' => e = .returned (.slice (some ⟨w.heap.size, 0, none⟩) n n) ∧ Arr W' w.heap.size 3 ((List.range n).map (hgt zs)) ∧ Below w.heap.size w W' := by
  have hlen := Lib.hid hA.len
  have hn6 : n ≤ 6 := by have := hv.1; rw [hlen.out] at this; exact this
  have hmk := run_make_row' (P := Try.prog) 23 3 (.int .i64 0) 8 Try.underlying23 infoInt rfl .i64 .i64 n (by omega) (by omega)
  refine (callsIn_wide (n := 9)).1 ?_
  refine callsIn_of_wp_marks Try.func82 rfl trivial ?_ rfl
  simp only [Try.ntmps82, List.size_toArray, List.length_cons, List.length_nil, Nat.reduceAdd, Nat.reduceSub, Array.replicate_succ, Array.replicate_zero, List.push_toArray, List.append_toArray, List.nil_append, List.cons_append]
  gi_wp2
  have aH := (Arr.new w 3 n).alloc (.cells #[Value.slice (some ⟨w.heap.size, 0, none⟩) n n] 23)
  have bH := Boxed.new (w.alloc (.cells (madeCells #[Value.int .i64 0] n) 3)) 23 (.slice (some ⟨w.heap.size, 0, none⟩) n n)
  have hu0 : Upd (fun _ => False) w ((w.alloc (.cells (madeCells #[Value.int .i64 0] n) 3)).alloc (.cells #[Value.slice (some ⟨w.heap.size, 0, none⟩) n n] 23)) := ((Upd.refl _ w).alloc _).alloc _
  have hz0 : w.heap.size + 2 ≤ ((w.alloc (.cells (madeCells #[Value.int .i64 0] n) 3)).alloc (.cells #[Value.slice (some ⟨w.heap.size, 0, none⟩) n n] 23)).heap.size := by simp
  simp only [World.size_alloc] at bH
  clear hmk
  obtain ⟨W0, hW0⟩ : ∃ W0, ((w.alloc (.cells (madeCells #[Value.int .i64 0] n) 3)).alloc (.cells #[Value.slice (some ⟨w.heap.size, 0, none⟩) n n] 23)) = W0 := ⟨_, rfl⟩
  rw [hW0] at aH bH hu0 hz0 ⊢
  clear hW0
  have HLow := Lib.hid (upN_low hv (fun p hp => lt_pairs hp))
  have HAll := Lib.hid (upN_all hv (fun p hp => lt_pairs hp) (fun a b hl => pairs_lt hv hl))
  rw [hlen.out] at HLow HAll
  refine wpIn_loop (fun a' wr => ∃ (r : Nat) (bs : List Nat) (v4 v5 v11 v12 v13 v14 v15 v16 v17 v18 v19 v20 v21 v22 v23 v24 v25 v26 v27 v28 v29 v30 : Value),
      (r ≤ n ∧ v11 = .int .i64 (r : Int) ∧ Arr wr w.heap.size 3 (upN (pairsL zs) r (List.replicate n 0)) ∧ Upd (fun _ => False) w wr ∧ Boxed wr (w.heap.size + 1) 23 (.slice (some ⟨w.heap.size, 0, none⟩) n n) ∧ Open bs wr ∧ (∀ j ∈ bs, w.heap.size + 1 < j)) ∧
      a' = { tmps := #[.slice A n c, undef, .slice none 0 0, .pointer (some ⟨w.heap.size + 1, 0, none⟩), v4, v5, .slice A n c, .int .i64 (n : Int), .slice (some ⟨w.heap.size, 0, none⟩) n n, .slice A n c, .int .i64 (n : Int), v11, v12, v13, v14, v15, v16, v17, v18, v19, v20, v21, v22, v23, v24, v25, v26, v27, v28, v29, v30, undef], defers := marks bs })
    (fun a' _ => n - (intOf (a'.tmps.getD 11 undef)).toNat) ?_ ?_
  · exact ⟨0, [], _, _, _, _, _, _, _, _, _, _, _, _, _, _, _, _, _, _, _, _, _, _, ⟨by omega, rfl, aH, hu0, bH, ⟨List.nodup_nil, fun _ e => by cases e⟩, fun _ e => by cases e⟩, rfl⟩
  · rintro a' wr ⟨r, bs, v4, v5, v11, v12, v13, v14, v15, v16, v17, v18, v19, v20, v21, v22, v23, v24, v25, v26, v27, v28, v29, v30, ⟨hr, rfl, hAr, hU, hbr, hop, hbs⟩, rfl⟩
    have hszr := hU.size
    have hlAr := hbr.lt
    by_cases hlt : r < n
    · have HL := Lib.hid (HLow.out r)
      generalize hS : upN (pairsL zs) r (List.replicate n 0) = S at *
      have HS := Lib.hid hS
      clear hS
      gi_wp2_with (gi_at_call 74; refine (callsIn_wide.2 (pairs_any _ _ _ _)).mono ?_; rintro e w' ⟨rfl, rfl⟩)
      have hpb := Boxed.new wr 49 (.slice A n c)
      have huc : Upd (fun _ => False) wr (wr.alloc (.cells #[Value.slice A n c] 49)) := (Upd.refl _ wr).alloc _
      have hzc : (wr.alloc (.cells #[Value.slice A n c] 49)).heap.size = wr.heap.size + 1 := by simp
      obtain ⟨Wc, hWc⟩ : ∃ Wc, wr.alloc (.cells #[Value.slice A n c] 49) = Wc := ⟨_, rfl⟩
      rw [hWc] at hpb huc hzc ⊢
      clear hWc
      have hAc := hAr.upd huc (fun e => e)
      have hbc := huc.boxed hbr (fun e => e)
      have hop' := hop.upd huc (fun _ _ e => e)
      have hbs' : ∀ j ∈ bs, j < Wc.heap.size := fun j hj => (Array.getElem?_eq_some_iff.1 (hop'.2 j hj)).1
      have hUc : Upd (fun _ => False) w Wc := hU.trans huc
      have hA0 : Ints Wc w.heap.size A n zs := hA.below (hUc.toBelow (fun _ e => e.elim) (Nat.le_refl _))
      refine range_out (n := 9) (gf := 107) (lb := #[.pointer (some ⟨wr.heap.size, 0, none⟩)]) rfl (enters_of Try.func107 (by kernel_rfl) rfl) (encs := encP) (L := pairsL zs)
        (fun k => k = w.heap.size) (fun k e => by omega) (fun _ => rfl)
        (fun W1 l1 hu1 hl1 hl2 => pairs_iter_at hv.sets hpb (fun k e => by omega) (by omega) hA0 (by omega) (fun k e => by omega) hu1 hl1 hl2)
        (fun pre D W => Arr W w.heap.size 3 (upL S pre) ∧ Upd (fun k => k = w.heap.size) Wc W)
        (fun _ _ _ _ => False)
        (fun _ D X Y hs hu => ⟨hs.1.upd hu (fun e => by omega), hs.2.trans' hu (fun i hi e => by omega)⟩)
        (fun _ _ _ _ _ hs _ => hs)
        ⟨hAc, Upd.refl _ _⟩ ?owes ?done ?stop
      case owes =>
        rintro l1 pre ⟨lo, hi⟩ D1 W hl1 hl2 hDl hD1 - hpre K hK
        gi_wp2
        refine hK _ _ (Upd.refl _ _) ?_
        rintro Wb hWb - ⟨aD1, hU1⟩
        clear hK
        obtain ⟨hlo, hhi, hbit⟩ := hv.sets.pair (a := lo) (b := hi) (hpre.subset (by simp))
        have hll := upL_low hv pre S HL.out (fun p hp => lt_pairs (hpre.subset (by simp [hp])))
        have hlow := hll.1.2 lo hlo
        have hhigh := hll.1.2 hi hhi
        have hgl := hgt_bd hv hlo
        have hgh := hgt_bd hv hhi
        have hlen1 := hll.1.1
        rw [hlen.out] at hlo hhi hgl hgh hlen1
        have hcD := (hU1.boxed hbc (by omega)).cell
        have hsb := hU1.size
        have hszb := hWb.size
        have hcl := aD1.cell (k := lo) (by rw [hlen1]; exact hlo)
        have hch := aD1.cell (k := hi) (by rw [hlen1]; exact hhi)
        have hfs := aD1.frozen hi
        have Hs := Lib.hid (upL_snoc S pre (lo, hi))
        clear hll hlen1
        generalize hT : upL S pre = T at *
        have HT := Lib.hid hT
        clear hT
        gi_wp2
        refine region_tail_round 13 (by kernel_rfl) (by kernel_rfl) (by kernel_rfl) ?_
        simp only [List.take_succ_cons, List.take_zero, List.drop_succ_cons, List.drop_zero]
        repeat (gi_big_quiet_step (fail))
        refine wpQuietIn_nil ?_
        intro _ hw'
        obtain ⟨nq, hw''⟩ := hw'
        subst hw''
        gi_wp2
        · exact ⟨D1, ⟨by rw [Hs.out, up1, show max (T[(lo, hi).2]?.getD 0) (T[(lo, hi).1]?.getD 0 + 1) = T[lo]?.getD 0 + 1 from by simp only; omega]; exact (aD1.drewN nq).set _ _, (hU1.drewN _).setCell (p := ⟨w.heap.size, hi, none⟩) (.inr rfl) _⟩, ((Upd.refl _ _).drewN _).setCell (p := ⟨w.heap.size, hi, none⟩) (.inr (.inl rfl)) _, fun k hk => .inl hk⟩
        · exact ⟨D1, ⟨by rw [Hs.out, up1, show max (T[(lo, hi).2]?.getD 0) (T[(lo, hi).1]?.getD 0 + 1) = T[hi]?.getD 0 from by simp only; omega]; exact (aD1.drewN nq).set _ _, (hU1.drewN _).setCell (p := ⟨w.heap.size, hi, none⟩) (.inr rfl) _⟩, ((Upd.refl _ _).drewN _).setCell (p := ⟨w.heap.size, hi, none⟩) (.inr (.inl rfl)) _, fun k hk => .inl hk⟩
      case done =>
        rintro d D1 W hd ⟨hA3, hu2⟩ hD1 hKd
        have hop2 : Open bs W := hop'.upd hu2 (fun j hj e => by have := hbs j hj; omega)
        have hop3 : Open (d :: bs) W := hop2.cons hKd (fun e => by have := hbs' d e; omega)
        have hu3 : Upd (fun _ => False) w W := hUc.trans' hu2 (fun i hi e => by omega)
        have hb3 := hu2.boxed hbc (by omega)
        have hbs3 : ∀ j ∈ d :: bs, w.heap.size + 1 < j := fun j hj => by
          rcases List.mem_cons.1 hj with rfl | hj
          · omega
          · exact hbs j hj
        have hA4 : Arr W w.heap.size 3 (upN (pairsL zs) (r + 1) (List.replicate n 0)) := by rw [upN, HS.out]; exact hA3
        clear hop2 hKd hA3 hu2
        gi_wp2
        refine ⟨⟨r + 1, d :: bs, _, _, _, _, _, _, _, _, _, _, _, _, _, _, _, _, _, _, _, _, _, _, ⟨by omega, by go_num, hA4, hu3, hb3, hop3, hbs3⟩, rfl⟩, ?_⟩
        simp [intOf]; omega
      case stop =>
        rintro d D1 co pre W hd hpre h
        exact h.elim
    · obtain rfl : r = n := by omega
      have hcr := hbr.cell
      gi_wp2
      refine leaves_marks bs wr hop (fun W' hu' => ?_)
      have hu4 : Upd (fun _ => False) w W' := hU.trans' hu' (fun i hi e => by have := hbs i e; omega)
      exact ⟨.slice (some ⟨w.heap.size, 0, none⟩) r r, by simp [results, Try.f82, go_sem], rfl, by rw [← HAll.out]; exact hAr.upd hu' (fun e => by have := hbs _ e; omega), hu4.toBelow (fun _ e => e.elim) (Nat.le_refl _)⟩

theorem specHeightsOf_any (A : Option Addr) (n c : Nat) (zs : List Int) (w : World) (h : Ints w w.heap.size A n zs) (hbig : n ≤ 1152921504606846976) :
    Calls Try.prog 30 #[.slice A n c] w (GivesRow w (heightsR zs)) := by
  have hlen := Lib.hid h.len
  cases hv : vo zs
  · have Ht := Lib.hid (show heightsR zs = [] by unfold heightsR; rw [hv]; rfl)
    go_enter Try.func30, Try.ntmps30
    go_wp2_with (go_at_call 68; refine (validOrder_any _ _ _ _ zs _ h hbig).mono ?_; rintro e w' ⟨rfl, m, rfl⟩)
    go_ret
    exact ⟨none, 0, 0, rfl, by rw [Ht.out]; exact Row.nil _ _ _ _, below_drewN (Below.refl _ _) _⟩
  · have hvo : VoP zs := by simpa [vo] using hv
    have hn6 : n ≤ 6 := by have := hvo.1; rw [hlen.out] at this; exact this
    have Ht := Lib.hid (show heightsR zs = (List.range n).map (hgt zs) by unfold heightsR; rw [hv, hlen.out]; rfl)
    go_enter Try.func30, Try.ntmps30
    go_wp2_with fail
    refine (validOrder_any _ _ _ _ zs _ h hbig).mono ?_
    rintro e w1 ⟨rfl, m, hm⟩
    have hB : Below w.heap.size w w1 := by rw [hm]; exact below_drewN (Below.refl _ _) _
    have hI := h.below hB
    have hz1 := hB.size
    clear hm
    go_wp2_with fail
    refine (levels_any _ _ _ zs _ (hI.more (by omega)) hvo).mono ?_
    rintro e w2 ⟨rfl, hAr, hB2⟩
    go_wp2_with fail
    go_ret
    exact ⟨_, n, n, rfl, by rw [Ht.out]; exact Row.of hAr (by simp) (by omega) hAr.lt, hB.trans (hB2.mono (by omega))⟩

theorem HeightsOf_any (A : Option Addr) (n c : Nat) (zs : List Int) (w : World) (h : Ints w w.heap.size A n zs) (hbig : n ≤ 1152921504606846976) :
    Calls Try.prog 29 #[.slice A n c] w (GivesRow w (heightsR zs)) := by
  have hlen := Lib.hid h.len
  cases hv : vo zs
  · have Ht := Lib.hid (show heightsR zs = [] by unfold heightsR; rw [hv]; rfl)
    have Hv := Lib.hid hv
    clear hv
    go_enter Try.func29, Try.ntmps29
    go_wp2_with fail
    refine (readOrder_any _ _ _ zs _ h hbig).mono ?_
    rintro e w' ⟨hB, (⟨hv, b, rfl, _, _⟩ | ⟨_, rfl⟩)⟩
    · rw [Hv.out] at hv; cases hv
    · go_wp2_with fail
      go_ret
      exact ⟨none, 0, 0, rfl, by rw [Ht.out]; exact Row.nil _ _ _ _, hB⟩
  · have hvo : VoP zs := by simpa [vo] using hv
    have hn6 : n ≤ 6 := by have := hvo.1; rw [hlen.out] at this; exact this
    have Ht := Lib.hid (show heightsR zs = (List.range n).map (hgt zs) by unfold heightsR; rw [hv, hlen.out]; rfl)
    have Hv := Lib.hid hv
    clear hv
    go_enter Try.func29, Try.ntmps29
    go_wp2_with fail
    refine (readOrder_any _ _ _ zs _ h hbig).mono ?_
    rintro e w1 ⟨hB, (⟨_, b, rfl, hb, hAr⟩ | ⟨hv, _⟩)⟩
    · have z1 := hB.size
      go_wp2_with fail
      refine (heights_any _ _ _ zs hvo _ (hAr.ints' hAr.lt hlen.out)).mono ?_
      rintro e w2 ⟨rfl, hA2, hB2⟩
      have z2 := hB2.size
      go_wp2_with fail
      go_ret
      exact ⟨_, n, n, rfl, by rw [Ht.out]; exact Row.of hA2 (by simp) (by omega) hA2.lt, hB.trans (hB2.mono z1)⟩
    · rw [Hv.out] at hv; cases hv
end Go.Proofs.Ytgeicciieagbgaa

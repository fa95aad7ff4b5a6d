/- LineRank: the program's. -/
import Derived.Test.YtghogabmkbadjabGb
import Derived.Test.YtghogabmkbadjabGxm
import Derived.Test.YtghogabmkbadjabGxf
set_option linter.unusedVariables false
set_option linter.unusedSimpArgs false
namespace Go.Proofs.Ytghogabmkbadjab
open Go.RowKit Go.Shelf
attribute [local go_sem] Oper.semAt_some
attribute [local go_sem, local simp] wide_fn

set_option maxRecDepth 100000 in
set_option maxHeartbeats 8000000 in
theorem lrank_any (zs ls : List Int) (hvo : VoP zs) (hli : lineB zs ls = true) (n : Nat) (hlen0 : zs.length = n) (b m : Nat) (hbm : b ≠ m) (A' : Option Addr) (c' : Nat) (w : World) (hA : Arr w b 76 (du zs)) (hM : MapOk zs w m 0) (h' : Ints w w.heap.size A' n ls) (hne : 0 < n → ∀ a, A' = some a → a.block ≠ m) :
    Calls Try.prog 103 #[lineV b m n, .slice A' n c'] w fun e w' => e = .returned (.int .i64 (rkUp zs ls n : Int)) ∧ Upd (fun i => i = m) w w' := by
  have hlen := Lib.hid hlen0
  have hn6 : n ≤ 6 := by have := hvo.1; rw [hlen0] at this; exact this
  have hml := hM.lt
  have hbl := hA.lt
  have hp64 := pow_le64 hn6
  clear hlen0
  have Hst := Lib.hid (line_steps hli).2
  clear hli
  unfold lineV
  refine (callsIn_wide (n := 9)).1 ?_
  refine callsIn_of_wp_marks Try.func103 rfl trivial ?_ rfl
  simp only [Try.ntmps103, List.size_toArray, List.length_cons, List.length_nil, Nat.reduceAdd, Nat.reduceSub, Array.replicate_succ, Array.replicate_zero, List.push_toArray, List.append_toArray, List.nil_append, List.cons_append]
  have bL : ((w.alloc (.cells #[Value.slice (some ⟨b, 0, none⟩) n n, .map (some m)] 74)).alloc (.cells #[Value.int .i64 0] 3)).heap[w.heap.size]? = some (.cells #[Value.slice (some ⟨b, 0, none⟩) n n, .map (some m)] 74 (0, 0)) := (Below.heap_alloc _ _ _ (by simp)).trans (heap_alloc_new w _)
  have bC := Boxed.new (w.alloc (.cells #[Value.slice (some ⟨b, 0, none⟩) n n, .map (some m)] 74)) 3 (.int .i64 0)
  have hu0 : Upd (fun _ => False) w ((w.alloc (.cells #[Value.slice (some ⟨b, 0, none⟩) n n, .map (some m)] 74)).alloc (.cells #[Value.int .i64 0] 3)) := ((Upd.refl _ w).alloc _).alloc _
  have hz0 : ((w.alloc (.cells #[Value.slice (some ⟨b, 0, none⟩) n n, .map (some m)] 74)).alloc (.cells #[Value.int .i64 0] 3)).heap.size = w.heap.size + 2 := by simp
  simp only [World.size_alloc] at bC
  gi_wp2_with (refine wpListIn_load_row rfl _ _ rfl w.heap.size rfl _ _ (0, 0) _ bL Try.underlying74 rfl (by kernel_rfl) ?_)
  obtain ⟨X, hX⟩ : ∃ X, ((w.alloc (.cells #[Value.slice (some ⟨b, 0, none⟩) n n, .map (some m)] 74)).alloc (.cells #[Value.int .i64 0] 3)) = X := ⟨_, rfl⟩
  rw [hX] at bL bC hu0 hz0 ⊢
  clear hX
  refine (callsIn_wide.2 (lall2_any b m n X hn6)).mono ?_
  rintro e w2 ⟨rfl, hB2⟩
  have z2 := hB2.size
  gi_wp2
  have bF := Boxed.new w2 76 (.int .i64 (powI n - 1))
  have hu2 : Upd (fun _ => False) X (w2.alloc (.cells #[Value.int .i64 (powI n - 1)] 76)) := ((Upd.refl _ X).below hB2 (fun k h1 h2 => by omega)).alloc _
  have hzz : (w2.alloc (.cells #[Value.int .i64 (powI n - 1)] 76)).heap.size = w2.heap.size + 1 := by simp
  obtain ⟨W0, hW0⟩ : ∃ W0, (w2.alloc (.cells #[Value.int .i64 (powI n - 1)] 76)) = W0 := ⟨_, rfl⟩
  rw [hW0] at bF hu2 hzz ⊢
  clear hW0
  have hU0 : Upd (fun _ => False) w W0 := hu0.trans' hu2 (fun i hi e => e)
  have hA0 := hA.upd hU0 (fun e => e)
  have hM0 := hM.upd hU0 (fun e => e)
  have bL0 := (hu2.block w.heap.size (by omega) (fun e => e)).trans bL
  have bC0 := hu2.boxed bC (fun e => e)
  have hI0 : Ints W0 w.heap.size A' n ls := h'.below (hU0.toBelow (fun _ e => e.elim) (Nat.le_refl _))
  have hall : powI n - 1 = ((2 ^ n - 1 - dN ls 0 : Nat) : Int) := by
    have h1 : powI (n : Int) = ((2 ^ n : Nat) : Int) := by simp [powI]
    have h2 := Nat.two_pow_pos n
    have h3 : dN ls 0 = 0 := rfl
    omega
  rw [hall] at bF
  clear hu0 hu2 bL bC hB2 hA hM h' hall
  refine wpIn_loop (fun a' wr => ∃ (k : Nat) (bs : List Nat) (v7 v8 v9 v15 v16 v17 v18 v19 v20 v21 v22 v23 v24 v25 v26 v27 v28 v29 v30 v31 v32 v33 v34 v35 v36 v37 : Value),
      (k ≤ n ∧ Boxed wr (w.heap.size + 1) 3 (.int .i64 (rkUp zs ls k : Int)) ∧ Boxed wr w2.heap.size 76 (.int .i64 ((2 ^ n - 1 - dN ls k : Nat) : Int)) ∧ MapOk zs wr m (k * 1000000) ∧
        Upd (fun i => i = m ∨ i = w.heap.size + 1 ∨ i = w2.heap.size) W0 wr ∧ Open bs wr ∧ (∀ j ∈ bs, W0.heap.size ≤ j)) ∧
      a' = { tmps := #[.agg #[Value.slice (some ⟨b, 0, none⟩) n n, .map (some m)], .slice A' n c', .pointer (some ⟨w.heap.size, 0, none⟩), undef, .int .i64 0, .pointer (some ⟨w.heap.size + 1, 0, none⟩), .pointer (some ⟨w2.heap.size, 0, none⟩), v7, v8, v9, .agg #[Value.slice (some ⟨b, 0, none⟩) n n, .map (some m)], .int .i64 (powI n - 1), .slice A' n c', .int .i64 (n : Int), .int .i64 (k : Int), v15, v16, v17, v18, v19, v20, v21, v22, v23, v24, v25, v26, v27, v28, v29, v30, v31, v32, v33, v34, v35, v36, v37], defers := marks bs })
    (fun a' _ => n - (intOf (a'.tmps.getD 14 undef)).toNat) ?_ ?_
  · exact ⟨0, [], _, _, _, _, _, _, _, _, _, _, _, _, _, _, _, _, _, _, _, _, _, _, _, _, _, _, ⟨by omega, bC0, bF, by simpa using hM0, Upd.refl _ _, ⟨List.nodup_nil, fun _ e => by cases e⟩, fun _ e => by cases e⟩, rfl⟩
  · rintro a' wr ⟨k, bs, v7, v8, v9, v15, v16, v17, v18, v19, v20, v21, v22, v23, v24, v25, v26, v27, v28, v29, v30, v31, v32, v33, v34, v35, v36, v37, ⟨hk, bC1, bF1, hM1, hU1, hop, hbs⟩, rfl⟩
    have z1 := hU1.size
    have bL1 := (hU1.block w.heap.size (by omega) (fun e => by omega)).trans bL0
    by_cases hlt : k < n
    · have hok : ∀ i, i < k → stepOk zs ls i = true := fun i hi => Hst.out i (by rw [hlen.out]; omega)
      have hkk := Hst.out k (by rw [hlen.out]; exact hlt)
      have hD := (d_is hok).2
      have hx := it_is hkk
      have hnew := d_new hok hkk
      have hru := rkUp_le hvo k hok
      have Hds := Lib.hid (d_succ hvo hok hkk)
      have Hru := Lib.hid (show rkUp zs ls (k + 1) = rkUp zs ls k + rkIn zs (dN ls k) (itN ls k) from rfl)
      have Hacc := Lib.hid (accR_all hvo hD (Nat.le_of_lt hx.2))
      have Hcom := Lib.hid (com_bit (n := n) (s := dN ls k) (j := itN ls k) hn6 (by rw [← hlen.out]; exact hD) (by have := hx.2; rw [hlen.out] at this; omega))
      rw [hlen.out] at hD hx
      clear hok hkk
      obtain ⟨bl, ol, rfl, hbl2, hcl⟩ := hI0.at_ hlt
      have hnm := hne (by omega) _ rfl
      have hck := hU1.cell (hcl k hlt) (fun e => by simp at e hnm; omega)
      rw [hx.1] at hck
      clear hcl
      have hxn := hx.2
      clear hx
      have Hlq := Lib.hid hlen.out
      rw [hlen.out] at Hacc
      generalize hxx : itN ls k = x at *
      generalize hdd : dN ls k = D at *
      generalize hrr : rkUp zs ls k = R at *
      have Hxx := Lib.hid hxx
      have Hdd := Lib.hid hdd
      have Hrr := Lib.hid hrr
      clear hxx hdd hrr
      obtain ⟨S, hS⟩ : ∃ S, 2 ^ n - 1 - D = S := ⟨_, rfl⟩
      rw [hS] at bF1 Hacc Hcom
      have hpp := Nat.two_pow_pos n
      have hSn : S < 2 ^ n := by omega
      have hS64 : S < 64 := by omega
      have HS := Lib.hid hS
      clear hS
      have bF2 := bF1.alloc (.cells #[Value.int .i64 (x : Int)] 3)
      have bI2 := Boxed.new wr 3 (.int .i64 (x : Int))
      have bC2 := bC1.alloc (.cells #[Value.int .i64 (x : Int)] 3)
      have bL2 := (Below.heap_alloc wr (.cells #[Value.int .i64 (x : Int)] 3) w.heap.size (by omega)).trans bL1
      have hu2 : Upd (fun _ => False) wr (wr.alloc (.cells #[Value.int .i64 (x : Int)] 3)) := (Upd.refl _ wr).alloc _
      have hz2 : (wr.alloc (.cells #[Value.int .i64 (x : Int)] 3)).heap.size = wr.heap.size + 1 := by simp
      have hcF := bF2.cell
      gi_wp2_with (refine wpListIn_load_row rfl _ _ rfl w.heap.size rfl _ _ (0, 0) _ bL2 Try.underlying74 rfl (by kernel_rfl) ?_)
      obtain ⟨X2, hX2⟩ : ∃ X2, (wr.alloc (.cells #[Value.int .i64 (x : Int)] 3)) = X2 := ⟨_, rfl⟩
      rw [hX2] at bF2 bI2 bC2 bL2 hu2 hz2 ⊢
      clear hX2 hcF
      have hA2 := (hA0.upd hU1 (fun e => by omega)).upd hu2 (fun e => e)
      have hNs : (S : Int) < powI n := by
        have h1 : powI (n : Int) = ((2 ^ n : Nat) : Int) := by simp [powI]
        omega
      refine (callsIn_wide.2 (free_any b m n zs S hvo.sets X2 (hA2.ints' hA2.lt (by rw [du_len, hlen.out])) (by omega) hNs)).mono ?_
      rintro e w4 ⟨rfl, hB4⟩
      have z4 := hB4.size
      have hT := topsTo_bd (du zs) (S : Int) n
      have hpn : powI n ≤ 64 := powI_le6 (by omega)
      have Hnx := Lib.hid (show itemsL (topsTo (du zs) (S : Int) n) = nextL zs S by unfold nextL; rw [hlen.out])
      generalize topsTo (du zs) (S : Int) n = T at *
      gi_wp2_with (gi_at_call 143; refine (callsIn_wide.2 (each_any _ _)).mono ?_; rintro e w' ⟨rfl, rfl⟩)
      have bE := Boxed.new w4 76 (.int .i64 T)
      have hu4 : Upd (fun _ => False) X2 (w4.alloc (.cells #[Value.int .i64 T] 76)) := ((Upd.refl _ X2).below hB4 (fun k h1 h2 => by omega)).alloc _
      have hz4 : (w4.alloc (.cells #[Value.int .i64 T] 76)).heap.size = w4.heap.size + 1 := by simp
      obtain ⟨W5, hW5⟩ : ∃ W5, w4.alloc (.cells #[Value.int .i64 T] 76) = W5 := ⟨_, rfl⟩
      rw [hW5] at bE hu4 hz4 ⊢
      clear hW5
      have hV5 : Upd (fun _ => False) wr W5 := hu2.trans' hu4 (fun i hi e => e)
      have hA5 := hA2.upd hu4 (fun e => e)
      have hM5 := hM1.upd hV5 (fun e => e)
      have bL5 := (hu4.block w.heap.size (by omega) (fun e => e)).trans bL2
      have bF5 := hu4.boxed bF2 (fun e => e)
      have bI5 := hu4.boxed bI2 (fun e => e)
      have bC5 := hu4.boxed bC2 (fun e => e)
      have hop5 := hop.upd hV5 (fun j _ e => e)
      have hbl5 : ∀ j ∈ bs, j < wr.heap.size := fun j hj => (Array.getElem?_eq_some_iff.1 (hop.2 j hj)).1
      clear hu2 hu4 bL2 bF2 bI2 bC2 hA2 hB4
      refine range_out (n := 9) (gf := 177) (lb := #[.pointer (some ⟨w4.heap.size, 0, none⟩)]) rfl (enters_of Try.func177 (by kernel_rfl) rfl) (encs := encI) (L := itemsL T)
        (fun i => i = m ∨ i = w.heap.size + 1) (fun i e => by omega) (fun _ => rfl)
        (fun W1 l1 hu1 hl1 hl2 => each_iter T hT.1 (by omega) _ _ W1 (hu1.boxed bE (fun e => e)) (fun e => by omega))
        (fun pre D W => Boxed W (w.heap.size + 1) 3 (.int .i64 (midR zs S x R pre : Int)) ∧ MapOk zs W m (k * 1000000 + pre.length * 117649) ∧ Upd (fun i => i = m ∨ i = w.heap.size + 1) W5 W)
        (fun _ _ _ _ => False)
        (fun _ D X Y hs hu => ⟨hu.boxed hs.1 (fun e => by omega), hs.2.1.upd hu (fun e => by omega), hs.2.2.trans' hu (fun i hi e => by omega)⟩)
        (fun _ _ _ _ _ hs _ => hs)
        ⟨by simpa [midR, accR] using bC5, by simpa using hM5, Upd.refl _ _⟩ ?owes ?done ?stop
      case owes =>
        rintro l1 pre y D1 W hl1 hl2 hDl hD1 - hpre K hK
        gi_wp2
        refine hK _ _ (Upd.refl _ _) ?_
        rintro Wb hWb - ⟨bC6, hM6, hU⟩
        clear hK
        rw [Hnx.out] at hpre
        obtain ⟨hyn, hyb⟩ := nextL_mem hvo (hpre.subset (by simp : y ∈ pre ++ [y]))
        rw [hlen.out] at hyn
        have hpl : pre.length + 1 ≤ 6 := by
          have h1 := hpre.length_le
          have h2 := nextL_len hvo S
          simp at h1; omega
        have hsb2 := hU.size
        have hsb : w.heap.size + 3 ≤ Wb.heap.size := by omega
        have bFb := hU.boxed bF5 (fun e => by omega)
        have bIb := hU.boxed bI5 (fun e => by omega)
        have bLb := (hU.block w.heap.size (by omega) (fun e => by omega)).trans bL5
        have hcI := bIb.cell
        by_cases hyx : y < x
        · have hge := ge_bit_fin ⟨S, hS64⟩ ⟨y, by omega⟩ hyb
          simp only at hge
          have hpx := Nat.two_pow_pos y
          have Hac := Lib.hid (accR_yes (zs := zs) (S := S) (pre := pre) hyx)
          have hab := accR_le hvo (S := S) (item := x) (by rw [hlen.out]; exact hSn) (pre ++ [y])
          rw [Hac.out, List.length_append, List.length_singleton] at hab
          have Hwo := Lib.hid (without_is hS64 (show y < 6 by omega) hyb)
          have bC1d : Boxed Wb.drew (w.heap.size + 1) 3 (.int .i64 (midR zs S x R pre : Int)) := bC6
          have hAb : Arr Wb b 76 (du zs) := hA5.upd hU (fun e => by omega)
          have hAd : Arr Wb.drew b 76 (du zs) := hAb
          have hMd : MapOk zs Wb.drew m (k * 1000000 + pre.length * 117649) := hM6
          have hq1 := (writes_le (show S - 2 ^ y < 64 by omega)).2
          have hrec := fun w' hA' hM' => lcount_any zs hvo n hlen.out b m hbm _ (S - 2 ^ y) (k * 1000000 + pre.length * 117649) w' (Nat.le_refl _) (by omega) hA' hM' (by omega)
          have Hlen2 := Lib.hid (show k * 1000000 + pre.length * 117649 + writes (S - 2 ^ y) ≤ k * 1000000 + (pre ++ [y]).length * 117649 by rw [List.length_append, List.length_singleton, Nat.add_mul]; omega)
          have Hacc3 := Lib.hid (show midR zs S x R (pre ++ [y]) = midR zs S x R pre + cF zs (S - 2 ^ y) by unfold midR; rw [Hac.out]; omega)
          have hru2 : midR zs S x R pre + cF zs (S - 2 ^ y) ≤ 100000000 := by unfold midR; omega
          generalize hacc : midR zs S x R pre = acc at *
          clear hacc hab
          obtain ⟨c, hc⟩ : ∃ c, cF zs (S - 2 ^ y) = c := ⟨_, rfl⟩
          rw [hc] at hru2 Hacc3
          simp only [hc] at hrec
          clear hc
          have hsum : IntKind.i64.wrap ((acc : Int) + (c : Int)) = ((acc + c : Nat) : Int) := by rw [IntKind.wrap_i64]; omega
          have hHeld : (fun w' => w'.cell? ⟨w.heap.size + 1, 0, none⟩ = some (.int .i64 (acc : Int)) ∧ w'.heap[w.heap.size]? = some (.cells #[Value.slice (some ⟨b, 0, none⟩) n n, .map (some m)] 74 (0, 0)) ∧ w'.cell? ⟨w2.heap.size, 0, none⟩ = some (.int .i64 (S : Int))) Wb.drew := ⟨bC6.cell, bLb, bFb.cell⟩
          gi_wp2
          refine region_T_round (S := fun w' => w'.cell? ⟨w.heap.size + 1, 0, none⟩ = some (.int .i64 (acc : Int)) ∧ w'.heap[w.heap.size]? = some (.cells #[Value.slice (some ⟨b, 0, none⟩) n n, .map (some m)] 74 (0, 0)) ∧ w'.cell? ⟨w2.heap.size, 0, none⟩ = some (.int .i64 (S : Int))) 7 (by kernel_rfl) (by kernel_rfl) (by rintro ⟨_, _, h⟩; exact h) ?_
          refine anyT_take (i := 0) (oi := ?oi0) (v := ?v0) ?hi0 (by kernel_rfl) ?hq0 ?hy0 (by assumption) ?rest0
          case hi0 => (simp only [List.getElem?_toArray, List.getElem?_cons_zero]; first | done | rfl)
          case hq0 => exact fun _ _ _ h => h
          case hy0 => (refine Or.inl ⟨by rfl, ?_⟩; intro wz hSw; obtain ⟨hSa, hSb, hSc⟩ := hSw; go_simp; first | done | with_reducible rfl)
          try simp only [Act.put, List.setIfInBounds_toArray, List.set_cons_zero, List.set_cons_succ]
          refine anyT_take (i := 1) (oi := ?oi1) (v := .agg #[Value.slice (some ⟨b, 0, none⟩) n n, .map (some m)]) ?hi1 (by kernel_rfl) ?hq1 ?hy1 (by assumption) ?rest1
          case hi1 => (simp only [List.getElem?_toArray, List.getElem?_cons_succ, List.getElem?_cons_zero]; first | done | rfl)
          case hq1 => exact fun _ _ _ h => h
          case hy1 => exact yieldsIf_load_row (by rfl) _ _ rfl _ rfl _ _ _ (fun _ h => h.2.1) Try.underlying74 rfl (by kernel_rfl)
          try simp only [Act.put, List.setIfInBounds_toArray, List.set_cons_zero, List.set_cons_succ]
          refine anyT_take (i := 2) (oi := ?oi2) (v := ?v2) ?hi2 (by kernel_rfl) ?hq2 ?hy2 (by assumption) ?rest2
          case hi2 => (simp only [List.getElem?_toArray, List.getElem?_cons_succ, List.getElem?_cons_zero]; first | done | rfl)
          case hq2 => exact fun _ _ _ h => h
          case hy2 => (refine Or.inl ⟨by rfl, ?_⟩; intro wz hSw; obtain ⟨hSa, hSb, hSc⟩ := hSw; go_simp; first | done | with_reducible rfl)
          try simp only [Act.put, List.setIfInBounds_toArray, List.set_cons_zero, List.set_cons_succ]
          refine anyT_take (i := 3) (oi := ?oi3) (v := ?v3) ?hi3 (by kernel_rfl) ?hq3 ?hy3 (by assumption) ?rest3
          case hi3 => (simp only [List.getElem?_toArray, List.getElem?_cons_succ, List.getElem?_cons_zero]; first | done | rfl)
          case hq3 => exact fun _ _ _ h => h
          case hy3 => (refine Or.inl ⟨by rfl, ?_⟩; intro wz hSw; obtain ⟨hSa, hSb, hSc⟩ := hSw; go_simp; first | done | with_reducible rfl)
          try simp only [Act.put, List.setIfInBounds_toArray, List.set_cons_zero, List.set_cons_succ]
          refine anyT_one (i := 4) (by kernel_rfl) rfl (fun K' hK => ?_)
          go_simp
          refine (without_any _ _ _ (by omega) (by omega) (by omega) (by omega)).mono ?_
          rintro e wq ⟨rfl, rfl⟩
          rw [Hwo.out]
          refine hK.out _ _ (fun _ => hHeld) ?_
          clear hK K'
          try simp only [Act.put, List.setIfInBounds_toArray, List.set_cons_zero, List.set_cons_succ]
          refine anyT_one (i := 5) (by kernel_rfl) rfl (fun K' hK => ?_)
          go_simp
          refine (hrec Wb.drew hAd hMd).mono ?_
          rintro e w6 ⟨rfl, hM6, hU6⟩
          have h6 : (fun w' => w'.cell? ⟨w.heap.size + 1, 0, none⟩ = some (.int .i64 (acc : Int)) ∧ w'.heap[w.heap.size]? = some (.cells #[Value.slice (some ⟨b, 0, none⟩) n n, .map (some m)] 74 (0, 0)) ∧ w'.cell? ⟨w2.heap.size, 0, none⟩ = some (.int .i64 (S : Int))) w6 := ⟨hU6.cell hHeld.1 (by simp; omega), (hU6.block w.heap.size (by have := hsb; simp; omega) (by omega)).trans hHeld.2.1, hU6.cell hHeld.2.2 (by simp; omega)⟩
          refine hK.out _ _ (fun _ => h6) ?_
          clear hK K' hHeld
          have hHeld := h6
          try simp only [Act.put, List.setIfInBounds_toArray, List.set_cons_zero, List.set_cons_succ]
          refine anyT_take (i := 6) (oi := ?oi6) (v := .int .i64 ((acc + c : Nat) : Int)) ?hi6 (by kernel_rfl) ?hq6 ?hy6 (by assumption) ?rest6
          case hi6 => (simp only [List.getElem?_toArray, List.getElem?_cons_succ, List.getElem?_cons_zero]; first | done | rfl)
          case hq6 => exact fun _ _ _ h => h
          case hy6 => (refine Or.inl ⟨by rfl, ?_⟩; intro wz hSw; obtain ⟨hSa, hSb, hSc⟩ := hSw; go_simp; first | done | with_reducible rfl | simp)
          try simp only [Act.put, List.setIfInBounds_toArray, List.set_cons_zero, List.set_cons_succ]
          have bC6 : Boxed w6 (w.heap.size + 1) 3 (.int .i64 (acc : Int)) := hU6.boxed bC1d (by omega)
          have hcC6 := bC6.cell
          have hfC6 := bC6.frozen
          refine anyT_one (i := 7) (by kernel_rfl) rfl (fun K' hK => ?_)
          go_simp
          refine hK.out _ _ (fun h => absurd rfl h) ?_
          clear hK K'
          try simp only [Act.put, List.setIfInBounds_toArray, List.set_cons_zero, List.set_cons_succ]
          refine anyT_done (by kernel_rfl) ?_ _
          have hz6 : Wb.heap.size ≤ w6.heap.size := hU6.size
          have hus : Upd (fun i => i = w.heap.size + 1) w6 (w6.setCell ⟨w.heap.size + 1, 0, none⟩ (.int .i64 ((acc + c : Nat) : Int))) := (Upd.refl (fun i => i = w.heap.size + 1) w6).setCell (p := ⟨w.heap.size + 1, 0, none⟩) (.inr rfl) _
          have hM7 : MapOk zs w6 m (k * 1000000 + (pre ++ [y]).length * 117649) := hM6.mono Hlen2.out
          have hU7 : Upd (fun i => i = m ∨ i = w.heap.size + 1) W5 w6 := hU.drew.trans' hU6 (fun i hi e => .inl e)
          have hV7 : Upd (fun i => (i = m ∨ i = w.heap.size + 1) ∨ D1 i ∨ W.heap.size ≤ i) Wb w6 := (Upd.refl _ Wb).drew.trans' hU6 (fun i hi e => .inl (.inl e))
          gi_wp2
          exact ⟨D1, ⟨by rw [Hacc3.out]; exact bC6.set _, hM7.upd hus (fun e => by omega), hU7.setCell (p := ⟨w.heap.size + 1, 0, none⟩) (.inr (.inr rfl)) _⟩, hV7.setCell (p := ⟨w.heap.size + 1, 0, none⟩) (.inr (.inl (.inr rfl))) _, fun k hk => .inl hk⟩
        · have Hac := Lib.hid (show midR zs S x R (pre ++ [y]) = midR zs S x R pre by unfold midR; rw [accR_no hyx])
          have hM7 : MapOk zs Wb m (k * 1000000 + (pre ++ [y]).length * 117649) := hM6.mono (by rw [List.length_append, List.length_singleton, Nat.add_mul]; omega)
          gi_wp2
          exact ⟨D1, ⟨by rw [Hac.out]; exact bC6, hM7, hU⟩, Upd.refl _ _, fun k hk => .inl hk⟩
      case done =>
        rintro d D1 W hd ⟨bC6, hM6, hU⟩ hD1 hKd
        rw [Hnx.out] at bC6 hM6
        have Hmid := Lib.hid (show midR zs S x R (nextL zs S) = rkUp zs ls (k + 1) by unfold midR; rw [Hacc.out, Hru.out])
        rw [Hmid.out] at bC6
        have hxS : S.testBit x = true := by rw [Hcom.out, hnew]; simp [hxn]
        have Hwo := Lib.hid (without_is hS64 (show x < 6 by omega) hxS)
        have hgx := ge_bit_fin ⟨S, hS64⟩ ⟨x, by omega⟩ hxS
        simp only at hgx
        have Hnew := Lib.hid (show S - 2 ^ x = 2 ^ n - 1 - dN ls (k + 1) by rw [Hds.out, ← HS.out]; omega)
        have hll := nextL_len hvo S
        have hM7 := hM6.mono (show k * 1000000 + (nextL zs S).length * 117649 ≤ (k + 1) * 1000000 by omega)
        have hlt2 := (Array.getElem?_eq_some_iff.1 hKd).1
        have hz7 := hU.size
        have bFd := hU.boxed bF5 (fun e => by omega)
        have bId := hU.boxed bI5 (fun e => by omega)
        have hcFd := bFd.cell
        have hfFd := bFd.frozen
        have hcId := bId.cell
        have hopd := hop5.upd hU (fun j hj e => by have := hbs j hj; omega)
        have hUd : Upd (fun i => i = m ∨ i = w.heap.size + 1 ∨ i = w2.heap.size) W0 W := (hU1.trans' hV5 (fun i hi e => e.elim)).trans' hU (fun i hi e => by omega)
        gi_wp2_with (gi_at_call 134; refine (callsIn_wide.2 (without_any _ _ _ (by omega) (by omega) (by omega) (by omega))).mono ?_; rw [Hwo.out]; rintro e w' ⟨rfl, rfl⟩)
        have hus : Upd (fun i => i = w2.heap.size) W (W.setCell ⟨w2.heap.size, 0, none⟩ (.int .i64 ((S - 2 ^ x : Nat) : Int))) := (Upd.refl (fun i => i = w2.heap.size) W).setCell (p := ⟨w2.heap.size, 0, none⟩) (.inr rfl) _
        have bF9 := bFd.set (.int .i64 ((S - 2 ^ x : Nat) : Int))
        rw [Hnew.out] at bF9 hus ⊢
        have bC9 := hus.boxed bC6 (by omega)
        have hM9 := hM7.upd hus (by omega)
        have hop9 := (hopd.cons hKd (fun e => by have := hbl5 d e; omega)).upd hus (fun j hj e => by
          rcases List.mem_cons.1 hj with rfl | hj
          · omega
          · have := hbs j hj; omega)
        have hU9 := hUd.trans' hus (fun i hi e => by omega)
        obtain ⟨W9, hW9⟩ : ∃ W9, W.setCell ⟨w2.heap.size, 0, none⟩ (.int .i64 ((2 ^ n - 1 - dN ls (k + 1) : Nat) : Int)) = W9 := ⟨_, rfl⟩
        rw [hW9] at bF9 bC9 hM9 hop9 hU9 ⊢
        clear hW9 hus
        gi_wp2
        refine ⟨⟨k + 1, d :: bs, _, _, _, _, _, _, _, _, _, _, _, _, _, _, _, _, _, _, _, _, _, _, _, _, _, _, ⟨by omega, bC9, bF9, hM9, hU9, hop9, fun j hj => ?_⟩, rfl⟩, ?_⟩
        · rcases List.mem_cons.1 hj with rfl | hj
          · omega
          · exact hbs j hj
        · simp [intOf]; omega
      case stop =>
        rintro d D1 co pre W hd hpre h
        exact h.elim
    · obtain rfl : k = n := by omega
      have hcC := bC1.cell
      gi_wp2
      refine leaves_marks bs wr hop (fun W' hu' => ⟨.int .i64 (rkUp zs ls k : Int), by simp [results, Try.f103, go_sem], rfl, ?_⟩)
      exact ((hU0.mono fun _ _ e => e.elim).trans' hU1 (fun i hi e => by omega)).trans' hu' (fun i hi e => by have := hbs i e; omega)

set_option maxHeartbeats 2000000 in
theorem LineRank_any (A : Option Addr) (n c : Nat) (zs : List Int) (A' : Option Addr) (n' c' : Nat) (ls : List Int) (w : World) (h : Ints w w.heap.size A n zs) (h' : Ints w w.heap.size A' n' ls) (hbig : n ≤ 1152921504606846976) (hbig' : n' ≤ 1152921504606846976) :
    Calls Try.prog 49 #[.slice A n c, .slice A' n' c'] w fun e w' => e = .returned (.int .i64 (rankR zs ls)) ∧ Below w.heap.size w w' := by
  have hlen := Lib.hid h.len
  have hlen' := Lib.hid h'.len
  cases hv : vo zs
  · have Ht := Lib.hid (show rankR zs ls = -1 by unfold rankR isLineR; rw [hv]; rfl)
    have Hv := Lib.hid hv
    clear hv
    go_enter Try.func49, Try.ntmps49
    go_wp2_with fail
    refine (readOrder_any _ _ _ zs _ h hbig).mono ?_
    rintro e w' ⟨hB, (⟨hv, b, rfl, _, _⟩ | ⟨_, rfl⟩)⟩
    · rw [Hv.out] at hv; cases hv
    · go_wp2_with fail
      go_ret
      exact ⟨ret_int Ht.out.symm, hB⟩
  · have hvo : VoP zs := by simpa [vo] using hv
    have Hv := Lib.hid hv
    clear hv
    have hn6 : n ≤ 6 := by have := hvo.1; rw [hlen.out] at this; exact this
    go_enter Try.func49, Try.ntmps49
    go_wp2_with fail
    refine (readOrder_any _ _ _ zs _ h hbig).mono ?_
    rintro e w1 ⟨hB, (⟨_, b, rfl, hb, hAr⟩ | ⟨hv, _⟩)⟩
    · have z1 := hB.size
      have j1 := h'.to hB (Nat.le_refl _) z1
      go_wp2_with fail
      refine (lineup_any _ n _ zs hvo.sets _ (hAr.ints' hAr.lt hlen.out)).mono ?_
      rintro e w2 ⟨bd, bm, rfl, hA2, hm2, hbd, hbm, hne, hB2⟩
      unfold lineV
      have z2 := hB2.size
      have C2 := hB.trans (hB2.mono z1)
      have l2 := hA2.lt
      have hm2l := (Array.getElem?_eq_some_iff.1 hm2).1
      have hs0 : (w2.alloc (.cells #[Value.slice (some ⟨bd, 0, none⟩) n n, .map (some bm)] 74)).heap[w2.heap.size]? = some (.cells #[Value.slice (some ⟨bd, 0, none⟩) n n, .map (some bm)] 74 (0, 0)) := heap_alloc_new w2 _
      have hU3 : Upd (fun _ => False) w2 (w2.alloc (.cells #[Value.slice (some ⟨bd, 0, none⟩) n n, .map (some bm)] 74)) := (Upd.refl _ w2).alloc _
      have hz3 : (w2.alloc (.cells #[Value.slice (some ⟨bd, 0, none⟩) n n, .map (some bm)] 74)).heap.size = w2.heap.size + 1 := by simp
      go_wp2_with (refine wpList_load_row rfl _ _ rfl w2.heap.size rfl _ _ (0, 0) _ hs0 Try.underlying74 rfl (by kernel_rfl) ?_)
      obtain ⟨W3, hW3⟩ : ∃ W3, w2.alloc (.cells #[Value.slice (some ⟨bd, 0, none⟩) n n, .map (some bm)] 74) = W3 := ⟨_, rfl⟩
      rw [hW3] at hs0 hU3 hz3 ⊢
      clear hW3
      have hA3 := hA2.upd hU3 (fun e => e)
      have hM3 : MapOk zs W3 bm 0 := (MapOk.new hm2).upd hU3 (fun e => e)
      have C3 := C2.trans (hU3.toBelow (B := w.heap.size) (fun _ e => e.elim) (by omega))
      have j3 := h'.to C3 (Nat.le_refl _) (C3.size)
      clear hU3
      refine (lisLine_any bd bm n A' n' c' zs ls hvo hlen.out W3 (hA3.ints' hA3.lt (by rw [du_len, hlen.out])) j3 hbig').mono ?_
      cases hli : lineB zs ls
      · have Ht := Lib.hid (show rankR zs ls = -1 by unfold rankR isLineR; rw [hli, Hv.out]; rfl)
        clear hli
        rintro e w4 ⟨rfl, hB4⟩
        go_wp2_with fail
        go_ret
        exact ⟨ret_int Ht.out.symm, C3.trans (hB4.mono C3.size)⟩
      · have hst := line_steps hli
        have hnn : n' = n := by have h1 := hlen.out; have h2 := hlen'.out; omega
        subst hnn
        have Ht := Lib.hid (show rankR zs ls = (rkUp zs ls n' : Int) by unfold rankR isLineR; rw [hli, Hv.out, hlen'.out]; rfl)
        have Hli := Lib.hid hli
        clear hli hst
        rintro e w4 ⟨rfl, hB4⟩
        have z4 := hB4.size
        have hs4 := (hB4.block w2.heap.size (by omega)).trans hs0
        have hA4 := hA3.below hB4 hA3.lt
        have hM4 := hM3.upd (Below.toUpd hB4) (fun e => by have := hM3.lt; omega)
        have C4 := C3.trans (hB4.mono C3.size)
        have j4 := h'.to C4 (Nat.le_refl _) (C4.size)
        go_wp2_with (refine wpList_load_row rfl _ _ rfl w2.heap.size rfl _ _ (0, 0) _ hs4 Try.underlying74 rfl (by kernel_rfl) ?_)
        refine (lrank_any zs ls hvo Hli.out n' hlen.out bd bm hne A' c' w4 hA4 hM4 j4 (fun hn a e => ?_)).mono ?_
        · obtain ⟨ba, oa, e2, hba, -⟩ := h'.at_ hn
          rw [e] at e2
          cases e2
          show ba ≠ bm
          omega
        · rintro e w5 ⟨rfl, hU5⟩
          go_wp2_with fail
          go_ret
          exact ⟨ret_int Ht.out.symm, C4.trans (hU5.toBelow (fun i e => by omega) C4.size)⟩
    · rw [Hv.out] at hv; cases hv
end Go.Proofs.Ytghogabmkbadjab

/- LineAt: the program's. -/
import Derived.Test.YtghogabmkbadjabGb
import Derived.Test.YtghogabmkbadjabGxm
import Derived.Test.YtghogabmkbadjabGd
import Derived.Test.YtghogabmkbadjabRankI
set_option linter.unusedVariables false
set_option linter.unusedSimpArgs false
namespace Go.Proofs.Ytghogabmkbadjab
open Go.RowKit Go.Shelf
attribute [local go_sem] Oper.semAt_some
attribute [local go_sem, local simp] wide_fn

theorem OwnS.keepIn {S R : Nat → Prop} {w w' : World} {B : Nat} {e : TypeId} {v : Value} {xs : List Int} (h : OwnS S w B e v xs) (hu : Upd R w w') (hS : ∀ k, S k → k < w.heap.size → ¬ R k) : OwnS S w' B e v xs := by
  obtain ⟨h0, h1⟩ := h
  refine ⟨h0, h1.1, ?_⟩
  rcases h1.2 with e | ⟨g, cap, cur, rfl, hg, hc, hrest⟩
  · exact .inl e
  · have hl := (Array.getElem?_eq_some_iff.1 hc).1
    exact .inr ⟨g, cap, cur, rfl, hg, (hu.block g hl (hS g (h0 g rfl) hl)).trans hc, hrest⟩

theorem mem_next {zs : List Int} (h : VoP zs) {D x : Nat} (hD : D < 2 ^ zs.length) (hm : x ∈ nextL zs (2 ^ zs.length - 1 - D)) : nextE zs D x = true := by
  have hx := (nextL_mem h hm).1
  rw [nextL_is h, List.mem_filter, List.mem_range] at hm
  rw [nextE_eF h hD hx]
  exact hm.2
/-- Ahead of the item to come: what is counted is no more than the rank. -/
theorem at_step {zs : List Int} (h : VoP zs) {D x y P : Nat} (hD : D < 2 ^ zs.length) (hm : y ∈ nextL zs (2 ^ zs.length - 1 - D)) (hyx : y < x) (hP : rkIn zs D x ≤ P) : rkIn zs D y + cF zs (2 ^ zs.length - 1 - D - 2 ^ y) ≤ P := by
  have h1 := rkIn_succ zs D y
  rw [mem_next h hD hm, if_pos rfl, Nat.sub_add_eq] at h1
  have h2 := rkIn_mono' (zs := zs) (D := D) (show y + 1 ≤ x from hyx)
  omega

set_option maxRecDepth 100000 in
set_option maxHeartbeats 8000000 in
theorem lat_any (zs : List Int) (hvo : VoP zs) (R n : Nat) (hlen0 : zs.length = n) (hR : R < cF zs (2 ^ zs.length - 1)) (b m : Nat) (hbm : b ≠ m) (w : World) (hA : Arr w b 76 (du zs)) (hM : MapOk zs w m 1000000) :
    Calls Try.prog 146 #[lineV b m n, .int .i64 (R : Int)] w fun e w' => ∃ v, e = .returned v ∧ OwnS (fun k => w.heap.size ≤ k) w' w.heap.size 3 v (atL zs R n) ∧ Upd (fun i => i = m) w w' := by
  obtain ⟨i0, hi0, hz0, hz1, hz2⟩ := info_parts infoInt
  have hlen := Lib.hid hlen0
  have hn6 : n ≤ 6 := by have := hvo.1; rw [hlen0] at this; exact this
  have hml := hM.lt
  have hbl := hA.lt
  have hp64 := pow_le64 hn6
  have Hok := Lib.hid (fun k hk => stA_ok hvo hR (k := k) hk)
  have Hst := Lib.hid (fun k (hk : k < zs.length) => stA_step hvo hR hk)
  have hR6 := cF_le hvo (s := 2 ^ n - 1) (by rw [hlen0]; have := Nat.two_pow_pos n; omega)
  rw [hlen0] at hR
  clear hlen0
  unfold lineV
  refine (callsIn_wide (n := 9)).1 ?_
  refine callsIn_of_wp_marks Try.func146 rfl trivial ?_ rfl
  simp only [Try.ntmps146, List.size_toArray, List.length_cons, List.length_nil, Nat.reduceAdd, Nat.reduceSub, Array.replicate_succ, Array.replicate_zero, List.push_toArray, List.append_toArray, List.nil_append, List.cons_append]
  have bL : (((w.alloc (.cells #[Value.slice (some ⟨b, 0, none⟩) n n, .map (some m)] 74)).alloc (.cells #[Value.int .i64 (R : Int)] 3)).alloc (.cells #[Value.slice none 0 0] 22)).heap[w.heap.size]? = some (.cells #[Value.slice (some ⟨b, 0, none⟩) n n, .map (some m)] 74 (0, 0)) := ((Below.heap_alloc _ _ _ (by simp; omega)).trans (Below.heap_alloc _ _ _ (by simp))).trans (heap_alloc_new w _)
  have bR := (Boxed.new (w.alloc (.cells #[Value.slice (some ⟨b, 0, none⟩) n n, .map (some m)] 74)) 3 (.int .i64 (R : Int))).alloc (.cells #[Value.slice none 0 0] 22)
  have bV := Boxed.new ((w.alloc (.cells #[Value.slice (some ⟨b, 0, none⟩) n n, .map (some m)] 74)).alloc (.cells #[Value.int .i64 (R : Int)] 3)) 22 (.slice none 0 0)
  have hu0 : Upd (fun _ => False) w (((w.alloc (.cells #[Value.slice (some ⟨b, 0, none⟩) n n, .map (some m)] 74)).alloc (.cells #[Value.int .i64 (R : Int)] 3)).alloc (.cells #[Value.slice none 0 0] 22)) := (((Upd.refl _ w).alloc _).alloc _).alloc _
  have hz0' : (((w.alloc (.cells #[Value.slice (some ⟨b, 0, none⟩) n n, .map (some m)] 74)).alloc (.cells #[Value.int .i64 (R : Int)] 3)).alloc (.cells #[Value.slice none 0 0] 22)).heap.size = w.heap.size + 3 := by simp
  simp only [World.size_alloc] at bR bV
  gi_wp2_with (refine wpListIn_load_row rfl _ _ rfl w.heap.size rfl _ _ (0, 0) _ bL Try.underlying74 rfl (by kernel_rfl) ?_)
  obtain ⟨X, hX⟩ : ∃ X, (((w.alloc (.cells #[Value.slice (some ⟨b, 0, none⟩) n n, .map (some m)] 74)).alloc (.cells #[Value.int .i64 (R : Int)] 3)).alloc (.cells #[Value.slice none 0 0] 22)) = X := ⟨_, rfl⟩
  rw [hX] at bL bR bV hu0 hz0' ⊢
  clear hX
  refine (callsIn_wide.2 (lall2_any b m n X hn6)).mono ?_
  rintro e w2 ⟨rfl, hB2⟩
  have z2 := hB2.size
  have bF := Boxed.new w2 76 (.int .i64 (powI n - 1))
  have hu2 : Upd (fun _ => False) X (w2.alloc (.cells #[Value.int .i64 (powI n - 1)] 76)) := ((Upd.refl _ X).below hB2 (fun k h1 h2 => by omega)).alloc _
  have hzz : (w2.alloc (.cells #[Value.int .i64 (powI n - 1)] 76)).heap.size = w2.heap.size + 1 := by simp
  have bL0 := (hu2.block w.heap.size (by omega) (fun e => e)).trans bL
  have hcL : (w2.alloc (.cells #[Value.int .i64 (powI n - 1)] 76)).cell? ⟨w.heap.size, 0, none⟩ = some (.slice (some ⟨b, 0, none⟩) n n) := by rw [cell_of_row _ _ 0 _ _ (0, 0) bL0]; rfl
  gi_wp2
  obtain ⟨W0, hW0⟩ : ∃ W0, (w2.alloc (.cells #[Value.int .i64 (powI n - 1)] 76)) = W0 := ⟨_, rfl⟩
  rw [hW0] at bF hu2 hzz bL0 hcL ⊢
  clear hW0
  have hU0 : Upd (fun _ => False) w W0 := hu0.trans' hu2 (fun i hi e => e)
  have hA0 := hA.upd hU0 (fun e => e)
  have hM0 := hM.upd hU0 (fun e => e)
  have bR0 := hu2.boxed bR (fun e => e)
  have bV0 := hu2.boxed bV (fun e => e)
  have hall : powI n - 1 = ((2 ^ n - 1 - (stA zs R 0).1 : Nat) : Int) := by
    have h1 : powI (n : Int) = ((2 ^ n : Nat) : Int) := by simp [powI]
    have h2 := Nat.two_pow_pos n
    have h3 : (stA zs R 0).1 = 0 := rfl
    omega
  rw [hall] at bF
  clear hall
  have hRs : (stA zs R 0).2 = R := rfl
  refine wpIn_loop (fun a' wr => ∃ (k : Nat) (bs : List Nat) (v v7 v8 v9 v16 v17 v18 v19 v20 v21 v22 v23 v24 v25 v26 v27 v28 v29 v30 v31 v32 v33 v34 v35 v36 v37 v38 v39 v40 : Value),
      (k ≤ n ∧ Boxed wr (w.heap.size + 1) 3 (.int .i64 ((stA zs R k).2 : Int)) ∧ Boxed wr (w.heap.size + 1 + 1) 22 v ∧ OwnS (fun g => W0.heap.size ≤ g ∧ g ∉ bs) wr w.heap.size 3 v (atL zs R k) ∧
        Boxed wr w2.heap.size 76 (.int .i64 ((2 ^ n - 1 - (stA zs R k).1 : Nat) : Int)) ∧ MapOk zs wr m (1000000 + k * 1000000) ∧
        Upd (fun i => i = m ∨ i = w.heap.size + 1 ∨ i = w.heap.size + 1 + 1 ∨ i = w2.heap.size) W0 wr ∧ Open bs wr ∧ (∀ j ∈ bs, W0.heap.size ≤ j)) ∧
      a' = { tmps := #[.agg #[Value.slice (some ⟨b, 0, none⟩) n n, .map (some m)], .int .i64 (R : Int), .pointer (some ⟨w.heap.size, 0, none⟩), .pointer (some ⟨w.heap.size + 1, 0, none⟩), .slice none 0 0, .pointer (some ⟨w.heap.size + 1 + 1, 0, none⟩), .pointer (some ⟨w2.heap.size, 0, none⟩), v7, v8, v9, .agg #[Value.slice (some ⟨b, 0, none⟩) n n, .map (some m)], .int .i64 (powI n - 1), .pointer (some ⟨w.heap.size, 0, none⟩), .slice (some ⟨b, 0, none⟩) n n, .int .i64 (n : Int), .int .i64 (k : Int), v16, v17, v18, v19, v20, v21, v22, v23, v24, v25, v26, v27, v28, v29, v30, v31, v32, v33, v34, v35, v36, v37, v38, v39, v40], defers := marks bs })
    (fun a' _ => n - (intOf (a'.tmps.getD 15 undef)).toNat) ?_ ?_
  · exact ⟨0, [], _, _, _, _, _, _, _, _, _, _, _, _, _, _, _, _, _, _, _, _, _, _, _, _, _, _, _, _, _, ⟨by omega, bR0, bV0, OwnS.none _ _ _ _, bF, hM0.mono (Nat.le_add_right _ _), Upd.refl _ _, ⟨List.nodup_nil, fun _ e => by cases e⟩, fun _ e => by cases e⟩, rfl⟩
  · rintro a' wr ⟨k, bs, v, v7, v8, v9, v16, v17, v18, v19, v20, v21, v22, v23, v24, v25, v26, v27, v28, v29, v30, v31, v32, v33, v34, v35, v36, v37, v38, v39, v40, ⟨hk, bR1, bV1, hO1, bF1, hM1, hU1, hop, hbs⟩, rfl⟩
    have z1 := hU1.size
    have bL1 := (hU1.block w.heap.size (by omega) (fun e => by omega)).trans bL0
    by_cases hlt : k < n
    · have hD := (Hst.out k (by rw [hlen.out]; exact hlt)).1
      have hP := (Hst.out k (by rw [hlen.out]; exact hlt)).2.1
      have hPr := (Hst.out k (by rw [hlen.out]; exact hlt)).2.2
      have hpk := pk_ok hPr
      have hpn := pk_next hPr
      have hpc := pk_cnt hPr
      have Hs1 := Lib.hid (show stA zs R (k + 1) = ((stA zs R k).1 + 2 ^ pk zs (stA zs R k).1 (stA zs R k).2, (stA zs R k).2 - rkIn zs (stA zs R k).1 (pk zs (stA zs R k).1 (stA zs R k).2)) from rfl)
      have Hl1 := Lib.hid (show atL zs R (k + 1) = atL zs R k ++ [(pk zs (stA zs R k).1 (stA zs R k).2 : Int)] from rfl)
      have Hmem := Lib.hid (next_mem hvo hD hpk.1 hpn)
      have Hat := Lib.hid (fun (pre : List Nat) (y : Nat) (e : pre ++ [y] <+: nextL zs (2 ^ zs.length - 1 - (stA zs R k).1)) => accF_at hvo hD e)
      have Hmono := Lib.hid (fun a b (e : a ≤ b) => rkIn_mono' (zs := zs) (D := (stA zs R k).1) e)
      have Hstep := Lib.hid (fun (y : Nat) (hm : y ∈ nextL zs (2 ^ zs.length - 1 - (stA zs R k).1)) (hyx : y < pk zs (stA zs R k).1 (stA zs R k).2) => at_step hvo hD hm hyx hpk.2.1)
      rw [hlen.out] at hD hpk hpc Hmem Hat Hstep
      clear hPr
      have hln := atL_len zs R k
      generalize hxx : pk zs (stA zs R k).1 (stA zs R k).2 = x at *
      generalize hdd : (stA zs R k).1 = D at *
      generalize hrr : (stA zs R k).2 = P at *
      have Hxx := Lib.hid hxx
      have Hdd := Lib.hid hdd
      have Hrr := Lib.hid hrr
      clear hxx hdd hrr
      obtain ⟨hx1, hx2, hx3⟩ := hpk
      have Hnew := Lib.hid (nextE_new hpn).1
      have Hcom := Lib.hid (com_bit (n := n) (s := D) (j := x) hn6 hD (by omega))
      have Hs2 := Lib.hid (show 2 ^ n - 1 - (D + 2 ^ x) = 2 ^ n - 1 - D - 2 ^ x by omega)
      obtain ⟨S, hS⟩ : ∃ S, 2 ^ n - 1 - D = S := ⟨_, rfl⟩
      rw [hS] at bF1 Hcom Hs2
      simp only [hS] at Hmem Hat Hstep
      have hpp := Nat.two_pow_pos n
      have hSn : S < 2 ^ n := by omega
      have hS64 : S < 64 := by omega
      have HS := Lib.hid hS
      clear hS
      have hcF := bF1.cell
      gi_wp2_with (refine wpListIn_load_row rfl _ _ rfl w.heap.size rfl _ _ (0, 0) _ bL1 Try.underlying74 rfl (by kernel_rfl) ?_)
      have hA1 := hA0.upd hU1 (fun e => by omega)
      have hNs : (S : Int) < powI n := by
        have h1 : powI (n : Int) = ((2 ^ n : Nat) : Int) := by simp [powI]
        omega
      refine (callsIn_wide.2 (free_any b m n zs S hvo.sets wr (hA1.ints' hA1.lt (by rw [du_len, hlen.out])) (by omega) hNs)).mono ?_
      rintro e w4 ⟨rfl, hB4⟩
      have z4 := hB4.size
      have hT := topsTo_bd (du zs) (S : Int) n
      have hpn6 : powI n ≤ 64 := powI_le6 (by omega)
      have Hnx := Lib.hid (show itemsL (topsTo (du zs) (S : Int) n) = nextL zs S by unfold nextL; rw [hlen.out])
      generalize topsTo (du zs) (S : Int) n = T at *
      gi_wp2_with (gi_at_call 143; refine (callsIn_wide.2 (each_any _ _)).mono ?_; rintro e w' ⟨rfl, rfl⟩)
      have bE := Boxed.new w4 76 (.int .i64 T)
      have hu4 : Upd (fun _ => False) wr (w4.alloc (.cells #[Value.int .i64 T] 76)) := ((Upd.refl _ wr).below hB4 (fun k h1 h2 => by omega)).alloc _
      have hz4 : (w4.alloc (.cells #[Value.int .i64 T] 76)).heap.size = w4.heap.size + 1 := by simp
      obtain ⟨W5, hW5⟩ : ∃ W5, w4.alloc (.cells #[Value.int .i64 T] 76) = W5 := ⟨_, rfl⟩
      rw [hW5] at bE hu4 hz4 ⊢
      clear hW5
      have hA5 := hA1.upd hu4 (fun e => e)
      have hM5 := hM1.upd hu4 (fun e => e)
      have bL5 := (hu4.block w.heap.size (by omega) (fun e => e)).trans bL1
      have bF5 := hu4.boxed bF1 (fun e => e)
      have bR5 := hu4.boxed bR1 (fun e => e)
      have bV5 := hu4.boxed bV1 (fun e => e)
      have hO5 := hO1.keep hu4 (fun _ _ e => e)
      have hop5 := hop.upd hu4 (fun j _ e => e)
      have hbl5 : ∀ j ∈ bs, j < wr.heap.size := fun j hj => (Array.getElem?_eq_some_iff.1 (hop.2 j hj)).1
      have hvl : ∀ g, v.ownBlock = some g → W0.heap.size ≤ g ∧ g ∉ bs ∧ g < wr.heap.size := fun g hg => ⟨(hO1.1 g hg).1, (hO1.1 g hg).2, own_lt' hO1.2 g hg⟩
      clear hB4 hcF
      refine range_out (n := 9) (gf := 177) (lb := #[.pointer (some ⟨w4.heap.size, 0, none⟩)]) rfl (enters_of Try.func177 (by kernel_rfl) rfl) (encs := encI) (L := itemsL T)
        (fun i => i = m ∨ i = w.heap.size + 1 ∨ i = w.heap.size + 1 + 1 ∨ i = w2.heap.size ∨ v.ownBlock = some i) (fun i e => by rcases e with e | e | e | e | e <;> first | omega | (have := hvl i e; omega)) (fun _ => rfl)
        (fun W1 l1 hu1 hl1 hl2 => each_iter T hT.1 (by omega) _ _ W1 (hu1.boxed bE (fun e => e)) (fun e => by
          rcases e with (e | e | e | e | e) | e <;> first | omega | (have := hvl _ e; omega)))
        (fun pre D W => x ∉ pre ∧ Boxed W (w.heap.size + 1) 3 (.int .i64 ((P - accF zs S pre : Nat) : Int)) ∧ MapOk zs W m (1000000 + k * 1000000 + pre.length * 117649) ∧ Upd (fun i => i = m ∨ i = w.heap.size + 1) W5 W)
        (fun co pre Dx W => co = .exit 2 ∧ Boxed W (w.heap.size + 1) 3 (.int .i64 ((P - rkIn zs D x : Nat) : Int)) ∧ MapOk zs W m (1000000 + k * 1000000 + 6 * 117649) ∧ (∃ v', Boxed W (w.heap.size + 1 + 1) 22 v' ∧ OwnS (fun g => Dx g ∨ v.ownBlock = some g) W w.heap.size 3 v' (atL zs R k ++ [(x : Int)])) ∧
          Boxed W w2.heap.size 76 (.int .i64 ((S - 2 ^ x : Nat) : Int)) ∧ Upd (fun i => i = m ∨ i = w.heap.size + 1 ∨ i = w.heap.size + 1 + 1 ∨ i = w2.heap.size ∨ v.ownBlock = some i) W5 W)
        (fun _ D X Y hs hu => ⟨hs.1, hu.boxed hs.2.1 (fun e => by omega), hs.2.2.1.upd hu (fun e => by omega), hs.2.2.2.trans' hu (fun i hi e => by omega)⟩)
        (fun co _ D X Y hs hu => by
          obtain ⟨h1, h2, h3, ⟨v', h4, h5⟩, h6, h7⟩ := hs
          exact ⟨h1, hu.boxed h2 (fun e => by omega), h3.upd hu (fun e => by omega), ⟨v', hu.boxed h4 (fun e => by omega), h5.keep hu (fun g hg e => hg.elim e.2 (fun h9 => by have := hvl g h9; omega))⟩, hu.boxed h6 (fun e => by omega), h7.trans' hu (fun i hi e => by omega)⟩)
        ⟨by simp, by simpa [accF] using bR5, hM5.mono (Nat.le_add_right _ _), Upd.refl _ _⟩ ?owes ?done ?stop
      case owes =>
        rintro l1 pre y D1 W hl1 hl2 hDl hD1 - hpre K hK
        gi_wp2
        refine hK _ _ (Upd.refl _ _) ?_
        rintro Wb hWb - ⟨hnx, bR6, hM6, hU⟩
        clear hK
        rw [Hnx.out] at hpre
        have hym := hpre.subset (by simp : y ∈ pre ++ [y])
        obtain ⟨hyn, hyb⟩ := nextL_mem hvo hym
        rw [hlen.out] at hyn
        have hyx := le_of_first (nextL_inc hvo S) hpre Hmem.out hnx
        have hac := Hat.out pre y hpre
        have hasn := accF_snoc zs S pre y
        rw [hac] at bR6 hasn
        have hpl : pre.length + 1 ≤ 6 := by
          have h1 := hpre.length_le
          have h2 := nextL_len hvo S
          simp at h1; omega
        have hge := ge_bit_fin ⟨S, hS64⟩ ⟨y, by omega⟩ hyb
        simp only at hge
        have hpy := Nat.two_pow_pos y
        have Hwo := Lib.hid (without_is hS64 (show y < 6 by omega) hyb)
        have hsb2 := hU.size
        have bF6 := hU.boxed bF5 (fun e => by omega)
        have bV6 := hU.boxed bV5 (fun e => by omega)
        have hO6 := hO5.keepIn hU (fun g hg hl e => by omega)
        have bL6 := (hU.block w.heap.size (by omega) (fun e => by omega)).trans bL5
        have hA6 := hA5.upd hU (fun e => by omega)
        have hcF := bF6.cell
        have hq1 := (writes_le (show S - 2 ^ y < 64 by omega)).2
        have hrec := fun w' hA' hM' => lcount_any zs hvo n hlen.out b m hbm _ (S - 2 ^ y) (1000000 + k * 1000000 + pre.length * 117649) w' (Nat.le_refl _) (by omega) hA' hM' (by omega)
        gi_wp2_with (first
          | (gi_at_call 134; refine (CallsIn.inRound l1 (callsIn_wide.2 (without_any _ _ _ (by omega) (by omega) (by omega) (by omega)))).mono ?_; rw [Hwo.out]; rintro e w' ⟨rfl, rfl⟩)
          | (refine wpListIn_load_row rfl _ _ rfl w.heap.size rfl _ _ (0, 0) _ bL6 Try.underlying74 rfl (by kernel_rfl) ?_))
        refine (CallsIn.inRound l1 (callsIn_wide.2 (hrec Wb hA6 hM6))).mono ?_
        rintro e w6 ⟨rfl, hM7, hU7⟩
        have hsz7 := hU7.size
        have bF7 := hU7.boxed bF6 (fun e => by omega)
        have bV7 := hU7.boxed bV6 (fun e => by omega)
        have bR7 := hU7.boxed bR6 (fun e => by omega)
        have hO7 := hO6.keepIn hU7 (fun g hg hl e => by omega)
        have hUb7 : Upd (fun i => i = m) Wb w6 := hU7
        have hU57 : Upd (fun i => i = m ∨ i = w.heap.size + 1) W5 w6 := hU.trans' hU7 (fun i hi e => .inl e)
        have hM8 : MapOk zs w6 m (1000000 + k * 1000000 + (pre ++ [y]).length * 117649) := hM7.mono (by rw [List.length_append, List.length_singleton, Nat.add_mul]; omega)
        have hcR := bR7.cell
        have hcV := bV7.cell
        have hfV := bV7.frozen
        have hfR := bR7.frozen
        have hszb := hWb.size
        clear hrec hM7
        by_cases hey : y = x
        · subst hey
          rw [Hs2.out] at hpc
          clear hasn hx3 hyx
          have hM9 : MapOk zs w6 m (1000000 + k * 1000000 + 6 * 117649) := hM8.mono (Nat.add_le_add_left (Nat.mul_le_mul_right _ (by rw [List.length_append, List.length_singleton]; omega)) _)
          have hvb : some (w.heap.size + 1 + 1) ≠ v.ownBlock := fun e => by have := hvl _ e.symm; omega
          have hvbF : some w2.heap.size ≠ v.ownBlock := fun e => by have := hvl _ e.symm; omega
          have hvbR : some (w.heap.size + 1) ≠ v.ownBlock := fun e => by have := hvl _ e.symm; omega
          have hvm : some m ≠ v.ownBlock := fun e => by have := hvl _ e.symm; omega
          have hvlt : ∀ g, v.ownBlock = some g → g < W5.heap.size := fun g hg => by have := hvl _ hg; have := hu4.size; omega
          obtain ⟨pr, hpr⟩ : ∃ pr, P - rkIn zs D y = pr := ⟨_, rfl⟩
          obtain ⟨cc, hcc⟩ : ∃ cc, cF zs (S - 2 ^ y) = cc := ⟨_, rfl⟩
          rw [hpr] at bR7 hpc hcR
          rw [hcc] at hpc
          have Hpr := Lib.hid hpr
          rw [hcc]
          clear hpr hcc hM8
          obtain ⟨xs, hxs⟩ : ∃ xs, atL zs R k = xs := ⟨_, rfl⟩
          rw [hxs] at hO7 hln
          have Hxs := Lib.hid hxs
          have Hln := Lib.hid hln
          have hln8 : xs.length ≤ 6 := by omega
          clear hxs hln
          gi_wp2_with (gi_at_builtin; go_loud (refine wpListIn_append1 _ rfl (.tmp 31) (.tmp 33) _ rfl w.heap.size 3 i0 _ 8 Try.underlying22 hi0 hz0 hz1 hz2 rfl _ xs.length _ rfl (hO7.2.alloc _) w6.heap.size 1 (.int .i64 y) rfl (cell_new _ _ _) rfl (by omega) (by omega) (by simp; omega) ?_); rintro v' w' hown' hg' hv'; obtain ⟨g', cap', rfl⟩ := ownsRow_succ hown'; have bV8 := (bV7.alloc _).kept hg' hvb; have hcV8 := bV8.cell; have hfV8 := bV8.frozen; have bF8 := (bF7.alloc _).kept hg' hvbF; have hcF8 := bF8.cell; have hfF8 := bF8.frozen)
          have zg := hg'.size
          simp at zg
          obtain ⟨W8, hW8⟩ : ∃ W8, w' = W8 := ⟨_, rfl⟩
          have hO8 := OwnS.step (S' := fun g => (D1 g ∨ W.heap.size ≤ g ∧ g < w'.heap.size) ∨ v.ownBlock = some g) ⟨fun g hg => hg, hO7.2⟩ hown' hv' (fun g e => .inr e) (fun h9 => .inl (.inr ⟨by omega, h9⟩))
          have hU8 : Upd (fun i => i = m ∨ i = w.heap.size + 1 ∨ i = w.heap.size + 1 + 1 ∨ i = w2.heap.size ∨ v.ownBlock = some i) W5 w' := ((hU57.mono (fun i _ e => by omega)).alloc _).grown hg' (fun g hg => .inr (.inr (.inr (.inr (.inr hg)))))
          have hb8 : Upd (fun i => (i = m ∨ i = w.heap.size + 1 ∨ i = w.heap.size + 1 + 1 ∨ i = w2.heap.size ∨ v.ownBlock = some i) ∨ D1 i ∨ W.heap.size ≤ i) Wb w' := ((hUb7.mono (fun i _ e => .inl (.inl e))).alloc _).grown hg' (fun g hg => .inr (.inl (.inr (.inr (.inr (.inr hg))))))
          have hR8 := (bR7.alloc _).kept hg' hvbR
          have hM10 := (hM9.upd ((Upd.refl (fun _ => False) w6).alloc _) (fun e => e)).upd ((Upd.refl (fun i => v.ownBlock = some i) _).grown hg' (fun g hg => .inr hg)) (fun e => hvm e.symm)
          have hus : Upd (fun i => i = w.heap.size + 1 + 1 ∨ i = w2.heap.size) w' ((w'.setCell ⟨w.heap.size + 1 + 1, 0, none⟩ (.slice (some ⟨g', 0, none⟩) (xs.length + 1) cap')).setCell ⟨w2.heap.size, 0, none⟩ (.int .i64 ((S - 2 ^ y : Nat) : Int))) := ((Upd.refl (fun i => i = w.heap.size + 1 + 1 ∨ i = w2.heap.size) w').setCell (p := ⟨w.heap.size + 1 + 1, 0, none⟩) (.inr (.inl rfl)) _).setCell (p := ⟨w2.heap.size, 0, none⟩) (.inr (.inr rfl)) _
          have bV9 := (bV8.set (.slice (some ⟨g', 0, none⟩) (xs.length + 1) cap'))
          have bF9 : Boxed (w'.setCell ⟨w.heap.size + 1 + 1, 0, none⟩ (.slice (some ⟨g', 0, none⟩) (xs.length + 1) cap')) w2.heap.size 76 (.int .i64 (S : Int)) := ((Upd.refl (fun i => i = w.heap.size + 1 + 1) w').setCell (p := ⟨w.heap.size + 1 + 1, 0, none⟩) (.inr rfl) _).boxed bF8 (fun e => by omega)
          have hSx : ∀ g, ((D1 g ∨ W.heap.size ≤ g ∧ g < w'.heap.size) ∨ v.ownBlock = some g) → ¬ (g = w.heap.size + 1 + 1 ∨ g = w2.heap.size) := fun g hg e => by
            rcases hg with (h9 | h9) | h9
            · have := hD1 g h9; omega
            · omega
            · have := hvl g h9; omega
          refine ⟨fun g => D1 g ∨ W.heap.size ≤ g ∧ g < w'.heap.size, ⟨rfl, by rw [Hpr.out]; exact hus.boxed hR8 (fun e => by omega), hM10.upd hus (fun e => by omega), ⟨_, ((Upd.refl (fun i => i = w2.heap.size) _).setCell (p := ⟨w2.heap.size, 0, none⟩) (.inr rfl) _).boxed bV9 (fun e => by omega), by rw [Hxs.out]; exact hO8.keepIn hus (fun g hg _ => hSx g hg)⟩, bF9.set _, hU8.trans' hus (fun i hi e => by omega)⟩,
            (hb8.setCell (p := ⟨w.heap.size + 1 + 1, 0, none⟩) (.inr (.inl (.inr (.inr (.inl rfl))))) _).setCell (p := ⟨w2.heap.size, 0, none⟩) (.inr (.inl (.inr (.inr (.inr (.inl rfl)))))) _, fun g hg => hg.elim .inl (fun h => .inr ⟨h.1, by simpa [World.setCell] using h.2⟩)⟩
        · have hst := Hstep.out y hym (by omega)
          have hyx2 : y < x := by omega
          obtain ⟨cc, hcc⟩ : ∃ cc, cF zs (S - 2 ^ y) = cc := ⟨_, rfl⟩
          rw [hcc] at hst hasn
          rw [hcc]
          obtain ⟨rr, hrr⟩ : ∃ rr, rkIn zs D y = rr := ⟨_, rfl⟩
          rw [hrr] at hst hasn bR7 hcR
          have hge2 : ¬ ((P - rr : Nat) : Int) < (cc : Int) := by omega
          have hsub : IntKind.i64.wrap (((P - rr : Nat) : Int) - (cc : Int)) = ((P - (rr + cc) : Nat) : Int) := by rw [IntKind.wrap_i64]; omega
          clear hcc hrr
          gi_wp2
          have hus : Upd (fun i => i = w.heap.size + 1) w6 (w6.setCell ⟨w.heap.size + 1, 0, none⟩ (.int .i64 ((P - (rr + cc) : Nat) : Int))) := (Upd.refl (fun i => i = w.heap.size + 1) w6).setCell (p := ⟨w.heap.size + 1, 0, none⟩) (.inr rfl) _
          exact ⟨D1, ⟨fun hm => by rw [List.mem_append, List.mem_singleton] at hm; exact hm.elim hnx (fun e => hey e.symm), by rw [hasn]; exact bR7.set _, hM8.upd hus (fun e => by omega), hU57.trans' hus (fun i hi e => .inr e)⟩,
            (hUb7.mono (fun i _ e => .inl (.inl e))).setCell (p := ⟨w.heap.size + 1, 0, none⟩) (.inr (.inl (.inr (.inl rfl)))) _, fun g hg => .inl hg⟩
      case done =>
        rintro d D1 W hd ⟨hnx, bR6, hM6, hU⟩ hD1 hKd
        rw [Hnx.out] at hnx
        exact absurd Hmem.out hnx
      case stop =>
        rintro d D1 co pre W hd hpre ⟨rfl, bR6, hM6, ⟨v', bV6, hO6⟩, bF6, hU⟩ hD1 hKd
        gi_wp2
        have hlt2 := (Array.getElem?_eq_some_iff.1 hKd).1
        have z5 := hu4.size
        have zU := hU.size
        have hDd : ∀ g, (D1 g ∨ v.ownBlock = some g) → W0.heap.size ≤ g ∧ g ∉ d :: bs := fun g hg => by
          rcases hg with h9 | h9
          · have := hD1 g h9
            refine ⟨by omega, fun hm => ?_⟩
            rcases List.mem_cons.1 hm with e | hm
            · omega
            · have := hbl5 g hm; omega
          · have := hvl g h9
            refine ⟨this.1, fun hm => ?_⟩
            rcases List.mem_cons.1 hm with e | hm
            · omega
            · exact this.2.1 hm
        have hop9 := (hop5.upd hU (fun j hj e => by
          have h1 := hbs j hj
          have h2 := hbl5 j hj
          rcases e with e | e | e | e | e
          · omega
          · omega
          · omega
          · omega
          · exact (hvl j e).2.1 hj)).cons hKd (fun e => by have := hbl5 d e; omega)
        have hU9 : Upd (fun i => i = m ∨ i = w.heap.size + 1 ∨ i = w.heap.size + 1 + 1 ∨ i = w2.heap.size) W0 W := (hU1.trans' hu4 (fun i hi e => e.elim)).trans' hU (fun i hi e => by
          rcases e with e | e | e | e | e
          · exact .inl e
          · exact .inr (.inl e)
          · exact .inr (.inr (.inl e))
          · exact .inr (.inr (.inr e))
          · have := hvl i e; omega)
        refine ⟨⟨k + 1, d :: bs, v', _, _, _, _, _, _, _, _, _, _, _, _, _, _, _, _, _, _, _, _, _, _, _, _, _, _, _, _, ⟨by omega, by rw [Hs1.out]; exact bR6, bV6, by rw [Hl1.out]; exact ⟨fun g hg => hDd g (hO6.1 g hg), hO6.2⟩, by rw [Hs1.out, Hs2.out]; exact bF6, hM6.mono (by omega), hU9, hop9, fun j hj => ?_⟩, rfl⟩, ?_⟩
        · rcases List.mem_cons.1 hj with rfl | hj
          · omega
          · exact hbs j hj
        · simp [intOf]; omega
    · obtain rfl : k = n := by omega
      have hcV := bV1.cell
      gi_wp2
      refine leaves_marks bs wr hop (fun W' hu' => ⟨v, by simp [results, Try.f146, go_sem], v, rfl, ?_, ?_⟩)
      · have hO9 := hO1.keep hu' (fun g hg e => hg.2 e)
        exact ⟨fun g hg => by have := (hO9.1 g hg).1; omega, hO9.2⟩
      · exact ((hU0.mono fun _ _ e => e.elim).trans' hU1 (fun i hi e => by omega)).trans' hu' (fun i hi e => by have := hbs i e; omega)
end Go.Proofs.Ytghogabmkbadjab

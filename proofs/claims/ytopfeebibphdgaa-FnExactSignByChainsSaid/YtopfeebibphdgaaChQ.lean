/- SignByChains: the program's, whole. -/
import Derived.Test.YtopfeebibphdgaaChP
import Derived.Test.YtopfeebibphdgaaSgQ
namespace Go.Proofs.Ytopfeebibphdgaa
open Go.RowKit Go.Shelf
attribute [local go_sem] Oper.semAt_some
attribute [local go_sem, local simp] wide_fn

theorem par_bd (s : Nat) : -1 ≤ par s ∧ par s ≤ 1 := by unfold par; omega
theorem parity_any (s : Nat) (hs : s < 64) (w : World) :
    Calls Try.prog 55 #[.int .i64 (s : Int)] w fun e w' => e = .returned (.int .i64 (par s)) ∧ w = w' := by
  have hp := popI_bd (s := (s : Int)) (by omega) (by omega)
  have hsz := fun w => size_any (s : Int) w (by omega) (by omega)
  by_cases h1 : popI (s : Int) % 2 = 1
  · have hm : (popI (s : Int)).tmod 2 = 1 := by rw [Int.tmod_eq_emod_of_nonneg hp.1]; exact h1
    have hb : ((popI (s : Int)).tmod 2 == 1) = true := by rw [hm]; rfl
    have Hp := Lib.hid (show par s = 1 by unfold par; omega)
    clear h1
    go_enter Try.func55, Try.ntmps55
    go_wp2_with (go_at_call 86; refine (hsz _).mono ?_; rintro e w' ⟨rfl, rfl⟩)
    go_ret
    exact ⟨ret_int Hp.out.symm, rfl⟩
  · have hm : (popI (s : Int)).tmod 2 = 0 := by rw [Int.tmod_eq_emod_of_nonneg hp.1]; omega
    have hb : ((popI (s : Int)).tmod 2 == 1) = false := by rw [hm]; rfl
    have Hp := Lib.hid (show par s = -1 by unfold par; omega)
    clear h1
    go_enter Try.func55, Try.ntmps55
    go_wp2_with (go_at_call 86; refine (hsz _).mono ?_; rintro e w' ⟨rfl, rfl⟩)
    go_ret
    exact ⟨ret_int Hp.out.symm, rfl⟩

set_option maxRecDepth 100000 in
set_option maxHeartbeats 4000000 in
theorem SignByChains_any (A : Option Addr) (n c : Nat) (zs : List Int) (a b : Int) (w : World) (h : Ints w w.heap.size A n zs) (hbig : n ≤ 1152921504606846976) :
    Calls Try.prog 23 #[.slice A n c, .int .i64 a, .int .i64 b] w fun e w' => e = .returned (.int .i64 (signR zs a b)) ∧ Below w.heap.size w w' := by
  have hlen := Lib.hid h.len
  go_enter Try.func23, Try.ntmps23
  go_wp2_with fail
  refine (readEnds_any A n c zs a b w h hbig).mono ?_
  rintro e w2 ⟨hB2, (⟨hv, q, rfl, hq, hAr⟩ | ⟨hv, rfl⟩)⟩
  · obtain ⟨hvo, x, y, rfl, rfl, hx, hy⟩ := ends_parts hv
    have Ht := Lib.hid (signR_yes hv)
    have Hs := Lib.hid (clL_sum hvo hx hy)
    have hn6 : n ≤ 6 := by have := hvo.1; rw [hlen.out] at this; exact this
    have hp64 : (2 : Nat) ^ n ≤ 64 := Nat.pow_le_pow_right (n := 2) (by decide) hn6
    have hmem : ∀ s ∈ clL zs x y, s < 64 := fun s hs => by
      have := (List.mem_filter.1 hs).1
      rw [List.mem_range, hlen.out] at this
      omega
    have hll : (clL zs x y).length ≤ 64 := by
      have := List.length_filter_le (clB zs x y) (List.range (2 ^ zs.length))
      rw [List.length_range, hlen.out] at this
      unfold clL
      rw [hlen.out]
      exact Nat.le_trans this hp64
    have Hmem := Lib.hid hmem
    have Hll := Lib.hid hll
    rw [hlen.out] at hx hy
    clear hmem hll hp64
    have z2 := hB2.size
    have hql := hAr.lt
    clear hv
    have bE := heap_alloc_new w2 (.cells #[Value.int .i64 (x : Int), .int .i64 (y : Int)] 44)
    have hU2 : Upd (fun _ => False) w2 (w2.alloc (.cells #[Value.int .i64 (x : Int), .int .i64 (y : Int)] 44)) := (Upd.refl _ w2).alloc _
    go_wp2_with (refine wpList_load_row rfl _ _ rfl w2.heap.size rfl _ _ (0, 0) _ bE Try.underlying44 rfl (by kernel_rfl) ?_)
    obtain ⟨W3, hW3⟩ : ∃ W3, w2.alloc (.cells #[Value.int .i64 (x : Int), .int .i64 (y : Int)] 44) = W3 := ⟨_, rfl⟩
    rw [hW3] at bE hU2 ⊢
    clear hW3
    have hA3 := hAr.upd hU2 (fun e => e)
    have z3 := hU2.size
    refine (ochains_any q n zs hvo hlen.out x y hx hy W3 hA3).mono ?_
    rintro e w4 ⟨bo, bw, rfl, bO, bB, bW, hA4, hU4⟩
    have z4 := hU4.size
    go_wp2_with fail
    refine (sumOverS_any (gf := 83) (vf := 55) #[.pointer (some ⟨W3.heap.size, 0, none⟩), .pointer (some ⟨bo, 0, none⟩), .pointer (some ⟨bw, 0, none⟩)] #[] (clL zs x y) par w4 (fun _ => False) (fun _ e => e.elim) (fun _ _ => True)
      (enters_of Try.func83 (by kernel_rfl) rfl) (enters_of Try.func55 (by kernel_rfl) rfl)
      (fun pre hp => by
        have h1 := lsum_small (g := par) (B := 1) (by omega) par_bd pre
        have h2 := hp.length_le
        have h3 := Hll.out
        omega)
      (fun W1 M' hu1 hM' hMb => chains_iter q n zs hvo hlen.out x y W3.heap.size bo bw hx hy M' W1 (hu1.boxed bO (fun e => e)) (hu1.boxed bB (fun e => e)) (hu1.boxed bW (fun e => e)) (hA4.upd hu1 (fun e => e))
        ⟨fun e => (hM' _ e).elim (fun e => e) (fun e => by have := bO.lt; omega), fun e => (hM' _ e).elim (fun e => e) (fun e => by have := bB.lt; omega), fun e => (hM' _ e).elim (fun e => e) (fun e => by have := bW.lt; omega), fun e => (hM' _ e).elim (fun e => e) (fun e => by have := hA4.lt; omega)⟩ hMb)
      (fun pre s W hp _ _ => (parity_any s (Hmem.out s (hp.subset (by simp))) W).mono fun e W' h => ⟨h.1, trivial, h.2 ▸ Upd.refl _ _⟩)
      (fun _ _ _ _ _ _ => trivial) trivial).mono ?_
    rw [Hs.out]
    rintro e w5 ⟨rfl, -, hU5⟩
    go_wp2_with fail
    go_ret
    exact ⟨ret_int Ht.out.symm, hB2.trans (((hU2.trans' hU4 (fun i hi e => e)).trans' hU5 (fun i hi e => e)).toBelow (fun _ e => e.elim) z2)⟩
  · have Ht := Lib.hid (signR_no hv)
    go_wp2_with fail
    go_ret
    exact ⟨ret_int Ht.out.symm, hB2.alloc hB2.size _⟩
end Go.Proofs.Ytopfeebibphdgaa

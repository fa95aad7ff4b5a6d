/- Places of sets among the different ones, sorted: the program's. -/
import Derived.Test.YtdcdddmjffgibaaGreatSfI
import Derived.Test.YtdcdddmjffgibaaGreatDfM
import Derived.Test.YtdcdddmjffgibaaGreatGa
set_option linter.unusedVariables false
set_option linter.unusedSimpArgs false
namespace Go.Proofs.YtdcdddmjffgibaaGreat
open Go.RowKit Go.Shelf

/-- How many of the different ones have a less number. -/
def rkF (f : Int → Int) (zs : List Int) (x : Int) : Nat := ((difA zs).filter fun y => decide (f y < f x)).length
def plR (f : Int → Int) (zs : List Int) : List Int := zs.map fun x => (rkF f zs x : Int)
theorem plR_len (f : Int → Int) (zs : List Int) : (plR f zs).length = zs.length := by simp [plR]
theorem plR_get (f : Int → Int) {zs : List Int} {k : Nat} (hk : k < zs.length) : (plR f zs)[k]?.getD 0 = (rkF f zs (zs[k]?.getD 0) : Int) := by simp [plR, hk]
theorem mem_get {zs : List Int} {k : Nat} (hk : k < zs.length) : zs[k]?.getD 0 ∈ zs := by rw [List.getElem?_eq_getElem hk]; exact List.getElem_mem hk
/-- The place of an element in a sorted list is how many are less. -/
theorem place_is {f : Int → Int} {xs ys : List Int} (h : SortedBy f xs ys) (hn : xs.Nodup) (hf : ∀ x ∈ xs, ∀ y ∈ xs, f x = f y → x = y) {x : Int} (hx : x ∈ xs) : Lib.idxOf (ys.take ys.length) x = ((xs.filter fun y => decide (f y < f x)).length : Int) := by
  obtain ⟨hp, hs⟩ := h
  have hny : ys.Nodup := hp.nodup_iff.2 hn
  obtain ⟨k, hk, rfl⟩ := List.getElem_of_mem (hp.mem_iff.2 hx)
  have hlt := List.pairwise_iff_getElem.1 hs
  have hne := List.pairwise_iff_getElem.1 hny
  have hfne : ∀ i, ∀ hi : i < ys.length, i ≠ k → f ys[i] ≠ f ys[k] := fun i hi hik e => by
    have := hf _ (hp.mem_iff.1 (List.getElem_mem hi)) _ (hp.mem_iff.1 (List.getElem_mem hk)) e
    rcases Nat.lt_or_ge i k with h1 | h1
    · exact hne i k hi hk h1 this
    · exact hne k i hk hi (by omega) this.symm
  have h1 : Lib.idxOf (ys.take ys.length) ys[k] = (k : Int) := by
    refine Lib.idxOf_hit ys ys.length k ys[k] hk (Nat.le_refl _) (by simp [List.getD, hk]) (fun j hj e => ?_)
    have hj' : j < ys.length := by omega
    have e2 : ys[j] = ys[k] := by simpa [List.getD, hj'] using e
    exact hne j k hj' hk hj e2
  rw [h1]
  have h2 : (xs.filter fun y => decide (f y < f ys[k])).length = (ys.filter fun y => decide (f y < f ys[k])).length := ((hp.filter _).length_eq).symm
  have h3 : (ys.filter fun y => decide (f y < f ys[k])) = ys.take k := by
    conv => lhs; arg 2; rw [← List.take_append_drop k ys]
    rw [List.filter_append]
    have ha : (ys.take k).filter (fun y => decide (f y < f ys[k])) = ys.take k := by
      rw [List.filter_eq_self]
      intro y hy
      obtain ⟨i, hi, rfl⟩ := List.getElem_of_mem hy
      rw [List.length_take] at hi
      rw [List.getElem_take, decide_eq_true_eq]
      have h4 := hlt i k (by omega) hk (by omega)
      have h5 := hfne i (by omega) (by omega)
      omega
    have hb : (ys.drop k).filter (fun y => decide (f y < f ys[k])) = [] := by
      rw [List.filter_eq_nil_iff]
      intro y hy
      obtain ⟨i, hi, rfl⟩ := List.getElem_of_mem hy
      rw [List.length_drop] at hi
      rw [List.getElem_drop]
      intro e
      rw [decide_eq_true_eq] at e
      rcases Nat.eq_zero_or_pos i with h0 | h0
      · subst h0; simp at e
      · have := hlt k (k + i) hk (by omega) (by omega)
        omega
    rw [ha, hb, List.append_nil]
  rw [h2, h3, List.length_take, Nat.min_eq_left (by omega)]

set_option maxRecDepth 100000 in
set_option maxHeartbeats 2000000 in
theorem placesBy_any {gf : Nat} (f : Int → Int) (A : Option Addr) (n c : Nat) (zs : List Int) (w : World) (hA : Ints w w.heap.size A n zs) (hz : ∀ j, j < n → 0 ≤ zs[j]?.getD 0 ∧ zs[j]?.getD 0 < 64) (hn : n ≤ 6) (hAb : ∀ a, A = some a → a.block < w.heap.size)
    (eg : ∀ args w, (callFunc gf args).run Tryz.prog w = .ok (.enter gf args) w)
    (hc : ∀ (a b : Int) (W : World), 0 ≤ a ∧ a < 64 → 0 ≤ b ∧ b < 64 → Calls Tryz.prog gf #[.int .i64 a, .int .i64 b] W fun e w' => e = .returned (.int .i64 (cmpI (f a) (f b))) ∧ W = w')
    (hf : ∀ x ∈ zs, ∀ y ∈ zs, f x = f y → x = y) :
    Calls Tryz.prog 48 #[.func (.func gf) #[] #[], .slice A n c] w fun e W' => ∃ b, e = .returned (.slice (some ⟨b, 0, none⟩) n n) ∧ w.heap.size ≤ b ∧ Arr W' b 3 (plR f zs) ∧ Below w.heap.size w W' := by
  have Hlen := Lib.hid hA.len
  have Hf := Lib.hid hf
  clear hf
  have hmk := run_make_row' (P := Tryz.prog) 23 3 (.int .i64 0) 8 Tryz.underlying23 infoInt rfl .i64 .i64 n (by omega) (by omega)
  go_enter Tryz.func48, Tryz.ntmps48
  go_wp2_with fail
  refine (odifferent_any A n c zs w hA (fun j hj => (hz j hj).1) (by omega) hAb).mono ?_
  rintro e w1 ⟨A1, m1, c1, rfl, hR1, hB1⟩
  have z1 := hB1.size
  have key : ∀ (W2 : World) (ys : List Int), (n = 0 ∨ ∃ g, A1 = some ⟨g, 0, none⟩ ∧ g < W2.heap.size ∧ SortedBy f (difA zs) ys ∧ ys.length = m1 ∧ HoldsI W2 g ys) → Below w.heap.size w W2 →
      (∃ K : Prop, K ∧ True) := fun _ _ _ _ => ⟨True, trivial, trivial⟩
  clear key
  have hmem : ∀ x ∈ difA zs, 0 ≤ x ∧ x < 64 := fun x hx => by
    rw [difA_mem] at hx
    obtain ⟨j, hj, rfl⟩ := List.getElem_of_mem hx
    have := hz j (by rw [← Hlen.out]; exact hj)
    rwa [List.getElem?_eq_getElem hj, Option.getD_some] at this
  have Hmem := Lib.hid hmem
  have hlm : (difA zs).length ≤ 6 := by have := difA_len zs; rw [Hlen.out] at this; omega
  have Hlm := Lib.hid hlm
  clear hmem hlm
  obtain ⟨hr1, hr2, hr3⟩ := hR1
  have Hpl := Lib.hid (show (plR f zs).length = n by rw [plR_len, Hlen.out])
  rcases hr3 with ⟨rfl, rfl⟩ | ⟨g, rfl, hg, hg2, hH⟩
  · -- nothing there
    have hn0 : n = 0 := by
      rcases Nat.eq_zero_or_pos n with h0 | h0
      · exact h0
      · exfalso
        have h1 : zs[0]'(by rw [Hlen.out]; exact h0) ∈ difA zs := (difA_mem _ _).2 (List.getElem_mem _)
        rw [List.eq_nil_of_length_eq_zero hr1] at h1
        cases h1
    subst hn0
    rw [show ((0 : Nat) : Int) = 0 from rfl] at hmk
    go_wp2_with fail
    refine (sortf_none _ _ _ _).mono ?_
    rintro e w2 ⟨rfl, q, rfl⟩
    go_wp2
    go_loop [19] (fun i => i = .int .i64 0) (fun _ => 0)
    case atStart => rfl
    case round =>
    subst hrel
    go_wp2
    go_ret
    exact ⟨_, rfl, z1, by rw [show plR f zs = List.replicate 0 0 from List.eq_nil_of_length_eq_zero Hpl.out]; exact Arr.new (w1.drewN q) 3 0, (below_drewN hB1 q).alloc (by show w.heap.size ≤ w1.heap.size; omega) _⟩
  · subst hr1
    go_wp2_with fail
    refine (sortf_any f g c1 (difA zs) w1 hH Hmem.out (by have := Hlm.out; omega) eg hc).mono ?_
    rintro e w2 ⟨rfl, ys, hSB, hH2, hU2⟩
    have z2 := hU2.size
    have hB2 : Below w.heap.size w w2 := ((Below.toUpd hB1).trans' hU2 (fun i hi e => by omega)).toBelow (fun k e => e) (Nat.le_refl _)
    have hA2 := hA.below hB2
    have hyl : ys.length = (difA zs).length := hSB.1.length_eq
    have Hidx := Lib.hid (fun (k : Nat) (hk : k < n) => (show Lib.idxOf (ys.take ys.length) (zs[k]?.getD 0) = (rkF f zs (zs[k]?.getD 0) : Int) from
      place_is hSB (difA_nodup zs) (fun x hx y hy => Hf.out x ((difA_mem _ _).1 hx) y ((difA_mem _ _).1 hy)) ((difA_mem _ _).2 (mem_get (by rw [Hlen.out]; exact hk)))))
    have Hyl := Lib.hid hyl
    have hy6 : ys.length ≤ 6 := by rw [hyl]; exact Hlm.out
    rw [← hyl]
    clear hyl hSB
    go_wp2
    have hA3 := Arr.new w2 3 n
    have hB3 : Below w.heap.size w (w2.alloc (.cells (madeCells #[.int .i64 0] n) 3)) := hB2.alloc (by omega) _
    have hH3 : HoldsI (w2.alloc (.cells (madeCells #[.int .i64 0] n) 3)) g ys := holds_upd hH2 ((Upd.refl (fun _ => False) w2).alloc _) (fun e => e)
    have hI3 := hA2.below (B := w.heap.size) ((Below.refl _ w2).alloc (by omega) (.cells (madeCells #[.int .i64 0] n) 3))
    have z3 : (w2.alloc (.cells (madeCells #[.int .i64 0] n) 3)).heap.size = w2.heap.size + 1 := by simp
    have Z3 := Lib.hid z3
    obtain ⟨W3, hW3⟩ : ∃ W3, w2.alloc (.cells (madeCells #[.int .i64 0] n) 3) = W3 := ⟨_, rfl⟩
    rw [hW3] at hA3 hB3 hH3 hI3 Z3 ⊢
    clear hW3 hmk z3
    go_loopw [19] (fun i wr => ∃ k : Nat, k ≤ n ∧ i = .int .i64 k ∧ Arr wr w2.heap.size 3 (copied (plR f zs) n k) ∧ Upd (fun q => q = w2.heap.size) W3 wr) (fun i _ => n - (intOf i).toNat)
    case atStart => exact ⟨0, by omega, rfl, by rw [copied_zero]; exact hA3, Upd.refl _ _⟩
    case round =>
      obtain ⟨k, hk, rfl, hAr, hU⟩ := hrel
      have Hcl := Lib.hid (copied_len Hpl.out hk)
      have zU := hU.size
      by_cases hlt : k < n
      · obtain ⟨b, off, rfl, hbw, hcz⟩ := hI3.at_ hlt
        have hck := hU.cell (hcz k hlt) (by simp; omega)
        have hcs := hAr.cell (k := k) (by rw [Hcl.out]; exact hlt)
        have hfs := hAr.frozen k
        clear hcz
        have Hcp := Lib.hid (copied_succ Hpl.out hlt)
        have Hix := Lib.hid (Hidx.out k hlt)
        have Hgt := Lib.hid (plR_get f (zs := zs) (k := k) (by rw [Hlen.out]; exact hlt))
        have hHk : HoldsI _ g ys := holds_upd hH3 hU (by omega)
        have hcells : ∀ j, j < ys.length → _ := fun j hj => (holds_cell hHk hj).1
        have hgd : ∀ j, ys[j]?.getD 0 = ys.getD j 0 := fun j => by rw [List.getD_eq_getElem?_getD]
        have HC := Lib.hid hcells
        have HG := Lib.hid hgd
        clear hcells hgd hHk
        generalize zs[k]?.getD 0 = x at *
        go_wp2_with fail
        refine (show Calls Tryz.prog 67 _ _ _ from AnyG.slices_Index_int Tryz.lindex g 0 ys.length c1 ys x _ (Nat.le_refl _) (by omega) (fun j hj => by rw [Nat.zero_add, ← HG.out]; exact HC.out j hj)).mono ?_
        rw [Hix.out]
        rintro e w4 ⟨rfl, rfl⟩
        go_wp2
        go_roundw
        case rel => exact ⟨k + 1, by omega, by go_num, by rw [← Hcp.out, Hgt.out]; exact hAr.set _ _, hU.setCell (p := ⟨w2.heap.size, k, none⟩) (.inr rfl) _⟩
        case measure => simp [intOf]; omega
      · obtain rfl : k = n := by omega
        have Hfull := Lib.hid (copied_full Hpl.out)
        go_wp2
        go_ret
        exact ⟨_, rfl, by omega, by rw [← Hfull.out]; exact hAr, ((Below.toUpd hB3).trans' hU (fun i hi e => by omega)).toBelow (fun k e => e) (Nat.le_refl _)⟩
end Go.Proofs.YtdcdddmjffgibaaGreat

/- Texts that several claims share, one behind the other. -/
import Derived.Test.YtghogabmkbadjaaDoorSome
import Derived.Test.YtghogabmkbadjaaDoorGc
set_option linter.unusedVariables false
set_option linter.unusedSimpArgs false
/- Arguments that are drawn: a new reader, and what is drawn reads as numbers. -/
namespace Go.Proofs.YtghogabmkbadjaaDoor
open Go.RowKit Go.Shelf

/-- A list that is drawn reads as numbers, few of them. -/
def Drawn (w : World) (e : Ending) (w' : World) : Prop := ∃ A n c zs, e = .returned (.slice A n c) ∧ n ≤ 7 ∧ Ints w' w'.heap.size A n zs ∧ Below w.heap.size w w'
theorem newReader_rd {A : Option Addr} {m c : Nat} {bs : List Int} {w : World} (h : Byts w w.heap.size A m bs) (hcap : m ≤ c) (hbig : m ≤ 1152921504606846976) :
    Calls Tryd.prog 12 #[.slice A m c] w fun e w' => e = .returned (.pointer (some ⟨w.heap.size, 0, none⟩)) ∧ Rd w' w.heap.size 0 ∧ Below w.heap.size w w' ∧ w.heap.size < w'.heap.size := by
  refine (newReader_any A m c bs w h hcap hbig).mono ?_
  rintro e w0 ⟨rfl, rfl⟩
  exact ⟨rfl, ⟨A, min m 2000, c, bs.take (min m 2000), by omega, heap_alloc_new w _, (h.take (by omega)).below (((Below.refl w.heap.size w).alloc (Nat.le_refl _)) _)⟩, (Below.refl w.heap.size w).alloc (Nat.le_refl _) _, by simp⟩
end Go.Proofs.YtghogabmkbadjaaDoor

/- A numbering that is drawn: all items in some order, one of them another one at times. -/
namespace Go.Proofs.YtghogabmkbadjaaDoor
open Go.RowKit Go.Shelf

set_option maxRecDepth 100000 in
set_option maxHeartbeats 8000000 in
theorem aNum_any (R p n : Nat) (w : World) (h : Rd w R p) (hp : p ≤ 900000) (hn : n ≤ 7) :
    Calls Tryd.prog 14 #[.pointer (some ⟨R, 0, none⟩), .int .i64 (n : Int)] w fun e w' => ∃ A' n' c' ls q, e = .returned (.slice A' n' c') ∧ n' = n ∧ RowV w' w.heap.size w'.heap.size A' n' ls ∧ q ≤ 10 ∧ Rd w' R (p + q) ∧ Upd (fun k => k = R) w w' := by
  have hRl := h.lt
  obtain ⟨i1, hi1, hzi1, hsi1, hbi1⟩ := info_parts infoInt
  go_enter Tryd.func14, Tryd.ntmps14
  go_wp2_with fail
  have hO := own_new w 3
  have hU1 : Upd (fun _ => False) w (w.alloc (.cells #[] 3)) := (Upd.refl _ w).alloc _
  have hRR := h.upd hU1 (fun _ e => e.elim)
  have hUU : Upd (fun k => k = R) w (w.alloc (.cells #[] 3)) := hU1.mono (fun _ _ e => e.elim)
  obtain ⟨W1, hW1⟩ : ∃ W1, w.alloc (.cells #[] 3) = W1 := ⟨_, rfl⟩
  rw [hW1] at hO hRR hUU ⊢
  clear hW1 hU1
  go_loopw [5, 6] (fun v i wr => ∃ (k bt cp : Nat) (ts : List Int), k ≤ n ∧ i = .int .i64 k ∧ v = .slice (some ⟨bt, 0, none⟩) k cp ∧ (k ≤ cp ∧ cp ≤ maxLen) ∧ w.heap.size ≤ bt ∧ wr.ownsRow w.heap.size 3 1 (.slice (some ⟨bt, 0, none⟩) k cp) k (ts.map (Value.int .i64)) ∧ Rd wr R (p + k) ∧ Upd (fun k => k = R) w wr) (fun _ i _ => n - (intOf i).toNat)
  case atStart => exact ⟨0, w.heap.size, 0, [], by omega, rfl, rfl, ⟨by omega, by simp [maxLen]⟩, Nat.le_refl _, by simpa using hO, hRR, hUU⟩
  case round =>
    obtain ⟨k, bt, cp, ts, hk, rfl, rfl, ⟨hkc, hcm⟩, hbtw, hown, hRd, hU⟩ := hrel
    rename World => wx
    have zU := hU.size
    obtain ⟨htl, htc⟩ := own_cells hown
    have hbt : bt < wx.heap.size := own_lt' hown bt rfl
    by_cases hlt : k < n
    · go_wp2_with fail
      refine (pick_any R (p + k) (k + 1) wx hRd (by omega)).mono ?_
      rintro e w7 ⟨y, rfl, hy, hR7, hU7⟩
      have hy2 := hy.1 (by omega)
      obtain ⟨h, rfl⟩ := Int.eq_ofNat_of_zero_le hy2.1
      have hhk : h ≤ k := by omega
      have htc7 : ∀ j, j < k → w7.cell? ⟨bt, j, none⟩ = some (.int .i64 (ts[j]?.getD 0)) := fun j hj => hU7.cell (htc j hj) (by simp; omega)
      have hUw7 := hU.trans hU7
      have z7 := hU7.size
      clear hy hy2 htc hU hU7 hRd hown
      go_wp2_with fail
      obtain ⟨AD, hAD⟩ : ∃ AD, (if cp = h then some (⟨bt, 0, none⟩ : Addr) else some ⟨bt, h, none⟩) = some AD := by split <;> exact ⟨_, rfl⟩
      have hadd : ∀ j, j < (ts.drop h).length → AD.add j = ⟨bt, h + j, none⟩ := fun j hj => by
        have hne : ¬ cp = h := fun e => by simp at hj; omega
        rw [if_neg hne] at hAD
        cases hAD
        exact addr_add ..
      have hadd0 : ∀ j, j < (ts.take h).length → (⟨bt, 0, none⟩ : Addr).add j = ⟨bt, 0 + j, none⟩ := fun j hj => addr_add ..
      have htk : (ts.take h).length = h := by simp; omega
      have htd : (ts.drop h).length = k - h := by simp; omega
      have hgt : ∀ j, j < (ts.take h).length → (ts.take h)[j]?.getD 0 = ts[0 + j]?.getD 0 := fun j hj => by rw [Nat.zero_add, List.getElem?_take_of_lt (by omega)]
      have hgd : ∀ j, j < (ts.drop h).length → (ts.drop h)[j]?.getD 0 = ts[h + j]?.getD 0 := fun j hj => by rw [List.getElem?_drop]
      have hone : ∀ (zs : List Int), ∀ u ∈ zs.map (Value.int .i64), u.oneCell' = true := fun zs u hu => by
        obtain ⟨z, _, rfl⟩ := List.mem_map.1 hu; rfl
      have hbt7 : bt < w7.heap.size := by omega
      have hkN : k < 7 := by omega
      have hhc : h ≤ cp := by omega
      have hhc' : (h : Int) ≤ (cp : Int) := by omega
      have hhk' : (h : Int) ≤ (k : Int) := by omega
      go_region_law (first
        | (refine step_append_any _ rfl (.tmp 19) (.tmp 22) _ (by rfl) w7.heap.size 3 i1 _ 8 Tryd.underlying23 hi1 hzi1 hsi1 hbi1 rfl (.slice (some ⟨_, 0, none⟩) 0 0) 0 [] (by rfl) (by simp) (by first | exact own_new2 _ _ _ | exact own_sooner (own_new _ _) (by first | (simp; done) | (simp; omega)) | exact own_sooner ((own_new _ _).alloc _) (by first | (simp; done) | (simp; omega))) ⟨bt, 0, none⟩ h cp _ (by rfl) (by rw [List.length_map]; exact htk) (news_at htc7 (by repeat' (first | exact Upd.refl _ _ | assumption | refine Upd.alloc ?_ _ | refine Upd.drew ?_)) hbt7 hadd0 hgt (by omega)) (hone _) (by simp [maxLen]; omega) (by omega) (by first | (simp; done) | (simp; omega)) ?_; intro g1 cap1 x1 hown1 hgrow1 hg1 hl1 hc1 hm1; rw [Nat.zero_add] at hown1; have hU1 : Upd (fun k => w7.heap.size ≤ k) w7 x1 := Upd.grown (by repeat' (first | exact Upd.refl _ _ | assumption | refine Upd.alloc ?_ _ | refine Upd.drew ?_)) hgrow1 (fun q hq => by simp [Value.ownBlock] at hq; omega))
        | (refine step_append_any _ rfl (.tmp 23) (.tmp 25) _ (by rfl) w7.heap.size 3 i1 _ 8 Tryd.underlying23 hi1 hzi1 hsi1 hbi1 rfl (.slice (some ⟨g1, 0, none⟩) h cap1) h _ (by rfl) (by simp) (by first | exact hown1 | exact hown1.alloc _) ⟨_, 0, none⟩ 1 1 [.int .i64 (k : Int)] (by rfl) rfl (by first | exact news_one (cell_new _ _ _) | exact news_one ((hgrow1.cell_far _ (by first | (simp; done) | (simp; omega)) (by simp [Value.ownBlock])).trans (draw_cell_new2 _ _ _ _)) | exact news_one ((hgrow1.cell_far _ (by first | (simp; done) | (simp; omega)) (by simp [Value.ownBlock])).trans (cell_new _ _ _)) | exact news_one ((hgrow1.cell_far _ (by first | (simp; done) | (simp; omega)) (by simp [Value.ownBlock])).trans (cell_new_alloc _ _ _ _)) | exact news_one ((hgrow1.cell_far _ (by first | (simp; done) | (simp; omega)) (by simp [Value.ownBlock])).trans (cell_new _ _ _))) (by simp [Value.oneCell']) (by simp [maxLen]; omega) (by omega) (by have := hU1.size; simp; omega) ?_; intro g2 cap2 x2 hown2 hgrow2 hg2 hl2 hc2 hm2; have hU2 : Upd (fun k => w7.heap.size ≤ k) w7 x2 := Upd.grown (by repeat' (first | exact Upd.refl _ _ | assumption | refine Upd.alloc ?_ _ | refine Upd.drew ?_)) hgrow2 (fun q hq => by simp [Value.ownBlock] at hq; omega))
        | (refine step_append_any _ rfl (.tmp 26) (.tmp 29) _ (by rfl) w7.heap.size 3 i1 _ 8 Tryd.underlying23 hi1 hzi1 hsi1 hbi1 rfl (.slice (some ⟨g2, 0, none⟩) (h + 1) cap2) (h + 1) _ (by rfl) (by simp) hown2 AD (k - h) _ _ (by simp [Act.eval]; rfl) (by rw [List.length_map]; exact htd) (news_at htc7 hU2 hbt7 hadd hgd (by omega)) (hone _) (by simp [maxLen]; omega) (by omega) (by have := hU2.size; omega) ?_; intro g3 cap3 x3 hown3 hgrow3 hg3 hl3 hc3 hm3; have hU3 : Upd (fun k => w7.heap.size ≤ k) w7 x3 := Upd.grown hU2 hgrow3 (fun q hq => by simp [Value.ownBlock] at hq; omega)))
      all_goals
        have e3 : ([] ++ (ts.take h).map (Value.int .i64) ++ [Value.int .i64 (k : Int)]) ++ (ts.drop h).map (Value.int .i64) = (ts.take h ++ [(k : Int)] ++ ts.drop h).map (Value.int .i64) := by simp
        rw [e3] at hown3
        have hn3 : h + 1 + (k - h) = k + 1 := by omega
        rw [hn3] at hown3 hc3
        simp only [hn3]
        have hR8 : Rd x3 R (p + (k + 1)) := hR7.upd hU3 (fun q hq => by omega)
        have hU8 : Upd (fun k => k = R) w x3 := hUw7.trans' hU3 (fun i hi e => by omega)
        go_wp2
        go_roundw
        case rel => exact ⟨k + 1, g3, cap3, ts.take h ++ [(k : Int)] ++ ts.drop h, by omega, by go_num, rfl, ⟨hc3, hm3⟩, by omega, own_sooner hown3 (by omega), hR8, hU8⟩
        case measure => simp [intOf]; omega
    · obtain rfl : k = n := by omega
      obtain ⟨Av, cv, hev, hV⟩ := rowV_of_own hown
      cases hev
      have hRt := hRd
      have hUt := hU
      have hkt : k ≤ 7 := hn
      have hpt : p + k ≤ p + 10 := by omega
      clear hRd hU hown htl htc
      by_cases hk0 : 0 < k
      · go_wp2_with fail
        refine (pick_any R _ 24 _ hRt (by omega)).mono ?_
        rintro e wq ⟨yq, rfl, hyq, hRq, hUq⟩
        have hVq := hV.upd hUq (fun j e => by omega)
        have zt := hUt.size
        have zq := hUq.size
        have hUwq := hUt.trans hUq
        clear hV hRt hUt hUq
        by_cases hy0 : yq = 0
        · subst hy0
          obtain ⟨bb, hAv, hb1, hb2, hfr, hcl⟩ := hVq.cell hk0
          cases hAv
          have hcl0 := hcl 0 hk0
          have hcll := hcl (k - 1) (by omega)
          have e1 : ((k : Int) - 1) = ((k - 1 : Nat) : Int) := by omega
          have hf0 := hfr 0
          obtain ⟨yl, hyl⟩ : ∃ yl, ts[k - 1]?.getD 0 = yl := ⟨_, rfl⟩
          rw [hyl] at hcll
          clear hcl hyl hyq
          have hRql := hRq.lt
          have hL : Arr (wq.alloc (.cells #[Value.int .i64 (-1), .int .i64 (k : Int), .int .i64 yl] 3)) wq.heap.size 3 [-1, (k : Int), yl] := heap_alloc_new wq _
          have hUl : Upd (fun _ => False) wq (wq.alloc (.cells #[Value.int .i64 (-1), .int .i64 (k : Int), .int .i64 yl] 3)) := (Upd.refl _ _).alloc _
          go_wp2_with fail
          obtain ⟨W6, hW6⟩ : ∃ W6, wq.alloc (.cells #[Value.int .i64 (-1), .int .i64 (k : Int), .int .i64 yl] 3) = W6 := ⟨_, rfl⟩
          rw [hW6] at hL hUl ⊢
          clear hW6
          refine (one_any R _ _ 3 3 _ _ W6 (hRq.upd hUl (fun _ e => e.elim)) (by omega) (hL.ints' (n := 3) hL.lt rfl) (fun b off e => by cases e; omega) (by omega) (by omega)).mono ?_
          rintro e w9 ⟨vv, rfl, -, hR9, hU9⟩
          have z6 := hUl.size
          have z9 := hU9.size
          have hV9 := (hVq.upd hUl (fun _ e => e.elim)).upd hU9 (fun j e => by omega)
          obtain ⟨bb2, hAv2, -, -, hfr9, hcl9⟩ := hV9.cell hk0
          cases hAv2
          have hcl90 := hcl9 0 hk0
          have hf90 := hfr9 0
          have hUw9 : Upd (fun k => k = R) w w9 := hUwq.trans ((hUl.mono (S := fun k => k = R) (fun _ _ e => e.elim)).trans hU9)
          clear hcl9 hfr9 hfr hcl0 hcll hf0
          go_wp2_with fail
          go_ret
          exact ⟨_, k, _, ts.set 0 vv, k + 2, rfl, rfl, (hV9.set0 rfl vv).more (Nat.le_refl _) (by simp [World.setCell]; omega), by omega, by simpa [Nat.add_assoc] using hR9.upd ((Upd.refl (fun j => w.heap.size ≤ j) w9).setCell (p := ⟨_, 0, none⟩) (.inr hb1) _) (fun j e => by omega), hUw9.setCell (p := ⟨_, 0, none⟩) (.inl hb1) _⟩
        · have hyp : (yq == 0) = false := by simpa using hy0
          clear hyq
          go_wp2_with fail
          go_ret
          exact ⟨_, k, _, ts, k + 1, rfl, rfl, hVq.more (Nat.le_refl _) zq, by omega, hRq, hUwq⟩
      · obtain rfl : k = 0 := by omega
        go_wp2_with fail
        go_ret
        exact ⟨_, 0, _, ts, 0, rfl, rfl, hV, by omega, hRt, hUt⟩
end Go.Proofs.YtghogabmkbadjaaDoor

/- The arguments of Renumbered, drawn: an order and a numbering. -/
namespace Go.Proofs.YtghogabmkbadjaaDoor
open Go.RowKit Go.Shelf

def DrawnR (w : World) (e : Ending) (w' : World) : Prop := ∃ A n c zs A' n' c' ys, e = .returned (.tuple #[.slice A n c, .slice A' n' c']) ∧ n ≤ 7 ∧ n' ≤ 7 ∧ Ints w' w'.heap.size A n zs ∧ Ints w' w'.heap.size A' n' ys ∧ Below w.heap.size w w'
set_option maxRecDepth 100000 in
set_option maxHeartbeats 4000000 in
theorem drawRenumbered_any (A : Option Addr) (m c : Nat) (bs : List Int) (w : World) (h : Byts w w.heap.size A m bs) (hcap : m ≤ c) (hbig : m ≤ 1152921504606846976) :
    Calls Tryd.prog 4 #[.slice A m c] w (DrawnR w) := by
  go_enter Tryd.func4, Tryd.ntmps4
  go_wp2_with fail
  refine (newReader_rd h hcap hbig).mono ?_
  rintro e w0 ⟨rfl, hR, hB, hz⟩
  obtain ⟨R, hRe⟩ : ∃ R, w.heap.size = R := ⟨_, rfl⟩
  rw [hRe] at hR hz hB ⊢
  have hRl := hR.lt
  go_wp2_with fail
  refine (someOrder_any R _ w0 hR (by omega)).mono ?_
  rintro e w1 ⟨A1, n, c1, zs, q1, rfl, hn7, r1, hq1, hR1, hU1⟩
  have z1 := hU1.size
  have B1 := hB.trans (hU1.toBelow (fun k e => by omega) (by omega))
  clear hR hU1 hB
  go_wp2_with fail
  refine (aNum_any R _ n w1 hR1 (by omega) hn7).mono ?_
  rintro e w2 ⟨A2, n2, c2, ts, q2, rfl, rfl, r2, -, -, hU2⟩
  have z2 := hU2.size
  have r3 := r1.upd hU2 (fun j e => by omega)
  go_wp2
  go_ret2
  exact ⟨A1, _, c1, zs, A2, _, c2, ts, rfl, hn7, hn7, r3.ints (by omega), r2.ints (Nat.le_refl _), by rw [hRe]; exact B1.trans (hU2.toBelow (fun k e => by omega) (by omega))⟩
end Go.Proofs.YtghogabmkbadjaaDoor

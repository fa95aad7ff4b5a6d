/- A list that is drawn, and where the reader stands then: a line at times, all items in some order at times, one of them another one at times. -/
import Derived.Test.YtghogabmkbadjabGxa
import Derived.Test.YtghogabmkbadjabAtS
import Derived.Test.YtghogabmkbadjabGb
import Derived.Test.YtghogabmkbadjabGd
set_option linter.unusedVariables false
set_option linter.unusedSimpArgs false
namespace Go.Proofs.Ytghogabmkbadjab
open Go.RowKit Go.Shelf

theorem rd_at {w : World} {R p x : Nat} (h : Rd w R x) (h1 : p ≤ x) (h2 : x ≤ p + 30) : ∃ q, q ≤ 30 ∧ Rd w R (p + q) := ⟨x - p, by omega, by rw [show p + (x - p) = x by omega]; exact h⟩
set_option maxRecDepth 100000 in
set_option maxHeartbeats 8000000 in
theorem aLineR_any (R p : Nat) (A : Option Addr) (n c : Nat) (zs : List Int) (w : World) (h : Rd w R p) (hp : p ≤ 900000) (lo hi : Nat) (hI0 : Row w lo hi A n zs) (hlo : R < lo) (hhi : hi ≤ w.heap.size) (hn : n ≤ 7) :
    Calls Try.prog 82 #[.pointer (some ⟨R, 0, none⟩), .slice A n c] w fun e w' => ∃ A' n' c' ls, e = .returned (.slice A' n' c') ∧ n' ≤ 7 ∧ RowV w' w.heap.size w'.heap.size A' n' ls ∧ Upd (fun k => k = R) w w' ∧ ∃ q, q ≤ 30 ∧ Rd w' R (p + q) := by
  have hRl := h.lt
  obtain ⟨i1, hi1, hzi1, hsi1, hbi1⟩ := info_parts infoInt
  have hlen := Lib.hid hI0.len
  go_enter Try.func82, Try.ntmps82
  go_wp2_with fail
  have hO := own_new w 3
  have hU1 : Upd (fun _ => False) w (w.alloc (.cells #[] 3)) := (Upd.refl _ w).alloc _
  have hR1 := h.upd hU1 (fun _ e => e.elim)
  have hI1 := hI0.upd hU1 (fun _ e => e.elim)
  have hz1 : (w.alloc (.cells #[] 3)).heap.size = w.heap.size + 1 := by simp
  obtain ⟨W1, hW1⟩ : ∃ W1, w.alloc (.cells #[] 3) = W1 := ⟨_, rfl⟩
  rw [hW1] at hO hU1 hR1 hI1 hz1 ⊢
  clear hW1
  cases hv : vo zs
  · have Hv := Lib.hid hv
    clear hv
    go_wp2_with fail
    refine (validOrder_any _ _ _ _ zs _ (hI1.ints (Nat.le_refl _)) (by omega)).mono ?_
    rw [Hv.out]
    rintro e w' ⟨rfl, q1, rfl⟩
    have hRR : Rd (W1.drewN q1) R (p + 0) := hR1
    have hUU : Upd (fun k => k = R) w (W1.drewN q1) := (hU1.mono (fun _ _ e => e.elim)).drewN q1
    have hO2 : (W1.drewN q1).ownsRow w.heap.size 3 1 (.slice (some ⟨w.heap.size, 0, none⟩) 0 0) 0 [] := hO
    obtain ⟨W2, hW2⟩ : ∃ W2, W1.drewN q1 = W2 := ⟨_, rfl⟩
    rw [hW2] at hRR hUU hO2 ⊢
    clear hW2 hO hR1 hU1 hI1 h hz1
    have hO := hO2
    go_wp2_with fail
    go_loopw [5, 6] (fun v i wr => ∃ (k bt cp : Nat) (ts : List Int), k ≤ n ∧ i = .int .i64 k ∧ v = .slice (some ⟨bt, 0, none⟩) k cp ∧ (k ≤ cp ∧ cp ≤ maxLen) ∧ w.heap.size ≤ bt ∧ wr.ownsRow w.heap.size 3 1 (.slice (some ⟨bt, 0, none⟩) k cp) k (ts.map (Value.int .i64)) ∧ Rd wr R (p + 0 + k) ∧ Upd (fun k => k = R) w wr) (fun _ i _ => n - (intOf i).toNat)
    case atStart => exact ⟨0, w.heap.size, 0, [], by omega, rfl, rfl, ⟨by omega, by simp [maxLen]⟩, Nat.le_refl _, by simpa using hO, hRR, hUU⟩
    case round =>
      obtain ⟨k, bt, cp, ts, hk, rfl, rfl, ⟨hkc, hcm⟩, hbtw, hown, hRd, hU⟩ := hrel
      rename World => wx
      have zU := hU.size
      obtain ⟨htl, htc⟩ := own_cells hown
      have hbt : bt < wx.heap.size := own_lt' hown bt rfl
      by_cases hlt : k < n
      · go_wp2_with fail
        refine (pick_any R (p + 0 + k) (k + 1) wx hRd (by omega)).mono ?_
        rintro e w7 ⟨y, rfl, hy, hR7, hU7⟩
        have hy2 := hy.1 (by omega)
        obtain ⟨h, rfl⟩ := Int.eq_ofNat_of_zero_le hy2.1
        have hhk : h ≤ k := by omega
        have htc7 : ∀ j, j < k → w7.cell? ⟨bt, j, none⟩ = some (.int .i64 (ts[j]?.getD 0)) := fun j hj => hU7.cell (htc j hj) (by simp; omega)
        have hUw7 := hU.trans hU7
        have z7 := hU7.size
        clear hy hy2 htc hU hU7 hRd hown
        go_wp2_with fail
        obtain ⟨AD, hAD⟩ : ∃ AD, (if cp = h then some (⟨bt, 0, none⟩ : Addr) else some ⟨bt, h, none⟩) = some AD := by split <;> exact ⟨_, rfl⟩
        have hadd : ∀ j, j < (ts.drop h).length → AD.add j = ⟨bt, h + j, none⟩ := fun j hj => by
          have hne : ¬ cp = h := fun e => by simp at hj; omega
          rw [if_neg hne] at hAD
          cases hAD
          exact addr_add ..
        have hadd0 : ∀ j, j < (ts.take h).length → (⟨bt, 0, none⟩ : Addr).add j = ⟨bt, 0 + j, none⟩ := fun j hj => addr_add ..
        have htk : (ts.take h).length = h := by simp; omega
        have htd : (ts.drop h).length = k - h := by simp; omega
        have hgt : ∀ j, j < (ts.take h).length → (ts.take h)[j]?.getD 0 = ts[0 + j]?.getD 0 := fun j hj => by rw [Nat.zero_add, List.getElem?_take_of_lt (by omega)]
        have hgd : ∀ j, j < (ts.drop h).length → (ts.drop h)[j]?.getD 0 = ts[h + j]?.getD 0 := fun j hj => by rw [List.getElem?_drop]
        have hone : ∀ (zs : List Int), ∀ u ∈ zs.map (Value.int .i64), u.oneCell' = true := fun zs u hu => by
          obtain ⟨z, _, rfl⟩ := List.mem_map.1 hu; rfl
        have hbt7 : bt < w7.heap.size := by omega
        have hkN : k < 7 := by omega
        have hhc : h ≤ cp := by omega
        have hhc' : (h : Int) ≤ (cp : Int) := by omega
        have hhk' : (h : Int) ≤ (k : Int) := by omega
        go_region_law (first
          | (refine step_append_any _ rfl (.tmp 36) (.tmp 39) _ (by rfl) w7.heap.size 3 i1 _ 8 Try.underlying22 hi1 hzi1 hsi1 hbi1 rfl (.slice (some ⟨_, 0, none⟩) 0 0) 0 [] (by rfl) (by simp) (by first | exact own_new2 _ _ _ | exact own_sooner (own_new _ _) (by first | (simp; done) | (simp; omega)) | exact own_sooner ((own_new _ _).alloc _) (by first | (simp; done) | (simp; omega))) ⟨bt, 0, none⟩ h cp _ (by rfl) (by rw [List.length_map]; exact htk) (news_at htc7 (by repeat' (first | exact Upd.refl _ _ | assumption | refine Upd.alloc ?_ _ | refine Upd.drew ?_)) hbt7 hadd0 hgt (by omega)) (hone _) (by simp [maxLen]; omega) (by omega) (by first | (simp; done) | (simp; omega)) ?_; intro g1 cap1 x1 hown1 hgrow1 hg1 hl1 hc1 hm1; rw [Nat.zero_add] at hown1; have hU1 : Upd (fun k => w7.heap.size ≤ k) w7 x1 := Upd.grown (by repeat' (first | exact Upd.refl _ _ | assumption | refine Upd.alloc ?_ _ | refine Upd.drew ?_)) hgrow1 (fun q hq => by simp [Value.ownBlock] at hq; omega))
          | (refine step_append_any _ rfl (.tmp 40) (.tmp 42) _ (by rfl) w7.heap.size 3 i1 _ 8 Try.underlying22 hi1 hzi1 hsi1 hbi1 rfl (.slice (some ⟨g1, 0, none⟩) h cap1) h _ (by rfl) (by simp) (by first | exact hown1 | exact hown1.alloc _) ⟨_, 0, none⟩ 1 1 [.int .i64 (k : Int)] (by rfl) rfl (by first | exact news_one (cell_new _ _ _) | exact news_one ((hgrow1.cell_far _ (by first | (simp; done) | (simp; omega)) (by simp [Value.ownBlock])).trans (draw_cell_new2 _ _ _ _)) | exact news_one ((hgrow1.cell_far _ (by first | (simp; done) | (simp; omega)) (by simp [Value.ownBlock])).trans (cell_new _ _ _)) | exact news_one ((hgrow1.cell_far _ (by first | (simp; done) | (simp; omega)) (by simp [Value.ownBlock])).trans (cell_new_alloc _ _ _ _)) | exact news_one ((hgrow1.cell_far _ (by first | (simp; done) | (simp; omega)) (by simp [Value.ownBlock])).trans (cell_new _ _ _))) (by simp [Value.oneCell']) (by simp [maxLen]; omega) (by omega) (by have := hU1.size; simp; omega) ?_; intro g2 cap2 x2 hown2 hgrow2 hg2 hl2 hc2 hm2; have hU2 : Upd (fun k => w7.heap.size ≤ k) w7 x2 := Upd.grown (by repeat' (first | exact Upd.refl _ _ | assumption | refine Upd.alloc ?_ _ | refine Upd.drew ?_)) hgrow2 (fun q hq => by simp [Value.ownBlock] at hq; omega))
          | (refine step_append_any _ rfl (.tmp 43) (.tmp 46) _ (by rfl) w7.heap.size 3 i1 _ 8 Try.underlying22 hi1 hzi1 hsi1 hbi1 rfl (.slice (some ⟨g2, 0, none⟩) (h + 1) cap2) (h + 1) _ (by rfl) (by simp) hown2 AD (k - h) _ _ (by simp [Act.eval]; rfl) (by rw [List.length_map]; exact htd) (news_at htc7 hU2 hbt7 hadd hgd (by omega)) (hone _) (by simp [maxLen]; omega) (by omega) (by have := hU2.size; omega) ?_; intro g3 cap3 x3 hown3 hgrow3 hg3 hl3 hc3 hm3; have hU3 : Upd (fun k => w7.heap.size ≤ k) w7 x3 := Upd.grown hU2 hgrow3 (fun q hq => by simp [Value.ownBlock] at hq; omega)))
        all_goals
          have e3 : ([] ++ (ts.take h).map (Value.int .i64) ++ [Value.int .i64 (k : Int)]) ++ (ts.drop h).map (Value.int .i64) = (ts.take h ++ [(k : Int)] ++ ts.drop h).map (Value.int .i64) := by simp
          rw [e3] at hown3
          have hn3 : h + 1 + (k - h) = k + 1 := by omega
          rw [hn3] at hown3 hc3
          simp only [hn3]
          have hR8 : Rd x3 R (p + 0 + (k + 1)) := hR7.upd hU3 (fun q hq => by omega)
          have hU8 : Upd (fun k => k = R) w x3 := hUw7.trans' hU3 (fun i hi e => by omega)
          go_wp2
          go_roundw
          case rel => exact ⟨k + 1, g3, cap3, ts.take h ++ [(k : Int)] ++ ts.drop h, by omega, by go_num, rfl, ⟨hc3, hm3⟩, by omega, own_sooner hown3 (by omega), hR8, hU8⟩
          case measure => simp [intOf]; omega
      · obtain rfl : k = n := by omega
        obtain ⟨Av, cv, hev, hV⟩ := rowV_of_own hown
        cases hev
        have hRt := hRd
        have hUt := hU
        have hkt : k ≤ 7 := hn
        have hpt : p + 0 + k ≤ p + 10 := by omega
        clear hRd hU hown htl htc
        by_cases hk0 : 0 < k
        · go_wp2_with fail
          refine (pick_any R _ 24 _ hRt (by omega)).mono ?_
          rintro e wq ⟨yq, rfl, hyq, hRq, hUq⟩
          have hVq := hV.upd hUq (fun j e => by omega)
          have zt := hUt.size
          have zq := hUq.size
          have hUwq := hUt.trans hUq
          clear hV hRt hUt hUq
          by_cases hy0 : yq = 0
          · subst hy0
            obtain ⟨bb, hAv, hb1, hb2, hfr, hcl⟩ := hVq.cell hk0
            cases hAv
            have hcl0 := hcl 0 hk0
            have hcll := hcl (k - 1) (by omega)
            have e1 : ((k : Int) - 1) = ((k - 1 : Nat) : Int) := by omega
            have hf0 := hfr 0
            obtain ⟨yl, hyl⟩ : ∃ yl, ts[k - 1]?.getD 0 = yl := ⟨_, rfl⟩
            rw [hyl] at hcll
            clear hcl hyl hyq
            have hRql := hRq.lt
            have hL : Arr (wq.alloc (.cells #[Value.int .i64 (-1), .int .i64 (k : Int), .int .i64 yl] 3)) wq.heap.size 3 [-1, (k : Int), yl] := heap_alloc_new wq _
            have hUl : Upd (fun _ => False) wq (wq.alloc (.cells #[Value.int .i64 (-1), .int .i64 (k : Int), .int .i64 yl] 3)) := (Upd.refl _ _).alloc _
            go_wp2_with fail
            obtain ⟨W6, hW6⟩ : ∃ W6, wq.alloc (.cells #[Value.int .i64 (-1), .int .i64 (k : Int), .int .i64 yl] 3) = W6 := ⟨_, rfl⟩
            rw [hW6] at hL hUl ⊢
            clear hW6
            refine (one_any R _ _ 3 3 _ _ W6 (hRq.upd hUl (fun _ e => e.elim)) (by omega) (hL.ints' (n := 3) hL.lt rfl) (fun b off e => by cases e; omega) (by omega) (by omega)).mono ?_
            rintro e w9 ⟨vv, rfl, -, hR9, hU9⟩
            have z6 := hUl.size
            have z9 := hU9.size
            have hV9 := (hVq.upd hUl (fun _ e => e.elim)).upd hU9 (fun j e => by omega)
            obtain ⟨bb2, hAv2, -, -, hfr9, hcl9⟩ := hV9.cell hk0
            cases hAv2
            have hcl90 := hcl9 0 hk0
            have hf90 := hfr9 0
            have hUw9 : Upd (fun k => k = R) w w9 := hUwq.trans ((hUl.mono (S := fun k => k = R) (fun _ _ e => e.elim)).trans hU9)
            clear hcl9 hfr9 hfr hcl0 hcll hf0
            go_wp2_with fail
            go_ret
            exact ⟨_, k, _, ts.set 0 vv, rfl, hkt, (hV9.set0 rfl vv).more (Nat.le_refl _) (by simp [World.setCell]; omega), hUw9.setCell (p := ⟨_, 0, none⟩) (.inl hb1) _, rd_at (hR9.upd ((Upd.refl (fun j => w.heap.size ≤ j) w9).setCell (p := ⟨_, 0, none⟩) (.inr hb1) _) (fun j e => by omega)) (by omega) (by omega)⟩
          · have hyp : (yq == 0) = false := by simpa using hy0
            clear hyq
            go_wp2_with fail
            go_ret
            exact ⟨_, k, _, ts, rfl, hkt, hVq.more (Nat.le_refl _) zq, hUwq, rd_at hRq (by omega) (by omega)⟩
        · obtain rfl : k = 0 := by omega
          go_wp2_with fail
          go_ret
          exact ⟨_, 0, _, ts, rfl, hkt, hV, hUt, rd_at hRt (by omega) (by omega)⟩

  · have hvo : VoP zs := by simpa [vo] using hv
    have Hv := Lib.hid hv
    clear hv
    go_wp2_with fail
    refine (validOrder_any _ _ _ _ zs _ (hI1.ints (by omega)) (by omega)).mono ?_
    rw [Hv.out]
    rintro e w' ⟨rfl, q1, rfl⟩
    have hRR : Rd (W1.drewN q1) R p := hR1
    have hUU : Upd (fun k => k = R) w (W1.drewN q1) := (hU1.mono (fun _ _ e => e.elim)).drewN q1
    have hO2 : (W1.drewN q1).ownsRow w.heap.size 3 1 (.slice (some ⟨w.heap.size, 0, none⟩) 0 0) 0 [] := hO
    have hI2 : Row (W1.drewN q1) lo hi A n zs := hI1
    have hz2 : (W1.drewN q1).heap.size = w.heap.size + 1 := hz1
    obtain ⟨W2, hW2⟩ : ∃ W2, W1.drewN q1 = W2 := ⟨_, rfl⟩
    rw [hW2] at hRR hUU hO2 hI2 hz2 ⊢
    clear hW2 hO hR1 hU1 hI1 h hz1
    go_wp2_with fail
    refine (pick_any R p 5 W2 hRR (by omega)).mono ?_
    rintro e w3 ⟨y, rfl, hy, hR3, hU3⟩
    have hy2 := hy.1 (by omega)
    have z3 := hU3.size
    have hUU3 := hUU.trans hU3
    have hI3 := hI2.upd hU3 (fun j e => by omega)
    have hO3 : w3.ownsRow w.heap.size 3 1 (.slice (some ⟨w.heap.size, 0, none⟩) 0 0) 0 [] := (OwnS.keep (S := fun k => w.heap.size ≤ k) (xs := []) ⟨fun k hk => by simp [Value.ownBlock] at hk; omega, hO2⟩ hU3 (fun k hk e => by omega)).2
    clear hRR hUU hI2 hO2 hy hU3
    by_cases hy0 : y = 0
    · subst hy0
      have hRR := hR3
      have hUU := hUU3
      have hO := hO3
      go_wp2_with fail
      go_loopw [5, 6] (fun v i wr => ∃ (k bt cp : Nat) (ts : List Int), k ≤ n ∧ i = .int .i64 k ∧ v = .slice (some ⟨bt, 0, none⟩) k cp ∧ (k ≤ cp ∧ cp ≤ maxLen) ∧ w.heap.size ≤ bt ∧ wr.ownsRow w.heap.size 3 1 (.slice (some ⟨bt, 0, none⟩) k cp) k (ts.map (Value.int .i64)) ∧ Rd wr R (p + 1 + k) ∧ Upd (fun k => k = R) w wr) (fun _ i _ => n - (intOf i).toNat)
      case atStart => exact ⟨0, w.heap.size, 0, [], by omega, rfl, rfl, ⟨by omega, by simp [maxLen]⟩, Nat.le_refl _, by simpa using hO, hRR, hUU⟩
      case round =>
        obtain ⟨k, bt, cp, ts, hk, rfl, rfl, ⟨hkc, hcm⟩, hbtw, hown, hRd, hU⟩ := hrel
        rename World => wx
        have zU := hU.size
        obtain ⟨htl, htc⟩ := own_cells hown
        have hbt : bt < wx.heap.size := own_lt' hown bt rfl
        by_cases hlt : k < n
        · go_wp2_with fail
          refine (pick_any R (p + 1 + k) (k + 1) wx hRd (by omega)).mono ?_
          rintro e w7 ⟨y, rfl, hy, hR7, hU7⟩
          have hy2 := hy.1 (by omega)
          obtain ⟨h, rfl⟩ := Int.eq_ofNat_of_zero_le hy2.1
          have hhk : h ≤ k := by omega
          have htc7 : ∀ j, j < k → w7.cell? ⟨bt, j, none⟩ = some (.int .i64 (ts[j]?.getD 0)) := fun j hj => hU7.cell (htc j hj) (by simp; omega)
          have hUw7 := hU.trans hU7
          have z7 := hU7.size
          clear hy hy2 htc hU hU7 hRd hown
          go_wp2_with fail
          obtain ⟨AD, hAD⟩ : ∃ AD, (if cp = h then some (⟨bt, 0, none⟩ : Addr) else some ⟨bt, h, none⟩) = some AD := by split <;> exact ⟨_, rfl⟩
          have hadd : ∀ j, j < (ts.drop h).length → AD.add j = ⟨bt, h + j, none⟩ := fun j hj => by
            have hne : ¬ cp = h := fun e => by simp at hj; omega
            rw [if_neg hne] at hAD
            cases hAD
            exact addr_add ..
          have hadd0 : ∀ j, j < (ts.take h).length → (⟨bt, 0, none⟩ : Addr).add j = ⟨bt, 0 + j, none⟩ := fun j hj => addr_add ..
          have htk : (ts.take h).length = h := by simp; omega
          have htd : (ts.drop h).length = k - h := by simp; omega
          have hgt : ∀ j, j < (ts.take h).length → (ts.take h)[j]?.getD 0 = ts[0 + j]?.getD 0 := fun j hj => by rw [Nat.zero_add, List.getElem?_take_of_lt (by omega)]
          have hgd : ∀ j, j < (ts.drop h).length → (ts.drop h)[j]?.getD 0 = ts[h + j]?.getD 0 := fun j hj => by rw [List.getElem?_drop]
          have hone : ∀ (zs : List Int), ∀ u ∈ zs.map (Value.int .i64), u.oneCell' = true := fun zs u hu => by
            obtain ⟨z, _, rfl⟩ := List.mem_map.1 hu; rfl
          have hbt7 : bt < w7.heap.size := by omega
          have hkN : k < 7 := by omega
          have hhc : h ≤ cp := by omega
          have hhc' : (h : Int) ≤ (cp : Int) := by omega
          have hhk' : (h : Int) ≤ (k : Int) := by omega
          go_region_law (first
            | (refine step_append_any _ rfl (.tmp 36) (.tmp 39) _ (by rfl) w7.heap.size 3 i1 _ 8 Try.underlying22 hi1 hzi1 hsi1 hbi1 rfl (.slice (some ⟨_, 0, none⟩) 0 0) 0 [] (by rfl) (by simp) (by first | exact own_new2 _ _ _ | exact own_sooner (own_new _ _) (by first | (simp; done) | (simp; omega)) | exact own_sooner ((own_new _ _).alloc _) (by first | (simp; done) | (simp; omega))) ⟨bt, 0, none⟩ h cp _ (by rfl) (by rw [List.length_map]; exact htk) (news_at htc7 (by repeat' (first | exact Upd.refl _ _ | assumption | refine Upd.alloc ?_ _ | refine Upd.drew ?_)) hbt7 hadd0 hgt (by omega)) (hone _) (by simp [maxLen]; omega) (by omega) (by first | (simp; done) | (simp; omega)) ?_; intro g1 cap1 x1 hown1 hgrow1 hg1 hl1 hc1 hm1; rw [Nat.zero_add] at hown1; have hU1 : Upd (fun k => w7.heap.size ≤ k) w7 x1 := Upd.grown (by repeat' (first | exact Upd.refl _ _ | assumption | refine Upd.alloc ?_ _ | refine Upd.drew ?_)) hgrow1 (fun q hq => by simp [Value.ownBlock] at hq; omega))
            | (refine step_append_any _ rfl (.tmp 40) (.tmp 42) _ (by rfl) w7.heap.size 3 i1 _ 8 Try.underlying22 hi1 hzi1 hsi1 hbi1 rfl (.slice (some ⟨g1, 0, none⟩) h cap1) h _ (by rfl) (by simp) (by first | exact hown1 | exact hown1.alloc _) ⟨_, 0, none⟩ 1 1 [.int .i64 (k : Int)] (by rfl) rfl (by first | exact news_one (cell_new _ _ _) | exact news_one ((hgrow1.cell_far _ (by first | (simp; done) | (simp; omega)) (by simp [Value.ownBlock])).trans (draw_cell_new2 _ _ _ _)) | exact news_one ((hgrow1.cell_far _ (by first | (simp; done) | (simp; omega)) (by simp [Value.ownBlock])).trans (cell_new _ _ _)) | exact news_one ((hgrow1.cell_far _ (by first | (simp; done) | (simp; omega)) (by simp [Value.ownBlock])).trans (cell_new_alloc _ _ _ _)) | exact news_one ((hgrow1.cell_far _ (by first | (simp; done) | (simp; omega)) (by simp [Value.ownBlock])).trans (cell_new _ _ _))) (by simp [Value.oneCell']) (by simp [maxLen]; omega) (by omega) (by have := hU1.size; simp; omega) ?_; intro g2 cap2 x2 hown2 hgrow2 hg2 hl2 hc2 hm2; have hU2 : Upd (fun k => w7.heap.size ≤ k) w7 x2 := Upd.grown (by repeat' (first | exact Upd.refl _ _ | assumption | refine Upd.alloc ?_ _ | refine Upd.drew ?_)) hgrow2 (fun q hq => by simp [Value.ownBlock] at hq; omega))
            | (refine step_append_any _ rfl (.tmp 43) (.tmp 46) _ (by rfl) w7.heap.size 3 i1 _ 8 Try.underlying22 hi1 hzi1 hsi1 hbi1 rfl (.slice (some ⟨g2, 0, none⟩) (h + 1) cap2) (h + 1) _ (by rfl) (by simp) hown2 AD (k - h) _ _ (by simp [Act.eval]; rfl) (by rw [List.length_map]; exact htd) (news_at htc7 hU2 hbt7 hadd hgd (by omega)) (hone _) (by simp [maxLen]; omega) (by omega) (by have := hU2.size; omega) ?_; intro g3 cap3 x3 hown3 hgrow3 hg3 hl3 hc3 hm3; have hU3 : Upd (fun k => w7.heap.size ≤ k) w7 x3 := Upd.grown hU2 hgrow3 (fun q hq => by simp [Value.ownBlock] at hq; omega)))
          all_goals
            have e3 : ([] ++ (ts.take h).map (Value.int .i64) ++ [Value.int .i64 (k : Int)]) ++ (ts.drop h).map (Value.int .i64) = (ts.take h ++ [(k : Int)] ++ ts.drop h).map (Value.int .i64) := by simp
            rw [e3] at hown3
            have hn3 : h + 1 + (k - h) = k + 1 := by omega
            rw [hn3] at hown3 hc3
            simp only [hn3]
            have hR8 : Rd x3 R (p + 1 + (k + 1)) := hR7.upd hU3 (fun q hq => by omega)
            have hU8 : Upd (fun k => k = R) w x3 := hUw7.trans' hU3 (fun i hi e => by omega)
            go_wp2
            go_roundw
            case rel => exact ⟨k + 1, g3, cap3, ts.take h ++ [(k : Int)] ++ ts.drop h, by omega, by go_num, rfl, ⟨hc3, hm3⟩, by omega, own_sooner hown3 (by omega), hR8, hU8⟩
            case measure => simp [intOf]; omega
        · obtain rfl : k = n := by omega
          obtain ⟨Av, cv, hev, hV⟩ := rowV_of_own hown
          cases hev
          have hRt := hRd
          have hUt := hU
          have hkt : k ≤ 7 := hn
          have hpt : p + 1 + k ≤ p + 10 := by omega
          clear hRd hU hown htl htc
          by_cases hk0 : 0 < k
          · go_wp2_with fail
            refine (pick_any R _ 24 _ hRt (by omega)).mono ?_
            rintro e wq ⟨yq, rfl, hyq, hRq, hUq⟩
            have hVq := hV.upd hUq (fun j e => by omega)
            have zt := hUt.size
            have zq := hUq.size
            have hUwq := hUt.trans hUq
            clear hV hRt hUt hUq
            by_cases hy0 : yq = 0
            · subst hy0
              obtain ⟨bb, hAv, hb1, hb2, hfr, hcl⟩ := hVq.cell hk0
              cases hAv
              have hcl0 := hcl 0 hk0
              have hcll := hcl (k - 1) (by omega)
              have e1 : ((k : Int) - 1) = ((k - 1 : Nat) : Int) := by omega
              have hf0 := hfr 0
              obtain ⟨yl, hyl⟩ : ∃ yl, ts[k - 1]?.getD 0 = yl := ⟨_, rfl⟩
              rw [hyl] at hcll
              clear hcl hyl hyq
              have hRql := hRq.lt
              have hL : Arr (wq.alloc (.cells #[Value.int .i64 (-1), .int .i64 (k : Int), .int .i64 yl] 3)) wq.heap.size 3 [-1, (k : Int), yl] := heap_alloc_new wq _
              have hUl : Upd (fun _ => False) wq (wq.alloc (.cells #[Value.int .i64 (-1), .int .i64 (k : Int), .int .i64 yl] 3)) := (Upd.refl _ _).alloc _
              go_wp2_with fail
              obtain ⟨W6, hW6⟩ : ∃ W6, wq.alloc (.cells #[Value.int .i64 (-1), .int .i64 (k : Int), .int .i64 yl] 3) = W6 := ⟨_, rfl⟩
              rw [hW6] at hL hUl ⊢
              clear hW6
              refine (one_any R _ _ 3 3 _ _ W6 (hRq.upd hUl (fun _ e => e.elim)) (by omega) (hL.ints' (n := 3) hL.lt rfl) (fun b off e => by cases e; omega) (by omega) (by omega)).mono ?_
              rintro e w9 ⟨vv, rfl, -, hR9, hU9⟩
              have z6 := hUl.size
              have z9 := hU9.size
              have hV9 := (hVq.upd hUl (fun _ e => e.elim)).upd hU9 (fun j e => by omega)
              obtain ⟨bb2, hAv2, -, -, hfr9, hcl9⟩ := hV9.cell hk0
              cases hAv2
              have hcl90 := hcl9 0 hk0
              have hf90 := hfr9 0
              have hUw9 : Upd (fun k => k = R) w w9 := hUwq.trans ((hUl.mono (S := fun k => k = R) (fun _ _ e => e.elim)).trans hU9)
              clear hcl9 hfr9 hfr hcl0 hcll hf0
              go_wp2_with fail
              go_ret
              exact ⟨_, k, _, ts.set 0 vv, rfl, hkt, (hV9.set0 rfl vv).more (Nat.le_refl _) (by simp [World.setCell]; omega), hUw9.setCell (p := ⟨_, 0, none⟩) (.inl hb1) _, rd_at (hR9.upd ((Upd.refl (fun j => w.heap.size ≤ j) w9).setCell (p := ⟨_, 0, none⟩) (.inr hb1) _) (fun j e => by omega)) (by omega) (by omega)⟩
            · have hyp : (yq == 0) = false := by simpa using hy0
              clear hyq
              go_wp2_with fail
              go_ret
              exact ⟨_, k, _, ts, rfl, hkt, hVq.more (Nat.le_refl _) zq, hUwq, rd_at hRq (by omega) (by omega)⟩
          · obtain rfl : k = 0 := by omega
            go_wp2_with fail
            go_ret
            exact ⟨_, 0, _, ts, rfl, hkt, hV, hUt, rd_at hRt (by omega) (by omega)⟩

    · have hyp : 0 < y := by omega
      have hn6 : n ≤ 6 := by have := hvo.1; rw [hlen.out] at this; exact this
      go_wp2_with fail
      refine (scountLines_any A n c zs hvo _ (hI3.ints (by omega))).mono ?_
      rintro e w4 ⟨rfl, hB4⟩
      have z4 := hB4.size
      have hR4 := hR3.below hB4 hR3.lt
      have hI4 := hI3.below hB4 (by omega)
      have hUU4 := hUU3.below hB4 (fun k h1 h2 => by omega)
      clear hR3 hI3 hUU3 hB4 hO3
      go_wp2_with fail
      refine (pick_any R (p + 1) _ w4 hR4 (by omega)).mono ?_
      rintro e w5 ⟨rr, rfl, -, hR5, hU5⟩
      have z5 := hU5.size
      have hI5 := hI4.upd hU5 (fun j e => by omega)
      have hUU5 := hUU4.trans hU5
      clear hR4 hI4 hUU4 hU5
      go_wp2_with fail
      refine (specLineAtF_any A n c zs rr w5 (hI5.ints (by omega)) (by omega)).mono ?_
      have hfew := atR_few zs rr
      obtain ⟨xs, hxs⟩ : ∃ xs, atR zs rr = xs := ⟨_, rfl⟩
      rw [hxs] at hfew ⊢
      clear hxs
      rintro e w6 ⟨Av, kk, cv, rfl, hV6, hB6⟩
      have z6 := hB6.size
      have hkl := hV6.len
      have hkt : kk ≤ 7 := by omega
      have hRt := hR5.below hB6 hR5.lt
      have hUt := hUU5.below hB6 (fun k h1 h2 => by omega)
      have hV := hV6.more (lo' := w.heap.size) (by omega) (Nat.le_refl _)
      clear hR5 hUU5 hI5 hB6 hV6 hkl
      by_cases hk0 : 0 < kk
      · go_wp2_with fail
        refine (pick_any R _ 24 _ hRt (by omega)).mono ?_
        rintro e wq ⟨yq, rfl, hyq, hRq, hUq⟩
        have hVq := hV.upd hUq (fun j e => by omega)
        have zt := hUt.size
        have zq := hUq.size
        have hUwq := hUt.trans hUq
        clear hV hRt hUt hUq
        by_cases hy0 : yq = 0
        · subst hy0
          obtain ⟨bb, hAv, hb1, hb2, hfr, hcl⟩ := hVq.cell hk0
          cases hAv
          have hcl0 := hcl 0 hk0
          have hcll := hcl (kk - 1) (by omega)
          have e1 : ((kk : Int) - 1) = ((kk - 1 : Nat) : Int) := by omega
          have hf0 := hfr 0
          obtain ⟨yl, hyl⟩ : ∃ yl, xs[kk - 1]?.getD 0 = yl := ⟨_, rfl⟩
          rw [hyl] at hcll
          clear hcl hyl hyq
          have hRql := hRq.lt
          have hL : Arr (wq.alloc (.cells #[Value.int .i64 (-1), .int .i64 (kk : Int), .int .i64 yl] 3)) wq.heap.size 3 [-1, (kk : Int), yl] := heap_alloc_new wq _
          have hUl : Upd (fun _ => False) wq (wq.alloc (.cells #[Value.int .i64 (-1), .int .i64 (kk : Int), .int .i64 yl] 3)) := (Upd.refl _ _).alloc _
          go_wp2_with fail
          obtain ⟨W6, hW6⟩ : ∃ W6, wq.alloc (.cells #[Value.int .i64 (-1), .int .i64 (kk : Int), .int .i64 yl] 3) = W6 := ⟨_, rfl⟩
          rw [hW6] at hL hUl ⊢
          clear hW6
          refine (one_any R _ _ 3 3 _ _ W6 (hRq.upd hUl (fun _ e => e.elim)) (by omega) (hL.ints' (n := 3) hL.lt rfl) (fun b off e => by cases e; omega) (by omega) (by omega)).mono ?_
          rintro e w9 ⟨vv, rfl, -, hR9, hU9⟩
          have z6 := hUl.size
          have z9 := hU9.size
          have hV9 := (hVq.upd hUl (fun _ e => e.elim)).upd hU9 (fun j e => by omega)
          obtain ⟨bb2, hAv2, -, -, hfr9, hcl9⟩ := hV9.cell hk0
          cases hAv2
          have hcl90 := hcl9 0 hk0
          have hf90 := hfr9 0
          have hUw9 : Upd (fun k => k = R) w w9 := hUwq.trans ((hUl.mono (S := fun k => k = R) (fun _ _ e => e.elim)).trans hU9)
          clear hcl9 hfr9 hfr hcl0 hcll hf0
          go_wp2_with fail
          go_ret
          exact ⟨_, kk, _, xs.set 0 vv, rfl, hkt, (hV9.set0 rfl vv).more (Nat.le_refl _) (by simp [World.setCell]; omega), hUw9.setCell (p := ⟨_, 0, none⟩) (.inl hb1) _, rd_at (hR9.upd ((Upd.refl (fun j => w.heap.size ≤ j) w9).setCell (p := ⟨_, 0, none⟩) (.inr hb1) _) (fun j e => by omega)) (by omega) (by omega)⟩
        · have hyp : (yq == 0) = false := by simpa using hy0
          clear hyq
          go_wp2_with fail
          go_ret
          exact ⟨_, kk, _, xs, rfl, hkt, hVq.more (Nat.le_refl _) zq, hUwq, rd_at hRq (by omega) (by omega)⟩
      · obtain rfl : kk = 0 := by omega
        go_wp2_with fail
        go_ret
        exact ⟨_, 0, _, xs, rfl, hkt, hV, hUt, rd_at hRt (by omega) (by omega)⟩
end Go.Proofs.Ytghogabmkbadjab

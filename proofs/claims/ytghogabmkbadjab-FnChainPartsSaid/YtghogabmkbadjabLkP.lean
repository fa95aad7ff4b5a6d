/- ChainParts: the program's. -/
import Derived.Test.YtghogabmkbadjabLkM
import Derived.Test.YtghogabmkbadjabFcI
import Derived.Test.YtghogabmkbadjabDfP
import Derived.Test.YtghogabmkbadjabGa
set_option linter.unusedVariables false
set_option linter.unusedSimpArgs false
namespace Go.Proofs.Ytghogabmkbadjab
open Go.RowKit Go.Shelf
attribute [local go_sem] Oper.semAt_some

theorem ownP_cell {w : World} {B n : Nat} {e : TypeId} {v : Value} {xs : List Value} (h : w.ownsRow B e 1 v n xs) {j : Nat} {u : Value} (hu : xs[j]? = some u) : ∃ g c, v = .slice (some ⟨g, 0, none⟩) n c ∧ B ≤ g ∧ w.cell? ⟨g, j, none⟩ = some u := by
  rcases h.2 with ⟨rfl, hn⟩ | ⟨g, cap, cur, rfl, hg, hc, _, _, _, ht⟩
  · have := h.1
    rw [hn] at this
    rw [List.getElem?_eq_none (by omega)] at hu; cases hu
  · refine ⟨g, cap, rfl, hg, ?_⟩
    rw [cell_of_row w g j _ _ (0, 0) hc]
    rw [← ht, List.getElem?_take] at hu
    split at hu
    · simpa using hu
    · cases hu

set_option maxRecDepth 100000 in
set_option maxHeartbeats 4000000 in
theorem ChainParts_any (A : Option Addr) (n c : Nat) (zs : List Int) (hvo : VoP zs) (w : World) (h : Ints w w.heap.size A n zs) :
    Calls Try.prog 35 #[.slice A n c] w fun e w' => ∃ b m, e = .returned (.slice (some ⟨b, 0, none⟩) m m) ∧ (sortL (chL zs)).length = m ∧ w.heap.size ≤ b ∧ Arr w' b 3 (sortL (chL zs)) ∧ Below w.heap.size w w' := by
  have hlen := Lib.hid h.len
  have hn6 : n ≤ 6 := by have := hvo.1; rw [hlen.out] at this; exact this
  obtain ⟨i0, hi0, hz0, hz1, hz2⟩ := info_parts infoItems
  have Hv := Lib.hid (vo_true hvo)
  go_enter Try.func35, Try.ntmps35
  go_wp2_with fail
  refine (readOrder_any _ _ _ zs _ h (by omega)).mono ?_
  rintro e w1 ⟨hB, (⟨_, b, rfl, hb, hAr⟩ | ⟨hv, _⟩)⟩
  · have z1 := hB.size
    go_wp2_with fail
    refine (linkChains_any _ _ zs hvo hlen.out _ hAr).mono ?_
    rintro e w2 ⟨s, v, rfl, hs, hown, hLk, hB2⟩
    have z2 := hB2.size
    have C2 := hB.trans (hB2.mono z1)
    obtain ⟨A2, c2, rfl⟩ := ownP_len hown
    have hm6 : (lowL (matesTo zs n) n).length ≤ 6 := by rw [lowL_len]; have := noneTo_le (matesTo zs n) n; omega
    have Hlt := Lib.hid (fun i (hi : i ∈ lowL (matesTo zs n) n) => lowL_lt i hi)
    have Hnx := Lib.hid (show ∀ i j, i < n → (fun i => nxT (matesTo zs n) i n) i = some j → j < n ∧ rkC zs j < rkC zs i by
      intro i j hi e
      have := nx_up hvo (i := i) (j := j) (by rw [hlen.out]; exact hi) (by rw [hlen.out]; exact e)
      rwa [hlen.out] at this)
    have Hch := Lib.hid (show chL zs = (lowL (matesTo zs n) n).map (chT (fun i => nxT (matesTo zs n) i n) 7 · 0) by unfold chL; rw [hlen.out]; refine List.map_congr_left fun i _ => ?_; unfold chSt; rw [hlen.out])
    generalize (fun i => nxT (matesTo zs n) i n) = nx at *
    generalize lowL (matesTo zs n) n = low at *
    obtain ⟨m, hm⟩ : ∃ m, low.length = m := ⟨_, rfl⟩
    rw [hm] at hown hm6 ⊢
    have Hm := Lib.hid hm
    clear hm
    go_wp2_with fail
    go_loopw [5, 18] (fun v i wr => ∃ j : Nat, j ≤ m ∧ i = .int .i64 j ∧ OwnS (fun q => w2.heap.size ≤ q) wr w2.heap.size 76 v ((low.take j).map (chT nx 7 · 0)) ∧ Upd (fun _ => False) w2 wr) (fun _ i _ => m - (intOf i).toNat)
    case atStart => exact ⟨0, by omega, rfl, by rw [List.take_zero]; exact OwnS.none _ _ _ _, Upd.refl _ _⟩
    case round =>
      obtain ⟨j, hj, rfl, hO, hU⟩ := hrel
      rename World => wr
      have zU := hU.size
      by_cases hlt : j < m
      · have hjl : j < low.length := by rw [Hm.out]; exact hlt
        have hgx := List.getElem?_eq_getElem hjl
        have hin := Hlt.out low[j] (List.getElem_mem hjl)
        have Htk := Lib.hid (show (low.take (j + 1)).map (chT nx 7 · 0) = (low.take j).map (chT nx 7 · 0) ++ [chT nx 7 low[j] 0] by rw [List.take_succ_eq_append_getElem hjl, List.map_append]; rfl)
        have Hln := Lib.hid (show ((low.take j).map (chT nx 7 · 0)).length = j by rw [List.length_map, List.length_take]; omega)
        obtain ⟨g, cg, hvg, hgl, hgc⟩ := ownP_cell hown (j := j) (u := lnk s low[j]) (by rw [List.getElem?_map, hgx]; rfl)
        generalize low[j] = x at *
        clear hgx hjl
        cases hvg
        have hgb : g < w2.heap.size := by
          rcases hown.2 with ⟨e, _⟩ | ⟨g', cap, cur, e, _, hc, _⟩
          · cases e
          · cases e; exact (Array.getElem?_eq_some_iff.1 hc).1
        have hgr := hU.cell hgc (fun e => e)
        have hLr := hLk.upd hU (fun _ _ e => e)
        have hr7 := rkC_lt zs x
        go_wp2_with fail
        refine (chain_any s n hn6 nx (rkC zs) Hnx.out x 7 hin hr7 wr hLr).mono ?_
        rintro e w4 ⟨rfl, hU4⟩
        have hO4 := hO.keep hU4 (fun q hq e => e)
        have hU5 := hU.trans' hU4 (fun i hi e => e)
        have z4 := hU4.size
        generalize hso : chT nx 7 x 0 = so at *
        have hl6 : ((low.take j).map (chT nx 7 · 0)).length ≤ 6 := by rw [Hln.out]; omega
        clear hO hU hU4 hLr hgr
        go_wp2_with (at_builtin; go_loud (refine wpList_append1 _ rfl (.tmp 22) (.tmp 25) _ rfl w2.heap.size 76 i0 _ 8 Try.underlying48 hi0 hz0 hz1 hz2 rfl _ ((low.take j).map (chT nx 7 · 0)).length _ rfl (hO4.2.alloc _) w4.heap.size 1 (.int .i64 so) rfl (cell_new _ _ _) rfl (by omega) (by omega) (by simp; omega) ?_); rintro v' w' hown' hg' hv')
        go_roundw
        case rel =>
          have zg := hg'.size
          simp at zg
          have hOn := hO4.step (S' := fun q => w2.heap.size ≤ q) hown' hv' (fun q e => e) (fun _ => by omega)
          have hUn : Upd (fun _ => False) w2 w' := (hU5.alloc _).grown hg' (fun q hq => .inl (hO4.1 q hq))
          exact ⟨j + 1, by omega, by go_num, by rw [Htk.out]; exact hOn, hUn⟩
        case measure => simp [intOf]; omega
      · obtain rfl : j = m := by omega
        rw [List.take_of_length_le (by rw [Hm.out]; exact Nat.le_refl _), ← Hch.out] at hO
        go_wp2_with fail
        have hBr := C2.trans (hU.toBelow (B := w.heap.size) (fun _ e => e.elim) (by omega))
        have hl6 : (chL zs).length ≤ 6 := by rw [Hch.out, List.length_map, Hm.out]; omega
        have HS := Lib.hid (sortL_len (chL zs))
        rcases hO.2.2 with ⟨rfl, e0⟩ | ⟨g, cap, cur, rfl, hg, hc, hcap, hrest⟩
        · have E1 := Lib.hid (show chL zs = [] by simpa using e0)
          clear e0 hO
          refine (lsort_none _ _ _).mono ?_
          rintro e w5 ⟨rfl, rfl⟩
          go_wp2_with fail
          refine (list_any none 0 0 (sortL (chL zs)) _ ⟨by rw [HS.out, E1.out]; rfl, fun h0 => absurd h0 (by omega)⟩ (by omega)).mono ?_
          rintro e w6 ⟨rfl, hA6, hB6⟩
          have hz6 := hB6.size
          go_wp2_with fail
          go_ret
          exact ⟨_, 0, rfl, by rw [HS.out, E1.out]; rfl, by omega, hA6, hBr.trans (hB6.mono (by omega))⟩
        · obtain ⟨h1, h2, h3⟩ := own_cell hO.2
          have hH := holds_of_cells h1 h2
          refine (lsort_any g cap (chL zs) wr hH h3 (by omega)).mono ?_
          rintro e w5 ⟨rfl, hH5, hU5⟩
          have hB5 := hBr.trans (hU5.toBelow (B := w.heap.size) (fun q e => by omega) (by omega))
          have z5 := hU5.size
          have hI5 : Ints w5 w5.heap.size (some ⟨g, 0, none⟩) (chL zs).length (sortL (chL zs)) := ⟨HS.out, fun _ => ⟨g, 0, rfl, by omega, fun q hq => by rw [Nat.zero_add]; exact (holds_cell hH5 (by rw [HS.out]; exact hq)).1⟩⟩
          go_wp2_with fail
          refine (list_any (some ⟨g, 0, none⟩) (chL zs).length cap (sortL (chL zs)) w5 hI5 (by omega)).mono ?_
          rintro e w6 ⟨rfl, hA6, hB6⟩
          have hz6 := hB6.size
          go_wp2_with fail
          go_ret
          exact ⟨_, _, rfl, HS.out, by omega, hA6, hB5.trans (hB6.mono (by omega))⟩
  · rw [Hv.out] at hv; cases hv
end Go.Proofs.Ytghogabmkbadjab

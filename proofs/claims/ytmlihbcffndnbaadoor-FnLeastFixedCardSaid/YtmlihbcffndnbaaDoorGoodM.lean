/- An order that is drawn, of at most so many items. -/
import Derived.Test.YtmlihbcffndnbaaDoorDrawP
import Derived.Test.YtmlihbcffndnbaaDoorRenum
import Derived.Test.YtmlihbcffndnbaaDoorOrdSp
import Derived.Test.YtmlihbcffndnbaaDoorClos
import Derived.Test.YtmlihbcffndnbaaDoorFew
import Derived.Test.YtmlihbcffndnbaaDoorGxf
import Derived.Test.YtmlihbcffndnbaaDoorGood
import Derived.Deep.CutRange
import Derived.Deep.CutBlock
set_option linter.unusedVariables false
set_option linter.unusedSimpArgs false
namespace Go.Proofs.YtmlihbcffndnbaaDoor
open Go.RowKit Go.Shelf

set_option maxRecDepth 100000 in
set_option maxHeartbeats 8000000 in
theorem goodOrderM_any (R p M : Nat) (hM7 : M ≤ 7) (w : World) (h : Rd w R p) (hp : p ≤ 800000) :
    Calls Tryd.prog 54 #[.pointer (some ⟨R, 0, none⟩), .int .i64 (M : Int)] w fun e w' => ∃ A n c zs q, e = .returned (.slice A n c) ∧ n ≤ 6 ∧ Row w' w.heap.size w'.heap.size A n zs ∧ q ≤ 100 ∧ Rd w' R (p + q) ∧ Upd (fun k => k = R) w w' := by
  have hRl := h.lt
  obtain ⟨i0, hi0, hz0, hz1, hz2⟩ := infoRow_parts
  obtain ⟨i1, hi1, hzi1, hsi1, hbi1⟩ := info_parts infoInt
  go_enter Tryd.func54, Tryd.ntmps54
  go_upto_region 1 with fail
  go_cut [5] from 13 to 17 (fun v wx => ∃ K : Nat, v = .int .i64 (K : Int) ∧ (K ≤ 6 ∧ K ≤ M) ∧ Rd wx R (p + 1) ∧ Upd (fun k => k = R) w wx)
  case first =>
    go_wp2_with fail
    have hu1 : Upd (fun k => k = R) w (w.alloc (.cells #[Value.int .i64 4, .int .i64 5, .int .i64 6, .int .i64 3, .int .i64 5, .int .i64 6, .int .i64 2, .int .i64 1, .int .i64 4, .int .i64 0] 3)) := (Upd.refl _ _).alloc _
    have hL : Arr (w.alloc (.cells #[Value.int .i64 4, .int .i64 5, .int .i64 6, .int .i64 3, .int .i64 5, .int .i64 6, .int .i64 2, .int .i64 1, .int .i64 4, .int .i64 0] 3)) w.heap.size 3 [4, 5, 6, 3, 5, 6, 2, 1, 4, 0] := heap_alloc_new w _
    have hR1 := h.upd ((Upd.refl (fun _ => False) w).alloc (.cells #[Value.int .i64 4, .int .i64 5, .int .i64 6, .int .i64 3, .int .i64 5, .int .i64 6, .int .i64 2, .int .i64 1, .int .i64 4, .int .i64 0] 3)) (fun _ e => e.elim)
    obtain ⟨W1, hW1⟩ : ∃ W1, w.alloc (.cells #[Value.int .i64 4, .int .i64 5, .int .i64 6, .int .i64 3, .int .i64 5, .int .i64 6, .int .i64 2, .int .i64 1, .int .i64 4, .int .i64 0] 3) = W1 := ⟨_, rfl⟩
    rw [hW1] at hu1 hL hR1 ⊢
    clear hW1
    refine (one_any R p _ 10 10 _ _ W1 hR1 (by omega) (hL.ints' (n := 10) hL.lt rfl) (fun b off e => by cases e; omega) (by omega) (by omega)).mono ?_
    rintro e w2 ⟨v0, rfl, hv0, hR2, hU2⟩
    have hv9 : 0 ≤ v0 ∧ v0 ≤ 6 := by simp at hv0; omega
    obtain ⟨K, rfl⟩ := Int.eq_ofNat_of_zero_le hv9.1
    have hu2 := hu1.trans hU2
    clear hv0 hL hU2 hR1 hu1
    have hK6 : K ≤ 6 := by omega
    have hRw2 : Upd (fun k => k = R) w w2 := hu2
    clear hu2 hv9
    go_wp2_with fail
    all_goals
      go_meet
      case rel => first | exact ⟨K, rfl, ⟨by omega, by omega⟩, hR2, hRw2⟩ | exact ⟨M, rfl, ⟨by omega, by omega⟩, hR2, hRw2⟩
  case rest =>
    obtain ⟨K, rfl, ⟨hK6, hKM⟩, hR2, hRw2⟩ := hcut
    rename World => w2
    go_wp2_with fail
    refine (somePairs_any R (p + 1) K w2 hR2 (by omega)).mono ?_
    rintro e w3 ⟨v3, rs3, q3, rfl, hRo3, ⟨hl3, hr3⟩, hq3, hR3, hU3⟩
    have hRw3 := hRw2.trans hU3
    have hz2' := hRw2.size
    have hz3' := hRw3.size
    clear hR2
    go_wp2_with fail
    refine (pick_any R (p + 1 + q3) 10 w3 hR3 (by omega)).mono ?_
    rintro e w4 ⟨x, rfl, hx, hR4, hU4⟩
    have hRw4 := hRw3.trans hU4
    have hz4' := hRw4.size
    have hRo4 := hRo3.keep hU4 (fun j e => by omega)
    have hF4 := hRo4.few (by omega) (fun r hr => by rw [hr3 r hr]; omega)
    clear hRo3 hRo4
    have hx9 := hx.1 (by omega)
    clear hx hR3
    go_upto_block 0 with fail
    go_cut [5, 6, 7] from 23 to 62 (fun v5 v6 v7 wx => ∃ (N q : Nat) (rs : List (List Int)), v5 = .int .i64 (N : Int) ∧ N ≤ 6 ∧ Few wx v6 rs ∧ Rd wx R (p + 1 + q3 + q) ∧ q ≤ 10 ∧ Upd (fun k => k = R) w wx)
    case first =>
      by_cases x0 : x = 0
      · subst x0
        go_wp2_with fail
        have hL := litRows w4 [(0, 3), (0, 4), (1, 3), (1, 5), (2, 4), (2, 5)]
        have hup := litW_upd w4 [(0, 3), (0, 4), (1, 3), (1, 5), (2, 4), (2, 5)]
        have hzL := hup.size
        go_meet
        case rel => exact ⟨6, 1, _, rfl, Nat.le_refl _, ⟨_, _, rfl, hL, by simp, by simp⟩, hR4.upd hup (fun _ e => e.elim), by omega, hRw4.trans (hup.mono fun _ _ e => e.elim)⟩
      by_cases x1 : x = 1
      · subst x1
        go_wp2_with fail
        have hL := litRows w4 [(0, 2), (1, 2), (1, 3)]
        have hup := litW_upd w4 [(0, 2), (1, 2), (1, 3)]
        have hzL := hup.size
        go_meet
        case rel => exact ⟨4, 1, _, rfl, by decide, ⟨_, _, rfl, hL, by simp, by simp⟩, hR4.upd hup (fun _ e => e.elim), by omega, hRw4.trans (hup.mono fun _ _ e => e.elim)⟩
      by_cases x2 : x = 2
      · subst x2
        go_wp2_with fail
        have R4 := Rowed.new w4
        go_loopw [6, 7] (fun v i wr => ∃ (i' : Nat) (rs : List (List Int)), i = .int .i64 i' ∧ (1 ≤ i' ∧ (i' ≤ K ∨ i' = 1)) ∧ rs.length + 1 = i' ∧ (∀ r ∈ rs, r.length = 2) ∧ Rowed wr w4.heap.size v rs ∧ Rd wr R (p + 1 + q3 + 1 + rs.length) ∧ Upd (fun k => k = R) w wr) (fun _ i _ => K + 1 - (intOf i).toNat)
        case atStart => exact ⟨1, [], rfl, ⟨by omega, .inr rfl⟩, rfl, (fun r hr => by simp at hr), R4, hR4.upd ((Upd.refl (fun _ => False) w4).alloc _) (fun _ e => e.elim), hRw4.alloc _⟩
        case round =>
          clear hR4 R4
          obtain ⟨i', rs, rfl, ⟨hia, hib⟩, hrl, hall, hRo, hRd, hU⟩ := hrel
          have zU := hU.size
          by_cases hlt : i' < K
          · go_wp2_with fail
            refine (pick_any R (p + 1 + q3 + 1 + rs.length) i' _ hRd (by omega)).mono ?_
            rintro e w5 ⟨a, rfl, -, hR5, hU5⟩
            have hRo5 := hRo.keep hU5 (fun j e => by omega)
            have hUw := hU.trans hU5
            have z5 := hU5.size
            obtain ⟨vs, hown, hC, hb1⟩ := hRo5
            clear hRo hRd hU hU5
            go_wp2_with (at_builtin; go_loud (refine wpList_append1 _ rfl (.tmp 46) (.tmp 52) _ rfl w4.heap.size 22 i0 _ 24 Tryd.underlying36 hi0 hz0 hz1 hz2 rfl _ rs.length _ rfl ((hown.alloc _).alloc _) (w5.heap.size + 1) 1 (.slice (some ⟨w5.heap.size, 0, none⟩) 2 2) rfl (draw_cell_new2 _ _ _ _) rfl (by omega) (by omega) (by simp; omega) ?_); rintro v' w' hown' hg' -)
            have hall' : ∀ r ∈ rs ++ [[a, (i' : Int)]], r.length = 2 := fun r hr => by
              rcases List.mem_append.1 hr with hr | hr
              · exact hall r hr
              · rw [List.mem_singleton.1 hr]; rfl
            have hUg : Upd (fun k => w4.heap.size ≤ k) w5 w' := (((Upd.refl (fun k => w4.heap.size ≤ k) w5).alloc _).alloc _).grown hg' (fun k hk => .inr (own_base hown k hk))
            have hR9 : Rd w' R (p + 1 + q3 + 1 + (rs ++ [[a, (i' : Int)]]).length) := by
              rw [List.length_append]; exact hR5.upd hUg (fun k hk => by omega)
            have hU9 : Upd (fun k => k = R) w w' := hUw.trans' hUg (fun i hi e => by omega)
            have hl9 : (rs ++ [[a, (i' : Int)]]).length + 1 = i' + 1 := by simp; omega
            go_roundw
            case rel => exact ⟨i' + 1, rs ++ [[a, (i' : Int)]], by go_num, ⟨by omega, .inl (by omega)⟩, hl9, hall', Rowed.step hown rfl hC hb1 hown' hg', hR9, hU9⟩
            case measure => simp [intOf]; omega
          · have hF := hRo.few (by omega) (fun r hr => by rw [hall r hr]; omega)
            go_wp2_with fail
            go_meet
            case rel => exact ⟨K, 1 + rs.length, rs, rfl, hK6, hF, by rw [← Nat.add_assoc]; exact hRd, by omega, hU⟩
      by_cases x3 : x = 3
      · subst x3
        go_wp2_with fail
        have hL := litRows w4 [(0, 1), (0, 2), (0, 3), (1, 4), (2, 4), (3, 4)]
        have hup := litW_upd w4 [(0, 1), (0, 2), (0, 3), (1, 4), (2, 4), (3, 4)]
        have hzL := hup.size
        go_meet
        case rel => exact ⟨5, 1, _, rfl, by decide, ⟨_, _, rfl, hL, by simp, by simp⟩, hR4.upd hup (fun _ e => e.elim), by omega, hRw4.trans (hup.mono fun _ _ e => e.elim)⟩
      go_wp2_with fail
      go_meet
      case rel => exact ⟨K, 1, rs3, rfl, hK6, hF4, hR4, by omega, hRw4⟩
    case rest =>
      obtain ⟨K, q, rs, rfl, hK6', hF, hRf, hq10, hUf⟩ := hcut
      rename World => wf
      have hzf := hUf.size
      go_upto_if 65 with fail
      go_cut [5, 6] from 63 to 69 (fun v5 v6 wx => ∃ (N q' : Nat) (rs : List (List Int)), v5 = .int .i64 (N : Int) ∧ N ≤ 6 ∧ Few wx v6 rs ∧ Rd wx R (p + 1 + q3 + q') ∧ q' ≤ 29 ∧ Upd (fun k => k = R) w wx)
      case first =>
        by_cases hgt : M < K
        · have hgb : decide ((M : Int) < (K : Int)) = true := decide_eq_true (by omega)
          go_wp2_with fail
          refine (somePairs_any R (p + 1 + q3 + q) M wf hRf (by omega)).mono ?_
          rintro e wg ⟨vg, rsg, qg, rfl, hRog, ⟨hlg, hrg⟩, hqg, hRg, hUg⟩
          have hFg := hRog.few (by omega) (fun r hr => by rw [hrg r hr]; omega)
          go_wp2_with fail
          go_meet
          case rel => exact ⟨M, q + qg, rsg, rfl, by omega, hFg, by rw [← Nat.add_assoc]; exact hRg, by omega, hUf.trans hUg⟩
        · have hgb : decide ((M : Int) < (K : Int)) = false := decide_eq_false (by omega)
          go_wp2_with fail
          go_meet
          case rel => exact ⟨K, q, rs, rfl, hK6', hF, hRf, by omega, hUf⟩
      case rest =>
        obtain ⟨K, q, rs3, rfl, hK6, hF4, hR4, hq29, hRw4⟩ := hcut
        rename World => w4
        have hz4' := hRw4.size
        obtain ⟨A3, c3, rfl, hI4, hl4, hr4⟩ := hF4
        go_wp2_with fail
        refine (specOrderOf_any K A3 _ c3 rs3 w4 hI4 hl4 hr4).mono ?_
        rintro e w5 ⟨A5, m5, c5, rfl, r5, hB5⟩
        have hRw5 := hRw4.below hB5 (fun k h1 h2 => by omega)
        have hR5 := hR4.below hB5 (by omega)
        have hr5 := r5.more (lo' := w.heap.size) hz4' (Nat.le_refl _)
        obtain ⟨hsm, hml, hm6⟩ := ordL_small K rs3
        rw [r5.len] at hml hm6
        generalize ordL (K : Int) rs3 = zs5 at *
        generalize hp5 : p + 1 + q3 + q = p5 at *
        have hp5' : p5 ≤ p + 60 := by omega
        obtain ⟨N, hN1', hN2'⟩ : ∃ N : Nat, N ≤ K ∧ K ≤ N := ⟨K, Nat.le_refl _, Nat.le_refl _⟩
        clear r5 hI4 hB5 hR4 hRw4 hr4 hl4
        go_wp2_with fail
        refine (pick_any R p5 3 w5 hR5 (by omega)).mono ?_
        rintro e w6 ⟨y, rfl, hy, hR6, hU6⟩
        have hRw6 := hRw5.trans hU6
        have hz6 := hRw6.size
        have hr6 := hr5.upd hU6 (fun j e => by omega)
        by_cases hyn : y = 0 ∧ 1 < N
        · obtain ⟨rfl, hN1⟩ := hyn
          try have hK1 : (1 : Int) < (K : Int) := by omega
          go_wp2_with fail
          go_loopw [10, 11] (fun v i wr => ∃ (k bt cp : Nat) (ts : List Int), k ≤ N ∧ i = .int .i64 k ∧ v = .slice (some ⟨bt, 0, none⟩) k cp ∧ (k ≤ cp ∧ cp ≤ maxLen) ∧ (bt < wr.heap.size ∧ w6.heap.size ≤ bt) ∧ ts.length = k ∧ (∀ x ∈ ts, (0 : Int) ≤ x ∧ x < k) ∧ (∀ j, j < k → wr.cell? ⟨bt, j, none⟩ = some (.int .i64 (ts[j]?.getD 0))) ∧ Rd wr R (p5 + 1 + k) ∧ Upd (fun k => k = R) w6 wr) (fun _ i _ => N - (intOf i).toNat)
          case atStart => exact ⟨0, w6.heap.size, 0, [], by omega, rfl, rfl, ⟨by omega, by simp [maxLen]⟩, ⟨by simp, by omega⟩, rfl, (fun x hx => by simp at hx), fun j hj => by omega, hR6.upd ((Upd.refl (fun _ => False) w6).alloc _) (fun _ e => e.elim), (Upd.refl _ _).alloc _⟩
          case round =>
            obtain ⟨k, bt, cp, ts, hk, rfl, rfl, ⟨hkc, hcm⟩, ⟨hbt, hbt6⟩, htl, htb, htc, hRd, hU⟩ := hrel
            have zU := hU.size
            by_cases hlt : k < N
            · go_wp2_with fail
              refine (pick_any R (p5 + 1 + k) (k + 1) _ hRd (by omega)).mono ?_
              rintro e w7 ⟨y, rfl, hy, hR7, hU7⟩
              have hy2 := hy.1 (by omega)
              obtain ⟨h, rfl⟩ := Int.eq_ofNat_of_zero_le hy2.1
              have hhk : h ≤ k := by omega
              have htc7 : ∀ j, j < k → w7.cell? ⟨bt, j, none⟩ = some (.int .i64 (ts[j]?.getD 0)) := fun j hj => hU7.cell (htc j hj) (by simp; omega)
              have hUw7 := hU.trans hU7
              have z7 := hU7.size
              clear hy hy2 htc hU hU7 hRd
              go_wp2_with fail
              obtain ⟨AD, hAD⟩ : ∃ AD, (if cp = h then some (⟨bt, 0, none⟩ : Addr) else some ⟨bt, h, none⟩) = some AD := by split <;> exact ⟨_, rfl⟩
              have hadd : ∀ j, j < (ts.drop h).length → AD.add j = ⟨bt, h + j, none⟩ := fun j hj => by
                have hne : ¬ cp = h := fun e => by simp at hj; omega
                rw [if_neg hne] at hAD
                cases hAD
                exact addr_add ..
              have hadd0 : ∀ j, j < (ts.take h).length → (⟨bt, 0, none⟩ : Addr).add j = ⟨bt, 0 + j, none⟩ := fun j hj => addr_add ..
              have htk : (ts.take h).length = h := by simp; omega
              have htd : (ts.drop h).length = k - h := by simp; omega
              have hgt : ∀ j, j < (ts.take h).length → (ts.take h)[j]?.getD 0 = ts[0 + j]?.getD 0 := fun j hj => by rw [Nat.zero_add, List.getElem?_take_of_lt (by omega)]
              have hgd : ∀ j, j < (ts.drop h).length → (ts.drop h)[j]?.getD 0 = ts[h + j]?.getD 0 := fun j hj => by rw [List.getElem?_drop]
              have hone : ∀ (zs : List Int), ∀ u ∈ zs.map (Value.int .i64), u.oneCell' = true := fun zs u hu => by
                obtain ⟨z, _, rfl⟩ := List.mem_map.1 hu; rfl
              have hbt7 : bt < w7.heap.size := by omega
              have hkN : k < 6 := by omega
              have hhc : h ≤ cp := by omega
              have hhc' : (h : Int) ≤ (cp : Int) := by omega
              have hhk' : (h : Int) ≤ (k : Int) := by omega
              go_region_law (first
                | (refine step_append_any _ rfl (.tmp 94) (.tmp 97) _ (by rfl) w7.heap.size 3 i1 _ 8 Tryd.underlying22 hi1 hzi1 hsi1 hbi1 rfl (.slice (some ⟨_, 0, none⟩) 0 0) 0 [] (by rfl) (by simp) (by first | exact own_new2 _ _ _ | exact own_sooner (own_new _ _) (by first | (simp; done) | (simp; omega)) | exact own_sooner ((own_new _ _).alloc _) (by first | (simp; done) | (simp; omega))) ⟨bt, 0, none⟩ h cp _ (by rfl) (by rw [List.length_map]; exact htk) (news_at htc7 (by repeat' (first | exact Upd.refl _ _ | assumption | refine Upd.alloc ?_ _ | refine Upd.drew ?_)) hbt7 hadd0 hgt (by omega)) (hone _) (by simp [maxLen]; omega) (by omega) (by first | (simp; done) | (simp; omega)) ?_; intro g1 cap1 x1 hown1 hgrow1 hg1 hl1 hc1 hm1; rw [Nat.zero_add] at hown1; have hU1 : Upd (fun k => w7.heap.size ≤ k) w7 x1 := Upd.grown (by repeat' (first | exact Upd.refl _ _ | assumption | refine Upd.alloc ?_ _ | refine Upd.drew ?_)) hgrow1 (fun q hq => by simp [Value.ownBlock] at hq; omega))
                | (refine step_append_any _ rfl (.tmp 98) (.tmp 100) _ (by rfl) w7.heap.size 3 i1 _ 8 Tryd.underlying22 hi1 hzi1 hsi1 hbi1 rfl (.slice (some ⟨g1, 0, none⟩) h cap1) h _ (by rfl) (by simp) (by first | exact hown1 | exact hown1.alloc _) ⟨_, 0, none⟩ 1 1 [.int .i64 (k : Int)] (by rfl) rfl (by first | exact news_one (cell_new _ _ _) | exact news_one ((hgrow1.cell_far _ (by first | (simp; done) | (simp; omega)) (by simp [Value.ownBlock])).trans (draw_cell_new2 _ _ _ _)) | exact news_one ((hgrow1.cell_far _ (by first | (simp; done) | (simp; omega)) (by simp [Value.ownBlock])).trans (cell_new _ _ _)) | exact news_one ((hgrow1.cell_far _ (by first | (simp; done) | (simp; omega)) (by simp [Value.ownBlock])).trans (cell_new_alloc _ _ _ _)) | exact news_one ((hgrow1.cell_far _ (by first | (simp; done) | (simp; omega)) (by simp [Value.ownBlock])).trans (cell_new _ _ _))) (by simp [Value.oneCell']) (by simp [maxLen]; omega) (by omega) (by have := hU1.size; simp; omega) ?_; intro g2 cap2 x2 hown2 hgrow2 hg2 hl2 hc2 hm2; have hU2 : Upd (fun k => w7.heap.size ≤ k) w7 x2 := Upd.grown (by repeat' (first | exact Upd.refl _ _ | assumption | refine Upd.alloc ?_ _ | refine Upd.drew ?_)) hgrow2 (fun q hq => by simp [Value.ownBlock] at hq; omega))
                | (refine step_append_any _ rfl (.tmp 101) (.tmp 104) _ (by rfl) w7.heap.size 3 i1 _ 8 Tryd.underlying22 hi1 hzi1 hsi1 hbi1 rfl (.slice (some ⟨g2, 0, none⟩) (h + 1) cap2) (h + 1) _ (by rfl) (by simp) hown2 AD (k - h) _ _ (by simp [Act.eval]; rfl) (by rw [List.length_map]; exact htd) (news_at htc7 hU2 hbt7 hadd hgd (by omega)) (hone _) (by simp [maxLen]; omega) (by omega) (by have := hU2.size; omega) ?_; intro g3 cap3 x3 hown3 hgrow3 hg3 hl3 hc3 hm3; have hU3 : Upd (fun k => w7.heap.size ≤ k) w7 x3 := Upd.grown hU2 hgrow3 (fun q hq => by simp [Value.ownBlock] at hq; omega)))
              all_goals
                have e3 : ([] ++ (ts.take h).map (Value.int .i64) ++ [Value.int .i64 (k : Int)]) ++ (ts.drop h).map (Value.int .i64) = (ts.take h ++ [(k : Int)] ++ ts.drop h).map (Value.int .i64) := by simp
                rw [e3] at hown3
                have hn3 : h + 1 + (k - h) = k + 1 := by omega
                rw [hn3] at hown3 hc3
                obtain ⟨hl3', hc3'⟩ := own_cells hown3
                simp only [hn3]
                have htb' : ∀ x ∈ ts.take h ++ [(k : Int)] ++ ts.drop h, (0 : Int) ≤ x ∧ x < ((k + 1 : Nat) : Int) := fun x hx => by
                  rcases List.mem_append.1 hx with hx | hx
                  · rcases List.mem_append.1 hx with hx | hx
                    · have := htb x (List.mem_of_mem_take hx); omega
                    · have := List.mem_singleton.1 hx; omega
                  · have := htb x (List.mem_of_mem_drop hx); omega
                have hR8 : Rd x3 R (p5 + 1 + (k + 1)) := hR7.upd hU3 (fun q hq => by omega)
                have hU8 : Upd (fun k => k = R) w6 x3 := hUw7.trans' hU3 (fun i hi e => by omega)
                go_wp2
                go_roundw
                case rel => exact ⟨k + 1, g3, cap3, ts.take h ++ [(k : Int)] ++ ts.drop h, by omega, by go_num, rfl, ⟨hc3, hm3⟩, ⟨hl3, by omega⟩, hl3', htb', hc3', hR8, hU8⟩
                case measure => simp [intOf]; omega
            · obtain rfl : k = N := by omega
              go_wp2_with fail
              refine (renumbered_any A5 (some ⟨bt, 0, none⟩) m5 c5 k cp zs5 ts wr ((hr6.upd hU (fun j e => by omega)).ints (by have := hU6.size; omega)) ⟨htl, fun _ => ⟨bt, 0, rfl, hbt, fun j hj => by rw [Nat.zero_add]; exact htc j hj⟩⟩ hm6 (by omega) hsm (fun j hj => by
                have hjl : j < ts.length := by omega
                have := htb ts[j] (List.getElem_mem hjl)
                rw [List.getElem?_eq_getElem hjl, Option.getD_some]
                omega)).mono ?_
              rintro e w8 ⟨os, rfl, hos, hArr, hB8⟩
              go_wp2
              go_ret
              exact ⟨_, m5, m5, os, p5 + 1 + k - p, rfl, by omega, Row.of hArr hos (by omega) hArr.lt, by omega, by rw [show p + (p5 + 1 + k - p) = p5 + 1 + k by omega]; exact hRd.below hB8 (by omega), (hRw6.trans hU).below hB8 (fun k h1 h2 => by omega)⟩
        · by_cases hy0 : y = 0
          · subst hy0
            have hN1 : ¬ 1 < N := fun e => hyn ⟨rfl, e⟩
            first
              | (exfalso; omega)
              | (go_wp2; go_ret; exact ⟨A5, m5, c5, zs5, p5 + 1 - p, rfl, by omega, hr6.more (Nat.le_refl _) hU6.size, by omega, by rw [show p + (p5 + 1 - p) = p5 + 1 by omega]; exact hR6, hRw6⟩)
          · go_wp2
            go_ret
            exact ⟨A5, m5, c5, zs5, p5 + 1 - p, rfl, by omega, hr6.more (Nat.le_refl _) hU6.size, by omega, by rw [show p + (p5 + 1 - p) = p5 + 1 by omega]; exact hR6, hRw6⟩
end Go.Proofs.YtmlihbcffndnbaaDoor

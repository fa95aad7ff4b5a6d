/- Texts that several claims share, one behind the other. -/
import Derived.Test.YtiicffibhjeabaaDoorJc
import Derived.Test.YtiicffibhjeabaaDoorJa
import Derived.Deep.CutRange
import Derived.Deep.CutBlock
import Derived.Test.YtiicffibhjeabaaDoorJb
/- An order that is drawn, of at most so many items. -/
namespace Go.Proofs.YtiicffibhjeabaaDoor
open Go.RowKit Go.Shelf

set_option maxRecDepth 100000 in
set_option maxHeartbeats 8000000 in
theorem goodOrderM_any (R p M : Nat) (hM7 : M ≤ 7) (w : World) (h : Rd w R p) (hp : p ≤ 800000) :
    Calls Tryd.prog 28 #[.pointer (some ⟨R, 0, none⟩), .int .i64 (M : Int)] w fun e w' => ∃ A n c zs q, e = .returned (.slice A n c) ∧ n ≤ 6 ∧ Row w' w.heap.size w'.heap.size A n zs ∧ q ≤ 100 ∧ Rd w' R (p + q) ∧ Upd (fun k => k = R) w w' := by
  have hRl := h.lt
  obtain ⟨i0, hi0, hz0, hz1, hz2⟩ := infoRow_parts
  obtain ⟨i1, hi1, hzi1, hsi1, hbi1⟩ := info_parts infoInt
  go_enter Tryd.func28, Tryd.ntmps28
  go_upto_region 1 with fail
  go_cut [5] from 13 to 17 (fun v wx => ∃ K : Nat, v = .int .i64 (K : Int) ∧ (K ≤ 6 ∧ K ≤ M) ∧ Rd wx R (p + 1) ∧ Upd (fun k => k = R) w wx)
  case first =>
    go_wp2_with fail
    have hu1 : Upd (fun k => k = R) w (w.alloc (.cells #[Value.int .i64 4, .int .i64 5, .int .i64 6, .int .i64 3, .int .i64 5, .int .i64 6, .int .i64 2, .int .i64 1, .int .i64 4, .int .i64 0] 3)) := (Upd.refl _ _).alloc _
    have hL : Arr (w.alloc (.cells #[Value.int .i64 4, .int .i64 5, .int .i64 6, .int .i64 3, .int .i64 5, .int .i64 6, .int .i64 2, .int .i64 1, .int .i64 4, .int .i64 0] 3)) w.heap.size 3 [4, 5, 6, 3, 5, 6, 2, 1, 4, 0] := heap_alloc_new w _
    have hR1 := h.upd ((Upd.refl (fun _ => False) w).alloc (.cells #[Value.int .i64 4, .int .i64 5, .int .i64 6, .int .i64 3, .int .i64 5, .int .i64 6, .int .i64 2, .int .i64 1, .int .i64 4, .int .i64 0] 3)) (fun _ e => e.elim)
    obtain ⟨W1, hW1⟩ : ∃ W1, w.alloc (.cells #[Value.int .i64 4, .int .i64 5, .int .i64 6, .int .i64 3, .int .i64 5, .int .i64 6, .int .i64 2, .int .i64 1, .int .i64 4, .int .i64 0] 3) = W1 := ⟨_, rfl⟩
    rw [hW1] at hu1 hL hR1 ⊢
    clear hW1
    refine (one_any R p _ 10 10 _ _ W1 hR1 (by omega) (hL.ints' (n := 10) hL.lt rfl) (fun b off e => by cases e; omega) (by omega) (by omega)).mono ?_
    rintro e w2 ⟨v0, rfl, hv0, hR2, hU2⟩
    have hv9 : 0 ≤ v0 ∧ v0 ≤ 6 := by simp at hv0; omega
    obtain ⟨K, rfl⟩ := Int.eq_ofNat_of_zero_le hv9.1
    have hu2 := hu1.trans hU2
    clear hv0 hL hU2 hR1 hu1
    have hK6 : K ≤ 6 := by omega
    have hRw2 : Upd (fun k => k = R) w w2 := hu2
    clear hu2 hv9
    go_wp2_with fail
    all_goals
      go_meet
      case rel => first | exact ⟨K, rfl, ⟨by omega, by omega⟩, hR2, hRw2⟩ | exact ⟨M, rfl, ⟨by omega, by omega⟩, hR2, hRw2⟩
  case rest =>
    obtain ⟨K, rfl, ⟨hK6, hKM⟩, hR2, hRw2⟩ := hcut
    rename World => w2
    go_wp2_with fail
    refine (somePairs_any R (p + 1) K w2 hR2 (by omega)).mono ?_
    rintro e w3 ⟨v3, rs3, q3, rfl, hRo3, ⟨hl3, hr3⟩, hq3, hR3, hU3⟩
    have hRw3 := hRw2.trans hU3
    have hz2' := hRw2.size
    have hz3' := hRw3.size
    clear hR2
    go_wp2_with fail
    refine (pick_any R (p + 1 + q3) 10 w3 hR3 (by omega)).mono ?_
    rintro e w4 ⟨x, rfl, hx, hR4, hU4⟩
    have hRw4 := hRw3.trans hU4
    have hz4' := hRw4.size
    have hRo4 := hRo3.keep hU4 (fun j e => by omega)
    have hF4 := hRo4.few (by omega) (fun r hr => by rw [hr3 r hr]; omega)
    clear hRo3 hRo4
    have hx9 := hx.1 (by omega)
    clear hx hR3
    go_upto_block 0 with fail
    go_cut [5, 6, 7] from 23 to 62 (fun v5 v6 v7 wx => ∃ (N q : Nat) (rs : List (List Int)), v5 = .int .i64 (N : Int) ∧ N ≤ 6 ∧ Few wx v6 rs ∧ Rd wx R (p + 1 + q3 + q) ∧ q ≤ 10 ∧ Upd (fun k => k = R) w wx)
    case first =>
      by_cases x0 : x = 0
      · subst x0
        go_wp2_with fail
        have hL := litRows w4 [(0, 3), (0, 4), (1, 3), (1, 5), (2, 4), (2, 5)]
        have hup := litW_upd w4 [(0, 3), (0, 4), (1, 3), (1, 5), (2, 4), (2, 5)]
        have hzL := hup.size
        go_meet
        case rel => exact ⟨6, 1, _, rfl, Nat.le_refl _, ⟨_, _, rfl, hL, by simp, by simp⟩, hR4.upd hup (fun _ e => e.elim), by omega, hRw4.trans (hup.mono fun _ _ e => e.elim)⟩
      by_cases x1 : x = 1
      · subst x1
        go_wp2_with fail
        have hL := litRows w4 [(0, 2), (1, 2), (1, 3)]
        have hup := litW_upd w4 [(0, 2), (1, 2), (1, 3)]
        have hzL := hup.size
        go_meet
        case rel => exact ⟨4, 1, _, rfl, by decide, ⟨_, _, rfl, hL, by simp, by simp⟩, hR4.upd hup (fun _ e => e.elim), by omega, hRw4.trans (hup.mono fun _ _ e => e.elim)⟩
      by_cases x2 : x = 2
      · subst x2
        go_wp2_with fail
        have R4 := Rowed.new w4
        go_loopw [6, 7] (fun v i wr => ∃ (i' : Nat) (rs : List (List Int)), i = .int .i64 i' ∧ (1 ≤ i' ∧ (i' ≤ K ∨ i' = 1)) ∧ rs.length + 1 = i' ∧ (∀ r ∈ rs, r.length = 2) ∧ Rowed wr w4.heap.size v rs ∧ Rd wr R (p + 1 + q3 + 1 + rs.length) ∧ Upd (fun k => k = R) w wr) (fun _ i _ => K + 1 - (intOf i).toNat)
        case atStart => exact ⟨1, [], rfl, ⟨by omega, .inr rfl⟩, rfl, (fun r hr => by simp at hr), R4, hR4.upd ((Upd.refl (fun _ => False) w4).alloc _) (fun _ e => e.elim), hRw4.alloc _⟩
        case round =>
          clear hR4 R4
          obtain ⟨i', rs, rfl, ⟨hia, hib⟩, hrl, hall, hRo, hRd, hU⟩ := hrel
          have zU := hU.size
          by_cases hlt : i' < K
          · go_wp2_with fail
            refine (pick_any R (p + 1 + q3 + 1 + rs.length) i' _ hRd (by omega)).mono ?_
            rintro e w5 ⟨a, rfl, -, hR5, hU5⟩
            have hRo5 := hRo.keep hU5 (fun j e => by omega)
            have hUw := hU.trans hU5
            have z5 := hU5.size
            obtain ⟨vs, hown, hC, hb1⟩ := hRo5
            clear hRo hRd hU hU5
            go_wp2_with (at_builtin; go_loud (refine wpList_append1 _ rfl (.tmp 46) (.tmp 52) _ rfl w4.heap.size 23 i0 _ 24 Tryd.underlying64 hi0 hz0 hz1 hz2 rfl _ rs.length _ rfl ((hown.alloc _).alloc _) (w5.heap.size + 1) 1 (.slice (some ⟨w5.heap.size, 0, none⟩) 2 2) rfl (draw_cell_new2 _ _ _ _) rfl (by omega) (by omega) (by simp; omega) ?_); rintro v' w' hown' hg' -)
            have hall' : ∀ r ∈ rs ++ [[a, (i' : Int)]], r.length = 2 := fun r hr => by
              rcases List.mem_append.1 hr with hr | hr
              · exact hall r hr
              · rw [List.mem_singleton.1 hr]; rfl
            have hUg : Upd (fun k => w4.heap.size ≤ k) w5 w' := (((Upd.refl (fun k => w4.heap.size ≤ k) w5).alloc _).alloc _).grown hg' (fun k hk => .inr (own_base hown k hk))
            have hR9 : Rd w' R (p + 1 + q3 + 1 + (rs ++ [[a, (i' : Int)]]).length) := by
              rw [List.length_append]; exact hR5.upd hUg (fun k hk => by omega)
            have hU9 : Upd (fun k => k = R) w w' := hUw.trans' hUg (fun i hi e => by omega)
            have hl9 : (rs ++ [[a, (i' : Int)]]).length + 1 = i' + 1 := by simp; omega
            go_roundw
            case rel => exact ⟨i' + 1, rs ++ [[a, (i' : Int)]], by go_num, ⟨by omega, .inl (by omega)⟩, hl9, hall', Rowed.step hown rfl hC hb1 hown' hg', hR9, hU9⟩
            case measure => simp [intOf]; omega
          · have hF := hRo.few (by omega) (fun r hr => by rw [hall r hr]; omega)
            go_wp2_with fail
            go_meet
            case rel => exact ⟨K, 1 + rs.length, rs, rfl, hK6, hF, by rw [← Nat.add_assoc]; exact hRd, by omega, hU⟩
      by_cases x3 : x = 3
      · subst x3
        go_wp2_with fail
        have hL := litRows w4 [(0, 1), (0, 2), (0, 3), (1, 4), (2, 4), (3, 4)]
        have hup := litW_upd w4 [(0, 1), (0, 2), (0, 3), (1, 4), (2, 4), (3, 4)]
        have hzL := hup.size
        go_meet
        case rel => exact ⟨5, 1, _, rfl, by decide, ⟨_, _, rfl, hL, by simp, by simp⟩, hR4.upd hup (fun _ e => e.elim), by omega, hRw4.trans (hup.mono fun _ _ e => e.elim)⟩
      go_wp2_with fail
      go_meet
      case rel => exact ⟨K, 1, rs3, rfl, hK6, hF4, hR4, by omega, hRw4⟩
    case rest =>
      obtain ⟨K, q, rs, rfl, hK6', hF, hRf, hq10, hUf⟩ := hcut
      rename World => wf
      have hzf := hUf.size
      go_upto_if 65 with fail
      go_cut [5, 6] from 63 to 69 (fun v5 v6 wx => ∃ (N q' : Nat) (rs : List (List Int)), v5 = .int .i64 (N : Int) ∧ N ≤ 6 ∧ Few wx v6 rs ∧ Rd wx R (p + 1 + q3 + q') ∧ q' ≤ 29 ∧ Upd (fun k => k = R) w wx)
      case first =>
        by_cases hgt : M < K
        · have hgb : decide ((M : Int) < (K : Int)) = true := decide_eq_true (by omega)
          go_wp2_with fail
          refine (somePairs_any R (p + 1 + q3 + q) M wf hRf (by omega)).mono ?_
          rintro e wg ⟨vg, rsg, qg, rfl, hRog, ⟨hlg, hrg⟩, hqg, hRg, hUg⟩
          have hFg := hRog.few (by omega) (fun r hr => by rw [hrg r hr]; omega)
          go_wp2_with fail
          go_meet
          case rel => exact ⟨M, q + qg, rsg, rfl, by omega, hFg, by rw [← Nat.add_assoc]; exact hRg, by omega, hUf.trans hUg⟩
        · have hgb : decide ((M : Int) < (K : Int)) = false := decide_eq_false (by omega)
          go_wp2_with fail
          go_meet
          case rel => exact ⟨K, q, rs, rfl, hK6', hF, hRf, by omega, hUf⟩
      case rest =>
        obtain ⟨K, q, rs3, rfl, hK6, hF4, hR4, hq29, hRw4⟩ := hcut
        rename World => w4
        have hz4' := hRw4.size
        obtain ⟨A3, c3, rfl, hI4, hl4, hr4⟩ := hF4
        go_wp2_with fail
        refine (specOrderOf_any K A3 _ c3 rs3 w4 hI4 hl4 hr4).mono ?_
        rintro e w5 ⟨A5, m5, c5, rfl, r5, hB5⟩
        have hRw5 := hRw4.below hB5 (fun k h1 h2 => by omega)
        have hR5 := hR4.below hB5 (by omega)
        have hr5 := r5.more (lo' := w.heap.size) hz4' (Nat.le_refl _)
        obtain ⟨hsm, hml, hm6⟩ := ordL_small K rs3
        rw [r5.len] at hml hm6
        generalize ordL (K : Int) rs3 = zs5 at *
        generalize hp5 : p + 1 + q3 + q = p5 at *
        have hp5' : p5 ≤ p + 60 := by omega
        obtain ⟨N, hN1', hN2'⟩ : ∃ N : Nat, N ≤ K ∧ K ≤ N := ⟨K, Nat.le_refl _, Nat.le_refl _⟩
        clear r5 hI4 hB5 hR4 hRw4 hr4 hl4
        go_wp2_with fail
        refine (pick_any R p5 3 w5 hR5 (by omega)).mono ?_
        rintro e w6 ⟨y, rfl, hy, hR6, hU6⟩
        have hRw6 := hRw5.trans hU6
        have hz6 := hRw6.size
        have hr6 := hr5.upd hU6 (fun j e => by omega)
        by_cases hyn : y = 0 ∧ 1 < N
        · obtain ⟨rfl, hN1⟩ := hyn
          try have hK1 : (1 : Int) < (K : Int) := by omega
          go_wp2_with fail
          go_loopw [10, 11] (fun v i wr => ∃ (k bt cp : Nat) (ts : List Int), k ≤ N ∧ i = .int .i64 k ∧ v = .slice (some ⟨bt, 0, none⟩) k cp ∧ (k ≤ cp ∧ cp ≤ maxLen) ∧ (bt < wr.heap.size ∧ w6.heap.size ≤ bt) ∧ ts.length = k ∧ (∀ x ∈ ts, (0 : Int) ≤ x ∧ x < k) ∧ (∀ j, j < k → wr.cell? ⟨bt, j, none⟩ = some (.int .i64 (ts[j]?.getD 0))) ∧ Rd wr R (p5 + 1 + k) ∧ Upd (fun k => k = R) w6 wr) (fun _ i _ => N - (intOf i).toNat)
          case atStart => exact ⟨0, w6.heap.size, 0, [], by omega, rfl, rfl, ⟨by omega, by simp [maxLen]⟩, ⟨by simp, by omega⟩, rfl, (fun x hx => by simp at hx), fun j hj => by omega, hR6.upd ((Upd.refl (fun _ => False) w6).alloc _) (fun _ e => e.elim), (Upd.refl _ _).alloc _⟩
          case round =>
            obtain ⟨k, bt, cp, ts, hk, rfl, rfl, ⟨hkc, hcm⟩, ⟨hbt, hbt6⟩, htl, htb, htc, hRd, hU⟩ := hrel
            have zU := hU.size
            by_cases hlt : k < N
            · go_wp2_with fail
              refine (pick_any R (p5 + 1 + k) (k + 1) _ hRd (by omega)).mono ?_
              rintro e w7 ⟨y, rfl, hy, hR7, hU7⟩
              have hy2 := hy.1 (by omega)
              obtain ⟨h, rfl⟩ := Int.eq_ofNat_of_zero_le hy2.1
              have hhk : h ≤ k := by omega
              have htc7 : ∀ j, j < k → w7.cell? ⟨bt, j, none⟩ = some (.int .i64 (ts[j]?.getD 0)) := fun j hj => hU7.cell (htc j hj) (by simp; omega)
              have hUw7 := hU.trans hU7
              have z7 := hU7.size
              clear hy hy2 htc hU hU7 hRd
              go_wp2_with fail
              obtain ⟨AD, hAD⟩ : ∃ AD, (if cp = h then some (⟨bt, 0, none⟩ : Addr) else some ⟨bt, h, none⟩) = some AD := by split <;> exact ⟨_, rfl⟩
              have hadd : ∀ j, j < (ts.drop h).length → AD.add j = ⟨bt, h + j, none⟩ := fun j hj => by
                have hne : ¬ cp = h := fun e => by simp at hj; omega
                rw [if_neg hne] at hAD
                cases hAD
                exact addr_add ..
              have hadd0 : ∀ j, j < (ts.take h).length → (⟨bt, 0, none⟩ : Addr).add j = ⟨bt, 0 + j, none⟩ := fun j hj => addr_add ..
              have htk : (ts.take h).length = h := by simp; omega
              have htd : (ts.drop h).length = k - h := by simp; omega
              have hgt : ∀ j, j < (ts.take h).length → (ts.take h)[j]?.getD 0 = ts[0 + j]?.getD 0 := fun j hj => by rw [Nat.zero_add, List.getElem?_take_of_lt (by omega)]
              have hgd : ∀ j, j < (ts.drop h).length → (ts.drop h)[j]?.getD 0 = ts[h + j]?.getD 0 := fun j hj => by rw [List.getElem?_drop]
              have hone : ∀ (zs : List Int), ∀ u ∈ zs.map (Value.int .i64), u.oneCell' = true := fun zs u hu => by
                obtain ⟨z, _, rfl⟩ := List.mem_map.1 hu; rfl
              have hbt7 : bt < w7.heap.size := by omega
              have hkN : k < 6 := by omega
              have hhc : h ≤ cp := by omega
              have hhc' : (h : Int) ≤ (cp : Int) := by omega
              have hhk' : (h : Int) ≤ (k : Int) := by omega
              go_region_law (first
                | (refine step_append_any _ rfl (.tmp 94) (.tmp 97) _ (by rfl) w7.heap.size 3 i1 _ 8 Tryd.underlying23 hi1 hzi1 hsi1 hbi1 rfl (.slice (some ⟨_, 0, none⟩) 0 0) 0 [] (by rfl) (by simp) (by first | exact own_new2 _ _ _ | exact own_sooner (own_new _ _) (by first | (simp; done) | (simp; omega)) | exact own_sooner ((own_new _ _).alloc _) (by first | (simp; done) | (simp; omega))) ⟨bt, 0, none⟩ h cp _ (by rfl) (by rw [List.length_map]; exact htk) (news_at htc7 (by repeat' (first | exact Upd.refl _ _ | assumption | refine Upd.alloc ?_ _ | refine Upd.drew ?_)) hbt7 hadd0 hgt (by omega)) (hone _) (by simp [maxLen]; omega) (by omega) (by first | (simp; done) | (simp; omega)) ?_; intro g1 cap1 x1 hown1 hgrow1 hg1 hl1 hc1 hm1; rw [Nat.zero_add] at hown1; have hU1 : Upd (fun k => w7.heap.size ≤ k) w7 x1 := Upd.grown (by repeat' (first | exact Upd.refl _ _ | assumption | refine Upd.alloc ?_ _ | refine Upd.drew ?_)) hgrow1 (fun q hq => by simp [Value.ownBlock] at hq; omega))
                | (refine step_append_any _ rfl (.tmp 98) (.tmp 100) _ (by rfl) w7.heap.size 3 i1 _ 8 Tryd.underlying23 hi1 hzi1 hsi1 hbi1 rfl (.slice (some ⟨g1, 0, none⟩) h cap1) h _ (by rfl) (by simp) (by first | exact hown1 | exact hown1.alloc _) ⟨_, 0, none⟩ 1 1 [.int .i64 (k : Int)] (by rfl) rfl (by first | exact news_one (cell_new _ _ _) | exact news_one ((hgrow1.cell_far _ (by first | (simp; done) | (simp; omega)) (by simp [Value.ownBlock])).trans (draw_cell_new2 _ _ _ _)) | exact news_one ((hgrow1.cell_far _ (by first | (simp; done) | (simp; omega)) (by simp [Value.ownBlock])).trans (cell_new _ _ _)) | exact news_one ((hgrow1.cell_far _ (by first | (simp; done) | (simp; omega)) (by simp [Value.ownBlock])).trans (cell_new_alloc _ _ _ _)) | exact news_one ((hgrow1.cell_far _ (by first | (simp; done) | (simp; omega)) (by simp [Value.ownBlock])).trans (cell_new _ _ _))) (by simp [Value.oneCell']) (by simp [maxLen]; omega) (by omega) (by have := hU1.size; simp; omega) ?_; intro g2 cap2 x2 hown2 hgrow2 hg2 hl2 hc2 hm2; have hU2 : Upd (fun k => w7.heap.size ≤ k) w7 x2 := Upd.grown (by repeat' (first | exact Upd.refl _ _ | assumption | refine Upd.alloc ?_ _ | refine Upd.drew ?_)) hgrow2 (fun q hq => by simp [Value.ownBlock] at hq; omega))
                | (refine step_append_any _ rfl (.tmp 101) (.tmp 104) _ (by rfl) w7.heap.size 3 i1 _ 8 Tryd.underlying23 hi1 hzi1 hsi1 hbi1 rfl (.slice (some ⟨g2, 0, none⟩) (h + 1) cap2) (h + 1) _ (by rfl) (by simp) hown2 AD (k - h) _ _ (by simp [Act.eval]; rfl) (by rw [List.length_map]; exact htd) (news_at htc7 hU2 hbt7 hadd hgd (by omega)) (hone _) (by simp [maxLen]; omega) (by omega) (by have := hU2.size; omega) ?_; intro g3 cap3 x3 hown3 hgrow3 hg3 hl3 hc3 hm3; have hU3 : Upd (fun k => w7.heap.size ≤ k) w7 x3 := Upd.grown hU2 hgrow3 (fun q hq => by simp [Value.ownBlock] at hq; omega)))
              all_goals
                have e3 : ([] ++ (ts.take h).map (Value.int .i64) ++ [Value.int .i64 (k : Int)]) ++ (ts.drop h).map (Value.int .i64) = (ts.take h ++ [(k : Int)] ++ ts.drop h).map (Value.int .i64) := by simp
                rw [e3] at hown3
                have hn3 : h + 1 + (k - h) = k + 1 := by omega
                rw [hn3] at hown3 hc3
                obtain ⟨hl3', hc3'⟩ := own_cells hown3
                simp only [hn3]
                have htb' : ∀ x ∈ ts.take h ++ [(k : Int)] ++ ts.drop h, (0 : Int) ≤ x ∧ x < ((k + 1 : Nat) : Int) := fun x hx => by
                  rcases List.mem_append.1 hx with hx | hx
                  · rcases List.mem_append.1 hx with hx | hx
                    · have := htb x (List.mem_of_mem_take hx); omega
                    · have := List.mem_singleton.1 hx; omega
                  · have := htb x (List.mem_of_mem_drop hx); omega
                have hR8 : Rd x3 R (p5 + 1 + (k + 1)) := hR7.upd hU3 (fun q hq => by omega)
                have hU8 : Upd (fun k => k = R) w6 x3 := hUw7.trans' hU3 (fun i hi e => by omega)
                go_wp2
                go_roundw
                case rel => exact ⟨k + 1, g3, cap3, ts.take h ++ [(k : Int)] ++ ts.drop h, by omega, by go_num, rfl, ⟨hc3, hm3⟩, ⟨hl3, by omega⟩, hl3', htb', hc3', hR8, hU8⟩
                case measure => simp [intOf]; omega
            · obtain rfl : k = N := by omega
              go_wp2_with fail
              refine (renumbered_any A5 (some ⟨bt, 0, none⟩) m5 c5 k cp zs5 ts wr ((hr6.upd hU (fun j e => by omega)).ints (by have := hU6.size; omega)) ⟨htl, fun _ => ⟨bt, 0, rfl, hbt, fun j hj => by rw [Nat.zero_add]; exact htc j hj⟩⟩ hm6 (by omega) hsm (fun j hj => by
                have hjl : j < ts.length := by omega
                have := htb ts[j] (List.getElem_mem hjl)
                rw [List.getElem?_eq_getElem hjl, Option.getD_some]
                omega)).mono ?_
              rintro e w8 ⟨os, rfl, hos, hArr, hB8⟩
              go_wp2
              go_ret
              exact ⟨_, m5, m5, os, p5 + 1 + k - p, rfl, by omega, Row.of hArr hos (by omega) hArr.lt, by omega, by rw [show p + (p5 + 1 + k - p) = p5 + 1 + k by omega]; exact hRd.below hB8 (by omega), (hRw6.trans hU).below hB8 (fun k h1 h2 => by omega)⟩
        · by_cases hy0 : y = 0
          · subst hy0
            have hN1 : ¬ 1 < N := fun e => hyn ⟨rfl, e⟩
            first
              | (exfalso; omega)
              | (go_wp2; go_ret; exact ⟨A5, m5, c5, zs5, p5 + 1 - p, rfl, by omega, hr6.more (Nat.le_refl _) hU6.size, by omega, by rw [show p + (p5 + 1 - p) = p5 + 1 by omega]; exact hR6, hRw6⟩)
          · go_wp2
            go_ret
            exact ⟨A5, m5, c5, zs5, p5 + 1 - p, rfl, by omega, hr6.more (Nat.le_refl _) hU6.size, by omega, by rw [show p + (p5 + 1 - p) = p5 + 1 by omega]; exact hR6, hRw6⟩
end Go.Proofs.YtiicffibhjeabaaDoor

/- A list that is drawn, of at most so many items, an order most often. -/
namespace Go.Proofs.YtiicffibhjeabaaDoor
open Go.RowKit Go.Shelf

set_option maxRecDepth 100000 in
set_option maxHeartbeats 4000000 in
theorem someOrderM_any (R p M : Nat) (hM7 : M ≤ 7) (w : World) (h : Rd w R p) (hp : p ≤ 700000) :
    Calls Tryd.prog 14 #[.pointer (some ⟨R, 0, none⟩), .int .i64 (M : Int)] w fun e w' => ∃ A n c zs q, e = .returned (.slice A n c) ∧ n ≤ 7 ∧ Row w' w.heap.size w'.heap.size A n zs ∧ q ≤ 110 ∧ Rd w' R (p + q) ∧ Upd (fun k => k = R) w w' := by
  have hRl := h.lt
  go_enter Tryd.func14, Tryd.ntmps14
  go_wp2_with fail
  refine (goodOrderM_any R p M hM7 w h (by omega)).mono ?_
  rintro e w1 ⟨A, n, c, zs, q, rfl, hn6, r1, hq, hR1, hU1⟩
  have z1 := hU1.size
  by_cases hn : 0 < n
  · obtain ⟨b, ys, rfl, hb0, hb1, hAr⟩ := r1.2 hn
    have hlen := Lib.hid r1.len
    clear r1
    go_wp2_with fail
    refine (pick_any R (p + q) n w1 hR1 (by omega)).mono ?_
    rintro e w2 ⟨k, rfl, hk, hR2, hU2⟩
    obtain ⟨k0, k1⟩ := hk.1 (by omega)
    obtain ⟨k, rfl⟩ := Int.eq_ofNat_of_zero_le k0
    have hA2 := hAr.upd hU2 (by omega)
    have z2 := hU2.size
    have hUw2 := hU1.trans hU2
    clear hk hR1 hAr hU2
    go_wp2_with fail
    refine (pick_any R (p + q + 1) 40 w2 hR2 (by omega)).mono ?_
    rintro e w3 ⟨x, rfl, -, hR3, hU3⟩
    have hA3 := hA2.upd hU3 (by omega)
    have z3 := hU3.size
    have hUw3 := hUw2.trans hU3
    clear hR2 hA2 hU3 hUw2
    have hkl : k < (zs ++ ys).length := by rw [List.length_append, hlen.out]; omega
    have hck := hA3.cell hkl
    have hfk := hA3.frozen k
    have hset : ∀ v : Int, (zs ++ ys).set k v = zs.set k v ++ ys := fun v => List.set_append_left _ _ (by rw [hlen.out]; omega)
    have hpk : ∀ w, Calls Tryd.prog 30 #[.int .i64 (k : Int)] w fun e w' => e = .returned (.int .i64 (powI k)) ∧ w = w' := fun w => power_any _ _ (by omega) (by omega)
    have hpn : ∀ w, Calls Tryd.prog 30 #[.int .i64 (n : Int)] w fun e w' => e = .returned (.int .i64 (powI n)) ∧ w = w' := fun w => power_any _ _ (by omega) (by omega)
    by_cases x0 : x = 0
    · subst x0
      obtain ⟨z, hz⟩ : ∃ z, (zs ++ ys)[k]?.getD 0 = z := ⟨_, rfl⟩
      rw [hz] at hck
      have hRd : Rd w3.drew R (p + q + 1 + 1) := hR3
      have hcel : ∀ w4, Upd (fun k => k = R) w3.drew w4 → w4.cell? ⟨b, k, none⟩ = some (.int .i64 z) ∧ w4.frozen? ⟨b, k, none⟩ = false := fun w4 hU4 =>
        ⟨hU4.cell (p := ⟨b, k, none⟩) hck (by simp; omega), (hA3.drew.upd hU4 (by omega)).frozen k⟩
      have hfin : ∀ w4 xv, Upd (fun k => k = R) w3.drew w4 → Rd w4 R (p + q + 1 + 1 + 1) →
          Row (w4.setCell ⟨b, k, none⟩ (.int .i64 xv)) w.heap.size (w4.setCell ⟨b, k, none⟩ (.int .i64 xv)).heap.size (some ⟨b, 0, none⟩) n (zs.set k xv) ∧
          Rd (w4.setCell ⟨b, k, none⟩ (.int .i64 xv)) R (p + (q + 3)) ∧ Upd (fun k => k = R) w (w4.setCell ⟨b, k, none⟩ (.int .i64 xv)) := fun w4 xv hU4 hR4 => by
        have hA4 := hA3.drew.upd hU4 (by omega)
        have z4 : w3.heap.size ≤ w4.heap.size := hU4.size
        have hU4' := hUw3.drew.trans hU4
        have hA6 := hA4.set k xv
        rw [hset] at hA6
        have hU6 : Upd (fun i => w.heap.size ≤ i ∧ i = b) w4 (w4.setCell ⟨b, k, none⟩ (.int .i64 xv)) := (Upd.refl (fun i => w.heap.size ≤ i ∧ i = b) w4).setCell (p := ⟨b, k, none⟩) (.inr ⟨hb0, rfl⟩) _
        refine ⟨⟨by simpa using hlen.out, fun _ => ⟨b, ys, rfl, hb0, by simp [World.setCell]; omega, hA6⟩⟩, ?_, hU4'.trans' hU6 (fun i hi e => by omega)⟩
        rw [show p + (q + 3) = p + q + 1 + 1 + 1 by omega]; exact hR4.upd hU6 (fun i hi => by omega)
      have hpick : Calls Tryd.prog 29 #[.pointer (some ⟨R, 0, none⟩), .int .i64 (n : Int)] w3.drew fun e w' => ∃ v, e = .returned (.int .i64 v) ∧ 0 ≤ v ∧ v < n ∧ Rd w' R (p + q + 1 + 1 + 1) ∧ Upd (fun k => k = R) w3.drew w' := by
        refine (pick_any R (p + q + 1 + 1) n _ hRd (by omega)).mono ?_
        rintro e w4 ⟨v, rfl, hv, hR4, hU4⟩
        exact ⟨v, rfl, (hv.1 (by omega)).1, (hv.1 (by omega)).2, hR4, hU4⟩
      have hq : q + 3 ≤ 110 := by omega
      have hn7 : n ≤ 7 := by omega
      clear hpk hpn hRd hset hR3 hA3 hUw3 hz hlen hkl hRl h hp hU1 z1 hb0 hb1 z2 z3
      go_wp2
      go_region_with (first
        | (go_at_call 29; refine hpick.mono ?_; rintro e w4 ⟨v, rfl, hv0, hv1, hR4, hU4⟩; obtain ⟨hck4, hfk4⟩ := hcel w4 hU4)
        | (go_at_call 30; refine (power_any _ _ (by omega) (by omega)).mono ?_; rintro e w' ⟨rfl, rfl⟩))
      all_goals
        obtain ⟨hf1, hf2, hf3⟩ := hfin w4 (bits .xor .i64 z (powI v)) hU4 hR4
        clear hfin hcel hpick hck hfk hck4 hfk4 hR4 hU4
        obtain ⟨W5, hW5⟩ : ∃ W5, w4.setCell ⟨b, k, none⟩ (.int .i64 (bits .xor .i64 z (powI v))) = W5 := ⟨_, rfl⟩
        rw [hW5] at hf1 hf2 hf3 ⊢
        obtain ⟨xv, hxv⟩ : ∃ xv, bits .xor .i64 z (powI v) = xv := ⟨_, rfl⟩
        rw [hxv] at hf1 ⊢
        clear hW5 hxv
        go_wp2
        go_ret
        exact ⟨_, n, c, _, q + 3, rfl, hn7, hf1, hq, hf2, hf3⟩
    · by_cases x1 : x = 1
      · subst x1
        go_wp2_with (first
          | (go_at_call 30; with_reducible refine (hpn _).mono ?_; rintro e w' ⟨rfl, rfl⟩)
          | (go_at_call 30; with_reducible refine (hpk _).mono ?_; rintro e w' ⟨rfl, rfl⟩))
        have hL : Arr (w3.alloc (.cells #[Value.int .i64 (-1), .int .i64 (powI n), .int .i64 (powI k)] 3)) w3.heap.size 3 [-1, powI n, powI k] := heap_alloc_new w3 _
        have hup : Upd (fun _ => False) w3 (w3.alloc (.cells #[Value.int .i64 (-1), .int .i64 (powI n), .int .i64 (powI k)] 3)) := (Upd.refl _ _).alloc _
        obtain ⟨W4, hW4⟩ : ∃ W4, w3.alloc (.cells #[Value.int .i64 (-1), .int .i64 (powI n), .int .i64 (powI k)] 3) = W4 := ⟨_, rfl⟩
        rw [hW4] at hL hup ⊢
        clear hW4
        have z4 := hup.size
        refine (one_any R (p + q + 1 + 1) _ 3 3 _ _ W4 (hR3.upd hup (fun _ e => e.elim)) (by omega) (hL.ints' (n := 3) hL.lt rfl) (fun b off e => by cases e; omega) (by omega) (by omega)).mono ?_
        rintro e w5 ⟨v, rfl, -, hR5, hU5⟩
        have hA5 := (hA3.upd hup (fun e => e)).upd hU5 (by omega)
        have z5 := hU5.size
        have hck5 := hA5.cell hkl
        have hfk5 := hA5.frozen k
        have hU5' := (hUw3.trans (hup.mono fun _ _ e => e.elim)).trans hU5
        go_wp2
        go_ret
        have hA6 := hA5.set k v
        rw [hset] at hA6
        have hU6 : Upd (fun i => w.heap.size ≤ i ∧ i = b) w5 (w5.setCell ⟨b, k, none⟩ (.int .i64 v)) := (Upd.refl (fun i => w.heap.size ≤ i ∧ i = b) w5).setCell (p := ⟨b, k, none⟩) (.inr ⟨hb0, rfl⟩) _
        exact ⟨_, n, c, zs.set k v, q + 3, rfl, by omega, ⟨by simpa using hlen.out, fun _ => ⟨b, ys, rfl, hb0, by simp [World.setCell]; omega, hA6⟩⟩, by omega, hR5.upd hU6 (fun i hi => by omega), hU5'.trans' hU6 (fun i hi e => by omega)⟩
      · by_cases x2 : x = 2
        · subst x2
          have hmk := run_make_row' (P := Tryd.prog) 23 3 (.int .i64 0) 8 Tryd.underlying23 infoInt rfl .i64 .i64 7 (by omega) (by omega)
          simp only [Int.cast_ofNat_Int] at hmk
          go_wp2
          go_ret
          exact ⟨_, 7, 7, List.replicate 7 0, q + 2, rfl, by omega, Row.of (Arr.new w3 3 7) (by simp) (by omega) (by simp), by omega, hR3.upd ((Upd.refl (fun _ => False) w3).alloc _) (fun _ e => e.elim), hUw3.alloc _⟩
        · go_wp2
          go_ret
          exact ⟨_, n, c, zs, q + 2, rfl, by omega, ⟨hlen.out, fun _ => ⟨b, ys, rfl, hb0, by omega, hA3⟩⟩, by omega, hR3, hUw3⟩
  · obtain rfl : n = 0 := by omega
    go_wp2
    go_ret
    exact ⟨A, 0, c, zs, q, rfl, by omega, r1, by omega, hR1, hU1⟩
end Go.Proofs.YtiicffibhjeabaaDoor

/- The arguments of TimesOf, drawn. -/
namespace Go.Proofs.YtiicffibhjeabaaDoor
open Go.RowKit Go.Shelf

/-- Two lists that are drawn read as numbers, few of them. -/
def Drawn2 (w : World) (e : Ending) (w' : World) : Prop := ∃ A n c zs A' n' c' ys, e = .returned (.tuple #[.slice A n c, .slice A' n' c']) ∧ n ≤ 7 ∧ n' ≤ 7 ∧ Ints w' w'.heap.size A n zs ∧ Ints w' w'.heap.size A' n' ys ∧ Below w.heap.size w w'
end Go.Proofs.YtiicffibhjeabaaDoor

/- The arguments of StackOf, drawn. -/
namespace Go.Proofs.YtiicffibhjeabaaDoor
open Go.RowKit Go.Shelf

set_option maxRecDepth 100000 in
set_option maxHeartbeats 2000000 in
theorem drawStackOf_any (A : Option Addr) (m c : Nat) (bs : List Int) (w : World) (h : Byts w w.heap.size A m bs) (hcap : m ≤ c) (hbig : m ≤ 1152921504606846976) :
    Calls Tryd.prog 4 #[.slice A m c] w (Drawn2 w) := by
  go_enter Tryd.func4, Tryd.ntmps4
  go_wp2_with fail
  refine (newReader_rd h hcap hbig).mono ?_
  rintro e w0 ⟨rfl, hR, hB, hz⟩
  obtain ⟨R, hRe⟩ : ∃ R, w.heap.size = R := ⟨_, rfl⟩
  rw [hRe] at hR hz hB ⊢
  go_wp2_with fail
  have hL : Arr (w0.alloc (.cells #[Value.int .i64 3, .int .i64 2, .int .i64 4, .int .i64 6] 3)) w0.heap.size 3 [3, 2, 4, 6] := heap_alloc_new w0 _
  have hUl : Upd (fun _ => False) w0 (w0.alloc (.cells #[Value.int .i64 3, .int .i64 2, .int .i64 4, .int .i64 6] 3)) := (Upd.refl _ _).alloc _
  obtain ⟨W1, hW1⟩ : ∃ W1, w0.alloc (.cells #[Value.int .i64 3, .int .i64 2, .int .i64 4, .int .i64 6] 3) = W1 := ⟨_, rfl⟩
  rw [hW1] at hL hUl ⊢
  clear hW1
  refine (one_any R 0 _ 4 4 _ _ W1 (hR.upd hUl (fun _ e => e.elim)) (by omega) (hL.ints' (n := 4) hL.lt rfl) (fun b off e => by cases e; omega) (by omega) (by omega)).mono ?_
  rintro e w2 ⟨v, rfl, hv, hR2, hU2⟩
  have hvb : 0 ≤ v ∧ v ≤ 7 := by simp at hv; omega
  obtain ⟨M1, rfl⟩ := Int.eq_ofNat_of_zero_le hvb.1
  have hB2 := hB.trans ((hUl.mono (S := fun k => k = R) (fun _ _ e => e.elim)).trans hU2 |>.toBelow (fun k e => by omega) (by omega))
  have zz2 : R < w2.heap.size := hR2.lt
  clear hL hUl hv hR hB
  go_wp2_with fail
  refine (someOrderM_any R _ M1 (by omega) w2 hR2 (by omega)).mono ?_
  rintro e w3 ⟨A3, n3, c3, zs, q3, rfl, hn3, r3, hq3, hR3, hU3⟩
  have z3 := hU3.size
  have hB3 := hB2.trans (hU3.toBelow (fun k e => by omega) (by omega))
  clear hB2 hR2 hU3 hU2
  go_wp2_with fail
  have hL : Arr (w3.alloc (.cells #[Value.int .i64 6, .int .i64 6, .int .i64 7, .int .i64 5] 3)) w3.heap.size 3 [6, 6, 7, 5] := heap_alloc_new w3 _
  have hUl : Upd (fun _ => False) w3 (w3.alloc (.cells #[Value.int .i64 6, .int .i64 6, .int .i64 7, .int .i64 5] 3)) := (Upd.refl _ _).alloc _
  obtain ⟨W4, hW4⟩ : ∃ W4, w3.alloc (.cells #[Value.int .i64 6, .int .i64 6, .int .i64 7, .int .i64 5] 3) = W4 := ⟨_, rfl⟩
  rw [hW4] at hL hUl ⊢
  clear hW4
  have hRl := hR3.lt
  refine (one_any R _ _ 4 4 _ _ W4 (hR3.upd hUl (fun _ e => e.elim)) (by omega) (hL.ints' (n := 4) hL.lt rfl) (fun b off e => by cases e; omega) (by omega) (by omega)).mono ?_
  rintro e w5 ⟨v, rfl, hv, hR5, hU5⟩
  have hvb2 : 0 ≤ v ∧ v ≤ 7 := by simp at hv; omega
  obtain ⟨M2, rfl⟩ := Int.eq_ofNat_of_zero_le hvb2.1
  have hU35 := (hUl.mono (S := fun k => k = R) (fun _ _ e => e.elim)).trans hU5
  have z5 := hU35.size
  have r5 := r3.upd hU35 (fun j e => by omega)
  have hB5 := hB3.trans (hU35.toBelow (fun k e => by omega) (by omega))
  clear hL hUl hv hB3 hR3 r3 hU5 hU35
  go_wp2_with fail
  all_goals
    first
      | (have hx : (M2 : Int) - (n3 : Int) = ((M2 - n3 : Nat) : Int) := by omega
         rw [hx]
         clear hx
         refine (someOrderM_any R _ (M2 - n3) (by omega) w5 hR5 (by omega)).mono ?_)
      | refine (someOrderM_any R _ 0 (by omega) w5 hR5 (by omega)).mono ?_
    clear h
    rintro e w6 ⟨A6, n6, c6, ys, q6, rfl, hn6, r6, hq6, hR6, hU6⟩
    have z6 := hU6.size
    have r7 := r5.upd hU6 (fun j e => by omega)
    go_wp2
    go_ret2
    exact ⟨A3, n3, c3, zs, A6, n6, c6, ys, rfl, hn3, hn6, r7.ints (by omega), r6.ints (Nat.le_refl _), by rw [hRe]; exact hB5.trans (hU6.toBelow (fun k e => by omega) (by omega))⟩
end Go.Proofs.YtiicffibhjeabaaDoor

/- 'equalInts': whether two lists are equal. -/
namespace Go.Proofs.YtiicffibhjeabaaDoor
open Go.RowKit

set_option maxHeartbeats 1000000 in
/-- Whether two lists are equal. -/
theorem equalInts_any (A A' : Option Addr) (n c n' c' B B' : Nat) (xs ys : List Int) (w : World) (hA : Ints w B A n xs) (hA' : Ints w B' A' n' ys) (hbig : n ≤ 1152921504606846976) (hbig' : n' ≤ 1152921504606846976) :
    Calls Tryd.prog 7 #[.slice A n c, .slice A' n' c'] w fun e w' => e = .returned (.bool (decide (xs = ys))) ∧ ∃ m, w' = w.drewN m := by
  have hlen := Lib.hid hA.len
  have hlen' := Lib.hid hA'.len
  by_cases hnn : n = n'
  · subst hnn
    go_enter Tryd.func7, Tryd.ntmps7
    go_wp2
    go_loopw [5] (fun i wr => ∃ k m : Nat, k ≤ n ∧ i = .int .i64 k ∧ (∀ a, a < k → xs[a]?.getD 0 = ys[a]?.getD 0) ∧ wr = w.drewN m) (fun i _ => n - (intOf i).toNat)
    case atStart => exact ⟨0, 0, by omega, rfl, fun a ha => by omega, rfl⟩
    case round =>
      obtain ⟨k, m, hk, rfl, hok, rfl⟩ := hrel
      have Hok := Lib.hid hok
      clear hok
      by_cases hlt : k < n
      · obtain ⟨b, off, rfl, _, hc⟩ := hA.at_ hlt
        obtain ⟨b', off', rfl, _, hc'⟩ := hA'.at_ hlt
        have hck := hc k hlt
        have hck' := hc' k hlt
        have Hc := Lib.hid hc
        have Hc' := Lib.hid hc'
        clear hc hc'
        cases hne : (xs[k]?.getD 0 != ys[k]?.getD 0)
        · have Heq := Lib.hid (show xs[k]?.getD 0 = ys[k]?.getD 0 by simpa [bne] using hne)
          go_wp2
          go_quiet (fail)
          go_wp2
          go_roundw
          case rel => exact ⟨k + 1, _, by omega, by go_num, all_snoc Hok.out Heq.out, rfl⟩
          case measure => simp [intOf]; omega
        · have Hne := Lib.hid (show decide (xs = ys) = false by
            simp only [decide_eq_false_iff_not]; rintro rfl; simp at hne)
          go_wp2
          go_quiet (fail)
          go_wp2
          go_ret
          exact ⟨ret_bool Hne.out.symm, by first | exact ⟨_, rfl⟩ | exact ⟨_, World.drewN_drewN ..⟩⟩
      · obtain rfl : k = n := by omega
        have Heq := Lib.hid (show decide (xs = ys) = true by
          simp only [decide_eq_true_eq]
          refine List.ext_getElem? fun i => ?_
          by_cases hi : i < xs.length
          · have h1 := Hok.out i (by rw [← hlen.out]; exact hi)
            have hi' : i < ys.length := by rw [hlen'.out, ← hlen.out]; exact hi
            rw [List.getElem?_eq_getElem hi, List.getElem?_eq_getElem hi'] at h1 ⊢
            simpa using h1
          · rw [List.getElem?_eq_none (by omega), List.getElem?_eq_none (by rw [hlen'.out, ← hlen.out]; omega)])
        go_wp2
        go_ret
        exact ⟨ret_bool Heq.out.symm, _, rfl⟩
  · have Hne := Lib.hid (show decide (xs = ys) = false by
      simp only [decide_eq_false_iff_not]; rintro rfl; exact hnn (hlen.out.symm.trans hlen'.out))
    have hnb : ((n : Int) != (n' : Int)) = true := by simp; omega
    go_enter Tryd.func7, Tryd.ntmps7
    go_wp2
    go_ret
    exact ⟨ret_bool Hne.out.symm, 0, rfl⟩
theorem equalSame_any (A A' : Option Addr) (n c n' c' B B' : Nat) (xs : List Int) (w : World) (hA : Ints w B A n xs) (hA' : Ints w B' A' n' xs) (hbig : n ≤ 1152921504606846976) (hbig' : n' ≤ 1152921504606846976) :
    Calls Tryd.prog 7 #[.slice A n c, .slice A' n' c'] w fun e w' => e = .returned (.bool true) ∧ Below w.heap.size w w' := by
  have h := below_quiet (equalInts_any A A' n c n' c' B B' xs xs w hA hA' hbig hbig')
  refine h.mono ?_
  rintro e w' ⟨rfl, hB⟩
  exact ⟨by simp, hB⟩
end Go.Proofs.YtiicffibhjeabaaDoor

/- LongestChain: the program's. -/
namespace Go.Proofs.YtiicffibhjeabaaDoor
open Go.RowKit

theorem LongestChain_any (A : Option Addr) (n c : Nat) (zs : List Int) (w : World) (h : Ints w w.heap.size A n zs) (hbig : n ≤ 1152921504606846976) :
    Calls Tryd.prog 9 #[.slice A n c] w fun e w' => e = .returned (.int .i64 (longR zs)) ∧ Below w.heap.size w w' := by
  have hlen := Lib.hid h.len
  cases hv : vo zs
  · have Ht := Lib.hid (show longR zs = -1 by unfold longR; rw [hv]; rfl)
    have Hv := Lib.hid hv
    clear hv
    go_enter Tryd.func9, Tryd.ntmps9
    go_wp2_with fail
    refine (readOrder_any _ _ _ zs _ h hbig).mono ?_
    rintro e w' ⟨hB, (⟨hv, b, rfl, _, _⟩ | ⟨_, rfl⟩)⟩
    · rw [Hv.out] at hv; cases hv
    · go_wp2_with fail
      go_ret
      exact ⟨ret_int Ht.out.symm, hB⟩
  · have hvo : VoP zs := by simpa [vo] using hv
    have Hv := Lib.hid hv
    clear hv
    have hn6 : n ≤ 6 := by have := hvo.1; rw [hlen.out] at this; exact this
    have Ht := Lib.hid (show longR zs = grTo (chB zs) (2 ^ n) by unfold longR; rw [Hv.out]; have := gr_long hvo; unfold setsN at this; rw [hlen.out] at this; rw [this]; rfl)
    go_enter Tryd.func9, Tryd.ntmps9
    go_wp2_with fail
    refine (readOrder_any _ _ _ zs _ h hbig).mono ?_
    rintro e w' ⟨hB, (⟨_, b, rfl, hb, hAr⟩ | ⟨hv, _⟩)⟩
    · go_wp2_with (go_at_call 22; refine (greatestOf_any 23 enters_chain _ _ _ zs (chB zs) hn6 _ (hAr.ints' hAr.lt hlen.out) (tests_chain _ _ _ zs hvo)).mono ?_; rintro e w2 ⟨rfl, hB2⟩)
      go_ret
      exact ⟨ret_int Ht.out.symm, hB.trans (hB2.mono hB.size)⟩
    · rw [Hv.out] at hv; cases hv
end Go.Proofs.YtiicffibhjeabaaDoor

/- ValidOrder of the program. -/
namespace Go.Proofs.YtiicffibhjeabaaDoor
open Go.RowKit

theorem ValidOrder_any (A : Option Addr) (n c : Nat) (zs : List Int) (w : World) (h : Ints w w.heap.size A n zs) (hbig : n ≤ 1152921504606846976) :
    Calls Tryd.prog 8 #[.slice A n c] w fun e w' => e = .returned (.bool (vo zs)) ∧ Below w.heap.size w w' := by
  go_enter Tryd.func8, Tryd.ntmps8
  go_wp2_with (go_at_call 21; refine (readOrder_any _ _ _ zs _ h hbig).mono ?_; rintro e w' ⟨hB, (⟨hv, b, rfl, _, _⟩ | ⟨hv, rfl⟩)⟩)
  all_goals
    go_ret
    exact ⟨ret_bool hv.symm, hB⟩
end Go.Proofs.YtiicffibhjeabaaDoor

/- WidestApart: the program's. -/
namespace Go.Proofs.YtiicffibhjeabaaDoor
open Go.RowKit

theorem WidestApart_any (A : Option Addr) (n c : Nat) (zs : List Int) (w : World) (h : Ints w w.heap.size A n zs) (hbig : n ≤ 1152921504606846976) :
    Calls Tryd.prog 10 #[.slice A n c] w fun e w' => e = .returned (.int .i64 (wideR zs)) ∧ Below w.heap.size w w' := by
  have hlen := Lib.hid h.len
  cases hv : vo zs
  · have Ht := Lib.hid (show wideR zs = -1 by unfold wideR; rw [hv]; rfl)
    have Hv := Lib.hid hv
    clear hv
    go_enter Tryd.func10, Tryd.ntmps10
    go_wp2_with fail
    refine (readOrder_any _ _ _ zs _ h hbig).mono ?_
    rintro e w' ⟨hB, (⟨hv, b, rfl, _, _⟩ | ⟨_, rfl⟩)⟩
    · rw [Hv.out] at hv; cases hv
    · go_wp2_with fail
      go_ret
      exact ⟨ret_int Ht.out.symm, hB⟩
  · have hvo : VoP zs := by simpa [vo] using hv
    have Hv := Lib.hid hv
    clear hv
    have hn6 : n ≤ 6 := by have := hvo.1; rw [hlen.out] at this; exact this
    have Ht := Lib.hid (show wideR zs = grTo (apB zs) (2 ^ n) by unfold wideR; rw [Hv.out]; simp [setsN, hlen.out])
    go_enter Tryd.func10, Tryd.ntmps10
    go_wp2_with fail
    refine (readOrder_any _ _ _ zs _ h hbig).mono ?_
    rintro e w' ⟨hB, (⟨_, b, rfl, hb, hAr⟩ | ⟨hv, _⟩)⟩
    · go_wp2_with (go_at_call 22; refine (greatestOf_any 24 enters_apart _ _ _ zs (apB zs) hn6 _ (hAr.ints' hAr.lt hlen.out) (tests_apart _ _ _ zs hvo)).mono ?_; rintro e w2 ⟨rfl, hB2⟩)
      go_ret
      exact ⟨ret_int Ht.out.symm, hB.trans (hB2.mono hB.size)⟩
    · rw [Hv.out] at hv; cases hv
end Go.Proofs.YtiicffibhjeabaaDoor

/- StackOf's own law: one above the other the chains are added, the width is the greater one, the lines are as many as the product, the ideals one less than the sum. -/
namespace Go.Proofs.YtiicffibhjeabaaDoor
open Go.RowKit Go.Shelf

set_option maxRecDepth 100000 in
set_option maxHeartbeats 8000000 in
theorem fnStackOf_walk (A : Option Addr) (m c : Nat) (bs : List Int) (w : World) (h : Byts w w.heap.size A m bs) (hcap : m ≤ c) (hT : Tab w) (hw1 : 1 < w.heap.size) :
    Calls Tryd.prog 3 #[.slice A m c] w fun e w' => e = .returned (.bool true) ∧ Below w.heap.size w w' := by
  by_cases hs : m ≤ 1048576
  · go_enter Tryd.func3, Tryd.ntmps3
    go_wp2_with fail
    refine (drawStackOf_any A m c bs w h hcap (by omega)).mono ?_
    rintro e w1 ⟨A1, n, c1, zs, AV, nV, cV, ys, rfl, hn7, hn8, hI1, hV1, C1⟩
    have hlen := Lib.hid hI1.len
    have hlen2 := Lib.hid hV1.len
    cases hP : bothB zs ys
    · have HB := Lib.hid hP
      have HL := Lib.hid (bothR_no (over := true) hP)
      clear hP
      go_wp2_with fail
      refine (StackOf_any A1 n c1 zs AV nV cV ys w1 hI1 hV1 (by omega) (by omega)).mono ?_
      rw [HB.out]
      rintro e w2 ⟨A2, m2, c2, rfl, r2, hB2⟩
      have z2 := hB2.size
      have C2 := C1.trans (hB2.mono C1.size)
      have hI2 := hI1.to hB2 (Nat.le_refl _) z2
      have hV2 := hV1.to hB2 (Nat.le_refl _) z2
      have ha2 := r2.ints (B := w2.heap.size) (Nat.le_refl _)
      have e2 := r2.len
      clear hI1 hV1 hB2 C1 r2
      rw [HL.out] at ha2 e2
      simp only [List.length_nil] at e2
      subst e2
      go_wp2_with fail
      refine (specStackOfF_any A1 n c1 zs AV nV cV ys w2 hI2 hV2 (by omega) (by omega)).mono ?_
      rw [HB.out]
      rintro e w3 ⟨A3, m3, c3, rfl, r3, hB3⟩
      have z3 := hB3.size
      have C3 := C2.trans (hB3.mono C2.size)
      have hI3 := hI2.to hB3 (Nat.le_refl _) z3
      have hV3 := hV2.to hB3 (Nat.le_refl _) z3
      have ha3 := ha2.to hB3 (Nat.le_refl _) z3
      have hb3 := r3.ints (B := w3.heap.size) (Nat.le_refl _)
      have e3 := r3.len
      clear hI2 hV2 ha2 hB3 C2 r3
      rw [HL.out] at hb3 e3
      simp only [List.length_nil] at e3
      subst e3
      go_wp2_with fail
      refine (equalSame_any _ _ _ _ _ _ _ _ _ _ ha3 hb3 (by omega) (by omega)).mono ?_
      rintro e w4 ⟨rfl, hB4⟩
      have z4 := hB4.size
      have C4 := C3.trans (hB4.mono C3.size)
      have hI4 := hI3.to hB4 (Nat.le_refl _) z4
      have hV4 := hV3.to hB4 (Nat.le_refl _) z4
      have ha4 := ha3.to hB4 (Nat.le_refl _) z4
      have hb4 := hb3.to hB4 (Nat.le_refl _) z4
      clear hI3 hV3 ha3 hb3 hB4 C3
      go_wp2_with fail
      refine (equalSame_any _ _ _ _ _ _ _ _ _ _ ha4 hb4 (by omega) (by omega)).mono ?_
      rintro e w5 ⟨rfl, hB5⟩
      have z5 := hB5.size
      have C5 := C4.trans (hB5.mono C4.size)
      have hI5 := hI4.to hB5 (Nat.le_refl _) z5
      have hV5 := hV4.to hB5 (Nat.le_refl _) z5
      have ha5 := ha4.to hB5 (Nat.le_refl _) z5
      have hb5 := hb4.to hB5 (Nat.le_refl _) z5
      clear hI4 hV4 ha4 hb4 hB5 C4
      go_wp2_with fail
      go_ret
      exact ⟨rfl, C5⟩
    · obtain ⟨hvo, hvy, hnm⟩ := bothB_parts hP
      have HB := Lib.hid hP
      rw [hlen.out, hlen2.out] at hnm
      obtain ⟨N, hN⟩ : ∃ N, n + nV = N := ⟨_, rfl⟩
      obtain ⟨T, hTT⟩ : ∃ T, bothL zs ys true = T := ⟨_, rfl⟩
      have hvT : VoP T := by rw [← hTT]; exact both_vo hlen.out hlen2.out hvo hvy hnm
      have hTl : T.length = N := by rw [← hTT, bothL_len, hlen.out, hlen2.out, hN]
      have HTl := Lib.hid hTl
      have HR := Lib.hid (show bothR zs ys true = T by rw [bothR_yes hP, hTT])
      clear hP
      have HVT := Lib.hid (show vo T = true from vo_true hvT)
      have hN6 : N ≤ 6 := by omega
      obtain ⟨La, hLa⟩ := Int.eq_ofNat_of_zero_le (show 0 ≤ longI zs from longI_nn zs)
      obtain ⟨Lb, hLb⟩ := Int.eq_ofNat_of_zero_le (show 0 ≤ longI ys from longI_nn ys)
      obtain ⟨Lt, hLt⟩ := Int.eq_ofNat_of_zero_le (show 0 ≤ longI T from longI_nn T)
      have HLa := Lib.hid (show longR zs = (La : Int) by unfold longR; rw [vo_true hvo, ← hLa]; rfl)
      have HLb := Lib.hid (show longR ys = (Lb : Int) by unfold longR; rw [vo_true hvy, ← hLb]; rfl)
      have HLt := Lib.hid (show longR T = (Lt : Int) by unfold longR; rw [vo_true hvT, ← hLt]; rfl)
      have hla6 : La ≤ 6 := by have := longI_bd hvo; rw [hlen.out] at this; omega
      have hlb6 : Lb ≤ 6 := by have := longI_bd hvy; rw [hlen2.out] at this; omega
      have hlsum : (Lt : Int) = (La : Int) + (Lb : Int) := by have := stk_long hlen.out hlen2.out hvo hvy hnm; rw [hTT, hLa, hLb, hLt] at this; omega
      obtain ⟨Wa, hWa⟩ := Int.eq_ofNat_of_zero_le (show 0 ≤ grTo (apB zs) (2 ^ n) from grTo_nn _ _)
      obtain ⟨Wb, hWb⟩ := Int.eq_ofNat_of_zero_le (show 0 ≤ grTo (apB ys) (2 ^ nV) from grTo_nn _ _)
      obtain ⟨Wt, hWt⟩ := Int.eq_ofNat_of_zero_le (show 0 ≤ grTo (apB T) (2 ^ N) from grTo_nn _ _)
      have HWa := Lib.hid (show wideR zs = (Wa : Int) by unfold wideR setsN; rw [vo_true hvo, if_pos rfl, hlen.out, hWa])
      have HWb := Lib.hid (show wideR ys = (Wb : Int) by unfold wideR setsN; rw [vo_true hvy, if_pos rfl, hlen2.out, hWb])
      have HWt := Lib.hid (show wideR T = (Wt : Int) by unfold wideR setsN; rw [vo_true hvT, if_pos rfl, hTl, hWt])
      have hp6 : ∀ k, k ≤ 6 → 2 ^ k ≤ 64 := fun k hk => Nat.pow_le_pow_right (n := 2) (by decide) hk
      have hwa6 : Wa ≤ 6 := by have := grTo_bd (apB zs) (2 ^ n) (hp6 n (by omega)); rw [hWa] at this; omega
      have hwb6 : Wb ≤ 6 := by have := grTo_bd (apB ys) (2 ^ nV) (hp6 nV (by omega)); rw [hWb] at this; omega
      have hmax : Wt = max Wa Wb := by have := stk_wide hlen.out hlen2.out hvo hvy hnm; rw [hTT, hN, hWa, hWb, hWt] at this; omega
      obtain ⟨Ia, hIa⟩ : ∃ Ia, ciN zs (2 ^ n - 1) = Ia := ⟨_, rfl⟩
      obtain ⟨Ib, hIb⟩ : ∃ Ib, ciN ys (2 ^ nV - 1) = Ib := ⟨_, rfl⟩
      obtain ⟨It, hIt⟩ : ∃ It, ciN T (2 ^ N - 1) = It := ⟨_, rfl⟩
      have HIa := Lib.hid (show countIdealsR zs = (Ia : Int) by unfold countIdealsR; rw [vo_true hvo, if_pos rfl, hlen.out, hIa])
      have HIb := Lib.hid (show countIdealsR ys = (Ib : Int) by unfold countIdealsR; rw [vo_true hvy, if_pos rfl, hlen2.out, hIb])
      have HIt := Lib.hid (show countIdealsR T = (It : Int) by unfold countIdealsR; rw [vo_true hvT, if_pos rfl, hTl, hIt])
      have hit64 : It ≤ 64 := by rw [← hIt]; exact ciN_64 T (by have := hp6 N (by omega); have := Nat.pow_pos (n := N) (show 0 < 2 by decide); omega)
      have hia64 : Ia ≤ 64 := by rw [← hIa]; exact ciN_64 zs (by have := hp6 n (by omega); have := Nat.pow_pos (n := n) (show 0 < 2 by decide); omega)
      have hib64 : Ib ≤ 64 := by rw [← hIb]; exact ciN_64 ys (by have := hp6 nV (by omega); have := Nat.pow_pos (n := nV) (show 0 < 2 by decide); omega)
      have hids : (It : Int) = (Ia : Int) + (Ib : Int) - 1 := by have := stk_ci hlen.out hlen2.out hvo hvy hnm; rw [hTT, hN, hIt, hIa, hIb] at this; omega
      obtain ⟨Ka, hKa⟩ : ∃ Ka, cG zs (2 ^ n - 1) = Ka := ⟨_, rfl⟩
      obtain ⟨Kb, hKb⟩ : ∃ Kb, cG ys (2 ^ nV - 1) = Kb := ⟨_, rfl⟩
      obtain ⟨Kt, hKt⟩ : ∃ Kt, cG T (2 ^ N - 1) = Kt := ⟨_, rfl⟩
      have HKa := Lib.hid (show linesR zs = (Ka : Int) by unfold linesR; rw [vo_true hvo, if_pos rfl, hlen.out, hKa])
      have HKb := Lib.hid (show linesR ys = (Kb : Int) by unfold linesR; rw [vo_true hvy, if_pos rfl, hlen2.out, hKb])
      have HKt := Lib.hid (show linesR T = (Kt : Int) by unfold linesR; rw [vo_true hvT, if_pos rfl, hTl, hKt])
      have hkt : Kt ≤ 46656 := by rw [← hKt]; exact cG_le hvT (by rw [hTl]; have := Nat.pow_pos (n := N) (show 0 < 2 by decide); omega)
      have hlin : (Ka : Int) * (Kb : Int) = (Kt : Int) := by rw [← hKt, ← hKa, ← hKb, ← hN, ← hTT, stk_lines hlen.out hlen2.out hvo hvy hnm, Int.natCast_mul]
      have hwr : wrap64 ((Ka : Int) * (Kb : Int)) = (Kt : Int) := by rw [hlin]; exact IntWalk.wrap64_in _ ⟨by omega, by omega⟩
      have HWR := Lib.hid hwr
      clear hwr
      have HNN := Lib.hid (show ((N : Int) == (n : Int) + (nV : Int)) = true by simp; omega)
      have HWW := Lib.hid (show ((Lt : Int) == (La : Int) + (Lb : Int)) = true by rw [hlsum]; simp)
      have HII := Lib.hid (show ((It : Int) == (Ia : Int) + (Ib : Int) - 1) = true by rw [hids]; simp)
      have HMX := Lib.hid hmax
      have hlt6 : Lt ≤ 12 := by omega
      clear hN hTT hnm hLa hLb hLt hTl hvo hvy hvT hWa hWb hWt hIa hIb hIt hmax hlsum hids hlin hKa hKb hKt hp6
      go_wp2_with fail
      refine (StackOf_any A1 n c1 zs AV nV cV ys w1 hI1 hV1 (by omega) (by omega)).mono ?_
      rw [HB.out]
      rintro e w2 ⟨A2, m2, c2, rfl, r2, hB2⟩
      have z2 := hB2.size
      have C2 := C1.trans (hB2.mono C1.size)
      have hI2 := hI1.to hB2 (Nat.le_refl _) z2
      have hV2 := hV1.to hB2 (Nat.le_refl _) z2
      have ha2 := r2.ints (B := w2.heap.size) (Nat.le_refl _)
      have e2 := r2.len
      clear hI1 hV1 hB2 C1 r2
      rw [HR.out] at ha2 e2
      rw [HTl.out] at e2
      subst e2
      go_wp2_with fail
      refine (specStackOfF_any A1 n c1 zs AV nV cV ys w2 hI2 hV2 (by omega) (by omega)).mono ?_
      rw [HB.out]
      rintro e w3 ⟨A3, m3, c3, rfl, r3, hB3⟩
      have z3 := hB3.size
      have C3 := C2.trans (hB3.mono C2.size)
      have hI3 := hI2.to hB3 (Nat.le_refl _) z3
      have hV3 := hV2.to hB3 (Nat.le_refl _) z3
      have ha3 := ha2.to hB3 (Nat.le_refl _) z3
      have hb3 := r3.ints (B := w3.heap.size) (Nat.le_refl _)
      have e3 := r3.len
      clear hI2 hV2 ha2 hB3 C2 r3
      rw [HR.out] at hb3 e3
      rw [HTl.out] at e3
      subst e3
      go_wp2_with fail
      refine (equalSame_any _ _ _ _ _ _ _ _ _ _ ha3 hb3 (by omega) (by omega)).mono ?_
      rintro e w4 ⟨rfl, hB4⟩
      have z4 := hB4.size
      have C4 := C3.trans (hB4.mono C3.size)
      have hI4 := hI3.to hB4 (Nat.le_refl _) z4
      have hV4 := hV3.to hB4 (Nat.le_refl _) z4
      have ha4 := ha3.to hB4 (Nat.le_refl _) z4
      have hb4 := hb3.to hB4 (Nat.le_refl _) z4
      clear hI3 hV3 ha3 hb3 hB4 C3
      clear hb4
      go_wp2_with fail
      refine (ValidOrder_any A2 N c2 T w4 ha4 (by omega)).mono ?_
      rw [HVT.out]
      rintro e w5 ⟨rfl, hB5⟩
      have z5 := hB5.size
      have C5 := C4.trans (hB5.mono C4.size)
      have hI5 := hI4.to hB5 (Nat.le_refl _) z5
      have hV5 := hV4.to hB5 (Nat.le_refl _) z5
      have ha5 := ha4.to hB5 (Nat.le_refl _) z5
      clear hI4 hV4 ha4 hB5 C4
      have hNN := HNN.out
      go_wp2_with fail
      refine (LongestChain_any A2 N c2 T w5 ha5 (by omega)).mono ?_
      rw [HLt.out]
      rintro e w6 ⟨rfl, hB6⟩
      have z6 := hB6.size
      have C6 := C5.trans (hB6.mono C5.size)
      have hI6 := hI5.to hB6 (Nat.le_refl _) z6
      have hV6 := hV5.to hB6 (Nat.le_refl _) z6
      have ha6 := ha5.to hB6 (Nat.le_refl _) z6
      clear hI5 hV5 ha5 hB6 C5
      clear hNN
      go_wp2_with fail
      refine (LongestChain_any A1 n c1 zs w6 hI6 (by omega)).mono ?_
      rw [HLa.out]
      rintro e w7 ⟨rfl, hB7⟩
      have z7 := hB7.size
      have C7 := C6.trans (hB7.mono C6.size)
      have hI7 := hI6.to hB7 (Nat.le_refl _) z7
      have hV7 := hV6.to hB7 (Nat.le_refl _) z7
      have ha7 := ha6.to hB7 (Nat.le_refl _) z7
      clear hI6 hV6 ha6 hB7 C6
      go_wp2_with fail
      refine (LongestChain_any AV nV cV ys w7 hV7 (by omega)).mono ?_
      rw [HLb.out]
      rintro e w8 ⟨rfl, hB8⟩
      have z8 := hB8.size
      have C8 := C7.trans (hB8.mono C7.size)
      have hI8 := hI7.to hB8 (Nat.le_refl _) z8
      have hV8 := hV7.to hB8 (Nat.le_refl _) z8
      have ha8 := ha7.to hB8 (Nat.le_refl _) z8
      clear hI7 hV7 ha7 hB8 C7
      have hWW := HWW.out
      go_wp2_with fail
      refine (WidestApart_any A2 N c2 T w8 ha8 (by omega)).mono ?_
      rw [HWt.out]
      rintro e w9 ⟨rfl, hB9⟩
      have z9 := hB9.size
      have C9 := C8.trans (hB9.mono C8.size)
      have hI9 := hI8.to hB9 (Nat.le_refl _) z9
      have hV9 := hV8.to hB9 (Nat.le_refl _) z9
      have ha9 := ha8.to hB9 (Nat.le_refl _) z9
      clear hI8 hV8 ha8 hB9 C8
      clear hWW
      go_wp2_with fail
      refine (WidestApart_any A1 n c1 zs w9 hI9 (by omega)).mono ?_
      rw [HWa.out]
      rintro e w10 ⟨rfl, hB10⟩
      have z10 := hB10.size
      have C10 := C9.trans (hB10.mono C9.size)
      have hI10 := hI9.to hB10 (Nat.le_refl _) z10
      have hV10 := hV9.to hB10 (Nat.le_refl _) z10
      have ha10 := ha9.to hB10 (Nat.le_refl _) z10
      clear hI9 hV9 ha9 hB10 C9
      go_wp2_with fail
      refine (WidestApart_any AV nV cV ys w10 hV10 (by omega)).mono ?_
      rw [HWb.out]
      rintro e w11 ⟨rfl, hB11⟩
      have z11 := hB11.size
      have C11 := C10.trans (hB11.mono C10.size)
      have hI11 := hI10.to hB11 (Nat.le_refl _) z11
      have hV11 := hV10.to hB11 (Nat.le_refl _) z11
      have ha11 := ha10.to hB11 (Nat.le_refl _) z11
      clear hI10 hV10 ha10 hB11 C10
      rcases Nat.lt_or_ge Wa Wb with hab | hab
      · have HE := Lib.hid (show Wt = Wb by have := HMX.out; omega)
        obtain rfl := HE.out
        have hMM : ((Wt : Int) == (Wt : Int)) = true := by simp
        clear HE HMX HWt
        go_wp2_with fail
        all_goals first | (exfalso; omega) | skip
        all_goals
          refine (CountLines_any A2 N c2 T w11 ha11 (by omega)).mono ?_
          rw [HKt.out]
          rintro e w12 ⟨rfl, hB12⟩
          have z12 := hB12.size
          have C12 := C11.trans (hB12.mono C11.size)
          have hI12 := hI11.to hB12 (Nat.le_refl _) z12
          have hV12 := hV11.to hB12 (Nat.le_refl _) z12
          have ha12 := ha11.to hB12 (Nat.le_refl _) z12
          clear hI11 hV11 ha11 hB12 C11
          clear hMM
          go_wp2_with fail
          refine (CountLines_any A1 n c1 zs w12 hI12 (by omega)).mono ?_
          rw [HKa.out]
          rintro e w13 ⟨rfl, hB13⟩
          have z13 := hB13.size
          have C13 := C12.trans (hB13.mono C12.size)
          have hI13 := hI12.to hB13 (Nat.le_refl _) z13
          have hV13 := hV12.to hB13 (Nat.le_refl _) z13
          have ha13 := ha12.to hB13 (Nat.le_refl _) z13
          clear hI12 hV12 ha12 hB13 C12
          go_wp2_with fail
          refine (CountLines_any AV nV cV ys w13 hV13 (by omega)).mono ?_
          rw [HKb.out]
          rintro e w14 ⟨rfl, hB14⟩
          have z14 := hB14.size
          have C14 := C13.trans (hB14.mono C13.size)
          have hI14 := hI13.to hB14 (Nat.le_refl _) z14
          have hV14 := hV13.to hB14 (Nat.le_refl _) z14
          have ha14 := ha13.to hB14 (Nat.le_refl _) z14
          clear hI13 hV13 ha13 hB14 C13
          have hKK : ((Kt : Int) == (Kt : Int)) = true := by simp
          have hwr := HWR.out
          go_wp2_with fail
          refine (CountIdeals_any A2 N c2 T w14 ha14 (by omega) (hT.below C14 hw1) (Nat.lt_of_lt_of_le hw1 C14.size)).mono ?_
          rw [HIt.out]
          rintro e w15 ⟨rfl, hB15⟩
          have z15 := hB15.size
          have C15 := C14.trans (hB15.mono C14.size)
          have hI15 := hI14.to hB15 (Nat.le_refl _) z15
          have hV15 := hV14.to hB15 (Nat.le_refl _) z15
          have ha15 := ha14.to hB15 (Nat.le_refl _) z15
          clear hI14 hV14 ha14 hB15 C14
          clear hKK hwr
          go_wp2_with fail
          refine (CountIdeals_any A1 n c1 zs w15 hI15 (by omega) (hT.below C15 hw1) (Nat.lt_of_lt_of_le hw1 C15.size)).mono ?_
          rw [HIa.out]
          rintro e w16 ⟨rfl, hB16⟩
          have z16 := hB16.size
          have C16 := C15.trans (hB16.mono C15.size)
          have hI16 := hI15.to hB16 (Nat.le_refl _) z16
          have hV16 := hV15.to hB16 (Nat.le_refl _) z16
          have ha16 := ha15.to hB16 (Nat.le_refl _) z16
          clear hI15 hV15 ha15 hB16 C15
          go_wp2_with fail
          refine (CountIdeals_any AV nV cV ys w16 hV16 (by omega) (hT.below C16 hw1) (Nat.lt_of_lt_of_le hw1 C16.size)).mono ?_
          rw [HIb.out]
          rintro e w17 ⟨rfl, hB17⟩
          have z17 := hB17.size
          have C17 := C16.trans (hB17.mono C16.size)
          have hI17 := hI16.to hB17 (Nat.le_refl _) z17
          have hV17 := hV16.to hB17 (Nat.le_refl _) z17
          have ha17 := ha16.to hB17 (Nat.le_refl _) z17
          clear hI16 hV16 ha16 hB17 C16
          have hII := HII.out
          go_wp2_with fail
          go_ret
          exact ⟨rfl, C17⟩
      · have HE := Lib.hid (show Wt = Wa by have := HMX.out; omega)
        obtain rfl := HE.out
        have hMM : ((Wt : Int) == (Wt : Int)) = true := by simp
        clear HE HMX HWt
        go_wp2_with fail
        all_goals first | (exfalso; omega) | skip
        all_goals
          refine (CountLines_any A2 N c2 T w11 ha11 (by omega)).mono ?_
          rw [HKt.out]
          rintro e w12 ⟨rfl, hB12⟩
          have z12 := hB12.size
          have C12 := C11.trans (hB12.mono C11.size)
          have hI12 := hI11.to hB12 (Nat.le_refl _) z12
          have hV12 := hV11.to hB12 (Nat.le_refl _) z12
          have ha12 := ha11.to hB12 (Nat.le_refl _) z12
          clear hI11 hV11 ha11 hB12 C11
          clear hMM
          go_wp2_with fail
          refine (CountLines_any A1 n c1 zs w12 hI12 (by omega)).mono ?_
          rw [HKa.out]
          rintro e w13 ⟨rfl, hB13⟩
          have z13 := hB13.size
          have C13 := C12.trans (hB13.mono C12.size)
          have hI13 := hI12.to hB13 (Nat.le_refl _) z13
          have hV13 := hV12.to hB13 (Nat.le_refl _) z13
          have ha13 := ha12.to hB13 (Nat.le_refl _) z13
          clear hI12 hV12 ha12 hB13 C12
          go_wp2_with fail
          refine (CountLines_any AV nV cV ys w13 hV13 (by omega)).mono ?_
          rw [HKb.out]
          rintro e w14 ⟨rfl, hB14⟩
          have z14 := hB14.size
          have C14 := C13.trans (hB14.mono C13.size)
          have hI14 := hI13.to hB14 (Nat.le_refl _) z14
          have hV14 := hV13.to hB14 (Nat.le_refl _) z14
          have ha14 := ha13.to hB14 (Nat.le_refl _) z14
          clear hI13 hV13 ha13 hB14 C13
          have hKK : ((Kt : Int) == (Kt : Int)) = true := by simp
          have hwr := HWR.out
          go_wp2_with fail
          refine (CountIdeals_any A2 N c2 T w14 ha14 (by omega) (hT.below C14 hw1) (Nat.lt_of_lt_of_le hw1 C14.size)).mono ?_
          rw [HIt.out]
          rintro e w15 ⟨rfl, hB15⟩
          have z15 := hB15.size
          have C15 := C14.trans (hB15.mono C14.size)
          have hI15 := hI14.to hB15 (Nat.le_refl _) z15
          have hV15 := hV14.to hB15 (Nat.le_refl _) z15
          have ha15 := ha14.to hB15 (Nat.le_refl _) z15
          clear hI14 hV14 ha14 hB15 C14
          clear hKK hwr
          go_wp2_with fail
          refine (CountIdeals_any A1 n c1 zs w15 hI15 (by omega) (hT.below C15 hw1) (Nat.lt_of_lt_of_le hw1 C15.size)).mono ?_
          rw [HIa.out]
          rintro e w16 ⟨rfl, hB16⟩
          have z16 := hB16.size
          have C16 := C15.trans (hB16.mono C15.size)
          have hI16 := hI15.to hB16 (Nat.le_refl _) z16
          have hV16 := hV15.to hB16 (Nat.le_refl _) z16
          have ha16 := ha15.to hB16 (Nat.le_refl _) z16
          clear hI15 hV15 ha15 hB16 C15
          go_wp2_with fail
          refine (CountIdeals_any AV nV cV ys w16 hV16 (by omega) (hT.below C16 hw1) (Nat.lt_of_lt_of_le hw1 C16.size)).mono ?_
          rw [HIb.out]
          rintro e w17 ⟨rfl, hB17⟩
          have z17 := hB17.size
          have C17 := C16.trans (hB17.mono C16.size)
          have hI17 := hI16.to hB17 (Nat.le_refl _) z17
          have hV17 := hV16.to hB17 (Nat.le_refl _) z17
          have ha17 := ha16.to hB17 (Nat.le_refl _) z17
          clear hI16 hV16 ha16 hB17 C16
          have hII := HII.out
          go_wp2_with fail
          go_ret
          exact ⟨rfl, C17⟩
  · go_enter Tryd.func3, Tryd.ntmps3
    go_wp2
    go_ret
    exact ⟨rfl, Below.refl _ _⟩
end Go.Proofs.YtiicffibhjeabaaDoor

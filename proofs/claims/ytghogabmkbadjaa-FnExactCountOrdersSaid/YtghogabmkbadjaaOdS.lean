/- All orders of n items: the model's. -/
import Derived.Test.YtghogabmkbadjaaOrN
import Derived.Test.YtghogabmkbadjaaGxg
import Derived.Maps.AppendAt
set_option linter.unusedVariables false
set_option linter.unusedSimpArgs false
namespace Go.Proofs.Ytghogabmkbadjaa
open Go.RowKit Go.Shelf

theorem odG_bd {n k : Nat} (hn : n ≤ 4) (hk : k ≤ 4) (h : List Int) : (odG n k h).length ≤ 65536 := by
  rw [odG_all]
  refine Nat.le_trans (List.length_filter_le _ _) ?_
  rw [List.length_map, List.length_range]
  have h1 : n * k ≤ 16 := Nat.mul_le_mul hn hk
  have h2 : 2 ^ (n * k) ≤ 2 ^ 16 := Nat.pow_le_pow_right (by decide) h1
  omega
/-- Those of the first sets. -/
def odX (n k : Nat) (h : List Int) (s : Nat) : List (List Int) := (List.range s).flatMap fun s => if s.testBit h.length then [] else odG n k (h ++ [(s : Int)])
theorem odX_all (n k : Nat) (h : List Int) : odX n k h (2 ^ n) = odG n (k + 1) h := by rw [odG]; rfl
theorem odX_yes {n k s : Nat} {h : List Int} (hb : s.testBit h.length = false) : odX n k h (s + 1) = odX n k h s ++ odG n k (h ++ [(s : Int)]) := by
  unfold odX
  rw [List.range_succ, List.flatMap_append]
  simp [hb]
theorem odX_no {n k s : Nat} {h : List Int} (hb : s.testBit h.length = true) : odX n k h (s + 1) = odX n k h s := by
  unfold odX
  rw [List.range_succ, List.flatMap_append]
  simp [hb]
theorem odX_le {n k : Nat} (h : List Int) {a P : Nat} (hP : 2 ^ n = P) (ha : a ≤ P) : (odX n k h a).length ≤ (odG n (k + 1) h).length := by
  subst hP
  rw [← odX_all]
  unfold odX
  obtain ⟨d, hd⟩ := Nat.exists_eq_add_of_le ha
  rw [hd, List.range_add, List.flatMap_append, List.length_append]
  omega
theorem bitI_nat (s j : Nat) : bitB (s : Int) (j : Int) = s.testBit j := by unfold bitB; simp

set_option maxRecDepth 100000 in
set_option maxHeartbeats 4000000 in
theorem allOrders_any (n : Nat) (hn4 : n ≤ 4) : ∀ (k : Nat) (so : List Int) (g cg : Nat) (w : World), so.length + k = n → w.ownsRow 0 3 1 (.slice (some ⟨g, 0, none⟩) so.length cg) so.length (so.map (Value.int .i64)) →
    Calls Try.prog 59 #[.int .i64 (n : Int), .slice (some ⟨g, 0, none⟩) so.length cg] w fun e w' => ∃ v g' c', e = .returned v ∧ (∃ L, v = .slice (some ⟨g', 0, none⟩) L.length c' ∧ L.map Prod.fst = odG n k so ∧ LnRows (fun j => w.heap.size ≤ j) w' v L) ∧ Below w.heap.size w w'
  | 0, so, g, cg, wS, hk, hO => by
    obtain ⟨i0, hi0, hz0, hz1, hz2⟩ := info_parts infoInt
    have hcell0 := (own_cells hO).2
    have hgl0 := own_lt' hO g rfl
    have hsn : so.length = n := by omega
    have hso : so.length ≤ 4 := by omega
    have heq : ((so.length : Int) == (n : Int)) = true := by simp only [beq_iff_eq]; omega
    have hI : Ints wS wS.heap.size (some ⟨g, 0, none⟩) so.length so := ⟨rfl, fun _ => ⟨g, 0, rfl, hgl0, fun j hj => by rw [Nat.zero_add]; exact hcell0 j hj⟩⟩
    clear hsn hk
    go_enter Try.func59, Try.ntmps59
    go_wp2_with fail
    refine (validOrder_any _ _ _ _ so _ hI (by omega)).mono ?_
    rintro e w' ⟨rfl, m, rfl⟩
    have B1 : Below wS.heap.size wS (wS.drewN m) := below_drewN (Below.refl _ _) m
    have hcell : ∀ j, j < so.length → (wS.drewN m).cell? ⟨g, j, none⟩ = some (.int .i64 (so[j]?.getD 0)) := hcell0
    have hgl : g < (wS.drewN m).heap.size := hgl0
    have zS : wS.heap.size ≤ (wS.drewN m).heap.size := Nat.le_refl _
    generalize wS.drewN m = w at *
    cases hv : vo so
    · have Hv := Lib.hid (show odG n 0 so = [] by rw [odG, hv]; rfl)
      go_wp2_with fail
      go_ret
      exact ⟨_, w.heap.size, 0, rfl, ⟨[], rfl, by rw [Hv.out]; rfl, ⟨own_sooner (own_new w _) (Nat.zero_le _), fun _ h => by simp at h, fun _ h => by simp at h, List.Pairwise.nil, fun k h => by simp [Value.ownBlock] at h; omega, fun _ h => by simp at h⟩⟩, B1.trans (((Upd.refl (fun _ => False) w).alloc _).toBelow (B := wS.heap.size) (fun _ e => e.elim) zS)⟩
    have Hv := Lib.hid (show odG n 0 so = [so] by rw [odG, hv]; rfl)
    clear hv
    have hown := own_new w 3
    have hU1 : Upd (fun _ => False) w (w.alloc (.cells #[] 3)) := (Upd.refl _ w).alloc _
    have hz1' : (w.alloc (.cells #[] 3)).heap.size = w.heap.size + 1 := by simp
    have hnews : ∀ j u, (so.map (Value.int .i64))[j]? = some u → (w.alloc (.cells #[] 3)).cell? ((⟨g, 0, none⟩ : Addr).add j) = some u := news_at hcell (hU1.mono (S := fun k => w.heap.size ≤ k) (fun _ _ e => e.elim)) hgl (fun j hj => addr_add3 ..) (fun j hj => by rw [Nat.zero_add]) (by omega)
    go_wp2_with (at_builtin; refine wpList_appendK _ rfl (.tmp 13) (.tmp 14) _ rfl w.heap.size 3 i0 _ 8 Try.underlying22 hi0 hz0 hz1 hz2 rfl _ 0 [] rfl hown ⟨g, 0, none⟩ so.length cg _ rfl (by rw [List.length_map]) hnews (fun u hu => by obtain ⟨z, _, rfl⟩ := List.mem_map.1 hu; rfl) (by simp [maxLen]; omega) (by omega) (by simp) ?_; intro v' w1 hown' hg'; rw [Nat.zero_add, List.nil_append] at hown'; obtain ⟨A1, c1, rfl, -, -⟩ := ints_of_own_at hown')
    go_ret
    have zg := hg'.size
    simp at zg
    have hUw : Upd (fun _ => False) w w1 := hU1.grown hg' (fun k hk => by simp [Value.ownBlock, Act.eval] at hk; exact .inl (by omega))
    have hge := own_ge hown'
    refine ⟨_, w1.heap.size, 1, rfl, ⟨[(so, .slice A1 so.length c1)], rfl, by rw [Hv.out]; rfl, ?_⟩, B1.trans ((hUw.alloc _).toBelow (B := wS.heap.size) (fun _ e => e.elim) zS)⟩
    refine ⟨⟨rfl, .inr ⟨w1.heap.size, 1, #[.slice A1 so.length c1], rfl, by omega, heap_alloc_new w1 _, Nat.le_refl _, by simp [maxLen], rfl, rfl⟩⟩, fun x hx => ?_, fun x hx k hk e => ?_, List.pairwise_singleton _ _, fun k e => ?_, fun x hx k hk => ?_⟩
    · rw [List.mem_singleton.1 hx]
      exact own_sooner (hown'.alloc _) (Nat.zero_le _)
    · rw [List.mem_singleton.1 hx] at hk
      have := own_lt' hown' k hk
      simp [Value.ownBlock] at e
      omega
    · simp [Value.ownBlock] at e
      omega
    · rw [List.mem_singleton.1 hx] at hk
      exact Nat.le_trans zS (hge k hk)
  | k + 1, so, g, cg, w, hk, hO => by
    have ih := allOrders_any n hn4 k
    obtain ⟨P, hP⟩ : ∃ P, 2 ^ n = P := ⟨_, rfl⟩
    have hpe : powI (n : Int) = (P : Int) := by rw [← hP]; simp [powI]
    have hP16 : P ≤ 16 := by
      rw [← hP]
      exact Nat.pow_le_pow_right (n := 2) (j := 4) (by decide) hn4
    have HP := Lib.hid hP
    have Hpw := Lib.hid hpe
    clear hP hpe
    obtain ⟨i0, hi0, hz0, hz1, hz2⟩ := info_parts infoInt
    obtain ⟨i3, hi3, hz30, hz31, hz32⟩ := info_parts infoRow
    have Hcell := Lib.hid (own_cells hO).2
    have hgl := own_lt' hO g rfl
    have hso : so.length ≤ 3 := by omega
    have hne : ((so.length : Int) == (n : Int)) = false := by simp; omega
    have Hk := Lib.hid hk
    clear hk
    go_enter Try.func59, Try.ntmps59
    go_wp2_with fail
    have hown0 := own_new w 22
    have hU0 : Upd (fun _ => False) w (w.alloc (.cells #[] 22)) := (Upd.refl _ w).alloc _
    have hz0' : (w.alloc (.cells #[] 22)).heap.size = w.heap.size + 1 := by simp
    obtain ⟨W0, hW0⟩ : ∃ W0, w.alloc (.cells #[] 22) = W0 := ⟨_, rfl⟩
    rw [hW0] at hown0 hU0 hz0' ⊢
    clear hW0
    have hstart : LnRows (fun j => w.heap.size ≤ j) W0 (.slice (some ⟨w.heap.size, 0, none⟩) 0 0) [] := ⟨own_sooner hown0 (Nat.zero_le _), fun _ h => by simp at h, fun _ h => by simp at h, List.Pairwise.nil, fun k h => by simp [Value.ownBlock] at h; omega, fun _ h => by simp at h⟩
    clear hown0 hz0'
    go_loopw [5, 6] (fun out i wr => ∃ (a : Nat) (L : List Ln) (g' cc : Nat), a ≤ P ∧ i = .int .i64 a ∧ out = .slice (some ⟨g', 0, none⟩) L.length cc ∧ L.map Prod.fst = odX n k so a ∧ LnRows (fun j => w.heap.size ≤ j) wr out L ∧ Below w.heap.size w wr) (fun _ i _ => P - (intOf i).toNat)
    case atStart => exact ⟨0, [], w.heap.size, 0, by omega, rfl, rfl, rfl, hstart, hU0.toBelow (B := w.heap.size) (fun _ e => e.elim) (Nat.le_refl _)⟩
    case round =>
      obtain ⟨a, L, g', cc, ha, rfl, rfl, hL, hR, hB⟩ := hrel
      have zr := hB.size
      have hpwr := fun w9 => power_any (n : Int) w9 (by omega) (by omega)
      rw [Hpw.out] at hpwr
      by_cases hlt : a < P
      · have HR := Lib.hid hR
        have HL := Lib.hid hL
        clear hR hL
        cases hb : a.testBit so.length
        · have hbi : (bitI (a : Int) (so.length : Int) == 0) = true := by rw [bitI_false (by rw [bitI_nat]; exact hb)]; rfl
          have Hs := Lib.hid (odX_yes (n := n) (k := k) hb)
          clear hb
          have hLl := HR.out.lt
          have hgL := hLl.1 g' rfl
          have hLc : L.length ≤ 65536 := by
            have h1 := congrArg List.length HL.out
            rw [List.length_map] at h1
            have h2 := odX_le (k := k) so HP.out ha
            have h3 := odG_bd hn4 (k := k + 1) (by have := Hk.out; omega) so
            omega
          have hown := own_new wr 3
          have hU1 : Upd (fun _ => False) wr (wr.alloc (.cells #[] 3)) := (Upd.refl _ wr).alloc _
          have hcellr : ∀ j, j < so.length → wr.cell? ⟨g, j, none⟩ = some (.int .i64 (so[j]?.getD 0)) := fun j hj => (Below.toUpd hB).cell (Hcell.out j hj) (by simp only; omega)
          have hnews : ∀ j u, (so.map (Value.int .i64))[j]? = some u → (wr.alloc (.cells #[] 3)).cell? ((⟨g, 0, none⟩ : Addr).add j) = some u := news_at hcellr (hU1.mono (S := fun k => w.heap.size ≤ k) (fun _ _ e => e.elim)) (by omega) (fun j hj => addr_add3 ..) (fun j hj => by rw [Nat.zero_add]) (by omega)
          have Hnews := Lib.hid hnews
          clear hnews hcellr
          go_wp2_with (first
            | (go_at_call 69; refine (hpwr _).mono ?_; rintro e w' ⟨rfl, rfl⟩)
            | (go_at_call 70; refine (bit_any _ _ _ (by omega) (by omega) (by omega) (by omega)).mono ?_; rintro e w' ⟨rfl, rfl⟩)
            | (at_builtin; refine wpList_appendK _ rfl (.tmp 32) (.tmp 33) _ rfl wr.heap.size 3 i0 _ 8 Try.underlying22 hi0 hz0 hz1 hz2 rfl _ 0 [] rfl hown ⟨g, 0, none⟩ so.length cg _ rfl (by rw [List.length_map]) Hnews.out (fun u hu => by obtain ⟨z, _, rfl⟩ := List.mem_map.1 hu; rfl) (by simp [maxLen]; omega) (by omega) (by simp) ?_; intro v1 w1 hown1 hg1; rw [Nat.zero_add, List.nil_append] at hown1; obtain ⟨A1, c1, rfl, -, -⟩ := ints_of_own_at hown1)
            | (at_builtin; refine wpList_append1 _ rfl (.tmp 34) (.tmp 36) _ rfl wr.heap.size 3 i0 _ 8 Try.underlying22 hi0 hz0 hz1 hz2 rfl _ so.length _ rfl (hown1.alloc _) w1.heap.size 1 (.int .i64 (a : Int)) rfl (cell_new _ _ _) rfl (by omega) (by omega) (by have := hg1.size; simp at this; simp; omega) ?_; rintro v2 w2 hown2 hg2 hv2; obtain ⟨g2, cap2, rfl⟩ := ownsRow_succ hown2))
          have zg1 := hg1.size
          have zg2 := hg2.size
          simp at zg1 zg2
          have hU2 : Upd (fun _ => False) wr w1 := hU1.grown hg1 (fun k hk => by simp [Value.ownBlock, Act.eval] at hk; exact .inl (by omega))
          have hU3 : Upd (fun _ => False) wr w2 := (hU2.alloc _).grown hg2 (fun k hk => .inl (own_ge hown1 k hk))
          have hB2 := hB.trans (hU3.toBelow (B := w.heap.size) (fun _ e => e.elim) zr)
          have hxl : (so ++ [(a : Int)]).length = so.length + 1 := by simp
          have hrec := ih (so ++ [(a : Int)]) g2 cap2 w2 (by rw [hxl]; have := Hk.out; omega) (by rw [hxl, List.map_append]; exact own_sooner hown2 (Nat.zero_le _))
          rw [hxl] at hrec
          have hb3 := odG_bd hn4 (k := k) (by have := Hk.out; omega) (so ++ [(a : Int)])
          have Hb3 := Lib.hid hb3
          clear hb3 hxl hown hown1 hown2 hg1 hg2
          refine hrec.mono ?_
          rintro e w3 ⟨v3, g3, c3, rfl, ⟨L3, rfl, hL3, hR3⟩, hB3⟩
          clear hrec
          have hL3l : L3.length ≤ 65536 := by
            have h1 := congrArg List.length hL3
            rw [List.length_map] at h1
            have := Hb3.out
            omega
          have HL3 := Lib.hid hL3
          have HR3 := Lib.hid hR3
          have z3 := hB3.size
          have hU4 : Upd (fun k => wr.heap.size ≤ k) wr w3 := (hU3.mono (S := fun k => wr.heap.size ≤ k) fun _ _ e => e.elim).below hB3 (fun k h1 h2 => by omega)
          have HR2 := Lib.hid (HR.out.later hU4 (fun k e => e))
          have HB4 := Lib.hid (hB2.trans (hB3.mono (by omega)))
          have hn3 : ∀ j u, (L3.map Prod.snd)[j]? = some u → w3.cell? ((⟨g3, 0, none⟩ : Addr).add j) = some u := fun j u e => HR3.out.own.cells (g := g3) rfl j u e
          have h1c : ∀ u ∈ L3.map Prod.snd, u.oneCell' = true := fun u hu => by
            obtain ⟨x, hx, rfl⟩ := List.mem_map.1 hu
            obtain ⟨A4, c4, e4, _⟩ := lnHas_slice (HR3.out.has x hx)
            rw [e4]; rfl
          have Hn3 := Lib.hid hn3
          have H1c := Lib.hid h1c
          clear hn3 h1c hL3 hR3 hU4 hB2 hB3
          go_wp2_with (at_builtin; refine wpList_append_own_at _ rfl (.tmp 30) (.tmp 38) _ rfl 0 22 i3 _ 1 24 Try.underlying30 hi3 hz30 hz31 hz32 rfl (by omega) _ L.length _ rfl HR2.out.own ⟨g3, 0, none⟩ L3.length c3 (L3.map Prod.snd) rfl (by simp) Hn3.out H1c.out (by simp only [maxLen]; omega) (by omega) (by omega) ?_; intro v4 w4 hown4 hg4 hnil4 hat4)
          have Happ := Lib.hid (HR2.out.app (S' := fun j => w.heap.size ≤ j) (z := w2.heap.size) (fun k e => by have := hLl.1 k e; omega) (fun x hx k e => by have := hLl.2 x hx k e; omega) HR3.out hown4 hg4 hat4 (fun k e => e) (fun k e => by omega) z3)
          obtain ⟨g4, cap4, rfl⟩ : ∃ g cap, v4 = .slice (some ⟨g, 0, none⟩) (L.length + L3.length) cap := by
            rcases hown4.2 with ⟨e, _⟩ | ⟨g, cap, cur, e, _⟩
            · exact absurd (show Value.slice (some ⟨g', 0, none⟩) L.length cc = .slice none 0 0 from (hnil4.1 e).1) (fun h => by cases h)
            · exact ⟨g, cap, e⟩
          have HB5 := Lib.hid (((Upd.refl (fun k => w.heap.size ≤ k) w3).grown hg4 (fun k e => .inr (HR2.out.inS.1 k e))).toBelow (B := w.heap.size) (fun k e => e) (by omega))
          clear hown4 hg4 hnil4 hat4
          go_roundw
          case rel => exact ⟨a + 1, L ++ L3, g4, cap4, by omega, by go_num, by rw [List.length_append], by rw [List.map_append, HL.out, HL3.out, Hs.out], Happ.out, HB4.out.trans HB5.out⟩
          case measure => simp [intOf]; omega
        · have hbi : (bitI (a : Int) (so.length : Int) == 0) = false := by rw [bitI_true (by rw [bitI_nat]; exact hb)]; rfl
          have Hn := Lib.hid (odX_no (n := n) (k := k) hb)
          clear hb
          go_wp2_with (first
            | (go_at_call 69; refine (hpwr _).mono ?_; rintro e w' ⟨rfl, rfl⟩)
            | (go_at_call 70; refine (bit_any _ _ _ (by omega) (by omega) (by omega) (by omega)).mono ?_; rintro e w' ⟨rfl, rfl⟩))
          go_roundw
          case rel => exact ⟨a + 1, L, g', cc, by omega, by go_num, rfl, by rw [Hn.out]; exact HL.out, HR.out, hB⟩
          case measure => simp [intOf]; omega
      · obtain rfl : a = P := by omega
        have Hall := Lib.hid (show odX n k so a = odG n (k + 1) so by rw [← odX_all, HP.out])
        have HR := Lib.hid hR
        have HL := Lib.hid hL
        clear hR hL
        go_wp2_with (go_at_call 69; refine (hpwr _).mono ?_; rintro e w' ⟨rfl, rfl⟩)
        go_ret
        exact ⟨_, g', cc, rfl, ⟨L, rfl, by rw [← Hall.out]; exact HL.out, HR.out⟩, hB⟩
end Go.Proofs.Ytghogabmkbadjaa

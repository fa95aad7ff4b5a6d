/- The arguments of SpansOrder, drawn: rows. -/
import Derived.Test.YtdcdddmjffgibaaFew
import Derived.Test.YtdcdddmjffgibaaDrawS
import Derived.RangeFuncBox
namespace Go.Proofs.Ytdcdddmjffgibaa
open Go.RowKit Go.Shelf

/-- The first row replaced by a new one. -/
theorem Rowed.set0 {w : World} {B : Nat} {v : Value} {rs : List (List Int)} (h : Rowed w B v rs) (hn : 0 < rs.length) :
    ∃ g c u, v = .slice (some ⟨g, 0, none⟩) rs.length c ∧ B ≤ g ∧ g < w.heap.size ∧ w.cell? ⟨g, 0, none⟩ = some u ∧ w.frozen? ⟨g, 0, none⟩ = false ∧
      ∀ (w1 : World) (A' : Option Addr) (c' : Nat) (r : List Int), Upd (fun _ => False) w w1 → Row w1 w.heap.size w1.heap.size A' r.length r → IntsS (w1.setCell ⟨g, 0, none⟩ (.slice A' r.length c')) w1.heap.size (some ⟨g, 0, none⟩) (rs.set 0 r).length (rs.set 0 r) := by
  obtain ⟨A, c, rfl, hR⟩ := h.rows
  obtain ⟨g, vs, cs, rfl, h1, h2, h3, h4, h5⟩ := hR.2 hn
  have hvl := h5.len
  have hc0 : 0 < cs.size := by
    cases hv : vs[0]? with
    | none => rw [List.getElem?_eq_none_iff] at hv; omega
    | some u =>
      have := h4 0 u hv
      exact (Array.getElem?_eq_some_iff.1 this).1
  refine ⟨g, c, cs[0], rfl, h1, h2, ?_, frozen_of_row _ _ 0 _ _ h3, fun w1 A' c' r hU hr => ?_⟩
  · rw [cell_of_row w g 0 _ _ (0, 0) h3]
    simp [hc0]
  · have hg1 : w1.heap[g]? = some (.cells cs 24 (0, 0)) := (hU.block g h2 (fun e => e)).trans h3
    have hz := hU.size
    have h6 := (h5.upd hU (fun j e => e.elim)).grown hz (grownBy_setCell' w1 g (.slice A' r.length c')) (fun q e => by cases e; exact ⟨cs, hg1⟩)
    have hg2 : (w1.setCell ⟨g, 0, none⟩ (.slice A' r.length c')).heap[g]? = some (.cells (cs.setIfInBounds 0 (.slice A' r.length c')) 24 (0, 0)) := by
      simp [World.setCell, Array.getElem?_modify, hg1]
    have hU2 : Upd (fun k => k = g) w1 (w1.setCell ⟨g, 0, none⟩ (.slice A' r.length c')) := (Upd.refl (fun k => k = g) w1).setCell (p := ⟨g, 0, none⟩) (.inr rfl) _
    have hr2 := hr.upd hU2 (fun j e => by omega)
    refine ⟨rfl, fun _ => ⟨g, 0, rfl, by omega, fun j hj => ?_⟩⟩
    rw [List.length_set] at hj
    rw [Nat.zero_add, cell_of_row _ g j _ _ (0, 0) hg2]
    rcases Nat.eq_zero_or_pos j with rfl | hp
    · rw [List.getElem?_set_self hn, Option.getD_some]
      exact ⟨A', c', by rw [Array.getElem?_setIfInBounds_self_of_lt hc0], hr2.ints (Nat.le_refl _)⟩
    · rw [List.getElem?_set_ne (by omega)]
      obtain ⟨A2, c2, l, m, g1, g2, g3, g4, _⟩ := h6.at_ j hj
      exact ⟨A2, c2, by rw [Array.getElem?_setIfInBounds_ne (by omega)]; exact h4 j _ g1, g4.ints (by omega)⟩

theorem Rowed.few0 {w : World} {B n c : Nat} {A : Option Addr} {rs : List (List Int)} (h : Rowed w B (.slice A n c) rs) (hn : 0 < rs.length) (h7 : rs.length ≤ 7) (hall : ∀ r ∈ rs, r.length ≤ 2) :
    ∃ g u, A = some ⟨g, 0, none⟩ ∧ n = rs.length ∧ B ≤ g ∧ g < w.heap.size ∧ w.cell? ⟨g, 0, none⟩ = some u ∧ w.frozen? ⟨g, 0, none⟩ = false ∧
      ∀ (w1 : World) (A' : Option Addr) (c' : Nat) (r : List Int), Upd (fun _ => False) w w1 → Row w1 w.heap.size w1.heap.size A' r.length r → r.length ≤ 2 → Few (w1.setCell ⟨g, 0, none⟩ (.slice A' r.length c')) (.slice (some ⟨g, 0, none⟩) n c) (rs.set 0 r) := by
  obtain ⟨g, c0, u, hv, h1, h2, h3, h4, h5⟩ := h.set0 hn
  cases hv
  refine ⟨g, u, rfl, rfl, h1, h2, h3, h4, fun w1 A' c' r hU hr hr2 => ⟨_, _, by rw [List.length_set], (h5 w1 A' c' r hU hr).more (by simp [World.setCell]), by rw [List.length_set]; omega, fun r' hr' => ?_⟩⟩
  rcases List.mem_or_eq_of_mem_set hr' with hm | rfl
  · have := hall r' hm; omega
  · omega

set_option maxRecDepth 100000 in
set_option maxHeartbeats 4000000 in
theorem drawSpansOrder_any (A : Option Addr) (m c : Nat) (bs : List Int) (w : World) (h : Byts w w.heap.size A m bs) (hcap : m ≤ c) (hbig : m ≤ 1152921504606846976) :
    Calls Try.prog 34 #[.slice A m c] w fun e w' => ∃ v rs, e = .returned v ∧ Few w' v rs ∧ Below w.heap.size w w' := by
  obtain ⟨i0, hi0, hz0, hz1, hz2⟩ := infoRow_parts
  go_enter Try.func34, Try.ntmps34
  go_wp2_with fail
  refine (newReader_rd h hcap hbig).mono ?_
  rintro e w0 ⟨rfl, hR0, hB0, hz⟩
  generalize hRR : w.heap.size = R at *
  go_wp2_with fail
  have R1 := Rowed.new w0
  have R2 := R1.keep ((Upd.refl (fun _ => False) (w0.alloc (.cells #[] 24))).alloc (.cells #[Value.int .i64 4, .int .i64 5, .int .i64 6, .int .i64 3, .int .i64 2, .int .i64 1, .int .i64 0, .int .i64 7] 3)) (fun _ e => e.elim)
  have hu1 : Upd (fun _ => False) w0 ((w0.alloc (.cells #[] 24)).alloc (.cells #[Value.int .i64 4, .int .i64 5, .int .i64 6, .int .i64 3, .int .i64 2, .int .i64 1, .int .i64 0, .int .i64 7] 3)) := ((Upd.refl _ _).alloc _).alloc _
  have hL : Arr ((w0.alloc (.cells #[] 24)).alloc (.cells #[Value.int .i64 4, .int .i64 5, .int .i64 6, .int .i64 3, .int .i64 2, .int .i64 1, .int .i64 0, .int .i64 7] 3)) (w0.heap.size + 1) 3 [4, 5, 6, 3, 2, 1, 0, 7] := by
    have := heap_alloc_new (w0.alloc (.cells #[] 24)) (.cells #[Value.int .i64 4, .int .i64 5, .int .i64 6, .int .i64 3, .int .i64 2, .int .i64 1, .int .i64 0, .int .i64 7] 3)
    rw [World.size_alloc] at this
    exact this
  have hR1 := hR0.upd hu1 (fun _ e => e.elim)
  obtain ⟨W1, hW1⟩ : ∃ W1, (w0.alloc (.cells #[] 24)).alloc (.cells #[Value.int .i64 4, .int .i64 5, .int .i64 6, .int .i64 3, .int .i64 2, .int .i64 1, .int .i64 0, .int .i64 7] 3) = W1 := ⟨_, rfl⟩
  rw [hW1] at R2 hu1 hL hR1 ⊢
  clear hW1 R1
  refine (one_any R 0 _ 8 8 _ _ W1 hR1 (by omega) (hL.ints' (n := 8) hL.lt rfl) (fun b off e => by cases e; omega) (by omega) (by omega)).mono ?_
  rintro e w2 ⟨v0, rfl, hv0, hR2, hU2⟩
  have hv9 : 0 ≤ v0 ∧ v0 ≤ 7 := by simp at hv0; omega
  obtain ⟨K, rfl⟩ := Int.eq_ofNat_of_zero_le hv9.1
  have R3 := R2.keep hU2 (fun j e => by omega)
  have hu2 : Upd (fun k => k = R) w0 w2 := (hu1.mono fun _ _ e => e.elim).trans hU2
  clear hv0 hL R2 hU2 hR1 hu1
  go_wp2_with fail
  go_loopw [4, 5] (fun v i wr => ∃ (k p' : Nat) (rs : List (List Int)), k ≤ 7 ∧ i = .int .i64 k ∧ rs.length + k ≤ 7 ∧ (∀ r ∈ rs, r.length ≤ 2) ∧ p' ≤ 20 - 2 * k ∧ Rowed wr w0.heap.size v rs ∧ Rd wr R p' ∧ Upd (fun k => k = R) w0 wr) (fun _ i _ => (intOf i).toNat)
  case atStart => exact ⟨K, 1, [], by omega, rfl, by simp; omega, (fun r hr => by simp at hr), by omega, R3, hR2, hu2⟩
  case round =>
    clear R3 hR2 hu2
    obtain ⟨k, p', rs, hk, rfl, hlen, hall, hp', hRo, hRd, hU⟩ := hrel
    have zU := hU.size
    by_cases hlt : 0 < k
    · go_wp2_with fail
      refine (pick_any R p' 8 _ hRd (by omega)).mono ?_
      rintro e w3 ⟨a, rfl, ha, hRd3, hU3⟩
      have ha8 := ha.1 (by omega)
      go_wp2_with fail
      have hL : Arr (w3.alloc (.cells #[Value.int .i64 0, .int .i64 1, .int .i64 2, .int .i64 3, .int .i64 5] 3)) w3.heap.size 3 [0, 1, 2, 3, 5] := heap_alloc_new w3 _
      have hUa : Upd (fun _ => False) w3 (w3.alloc (.cells #[Value.int .i64 0, .int .i64 1, .int .i64 2, .int .i64 3, .int .i64 5] 3)) := (Upd.refl _ _).alloc _
      have hRda := hRd3.upd hUa (fun _ e => e.elim)
      obtain ⟨wa, hwa⟩ : ∃ wa, w3.alloc (.cells #[Value.int .i64 0, .int .i64 1, .int .i64 2, .int .i64 3, .int .i64 5] 3) = wa := ⟨_, rfl⟩
      rw [hwa] at hL hUa hRda ⊢
      clear hwa
      refine (one_any R (p' + 1) _ 5 5 _ _ wa hRda (by omega) (hL.ints' (n := 5) hL.lt rfl) (fun b off e => by cases e; have := hRd3.lt; omega) (by omega) (by omega)).mono ?_
      rintro e w4 ⟨b, rfl, hb, hRd4, hU4⟩
      have hb5 : 0 ≤ b ∧ b ≤ 5 := by simp at hb; omega
      have hU34 : Upd (fun k => k = R) _ w4 := (hU3.trans (hUa.mono fun _ _ e => e.elim)).trans hU4
      have hRo4 := hRo.keep hU34 (fun j e => by omega)
      have hUw := hU.trans hU34
      obtain ⟨vs, hown, hC, hb1⟩ := hRo4
      have Hall := Lib.hid hall
      clear hall hRo hU hU3 hU4 hU34 hRd hRd3 hRda hL hUa hb
      go_wp2_with (at_builtin; go_loud (refine wpList_append1 _ rfl (.tmp 19) (.tmp 27) _ rfl w0.heap.size 24 i0 _ 24 Try.underlying22 hi0 hz0 hz1 hz2 rfl _ rs.length _ rfl ((hown.alloc _).alloc _) (w4.heap.size + 1) 1 (.slice (some ⟨w4.heap.size, 0, none⟩) 2 2) rfl (draw_cell_new2 _ _ _ _) rfl (by omega) (by omega) (by simp; omega) ?_); rintro v' w' hown' hg' -)
      go_roundw
      case rel => exact ⟨k - 1, p' + 1 + 1, rs ++ [[a, a + b]], by omega, by go_num, by simp; omega, (fun r hr => by
        rcases List.mem_append.1 hr with hr | hr
        · exact Hall.out r hr
        · rw [List.mem_singleton.1 hr]; simp), by omega, Rowed.step hown rfl hC hb1 hown' hg', hRd4.upd ((((Upd.refl (fun k => w0.heap.size ≤ k) w4).alloc _).alloc _).grown hg' (fun k hk => .inr (own_base hown k hk))) (fun k hk => by omega), hUw.trans' ((((Upd.refl (fun k => w0.heap.size ≤ k) w4).alloc _).alloc _).grown hg' (fun k hk => .inr (own_base hown k hk))) (fun i hi e => by omega)⟩
      case measure => simp [intOf]; omega
    · obtain rfl : k = 0 := by omega
      have hB1 : Below R w _ := hB0.trans (hU.toBelow (B := R) (fun k e => by omega) (by omega))
      have Hall := Lib.hid hall
      clear hall
      by_cases hn0 : rs.length = 0
      · obtain ⟨A1, c1, hv1, -⟩ := hRo.rows
        have hfew := hRo.few (by omega) Hall.out
        rw [hn0] at hv1
        subst hv1
        go_wp2_with fail
        go_ret
        exact ⟨_, rs, rfl, hfew, by rw [hRR]; exact hB1⟩
      · obtain ⟨A1, c1, hv1, -⟩ := hRo.rows
        subst hv1
        have hn1 : 0 < rs.length := by omega
        clear hn0
        go_wp2_with fail
        refine (pick_any R p' 24 _ hRd (by omega)).mono ?_
        rintro e w3 ⟨x, rfl, hx, hRd3, hU3⟩
        have hRo3 := hRo.keep hU3 (fun j e => by omega)
        have hB3 := hB1.trans (hU3.toBelow (B := R) (fun k e => by omega) (by have := hRd.lt; omega))
        have hR3 := hRd3.lt
        have z3 := hU3.size
        have hw03 : w0.heap.size ≤ w3.heap.size := hRo3.choose_spec.2.2
        clear hRo hRd hU hB1 hU3
        by_cases x0 : x = 0
        · subst x0
          obtain ⟨g, u, rfl, -, hg1, hg2, hgc, hgf, hset⟩ := hRo3.few0 hn1 (by omega) Hall.out
          go_wp2_with fail
          have he : (w3.setCell ⟨g, 0, none⟩ (.slice (some ⟨w3.heap.size, 0, none⟩) 2 2)).alloc (.cells #[Value.int .i64 3, .int .i64 2] 3) = (w3.alloc (.cells #[Value.int .i64 3, .int .i64 2] 3)).setCell ⟨g, 0, none⟩ (.slice (some ⟨w3.heap.size, 0, none⟩) 2 2) := (World.setCell_alloc_past _ _ _ _ hg2).symm
          rw [he]
          go_ret
          exact ⟨_, _, rfl, hset _ _ 2 [3, 2] ((Upd.refl _ _).alloc _) (Row.of (heap_alloc_new w3 _ : Arr _ _ _ [3, 2]) rfl (Nat.le_refl _) (by simp)) (by simp), by rw [hRR]; exact hB3.trans ((((Upd.refl (fun k => R ≤ k) w3).alloc _).setCell (p := ⟨g, 0, none⟩) (.inr (by show R ≤ g; omega)) _).toBelow (fun k e => e) (by omega))⟩
        · by_cases x1 : x = 1
          · subst x1
            go_wp2_with fail
            have hL : Arr (w3.alloc (.cells #[Value.int .i64 (-1), .int .i64 0] 3)) w3.heap.size 3 [-1, 0] := heap_alloc_new w3 _
            have hUa : Upd (fun _ => False) w3 (w3.alloc (.cells #[Value.int .i64 (-1), .int .i64 0] 3)) := (Upd.refl _ _).alloc _
            have hRda := hRd3.upd hUa (fun _ e => e.elim)
            obtain ⟨wa, hwa⟩ : ∃ wa, w3.alloc (.cells #[Value.int .i64 (-1), .int .i64 0] 3) = wa := ⟨_, rfl⟩
            rw [hwa] at hL hUa hRda ⊢
            clear hwa
            refine (one_any R _ _ 2 2 _ _ wa hRda (by omega) (hL.ints' (n := 2) hL.lt rfl) (fun b off e => by cases e; omega) (by omega) (by omega)).mono ?_
            rintro e w4 ⟨a, rfl, ha, hRd4, hU4⟩
            have hU34 : Upd (fun k => k = R) w3 w4 := (hUa.mono fun _ _ e => e.elim).trans hU4
            have hRo4 := hRo3.keep hU34 (fun j e => by omega)
            have hB4 := hB3.trans (hU34.toBelow (B := R) (fun k e => by omega) (by omega))
            have z4 := hU34.size
            clear hL hUa hRda hU4 ha hRo3 hU34 hB3
            go_wp2_with fail
            have hL : Arr (w4.alloc (.cells #[Value.int .i64 1001, .int .i64 1] 3)) w4.heap.size 3 [1001, 1] := heap_alloc_new w4 _
            have hUa : Upd (fun _ => False) w4 (w4.alloc (.cells #[Value.int .i64 1001, .int .i64 1] 3)) := (Upd.refl _ _).alloc _
            have hRda := hRd4.upd hUa (fun _ e => e.elim)
            obtain ⟨wa, hwa⟩ : ∃ wa, w4.alloc (.cells #[Value.int .i64 1001, .int .i64 1] 3) = wa := ⟨_, rfl⟩
            rw [hwa] at hL hUa hRda ⊢
            clear hwa
            refine (one_any R _ _ 2 2 _ _ wa hRda (by omega) (hL.ints' (n := 2) hL.lt rfl) (fun b off e => by cases e; omega) (by omega) (by omega)).mono ?_
            rintro e w5 ⟨b, rfl, hb, hRd5, hU5⟩
            have hU45 : Upd (fun k => k = R) w4 w5 := (hUa.mono fun _ _ e => e.elim).trans hU5
            have hRo5 := hRo4.keep hU45 (fun j e => by omega)
            have hB5 := hB4.trans (hU45.toBelow (B := R) (fun k e => by omega) (by omega))
            have z5 := hU45.size
            clear hL hUa hRda hU5 hb hRo4 hU45 hB4
            obtain ⟨g, u, rfl, -, hg1, hg2, hgc, hgf, hset⟩ := hRo5.few0 hn1 (by omega) Hall.out
            go_wp2_with fail
            have he : (w5.setCell ⟨g, 0, none⟩ (.slice (some ⟨w5.heap.size, 0, none⟩) 2 2)).alloc (.cells #[Value.int .i64 a, .int .i64 b] 3) = (w5.alloc (.cells #[Value.int .i64 a, .int .i64 b] 3)).setCell ⟨g, 0, none⟩ (.slice (some ⟨w5.heap.size, 0, none⟩) 2 2) := (World.setCell_alloc_past _ _ _ _ hg2).symm
            rw [he]
            go_ret
            exact ⟨_, _, rfl, hset _ _ 2 [a, b] ((Upd.refl _ _).alloc _) (Row.of (heap_alloc_new w5 _ : Arr _ _ _ [a, b]) rfl (Nat.le_refl _) (by simp)) (by simp), by rw [hRR]; exact hB5.trans ((((Upd.refl (fun k => R ≤ k) w5).alloc _).setCell (p := ⟨g, 0, none⟩) (.inr (by show R ≤ g; omega)) _).toBelow (fun k e => e) (by omega))⟩
          · by_cases x2 : x = 2
            · subst x2
              obtain ⟨g, u, rfl, -, hg1, hg2, hgc, hgf, hset⟩ := hRo3.few0 hn1 (by omega) Hall.out
              go_wp2_with fail
              have he : (w3.setCell ⟨g, 0, none⟩ (.slice (some ⟨w3.heap.size, 0, none⟩) 1 1)).alloc (.cells #[Value.int .i64 1] 3) = (w3.alloc (.cells #[Value.int .i64 1] 3)).setCell ⟨g, 0, none⟩ (.slice (some ⟨w3.heap.size, 0, none⟩) 1 1) := (World.setCell_alloc_past _ _ _ _ hg2).symm
              rw [he]
              go_ret
              exact ⟨_, _, rfl, hset _ _ 1 [1] ((Upd.refl _ _).alloc _) (Row.of (heap_alloc_new w3 _ : Arr _ _ _ [1]) rfl (Nat.le_refl _) (by simp)) (by simp), by rw [hRR]; exact hB3.trans ((((Upd.refl (fun k => R ≤ k) w3).alloc _).setCell (p := ⟨g, 0, none⟩) (.inr (by show R ≤ g; omega)) _).toBelow (fun k e => e) (by omega))⟩
            · have hfew := hRo3.few (by omega) Hall.out
              go_wp2_with fail
              go_ret
              exact ⟨_, rs, rfl, hfew, by rw [hRR]; exact hB3⟩
end Go.Proofs.Ytdcdddmjffgibaa

/- Texts that several claims share, one behind the other. -/
import Derived.Test.YtbjaomhmocblbaaHb
import Derived.Test.YtbjaomhmocblbaaHa
import Derived.Deep.CutRange
import Derived.Deep.CutBlock
/- A list that is drawn, an order most often. -/
namespace Go.Proofs.Ytbjaomhmocblbaa
open Go.RowKit Go.Shelf

set_option maxRecDepth 100000 in
set_option maxHeartbeats 4000000 in
theorem someOrder_any (R p : Nat) (w : World) (h : Rd w R p) (hp : p ≤ 700000) :
    Calls Try.prog 38 #[.pointer (some ⟨R, 0, none⟩), .int .i64 6] w fun e w' => ∃ A n c zs q, e = .returned (.slice A n c) ∧ n ≤ 7 ∧ Row w' w.heap.size w'.heap.size A n zs ∧ q ≤ 110 ∧ Rd w' R (p + q) ∧ Upd (fun k => k = R) w w' := by
  have hRl := h.lt
  go_enter Try.func38, Try.ntmps38
  go_wp2_with fail
  refine (goodOrder_any R p w h (by omega)).mono ?_
  rintro e w1 ⟨A, n, c, zs, q, rfl, hn6, r1, hq, hR1, hU1⟩
  have z1 := hU1.size
  by_cases hn : 0 < n
  · obtain ⟨b, ys, rfl, hb0, hb1, hAr⟩ := r1.2 hn
    have hlen := Lib.hid r1.len
    clear r1
    go_wp2_with fail
    refine (pick_any R (p + q) n w1 hR1 (by omega)).mono ?_
    rintro e w2 ⟨k, rfl, hk, hR2, hU2⟩
    obtain ⟨k0, k1⟩ := hk.1 (by omega)
    obtain ⟨k, rfl⟩ := Int.eq_ofNat_of_zero_le k0
    have hA2 := hAr.upd hU2 (by omega)
    have z2 := hU2.size
    have hUw2 := hU1.trans hU2
    clear hk hR1 hAr hU2
    go_wp2_with fail
    refine (pick_any R (p + q + 1) 40 w2 hR2 (by omega)).mono ?_
    rintro e w3 ⟨x, rfl, -, hR3, hU3⟩
    have hA3 := hA2.upd hU3 (by omega)
    have z3 := hU3.size
    have hUw3 := hUw2.trans hU3
    clear hR2 hA2 hU3 hUw2
    have hkl : k < (zs ++ ys).length := by rw [List.length_append, hlen.out]; omega
    have hck := hA3.cell hkl
    have hfk := hA3.frozen k
    have hset : ∀ v : Int, (zs ++ ys).set k v = zs.set k v ++ ys := fun v => List.set_append_left _ _ (by rw [hlen.out]; omega)
    have hpk : ∀ w, Calls Try.prog 31 #[.int .i64 (k : Int)] w fun e w' => e = .returned (.int .i64 (powI k)) ∧ w = w' := fun w => power_any _ _ (by omega) (by omega)
    have hpn : ∀ w, Calls Try.prog 31 #[.int .i64 (n : Int)] w fun e w' => e = .returned (.int .i64 (powI n)) ∧ w = w' := fun w => power_any _ _ (by omega) (by omega)
    by_cases x0 : x = 0
    · subst x0
      obtain ⟨z, hz⟩ : ∃ z, (zs ++ ys)[k]?.getD 0 = z := ⟨_, rfl⟩
      rw [hz] at hck
      have hRd : Rd w3.drew R (p + q + 1 + 1) := hR3
      have hcel : ∀ w4, Upd (fun k => k = R) w3.drew w4 → w4.cell? ⟨b, k, none⟩ = some (.int .i64 z) ∧ w4.frozen? ⟨b, k, none⟩ = false := fun w4 hU4 =>
        ⟨hU4.cell (p := ⟨b, k, none⟩) hck (by simp; omega), (hA3.drew.upd hU4 (by omega)).frozen k⟩
      have hfin : ∀ w4 xv, Upd (fun k => k = R) w3.drew w4 → Rd w4 R (p + q + 1 + 1 + 1) →
          Row (w4.setCell ⟨b, k, none⟩ (.int .i64 xv)) w.heap.size (w4.setCell ⟨b, k, none⟩ (.int .i64 xv)).heap.size (some ⟨b, 0, none⟩) n (zs.set k xv) ∧
          Rd (w4.setCell ⟨b, k, none⟩ (.int .i64 xv)) R (p + (q + 3)) ∧ Upd (fun k => k = R) w (w4.setCell ⟨b, k, none⟩ (.int .i64 xv)) := fun w4 xv hU4 hR4 => by
        have hA4 := hA3.drew.upd hU4 (by omega)
        have z4 : w3.heap.size ≤ w4.heap.size := hU4.size
        have hU4' := hUw3.drew.trans hU4
        have hA6 := hA4.set k xv
        rw [hset] at hA6
        have hU6 : Upd (fun i => w.heap.size ≤ i ∧ i = b) w4 (w4.setCell ⟨b, k, none⟩ (.int .i64 xv)) := (Upd.refl (fun i => w.heap.size ≤ i ∧ i = b) w4).setCell (p := ⟨b, k, none⟩) (.inr ⟨hb0, rfl⟩) _
        refine ⟨⟨by simpa using hlen.out, fun _ => ⟨b, ys, rfl, hb0, by simp [World.setCell]; omega, hA6⟩⟩, ?_, hU4'.trans' hU6 (fun i hi e => by omega)⟩
        rw [show p + (q + 3) = p + q + 1 + 1 + 1 by omega]; exact hR4.upd hU6 (fun i hi => by omega)
      have hpick : Calls Try.prog 56 #[.pointer (some ⟨R, 0, none⟩), .int .i64 (n : Int)] w3.drew fun e w' => ∃ v, e = .returned (.int .i64 v) ∧ 0 ≤ v ∧ v < n ∧ Rd w' R (p + q + 1 + 1 + 1) ∧ Upd (fun k => k = R) w3.drew w' := by
        refine (pick_any R (p + q + 1 + 1) n _ hRd (by omega)).mono ?_
        rintro e w4 ⟨v, rfl, hv, hR4, hU4⟩
        exact ⟨v, rfl, (hv.1 (by omega)).1, (hv.1 (by omega)).2, hR4, hU4⟩
      have hq : q + 3 ≤ 110 := by omega
      have hn7 : n ≤ 7 := by omega
      clear hpk hpn hRd hset hR3 hA3 hUw3 hz hlen hkl hRl h hp hU1 z1 hb0 hb1 z2 z3
      go_wp2
      go_region_with (first
        | (go_at_call 56; refine hpick.mono ?_; rintro e w4 ⟨v, rfl, hv0, hv1, hR4, hU4⟩; obtain ⟨hck4, hfk4⟩ := hcel w4 hU4)
        | (go_at_call 31; refine (power_any _ _ (by omega) (by omega)).mono ?_; rintro e w' ⟨rfl, rfl⟩))
      all_goals
        obtain ⟨hf1, hf2, hf3⟩ := hfin w4 (bits .xor .i64 z (powI v)) hU4 hR4
        clear hfin hcel hpick hck hfk hck4 hfk4 hR4 hU4
        obtain ⟨W5, hW5⟩ : ∃ W5, w4.setCell ⟨b, k, none⟩ (.int .i64 (bits .xor .i64 z (powI v))) = W5 := ⟨_, rfl⟩
        rw [hW5] at hf1 hf2 hf3 ⊢
        obtain ⟨xv, hxv⟩ : ∃ xv, bits .xor .i64 z (powI v) = xv := ⟨_, rfl⟩
        rw [hxv] at hf1 ⊢
        clear hW5 hxv
        go_wp2
        go_ret
        exact ⟨_, n, c, _, q + 3, rfl, hn7, hf1, hq, hf2, hf3⟩
    · by_cases x1 : x = 1
      · subst x1
        go_wp2_with (first
          | (go_at_call 31; with_reducible refine (hpn _).mono ?_; rintro e w' ⟨rfl, rfl⟩)
          | (go_at_call 31; with_reducible refine (hpk _).mono ?_; rintro e w' ⟨rfl, rfl⟩))
        have hL : Arr (w3.alloc (.cells #[Value.int .i64 (-1), .int .i64 (powI n), .int .i64 (powI k)] 3)) w3.heap.size 3 [-1, powI n, powI k] := heap_alloc_new w3 _
        have hup : Upd (fun _ => False) w3 (w3.alloc (.cells #[Value.int .i64 (-1), .int .i64 (powI n), .int .i64 (powI k)] 3)) := (Upd.refl _ _).alloc _
        obtain ⟨W4, hW4⟩ : ∃ W4, w3.alloc (.cells #[Value.int .i64 (-1), .int .i64 (powI n), .int .i64 (powI k)] 3) = W4 := ⟨_, rfl⟩
        rw [hW4] at hL hup ⊢
        clear hW4
        have z4 := hup.size
        refine (one_any R (p + q + 1 + 1) _ 3 3 _ _ W4 (hR3.upd hup (fun _ e => e.elim)) (by omega) (hL.ints' (n := 3) hL.lt rfl) (fun b off e => by cases e; omega) (by omega) (by omega)).mono ?_
        rintro e w5 ⟨v, rfl, -, hR5, hU5⟩
        have hA5 := (hA3.upd hup (fun e => e)).upd hU5 (by omega)
        have z5 := hU5.size
        have hck5 := hA5.cell hkl
        have hfk5 := hA5.frozen k
        have hU5' := (hUw3.trans (hup.mono fun _ _ e => e.elim)).trans hU5
        go_wp2
        go_ret
        have hA6 := hA5.set k v
        rw [hset] at hA6
        have hU6 : Upd (fun i => w.heap.size ≤ i ∧ i = b) w5 (w5.setCell ⟨b, k, none⟩ (.int .i64 v)) := (Upd.refl (fun i => w.heap.size ≤ i ∧ i = b) w5).setCell (p := ⟨b, k, none⟩) (.inr ⟨hb0, rfl⟩) _
        exact ⟨_, n, c, zs.set k v, q + 3, rfl, by omega, ⟨by simpa using hlen.out, fun _ => ⟨b, ys, rfl, hb0, by simp [World.setCell]; omega, hA6⟩⟩, by omega, hR5.upd hU6 (fun i hi => by omega), hU5'.trans' hU6 (fun i hi e => by omega)⟩
      · by_cases x2 : x = 2
        · subst x2
          have hmk := run_make_row' (P := Try.prog) 22 3 (.int .i64 0) 8 Try.underlying22 infoInt rfl .i64 .i64 7 (by omega) (by omega)
          simp only [Int.cast_ofNat_Int] at hmk
          go_wp2
          go_ret
          exact ⟨_, 7, 7, List.replicate 7 0, q + 2, rfl, by omega, Row.of (Arr.new w3 3 7) (by simp) (by omega) (by simp), by omega, hR3.upd ((Upd.refl (fun _ => False) w3).alloc _) (fun _ e => e.elim), hUw3.alloc _⟩
        · go_wp2
          go_ret
          exact ⟨_, n, c, zs, q + 2, rfl, by omega, ⟨hlen.out, fun _ => ⟨b, ys, rfl, hb0, by omega, hA3⟩⟩, by omega, hR3, hUw3⟩
  · obtain rfl : n = 0 := by omega
    go_wp2
    go_ret
    exact ⟨A, 0, c, zs, q, rfl, by omega, r1, by omega, hR1, hU1⟩
end Go.Proofs.Ytbjaomhmocblbaa

/- Arguments that are drawn: a new reader, and what is drawn reads as numbers. -/
namespace Go.Proofs.Ytbjaomhmocblbaa
open Go.RowKit Go.Shelf

/-- A list that is drawn reads as numbers, few of them. -/
def Drawn (w : World) (e : Ending) (w' : World) : Prop := ∃ A n c zs, e = .returned (.slice A n c) ∧ n ≤ 7 ∧ Ints w' w'.heap.size A n zs ∧ Below w.heap.size w w'
theorem newReader_rd {A : Option Addr} {m c : Nat} {bs : List Int} {w : World} (h : Byts w w.heap.size A m bs) (hcap : m ≤ c) (hbig : m ≤ 1152921504606846976) :
    Calls Try.prog 37 #[.slice A m c] w fun e w' => e = .returned (.pointer (some ⟨w.heap.size, 0, none⟩)) ∧ Rd w' w.heap.size 0 ∧ Below w.heap.size w w' ∧ w.heap.size < w'.heap.size := by
  refine (newReader_any A m c bs w h hcap hbig).mono ?_
  rintro e w0 ⟨rfl, rfl⟩
  exact ⟨rfl, ⟨A, min m 2000, c, bs.take (min m 2000), by omega, heap_alloc_new w _, (h.take (by omega)).below (((Below.refl w.heap.size w).alloc (Nat.le_refl _)) _)⟩, (Below.refl w.heap.size w).alloc (Nat.le_refl _) _, by simp⟩
end Go.Proofs.Ytbjaomhmocblbaa

/- An order that is drawn, of at most so many items. -/
namespace Go.Proofs.Ytbjaomhmocblbaa
open Go.RowKit Go.Shelf

set_option maxRecDepth 100000 in
set_option maxHeartbeats 8000000 in
theorem goodOrderM_any (R p M : Nat) (hM7 : M ≤ 7) (w : World) (h : Rd w R p) (hp : p ≤ 800000) :
    Calls Try.prog 55 #[.pointer (some ⟨R, 0, none⟩), .int .i64 (M : Int)] w fun e w' => ∃ A n c zs q, e = .returned (.slice A n c) ∧ n ≤ 6 ∧ Row w' w.heap.size w'.heap.size A n zs ∧ q ≤ 100 ∧ Rd w' R (p + q) ∧ Upd (fun k => k = R) w w' := by
  have hRl := h.lt
  obtain ⟨i0, hi0, hz0, hz1, hz2⟩ := infoRow_parts
  obtain ⟨i1, hi1, hzi1, hsi1, hbi1⟩ := info_parts infoInt
  go_enter Try.func55, Try.ntmps55
  go_upto_region 1 with fail
  go_cut [5] from 13 to 17 (fun v wx => ∃ K : Nat, v = .int .i64 (K : Int) ∧ (K ≤ 6 ∧ K ≤ M) ∧ Rd wx R (p + 1) ∧ Upd (fun k => k = R) w wx)
  case first =>
    go_wp2_with fail
    have hu1 : Upd (fun k => k = R) w (w.alloc (.cells #[Value.int .i64 4, .int .i64 5, .int .i64 6, .int .i64 3, .int .i64 5, .int .i64 6, .int .i64 2, .int .i64 1, .int .i64 4, .int .i64 0] 3)) := (Upd.refl _ _).alloc _
    have hL : Arr (w.alloc (.cells #[Value.int .i64 4, .int .i64 5, .int .i64 6, .int .i64 3, .int .i64 5, .int .i64 6, .int .i64 2, .int .i64 1, .int .i64 4, .int .i64 0] 3)) w.heap.size 3 [4, 5, 6, 3, 5, 6, 2, 1, 4, 0] := heap_alloc_new w _
    have hR1 := h.upd ((Upd.refl (fun _ => False) w).alloc (.cells #[Value.int .i64 4, .int .i64 5, .int .i64 6, .int .i64 3, .int .i64 5, .int .i64 6, .int .i64 2, .int .i64 1, .int .i64 4, .int .i64 0] 3)) (fun _ e => e.elim)
    obtain ⟨W1, hW1⟩ : ∃ W1, w.alloc (.cells #[Value.int .i64 4, .int .i64 5, .int .i64 6, .int .i64 3, .int .i64 5, .int .i64 6, .int .i64 2, .int .i64 1, .int .i64 4, .int .i64 0] 3) = W1 := ⟨_, rfl⟩
    rw [hW1] at hu1 hL hR1 ⊢
    clear hW1
    refine (one_any R p _ 10 10 _ _ W1 hR1 (by omega) (hL.ints' (n := 10) hL.lt rfl) (fun b off e => by cases e; omega) (by omega) (by omega)).mono ?_
    rintro e w2 ⟨v0, rfl, hv0, hR2, hU2⟩
    have hv9 : 0 ≤ v0 ∧ v0 ≤ 6 := by simp at hv0; omega
    obtain ⟨K, rfl⟩ := Int.eq_ofNat_of_zero_le hv9.1
    have hu2 := hu1.trans hU2
    clear hv0 hL hU2 hR1 hu1
    have hK6 : K ≤ 6 := by omega
    have hRw2 : Upd (fun k => k = R) w w2 := hu2
    clear hu2 hv9
    go_wp2_with fail
    all_goals
      go_meet
      case rel => first | exact ⟨K, rfl, ⟨by omega, by omega⟩, hR2, hRw2⟩ | exact ⟨M, rfl, ⟨by omega, by omega⟩, hR2, hRw2⟩
  case rest =>
    obtain ⟨K, rfl, ⟨hK6, hKM⟩, hR2, hRw2⟩ := hcut
    rename World => w2
    go_wp2_with fail
    refine (somePairs_any R (p + 1) K w2 hR2 (by omega)).mono ?_
    rintro e w3 ⟨v3, rs3, q3, rfl, hRo3, ⟨hl3, hr3⟩, hq3, hR3, hU3⟩
    have hRw3 := hRw2.trans hU3
    have hz2' := hRw2.size
    have hz3' := hRw3.size
    clear hR2
    go_wp2_with fail
    refine (pick_any R (p + 1 + q3) 10 w3 hR3 (by omega)).mono ?_
    rintro e w4 ⟨x, rfl, hx, hR4, hU4⟩
    have hRw4 := hRw3.trans hU4
    have hz4' := hRw4.size
    have hRo4 := hRo3.keep hU4 (fun j e => by omega)
    have hF4 := hRo4.few (by omega) (fun r hr => by rw [hr3 r hr]; omega)
    clear hRo3 hRo4
    have hx9 := hx.1 (by omega)
    clear hx hR3
    go_upto_block 0 with fail
    go_cut [5, 6, 7] from 23 to 62 (fun v5 v6 v7 wx => ∃ (N q : Nat) (rs : List (List Int)), v5 = .int .i64 (N : Int) ∧ N ≤ 6 ∧ Few wx v6 rs ∧ Rd wx R (p + 1 + q3 + q) ∧ q ≤ 10 ∧ Upd (fun k => k = R) w wx)
    case first =>
      by_cases x0 : x = 0
      · subst x0
        go_wp2_with fail
        have hL := litRows w4 [(0, 3), (0, 4), (1, 3), (1, 5), (2, 4), (2, 5)]
        have hup := litW_upd w4 [(0, 3), (0, 4), (1, 3), (1, 5), (2, 4), (2, 5)]
        have hzL := hup.size
        go_meet
        case rel => exact ⟨6, 1, _, rfl, Nat.le_refl _, ⟨_, _, rfl, hL, by simp, by simp⟩, hR4.upd hup (fun _ e => e.elim), by omega, hRw4.trans (hup.mono fun _ _ e => e.elim)⟩
      by_cases x1 : x = 1
      · subst x1
        go_wp2_with fail
        have hL := litRows w4 [(0, 2), (1, 2), (1, 3)]
        have hup := litW_upd w4 [(0, 2), (1, 2), (1, 3)]
        have hzL := hup.size
        go_meet
        case rel => exact ⟨4, 1, _, rfl, by decide, ⟨_, _, rfl, hL, by simp, by simp⟩, hR4.upd hup (fun _ e => e.elim), by omega, hRw4.trans (hup.mono fun _ _ e => e.elim)⟩
      by_cases x2 : x = 2
      · subst x2
        go_wp2_with fail
        have R4 := Rowed.new w4
        go_loopw [6, 7] (fun v i wr => ∃ (i' : Nat) (rs : List (List Int)), i = .int .i64 i' ∧ (1 ≤ i' ∧ (i' ≤ K ∨ i' = 1)) ∧ rs.length + 1 = i' ∧ (∀ r ∈ rs, r.length = 2) ∧ Rowed wr w4.heap.size v rs ∧ Rd wr R (p + 1 + q3 + 1 + rs.length) ∧ Upd (fun k => k = R) w wr) (fun _ i _ => K + 1 - (intOf i).toNat)
        case atStart => exact ⟨1, [], rfl, ⟨by omega, .inr rfl⟩, rfl, (fun r hr => by simp at hr), R4, hR4.upd ((Upd.refl (fun _ => False) w4).alloc _) (fun _ e => e.elim), hRw4.alloc _⟩
        case round =>
          clear hR4 R4
          obtain ⟨i', rs, rfl, ⟨hia, hib⟩, hrl, hall, hRo, hRd, hU⟩ := hrel
          have zU := hU.size
          by_cases hlt : i' < K
          · go_wp2_with fail
            refine (pick_any R (p + 1 + q3 + 1 + rs.length) i' _ hRd (by omega)).mono ?_
            rintro e w5 ⟨a, rfl, -, hR5, hU5⟩
            have hRo5 := hRo.keep hU5 (fun j e => by omega)
            have hUw := hU.trans hU5
            have z5 := hU5.size
            obtain ⟨vs, hown, hC, hb1⟩ := hRo5
            clear hRo hRd hU hU5
            go_wp2_with (at_builtin; go_loud (refine wpList_append1 _ rfl (.tmp 46) (.tmp 52) _ rfl w4.heap.size 22 i0 _ 24 Try.underlying72 hi0 hz0 hz1 hz2 rfl _ rs.length _ rfl ((hown.alloc _).alloc _) (w5.heap.size + 1) 1 (.slice (some ⟨w5.heap.size, 0, none⟩) 2 2) rfl (draw_cell_new2 _ _ _ _) rfl (by omega) (by omega) (by simp; omega) ?_); rintro v' w' hown' hg' -)
            have hall' : ∀ r ∈ rs ++ [[a, (i' : Int)]], r.length = 2 := fun r hr => by
              rcases List.mem_append.1 hr with hr | hr
              · exact hall r hr
              · rw [List.mem_singleton.1 hr]; rfl
            have hUg : Upd (fun k => w4.heap.size ≤ k) w5 w' := (((Upd.refl (fun k => w4.heap.size ≤ k) w5).alloc _).alloc _).grown hg' (fun k hk => .inr (own_base hown k hk))
            have hR9 : Rd w' R (p + 1 + q3 + 1 + (rs ++ [[a, (i' : Int)]]).length) := by
              rw [List.length_append]; exact hR5.upd hUg (fun k hk => by omega)
            have hU9 : Upd (fun k => k = R) w w' := hUw.trans' hUg (fun i hi e => by omega)
            have hl9 : (rs ++ [[a, (i' : Int)]]).length + 1 = i' + 1 := by simp; omega
            go_roundw
            case rel => exact ⟨i' + 1, rs ++ [[a, (i' : Int)]], by go_num, ⟨by omega, .inl (by omega)⟩, hl9, hall', Rowed.step hown rfl hC hb1 hown' hg', hR9, hU9⟩
            case measure => simp [intOf]; omega
          · have hF := hRo.few (by omega) (fun r hr => by rw [hall r hr]; omega)
            go_wp2_with fail
            go_meet
            case rel => exact ⟨K, 1 + rs.length, rs, rfl, hK6, hF, by rw [← Nat.add_assoc]; exact hRd, by omega, hU⟩
      by_cases x3 : x = 3
      · subst x3
        go_wp2_with fail
        have hL := litRows w4 [(0, 1), (0, 2), (0, 3), (1, 4), (2, 4), (3, 4)]
        have hup := litW_upd w4 [(0, 1), (0, 2), (0, 3), (1, 4), (2, 4), (3, 4)]
        have hzL := hup.size
        go_meet
        case rel => exact ⟨5, 1, _, rfl, by decide, ⟨_, _, rfl, hL, by simp, by simp⟩, hR4.upd hup (fun _ e => e.elim), by omega, hRw4.trans (hup.mono fun _ _ e => e.elim)⟩
      go_wp2_with fail
      go_meet
      case rel => exact ⟨K, 1, rs3, rfl, hK6, hF4, hR4, by omega, hRw4⟩
    case rest =>
      obtain ⟨K, q, rs, rfl, hK6', hF, hRf, hq10, hUf⟩ := hcut
      rename World => wf
      have hzf := hUf.size
      go_upto_if 65 with fail
      go_cut [5, 6] from 63 to 69 (fun v5 v6 wx => ∃ (N q' : Nat) (rs : List (List Int)), v5 = .int .i64 (N : Int) ∧ N ≤ 6 ∧ Few wx v6 rs ∧ Rd wx R (p + 1 + q3 + q') ∧ q' ≤ 29 ∧ Upd (fun k => k = R) w wx)
      case first =>
        by_cases hgt : M < K
        · have hgb : decide ((M : Int) < (K : Int)) = true := decide_eq_true (by omega)
          go_wp2_with fail
          refine (somePairs_any R (p + 1 + q3 + q) M wf hRf (by omega)).mono ?_
          rintro e wg ⟨vg, rsg, qg, rfl, hRog, ⟨hlg, hrg⟩, hqg, hRg, hUg⟩
          have hFg := hRog.few (by omega) (fun r hr => by rw [hrg r hr]; omega)
          go_wp2_with fail
          go_meet
          case rel => exact ⟨M, q + qg, rsg, rfl, by omega, hFg, by rw [← Nat.add_assoc]; exact hRg, by omega, hUf.trans hUg⟩
        · have hgb : decide ((M : Int) < (K : Int)) = false := decide_eq_false (by omega)
          go_wp2_with fail
          go_meet
          case rel => exact ⟨K, q, rs, rfl, hK6', hF, hRf, by omega, hUf⟩
      case rest =>
        obtain ⟨K, q, rs3, rfl, hK6, hF4, hR4, hq29, hRw4⟩ := hcut
        rename World => w4
        have hz4' := hRw4.size
        obtain ⟨A3, c3, rfl, hI4, hl4, hr4⟩ := hF4
        go_wp2_with fail
        refine (specOrderOf_any K A3 _ c3 rs3 w4 hI4 hl4 hr4).mono ?_
        rintro e w5 ⟨A5, m5, c5, rfl, r5, hB5⟩
        have hRw5 := hRw4.below hB5 (fun k h1 h2 => by omega)
        have hR5 := hR4.below hB5 (by omega)
        have hr5 := r5.more (lo' := w.heap.size) hz4' (Nat.le_refl _)
        obtain ⟨hsm, hml, hm6⟩ := ordL_small K rs3
        rw [r5.len] at hml hm6
        generalize ordL (K : Int) rs3 = zs5 at *
        generalize hp5 : p + 1 + q3 + q = p5 at *
        have hp5' : p5 ≤ p + 60 := by omega
        obtain ⟨N, hN1', hN2'⟩ : ∃ N : Nat, N ≤ K ∧ K ≤ N := ⟨K, Nat.le_refl _, Nat.le_refl _⟩
        clear r5 hI4 hB5 hR4 hRw4 hr4 hl4
        go_wp2_with fail
        refine (pick_any R p5 3 w5 hR5 (by omega)).mono ?_
        rintro e w6 ⟨y, rfl, hy, hR6, hU6⟩
        have hRw6 := hRw5.trans hU6
        have hz6 := hRw6.size
        have hr6 := hr5.upd hU6 (fun j e => by omega)
        by_cases hyn : y = 0 ∧ 1 < N
        · obtain ⟨rfl, hN1⟩ := hyn
          try have hK1 : (1 : Int) < (K : Int) := by omega
          go_wp2_with fail
          go_loopw [10, 11] (fun v i wr => ∃ (k bt cp : Nat) (ts : List Int), k ≤ N ∧ i = .int .i64 k ∧ v = .slice (some ⟨bt, 0, none⟩) k cp ∧ (k ≤ cp ∧ cp ≤ maxLen) ∧ (bt < wr.heap.size ∧ w6.heap.size ≤ bt) ∧ ts.length = k ∧ (∀ x ∈ ts, (0 : Int) ≤ x ∧ x < k) ∧ (∀ j, j < k → wr.cell? ⟨bt, j, none⟩ = some (.int .i64 (ts[j]?.getD 0))) ∧ Rd wr R (p5 + 1 + k) ∧ Upd (fun k => k = R) w6 wr) (fun _ i _ => N - (intOf i).toNat)
          case atStart => exact ⟨0, w6.heap.size, 0, [], by omega, rfl, rfl, ⟨by omega, by simp [maxLen]⟩, ⟨by simp, by omega⟩, rfl, (fun x hx => by simp at hx), fun j hj => by omega, hR6.upd ((Upd.refl (fun _ => False) w6).alloc _) (fun _ e => e.elim), (Upd.refl _ _).alloc _⟩
          case round =>
            obtain ⟨k, bt, cp, ts, hk, rfl, rfl, ⟨hkc, hcm⟩, ⟨hbt, hbt6⟩, htl, htb, htc, hRd, hU⟩ := hrel
            have zU := hU.size
            by_cases hlt : k < N
            · go_wp2_with fail
              refine (pick_any R (p5 + 1 + k) (k + 1) _ hRd (by omega)).mono ?_
              rintro e w7 ⟨y, rfl, hy, hR7, hU7⟩
              have hy2 := hy.1 (by omega)
              obtain ⟨h, rfl⟩ := Int.eq_ofNat_of_zero_le hy2.1
              have hhk : h ≤ k := by omega
              have htc7 : ∀ j, j < k → w7.cell? ⟨bt, j, none⟩ = some (.int .i64 (ts[j]?.getD 0)) := fun j hj => hU7.cell (htc j hj) (by simp; omega)
              have hUw7 := hU.trans hU7
              have z7 := hU7.size
              clear hy hy2 htc hU hU7 hRd
              go_wp2_with fail
              obtain ⟨AD, hAD⟩ : ∃ AD, (if cp = h then some (⟨bt, 0, none⟩ : Addr) else some ⟨bt, h, none⟩) = some AD := by split <;> exact ⟨_, rfl⟩
              have hadd : ∀ j, j < (ts.drop h).length → AD.add j = ⟨bt, h + j, none⟩ := fun j hj => by
                have hne : ¬ cp = h := fun e => by simp at hj; omega
                rw [if_neg hne] at hAD
                cases hAD
                exact addr_add ..
              have hadd0 : ∀ j, j < (ts.take h).length → (⟨bt, 0, none⟩ : Addr).add j = ⟨bt, 0 + j, none⟩ := fun j hj => addr_add ..
              have htk : (ts.take h).length = h := by simp; omega
              have htd : (ts.drop h).length = k - h := by simp; omega
              have hgt : ∀ j, j < (ts.take h).length → (ts.take h)[j]?.getD 0 = ts[0 + j]?.getD 0 := fun j hj => by rw [Nat.zero_add, List.getElem?_take_of_lt (by omega)]
              have hgd : ∀ j, j < (ts.drop h).length → (ts.drop h)[j]?.getD 0 = ts[h + j]?.getD 0 := fun j hj => by rw [List.getElem?_drop]
              have hone : ∀ (zs : List Int), ∀ u ∈ zs.map (Value.int .i64), u.oneCell' = true := fun zs u hu => by
                obtain ⟨z, _, rfl⟩ := List.mem_map.1 hu; rfl
              have hbt7 : bt < w7.heap.size := by omega
              have hkN : k < 6 := by omega
              have hhc : h ≤ cp := by omega
              have hhc' : (h : Int) ≤ (cp : Int) := by omega
              have hhk' : (h : Int) ≤ (k : Int) := by omega
              go_region_law (first
                | (refine step_append_any _ rfl (.tmp 94) (.tmp 97) _ (by rfl) w7.heap.size 3 i1 _ 8 Try.underlying22 hi1 hzi1 hsi1 hbi1 rfl (.slice (some ⟨_, 0, none⟩) 0 0) 0 [] (by rfl) (by simp) (by first | exact own_new2 _ _ _ | exact own_sooner (own_new _ _) (by first | (simp; done) | (simp; omega)) | exact own_sooner ((own_new _ _).alloc _) (by first | (simp; done) | (simp; omega))) ⟨bt, 0, none⟩ h cp _ (by rfl) (by rw [List.length_map]; exact htk) (news_at htc7 (by repeat' (first | exact Upd.refl _ _ | assumption | refine Upd.alloc ?_ _ | refine Upd.drew ?_)) hbt7 hadd0 hgt (by omega)) (hone _) (by simp [maxLen]; omega) (by omega) (by first | (simp; done) | (simp; omega)) ?_; intro g1 cap1 x1 hown1 hgrow1 hg1 hl1 hc1 hm1; rw [Nat.zero_add] at hown1; have hU1 : Upd (fun k => w7.heap.size ≤ k) w7 x1 := Upd.grown (by repeat' (first | exact Upd.refl _ _ | assumption | refine Upd.alloc ?_ _ | refine Upd.drew ?_)) hgrow1 (fun q hq => by simp [Value.ownBlock] at hq; omega))
                | (refine step_append_any _ rfl (.tmp 98) (.tmp 100) _ (by rfl) w7.heap.size 3 i1 _ 8 Try.underlying22 hi1 hzi1 hsi1 hbi1 rfl (.slice (some ⟨g1, 0, none⟩) h cap1) h _ (by rfl) (by simp) (by first | exact hown1 | exact hown1.alloc _) ⟨_, 0, none⟩ 1 1 [.int .i64 (k : Int)] (by rfl) rfl (by first | exact news_one (cell_new _ _ _) | exact news_one ((hgrow1.cell_far _ (by first | (simp; done) | (simp; omega)) (by simp [Value.ownBlock])).trans (draw_cell_new2 _ _ _ _)) | exact news_one ((hgrow1.cell_far _ (by first | (simp; done) | (simp; omega)) (by simp [Value.ownBlock])).trans (cell_new _ _ _)) | exact news_one ((hgrow1.cell_far _ (by first | (simp; done) | (simp; omega)) (by simp [Value.ownBlock])).trans (cell_new_alloc _ _ _ _)) | exact news_one ((hgrow1.cell_far _ (by first | (simp; done) | (simp; omega)) (by simp [Value.ownBlock])).trans (cell_new _ _ _))) (by simp [Value.oneCell']) (by simp [maxLen]; omega) (by omega) (by have := hU1.size; simp; omega) ?_; intro g2 cap2 x2 hown2 hgrow2 hg2 hl2 hc2 hm2; have hU2 : Upd (fun k => w7.heap.size ≤ k) w7 x2 := Upd.grown (by repeat' (first | exact Upd.refl _ _ | assumption | refine Upd.alloc ?_ _ | refine Upd.drew ?_)) hgrow2 (fun q hq => by simp [Value.ownBlock] at hq; omega))
                | (refine step_append_any _ rfl (.tmp 101) (.tmp 104) _ (by rfl) w7.heap.size 3 i1 _ 8 Try.underlying22 hi1 hzi1 hsi1 hbi1 rfl (.slice (some ⟨g2, 0, none⟩) (h + 1) cap2) (h + 1) _ (by rfl) (by simp) hown2 AD (k - h) _ _ (by simp [Act.eval]; rfl) (by rw [List.length_map]; exact htd) (news_at htc7 hU2 hbt7 hadd hgd (by omega)) (hone _) (by simp [maxLen]; omega) (by omega) (by have := hU2.size; omega) ?_; intro g3 cap3 x3 hown3 hgrow3 hg3 hl3 hc3 hm3; have hU3 : Upd (fun k => w7.heap.size ≤ k) w7 x3 := Upd.grown hU2 hgrow3 (fun q hq => by simp [Value.ownBlock] at hq; omega)))
              all_goals
                have e3 : ([] ++ (ts.take h).map (Value.int .i64) ++ [Value.int .i64 (k : Int)]) ++ (ts.drop h).map (Value.int .i64) = (ts.take h ++ [(k : Int)] ++ ts.drop h).map (Value.int .i64) := by simp
                rw [e3] at hown3
                have hn3 : h + 1 + (k - h) = k + 1 := by omega
                rw [hn3] at hown3 hc3
                obtain ⟨hl3', hc3'⟩ := own_cells hown3
                simp only [hn3]
                have htb' : ∀ x ∈ ts.take h ++ [(k : Int)] ++ ts.drop h, (0 : Int) ≤ x ∧ x < ((k + 1 : Nat) : Int) := fun x hx => by
                  rcases List.mem_append.1 hx with hx | hx
                  · rcases List.mem_append.1 hx with hx | hx
                    · have := htb x (List.mem_of_mem_take hx); omega
                    · have := List.mem_singleton.1 hx; omega
                  · have := htb x (List.mem_of_mem_drop hx); omega
                have hR8 : Rd x3 R (p5 + 1 + (k + 1)) := hR7.upd hU3 (fun q hq => by omega)
                have hU8 : Upd (fun k => k = R) w6 x3 := hUw7.trans' hU3 (fun i hi e => by omega)
                go_wp2
                go_roundw
                case rel => exact ⟨k + 1, g3, cap3, ts.take h ++ [(k : Int)] ++ ts.drop h, by omega, by go_num, rfl, ⟨hc3, hm3⟩, ⟨hl3, by omega⟩, hl3', htb', hc3', hR8, hU8⟩
                case measure => simp [intOf]; omega
            · obtain rfl : k = N := by omega
              go_wp2_with fail
              refine (renumbered_any A5 (some ⟨bt, 0, none⟩) m5 c5 k cp zs5 ts wr ((hr6.upd hU (fun j e => by omega)).ints (by have := hU6.size; omega)) ⟨htl, fun _ => ⟨bt, 0, rfl, hbt, fun j hj => by rw [Nat.zero_add]; exact htc j hj⟩⟩ hm6 (by omega) hsm (fun j hj => by
                have hjl : j < ts.length := by omega
                have := htb ts[j] (List.getElem_mem hjl)
                rw [List.getElem?_eq_getElem hjl, Option.getD_some]
                omega)).mono ?_
              rintro e w8 ⟨os, rfl, hos, hArr, hB8⟩
              go_wp2
              go_ret
              exact ⟨_, m5, m5, os, p5 + 1 + k - p, rfl, by omega, Row.of hArr hos (by omega) hArr.lt, by omega, by rw [show p + (p5 + 1 + k - p) = p5 + 1 + k by omega]; exact hRd.below hB8 (by omega), (hRw6.trans hU).below hB8 (fun k h1 h2 => by omega)⟩
        · by_cases hy0 : y = 0
          · subst hy0
            have hN1 : ¬ 1 < N := fun e => hyn ⟨rfl, e⟩
            first
              | (exfalso; omega)
              | (go_wp2; go_ret; exact ⟨A5, m5, c5, zs5, p5 + 1 - p, rfl, by omega, hr6.more (Nat.le_refl _) hU6.size, by omega, by rw [show p + (p5 + 1 - p) = p5 + 1 by omega]; exact hR6, hRw6⟩)
          · go_wp2
            go_ret
            exact ⟨A5, m5, c5, zs5, p5 + 1 - p, rfl, by omega, hr6.more (Nat.le_refl _) hU6.size, by omega, by rw [show p + (p5 + 1 - p) = p5 + 1 by omega]; exact hR6, hRw6⟩
end Go.Proofs.Ytbjaomhmocblbaa

/- A list that is drawn, of at most so many items, an order most often. -/
namespace Go.Proofs.Ytbjaomhmocblbaa
open Go.RowKit Go.Shelf

set_option maxRecDepth 100000 in
set_option maxHeartbeats 4000000 in
theorem someOrderM_any (R p M : Nat) (hM7 : M ≤ 7) (w : World) (h : Rd w R p) (hp : p ≤ 700000) :
    Calls Try.prog 38 #[.pointer (some ⟨R, 0, none⟩), .int .i64 (M : Int)] w fun e w' => ∃ A n c zs q, e = .returned (.slice A n c) ∧ n ≤ 7 ∧ Row w' w.heap.size w'.heap.size A n zs ∧ q ≤ 110 ∧ Rd w' R (p + q) ∧ Upd (fun k => k = R) w w' := by
  have hRl := h.lt
  go_enter Try.func38, Try.ntmps38
  go_wp2_with fail
  refine (goodOrderM_any R p M hM7 w h (by omega)).mono ?_
  rintro e w1 ⟨A, n, c, zs, q, rfl, hn6, r1, hq, hR1, hU1⟩
  have z1 := hU1.size
  by_cases hn : 0 < n
  · obtain ⟨b, ys, rfl, hb0, hb1, hAr⟩ := r1.2 hn
    have hlen := Lib.hid r1.len
    clear r1
    go_wp2_with fail
    refine (pick_any R (p + q) n w1 hR1 (by omega)).mono ?_
    rintro e w2 ⟨k, rfl, hk, hR2, hU2⟩
    obtain ⟨k0, k1⟩ := hk.1 (by omega)
    obtain ⟨k, rfl⟩ := Int.eq_ofNat_of_zero_le k0
    have hA2 := hAr.upd hU2 (by omega)
    have z2 := hU2.size
    have hUw2 := hU1.trans hU2
    clear hk hR1 hAr hU2
    go_wp2_with fail
    refine (pick_any R (p + q + 1) 40 w2 hR2 (by omega)).mono ?_
    rintro e w3 ⟨x, rfl, -, hR3, hU3⟩
    have hA3 := hA2.upd hU3 (by omega)
    have z3 := hU3.size
    have hUw3 := hUw2.trans hU3
    clear hR2 hA2 hU3 hUw2
    have hkl : k < (zs ++ ys).length := by rw [List.length_append, hlen.out]; omega
    have hck := hA3.cell hkl
    have hfk := hA3.frozen k
    have hset : ∀ v : Int, (zs ++ ys).set k v = zs.set k v ++ ys := fun v => List.set_append_left _ _ (by rw [hlen.out]; omega)
    have hpk : ∀ w, Calls Try.prog 31 #[.int .i64 (k : Int)] w fun e w' => e = .returned (.int .i64 (powI k)) ∧ w = w' := fun w => power_any _ _ (by omega) (by omega)
    have hpn : ∀ w, Calls Try.prog 31 #[.int .i64 (n : Int)] w fun e w' => e = .returned (.int .i64 (powI n)) ∧ w = w' := fun w => power_any _ _ (by omega) (by omega)
    by_cases x0 : x = 0
    · subst x0
      obtain ⟨z, hz⟩ : ∃ z, (zs ++ ys)[k]?.getD 0 = z := ⟨_, rfl⟩
      rw [hz] at hck
      have hRd : Rd w3.drew R (p + q + 1 + 1) := hR3
      have hcel : ∀ w4, Upd (fun k => k = R) w3.drew w4 → w4.cell? ⟨b, k, none⟩ = some (.int .i64 z) ∧ w4.frozen? ⟨b, k, none⟩ = false := fun w4 hU4 =>
        ⟨hU4.cell (p := ⟨b, k, none⟩) hck (by simp; omega), (hA3.drew.upd hU4 (by omega)).frozen k⟩
      have hfin : ∀ w4 xv, Upd (fun k => k = R) w3.drew w4 → Rd w4 R (p + q + 1 + 1 + 1) →
          Row (w4.setCell ⟨b, k, none⟩ (.int .i64 xv)) w.heap.size (w4.setCell ⟨b, k, none⟩ (.int .i64 xv)).heap.size (some ⟨b, 0, none⟩) n (zs.set k xv) ∧
          Rd (w4.setCell ⟨b, k, none⟩ (.int .i64 xv)) R (p + (q + 3)) ∧ Upd (fun k => k = R) w (w4.setCell ⟨b, k, none⟩ (.int .i64 xv)) := fun w4 xv hU4 hR4 => by
        have hA4 := hA3.drew.upd hU4 (by omega)
        have z4 : w3.heap.size ≤ w4.heap.size := hU4.size
        have hU4' := hUw3.drew.trans hU4
        have hA6 := hA4.set k xv
        rw [hset] at hA6
        have hU6 : Upd (fun i => w.heap.size ≤ i ∧ i = b) w4 (w4.setCell ⟨b, k, none⟩ (.int .i64 xv)) := (Upd.refl (fun i => w.heap.size ≤ i ∧ i = b) w4).setCell (p := ⟨b, k, none⟩) (.inr ⟨hb0, rfl⟩) _
        refine ⟨⟨by simpa using hlen.out, fun _ => ⟨b, ys, rfl, hb0, by simp [World.setCell]; omega, hA6⟩⟩, ?_, hU4'.trans' hU6 (fun i hi e => by omega)⟩
        rw [show p + (q + 3) = p + q + 1 + 1 + 1 by omega]; exact hR4.upd hU6 (fun i hi => by omega)
      have hpick : Calls Try.prog 56 #[.pointer (some ⟨R, 0, none⟩), .int .i64 (n : Int)] w3.drew fun e w' => ∃ v, e = .returned (.int .i64 v) ∧ 0 ≤ v ∧ v < n ∧ Rd w' R (p + q + 1 + 1 + 1) ∧ Upd (fun k => k = R) w3.drew w' := by
        refine (pick_any R (p + q + 1 + 1) n _ hRd (by omega)).mono ?_
        rintro e w4 ⟨v, rfl, hv, hR4, hU4⟩
        exact ⟨v, rfl, (hv.1 (by omega)).1, (hv.1 (by omega)).2, hR4, hU4⟩
      have hq : q + 3 ≤ 110 := by omega
      have hn7 : n ≤ 7 := by omega
      clear hpk hpn hRd hset hR3 hA3 hUw3 hz hlen hkl hRl h hp hU1 z1 hb0 hb1 z2 z3
      go_wp2
      go_region_with (first
        | (go_at_call 56; refine hpick.mono ?_; rintro e w4 ⟨v, rfl, hv0, hv1, hR4, hU4⟩; obtain ⟨hck4, hfk4⟩ := hcel w4 hU4)
        | (go_at_call 31; refine (power_any _ _ (by omega) (by omega)).mono ?_; rintro e w' ⟨rfl, rfl⟩))
      all_goals
        obtain ⟨hf1, hf2, hf3⟩ := hfin w4 (bits .xor .i64 z (powI v)) hU4 hR4
        clear hfin hcel hpick hck hfk hck4 hfk4 hR4 hU4
        obtain ⟨W5, hW5⟩ : ∃ W5, w4.setCell ⟨b, k, none⟩ (.int .i64 (bits .xor .i64 z (powI v))) = W5 := ⟨_, rfl⟩
        rw [hW5] at hf1 hf2 hf3 ⊢
        obtain ⟨xv, hxv⟩ : ∃ xv, bits .xor .i64 z (powI v) = xv := ⟨_, rfl⟩
        rw [hxv] at hf1 ⊢
        clear hW5 hxv
        go_wp2
        go_ret
        exact ⟨_, n, c, _, q + 3, rfl, hn7, hf1, hq, hf2, hf3⟩
    · by_cases x1 : x = 1
      · subst x1
        go_wp2_with (first
          | (go_at_call 31; with_reducible refine (hpn _).mono ?_; rintro e w' ⟨rfl, rfl⟩)
          | (go_at_call 31; with_reducible refine (hpk _).mono ?_; rintro e w' ⟨rfl, rfl⟩))
        have hL : Arr (w3.alloc (.cells #[Value.int .i64 (-1), .int .i64 (powI n), .int .i64 (powI k)] 3)) w3.heap.size 3 [-1, powI n, powI k] := heap_alloc_new w3 _
        have hup : Upd (fun _ => False) w3 (w3.alloc (.cells #[Value.int .i64 (-1), .int .i64 (powI n), .int .i64 (powI k)] 3)) := (Upd.refl _ _).alloc _
        obtain ⟨W4, hW4⟩ : ∃ W4, w3.alloc (.cells #[Value.int .i64 (-1), .int .i64 (powI n), .int .i64 (powI k)] 3) = W4 := ⟨_, rfl⟩
        rw [hW4] at hL hup ⊢
        clear hW4
        have z4 := hup.size
        refine (one_any R (p + q + 1 + 1) _ 3 3 _ _ W4 (hR3.upd hup (fun _ e => e.elim)) (by omega) (hL.ints' (n := 3) hL.lt rfl) (fun b off e => by cases e; omega) (by omega) (by omega)).mono ?_
        rintro e w5 ⟨v, rfl, -, hR5, hU5⟩
        have hA5 := (hA3.upd hup (fun e => e)).upd hU5 (by omega)
        have z5 := hU5.size
        have hck5 := hA5.cell hkl
        have hfk5 := hA5.frozen k
        have hU5' := (hUw3.trans (hup.mono fun _ _ e => e.elim)).trans hU5
        go_wp2
        go_ret
        have hA6 := hA5.set k v
        rw [hset] at hA6
        have hU6 : Upd (fun i => w.heap.size ≤ i ∧ i = b) w5 (w5.setCell ⟨b, k, none⟩ (.int .i64 v)) := (Upd.refl (fun i => w.heap.size ≤ i ∧ i = b) w5).setCell (p := ⟨b, k, none⟩) (.inr ⟨hb0, rfl⟩) _
        exact ⟨_, n, c, zs.set k v, q + 3, rfl, by omega, ⟨by simpa using hlen.out, fun _ => ⟨b, ys, rfl, hb0, by simp [World.setCell]; omega, hA6⟩⟩, by omega, hR5.upd hU6 (fun i hi => by omega), hU5'.trans' hU6 (fun i hi e => by omega)⟩
      · by_cases x2 : x = 2
        · subst x2
          have hmk := run_make_row' (P := Try.prog) 22 3 (.int .i64 0) 8 Try.underlying22 infoInt rfl .i64 .i64 7 (by omega) (by omega)
          simp only [Int.cast_ofNat_Int] at hmk
          go_wp2
          go_ret
          exact ⟨_, 7, 7, List.replicate 7 0, q + 2, rfl, by omega, Row.of (Arr.new w3 3 7) (by simp) (by omega) (by simp), by omega, hR3.upd ((Upd.refl (fun _ => False) w3).alloc _) (fun _ e => e.elim), hUw3.alloc _⟩
        · go_wp2
          go_ret
          exact ⟨_, n, c, zs, q + 2, rfl, by omega, ⟨hlen.out, fun _ => ⟨b, ys, rfl, hb0, by omega, hA3⟩⟩, by omega, hR3, hUw3⟩
  · obtain rfl : n = 0 := by omega
    go_wp2
    go_ret
    exact ⟨A, 0, c, zs, q, rfl, by omega, r1, by omega, hR1, hU1⟩
end Go.Proofs.Ytbjaomhmocblbaa

/- The arguments of TimesOf, drawn. -/
namespace Go.Proofs.Ytbjaomhmocblbaa
open Go.RowKit Go.Shelf

/-- Two lists that are drawn read as numbers, few of them. -/
def Drawn2 (w : World) (e : Ending) (w' : World) : Prop := ∃ A n c zs A' n' c' ys, e = .returned (.tuple #[.slice A n c, .slice A' n' c']) ∧ n ≤ 7 ∧ n' ≤ 7 ∧ Ints w' w'.heap.size A n zs ∧ Ints w' w'.heap.size A' n' ys ∧ Below w.heap.size w w'
set_option maxRecDepth 100000 in
set_option maxHeartbeats 2000000 in
theorem drawTimesOf_any (A : Option Addr) (m c : Nat) (bs : List Int) (w : World) (h : Byts w w.heap.size A m bs) (hcap : m ≤ c) (hbig : m ≤ 1152921504606846976) :
    Calls Try.prog 20 #[.slice A m c] w (Drawn2 w) := by
  go_enter Try.func20, Try.ntmps20
  go_wp2_with fail
  refine (newReader_rd h hcap hbig).mono ?_
  rintro e w0 ⟨rfl, hR, hB, hz⟩
  obtain ⟨R, hRe⟩ : ∃ R, w.heap.size = R := ⟨_, rfl⟩
  rw [hRe] at hR hz hB ⊢
  go_wp2_with fail
  have hL : Arr (w0.alloc (.cells #[Value.int .i64 2, .int .i64 3, .int .i64 1, .int .i64 6] 3)) w0.heap.size 3 [2, 3, 1, 6] := heap_alloc_new w0 _
  have hUl : Upd (fun _ => False) w0 (w0.alloc (.cells #[Value.int .i64 2, .int .i64 3, .int .i64 1, .int .i64 6] 3)) := (Upd.refl _ _).alloc _
  obtain ⟨W1, hW1⟩ : ∃ W1, w0.alloc (.cells #[Value.int .i64 2, .int .i64 3, .int .i64 1, .int .i64 6] 3) = W1 := ⟨_, rfl⟩
  rw [hW1] at hL hUl ⊢
  clear hW1
  refine (one_any R 0 _ 4 4 _ _ W1 (hR.upd hUl (fun _ e => e.elim)) (by omega) (hL.ints' (n := 4) hL.lt rfl) (fun b off e => by cases e; omega) (by omega) (by omega)).mono ?_
  rintro e w2 ⟨v, rfl, hv, hR2, hU2⟩
  have hvb : 0 ≤ v ∧ v ≤ 7 := by simp at hv; omega
  obtain ⟨M1, rfl⟩ := Int.eq_ofNat_of_zero_le hvb.1
  have hB2 := hB.trans ((hUl.mono (S := fun k => k = R) (fun _ _ e => e.elim)).trans hU2 |>.toBelow (fun k e => by omega) (by omega))
  have zz2 : R < w2.heap.size := hR2.lt
  clear hL hUl hv hR hB
  go_wp2_with fail
  refine (someOrderM_any R _ M1 (by omega) w2 hR2 (by omega)).mono ?_
  rintro e w3 ⟨A3, n3, c3, zs, q3, rfl, hn3, r3, hq3, hR3, hU3⟩
  have z3 := hU3.size
  have hB3 := hB2.trans (hU3.toBelow (fun k e => by omega) (by omega))
  clear hB2 hR2 hU3 hU2
  go_wp2_with fail
  have hL : Arr (w3.alloc (.cells #[Value.int .i64 2, .int .i64 3, .int .i64 1, .int .i64 0] 3)) w3.heap.size 3 [2, 3, 1, 0] := heap_alloc_new w3 _
  have hUl : Upd (fun _ => False) w3 (w3.alloc (.cells #[Value.int .i64 2, .int .i64 3, .int .i64 1, .int .i64 0] 3)) := (Upd.refl _ _).alloc _
  obtain ⟨W4, hW4⟩ : ∃ W4, w3.alloc (.cells #[Value.int .i64 2, .int .i64 3, .int .i64 1, .int .i64 0] 3) = W4 := ⟨_, rfl⟩
  rw [hW4] at hL hUl ⊢
  clear hW4
  have hRl := hR3.lt
  refine (one_any R _ _ 4 4 _ _ W4 (hR3.upd hUl (fun _ e => e.elim)) (by omega) (hL.ints' (n := 4) hL.lt rfl) (fun b off e => by cases e; omega) (by omega) (by omega)).mono ?_
  rintro e w5 ⟨v, rfl, hv, hR5, hU5⟩
  have hvb2 : 0 ≤ v ∧ v ≤ 7 := by simp at hv; omega
  obtain ⟨M2, rfl⟩ := Int.eq_ofNat_of_zero_le hvb2.1
  have hU35 := (hUl.mono (S := fun k => k = R) (fun _ _ e => e.elim)).trans hU5
  have z5 := hU35.size
  have r5 := r3.upd hU35 (fun j e => by omega)
  have hB5 := hB3.trans (hU35.toBelow (fun k e => by omega) (by omega))
  clear hL hUl hv hB3 hR3 r3 hU5 hU35
  go_wp2_with fail
  refine (someOrderM_any R _ M2 (by omega) w5 hR5 (by omega)).mono ?_
  rintro e w6 ⟨A6, n6, c6, ys, q6, rfl, hn6, r6, hq6, hR6, hU6⟩
  have z6 := hU6.size
  have r7 := r5.upd hU6 (fun j e => by omega)
  go_wp2
  go_ret2
  exact ⟨A3, n3, c3, zs, A6, n6, c6, ys, rfl, hn3, hn6, r7.ints (by omega), r6.ints (Nat.le_refl _), by rw [hRe]; exact hB5.trans (hU6.toBelow (fun k e => by omega) (by omega))⟩
end Go.Proofs.Ytbjaomhmocblbaa

/- 'equalInts': whether two lists are equal. -/
namespace Go.Proofs.Ytbjaomhmocblbaa
open Go.RowKit

set_option maxHeartbeats 1000000 in
/-- Whether two lists are equal. -/
theorem equalInts_any (A A' : Option Addr) (n c n' c' B B' : Nat) (xs ys : List Int) (w : World) (hA : Ints w B A n xs) (hA' : Ints w B' A' n' ys) (hbig : n ≤ 1152921504606846976) (hbig' : n' ≤ 1152921504606846976) :
    Calls Try.prog 21 #[.slice A n c, .slice A' n' c'] w fun e w' => e = .returned (.bool (decide (xs = ys))) ∧ ∃ m, w' = w.drewN m := by
  have hlen := Lib.hid hA.len
  have hlen' := Lib.hid hA'.len
  by_cases hnn : n = n'
  · subst hnn
    go_enter Try.func21, Try.ntmps21
    go_wp2
    go_loopw [5] (fun i wr => ∃ k m : Nat, k ≤ n ∧ i = .int .i64 k ∧ (∀ a, a < k → xs[a]?.getD 0 = ys[a]?.getD 0) ∧ wr = w.drewN m) (fun i _ => n - (intOf i).toNat)
    case atStart => exact ⟨0, 0, by omega, rfl, fun a ha => by omega, rfl⟩
    case round =>
      obtain ⟨k, m, hk, rfl, hok, rfl⟩ := hrel
      have Hok := Lib.hid hok
      clear hok
      by_cases hlt : k < n
      · obtain ⟨b, off, rfl, _, hc⟩ := hA.at_ hlt
        obtain ⟨b', off', rfl, _, hc'⟩ := hA'.at_ hlt
        have hck := hc k hlt
        have hck' := hc' k hlt
        have Hc := Lib.hid hc
        have Hc' := Lib.hid hc'
        clear hc hc'
        cases hne : (xs[k]?.getD 0 != ys[k]?.getD 0)
        · have Heq := Lib.hid (show xs[k]?.getD 0 = ys[k]?.getD 0 by simpa [bne] using hne)
          go_wp2
          go_quiet (fail)
          go_wp2
          go_roundw
          case rel => exact ⟨k + 1, _, by omega, by go_num, all_snoc Hok.out Heq.out, rfl⟩
          case measure => simp [intOf]; omega
        · have Hne := Lib.hid (show decide (xs = ys) = false by
            simp only [decide_eq_false_iff_not]; rintro rfl; simp at hne)
          go_wp2
          go_quiet (fail)
          go_wp2
          go_ret
          exact ⟨ret_bool Hne.out.symm, by first | exact ⟨_, rfl⟩ | exact ⟨_, World.drewN_drewN ..⟩⟩
      · obtain rfl : k = n := by omega
        have Heq := Lib.hid (show decide (xs = ys) = true by
          simp only [decide_eq_true_eq]
          refine List.ext_getElem? fun i => ?_
          by_cases hi : i < xs.length
          · have h1 := Hok.out i (by rw [← hlen.out]; exact hi)
            have hi' : i < ys.length := by rw [hlen'.out, ← hlen.out]; exact hi
            rw [List.getElem?_eq_getElem hi, List.getElem?_eq_getElem hi'] at h1 ⊢
            simpa using h1
          · rw [List.getElem?_eq_none (by omega), List.getElem?_eq_none (by rw [hlen'.out, ← hlen.out]; omega)])
        go_wp2
        go_ret
        exact ⟨ret_bool Heq.out.symm, _, rfl⟩
  · have Hne := Lib.hid (show decide (xs = ys) = false by
      simp only [decide_eq_false_iff_not]; rintro rfl; exact hnn (hlen.out.symm.trans hlen'.out))
    have hnb : ((n : Int) != (n' : Int)) = true := by simp; omega
    go_enter Try.func21, Try.ntmps21
    go_wp2
    go_ret
    exact ⟨ret_bool Hne.out.symm, 0, rfl⟩
theorem equalSame_any (A A' : Option Addr) (n c n' c' B B' : Nat) (xs : List Int) (w : World) (hA : Ints w B A n xs) (hA' : Ints w B' A' n' xs) (hbig : n ≤ 1152921504606846976) (hbig' : n' ≤ 1152921504606846976) :
    Calls Try.prog 21 #[.slice A n c, .slice A' n' c'] w fun e w' => e = .returned (.bool true) ∧ Below w.heap.size w w' := by
  have h := below_quiet (equalInts_any A A' n c n' c' B B' xs xs w hA hA' hbig hbig')
  refine h.mono ?_
  rintro e w' ⟨rfl, hB⟩
  exact ⟨by simp, hB⟩
end Go.Proofs.Ytbjaomhmocblbaa

/- The longest chain and the widest set apart: words, and the model's helper. -/
namespace Go.Proofs.Ytbjaomhmocblbaa
open Go.RowKit

theorem maxL_snoc (f : Nat → Int) (l : List Nat) (a : Nat) : maxL f (l ++ [a]) = max (maxL f l) (f a + 1) := by simp [maxL]
theorem maxL_range (f : Nat → Int) (k : Nat) : maxL f (List.range (k + 1)) = max (maxL f (List.range k)) (f k + 1) := by rw [List.range_succ, maxL_snoc]
theorem hgts_get {zs : List Int} {n k : Nat} (hk : k < n) : ((List.range n).map (hgt zs))[k]?.getD 0 = hgt zs k := by simp [hk]

def longR (zs : List Int) : Int := if vo zs then longI zs else -1
def wideR (zs : List Int) : Int := if vo zs then grTo (apB zs) (setsN zs) else -1
end Go.Proofs.Ytbjaomhmocblbaa

/- LongestChain: the program's. -/
namespace Go.Proofs.Ytbjaomhmocblbaa
open Go.RowKit

theorem LongestChain_any (A : Option Addr) (n c : Nat) (zs : List Int) (w : World) (h : Ints w w.heap.size A n zs) (hbig : n ≤ 1152921504606846976) :
    Calls Try.prog 24 #[.slice A n c] w fun e w' => e = .returned (.int .i64 (longR zs)) ∧ Below w.heap.size w w' := by
  have hlen := Lib.hid h.len
  cases hv : vo zs
  · have Ht := Lib.hid (show longR zs = -1 by unfold longR; rw [hv]; rfl)
    have Hv := Lib.hid hv
    clear hv
    go_enter Try.func24, Try.ntmps24
    go_wp2_with fail
    refine (readOrder_any _ _ _ zs _ h hbig).mono ?_
    rintro e w' ⟨hB, (⟨hv, b, rfl, _, _⟩ | ⟨_, rfl⟩)⟩
    · rw [Hv.out] at hv; cases hv
    · go_wp2_with fail
      go_ret
      exact ⟨ret_int Ht.out.symm, hB⟩
  · have hvo : VoP zs := by simpa [vo] using hv
    have Hv := Lib.hid hv
    clear hv
    have hn6 : n ≤ 6 := by have := hvo.1; rw [hlen.out] at this; exact this
    have Ht := Lib.hid (show longR zs = grTo (chB zs) (2 ^ n) by unfold longR; rw [Hv.out]; have := gr_long hvo; unfold setsN at this; rw [hlen.out] at this; rw [this]; rfl)
    go_enter Try.func24, Try.ntmps24
    go_wp2_with fail
    refine (readOrder_any _ _ _ zs _ h hbig).mono ?_
    rintro e w' ⟨hB, (⟨_, b, rfl, hb, hAr⟩ | ⟨hv, _⟩)⟩
    · go_wp2_with (go_at_call 41; refine (greatestOf_any 42 enters_chain _ _ _ zs (chB zs) hn6 _ (hAr.ints' hAr.lt hlen.out) (tests_chain _ _ _ zs hvo)).mono ?_; rintro e w2 ⟨rfl, hB2⟩)
      go_ret
      exact ⟨ret_int Ht.out.symm, hB.trans (hB2.mono hB.size)⟩
    · rw [Hv.out] at hv; cases hv
end Go.Proofs.Ytbjaomhmocblbaa

/- Pairs of items of two orders: as both sides tell them. No program. -/
namespace Go.Proofs.Ytbjaomhmocblbaa
open Go.RowKit

/-- The pair k is above the pair i, or it. -/
def tmA (zs ys : List Int) (m i k : Nat) : Bool := bitB (orI (zs[i / m]?.getD 0) (powI ((i / m : Nat) : Int))) ((k / m : Nat) : Int) && bitB (orI (ys[i % m]?.getD 0) (powI ((i % m : Nat) : Int))) ((k % m : Nat) : Int)
def tmTo (zs ys : List Int) (m i : Nat) : Nat → Int
  | 0 => 0
  | k + 1 => if (i != k && tmA zs ys m i k) = true then orI (tmTo zs ys m i k) (powI (k : Int)) else tmTo zs ys m i k
theorem tmTo_bd (zs ys : List Int) (m i : Nat) : ∀ k : Nat, 0 ≤ tmTo zs ys m i k ∧ tmTo zs ys m i k < powI (k : Int)
  | 0 => ⟨Int.le_refl _, show (0 : Int) < powI ((0 : Nat) : Int) from powI_pos _⟩
  | k + 1 => by
    have ih := tmTo_bd zs ys m i k
    have h1 : powI (k : Int) < powI ((k + 1 : Nat) : Int) := powI_lt (Nat.lt_succ_self k)
    have hp := powI_pos (k : Int)
    unfold tmTo
    split
    · exact orI_bd ih.1 (by omega) (by omega) h1
    · omega
theorem tmTo_bit (zs ys : List Int) (m i j : Nat) : ∀ k : Nat, bitB (tmTo zs ys m i k) (j : Int) = (decide (j < k) && (i != j && tmA zs ys m i j))
  | 0 => by simp [tmTo, bitB_zero]
  | k + 1 => by
    have ih := tmTo_bit zs ys m i j k
    unfold tmTo
    by_cases hjk : j = k
    · subst hjk
      split
      · rename_i h; rw [bitB_or, bitB_pow, h]; simp
      · rename_i h
        rw [ih]
        have h' : (i != j && tmA zs ys m i j) = false := by simpa using h
        rw [h']; simp
    · have e1 : decide (j < k + 1) = decide (j < k) := by
        by_cases h : j < k
        · rw [decide_eq_true h, decide_eq_true (by omega)]
        · rw [decide_eq_false h, decide_eq_false (by omega)]
      rw [e1]
      split
      · rw [bitB_or, ih, bitB_pow, decide_eq_false (p := k = j) (fun e => hjk e.symm), Bool.or_false]
      · exact ih
def tmL (zs ys : List Int) : List Int := (List.range (zs.length * ys.length)).map fun i => tmTo zs ys ys.length i (zs.length * ys.length)
theorem tmL_len (zs ys : List Int) : (tmL zs ys).length = zs.length * ys.length := by simp [tmL]
theorem tmL_get (zs ys : List Int) {n m i : Nat} (hn : zs.length = n) (hm : ys.length = m) (hi : i < n * m) : (tmL zs ys)[i]?.getD 0 = tmTo zs ys m i (n * m) := by
  subst hn; subst hm
  unfold tmL
  rw [List.getElem?_map, List.getElem?_range hi]; rfl
theorem tmL_snoc (zs ys : List Int) {n m i : Nat} (hn : zs.length = n) (hm : ys.length = m) (hi : i < n * m) : (tmL zs ys).take (i + 1) = (tmL zs ys).take i ++ [tmTo zs ys m i (n * m)] := by
  rw [List.take_succ_eq_append_getElem (by rw [tmL_len, hn, hm]; exact hi)]
  have := tmL_get zs ys hn hm hi
  rw [List.getElem?_eq_getElem (by rw [tmL_len, hn, hm]; exact hi)] at this
  rw [← this]; rfl
def timesB (zs ys : List Int) : Bool := vo zs && (vo ys && decide (zs.length * ys.length ≤ 6))
def timesR (zs ys : List Int) : List Int := if timesB zs ys then tmL zs ys else []
theorem timesR_le (zs ys : List Int) : (timesR zs ys).length ≤ 1048576 := by
  unfold timesR
  split
  · rename_i h
    unfold timesB at h
    simp only [Bool.and_eq_true, decide_eq_true_eq] at h
    rw [tmL_len]; omega
  · simp
theorem timesB_parts {zs ys : List Int} (h : timesB zs ys = true) : VoP zs ∧ VoP ys ∧ zs.length * ys.length ≤ 6 := by
  unfold timesB at h
  simp only [Bool.and_eq_true, decide_eq_true_eq] at h
  exact ⟨by simpa [vo] using h.1, by simpa [vo] using h.2.1, h.2.2⟩
end Go.Proofs.Ytbjaomhmocblbaa

/- Pairs of items of two orders: as the program gathers them. No program. -/
namespace Go.Proofs.Ytbjaomhmocblbaa
open Go.RowKit

/-- What has been gathered for a pair when the items of a list are over. -/
def accP (m : Nat) (yq : Int) (pre : List Nat) : Int := pre.foldl (fun acc h => orI acc (yq * powI ((h * m : Nat) : Int))) 0
theorem accP_snoc (m : Nat) (yq : Int) (pre : List Nat) (h : Nat) : accP m yq (pre ++ [h]) = orI (accP m yq pre) (yq * powI ((h * m : Nat) : Int)) := by simp [accP]
theorem mulpow_bit {y : Int} (h0 : 0 ≤ y) (d k : Nat) : bitB (y * powI (d : Int)) (k : Int) = (decide (d ≤ k) && bitB y ((k - d : Nat) : Int)) := by
  obtain ⟨u, rfl⟩ := Int.eq_ofNat_of_zero_le h0
  have e : ((u : Int) * powI (d : Int)).toNat = u * 2 ^ d := by
    have : (u : Int) * powI (d : Int) = ((u * 2 ^ d : Nat) : Int) := by simp [powI]
    rw [this, Int.toNat_natCast]
  unfold bitB
  rw [e, Int.toNat_natCast, Int.toNat_natCast, Int.toNat_natCast, Nat.mul_comm, Nat.testBit_two_pow_mul]
theorem mulpow_bd {n m h : Nat} {yq : Int} (h0 : 0 ≤ yq) (h1 : yq < powI (m : Int)) (hh : h < n) : 0 ≤ yq * powI ((h * m : Nat) : Int) ∧ yq * powI ((h * m : Nat) : Int) < powI ((n * m : Nat) : Int) := by
  have hp := powI_pos ((h * m : Nat) : Int)
  refine ⟨Int.mul_nonneg h0 (by omega), ?_⟩
  have h2 : (yq + 1) * powI ((h * m : Nat) : Int) ≤ powI (m : Int) * powI ((h * m : Nat) : Int) := Int.mul_le_mul_of_nonneg_right (by omega) (by omega)
  have e : powI (m : Int) * powI ((h * m : Nat) : Int) = powI ((m + h * m : Nat) : Int) := by unfold powI; rw [Int.toNat_natCast, Int.toNat_natCast, Int.toNat_natCast, Int.pow_add]
  have h3 : powI ((m + h * m : Nat) : Int) ≤ powI ((n * m : Nat) : Int) := powI_le (by
    have : m + h * m = (h + 1) * m := by rw [Nat.add_mul, Nat.one_mul, Nat.add_comm]
    rw [this]
    exact_mod_cast Nat.mul_le_mul_right m hh)
  rw [e, Int.add_mul, Int.one_mul] at h2
  omega
theorem accP_bd {n m : Nat} {yq : Int} (h0 : 0 ≤ yq) (h1 : yq < powI (m : Int)) : ∀ pre : List Nat, (∀ h ∈ pre, h < n) → 0 ≤ accP m yq pre ∧ accP m yq pre < powI ((n * m : Nat) : Int) := fun pre => by
  have key : ∀ l : List Nat, (∀ h ∈ l.reverse, h < n) → 0 ≤ accP m yq l.reverse ∧ accP m yq l.reverse < powI ((n * m : Nat) : Int) := fun l => by
    induction l with
    | nil => intro _; exact ⟨Int.le_refl _, powI_pos _⟩
    | cons x l ih =>
      intro hl
      rw [List.reverse_cons] at hl ⊢
      have ih := ih fun h hh => hl h (by simp at hh ⊢; exact .inl hh)
      have hb := mulpow_bd (n := n) (h := x) h0 h1 (hl x (by simp))
      rw [accP_snoc]
      exact orI_bd ih.1 ih.2 hb.1 hb.2
  intro h
  have := key pre.reverse (by rw [List.reverse_reverse]; exact h)
  rwa [List.reverse_reverse] at this
theorem accP_bit {m : Nat} {yq : Int} (h0 : 0 ≤ yq) (k : Nat) : ∀ pre : List Nat, bitB (accP m yq pre) (k : Int) = pre.any fun h => decide (h * m ≤ k) && bitB yq ((k - h * m : Nat) : Int) := fun pre => by
  have key : ∀ l : List Nat, bitB (accP m yq l.reverse) (k : Int) = l.reverse.any fun h => decide (h * m ≤ k) && bitB yq ((k - h * m : Nat) : Int) := fun l => by
    induction l with
    | nil => simp [accP, bitB_zero]
    | cons x l ih => rw [List.reverse_cons, accP_snoc, bitB_or, ih, mulpow_bit h0, List.any_append]; simp
  have := key pre.reverse
  rwa [List.reverse_reverse] at this
theorem acc_done {zs ys : List Int} {n m a b : Nat} (_hn : zs.length = n) (_hm : ys.length = m) (_hnm : n * m ≤ 6) (hz : 0 ≤ orI (zs[a]?.getD 0) (powI (a : Int)) ∧ orI (zs[a]?.getD 0) (powI (a : Int)) < powI (n : Int)) (hz64 : orI (zs[a]?.getD 0) (powI (a : Int)) < 64)
    (hy : 0 ≤ orI (ys[b]?.getD 0) (powI (b : Int)) ∧ orI (ys[b]?.getD 0) (powI (b : Int)) < powI (m : Int)) (hbm : b < m) :
    lessI (accP m (orI (ys[b]?.getD 0) (powI (b : Int))) (itemsL (orI (zs[a]?.getD 0) (powI (a : Int))))) (powI ((a * m + b : Nat) : Int)) = tmTo zs ys m (a * m + b) (n * m) := by
  have hm0 : 0 < m := by omega
  have hd : (a * m + b) / m = a := by rw [Nat.mul_comm, Nat.mul_add_div hm0, Nat.div_eq_of_lt hbm, Nat.add_zero]
  have hr : (a * m + b) % m = b := by rw [Nat.mul_comm, Nat.mul_add_mod, Nat.mod_eq_of_lt hbm]
  have htb := tmTo_bd zs ys m (a * m + b) (n * m)
  refine bitB_ext (lessI_bd _ _).1 htb.1 fun k => ?_
  rw [bitB_less, bitB_pow, accP_bit hy.1, tmTo_bit]
  unfold tmA
  rw [hd, hr]
  have key : ((itemsL (orI (zs[a]?.getD 0) (powI (a : Int)))).any fun h => decide (h * m ≤ k) && bitB (orI (ys[b]?.getD 0) (powI (b : Int))) ((k - h * m : Nat) : Int)) =
      (bitB (orI (zs[a]?.getD 0) (powI (a : Int))) ((k / m : Nat) : Int) && bitB (orI (ys[b]?.getD 0) (powI (b : Int))) ((k % m : Nat) : Int)) := by
    rw [Bool.eq_iff_iff, List.any_eq_true, Bool.and_eq_true]
    constructor
    · rintro ⟨h, hh, h2⟩
      rw [Bool.and_eq_true, decide_eq_true_eq] at h2
      obtain ⟨r, rfl⟩ : ∃ r, k = h * m + r := ⟨k - h * m, by omega⟩
      have hb := bitB_lt hy.2 h2.2
      rw [Nat.add_sub_cancel_left] at hb h2
      have e1 : (h * m + r) / m = h := by rw [Nat.mul_comm, Nat.mul_add_div hm0, Nat.div_eq_of_lt hb, Nat.add_zero]
      have e2 : (h * m + r) % m = r := by rw [Nat.mul_comm, Nat.mul_add_mod, Nat.mod_eq_of_lt hb]
      rw [e1, e2]
      exact ⟨(mem_itemsL hz64).1 hh, h2.2⟩
    · rintro ⟨h1, h2⟩
      refine ⟨k / m, (mem_itemsL hz64).2 h1, ?_⟩
      rw [Bool.and_eq_true, decide_eq_true_eq]
      have e : k / m * m + k % m = k := by rw [Nat.mul_comm]; exact Nat.div_add_mod k m
      refine ⟨by omega, ?_⟩
      have : k - k / m * m = k % m := by omega
      rw [this]; exact h2
  rw [key]
  cases h1 : bitB (orI (zs[a]?.getD 0) (powI (a : Int))) ((k / m : Nat) : Int)
  · simp
  · have hkn : k / m < n := bitB_lt hz.2 h1
    have hk : k < n * m := (Nat.div_lt_iff_lt_mul hm0).1 hkn
    rw [decide_eq_true hk]
    cases bitB (orI (ys[b]?.getD 0) (powI (b : Int))) ((k % m : Nat) : Int) <;> simp
    by_cases e : a * m + b = k <;> simp [e]
end Go.Proofs.Ytbjaomhmocblbaa

/- Pairs of items of two orders: the program's. -/
namespace Go.Proofs.Ytbjaomhmocblbaa
open Go.RowKit Go.Shelf
attribute [local go_sem] Oper.semAt_some
attribute [local go_sem, local simp] wide_fn

theorem own_ne {w : World} {base n : Nat} {e : TypeId} {v : Value} {xs : List Value} (h : w.ownsRow base e 1 v n xs) {j : Nat} (hj : w.heap[j]? = some (.deferred (some []))) : some j ≠ v.ownBlock := by
  rcases h.2 with ⟨rfl, _⟩ | ⟨g, cap, cur, rfl, _, hc, _⟩
  · simp [Value.ownBlock]
  · intro e
    simp [Value.ownBlock] at e
    subst e
    rw [hc] at hj
    cases hj

set_option maxRecDepth 100000 in
set_option maxHeartbeats 8000000 in
theorem times_any (b n c : Nat) (zs : List Int) (b' m c' : Nat) (ys : List Int) (w : World) (hA : Arr w b 54 zs) (hA' : Arr w b' 54 ys) (hlen0 : zs.length = n) (hlen0' : ys.length = m) (hvo : VoP zs) (hvy : VoP ys) (hnm : n * m ≤ 6) :
    Calls Try.prog 32 #[.slice (some ⟨b, 0, none⟩) n c, .slice (some ⟨b', 0, none⟩) m c'] w fun e w' => ∃ v, e = .returned v ∧ OwnS (fun k => w.heap.size ≤ k) w' w.heap.size 54 v (tmL zs ys) ∧ Below w.heap.size w w' := by
  obtain ⟨i0, hi0, hz0, hz1, hz2⟩ := info_parts infoItems
  have hn6 : n ≤ 6 := by have := hvo.1; rw [hlen0] at this; exact this
  have hm6 : m ≤ 6 := by have := hvy.1; rw [hlen0'] at this; exact this
  have hlen := Lib.hid hlen0
  have hlen' := Lib.hid hlen0'
  have Htl := Lib.hid (tmL_len zs ys)
  rw [hlen0, hlen0'] at Htl
  have Hsn := Lib.hid (fun i hi => tmL_snoc zs ys hlen0 hlen0' (i := i) hi)
  have Hdone := Lib.hid (fun a bb => acc_done (a := a) (b := bb) hlen0 hlen0' hnm)
  have hbl := hA.lt
  have hbl' := hA'.lt
  clear hlen0 hlen0'
  refine (callsIn_wide (n := 9)).1 ?_
  refine callsIn_of_wp_marks Try.func32 rfl trivial ?_ rfl
  simp only [Try.ntmps32, List.size_toArray, List.length_cons, List.length_nil, Nat.reduceAdd, Nat.reduceSub, Array.replicate_succ, Array.replicate_zero, List.push_toArray, List.append_toArray, List.nil_append, List.cons_append]
  gi_wp2
  have bO := Boxed.new w 36 (.slice (some ⟨b', 0, none⟩) m c')
  have hu0 : Upd (fun _ => False) w (w.alloc (.cells #[Value.slice (some ⟨b', 0, none⟩) m c'] 36)) := (Upd.refl _ w).alloc _
  have hz00 : w.heap.size < (w.alloc (.cells #[Value.slice (some ⟨b', 0, none⟩) m c'] 36)).heap.size := by simp
  obtain ⟨W0, hW0⟩ : ∃ W0, w.alloc (.cells #[Value.slice (some ⟨b', 0, none⟩) m c'] 36) = W0 := ⟨_, rfl⟩
  rw [hW0] at bO hu0 hz00 ⊢
  clear hW0
  refine wpIn_loop (fun a' wr => ∃ (a : Nat) (bs : List Nat) (V v6 v7 v8 v9 v12 v13 v14 v15 v16 v17 v18 v19 v20 v21 v22 v23 v24 v25 v26 v27 v28 v29 v30 v31 v32 v33 v34 v35 v36 v37 v38 v39 v40 v41 v42 v43 v44 v45 v46 v47 v48 v49 : Value),
      (a ≤ n ∧ v12 = .int .i64 (a : Int) ∧ OwnS (fun k => w.heap.size < k) wr w.heap.size 54 V ((tmL zs ys).take (a * m)) ∧ Upd (fun _ => False) w wr ∧ Boxed wr w.heap.size 36 (.slice (some ⟨b', 0, none⟩) m c') ∧ Open bs wr ∧ (∀ j ∈ bs, w.heap.size < j)) ∧
      a' = { tmps := #[.slice (some ⟨b, 0, none⟩) n c, .slice (some ⟨b', 0, none⟩) m c', undef, .pointer (some ⟨w.heap.size, 0, none⟩), .slice none 0 0, V, v6, v7, v8, v9, .slice (some ⟨b, 0, none⟩) n c, .int .i64 (n : Int), v12, v13, v14, v15, v16, v17, v18, v19, v20, v21, v22, v23, v24, v25, v26, v27, v28, v29, v30, v31, v32, v33, v34, v35, v36, v37, v38, v39, v40, v41, v42, v43, v44, v45, v46, v47, v48, v49, undef], defers := marks bs })
    (fun a' _ => n - (intOf (a'.tmps.getD 12 undef)).toNat) ?_ ?_
  · exact ⟨0, [], _, _, _, _, _, _, _, _, _, _, _, _, _, _, _, _, _, _, _, _, _, _, _, _, _, _, _, _, _, _, _, _, _, _, _, _, _, _, _, _, _, _, _, ⟨by omega, rfl, by rw [Nat.zero_mul, List.take_zero]; exact OwnS.none _ _ _ _, hu0, bO, ⟨List.nodup_nil, fun _ e => by cases e⟩, fun _ e => by cases e⟩, rfl⟩
  · rintro a' wr ⟨a, bs, V, v6, v7, v8, v9, v12, v13, v14, v15, v16, v17, v18, v19, v20, v21, v22, v23, v24, v25, v26, v27, v28, v29, v30, v31, v32, v33, v34, v35, v36, v37, v38, v39, v40, v41, v42, v43, v44, v45, v46, v47, v48, v49, ⟨ha, rfl, hO, hU, hbr, hop, hbs⟩, rfl⟩
    clear bO hu0 hz00
    have hszr := hU.size
    by_cases hlt : a < n
    · have hco := hbr.cell
      gi_wp2
      refine wpIn_loop (fun a' wr => ∃ (bb : Nat) (bs : List Nat) (V v7 v8 v9 v17 v18 v19 v20 v21 v22 v23 v24 v25 v26 v27 v28 v29 v30 v31 v32 v33 v34 v35 v36 v37 v38 v39 v40 v41 v42 v43 v44 v45 v46 v47 v48 : Value),
          (bb ≤ m ∧ v17 = .int .i64 (bb : Int) ∧ OwnS (fun k => w.heap.size < k) wr w.heap.size 54 V ((tmL zs ys).take (a * m + bb)) ∧ Upd (fun _ => False) w wr ∧ Boxed wr w.heap.size 36 (.slice (some ⟨b', 0, none⟩) m c') ∧ Open bs wr ∧ (∀ j ∈ bs, w.heap.size < j)) ∧
          a' = { tmps := #[.slice (some ⟨b, 0, none⟩) n c, .slice (some ⟨b', 0, none⟩) m c', undef, .pointer (some ⟨w.heap.size, 0, none⟩), .slice none 0 0, V, .int .i64 (a : Int), v7, v8, v9, .slice (some ⟨b, 0, none⟩) n c, .int .i64 (n : Int), .int .i64 (a : Int), .bool true, .int .i64 (a : Int), .slice (some ⟨b', 0, none⟩) m c', .int .i64 (m : Int), v17, v18, v19, v20, v21, v22, v23, v24, v25, v26, v27, v28, v29, v30, v31, v32, v33, v34, v35, v36, v37, v38, v39, v40, v41, v42, v43, v44, v45, v46, v47, v48, v49, undef], defers := marks bs })
        (fun a' _ => m - (intOf (a'.tmps.getD 17 undef)).toNat) ?_ ?_
      · exact ⟨0, bs, _, _, _, _, _, _, _, _, _, _, _, _, _, _, _, _, _, _, _, _, _, _, _, _, _, _, _, _, _, _, _, _, _, _, _, _, ⟨by omega, rfl, hO, hU, hbr, hop, hbs⟩, rfl⟩
      · clear hO hU hbr hop hbs hszr hco
        rintro a' wr ⟨bb, bs, V, v7, v8, v9, v17, v18, v19, v20, v21, v22, v23, v24, v25, v26, v27, v28, v29, v30, v31, v32, v33, v34, v35, v36, v37, v38, v39, v40, v41, v42, v43, v44, v45, v46, v47, v48, ⟨hbb, rfl, hO, hU, hbr, hop, hbs⟩, rfl⟩
        have hszr := hU.size
        have hco := hbr.cell
        by_cases hltb : bb < m
        · obtain ⟨p, hp⟩ : ∃ p, a * m + bb = p := ⟨_, rfl⟩
          have hpn : p < n * m := by
            have h1 : (a + 1) * m ≤ n * m := Nat.mul_le_mul_right m hlt
            rw [Nat.add_mul, Nat.one_mul] at h1
            omega
          have hz := hvo.sets.2 a (by rw [hlen.out]; exact hlt)
          have hy := hvy.sets.2 bb (by rw [hlen'.out]; exact hltb)
          rw [hlen.out] at hz
          rw [hlen'.out] at hy
          have hpa := powI_lt (k := a) (n := n) hlt
          have hpb := powI_lt (k := bb) (n := m) hltb
          have hpa0 := powI_pos (a : Int)
          have hpb0 := powI_pos (bb : Int)
          have hpn6 := powI_le6 (n := (n : Int)) (by omega)
          have hpm6 := powI_le6 (n := (m : Int)) (by omega)
          have hpnm6 := powI_le6 (n := ((n * m : Nat) : Int)) (by omega)
          have hzq := orI_bd (n := (n : Int)) hz.1 hz.2 (Int.le_of_lt hpa0) hpa
          have hyq := orI_bd (n := (m : Int)) hy.1 hy.2 (Int.le_of_lt hpb0) hpb
          have Hfin := Lib.hid (Hdone.out a bb hzq (by omega) hyq hltb)
          rw [hp] at Hfin
          have Hsi := Lib.hid (Hsn.out p hpn)
          rw [hp] at hO
          have Hlp := Lib.hid (show ((tmL zs ys).take p).length = p by rw [List.length_take, Htl.out]; exact Nat.min_eq_left (Nat.le_of_lt hpn))
          have hck := (hA.upd hU (fun e => e)).cell (k := a) (by rw [hlen.out]; exact hlt)
          have hW1 := fun w => with_any (zs[a]?.getD 0) (a : Int) w hz.1 (by omega) (by omega) (by omega)
          have hW2 := fun w => with_any (ys[bb]?.getD 0) (bb : Int) w hy.1 (by omega) (by omega) (by omega)
          have hcy0 : Arr wr b' 54 ys := hA'.upd hU (fun e => e)
          have hcyc := hcy0.cell (k := bb) (by rw [hlen'.out]; exact hltb)
          generalize zs[a]?.getD 0 = z at *
          generalize ys[bb]?.getD 0 = y at *
          generalize orI z (powI (a : Int)) = zq at *
          generalize orI y (powI (bb : Int)) = yq at *
          have hbd := accP_bd (n := n) hyq.1 hyq.2
          have hmb := fun h (hh : h < n) => mulpow_bd (n := n) (m := m) (h := h) hyq.1 hyq.2 hh
          generalize powI ((n * m : Nat) : Int) = pnm at *
          obtain ⟨A0, c0, rfl, -⟩ := ints_of_own hO.2
          rw [Hlp.out] at hO ⊢
          have hown := own_lt' hO.2
          have hOb : OwnS (fun k => w.heap.size < k ∧ k < wr.heap.size) wr w.heap.size 54 (.slice A0 p c0) ((tmL zs ys).take p) := ⟨fun k hk => ⟨hO.1 k hk, hown k hk⟩, hO.2⟩
          clear hO hpa hpb hpa0 hpb0 hcy0
          have hu2 : Upd (fun _ => False) wr ((wr.alloc (.cells #[Value.int .i64 (bb : Int)] 3)).alloc (.cells #[Value.int .i64 0] 54)) := ((Upd.refl _ wr).alloc _).alloc _
          have hck2 := hu2.cell hck (fun e => e)
          clear hck
          gi_wp2_with (first
            | (gi_at_call 46; refine (callsIn_wide.2 (hW1 _)).mono ?_; rintro e w' ⟨rfl, rfl⟩)
            | (gi_at_call 47; refine (callsIn_wide.2 (each_any _ _)).mono ?_; rintro e w' ⟨rfl, rfl⟩))
          have bC := (((Boxed.new wr 3 (.int .i64 (bb : Int))).alloc (.cells #[Value.int .i64 0] 54)).alloc (.cells #[Value.int .i64 zq] 54))
          have b8 := (Boxed.new (wr.alloc (.cells #[Value.int .i64 (bb : Int)] 3)) 54 (.int .i64 0)).alloc (.cells #[Value.int .i64 zq] 54)
          have b9 := Boxed.new ((wr.alloc (.cells #[Value.int .i64 (bb : Int)] 3)).alloc (.cells #[Value.int .i64 0] 54)) 54 (.int .i64 zq)
          have huc : Upd (fun _ => False) wr (((wr.alloc (.cells #[Value.int .i64 (bb : Int)] 3)).alloc (.cells #[Value.int .i64 0] 54)).alloc (.cells #[Value.int .i64 zq] 54)) := (((Upd.refl _ wr).alloc _).alloc _).alloc _
          have hzc : (((wr.alloc (.cells #[Value.int .i64 (bb : Int)] 3)).alloc (.cells #[Value.int .i64 0] 54)).alloc (.cells #[Value.int .i64 zq] 54)).heap.size = wr.heap.size + 3 := by simp
          simp only [World.size_alloc] at bC b8 b9
          obtain ⟨Wc, hWc⟩ : ∃ Wc, (((wr.alloc (.cells #[Value.int .i64 (bb : Int)] 3)).alloc (.cells #[Value.int .i64 0] 54)).alloc (.cells #[Value.int .i64 zq] 54)) = Wc := ⟨_, rfl⟩
          rw [hWc] at bC b8 b9 huc hzc ⊢
          clear hWc hck2 hu2 hco
          have hbc := huc.boxed hbr (fun e => e)
          have hop' := hop.upd huc (fun _ _ e => e)
          have hbs' : ∀ j ∈ bs, j < wr.heap.size := fun j hj => (Array.getElem?_eq_some_iff.1 (hop.2 j hj)).1
          have hUc : Upd (fun _ => False) w Wc := hU.trans huc
          have hOc := hOb.keep huc (fun _ _ e => e)
          have hlw := hbr.lt
          have hcyW := huc.cell hcyc (fun e => e)
          have hblw := hUc.size
          clear hOb hop hcyc hbr huc hU
          refine range_out (n := 9) (gf := 58) (lb := #[.pointer (some ⟨wr.heap.size + 1 + 1, 0, none⟩)]) rfl (enters_of Try.func58 (by kernel_rfl) rfl) (encs := encI) (L := itemsL zq)
            (fun k => k = wr.heap.size + 1) (fun k e => by omega) (fun _ => rfl)
            (fun W1 l1 hu1 hl1 hl2 => each_iter zq hzq.1 (by omega) _ _ W1 (hu1.boxed b9 (fun e => e)) (fun e => by omega))
            (fun pre D W => Boxed W (wr.heap.size + 1) 54 (.int .i64 (accP m yq pre)) ∧ Upd (fun k => k = wr.heap.size + 1) Wc W)
            (fun _ _ _ _ => False)
            (fun _ D X Y hs hu => ⟨hu.boxed hs.1 (fun e => by omega), hs.2.trans' hu (fun i hi e => by omega)⟩)
            (fun _ _ _ _ _ hs _ => hs)
            ⟨b8, Upd.refl _ _⟩ ?owes ?done ?stop
          case owes =>
            rintro l1 pre x D1 W hl1 hl2 hDl hD1 - hpre K hK
            gi_wp2
            refine hK _ _ (Upd.refl _ _) ?_
            rintro Wb hWb - ⟨b81, hU1⟩
            clear hK
            obtain ⟨hx6, hxb⟩ := mem_itemsTo.1 (hpre.subset (by simp : x ∈ pre ++ [x]))
            have hxn := bitB_lt hzq.2 hxb
            have hba := hbd pre (fun h hh => bitB_lt hzq.2 (mem_itemsTo.1 (hpre.subset (by simp [hh]))).2)
            have hmx := hmb x hxn
            have Hn := Lib.hid (accP_snoc m yq pre x)
            obtain ⟨d, hd⟩ : ∃ d, x * m = d := ⟨_, rfl⟩
            have hmul : wrap64 ((x : Int) * (m : Int)) = (d : Int) := by
              have e : (x : Int) * (m : Int) = (d : Int) := by rw [← hd, Int.natCast_mul]
              have hd36 : d ≤ 36 := by rw [← hd]; exact Nat.le_trans (Nat.mul_le_mul (show x ≤ 6 by omega) hm6) (by decide)
              rw [e]; exact IntWalk.wrap64_in _ ⟨by omega, by omega⟩
            rw [hd] at hmx Hn
            have hd64 : d < 64 := by rw [← hd]; exact Nat.lt_of_le_of_lt (Nat.mul_le_mul (by omega : x ≤ 6) hm6) (by decide)
            clear hd
            have hshe : yq * 2 ^ d = yq * powI (d : Int) := by simp [powI]
            have hsh1 : IntKind.i64.wrap (yq * 2 ^ d) = yq * powI (d : Int) := by rw [IntKind.wrap_i64, hshe]; omega
            have hsh2 : wrap64 (yq * 2 ^ d) = yq * powI (d : Int) := by rw [hshe]; exact IntWalk.wrap64_in _ ⟨by omega, by omega⟩
            have hor : bits .or .i64 (accP m yq pre) (yq * powI (d : Int)) = orI (accP m yq pre) (yq * powI (d : Int)) := bits_or (by omega) (by omega) (by omega) (by omega)
            clear hshe
            have hc3 := (hU1.boxed hbc (by omega)).cell
            have hc7 := (hU1.boxed bC (by omega)).cell
            have hc8 := b81.cell
            have hf8 := b81.frozen
            have hcy := hU1.cell hcyW (fun e => by simp at e; omega)
            have hsb := hU1.size
            have hszb := hWb.size
            generalize yq * powI (d : Int) = q at *
            generalize accP m yq pre = acc at *
            gi_wp2
            refine region_tail_round 13 (by kernel_rfl) (by kernel_rfl) (by kernel_rfl) ?_
            simp only [List.take_succ_cons, List.take_zero, List.drop_succ_cons, List.drop_zero]
            repeat (gi_big_quiet_step ((first
              | (gi_at_call 46; exact quietIn_add (hW2 _))
              | (gi_at_call 46; exact quietIn_left (hW2 _)))))
            refine wpQuietIn_nil ?_
            intro _ hw'
            obtain ⟨nq, hw''⟩ := hw'
            subst hw''
            gi_wp2
            exact ⟨D1, ⟨by rw [Hn.out]; exact b81.set _, (hU1.drewN _).setCell (p := ⟨wr.heap.size + 1, 0, none⟩) (.inr rfl) _⟩, ((Upd.refl _ _).drewN _).setCell (p := ⟨wr.heap.size + 1, 0, none⟩) (.inr (.inl rfl)) _, fun k hk => .inl hk⟩
          case done =>
            rintro d D1 W hd ⟨b8L, hu2⟩ hD1 hKd
            have hop2 : Open bs W := hop'.upd hu2 (fun j hj e => by have := hbs' j hj; omega)
            have hop3 : Open (d :: bs) W := hop2.cons hKd (fun e => by have := hbs' d e; omega)
            have hu3 : Upd (fun _ => False) w W := hUc.trans' hu2 (fun i hi e => by omega)
            have hb3 := hu2.boxed hbc (by omega)
            have hbs3 : ∀ j ∈ d :: bs, w.heap.size < j := fun j hj => by
              rcases List.mem_cons.1 hj with rfl | hj
              · omega
              · exact hbs j hj
            have hO4 := hOc.keep hu2 (fun k hk e => by omega)
            have hc8 := b8L.cell
            have hacc := hbd (itemsL zq) (fun h hh => bitB_lt hzq.2 (mem_itemsTo.1 hh).2)
            have hzw := hu2.size
            have hwo := fun w => without_any (accP m yq (itemsL zq)) (p : Int) w (by omega) (by omega) (by omega) (by omega)
            rw [Hfin.out] at hwo
            generalize tmTo zs ys m p (n * m) = row at *
            generalize accP m yq (itemsL zq) = acc at *
            have hpm : decide ((p : Int) < (p : Int) + 1) = true := decide_eq_true (by omega)
            clear hop2 hu2 hop' hbs' hbc b8L hOc hUc b9 bC hcyW hzq hyq hbd hmb hz hy hpn6 hpm6 hpnm6 Hfin
            gi_wp2_with (first
              | (gi_at_call 48; refine (callsIn_wide.2 (hwo _)).mono ?_; rintro e w' ⟨rfl, rfl⟩)
              | (gi_at_builtin; refine wpListIn_append1 _ rfl (.tmp 41) (.tmp 46) _ rfl w.heap.size 54 i0 _ 8 Try.underlying36 hi0 hz0 hz1 hz2 rfl _ ((tmL zs ys).take p).length _ rfl (hO4.2.alloc _) W.heap.size 1 (.int .i64 row) rfl (cell_new _ _ _) rfl (by rw [Hlp.out]; omega) (by rw [Hlp.out]; omega) (by simp; omega) ?_; rintro v' w' hown' hg' hv'))
            have zg := hg'.size
            simp at zg
            have hopA : Open (d :: bs) (W.alloc (.cells #[Value.int .i64 row] 54)) := hop3.upd ((Upd.refl (fun _ => False) W).alloc _) (fun _ _ e => e)
            have hop4 : Open (d :: bs) w' := ⟨hopA.1, fun j hj => (hg'.block j ((Array.getElem?_eq_some_iff.1 (hopA.2 j hj)).1) (own_ne hO4.2 (hop3.2 j hj))).trans (hopA.2 j hj)⟩
            have hb4 : Boxed w' w.heap.size 36 (.slice (some ⟨b', 0, none⟩) m c') := (hb3.alloc _).kept hg' (fun e => by have := (hO4.1 _ e.symm).1; omega)
            have hu4 : Upd (fun _ => False) w w' := (hu3.alloc _).grown hg' (fun k hk => .inl (by have := (hO4.1 k hk).1; omega))
            have hO5 := hO4.step (S' := fun k => w.heap.size < k) hown' hv' (fun k hk => hk.1) (fun _ => by omega)
            rw [← Hsi.out] at hO5
            refine ⟨⟨bb + 1, d :: bs, _, _, _, _, _, _, _, _, _, _, _, _, _, _, _, _, _, _, _, _, _, _, _, _, _, _, _, _, _, _, _, _, _, _, _, _, ⟨by omega, by go_num, by rw [← Nat.add_assoc, hp]; exact hO5, hu4, hb4, hop4, hbs3⟩, rfl⟩, ?_⟩
            simp [intOf]; omega
          case stop =>
            rintro d D1 co pre W hd hpre h
            exact h.elim
        · obtain rfl : bb = m := by omega
          gi_wp2
          refine ⟨⟨a + 1, bs, _, _, _, _, _, _, _, _, _, _, _, _, _, _, _, _, _, _, _, _, _, _, _, _, _, _, _, _, _, _, _, _, _, _, _, _, _, _, _, _, _, _, _, ⟨by omega, by go_num, by rw [Nat.add_mul, Nat.one_mul]; exact hO, hU, hbr, hop, hbs⟩, rfl⟩, ?_⟩
          simp [intOf]; omega
    · obtain rfl : a = n := by omega
      gi_wp2
      have hOf := hO.2
      refine leaves_marks bs wr hop (fun W' hu' => ?_)
      have hO6 : OwnS (fun k => w.heap.size < k ∧ k ∉ bs) wr w.heap.size 54 V ((tmL zs ys).take (a * m)) := ⟨fun k hk => ⟨hO.1 k hk, fun e => own_ne hOf (hop.2 k e) hk.symm⟩, hOf⟩
      have hO7 := hO6.keep hu' (fun k hk e => hk.2 e)
      rw [List.take_of_length_le (by rw [Htl.out]; exact Nat.le_refl _)] at hO7
      have hu4 : Upd (fun _ => False) w W' := hU.trans' hu' (fun i hi e => by have := hbs i e; omega)
      exact ⟨V, by simp [results, Try.f32, go_sem], V, rfl, ⟨fun k hk => Nat.le_of_lt (hO7.1 k hk).1, hO7.2⟩, hu4.toBelow (fun _ e => e.elim) (Nat.le_refl _)⟩
end Go.Proofs.Ytbjaomhmocblbaa

/- TimesOf: the model's. -/
namespace Go.Proofs.Ytbjaomhmocblbaa
open Go.RowKit Go.Shelf
attribute [local go_sem] Oper.semAt_some
attribute [local go_sem, local simp] wide_fn

theorem timesB_no1 {zs ys : List Int} (h : vo zs = false) : timesB zs ys = false := by unfold timesB; rw [h]; rfl
theorem timesB_no2 {zs ys : List Int} (h : vo ys = false) : timesB zs ys = false := by unfold timesB; rw [h]; simp
theorem timesB_no3 {zs ys : List Int} {n m : Nat} (h1 : zs.length = n) (h2 : ys.length = m) (h : ¬ n * m ≤ 6) : timesB zs ys = false := by unfold timesB; rw [h1, h2, decide_eq_false h]; simp
theorem timesB_yes {zs ys : List Int} {n m : Nat} (h1 : zs.length = n) (h2 : ys.length = m) (hv : VoP zs) (hv' : VoP ys) (h : n * m ≤ 6) : timesB zs ys = true := by unfold timesB; rw [h1, h2, decide_eq_true h, vo_true hv, vo_true hv']; rfl
theorem timesR_no {zs ys : List Int} (h : timesB zs ys = false) : timesR zs ys = [] := by unfold timesR; rw [h]; rfl
theorem timesR_yes {zs ys : List Int} (h : timesB zs ys = true) : timesR zs ys = tmL zs ys := by unfold timesR; rw [h]; rfl
theorem and_one_bit {z : Int} {q : Nat} (h0 : 0 ≤ z) (h1 : z < 4611686018427387904) : bits .and .i64 (z / 2 ^ q) 1 = bitI z (q : Int) := by
  have := shr_and_one (s := z) (j := (q : Int)) h0 h1
  simpa using this
theorem tm_step_yes {zs ys : List Int} {m i k : Nat} (hne : i ≠ k) (h : tmA zs ys m i k = true) : tmTo zs ys m i (k + 1) = orI (tmTo zs ys m i k) (powI (k : Int)) := by
  rw [tmTo, if_pos (by rw [h]; simpa using hne)]
theorem tm_step_no {zs ys : List Int} {m i k : Nat} (h : i = k ∨ tmA zs ys m i k = false) : tmTo zs ys m i (k + 1) = tmTo zs ys m i k := by
  rw [tmTo, if_neg (by rcases h with h | h <;> simp [h])]

set_option maxRecDepth 100000 in
set_option maxHeartbeats 8000000 in
theorem specTimesOfF_any (A : Option Addr) (n c : Nat) (zs : List Int) (A' : Option Addr) (n' c' : Nat) (ys : List Int) (w : World) (h : Ints w w.heap.size A n zs) (h' : Ints w w.heap.size A' n' ys) (hbig : n ≤ 1152921504606846976) (hbig' : n' ≤ 1152921504606846976) :
    Calls Try.prog 16 #[.slice A n c, .slice A' n' c'] w (GivesAtV w (timesR zs ys) (timesB zs ys)) := by
  obtain ⟨i0, hi0, hz0, hz1, hz2⟩ := info_parts infoInt
  have hlen := Lib.hid h.len
  have hlen' := Lib.hid h'.len
  have H1 := Lib.hid fun w1 => validOrder_any A n c w.heap.size zs w1
  have H2 := Lib.hid fun w1 => validOrder_any A' n' c' w.heap.size ys w1
  cases hv : vo zs
  · have Hb := Lib.hid (timesB_no1 (ys := ys) hv)
    have Ht := Lib.hid (timesR_no Hb.out)
    go_enter Try.func16, Try.ntmps16
    go_wp2_with fail
    refine (H1.out _ h hbig).mono ?_
    rw [hv]
    rintro e w1 ⟨rfl, m, hm⟩
    have hB : Below w.heap.size w w1 := by rw [hm]; exact below_drewN (Below.refl _ _) _
    clear hm
    go_wp2_with fail
    go_ret2
    exact ⟨none, 0, 0, by rw [Hb.out]; rfl, by rw [Ht.out]; exact RowV.nil _ _ _ _, hB⟩
  · have hvo : VoP zs := by simpa [vo] using hv
    cases hv' : vo ys
    · have Hb := Lib.hid (timesB_no2 (zs := zs) hv')
      have Ht := Lib.hid (timesR_no Hb.out)
      go_enter Try.func16, Try.ntmps16
      go_wp2_with fail
      refine (H1.out _ h hbig).mono ?_
      rw [hv]
      rintro e w1 ⟨rfl, m, hm⟩
      have hB1 : Below w.heap.size w w1 := by rw [hm]; exact below_drewN (Below.refl _ _) _
      have hx1 := h.below hB1
      have hy1 := h'.below hB1
      clear hm
      go_wp2_with fail
      refine (H2.out _ hy1 hbig').mono ?_
      rw [hv']
      rintro e w2 ⟨rfl, m2, hm2⟩
      have hB2 : Below w.heap.size w1 w2 := by rw [hm2]; exact below_drewN (Below.refl _ _) _
      have hB := hB1.trans hB2
      have zz := hB.size
      have hx := (hx1.below hB2).more zz
      have hy2 := (hy1.below hB2).more zz
      clear hm2 hB1 hB2 hx1 hy1
      go_wp2_with fail
      go_ret2
      exact ⟨none, 0, 0, by rw [Hb.out]; rfl, by rw [Ht.out]; exact RowV.nil _ _ _ _, hB⟩
    · have hvy : VoP ys := by simpa [vo] using hv'
      have h6 : n ≤ 6 := by have := hvo.1; rw [hlen.out] at this; exact this
      have h6' : n' ≤ 6 := by have := hvy.1; rw [hlen'.out] at this; exact this
      obtain ⟨N, hN⟩ : ∃ N, n * n' = N := ⟨_, rfl⟩
      have hN36 : N ≤ 36 := by rw [← hN]; exact Nat.mul_le_mul h6 h6'
      have hwe : (n : Int) * (n' : Int) = (N : Int) := by rw [← hN, Int.natCast_mul]
      have hwr : wrap64 ((n : Int) * (n' : Int)) = (N : Int) := by rw [hwe]; exact IntWalk.wrap64_in _ ⟨by omega, by omega⟩
      clear hwe
      by_cases hnm : N ≤ 6
      · have Hb := Lib.hid (timesB_yes hlen.out hlen'.out hvo hvy (by rw [hN]; exact hnm))
        have Ht := Lib.hid (timesR_yes Hb.out)
        have HN := Lib.hid hN
        have Htl := Lib.hid (tmL_len zs ys)
        rw [hlen.out, hlen'.out, hN] at Htl
        have Hsn := Lib.hid (fun i (hi : i < N) => tmL_snoc zs ys hlen.out hlen'.out (i := i) (by rw [hN]; exact hi))
        rw [hN] at Hsn
        have hgt : decide (6 < (N : Int)) = false := decide_eq_false (by omega)
        clear hN
        go_enter Try.func16, Try.ntmps16
        go_wp2_with fail
        refine (H1.out _ h hbig).mono ?_
        rw [hv]
        rintro e w1 ⟨rfl, m, hm⟩
        have hB1 : Below w.heap.size w w1 := by rw [hm]; exact below_drewN (Below.refl _ _) _
        have hx1 := h.below hB1
        have hy1 := h'.below hB1
        clear hm
        go_wp2_with fail
        refine (H2.out _ hy1 hbig').mono ?_
        rw [hv']
        rintro e w2 ⟨rfl, m2, hm2⟩
        have hB2 : Below w.heap.size w1 w2 := by rw [hm2]; exact below_drewN (Below.refl _ _) _
        have hB := hB1.trans hB2
        have zz := hB.size
        have hx := (hx1.below hB2).more zz
        have hy2 := (hy1.below hB2).more zz
        clear hm2 hB1 hB2 hx1 hy1
        go_wp2_with fail
        have h1 := own_new w2 3
        have hU1 : Upd (fun _ => False) w2 (w2.alloc (.cells #[] 3)) := (Upd.refl _ w2).alloc _
        have hz1' : w2.heap.size < (w2.alloc (.cells #[] 3)).heap.size := by simp
        obtain ⟨W1, hW1⟩ : ∃ W1, w2.alloc (.cells #[] 3) = W1 := ⟨_, rfl⟩
        rw [hW1] at h1 hU1 hz1' ⊢
        clear hW1
        try simp only [hwr]
        go_loopw [6, 8] (fun v i wr => ∃ k : Nat, k ≤ N ∧ i = .int .i64 k ∧ OwnS (fun j => w2.heap.size ≤ j) wr w2.heap.size 3 v ((tmL zs ys).take k) ∧ Below w2.heap.size w2 wr) (fun _ i _ => N - (intOf i).toNat)
        case atStart => exact ⟨0, by omega, rfl, ⟨fun j hj => by simp [Value.ownBlock] at hj; omega, by simpa using h1⟩, hU1.toBelow (fun _ e => e.elim) (Nat.le_refl _)⟩
        case round =>
          clear hU1 h1
          obtain ⟨i, hi, rfl, hO, hBr⟩ := hrel
          rename World => w3
          have z3 := hBr.size
          by_cases hlt : i < N
          · have hm0 : 0 < n' := by
              rcases Nat.eq_zero_or_pos n' with e | e
              · have := HN.out; rw [e, Nat.mul_zero] at this; omega
              · exact e
            have hqi : i / n' < n := by rw [Nat.div_lt_iff_lt_mul hm0, HN.out]; exact hlt
            have hri : i % n' < n' := Nat.mod_lt _ hm0
            have hq1 : ((i : Int)).tdiv (n' : Int) = ((i / n' : Nat) : Int) := rfl
            have hr1 : ((i : Int)).tmod (n' : Int) = ((i % n' : Nat) : Int) := rfl
            have hz := hvo.bd (i / n') (by rw [hlen.out]; exact hqi)
            have hy := hvy.bd (i % n') (by rw [hlen'.out]; exact hri)
            have Hsi := Lib.hid (Hsn.out i hlt)
            obtain ⟨ba, oa, rfl, hba, hca⟩ := (hx.below hBr).at_ hqi
            obtain ⟨bb, ob, rfl, hbb, hcb⟩ := (hy2.below hBr).at_ hri
            have hcz := hca _ hqi
            have hcy := hcb _ hri
            have Htm := Lib.hid (fun k => (show tmA zs ys n' i k = (bitB (orI (zs[i / n']?.getD 0) (powI ((i / n' : Nat) : Int))) ((k / n' : Nat) : Int) && bitB (orI (ys[i % n']?.getD 0) (powI ((i % n' : Nat) : Int))) ((k % n' : Nat) : Int)) from rfl))
            clear hca hcb
            generalize zs[i / n']?.getD 0 = z at *
            generalize ys[i % n']?.getD 0 = y at *
            have hqi6 : i / n' < 6 := by omega
            have hri6 : i % n' < 6 := by omega
            generalize i / n' = qi at *
            generalize i % n' = ri at *
            have hpq := powI_pos (qi : Int)
            have hpr := powI_pos (ri : Int)
            have hpq2 : powI (qi : Int) < 64 := by have := powI_lt (k := qi) (n := 6) hqi6; have := powI_le6 (n := (6 : Nat)) (by omega); omega
            have hpr2 : powI (ri : Int) < 64 := by have := powI_lt (k := ri) (n := 6) hri6; have := powI_le6 (n := (6 : Nat)) (by omega); omega
            have hoz : bits .or .i64 z (powI (qi : Int)) = orI z (powI (qi : Int)) := bits_or (by omega) (by omega) (by omega) (by omega)
            have hoy : bits .or .i64 y (powI (ri : Int)) = orI y (powI (ri : Int)) := bits_or (by omega) (by omega) (by omega) (by omega)
            have hzb := orI_bd (n := 6) hz.1 (by show z < 64; omega) (Int.le_of_lt hpq) (by show _ < (64 : Int); omega)
            have hyb := orI_bd (n := 6) hy.1 (by show y < 64; omega) (Int.le_of_lt hpr) (by show _ < (64 : Int); omega)
            have hP1 := fun w => power_any (qi : Int) w (by omega) (by omega)
            have hP2 := fun w => power_any (ri : Int) w (by omega) (by omega)
            have h6b : powI 6 = 64 := rfl
            rw [h6b] at hzb hyb
            have hb1 : ∀ q : Nat, bits .and .i64 (orI z (powI (qi : Int)) / 2 ^ q) 1 = bitI (orI z (powI (qi : Int))) (q : Int) := fun q => and_one_bit hzb.1 (by omega)
            have hb2 : ∀ q : Nat, bits .and .i64 (orI y (powI (ri : Int)) / 2 ^ q) 1 = bitI (orI y (powI (ri : Int))) (q : Int) := fun q => and_one_bit hyb.1 (by omega)
            generalize orI z (powI (qi : Int)) = zq at *
            generalize orI y (powI (ri : Int)) = yq at *
            generalize powI (qi : Int) = pq at *
            generalize powI (ri : Int) = pr at *
            have hnz : ¬ n' = 0 := by omega
            have hwqi : IntKind.i64.wrap (qi : Int) = (qi : Int) := by rw [IntKind.wrap_i64]; omega
            have hwri : IntKind.i64.wrap (ri : Int) = (ri : Int) := by rw [IntKind.wrap_i64]; omega
            have hltN : decide ((i : Int) < (N : Int)) = true := decide_eq_true (by omega)
            go_wp2_with fail
            try simp only [hwr]
            go_loopw [9, 10] (fun s k wr => ∃ j q : Nat, j ≤ N ∧ k = .int .i64 j ∧ s = .int .i64 (tmTo zs ys n' i j) ∧ wr = w3.drewN q) (fun _ k _ => N - (intOf k).toNat)
            case atStart => exact ⟨0, 0, by omega, rfl, rfl, rfl⟩
            case round =>
              obtain ⟨k, q, hk, rfl, rfl, rfl⟩ := hrel
              by_cases hkn : k < N
              · have hq3 : ((k : Int)).tdiv (n' : Int) = ((k / n' : Nat) : Int) := rfl
                have hr3 : ((k : Int)).tmod (n' : Int) = ((k % n' : Nat) : Int) := rfl
                have hltk : decide ((k : Int) < (N : Int)) = true := decide_eq_true (by omega)
                have hs := tmTo_bd zs ys n' i k
                have hpk := powI_pos (k : Int)
                have hpk2 := powI_le6 (n := (k : Int)) (by omega)
                have hor : bits .or .i64 (tmTo zs ys n' i k) (powI (k : Int)) = orI (tmTo zs ys n' i k) (powI (k : Int)) := bits_or (by omega) (by omega) (by omega) (by omega)
                have HA := Lib.hid (Htm.out k)
                have Hy := Lib.hid (fun hne h => tm_step_yes (zs := zs) (ys := ys) (m := n') (i := i) (k := k) hne h)
                have Hno := Lib.hid (fun h => tm_step_no (zs := zs) (ys := ys) (m := n') (i := i) (k := k) h)
                have hk64 : k / n' < 64 := Nat.lt_of_le_of_lt (Nat.div_le_self _ _) (by omega)
                have hk65 : k % n' < 64 := by have := Nat.mod_lt k hm0; omega
                have hb3 := hb1 (k / n')
                have hb4 := hb2 (k % n')
                generalize k / n' = qk at *
                generalize k % n' = rk at *
                have hwqk : IntKind.i64.wrap (qk : Int) = (qk : Int) := by rw [IntKind.wrap_i64]; omega
                have hwrk : IntKind.i64.wrap (rk : Int) = (rk : Int) := by rw [IntKind.wrap_i64]; omega
                have hcz2 : (w3.drewN q).cell? ⟨ba, oa + qi, none⟩ = some (.int .i64 z) := hcz
                have hcy2 : (w3.drewN q).cell? ⟨bb, ob + ri, none⟩ = some (.int .i64 y) := hcy
                generalize tmTo zs ys n' i k = s at *
                go_wp2_with fail
                refine region_T (S := (fun w' => w'.cell? ⟨ba, oa + qi, none⟩ = some (.int .i64 z))) 16 (by kernel_rfl) ?_
                have hSd : (fun w' => w'.cell? ⟨ba, oa + qi, none⟩ = some (.int .i64 z)) (w3.drewN (q + 1)) := hcz2
                refine anyT_take (i := 0) (oi := ?oi0c) (v := .slice (some ⟨ba, oa, none⟩) n c) ?hi0c (by kernel_rfl) ?hq0c ?hy0c (by assumption) ?rest0c
                case hi0c => (simp only [List.getElem?_toArray, List.getElem?_cons_zero]; first | done | rfl)
                case hq0c => first | exact fun _ _ _ h => h | exact fun _ _ _ h => (by cases h.1)
                case hy0c => (refine Or.inl ⟨by rfl, ?_⟩; intro wz hSw; go_simp; first | done | with_reducible rfl | simp | omega)
                try simp only [Act.put, List.setIfInBounds_toArray, List.set_cons_zero, List.set_cons_succ]
                refine anyT_take (i := 1) (oi := ?oi1c) (v := .int .i64 (i : Int)) ?hi1c (by kernel_rfl) ?hq1c ?hy1c (by assumption) ?rest1c
                case hi1c => (simp only [List.getElem?_toArray, List.getElem?_cons_succ, List.getElem?_cons_zero]; first | done | rfl)
                case hq1c => first | exact fun _ _ _ h => h | exact fun _ _ _ h => (by cases h.1)
                case hy1c => (refine Or.inl ⟨by rfl, ?_⟩; intro wz hSw; go_simp; first | done | with_reducible rfl | simp | omega)
                try simp only [Act.put, List.setIfInBounds_toArray, List.set_cons_zero, List.set_cons_succ]
                refine anyT_take (i := 2) (oi := ?oi2c) (v := .int .i64 (n' : Int)) ?hi2c (by kernel_rfl) ?hq2c ?hy2c (by assumption) ?rest2c
                case hi2c => (simp only [List.getElem?_toArray, List.getElem?_cons_succ, List.getElem?_cons_zero]; first | done | rfl)
                case hq2c => first | exact fun _ _ _ h => h | exact fun _ _ _ h => (by cases h.1)
                case hy2c => (refine Or.inl ⟨by rfl, ?_⟩; intro wz hSw; go_simp; first | done | with_reducible rfl | simp | omega)
                try simp only [Act.put, List.setIfInBounds_toArray, List.set_cons_zero, List.set_cons_succ]
                refine anyT_take (i := 3) (oi := ?oi3c) (v := .int .i64 (qi : Int)) ?hi3c (by kernel_rfl) ?hq3c ?hy3c (by assumption) ?rest3c
                case hi3c => (simp only [List.getElem?_toArray, List.getElem?_cons_succ, List.getElem?_cons_zero]; first | done | rfl)
                case hq3c => first | exact fun _ _ _ h => h | exact fun _ _ _ h => (by cases h.1)
                case hy3c => (refine Or.inl ⟨by rfl, ?_⟩; intro wz hSw; go_simp; first | done | with_reducible rfl | simp [hq1, hnz, hwqi] | omega)
                try simp only [Act.put, List.setIfInBounds_toArray, List.set_cons_zero, List.set_cons_succ]
                refine anyT_take (i := 4) (oi := ?oi4c) (v := .pointer (some ⟨ba, oa + qi, none⟩)) ?hi4c (by kernel_rfl) ?hq4c ?hy4c (by assumption) ?rest4c
                case hi4c => (simp only [List.getElem?_toArray, List.getElem?_cons_succ, List.getElem?_cons_zero]; first | done | rfl)
                case hq4c => first | exact fun _ _ _ h => h | exact fun _ _ _ h => (by cases h.1)
                case hy4c => (refine Or.inl ⟨by rfl, ?_⟩; intro wz hSw; go_simp; first | done | with_reducible rfl | simp | omega)
                try simp only [Act.put, List.setIfInBounds_toArray, List.set_cons_zero, List.set_cons_succ]
                refine anyT_take (i := 5) (oi := ?oi5c) (v := .int .i64 z) ?hi5c (by kernel_rfl) ?hq5c ?hy5c (by assumption) ?rest5c
                case hi5c => (simp only [List.getElem?_toArray, List.getElem?_cons_succ, List.getElem?_cons_zero]; first | done | rfl)
                case hq5c => first | exact fun _ _ _ h => h | exact fun _ _ _ h => (by cases h.1)
                case hy5c => (refine Or.inl ⟨by rfl, ?_⟩; intro wz hSw; obtain hS1 := hSw; go_simp; first | done | with_reducible rfl | simp | omega)
                try simp only [Act.put, List.setIfInBounds_toArray, List.set_cons_zero, List.set_cons_succ]
                refine anyT_take (i := 6) (oi := ?oi6c) (v := .int .i64 (i : Int)) ?hi6c (by kernel_rfl) ?hq6c ?hy6c (by assumption) ?rest6c
                case hi6c => (simp only [List.getElem?_toArray, List.getElem?_cons_succ, List.getElem?_cons_zero]; first | done | rfl)
                case hq6c => first | exact fun _ _ _ h => h | exact fun _ _ _ h => (by cases h.1)
                case hy6c => (refine Or.inl ⟨by rfl, ?_⟩; intro wz hSw; go_simp; first | done | with_reducible rfl | simp | omega)
                try simp only [Act.put, List.setIfInBounds_toArray, List.set_cons_zero, List.set_cons_succ]
                refine anyT_take (i := 7) (oi := ?oi7c) (v := .int .i64 (n' : Int)) ?hi7c (by kernel_rfl) ?hq7c ?hy7c (by assumption) ?rest7c
                case hi7c => (simp only [List.getElem?_toArray, List.getElem?_cons_succ, List.getElem?_cons_zero]; first | done | rfl)
                case hq7c => first | exact fun _ _ _ h => h | exact fun _ _ _ h => (by cases h.1)
                case hy7c => (refine Or.inl ⟨by rfl, ?_⟩; intro wz hSw; go_simp; first | done | with_reducible rfl | simp | omega)
                try simp only [Act.put, List.setIfInBounds_toArray, List.set_cons_zero, List.set_cons_succ]
                refine anyT_take (i := 8) (oi := ?oi8c) (v := .int .i64 (qi : Int)) ?hi8c (by kernel_rfl) ?hq8c ?hy8c (by assumption) ?rest8c
                case hi8c => (simp only [List.getElem?_toArray, List.getElem?_cons_succ, List.getElem?_cons_zero]; first | done | rfl)
                case hq8c => first | exact fun _ _ _ h => h | exact fun _ _ _ h => (by cases h.1)
                case hy8c => (refine Or.inl ⟨by rfl, ?_⟩; intro wz hSw; go_simp; first | done | with_reducible rfl | simp [hq1, hnz, hwqi] | omega)
                try simp only [Act.put, List.setIfInBounds_toArray, List.set_cons_zero, List.set_cons_succ]
                refine anyT_take (i := 11) (oi := ?oi11c) (v := .int .i64 (k : Int)) ?hi11c (by kernel_rfl) ?hq11c ?hy11c (by assumption) ?rest11c
                case hi11c => (simp only [List.getElem?_toArray, List.getElem?_cons_succ, List.getElem?_cons_zero]; first | done | rfl)
                case hq11c => first | exact fun _ _ _ h => h | exact fun _ _ _ h => (by cases h.1)
                case hy11c => (refine Or.inl ⟨by rfl, ?_⟩; intro wz hSw; go_simp; first | done | with_reducible rfl | simp | omega)
                try simp only [Act.put, List.setIfInBounds_toArray, List.set_cons_zero, List.set_cons_succ]
                refine anyT_take (i := 12) (oi := ?oi12c) (v := .int .i64 (n' : Int)) ?hi12c (by kernel_rfl) ?hq12c ?hy12c (by assumption) ?rest12c
                case hi12c => (simp only [List.getElem?_toArray, List.getElem?_cons_succ, List.getElem?_cons_zero]; first | done | rfl)
                case hq12c => first | exact fun _ _ _ h => h | exact fun _ _ _ h => (by cases h.1)
                case hy12c => (refine Or.inl ⟨by rfl, ?_⟩; intro wz hSw; go_simp; first | done | with_reducible rfl | simp | omega)
                try simp only [Act.put, List.setIfInBounds_toArray, List.set_cons_zero, List.set_cons_succ]
                refine anyT_take (i := 13) (oi := ?oi13c) (v := .int .i64 (qk : Int)) ?hi13c (by kernel_rfl) ?hq13c ?hy13c (by assumption) ?rest13c
                case hi13c => (simp only [List.getElem?_toArray, List.getElem?_cons_succ, List.getElem?_cons_zero]; first | done | rfl)
                case hq13c => first | exact fun _ _ _ h => h | exact fun _ _ _ h => (by cases h.1)
                case hy13c => (refine Or.inl ⟨by rfl, ?_⟩; intro wz hSw; go_simp; first | done | with_reducible rfl | simp [hq3, hnz, hwqk] | omega)
                try simp only [Act.put, List.setIfInBounds_toArray, List.set_cons_zero, List.set_cons_succ]
                refine anyT_one (i := 9) (by kernel_rfl) rfl (fun K' hK => ?_)
                go_simp
                refine (hP1 _).mono ?_
                rintro e w' ⟨rfl, rfl⟩
                refine hK.out _ _ (fun _ => hSd) ?_
                clear hK K'
                try simp only [Act.put, List.setIfInBounds_toArray, List.set_cons_zero, List.set_cons_succ]
                refine anyT_take (i := 10) (oi := ?oi10cx) (v := .int .i64 zq) ?hi10cx (by kernel_rfl) ?hq10cx ?hy10cx (by assumption) ?rest10cx
                case hi10cx => (simp only [List.getElem?_toArray, List.getElem?_cons_succ, List.getElem?_cons_zero]; first | done | rfl)
                case hq10cx => first | exact fun _ _ _ h => h | exact fun _ _ _ h => (by cases h.1)
                case hy10cx => (refine Or.inl ⟨by rfl, ?_⟩; intro wz hSw; go_simp; first | done | with_reducible rfl | simp [hoz] | omega)
                try simp only [Act.put, List.setIfInBounds_toArray, List.set_cons_zero, List.set_cons_succ]
                refine anyT_take (i := 14) (oi := ?oi14cx) (v := .int .i64 (zq / 2 ^ qk)) ?hi14cx (by kernel_rfl) ?hq14cx ?hy14cx (by assumption) ?rest14cx
                case hi14cx => (simp only [List.getElem?_toArray, List.getElem?_cons_succ, List.getElem?_cons_zero]; first | done | rfl)
                case hq14cx => first | exact fun _ _ _ h => h | exact fun _ _ _ h => (by cases h.1)
                case hy14cx => (refine Or.inl ⟨by rfl, ?_⟩; intro wz hSw; go_simp; first | done | with_reducible rfl | simp | omega)
                try simp only [Act.put, List.setIfInBounds_toArray, List.set_cons_zero, List.set_cons_succ]
                refine anyT_take (i := 15) (oi := ?oi15cx) (v := .int .i64 (bitI zq (qk : Int))) ?hi15cx (by kernel_rfl) ?hq15cx ?hy15cx (by assumption) ?rest15cx
                case hi15cx => (simp only [List.getElem?_toArray, List.getElem?_cons_succ, List.getElem?_cons_zero]; first | done | rfl)
                case hq15cx => first | exact fun _ _ _ h => h | exact fun _ _ _ h => (by cases h.1)
                case hy15cx => (refine Or.inl ⟨by rfl, ?_⟩; intro wz hSw; go_simp; first | done | with_reducible rfl | simp [hb3] | omega)
                try simp only [Act.put, List.setIfInBounds_toArray, List.set_cons_zero, List.set_cons_succ]
                refine anyT_one (i := 16) (by kernel_rfl) rfl (fun K' hK => ?_)
                go_simp
                refine hK.out _ _ (fun h => absurd rfl h) ?_
                clear hK K'
                try simp only [Act.put, List.setIfInBounds_toArray, List.set_cons_zero, List.set_cons_succ]
                refine anyT_done (by kernel_rfl) ?_ _
                clear hSd
                go_wp2_with fail
                refine region_T (S := (fun w' => w'.cell? ⟨bb, ob + ri, none⟩ = some (.int .i64 y))) 16 (by kernel_rfl) ?_
                have hSd : (fun w' => w'.cell? ⟨bb, ob + ri, none⟩ = some (.int .i64 y)) (w3.drewN (q + 1 + 1)) := hcy2
                refine anyT_take (i := 0) (oi := ?oi0d) (v := .slice (some ⟨bb, ob, none⟩) n' c') ?hi0d (by kernel_rfl) ?hq0d ?hy0d (by assumption) ?rest0d
                case hi0d => (simp only [List.getElem?_toArray, List.getElem?_cons_zero]; first | done | rfl)
                case hq0d => first | exact fun _ _ _ h => h | exact fun _ _ _ h => (by cases h.1)
                case hy0d => (refine Or.inl ⟨by rfl, ?_⟩; intro wz hSw; go_simp; first | done | with_reducible rfl | simp | omega)
                try simp only [Act.put, List.setIfInBounds_toArray, List.set_cons_zero, List.set_cons_succ]
                refine anyT_take (i := 1) (oi := ?oi1d) (v := .int .i64 (i : Int)) ?hi1d (by kernel_rfl) ?hq1d ?hy1d (by assumption) ?rest1d
                case hi1d => (simp only [List.getElem?_toArray, List.getElem?_cons_succ, List.getElem?_cons_zero]; first | done | rfl)
                case hq1d => first | exact fun _ _ _ h => h | exact fun _ _ _ h => (by cases h.1)
                case hy1d => (refine Or.inl ⟨by rfl, ?_⟩; intro wz hSw; go_simp; first | done | with_reducible rfl | simp | omega)
                try simp only [Act.put, List.setIfInBounds_toArray, List.set_cons_zero, List.set_cons_succ]
                refine anyT_take (i := 2) (oi := ?oi2d) (v := .int .i64 (n' : Int)) ?hi2d (by kernel_rfl) ?hq2d ?hy2d (by assumption) ?rest2d
                case hi2d => (simp only [List.getElem?_toArray, List.getElem?_cons_succ, List.getElem?_cons_zero]; first | done | rfl)
                case hq2d => first | exact fun _ _ _ h => h | exact fun _ _ _ h => (by cases h.1)
                case hy2d => (refine Or.inl ⟨by rfl, ?_⟩; intro wz hSw; go_simp; first | done | with_reducible rfl | simp | omega)
                try simp only [Act.put, List.setIfInBounds_toArray, List.set_cons_zero, List.set_cons_succ]
                refine anyT_take (i := 3) (oi := ?oi3d) (v := .int .i64 (ri : Int)) ?hi3d (by kernel_rfl) ?hq3d ?hy3d (by assumption) ?rest3d
                case hi3d => (simp only [List.getElem?_toArray, List.getElem?_cons_succ, List.getElem?_cons_zero]; first | done | rfl)
                case hq3d => first | exact fun _ _ _ h => h | exact fun _ _ _ h => (by cases h.1)
                case hy3d => (refine Or.inl ⟨by rfl, ?_⟩; intro wz hSw; go_simp; first | done | with_reducible rfl | simp [hr1, hnz, hwri] | omega)
                try simp only [Act.put, List.setIfInBounds_toArray, List.set_cons_zero, List.set_cons_succ]
                refine anyT_take (i := 4) (oi := ?oi4d) (v := .pointer (some ⟨bb, ob + ri, none⟩)) ?hi4d (by kernel_rfl) ?hq4d ?hy4d (by assumption) ?rest4d
                case hi4d => (simp only [List.getElem?_toArray, List.getElem?_cons_succ, List.getElem?_cons_zero]; first | done | rfl)
                case hq4d => first | exact fun _ _ _ h => h | exact fun _ _ _ h => (by cases h.1)
                case hy4d => (refine Or.inl ⟨by rfl, ?_⟩; intro wz hSw; go_simp; first | done | with_reducible rfl | simp | omega)
                try simp only [Act.put, List.setIfInBounds_toArray, List.set_cons_zero, List.set_cons_succ]
                refine anyT_take (i := 5) (oi := ?oi5d) (v := .int .i64 y) ?hi5d (by kernel_rfl) ?hq5d ?hy5d (by assumption) ?rest5d
                case hi5d => (simp only [List.getElem?_toArray, List.getElem?_cons_succ, List.getElem?_cons_zero]; first | done | rfl)
                case hq5d => first | exact fun _ _ _ h => h | exact fun _ _ _ h => (by cases h.1)
                case hy5d => (refine Or.inl ⟨by rfl, ?_⟩; intro wz hSw; obtain hS1 := hSw; go_simp; first | done | with_reducible rfl | simp | omega)
                try simp only [Act.put, List.setIfInBounds_toArray, List.set_cons_zero, List.set_cons_succ]
                refine anyT_take (i := 6) (oi := ?oi6d) (v := .int .i64 (i : Int)) ?hi6d (by kernel_rfl) ?hq6d ?hy6d (by assumption) ?rest6d
                case hi6d => (simp only [List.getElem?_toArray, List.getElem?_cons_succ, List.getElem?_cons_zero]; first | done | rfl)
                case hq6d => first | exact fun _ _ _ h => h | exact fun _ _ _ h => (by cases h.1)
                case hy6d => (refine Or.inl ⟨by rfl, ?_⟩; intro wz hSw; go_simp; first | done | with_reducible rfl | simp | omega)
                try simp only [Act.put, List.setIfInBounds_toArray, List.set_cons_zero, List.set_cons_succ]
                refine anyT_take (i := 7) (oi := ?oi7d) (v := .int .i64 (n' : Int)) ?hi7d (by kernel_rfl) ?hq7d ?hy7d (by assumption) ?rest7d
                case hi7d => (simp only [List.getElem?_toArray, List.getElem?_cons_succ, List.getElem?_cons_zero]; first | done | rfl)
                case hq7d => first | exact fun _ _ _ h => h | exact fun _ _ _ h => (by cases h.1)
                case hy7d => (refine Or.inl ⟨by rfl, ?_⟩; intro wz hSw; go_simp; first | done | with_reducible rfl | simp | omega)
                try simp only [Act.put, List.setIfInBounds_toArray, List.set_cons_zero, List.set_cons_succ]
                refine anyT_take (i := 8) (oi := ?oi8d) (v := .int .i64 (ri : Int)) ?hi8d (by kernel_rfl) ?hq8d ?hy8d (by assumption) ?rest8d
                case hi8d => (simp only [List.getElem?_toArray, List.getElem?_cons_succ, List.getElem?_cons_zero]; first | done | rfl)
                case hq8d => first | exact fun _ _ _ h => h | exact fun _ _ _ h => (by cases h.1)
                case hy8d => (refine Or.inl ⟨by rfl, ?_⟩; intro wz hSw; go_simp; first | done | with_reducible rfl | simp [hr1, hnz, hwri] | omega)
                try simp only [Act.put, List.setIfInBounds_toArray, List.set_cons_zero, List.set_cons_succ]
                refine anyT_take (i := 11) (oi := ?oi11d) (v := .int .i64 (k : Int)) ?hi11d (by kernel_rfl) ?hq11d ?hy11d (by assumption) ?rest11d
                case hi11d => (simp only [List.getElem?_toArray, List.getElem?_cons_succ, List.getElem?_cons_zero]; first | done | rfl)
                case hq11d => first | exact fun _ _ _ h => h | exact fun _ _ _ h => (by cases h.1)
                case hy11d => (refine Or.inl ⟨by rfl, ?_⟩; intro wz hSw; go_simp; first | done | with_reducible rfl | simp | omega)
                try simp only [Act.put, List.setIfInBounds_toArray, List.set_cons_zero, List.set_cons_succ]
                refine anyT_take (i := 12) (oi := ?oi12d) (v := .int .i64 (n' : Int)) ?hi12d (by kernel_rfl) ?hq12d ?hy12d (by assumption) ?rest12d
                case hi12d => (simp only [List.getElem?_toArray, List.getElem?_cons_succ, List.getElem?_cons_zero]; first | done | rfl)
                case hq12d => first | exact fun _ _ _ h => h | exact fun _ _ _ h => (by cases h.1)
                case hy12d => (refine Or.inl ⟨by rfl, ?_⟩; intro wz hSw; go_simp; first | done | with_reducible rfl | simp | omega)
                try simp only [Act.put, List.setIfInBounds_toArray, List.set_cons_zero, List.set_cons_succ]
                refine anyT_take (i := 13) (oi := ?oi13d) (v := .int .i64 (rk : Int)) ?hi13d (by kernel_rfl) ?hq13d ?hy13d (by assumption) ?rest13d
                case hi13d => (simp only [List.getElem?_toArray, List.getElem?_cons_succ, List.getElem?_cons_zero]; first | done | rfl)
                case hq13d => first | exact fun _ _ _ h => h | exact fun _ _ _ h => (by cases h.1)
                case hy13d => (refine Or.inl ⟨by rfl, ?_⟩; intro wz hSw; go_simp; first | done | with_reducible rfl | simp [hr3, hnz, hwrk] | omega)
                try simp only [Act.put, List.setIfInBounds_toArray, List.set_cons_zero, List.set_cons_succ]
                refine anyT_one (i := 9) (by kernel_rfl) rfl (fun K' hK => ?_)
                go_simp
                refine (hP2 _).mono ?_
                rintro e w' ⟨rfl, rfl⟩
                refine hK.out _ _ (fun _ => hSd) ?_
                clear hK K'
                try simp only [Act.put, List.setIfInBounds_toArray, List.set_cons_zero, List.set_cons_succ]
                refine anyT_take (i := 10) (oi := ?oi10dx) (v := .int .i64 yq) ?hi10dx (by kernel_rfl) ?hq10dx ?hy10dx (by assumption) ?rest10dx
                case hi10dx => (simp only [List.getElem?_toArray, List.getElem?_cons_succ, List.getElem?_cons_zero]; first | done | rfl)
                case hq10dx => first | exact fun _ _ _ h => h | exact fun _ _ _ h => (by cases h.1)
                case hy10dx => (refine Or.inl ⟨by rfl, ?_⟩; intro wz hSw; go_simp; first | done | with_reducible rfl | simp [hoy] | omega)
                try simp only [Act.put, List.setIfInBounds_toArray, List.set_cons_zero, List.set_cons_succ]
                refine anyT_take (i := 14) (oi := ?oi14dx) (v := .int .i64 (yq / 2 ^ rk)) ?hi14dx (by kernel_rfl) ?hq14dx ?hy14dx (by assumption) ?rest14dx
                case hi14dx => (simp only [List.getElem?_toArray, List.getElem?_cons_succ, List.getElem?_cons_zero]; first | done | rfl)
                case hq14dx => first | exact fun _ _ _ h => h | exact fun _ _ _ h => (by cases h.1)
                case hy14dx => (refine Or.inl ⟨by rfl, ?_⟩; intro wz hSw; go_simp; first | done | with_reducible rfl | simp | omega)
                try simp only [Act.put, List.setIfInBounds_toArray, List.set_cons_zero, List.set_cons_succ]
                refine anyT_take (i := 15) (oi := ?oi15dx) (v := .int .i64 (bitI yq (rk : Int))) ?hi15dx (by kernel_rfl) ?hq15dx ?hy15dx (by assumption) ?rest15dx
                case hi15dx => (simp only [List.getElem?_toArray, List.getElem?_cons_succ, List.getElem?_cons_zero]; first | done | rfl)
                case hq15dx => first | exact fun _ _ _ h => h | exact fun _ _ _ h => (by cases h.1)
                case hy15dx => (refine Or.inl ⟨by rfl, ?_⟩; intro wz hSw; go_simp; first | done | with_reducible rfl | simp [hb4] | omega)
                try simp only [Act.put, List.setIfInBounds_toArray, List.set_cons_zero, List.set_cons_succ]
                refine anyT_one (i := 16) (by kernel_rfl) rfl (fun K' hK => ?_)
                go_simp
                refine hK.out _ _ (fun h => absurd rfl h) ?_
                clear hK K'
                try simp only [Act.put, List.setIfInBounds_toArray, List.set_cons_zero, List.set_cons_succ]
                refine anyT_done (by kernel_rfl) ?_ _
                clear hSd
                have hpw := fun w => power_any (k : Int) w (by omega) (by omega)
                have hX1 : (bitI zq (qk : Int) == 1) = bitB zq (qk : Int) := bitI_one _ _
                have hX2 : (bitI yq (rk : Int) == 1) = bitB yq (rk : Int) := bitI_one _ _
                have HAo := HA.out
                clear HA hb1 hb2 hb3 hb4 hq1 hr1 hq3 hr3 hP1 hP2 hoz hoy hcz hcy hcz2 hcy2 hwqi hwri hwqk hwrk hzb hyb Hsi Hsn Htl HN hnz hgt
                generalize bitI zq (qk : Int) = x1 at *
                generalize bitI yq (rk : Int) = x2 at *
                generalize bitB zq (qk : Int) = b1 at *
                generalize bitB yq (rk : Int) = b2 at *
                have HA := Lib.hid HAo
                clear HAo
                by_cases hik : i = k
                · have hnk : ((i : Int) != (k : Int)) = false := by rw [hik]; simp
                  have Hs := Lib.hid (Hno.out (.inl hik))
                  clear hik HA Hno Hy
                  go_wp2
                  go_roundw
                  case rel => exact ⟨k + 1, _, by omega, by go_num, by rw [Hs.out], rfl⟩
                  case measure => simp [intOf]; omega
                · have hnk : ((i : Int) != (k : Int)) = true := by simpa using (show ¬ (i : Int) = (k : Int) by omega)
                  have Hik := Lib.hid hik
                  clear hik
                  cases b1
                  · have Hs := Lib.hid (Hno.out (.inr (by rw [HA.out]; rfl)))
                    clear HA Hno Hy
                    go_wp2
                    go_roundw
                    case rel => exact ⟨k + 1, _, by omega, by go_num, by rw [Hs.out], rfl⟩
                    case measure => simp [intOf]; omega
                  · cases b2
                    · have Hs := Lib.hid (Hno.out (.inr (by rw [HA.out]; rfl)))
                      clear HA Hno Hy
                      go_wp2
                      go_roundw
                      case rel => exact ⟨k + 1, _, by omega, by go_num, by rw [Hs.out], rfl⟩
                      case measure => simp [intOf]; omega
                    · have Hs := Lib.hid (Hy.out Hik.out (by rw [HA.out]; rfl))
                      clear HA Hno Hy
                      go_wp2_with (go_at_call 31; with_reducible refine (hpw _).mono ?_; rintro e w' ⟨rfl, rfl⟩)
                      go_roundw
                      case rel => exact ⟨k + 1, _, by omega, by go_num, by rw [Hs.out], rfl⟩
                      case measure => simp [intOf]; omega
              · have hkN : k = N := by omega
                have hltk : decide ((k : Int) < (N : Int)) = false := decide_eq_false (by omega)
                have HkN := Lib.hid hkN
                clear hkN
                have hO' : OwnS (fun j => w2.heap.size ≤ j) (w3.drewN q) w2.heap.size 3 _ ((tmL zs ys).take i) := hO
                have hB' : Below w2.heap.size w2 (w3.drewN q) := below_drewN hBr q
                clear hb1 hb2 hP1 hP2 hq1 hr1 hoz hoy hcz hcy Htm Hsn HN hgt hzb hyb hwqi hwri hnz
                have Hln := Lib.hid (show ((tmL zs ys).take i).length = i by rw [List.length_take, Htl.out]; exact Nat.min_eq_left (Nat.le_of_lt hlt))
                have zx' : w2.heap.size ≤ (w3.drewN q).heap.size := z3
                obtain ⟨row, hrow⟩ : ∃ row, tmTo zs ys n' i k = row := ⟨_, rfl⟩
                rw [hrow]
                have Hrow := Lib.hid hrow
                clear hrow
                generalize w3.drewN q = w4 at *
                clear hO hBr Htl hltN
                go_wp2_with (at_builtin; go_loud (refine wpList_append1 _ rfl (.tmp 95) (.tmp 97) _ rfl w2.heap.size 3 i0 _ 8 Try.underlying22 hi0 hz0 hz1 hz2 rfl _ ((tmL zs ys).take i).length _ rfl (hO'.2.alloc _) w4.heap.size 1 (.int .i64 row) rfl (cell_new _ _ _) rfl (by rw [Hln.out]; omega) (by rw [Hln.out]; omega) (by simp; omega) ?_); rintro v' w' hown' hg' hv')
                have zg := hg'.size
                simp at zg
                go_roundw
                case rel => exact ⟨i + 1, by omega, by go_num, by rw [Hsi.out, ← HkN.out, Hrow.out]; exact hO'.step hown' hv' (fun j e => e) (fun _ => by omega), ((((Below.toUpd hB').mono (S := fun j => w2.heap.size ≤ j) fun _ _ e => e).alloc _).grown hg' (fun j hj => .inl (hO'.1 j hj))).toBelow (fun _ e => e) (Nat.le_refl _)⟩
                case measure => simp [intOf]; omega
          · have hiN : i = N := by omega
            have hltN : decide ((i : Int) < (N : Int)) = false := decide_eq_false (by omega)
            have HiN := Lib.hid hiN
            clear hiN
            have hO' := hO
            rw [List.take_of_length_le (by rw [Htl.out, HiN.out]; exact Nat.le_refl _)] at hO'
            obtain ⟨A2, c2, hv2, hR⟩ := rowV_of_own hO'.2
            subst hv2
            go_wp2_with fail
            go_ret2
            exact ⟨A2, _, c2, by rw [Hb.out]; rfl, by rw [Ht.out]; exact hR.more zz (Nat.le_refl _), hB.trans (hBr.mono zz)⟩
      · have Hb := Lib.hid (timesB_no3 hlen.out hlen'.out (by rw [hN]; exact hnm))
        have Ht := Lib.hid (timesR_no Hb.out)
        have hgt : decide (6 < (N : Int)) = true := decide_eq_true (by omega)
        clear hN
        go_enter Try.func16, Try.ntmps16
        go_wp2_with fail
        refine (H1.out _ h hbig).mono ?_
        rw [hv]
        rintro e w1 ⟨rfl, m, hm⟩
        have hB1 : Below w.heap.size w w1 := by rw [hm]; exact below_drewN (Below.refl _ _) _
        have hx1 := h.below hB1
        have hy1 := h'.below hB1
        clear hm
        go_wp2_with fail
        refine (H2.out _ hy1 hbig').mono ?_
        rw [hv']
        rintro e w2 ⟨rfl, m2, hm2⟩
        have hB2 : Below w.heap.size w1 w2 := by rw [hm2]; exact below_drewN (Below.refl _ _) _
        have hB := hB1.trans hB2
        have zz := hB.size
        have hx := (hx1.below hB2).more zz
        have hy2 := (hy1.below hB2).more zz
        clear hm2 hB1 hB2 hx1 hy1
        go_wp2_with fail
        go_ret2
        exact ⟨none, 0, 0, by rw [Hb.out]; rfl, by rw [Ht.out]; exact RowV.nil _ _ _ _, hB⟩
end Go.Proofs.Ytbjaomhmocblbaa

/- TimesOf: the program's, whole. -/
namespace Go.Proofs.Ytbjaomhmocblbaa
open Go.RowKit Go.Shelf
attribute [local go_sem] Oper.semAt_some
attribute [local go_sem, local simp] wide_fn
theorem timesB_no4 {zs ys : List Int} (h : (vo zs && vo ys) = false) : timesB zs ys = false := by
  unfold timesB
  rw [← Bool.and_assoc, h]; rfl

set_option maxHeartbeats 2000000 in
theorem TimesOf_any (A : Option Addr) (n c : Nat) (zs : List Int) (A' : Option Addr) (n' c' : Nat) (ys : List Int) (w : World) (h : Ints w w.heap.size A n zs) (h' : Ints w w.heap.size A' n' ys) (hbig : n ≤ 1152921504606846976) (hbig' : n' ≤ 1152921504606846976) :
    Calls Try.prog 17 #[.slice A n c, .slice A' n' c'] w (GivesAtV w (timesR zs ys) (timesB zs ys)) := by
  have hlen := Lib.hid h.len
  have hlen' := Lib.hid h'.len
  go_enter Try.func17, Try.ntmps17
  go_wp2_with fail
  refine (readBoth_any A n c zs A' n' c' ys _ h h' hbig hbig').mono ?_
  rintro e w1 ⟨hB1, (⟨hv, hv', b, b', rfl, hAr, hAr'⟩ | ⟨hno, A1, k1, A2, k2, rfl⟩)⟩
  · have hvo : VoP zs := by simpa [vo] using hv
    have hvy : VoP ys := by simpa [vo] using hv'
    have z1 := hB1.size
    clear hv hv'
    have h6 : n ≤ 6 := by have := hvo.1; rw [hlen.out] at this; exact this
    have h6' : n' ≤ 6 := by have := hvy.1; rw [hlen'.out] at this; exact this
    obtain ⟨N, hN⟩ : ∃ N, n * n' = N := ⟨_, rfl⟩
    have hN36 : N ≤ 36 := by rw [← hN]; exact Nat.mul_le_mul h6 h6'
    have hwe : (n : Int) * (n' : Int) = (N : Int) := by rw [← hN, Int.natCast_mul]
    have hwr : wrap64 ((n : Int) * (n' : Int)) = (N : Int) := by rw [hwe]; exact IntWalk.wrap64_in _ ⟨by omega, by omega⟩
    clear hwe
    by_cases hnm : N ≤ 6
    · have Hb := Lib.hid (timesB_yes hlen.out hlen'.out hvo hvy (by rw [hN]; exact hnm))
      have Ht := Lib.hid (timesR_yes Hb.out)
      have Hll := Lib.hid (show (tmL zs ys).length = N by rw [tmL_len, hlen.out, hlen'.out, hN])
      have Hcall := Lib.hid (times_any b n n zs b' n' n' ys _ hAr hAr' hlen.out hlen'.out hvo hvy (by rw [hN]; exact hnm))
      have hgt : decide (6 < (N : Int)) = false := decide_eq_false (by omega)
      clear hAr hAr' hN
      go_wp2_with fail
      refine Hcall.out.mono ?_
      clear Hcall
      rintro e w2 ⟨v, rfl, hO, hB2⟩
      have z2 := hB2.size
      obtain ⟨A2, c2, rfl, hI⟩ := ints_of_own hO.2
      rw [Hll.out] at hI ⊢
      clear hO
      go_wp2_with fail
      refine (list_any _ N c2 _ _ hI (by omega)).mono ?_
      rintro e w3 ⟨rfl, hA3, hB3⟩
      have z3 := hA3.lt
      go_wp2_with fail
      go_ret2
      exact ⟨_, N, N, by rw [Hb.out]; rfl, by rw [Ht.out]; exact RowV.ofArr hA3 Hll.out (by omega) z3, hB1.trans ((hB2.mono z1).trans (hB3.mono (by omega)))⟩
    · have Hb := Lib.hid (timesB_no3 hlen.out hlen'.out (by rw [hN]; exact hnm))
      have Ht := Lib.hid (timesR_no Hb.out)
      have hgt : decide (6 < (N : Int)) = true := decide_eq_true (by omega)
      clear hAr hAr' hN
      go_wp2_with fail
      go_ret2
      exact ⟨none, 0, 0, by rw [Hb.out]; rfl, by rw [Ht.out]; exact RowV.nil _ _ _ _, hB1⟩
  · have Hb := Lib.hid (timesB_no4 hno)
    have Ht := Lib.hid (timesR_no Hb.out)
    clear hno
    go_wp2_with fail
    go_ret2
    exact ⟨none, 0, 0, by rw [Hb.out]; rfl, by rw [Ht.out]; exact RowV.nil _ _ _ _, hB1⟩
end Go.Proofs.Ytbjaomhmocblbaa

/- Pairs of items of two orders: an order, its greatest chain, turned round (mathematics). No program. -/
namespace Go.Proofs.Ytbjaomhmocblbaa
open Go.RowKit

/-- At or below. -/
def leq (zs : List Int) (a b : Nat) : Prop := a = b ∨ lt zs a b
theorem lt_irr' {zs : List Int} (h : VoP zs) {a : Nat} : ¬ lt zs a a := h.irr
theorem leq_trans {zs : List Int} (h : VoP zs) {a b c : Nat} (h1 : leq zs a b) (h2 : leq zs b c) : leq zs a c := by
  rcases h1 with rfl | h1
  · exact h2
  · rcases h2 with rfl | h2
    · exact .inr h1
    · exact .inr (h.trans h1 h2)
theorem leq_asym {zs : List Int} (h : VoP zs) {a b : Nat} (h1 : leq zs a b) (h2 : leq zs b a) : a = b := by
  rcases h1 with e | h1
  · exact e
  · rcases h2 with e | h2
    · exact e.symm
    · exact absurd (h.trans h1 h2) h.irr
theorem leq_bit {zs : List Int} {a b : Nat} (ha : a < zs.length) : bitB (orI (zs[a]?.getD 0) (powI (a : Int))) (b : Int) = true ↔ leq zs a b := by
  rw [bitB_or, bitB_pow, Bool.or_eq_true, decide_eq_true_eq]
  unfold leq lt
  constructor
  · rintro (h | h)
    · exact .inr ⟨ha, h⟩
    · exact .inl h
  · rintro (h | h)
    · exact .inr h
    · exact .inl h.2
theorem leq_hgt {zs : List Int} (h : VoP zs) {a b : Nat} (h1 : leq zs a b) : hgt zs a ≤ hgt zs b := by
  rcases h1 with rfl | h1
  · exact Int.le_refl _
  · have := hgt_up h h1; omega
section
variable {zs ys : List Int} {n m : Nat}
theorem tm_lt (hn : zs.length = n) (hm : ys.length = m) {i k : Nat} : lt (tmL zs ys) i k ↔ i < n * m ∧ k < n * m ∧ i ≠ k ∧ leq zs (i / m) (k / m) ∧ leq ys (i % m) (k % m) := by
  unfold lt
  rw [tmL_len, hn, hm]
  constructor
  · rintro ⟨hi, hb⟩
    rw [tmL_get zs ys hn hm hi, tmTo_bit] at hb
    have hm0 : 0 < m := by
      rcases Nat.eq_zero_or_pos m with e | e
      · rw [e, Nat.mul_zero] at hi; omega
      · exact e
    unfold tmA at hb
    simp only [Bool.and_eq_true, decide_eq_true_eq, bne_iff_ne] at hb
    obtain ⟨hk, hne, h1, h2⟩ := hb
    exact ⟨hi, hk, hne, (leq_bit (by rw [hn]; exact (Nat.div_lt_iff_lt_mul hm0).2 hi)).1 h1, (leq_bit (by rw [hm]; exact Nat.mod_lt _ hm0)).1 h2⟩
  · rintro ⟨hi, hk, hne, h1, h2⟩
    have hm0 : 0 < m := by
      rcases Nat.eq_zero_or_pos m with e | e
      · rw [e, Nat.mul_zero] at hi; omega
      · exact e
    refine ⟨hi, ?_⟩
    rw [tmL_get zs ys hn hm hi, tmTo_bit]
    unfold tmA
    simp only [Bool.and_eq_true, decide_eq_true_eq, bne_iff_ne]
    exact ⟨hk, hne, (leq_bit (by rw [hn]; exact (Nat.div_lt_iff_lt_mul hm0).2 hi)).2 h1, (leq_bit (by rw [hm]; exact Nat.mod_lt _ hm0)).2 h2⟩
theorem pair_eq {m i k : Nat} (h1 : i / m = k / m) (h2 : i % m = k % m) : i = k := by
  have e1 := Nat.div_add_mod i m
  have e2 := Nat.div_add_mod k m
  rw [h1, h2] at e1
  omega
theorem tm_bits (hn : zs.length = n) (hm : ys.length = m) {i k : Nat} (hi : i < n * m) : bitB ((tmL zs ys)[i]?.getD 0) (k : Int) = true ↔ lt (tmL zs ys) i k := by
  unfold lt
  rw [tmL_len, hn, hm]
  exact ⟨fun h => ⟨hi, h⟩, fun h => h.2⟩
theorem tm_vo (hn : zs.length = n) (hm : ys.length = m) (hv : VoP zs) (hv' : VoP ys) (h6 : n * m ≤ 6) : VoP (tmL zs ys) := by
  have hl : (tmL zs ys).length = n * m := by rw [tmL_len, hn, hm]
  refine ⟨by rw [hl]; exact h6, fun a ha => ?_, fun a ha b hb => ?_⟩
  · rw [hl] at ha
    have hb := tmTo_bd zs ys m a (n * m)
    have e : bitB ((tmL zs ys)[a]?.getD 0) (a : Int) = false := by
      cases e : bitB ((tmL zs ys)[a]?.getD 0) (a : Int)
      · rfl
      · exact absurd rfl ((tm_lt hn hm).1 ((tm_bits hn hm ha).1 e)).2.2.1
    unfold okA inB
    rw [e, tmL_get zs ys hn hm ha, hl]
    simp only [Bool.not_false, Bool.and_true, decide_eq_true_eq]
    omega
  · rw [hl] at ha hb
    unfold okP
    cases e : bitB ((tmL zs ys)[a]?.getD 0) (b : Int)
    · rfl
    · obtain ⟨_, _, hne, h1, h2⟩ := (tm_lt hn hm).1 ((tm_bits hn hm ha).1 e)
      have hl1 : lessI ((tmL zs ys)[b]?.getD 0) ((tmL zs ys)[a]?.getD 0) = 0 := by
        refine bitB_ext (lessI_bd _ _).1 (Int.le_refl _) fun j => ?_
        rw [bitB_less, bitB_zero]
        cases e1 : bitB ((tmL zs ys)[b]?.getD 0) (j : Int)
        · rfl
        · obtain ⟨_, hj, hne2, h3, h4⟩ := (tm_lt hn hm).1 ((tm_bits hn hm hb).1 e1)
          have : lt (tmL zs ys) a j := (tm_lt hn hm).2 ⟨ha, hj, fun ej => by
            subst ej
            exact hne (pair_eq (leq_asym hv h1 h3) (leq_asym hv' h2 h4)), leq_trans hv h1 h3, leq_trans hv' h2 h4⟩
          rw [(tm_bits hn hm ha).2 this]; rfl
      have h2' : bitB ((tmL zs ys)[b]?.getD 0) (a : Int) = false := by
        cases e2 : bitB ((tmL zs ys)[b]?.getD 0) (a : Int)
        · rfl
        · obtain ⟨_, _, _, h3, h4⟩ := (tm_lt hn hm).1 ((tm_bits hn hm hb).1 e2)
          exact absurd (pair_eq (leq_asym hv h1 h3) (leq_asym hv' h2 h4)) hne
      rw [hl1, h2']; rfl
theorem mk_div {m a b : Nat} (hb : b < m) : (a * m + b) / m = a := by rw [Nat.mul_comm, Nat.mul_add_div (by omega), Nat.div_eq_of_lt hb, Nat.add_zero]
theorem mk_mod {m a b : Nat} (hb : b < m) : (a * m + b) % m = b := by rw [Nat.mul_comm, Nat.mul_add_mod, Nat.mod_eq_of_lt hb]
theorem mk_lt {n m a b : Nat} (ha : a < n) (hb : b < m) : a * m + b < n * m := by
  have h1 : (a + 1) * m ≤ n * m := Nat.mul_le_mul_right m ha
  rw [Nat.add_mul, Nat.one_mul] at h1
  omega
theorem lt_len {zs : List Int} (h : VoP zs) {a b : Nat} (hl : lt zs a b) : a < zs.length ∧ b < zs.length := ⟨hl.1, h.lt_n hl⟩
theorem tm_hgt_ge (hn : zs.length = n) (hm : ys.length = m) (hv : VoP zs) (hv' : VoP ys) (h6 : n * m ≤ 6) : ∀ (d a b : Nat), a < n → b < m → hgt zs a + hgt ys b = (d : Int) → hgt zs a + hgt ys b ≤ hgt (tmL zs ys) (a * m + b)
  | 0, a, b, ha, hb, hd => by have := hgt_nn (tmL zs ys) (a * m + b); omega
  | d + 1, a, b, ha, hb, hd => by
    have hV := tm_vo hn hm hv hv' h6
    rcases hgt_eq hv (b := a) (by rw [hn]; exact ha) with e | ⟨a', h1, h2⟩
    · rcases hgt_eq hv' (b := b) (by rw [hm]; exact hb) with e' | ⟨b', h1, h2⟩
      · omega
      · have hb' := (lt_len hv' h1).1
        rw [hm] at hb'
        have ih := tm_hgt_ge hn hm hv hv' h6 d a b' ha hb' (by omega)
        have hl : lt (tmL zs ys) (a * m + b') (a * m + b) := (tm_lt hn hm).2 ⟨mk_lt ha hb', mk_lt ha hb, fun e => by
          have : b' = b := by omega
          subst this; exact absurd h1 hv'.irr, .inl (by rw [mk_div hb', mk_div hb]), .inr (by rw [mk_mod hb', mk_mod hb]; exact h1)⟩
        have := hgt_up hV hl
        omega
    · have ha' := (lt_len hv h1).1
      rw [hn] at ha'
      have ih := tm_hgt_ge hn hm hv hv' h6 d a' b ha' hb (by omega)
      have hl : lt (tmL zs ys) (a' * m + b) (a * m + b) := (tm_lt hn hm).2 ⟨mk_lt ha' hb, mk_lt ha hb, fun e => by
        have e1 := mk_div (a := a') hb
        rw [e, mk_div hb] at e1
        subst e1; exact absurd h1 hv.irr, .inr (by rw [mk_div hb, mk_div hb]; exact h1), .inl (by rw [mk_mod hb, mk_mod hb])⟩
      have := hgt_up hV hl
      omega
theorem tm_hgt_le (hn : zs.length = n) (hm : ys.length = m) (hv : VoP zs) (hv' : VoP ys) (h6 : n * m ≤ 6) : ∀ (d i : Nat), i < n * m → hgt (tmL zs ys) i = (d : Int) → hgt (tmL zs ys) i ≤ hgt zs (i / m) + hgt ys (i % m)
  | 0, i, hi, hd => by have h1 := hgt_nn zs (i / m); have h2 := hgt_nn ys (i % m); omega
  | d + 1, i, hi, hd => by
    have hV := tm_vo hn hm hv hv' h6
    rcases hgt_eq hV (b := i) (by rw [tmL_len, hn, hm]; exact hi) with e | ⟨j, h1, h2⟩
    · have h1 := hgt_nn zs (i / m); have h2 := hgt_nn ys (i % m); omega
    · obtain ⟨hj, _, hne, h3, h4⟩ := (tm_lt hn hm).1 h1
      have ih := tm_hgt_le hn hm hv hv' h6 d j hj (by omega)
      rcases h3 with e3 | h3
      · rcases h4 with e4 | h4
        · exact absurd (pair_eq e3 e4) hne
        · have := hgt_up hv' h4
          rw [e3] at ih
          omega
      · have := hgt_up hv h3
        have := leq_hgt hv' h4
        omega
theorem tm_hgt (hn : zs.length = n) (hm : ys.length = m) (hv : VoP zs) (hv' : VoP ys) (h6 : n * m ≤ 6) {i : Nat} (hi : i < n * m) : hgt (tmL zs ys) i = hgt zs (i / m) + hgt ys (i % m) := by
  have hm0 : 0 < m := by
    rcases Nat.eq_zero_or_pos m with e | e
    · rw [e, Nat.mul_zero] at hi; omega
    · exact e
  have ha : i / m < n := (Nat.div_lt_iff_lt_mul hm0).2 hi
  have hb : i % m < m := Nat.mod_lt _ hm0
  obtain ⟨d, hd⟩ := Int.eq_ofNat_of_zero_le (hgt_nn (tmL zs ys) i)
  obtain ⟨d', hd'⟩ := Int.eq_ofNat_of_zero_le (show 0 ≤ hgt zs (i / m) + hgt ys (i % m) by have h1 := hgt_nn zs (i / m); have h2 := hgt_nn ys (i % m); omega)
  have h1 := tm_hgt_le hn hm hv hv' h6 d i hi hd
  have h2 := tm_hgt_ge hn hm hv hv' h6 d' (i / m) (i % m) ha hb hd'
  have e : i / m * m + i % m = i := by rw [Nat.mul_comm]; exact Nat.div_add_mod i m
  rw [e] at h2
  omega
theorem tm_long (hn : zs.length = n) (hm : ys.length = m) (hv : VoP zs) (hv' : VoP ys) (h6 : n * m ≤ 6) (h0 : 0 < n * m) : longI (tmL zs ys) = longI zs + longI ys - 1 := by
  have hl : (tmL zs ys).length = n * m := by rw [tmL_len, hn, hm]
  have hm0 : 0 < m := by
    rcases Nat.eq_zero_or_pos m with e | e
    · rw [e, Nat.mul_zero] at h0; omega
    · exact e
  have hn0 : 0 < n := by
    rcases Nat.eq_zero_or_pos n with e | e
    · rw [e, Nat.zero_mul] at h0; omega
    · exact e
  unfold longI
  rw [hl, hn, hm]
  have g1 := maxL_ge (hgt (tmL zs ys)) (List.range (n * m))
  have g2 := maxL_ge (hgt zs) (List.range n)
  have g3 := maxL_ge (hgt ys) (List.range m)
  refine Int.le_antisymm ?_ ?_
  · rcases maxL_eq (hgt (tmL zs ys)) (List.range (n * m)) with e | ⟨i, hi, e⟩
    · have := g1.2 0 (by simpa using h0)
      have := hgt_nn (tmL zs ys) 0
      omega
    · have hi := List.mem_range.1 hi
      rw [e, tm_hgt hn hm hv hv' h6 hi]
      have h1 := g2.2 (i / m) (List.mem_range.2 ((Nat.div_lt_iff_lt_mul hm0).2 hi))
      have h2 := g3.2 (i % m) (List.mem_range.2 (Nat.mod_lt _ hm0))
      omega
  · rcases maxL_eq (hgt zs) (List.range n) with e | ⟨a, ha, e⟩
    · have := g2.2 0 (by simpa using hn0)
      have := hgt_nn zs 0
      omega
    · rcases maxL_eq (hgt ys) (List.range m) with e' | ⟨b, hb, e'⟩
      · have := g3.2 0 (by simpa using hm0)
        have := hgt_nn ys 0
        omega
      · have ha := List.mem_range.1 ha
        have hb := List.mem_range.1 hb
        have h1 := g1.2 (a * m + b) (List.mem_range.2 (mk_lt ha hb))
        rw [tm_hgt hn hm hv hv' h6 (mk_lt ha hb), mk_div hb, mk_mod hb] at h1
        omega
theorem du_leq (h : VoP zs) {a b : Nat} : leq (du zs) a b ↔ leq zs b a := by
  unfold leq
  rw [du_lt h]
  exact ⟨fun e => e.imp Eq.symm id, fun e => e.imp Eq.symm id⟩
theorem tm_du (hn : zs.length = n) (hm : ys.length = m) (hv : VoP zs) (hv' : VoP ys) (h6 : n * m ≤ 6) : du (tmL zs ys) = tmL (du zs) (du ys) := by
  have hV := tm_vo hn hm hv hv' h6
  have hn' : (du zs).length = n := by rw [du_len, hn]
  have hm' : (du ys).length = m := by rw [du_len, hm]
  have hV' := tm_vo hn' hm' (du_vo hv) (du_vo hv') h6
  have hl : (du (tmL zs ys)).length = n * m := by rw [du_len, tmL_len, hn, hm]
  have hl' : (tmL (du zs) (du ys)).length = n * m := by rw [tmL_len, hn', hm']
  refine List.ext_getElem (by rw [hl, hl']) fun i h1 h2 => ?_
  have hi : i < n * m := by rw [← hl]; exact h1
  have e1 := (du_vo hV).bd i h1
  have e2 := hV'.bd i h2
  have hb : ∀ k : Nat, bitB ((du (tmL zs ys))[i]?.getD 0) (k : Int) = bitB ((tmL (du zs) (du ys))[i]?.getD 0) (k : Int) := fun k => by
    have key : lt (du (tmL zs ys)) i k ↔ lt (tmL (du zs) (du ys)) i k := by
      rw [du_lt hV, tm_lt hn hm, tm_lt hn' hm', du_leq hv, du_leq hv']
      constructor
      · rintro ⟨a1, a2, a3, a4, a5⟩; exact ⟨a2, a1, fun e => a3 e.symm, a4, a5⟩
      · rintro ⟨a1, a2, a3, a4, a5⟩; exact ⟨a2, a1, fun e => a3 e.symm, a4, a5⟩
    unfold lt at key
    rw [hl, hl'] at key
    rw [Bool.eq_iff_iff]
    exact ⟨fun e => (key.1 ⟨hi, e⟩).2, fun e => (key.2 ⟨hi, e⟩).2⟩
  have := bitB_ext e1.1 e2.1 hb
  rwa [List.getElem?_eq_getElem h1, List.getElem?_eq_getElem h2, Option.getD_some, Option.getD_some] at this
end
end Go.Proofs.Ytbjaomhmocblbaa

/- ValidOrder of the program. -/
namespace Go.Proofs.Ytbjaomhmocblbaa
open Go.RowKit

theorem ValidOrder_any (A : Option Addr) (n c : Nat) (zs : List Int) (w : World) (h : Ints w w.heap.size A n zs) (hbig : n ≤ 1152921504606846976) :
    Calls Try.prog 23 #[.slice A n c] w fun e w' => e = .returned (.bool (vo zs)) ∧ Below w.heap.size w w' := by
  go_enter Try.func23, Try.ntmps23
  go_wp2_with (go_at_call 35; refine (readOrder_any _ _ _ zs _ h hbig).mono ?_; rintro e w' ⟨hB, (⟨hv, b, rfl, _, _⟩ | ⟨hv, rfl⟩)⟩)
  all_goals
    go_ret
    exact ⟨ret_bool hv.symm, hB⟩
end Go.Proofs.Ytbjaomhmocblbaa

/- TimesOf's own law: the longest chain of pairs is the sum of both less 1; turned round it is that of both turned round. -/
namespace Go.Proofs.Ytbjaomhmocblbaa
open Go.RowKit Go.Shelf

set_option maxRecDepth 100000 in
set_option maxHeartbeats 8000000 in
theorem fnTimesOf_walk (A : Option Addr) (m c : Nat) (bs : List Int) (w : World) (h : Byts w w.heap.size A m bs) (hcap : m ≤ c) :
    Calls Try.prog 7 #[.slice A m c] w fun e w' => e = .returned (.bool true) ∧ Below w.heap.size w w' := by
  by_cases hs : m ≤ 1048576
  · go_enter Try.func7, Try.ntmps7
    go_wp2_with fail
    refine (drawTimesOf_any A m c bs w h hcap (by omega)).mono ?_
    rintro e w1 ⟨A1, n, c1, zs, AV, nV, cV, ys, rfl, hn7, hn8, hI1, hV1, C1⟩
    have hlen := Lib.hid hI1.len
    have hlen2 := Lib.hid hV1.len
    cases hP : timesB zs ys
    · have HB := Lib.hid hP
      have HL := Lib.hid (timesR_no hP)
      clear hP
      go_wp2_with fail
      refine (TimesOf_any A1 n c1 zs AV nV cV ys w1 hI1 hV1 (by omega) (by omega)).mono ?_
      rw [HB.out]
      rintro e w2 ⟨A2, m2, c2, rfl, r2, hB2⟩
      have z2 := hB2.size
      have C2 := C1.trans (hB2.mono C1.size)
      have hI2 := hI1.to hB2 (Nat.le_refl _) z2
      have hV2 := hV1.to hB2 (Nat.le_refl _) z2
      have ha2 := r2.ints (B := w2.heap.size) (Nat.le_refl _)
      have e2 := r2.len
      clear hI1 hV1 hB2 C1 r2
      rw [HL.out] at ha2 e2
      simp only [List.length_nil] at e2
      subst e2
      go_wp2_with fail
      refine (specTimesOfF_any A1 n c1 zs AV nV cV ys w2 hI2 hV2 (by omega) (by omega)).mono ?_
      rw [HB.out]
      rintro e w3 ⟨A3, m3, c3, rfl, r3, hB3⟩
      have z3 := hB3.size
      have C3 := C2.trans (hB3.mono C2.size)
      have hI3 := hI2.to hB3 (Nat.le_refl _) z3
      have hV3 := hV2.to hB3 (Nat.le_refl _) z3
      have ha3 := ha2.to hB3 (Nat.le_refl _) z3
      have hb3 := r3.ints (B := w3.heap.size) (Nat.le_refl _)
      have e3 := r3.len
      clear hI2 hV2 ha2 hB3 C2 r3
      rw [HL.out] at hb3 e3
      simp only [List.length_nil] at e3
      subst e3
      go_wp2_with fail
      refine (equalSame_any _ _ _ _ _ _ _ _ _ _ ha3 hb3 (by omega) (by omega)).mono ?_
      rintro e w4 ⟨rfl, hB4⟩
      have z4 := hB4.size
      have C4 := C3.trans (hB4.mono C3.size)
      have hI4 := hI3.to hB4 (Nat.le_refl _) z4
      have hV4 := hV3.to hB4 (Nat.le_refl _) z4
      have ha4 := ha3.to hB4 (Nat.le_refl _) z4
      have hb4 := hb3.to hB4 (Nat.le_refl _) z4
      clear hI3 hV3 ha3 hb3 hB4 C3
      go_wp2_with fail
      refine (equalSame_any _ _ _ _ _ _ _ _ _ _ ha4 hb4 (by omega) (by omega)).mono ?_
      rintro e w5 ⟨rfl, hB5⟩
      have z5 := hB5.size
      have C5 := C4.trans (hB5.mono C4.size)
      have hI5 := hI4.to hB5 (Nat.le_refl _) z5
      have hV5 := hV4.to hB5 (Nat.le_refl _) z5
      have ha5 := ha4.to hB5 (Nat.le_refl _) z5
      have hb5 := hb4.to hB5 (Nat.le_refl _) z5
      clear hI4 hV4 ha4 hb4 hB5 C4
      go_wp2_with fail
      go_ret
      exact ⟨rfl, C5⟩
    · obtain ⟨hvo, hvy, hnm⟩ := timesB_parts hP
      have HB := Lib.hid hP
      clear hP
      have hn6 : n ≤ 6 := by have := hvo.1; rw [hlen.out] at this; exact this
      have hn6y : nV ≤ 6 := by have := hvy.1; rw [hlen2.out] at this; exact this
      rw [hlen.out, hlen2.out] at hnm
      obtain ⟨N, hN⟩ : ∃ N, n * nV = N := ⟨_, rfl⟩
      obtain ⟨T, hT⟩ : ∃ T, tmL zs ys = T := ⟨_, rfl⟩
      have hvT : VoP T := by rw [← hT]; exact tm_vo hlen.out hlen2.out hvo hvy hnm
      have hTl : T.length = N := by rw [← hT, tmL_len, hlen.out, hlen2.out, hN]
      have HTl := Lib.hid hTl
      have HR := Lib.hid (show timesR zs ys = T by rw [timesR_yes HB.out, hT])
      have hl1 : (du zs).length = n := by rw [du_len, hlen.out]
      have hl2 : (du ys).length = nV := by rw [du_len, hlen2.out]
      have HBd := Lib.hid (timesB_yes hl1 hl2 (du_vo hvo) (du_vo hvy) hnm)
      have HRd := Lib.hid (show timesR (du zs) (du ys) = du T by rw [timesR_yes HBd.out, ← hT]; exact (tm_du hlen.out hlen2.out hvo hvy hnm).symm)
      have hdl : (du T).length = N := by rw [du_len, hTl]
      have Hdl := Lib.hid hdl
      have Hl1 := Lib.hid hl1
      have Hl2 := Lib.hid hl2
      have HD := Lib.hid (show dualR zs = du zs by unfold dualR; rw [vo_true hvo]; rfl)
      have HD2 := Lib.hid (show dualR ys = du ys by unfold dualR; rw [vo_true hvy]; rfl)
      have HDT := Lib.hid (show dualR T = du T by unfold dualR; rw [vo_true hvT]; rfl)
      have HVT := Lib.hid (show vo T = true from vo_true hvT)
      have hwe : (n : Int) * (nV : Int) = (N : Int) := by rw [← hN, Int.natCast_mul]
      have hN6 : N ≤ 6 := by omega
      have hwr : wrap64 ((n : Int) * (nV : Int)) = (N : Int) := by rw [hwe]; exact IntWalk.wrap64_in _ ⟨by omega, by omega⟩
      have Hwr := Lib.hid hwr
      clear hwr
      have hNb : N ≤ 1152921504606846976 := by omega
      obtain ⟨La, hLa⟩ := Int.eq_ofNat_of_zero_le (longI_nn zs)
      obtain ⟨Lb, hLb⟩ := Int.eq_ofNat_of_zero_le (longI_nn ys)
      obtain ⟨Lt, hLt⟩ := Int.eq_ofNat_of_zero_le (longI_nn T)
      have HLa := Lib.hid (show longR zs = (La : Int) by unfold longR; rw [vo_true hvo, ← hLa]; rfl)
      have HLb := Lib.hid (show longR ys = (Lb : Int) by unfold longR; rw [vo_true hvy, ← hLb]; rfl)
      have HLt := Lib.hid (show longR T = (Lt : Int) by unfold longR; rw [vo_true hvT, ← hLt]; rfl)
      have hla6 : La ≤ 6 := by have := longI_bd hvo; rw [hlen.out] at this; omega
      have hlb6 : Lb ≤ 6 := by have := longI_bd hvy; rw [hlen2.out] at this; omega
      have hsum : 0 < N → (Lt : Int) = (La : Int) + (Lb : Int) - 1 := fun h0 => by have := tm_long hlen.out hlen2.out hvo hvy hnm (by rw [hN]; exact h0); rw [hT] at this; omega
      have Hsum := Lib.hid hsum
      clear hwe hN hT hnm hLa hLb hLt hTl hdl hl1 hl2 hsum hvo hvy hvT
      go_wp2_with fail
      refine (TimesOf_any A1 n c1 zs AV nV cV ys w1 hI1 hV1 (by omega) (by omega)).mono ?_
      rw [HB.out]
      rintro e w2 ⟨A2, m2, c2, rfl, r2, hB2⟩
      have z2 := hB2.size
      have C2 := C1.trans (hB2.mono C1.size)
      have hI2 := hI1.to hB2 (Nat.le_refl _) z2
      have hV2 := hV1.to hB2 (Nat.le_refl _) z2
      have ha2 := r2.ints (B := w2.heap.size) (Nat.le_refl _)
      have e2 := r2.len
      clear hI1 hV1 hB2 C1 r2
      rw [HR.out] at ha2 e2
      rw [HTl.out] at e2
      subst e2
      go_wp2_with fail
      refine (specTimesOfF_any A1 n c1 zs AV nV cV ys w2 hI2 hV2 (by omega) (by omega)).mono ?_
      rw [HB.out]
      rintro e w3 ⟨A3, m3, c3, rfl, r3, hB3⟩
      have z3 := hB3.size
      have C3 := C2.trans (hB3.mono C2.size)
      have hI3 := hI2.to hB3 (Nat.le_refl _) z3
      have hV3 := hV2.to hB3 (Nat.le_refl _) z3
      have ha3 := ha2.to hB3 (Nat.le_refl _) z3
      have hb3 := r3.ints (B := w3.heap.size) (Nat.le_refl _)
      have e3 := r3.len
      clear hI2 hV2 ha2 hB3 C2 r3
      rw [HR.out] at hb3 e3
      rw [HTl.out] at e3
      subst e3
      go_wp2_with fail
      refine (equalSame_any _ _ _ _ _ _ _ _ _ _ ha3 hb3 (by omega) (by omega)).mono ?_
      rintro e w4 ⟨rfl, hB4⟩
      have z4 := hB4.size
      have C4 := C3.trans (hB4.mono C3.size)
      have hI4 := hI3.to hB4 (Nat.le_refl _) z4
      have hV4 := hV3.to hB4 (Nat.le_refl _) z4
      have ha4 := ha3.to hB4 (Nat.le_refl _) z4
      have hb4 := hb3.to hB4 (Nat.le_refl _) z4
      clear hI3 hV3 ha3 hb3 hB4 C3
      clear hb4
      go_wp2_with fail
      refine (DualOf_any A1 n c1 zs w4 hI4 (by omega)).mono ?_
      rintro e w5 ⟨A5, m5, c5, rfl, r5, hB5⟩
      have z5 := hB5.size
      have C5 := C4.trans (hB5.mono C4.size)
      have hI5 := hI4.to hB5 (Nat.le_refl _) z5
      have hV5 := hV4.to hB5 (Nat.le_refl _) z5
      have ha5 := ha4.to hB5 (Nat.le_refl _) z5
      have hd5 := r5.ints (B := w5.heap.size) (Nat.le_refl _)
      have e5 := r5.len
      clear hI4 hV4 ha4 hB5 C4 r5
      rw [HD.out] at hd5 e5
      rw [Hl1.out] at e5
      subst e5
      go_wp2_with fail
      refine (DualOf_any AV nV cV ys w5 hV5 (by omega)).mono ?_
      rintro e w6 ⟨A6, m6, c6, rfl, r6, hB6⟩
      have z6 := hB6.size
      have C6 := C5.trans (hB6.mono C5.size)
      have hI6 := hI5.to hB6 (Nat.le_refl _) z6
      have hV6 := hV5.to hB6 (Nat.le_refl _) z6
      have ha6 := ha5.to hB6 (Nat.le_refl _) z6
      have hd6 := hd5.to hB6 (Nat.le_refl _) z6
      have hf6 := r6.ints (B := w6.heap.size) (Nat.le_refl _)
      have e6 := r6.len
      clear hI5 hV5 ha5 hd5 hB6 C5 r6
      rw [HD2.out] at hf6 e6
      rw [Hl2.out] at e6
      subst e6
      go_wp2_with fail
      refine (TimesOf_any A5 n c5 (du zs) A6 nV c6 (du ys) w6 hd6 hf6 (by omega) (by omega)).mono ?_
      rw [HBd.out]
      rintro e w7 ⟨A7, m7, c7, rfl, r7, hB7⟩
      have z7 := hB7.size
      have C7 := C6.trans (hB7.mono C6.size)
      have hI7 := hI6.to hB7 (Nat.le_refl _) z7
      have hV7 := hV6.to hB7 (Nat.le_refl _) z7
      have ha7 := ha6.to hB7 (Nat.le_refl _) z7
      have hd7 := hd6.to hB7 (Nat.le_refl _) z7
      have hf7 := hf6.to hB7 (Nat.le_refl _) z7
      have hg7 := r7.ints (B := w7.heap.size) (Nat.le_refl _)
      have e7 := r7.len
      clear hI6 hV6 ha6 hd6 hf6 hB7 C6 r7
      rw [HRd.out] at hg7 e7
      rw [Hdl.out] at e7
      subst e7
      go_wp2_with fail
      refine (ValidOrder_any A2 N c2 T w7 ha7 (by omega)).mono ?_
      rw [HVT.out]
      rintro e w8 ⟨rfl, hB8⟩
      have z8 := hB8.size
      have C8 := C7.trans (hB8.mono C7.size)
      have hI8 := hI7.to hB8 (Nat.le_refl _) z8
      have hV8 := hV7.to hB8 (Nat.le_refl _) z8
      have ha8 := ha7.to hB8 (Nat.le_refl _) z8
      have hd8 := hd7.to hB8 (Nat.le_refl _) z8
      have hf8 := hf7.to hB8 (Nat.le_refl _) z8
      have hg8 := hg7.to hB8 (Nat.le_refl _) z8
      clear hI7 hV7 ha7 hd7 hf7 hg7 hB8 C7
      have hwr := Hwr.out
      have hNN : ((N : Int) == (N : Int)) = true := by simp
      go_wp2_with fail
      refine (DualOf_any A2 N c2 T w8 ha8 hNb).mono ?_
      rintro e w9 ⟨A9, m9, c9, rfl, r9, hB9⟩
      have z9 := hB9.size
      have C9 := C8.trans (hB9.mono C8.size)
      have hI9 := hI8.to hB9 (Nat.le_refl _) z9
      have hV9 := hV8.to hB9 (Nat.le_refl _) z9
      have ha9 := ha8.to hB9 (Nat.le_refl _) z9
      have hd9 := hd8.to hB9 (Nat.le_refl _) z9
      have hf9 := hf8.to hB9 (Nat.le_refl _) z9
      have hg9 := hg8.to hB9 (Nat.le_refl _) z9
      have hh9 := r9.ints (B := w9.heap.size) (Nat.le_refl _)
      have e9 := r9.len
      clear hI8 hV8 ha8 hd8 hf8 hg8 hB9 C8 r9
      clear hwr hNN
      rw [HDT.out] at hh9 e9
      rw [Hdl.out] at e9
      subst e9
      go_wp2_with fail
      refine (equalSame_any _ _ _ _ _ _ _ _ _ _ hh9 hg9 (by omega) (by omega)).mono ?_
      rintro e w10 ⟨rfl, hB10⟩
      have z10 := hB10.size
      have C10 := C9.trans (hB10.mono C9.size)
      have hI10 := hI9.to hB10 (Nat.le_refl _) z10
      have hV10 := hV9.to hB10 (Nat.le_refl _) z10
      have ha10 := ha9.to hB10 (Nat.le_refl _) z10
      have hd10 := hd9.to hB10 (Nat.le_refl _) z10
      have hf10 := hf9.to hB10 (Nat.le_refl _) z10
      have hg10 := hg9.to hB10 (Nat.le_refl _) z10
      have hh10 := hh9.to hB10 (Nat.le_refl _) z10
      clear hI9 hV9 ha9 hd9 hf9 hg9 hh9 hB10 C9
      by_cases hn0 : N = 0
      · have hnb : ((N : Int) == 0) = true := by simpa using hn0
        clear hn0
        go_wp2_with fail
        go_ret
        exact ⟨rfl, C10⟩
      · have hnb : ((N : Int) == 0) = false := by simpa using hn0
        have Hss := Lib.hid (show ((Lt : Int) == (La : Int) + (Lb : Int) - 1) = true by have := Hsum.out (by omega); simpa using this)
        clear hn0
        go_wp2_with fail
        refine (LongestChain_any A2 N c2 T w10 ha10 (by omega)).mono ?_
        rw [HLt.out]
        rintro e w11 ⟨rfl, hB11⟩
        have z11 := hB11.size
        have C11 := C10.trans (hB11.mono C10.size)
        have hI11 := hI10.to hB11 (Nat.le_refl _) z11
        have hV11 := hV10.to hB11 (Nat.le_refl _) z11
        have ha11 := ha10.to hB11 (Nat.le_refl _) z11
        have hd11 := hd10.to hB11 (Nat.le_refl _) z11
        have hf11 := hf10.to hB11 (Nat.le_refl _) z11
        have hg11 := hg10.to hB11 (Nat.le_refl _) z11
        have hh11 := hh10.to hB11 (Nat.le_refl _) z11
        clear hI10 hV10 ha10 hd10 hf10 hg10 hh10 hB11 C10
        go_wp2_with fail
        refine (LongestChain_any A1 n c1 zs w11 hI11 (by omega)).mono ?_
        rw [HLa.out]
        rintro e w12 ⟨rfl, hB12⟩
        have z12 := hB12.size
        have C12 := C11.trans (hB12.mono C11.size)
        have hI12 := hI11.to hB12 (Nat.le_refl _) z12
        have hV12 := hV11.to hB12 (Nat.le_refl _) z12
        have ha12 := ha11.to hB12 (Nat.le_refl _) z12
        have hd12 := hd11.to hB12 (Nat.le_refl _) z12
        have hf12 := hf11.to hB12 (Nat.le_refl _) z12
        have hg12 := hg11.to hB12 (Nat.le_refl _) z12
        have hh12 := hh11.to hB12 (Nat.le_refl _) z12
        clear hI11 hV11 ha11 hd11 hf11 hg11 hh11 hB12 C11
        go_wp2_with fail
        refine (LongestChain_any AV nV cV ys w12 hV12 (by omega)).mono ?_
        rw [HLb.out]
        rintro e w13 ⟨rfl, hB13⟩
        have z13 := hB13.size
        have C13 := C12.trans (hB13.mono C12.size)
        have hI13 := hI12.to hB13 (Nat.le_refl _) z13
        have hV13 := hV12.to hB13 (Nat.le_refl _) z13
        have ha13 := ha12.to hB13 (Nat.le_refl _) z13
        have hd13 := hd12.to hB13 (Nat.le_refl _) z13
        have hf13 := hf12.to hB13 (Nat.le_refl _) z13
        have hg13 := hg12.to hB13 (Nat.le_refl _) z13
        have hh13 := hh12.to hB13 (Nat.le_refl _) z13
        clear hI12 hV12 ha12 hd12 hf12 hg12 hh12 hB13 C12
        have hLL := Hss.out
        go_wp2_with fail
        go_ret
        exact ⟨rfl, C13⟩
  · go_enter Try.func7, Try.ntmps7
    go_wp2
    go_ret
    exact ⟨rfl, Below.refl _ _⟩
end Go.Proofs.Ytbjaomhmocblbaa

/- Spans of an order: the program's. -/
import Derived.Test.YtdcdddmjffgibaaGreatPlI
import Derived.Test.YtdcdddmjffgibaaGreatSpM
import Derived.Test.YtdcdddmjffgibaaGreatTwP
import Derived.RegionTactic
import Derived.Test.YtdcdddmjffgibaaGreatGa
set_option linter.unusedVariables false
set_option linter.unusedSimpArgs false
namespace Go.Proofs.YtdcdddmjffgibaaGreat
open Go.RowKit Go.Shelf

theorem infoSpan : (Tryz.prog.info? 69).map (fun i => (i.zero, i.size, i.bytes)) = some (some (.agg #[.int .i64 0, .int .i64 0]), 2, 16) := by kernel_rfl
theorem run_make_span (n : Nat) (hn : n ≤ 6) (w : World) :
    (Instr.makeSlice 45 (.int .i64 (n : Int)) (.int .i64 (n : Int))).run Tryz.prog w = .ok (.slice (some ⟨w.heap.size, 0, none⟩) n n) (w.alloc (.cells (madeCells #[.int .i64 0, .int .i64 0] (n * 2)) 69)) := by
  obtain ⟨i, hi, hzz⟩ := Option.map_eq_some_iff.1 infoSpan
  simp only [Prod.mk.injEq] at hzz
  obtain ⟨hz, hs, hb⟩ := hzz
  have h := run_make (P := Tryz.prog) w 45 69 i _ Tryz.underlying45 hi hz .i64 .i64 (n : Int) (n : Int) (by omega) (by omega) (by rw [hb]; omega) (by omega)
  rw [hs] at h
  have e : (Value.agg #[Value.int IntKind.i64 0, Value.int IntKind.i64 0]).cells = #[Value.int IntKind.i64 0, Value.int IntKind.i64 0] := by rfl
  rw [e] at h
  simpa using h
theorem Arr.new2 (w : World) (t : TypeId) (n : Nat) : Arr (w.alloc (.cells (madeCells #[.int .i64 0, .int .i64 0] (n * 2)) t)) w.heap.size t (List.replicate (n * 2) 0) := by
  have h := heap_alloc_new w (.cells (madeCells #[Value.int .i64 0, Value.int .i64 0] (n * 2)) t)
  unfold Arr
  rw [h]
  congr 2
  apply Array.ext
  · simp [madeCells]
  · intro i h1 h2
    simp [madeCells]
    have : i % 2 = 0 ∨ i % 2 = 1 := by omega
    rcases this with e | e <;> simp [e]

/-- Spans as numbers: the first and the last one of each. -/
def flS (fs ls : List Int) : List Int := (List.range fs.length).flatMap fun i => [fs[i]?.getD 0, ls[i]?.getD 0]
theorem flS_to (fs ls : List Int) (k : Nat) : ((List.range k).flatMap fun i => [fs[i]?.getD 0, ls[i]?.getD 0]).length = k * 2 := by
  induction k with
  | zero => rfl
  | succ k ih => rw [List.range_succ, List.flatMap_append, List.length_append, ih]; simp; omega
theorem flS_len (fs ls : List Int) : (flS fs ls).length = fs.length * 2 := flS_to fs ls _
theorem flS_get (fs ls : List Int) {i : Nat} (hi : i < fs.length) : (flS fs ls)[i * 2]?.getD 0 = fs[i]?.getD 0 ∧ (flS fs ls)[i * 2 + 1]?.getD 0 = ls[i]?.getD 0 := by
  have key : ∀ m : Nat, i < m → (((List.range m).flatMap fun i => [fs[i]?.getD 0, ls[i]?.getD 0])[i * 2]?.getD 0 = fs[i]?.getD 0 ∧ ((List.range m).flatMap fun i => [fs[i]?.getD 0, ls[i]?.getD 0])[i * 2 + 1]?.getD 0 = ls[i]?.getD 0) := fun m => by
    induction m with
    | zero => intro h; omega
    | succ m ih =>
      intro h
      have hl := flS_to fs ls m
      rw [List.range_succ, List.flatMap_append]
      rcases Nat.lt_or_ge i m with h1 | h1
      · rw [List.getElem?_append_left (by omega), List.getElem?_append_left (by omega)]
        exact ih h1
      · obtain rfl : i = m := by omega
        rw [List.getElem?_append_right (by omega), List.getElem?_append_right (by omega), hl]
        simp
  exact key _ hi
theorem getD_some' {l : List Int} {k : Nat} {v : Int} (hk : k < l.length) (h : l[k]?.getD 0 = v) : l[k]? = some v := by
  rw [List.getElem?_eq_getElem hk] at h ⊢
  simpa using h
theorem copied_two {zs : List Int} {n k : Nat} {a b : Int} (h : zs.length = n * 2) (hk : k < n) (ha : zs[k * 2]?.getD 0 = a) (hb : zs[k * 2 + 1]?.getD 0 = b) : ((copied zs (n * 2) (k * 2)).set (k * 2) a).set (k * 2 + 1) b = copied zs (n * 2) ((k + 1) * 2) := by
  rw [← ha, ← hb, copied_succ h (by omega), copied_succ h (by omega), show k * 2 + 1 + 1 = (k + 1) * 2 by omega]

set_option maxRecDepth 100000 in
set_option maxHeartbeats 2000000 in
theorem ospans_any (A : Option Addr) (n c : Nat) (zs : List Int) (hvo : VoP zs) (ht : twoB zs = false) (w : World) (hA : Ints w w.heap.size A n zs) (hAb : ∀ a, A = some a → a.block < w.heap.size) :
    Calls Tryz.prog 25 #[.slice A n c] w fun e W' => ∃ b, e = .returned (.slice (some ⟨b, 0, none⟩) n n) ∧ w.heap.size ≤ b ∧ Arr W' b 69 (flS (plR popI (du zs)) (plR (fun x => -popI x) zs)) ∧ Below w.heap.size w W' := by
  have Hlen := Lib.hid hA.len
  have hn6 : n ≤ 6 := by have := hvo.1; rw [Hlen.out] at this; exact this
  have hmk := run_make_span n hn6
  go_enter Tryz.func25, Tryz.ntmps25
  go_wp2_with fail
  refine (dual_any A n c zs hvo.sets w hA).mono ?_
  rintro e w1 ⟨rfl, hD1, hB1⟩
  have hD1 : Arr w1 w.heap.size 59 (du zs) := by unfold du; rw [Hlen.out]; exact hD1
  have z1 := hB1.size
  have Hdl := Lib.hid (show (du zs).length = n by rw [du_len]; exact Hlen.out)
  go_wp2_with fail
  refine (placesBy_any popI _ n n (du zs) w1 (hD1.ints' hD1.lt Hdl.out) (fun j hj => (du_vo hvo).bd j (by rw [Hdl.out]; exact hj)) hn6 (fun a ha => by cases ha; exact hD1.lt) (enters_of Tryz.func49 (by kernel_rfl) rfl) (fun a b W h1 h2 => bySize_any a b W h1 h2) (fun x hx y hy e => ?_)).mono ?_
  · obtain ⟨i, hi, rfl⟩ := mem_at.1 hx
    obtain ⟨j, hj, rfl⟩ := mem_at.1 hy
    rw [du_len] at hi hj
    have h1 := col_lt hvo ht hi hj
    have h2 := col_lt hvo ht hj hi
    exact tau_inj hvo ht hi hj (by omega)
  rintro e w2 ⟨b2, rfl, hb2, hF2, hB2⟩
  have z2 := hB2.size
  have C2 := hB1.trans (hB2.mono z1)
  go_wp2_with fail
  refine (placesBy_any (fun x => -popI x) A n c zs w2 ((hA.below C2).more (by omega)) (fun j hj => hvo.bd j (by rw [Hlen.out]; exact hj)) hn6 (fun a ha => by have := hAb a ha; omega) (enters_of Tryz.func50 (by kernel_rfl) rfl) (fun a b W h1 h2 => byFalling_any a b W h1 h2) (fun x hx y hy e => ?_)).mono ?_
  · obtain ⟨i, hi, rfl⟩ := mem_at.1 hx
    obtain ⟨j, hj, rfl⟩ := mem_at.1 hy
    exact ups_inj hvo ht hi hj (by unfold pU; omega)
  rintro e w3 ⟨b3, rfl, hb3, hL3, hB3⟩
  have z3 := hB3.size
  have C3 := C2.trans (hB3.mono (by omega))
  have hF3 := hF2.below hB3 hF2.lt
  have hfl := plR_len popI (du zs)
  have hll := plR_len (fun x => -popI x) zs
  rw [Hdl.out] at hfl
  rw [Hlen.out] at hll
  have hSl := flS_len (plR popI (du zs)) (plR (fun x => -popI x) zs)
  rw [hfl] at hSl
  have Hget := Lib.hid (fun (i : Nat) (hi : i < n) => flS_get (plR popI (du zs)) (plR (fun x => -popI x) zs) (i := i) (by rw [hfl]; exact hi))
  generalize hSS : flS (plR popI (du zs)) (plR (fun x => -popI x) zs) = SS at Hget hSl
  have HSS := Lib.hid hSS
  clear hSS hF2
  generalize plR popI (du zs) = fs at hF3 Hget hfl
  generalize plR (fun x => -popI x) zs = ls at hL3 Hget hll
  have HSl := Lib.hid hSl
  have Hfl := Lib.hid hfl
  have Hll := Lib.hid hll
  clear hSl hfl hll
  go_wp2_with fail
  have hA4 := Arr.new2 w3 69 n
  have hB4 : Below w.heap.size w (w3.alloc (.cells (madeCells #[.int .i64 0, .int .i64 0] (n * 2)) 69)) := C3.alloc (by omega) _
  have hF4 := hF3.alloc (.cells (madeCells #[.int .i64 0, .int .i64 0] (n * 2)) 69)
  have hL4 := hL3.alloc (.cells (madeCells #[.int .i64 0, .int .i64 0] (n * 2)) 69)
  have Z4 := Lib.hid (show (w3.alloc (.cells (madeCells #[.int .i64 0, .int .i64 0] (n * 2)) 69)).heap.size = w3.heap.size + 1 by simp)
  obtain ⟨W4, hW4⟩ : ∃ W4, w3.alloc (.cells (madeCells #[.int .i64 0, .int .i64 0] (n * 2)) 69) = W4 := ⟨_, rfl⟩
  rw [hW4] at hA4 hB4 hF4 hL4 Z4 ⊢
  clear hW4 hmk
  go_loopw [17] (fun i wr => ∃ k : Nat, k ≤ n ∧ i = .int .i64 k ∧ Arr wr w3.heap.size 69 (copied SS (n * 2) (k * 2)) ∧ Upd (fun q => q = w3.heap.size) W4 wr) (fun i _ => n - (intOf i).toNat)
  case atStart => exact ⟨0, by omega, rfl, by rw [Nat.zero_mul, copied_zero]; exact hA4, Upd.refl _ _⟩
  case round =>
    obtain ⟨k, hk, rfl, hAr, hU⟩ := hrel
    have Hcl := Lib.hid (copied_len HSl.out (show k * 2 ≤ n * 2 by omega))
    have zU := hU.size
    by_cases hlt : k < n
    · have hlf := hF3.lt
      have hll := hL3.lt
      have hfk := hU.cell (hF4.cell (k := k) (by rw [Hfl.out]; exact hlt)) (by simp; omega)
      have hlk := hU.cell (hL4.cell (k := k) (by rw [Hll.out]; exact hlt)) (by simp; omega)
      have hc0 := hAr.cell (k := k * 2) (by rw [Hcl.out]; omega)
      have hc1 := hAr.cell (k := k * 2 + 1) (by rw [Hcl.out]; omega)
      have hf0 := hAr.frozen (k * 2)
      have hf1 := hAr.frozen (k * 2 + 1)
      obtain ⟨hg0, hg1⟩ := Hget.out k hlt
      have Hcp := Lib.hid (copied_two HSl.out hlt hg0 hg1)
      clear hg0 hg1
      generalize fs[k]?.getD 0 = fk at *
      generalize ls[k]?.getD 0 = lk at *
      go_wp2_with fail
      go_region
      all_goals
        go_wp2
        go_roundw
        case rel => exact ⟨k + 1, by omega, by go_num, by rw [← Hcp.out]; exact (hAr.set _ _).set _ _, ((hU.setCell (p := ⟨w3.heap.size, k * 2, none⟩) (.inr rfl) _).setCell (p := ⟨w3.heap.size, k * 2 + 1, none⟩) (.inr rfl) _).drew⟩
        case measure => simp [intOf]; omega
    · obtain rfl : k = n := by omega
      have Hfull := Lib.hid (copied_full HSl.out)
      go_wp2
      go_ret
      exact ⟨_, rfl, by omega, by rw [HSS.out, ← Hfull.out]; exact hAr, ((Below.toUpd hB4).trans' hU (fun i hi e => by omega)).toBelow (fun k e => e) (Nat.le_refl _)⟩

/-- Rows of the first and the last one of each span. -/
def rwS (fs ls : List Int) : List (List Int) := (List.range fs.length).map fun i => [fs[i]?.getD 0, ls[i]?.getD 0]
theorem rwS_len (fs ls : List Int) : (rwS fs ls).length = fs.length := by simp [rwS]
theorem rwS_snoc (fs ls : List Int) {k : Nat} (hk : k < fs.length) : (rwS fs ls).take (k + 1) = (rwS fs ls).take k ++ [[fs[k]?.getD 0, ls[k]?.getD 0]] := by
  rw [List.take_succ_eq_append_getElem (by rw [rwS_len]; exact hk)]
  simp [rwS]

set_option maxRecDepth 100000 in
set_option maxHeartbeats 2000000 in
theorem rowsOf_any (b n c : Nat) (fs ls : List Int) (w : World) (hS : Arr w b 69 (flS fs ls)) (hl : fs.length = n) (hn : n ≤ 6) :
    Calls Tryz.prog 24 #[.slice (some ⟨b, 0, none⟩) n c] w (GivesRows w (rwS fs ls)) := by
  have Hl := Lib.hid hl
  have Hrl := Lib.hid (show (rwS fs ls).length = n by rw [rwS_len]; exact hl)
  have hSl := flS_len fs ls
  rw [hl] at hSl
  have HSl := Lib.hid hSl
  have hlt := hS.lt
  clear hl hSl
  have hmk := run_make_row' (P := Tryz.prog) 26 23 (.slice none 0 0) 24 Tryz.underlying26 infoRow rfl .i64 .i64 n (by omega) (by omega)
  go_enter Tryz.func24, Tryz.ntmps24
  go_wp2_with fail
  have hG : (w.alloc (.cells (madeCells #[Value.slice none 0 0] n) 23)).heap[w.heap.size]? = some (.cells (madeCells #[Value.slice none 0 0] n) 23 (0, 0)) := heap_alloc_new w _
  have hU0 : Upd (fun _ => False) w (w.alloc (.cells (madeCells #[Value.slice none 0 0] n) 23)) := (Upd.refl _ w).alloc _
  have Z0 := Lib.hid (show (w.alloc (.cells (madeCells #[Value.slice none 0 0] n) 23)).heap.size = w.heap.size + 1 by simp)
  obtain ⟨W0, hW0⟩ : ∃ W0, w.alloc (.cells (madeCells #[Value.slice none 0 0] n) 23) = W0 := ⟨_, rfl⟩
  rw [hW0] at hG hU0 Z0 ⊢
  have hS0 := hS.upd hU0 (fun e => e)
  clear hW0 hmk
  go_loopw [11] (fun i wr => ∃ (k : Nat) (vs : List Value) (cs : Array Value), k ≤ n ∧ i = .int .i64 k ∧ wr.heap[w.heap.size]? = some (.cells cs 23 (0, 0)) ∧ (∀ (j : Nat) (u : Value), vs[j]? = some u → cs[j]? = some u) ∧ cs.size = n ∧ vs.length = k ∧ RowsC wr (w.heap.size + 1) wr.heap.size vs ((rwS fs ls).take k) ∧ Upd (fun q => q = w.heap.size) W0 wr) (fun i _ => n - (intOf i).toNat)
  case atStart => exact ⟨0, [], _, by omega, rfl, hG, fun j u h => by simp at h, size_madeCells _ _, rfl, by rw [Z0.out]; exact Nat.le_refl _, Upd.refl _ _⟩
  case round =>
    obtain ⟨k, vs, cs, hk, rfl, hg, hvs, hcs, hvl, hR, hU⟩ := hrel
    rename World => wr
    have zU := hU.size
    by_cases hltk : k < n
    · have hSr := hS0.upd hU (by omega)
      have hc0 := hSr.cell (k := k * 2) (by rw [HSl.out]; omega)
      have hc1 := hSr.cell (k := k * 2 + 1) (by rw [HSl.out]; omega)
      obtain ⟨hg0, hg1⟩ := flS_get fs ls (i := k) (by rw [Hl.out]; exact hltk)
      rw [hg0] at hc0
      rw [hg1] at hc1
      have Hsn := Lib.hid (rwS_snoc fs ls (k := k) (by rw [Hl.out]; exact hltk))
      clear hg0 hg1
      generalize fs[k]?.getD 0 = fk at *
      generalize ls[k]?.getD 0 = lk at *
      have hgc : wr.cell? ⟨w.heap.size, k, none⟩ = some (cs[k]?.getD undef) := by
        rw [cell_of_row wr w.heap.size k _ _ (0, 0) hg, Array.getElem?_eq_getElem (by omega)]; rfl
      have hgf : wr.frozen? ⟨w.heap.size, k, none⟩ = false := frozen_of_row _ _ k _ _ hg
      have Hv := Lib.hid hvs
      clear hvs
      obtain ⟨W5, hW5⟩ : ∃ W5, (wr.alloc (.cells #[Value.int .i64 fk, .int .i64 lk] 69)).alloc (.cells #[Value.int .i64 fk, .int .i64 lk] 3) = W5 := ⟨_, rfl⟩
      have hU5 : Upd (fun _ => False) wr W5 := by rw [← hW5]; exact ((Upd.refl _ _).alloc _).alloc _
      have hA5 : Arr W5 (wr.heap.size + 1) 3 [fk, lk] := by
        rw [← hW5]
        have := heap_alloc_new (wr.alloc (.cells #[Value.int .i64 fk, .int .i64 lk] 69)) (.cells #[Value.int .i64 fk, .int .i64 lk] 3)
        rwa [World.size_alloc] at this
      have z5 : W5.heap.size = wr.heap.size + 2 := by rw [← hW5]; simp
      have hgc5 := hU5.cell hgc (fun e => e)
      have hgl : w.heap.size < wr.heap.size := by rw [Z0.out] at zU; omega
      have hgf5 : W5.frozen? ⟨w.heap.size, k, none⟩ = false := (hU5.frozen hgl (fun e => e)).trans hgf
      have hg5 : W5.heap[w.heap.size]? = some (.cells cs 23 (0, 0)) := (hU5.block _ hgl (fun e => e)).trans hg
      have HW5 := Lib.hid hW5
      have hgc6 : ((wr.alloc (.cells #[Value.int .i64 fk, .int .i64 lk] 69)).alloc (.cells #[Value.int .i64 fk, .int .i64 lk] 3)).cell? ⟨w.heap.size, k, none⟩ = some (cs[k]?.getD undef) := by rw [HW5.out]; exact hgc5
      have hgf6 : ((wr.alloc (.cells #[Value.int .i64 fk, .int .i64 lk] 69)).alloc (.cells #[Value.int .i64 fk, .int .i64 lk] 3)).frozen? ⟨w.heap.size, k, none⟩ = false := by rw [HW5.out]; exact hgf5
      clear hW5 hgc hgf hgc5 hgf5
      go_wp2_with fail
      have he : (((wr.setCell ⟨w.heap.size, k, none⟩ (.slice (some ⟨wr.heap.size + 1, 0, none⟩) 2 2)).alloc (.cells #[Value.int .i64 fk, .int .i64 lk] 69)).alloc (.cells #[Value.int .i64 fk, .int .i64 lk] 3)) = W5.setCell ⟨w.heap.size, k, none⟩ (.slice (some ⟨wr.heap.size + 1, 0, none⟩) 2 2) := by
        rw [← HW5.out, World.setCell_alloc_past _ _ _ _ (by simp; omega), World.setCell_alloc_past _ _ _ _ hgl]
      rw [he]
      have hR5 := (hR.upd hU5 (fun j e => e.elim)).snoc (hi' := wr.heap.size + 2) (r := [fk, lk]) (c := 2) (Row.of hA5 rfl (by omega) (by omega)) (by omega)
      have hUs : Upd (fun q => q = w.heap.size) W5 (W5.setCell ⟨w.heap.size, k, none⟩ (.slice (some ⟨wr.heap.size + 1, 0, none⟩) 2 2)) := (Upd.refl (fun q => q = w.heap.size) W5).setCell (p := ⟨w.heap.size, k, none⟩) (.inr rfl) _
      go_roundw
      case rel =>
        refine ⟨k + 1, vs ++ [.slice (some ⟨wr.heap.size + 1, 0, none⟩) 2 2], cs.setIfInBounds k (.slice (some ⟨wr.heap.size + 1, 0, none⟩) 2 2), by omega, by go_num, ?_, fun j u hj => ?_, by simpa using hcs, by simp [hvl], ?_, (hU.trans' hU5 (fun i hi e => e.elim)).trans' hUs (fun i hi e => e)⟩
        · simp [World.setCell, Array.getElem?_modify, hg5]
        · rcases Nat.lt_or_ge j vs.length with h1 | h1
          · rw [List.getElem?_append_left h1] at hj
            rw [Array.getElem?_setIfInBounds_ne (by omega)]
            exact Hv.out j u hj
          · rw [List.getElem?_append_right h1] at hj
            have : j = k := by
              rcases Nat.eq_zero_or_pos (j - vs.length) with h2 | h2
              · omega
              · rw [List.getElem?_eq_none (by simp; omega)] at hj; cases hj
            subst this
            rw [hvl, Nat.sub_self] at hj
            simp at hj
            subst hj
            rw [Array.getElem?_setIfInBounds_self_of_lt (by omega)]
        · rw [Hsn.out]
          have z6 : (W5.setCell ⟨w.heap.size, k, none⟩ (.slice (some ⟨wr.heap.size + 1, 0, none⟩) 2 2)).heap.size = wr.heap.size + 2 := by simp [World.setCell, z5]
          rw [z6]
          exact hR5.upd hUs (fun j e => by omega)
      case measure => simp [intOf]; omega
    · obtain rfl : k = n := by omega
      have Hfull := Lib.hid (show (rwS fs ls).take k = rwS fs ls from List.take_of_length_le (by rw [Hrl.out]; exact Nat.le_refl _))
      rw [Hfull.out] at hR
      go_wp2
      go_ret
      exact ⟨_, _, _, rfl, ⟨Hrl.out, fun _ => ⟨w.heap.size, vs, cs, rfl, Nat.le_refl _, by rw [Z0.out] at zU; omega, hg, hvs, hR.sooner (by omega)⟩⟩, ((hU0.mono fun _ _ e => e.elim).trans' hU (fun i hi e => e)).toBelow (R := fun q => q = w.heap.size) (fun k e => by omega) (Nat.le_refl _)⟩

/-! SpansOf, as both sides tell it. -/
def spR (zs : List Int) : List (List Int) := rwS (plR popI (du zs)) (plR (fun x => -popI x) zs)
def spansB (zs : List Int) : Bool := vo zs && !twoB zs
def spansR (zs : List Int) : List (List Int) := if spansB zs then spR zs else []
def GivesRowsB (w : World) (rs : List (List Int)) (t : Bool) (e : Ending) (w' : World) : Prop := ∃ A n c, e = .returned (.tuple #[.slice A n c, .bool t]) ∧ RowsR w' w.heap.size w'.heap.size A n rs ∧ Below w.heap.size w w'

set_option maxHeartbeats 1000000 in
theorem SpansOf_any (A : Option Addr) (n c : Nat) (zs : List Int) (w : World) (h : Ints w w.heap.size A n zs) (hbig : n ≤ 1152921504606846976) :
    Calls Tryz.prog 8 #[.slice A n c] w (GivesRowsB w (spansR zs) (spansB zs)) := by
  have hlen := Lib.hid h.len
  cases hv : vo zs
  · have Hb := Lib.hid (show spansB zs = false by unfold spansB; rw [hv]; rfl)
    have Hr := Lib.hid (show spansR zs = [] by unfold spansR; rw [Hb.out]; rfl)
    have Hv := Lib.hid hv
    clear hv
    rw [Hb.out, Hr.out]
    go_enter Tryz.func8, Tryz.ntmps8
    go_wp2_with fail
    refine (readOrder_any _ _ _ zs _ h hbig).mono ?_
    rintro e w' ⟨hB, (⟨hv, b, rfl, _, _⟩ | ⟨_, rfl⟩)⟩
    · rw [Hv.out] at hv; cases hv
    · go_wp2_with fail
      go_ret2
      exact ⟨none, 0, 0, rfl, RowsR.nil _ _ _ _, hB⟩
  · have hvo : VoP zs := by simpa [vo] using hv
    have hn6 : n ≤ 6 := by have := hvo.1; rw [hlen.out] at this; exact this
    have Hv := Lib.hid hv
    cases ht : twoB zs
    · have Hb := Lib.hid (show spansB zs = true by unfold spansB; rw [hv, ht]; rfl)
      have Hr := Lib.hid (show spansR zs = spR zs by unfold spansR; rw [Hb.out]; rfl)
      have Ht := Lib.hid ht
      clear hv
      rw [Hb.out, Hr.out]
      go_enter Tryz.func8, Tryz.ntmps8
      go_wp2_with fail
      refine (readOrder_any _ _ _ zs _ h hbig).mono ?_
      rintro e w' ⟨hB, (⟨_, b, rfl, hb, hAr⟩ | ⟨hv, _⟩)⟩
      · have zB := hB.size
        have hq := ohasTwo_any (some ⟨b, 0, none⟩) n n zs hvo w' (hAr.ints' hAr.lt hlen.out)
        rw [ht] at hq
        have hAb : ∀ a, some (⟨b, 0, none⟩ : Addr) = some a → a.block < w'.heap.size := fun a ha => by cases ha; exact hAr.lt
        have hlt := hAr.lt
        clear ht
        go_wp2_with (first
          | (go_at_call 21; refine hq.mono ?_; rintro e w2 ⟨rfl, hB2⟩)
          | (go_at_call 25; refine (ospans_any _ n n zs hvo Ht.out w2 ((hAr.below hB2 hAr.lt).ints' (by have := hB2.size; omega) hlen.out) (fun a ha => by have := hAb a ha; have := hB2.size; omega)).mono ?_; rintro e w3 ⟨b3, rfl, hb3, hS3, hB3⟩)
          | (go_at_call 24; refine (rowsOf_any b3 n n _ _ w3 hS3 (by rw [plR_len, du_len]; exact hlen.out) hn6).mono ?_; rintro e w4 ⟨A4, m4, c4, rfl, hR4, hB4⟩))
        go_ret2
        have z2 := hB2.size
        have z3 := hB3.size
        exact ⟨A4, m4, c4, rfl, hR4.sooner (by omega), ((hB.trans (hB2.mono zB)).trans (hB3.mono (by omega))).trans (hB4.mono (by omega))⟩
      · rw [Hv.out] at hv; cases hv
    · have Hb := Lib.hid (show spansB zs = false by unfold spansB; rw [hv, ht]; rfl)
      have Hr := Lib.hid (show spansR zs = [] by unfold spansR; rw [Hb.out]; rfl)
      clear hv
      rw [Hb.out, Hr.out]
      go_enter Tryz.func8, Tryz.ntmps8
      go_wp2_with fail
      refine (readOrder_any _ _ _ zs _ h hbig).mono ?_
      rintro e w' ⟨hB, (⟨_, b, rfl, hb, hAr⟩ | ⟨hv, _⟩)⟩
      · have zB := hB.size
        have hq := ohasTwo_any (some ⟨b, 0, none⟩) n n zs hvo w' (hAr.ints' hAr.lt hlen.out)
        rw [ht] at hq
        clear ht
        go_wp2_with (go_at_call 21; refine hq.mono ?_; rintro e w2 ⟨rfl, hB2⟩)
        go_ret2
        exact ⟨none, 0, 0, rfl, RowsR.nil _ _ _ _, hB.trans (hB2.mono zB)⟩
      · rw [Hv.out] at hv; cases hv
end Go.Proofs.YtdcdddmjffgibaaGreat

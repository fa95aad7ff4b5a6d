/- Texts that several claims share, one behind the other. -/
import Derived.Test.YtogiooecjfnkcaaDoorGb
import Derived.Test.YtogiooecjfnkcaaDoorRows
import Derived.Test.YtogiooecjfnkcaaDoorGa
import Derived.LaidHandle
import Derived.LaidLaws
import Derived.OrdersHeld
import Derived.Deep.RegionHeld3
/- A list that is drawn, an order most often. -/
namespace Go.Proofs.YtogiooecjfnkcaaDoor
open Go.RowKit Go.Shelf

set_option maxRecDepth 100000 in
set_option maxHeartbeats 4000000 in
theorem someOrder_any (R p : Nat) (w : World) (h : Rd w R p) (hp : p ≤ 700000) :
    Calls Tryd.prog 35 #[.pointer (some ⟨R, 0, none⟩), .int .i64 6] w fun e w' => ∃ A n c zs q, e = .returned (.slice A n c) ∧ n ≤ 7 ∧ Row w' w.heap.size w'.heap.size A n zs ∧ q ≤ 110 ∧ Rd w' R (p + q) ∧ Upd (fun k => k = R) w w' := by
  have hRl := h.lt
  go_enter Tryd.func35, Tryd.ntmps35
  go_wp2_with fail
  refine (goodOrder_any R p w h (by omega)).mono ?_
  rintro e w1 ⟨A, n, c, zs, q, rfl, hn6, r1, hq, hR1, hU1⟩
  have z1 := hU1.size
  by_cases hn : 0 < n
  · obtain ⟨b, ys, rfl, hb0, hb1, hAr⟩ := r1.2 hn
    have hlen := Lib.hid r1.len
    clear r1
    go_wp2_with fail
    refine (pick_any R (p + q) n w1 hR1 (by omega)).mono ?_
    rintro e w2 ⟨k, rfl, hk, hR2, hU2⟩
    obtain ⟨k0, k1⟩ := hk.1 (by omega)
    obtain ⟨k, rfl⟩ := Int.eq_ofNat_of_zero_le k0
    have hA2 := hAr.upd hU2 (by omega)
    have z2 := hU2.size
    have hUw2 := hU1.trans hU2
    clear hk hR1 hAr hU2
    go_wp2_with fail
    refine (pick_any R (p + q + 1) 40 w2 hR2 (by omega)).mono ?_
    rintro e w3 ⟨x, rfl, -, hR3, hU3⟩
    have hA3 := hA2.upd hU3 (by omega)
    have z3 := hU3.size
    have hUw3 := hUw2.trans hU3
    clear hR2 hA2 hU3 hUw2
    have hkl : k < (zs ++ ys).length := by rw [List.length_append, hlen.out]; omega
    have hck := hA3.cell hkl
    have hfk := hA3.frozen k
    have hset : ∀ v : Int, (zs ++ ys).set k v = zs.set k v ++ ys := fun v => List.set_append_left _ _ (by rw [hlen.out]; omega)
    have hpk : ∀ w, Calls Tryd.prog 39 #[.int .i64 (k : Int)] w fun e w' => e = .returned (.int .i64 (powI k)) ∧ w = w' := fun w => power_any _ _ (by omega) (by omega)
    have hpn : ∀ w, Calls Tryd.prog 39 #[.int .i64 (n : Int)] w fun e w' => e = .returned (.int .i64 (powI n)) ∧ w = w' := fun w => power_any _ _ (by omega) (by omega)
    by_cases x0 : x = 0
    · subst x0
      obtain ⟨z, hz⟩ : ∃ z, (zs ++ ys)[k]?.getD 0 = z := ⟨_, rfl⟩
      rw [hz] at hck
      have hRd : Rd w3.drew R (p + q + 1 + 1) := hR3
      have hcel : ∀ w4, Upd (fun k => k = R) w3.drew w4 → w4.cell? ⟨b, k, none⟩ = some (.int .i64 z) ∧ w4.frozen? ⟨b, k, none⟩ = false := fun w4 hU4 =>
        ⟨hU4.cell (p := ⟨b, k, none⟩) hck (by simp; omega), (hA3.drew.upd hU4 (by omega)).frozen k⟩
      have hfin : ∀ w4 xv, Upd (fun k => k = R) w3.drew w4 → Rd w4 R (p + q + 1 + 1 + 1) →
          Row (w4.setCell ⟨b, k, none⟩ (.int .i64 xv)) w.heap.size (w4.setCell ⟨b, k, none⟩ (.int .i64 xv)).heap.size (some ⟨b, 0, none⟩) n (zs.set k xv) ∧
          Rd (w4.setCell ⟨b, k, none⟩ (.int .i64 xv)) R (p + (q + 3)) ∧ Upd (fun k => k = R) w (w4.setCell ⟨b, k, none⟩ (.int .i64 xv)) := fun w4 xv hU4 hR4 => by
        have hA4 := hA3.drew.upd hU4 (by omega)
        have z4 : w3.heap.size ≤ w4.heap.size := hU4.size
        have hU4' := hUw3.drew.trans hU4
        have hA6 := hA4.set k xv
        rw [hset] at hA6
        have hU6 : Upd (fun i => w.heap.size ≤ i ∧ i = b) w4 (w4.setCell ⟨b, k, none⟩ (.int .i64 xv)) := (Upd.refl (fun i => w.heap.size ≤ i ∧ i = b) w4).setCell (p := ⟨b, k, none⟩) (.inr ⟨hb0, rfl⟩) _
        refine ⟨⟨by simpa using hlen.out, fun _ => ⟨b, ys, rfl, hb0, by simp [World.setCell]; omega, hA6⟩⟩, ?_, hU4'.trans' hU6 (fun i hi e => by omega)⟩
        rw [show p + (q + 3) = p + q + 1 + 1 + 1 by omega]; exact hR4.upd hU6 (fun i hi => by omega)
      have hpick : Calls Tryd.prog 54 #[.pointer (some ⟨R, 0, none⟩), .int .i64 (n : Int)] w3.drew fun e w' => ∃ v, e = .returned (.int .i64 v) ∧ 0 ≤ v ∧ v < n ∧ Rd w' R (p + q + 1 + 1 + 1) ∧ Upd (fun k => k = R) w3.drew w' := by
        refine (pick_any R (p + q + 1 + 1) n _ hRd (by omega)).mono ?_
        rintro e w4 ⟨v, rfl, hv, hR4, hU4⟩
        exact ⟨v, rfl, (hv.1 (by omega)).1, (hv.1 (by omega)).2, hR4, hU4⟩
      have hq : q + 3 ≤ 110 := by omega
      have hn7 : n ≤ 7 := by omega
      clear hpk hpn hRd hset hR3 hA3 hUw3 hz hlen hkl hRl h hp hU1 z1 hb0 hb1 z2 z3
      go_wp2
      go_region_with (first
        | (go_at_call 54; refine hpick.mono ?_; rintro e w4 ⟨v, rfl, hv0, hv1, hR4, hU4⟩; obtain ⟨hck4, hfk4⟩ := hcel w4 hU4)
        | (go_at_call 39; refine (power_any _ _ (by omega) (by omega)).mono ?_; rintro e w' ⟨rfl, rfl⟩))
      all_goals
        obtain ⟨hf1, hf2, hf3⟩ := hfin w4 (bits .xor .i64 z (powI v)) hU4 hR4
        clear hfin hcel hpick hck hfk hck4 hfk4 hR4 hU4
        obtain ⟨W5, hW5⟩ : ∃ W5, w4.setCell ⟨b, k, none⟩ (.int .i64 (bits .xor .i64 z (powI v))) = W5 := ⟨_, rfl⟩
        rw [hW5] at hf1 hf2 hf3 ⊢
        obtain ⟨xv, hxv⟩ : ∃ xv, bits .xor .i64 z (powI v) = xv := ⟨_, rfl⟩
        rw [hxv] at hf1 ⊢
        clear hW5 hxv
        go_wp2
        go_ret
        exact ⟨_, n, c, _, q + 3, rfl, hn7, hf1, hq, hf2, hf3⟩
    · by_cases x1 : x = 1
      · subst x1
        go_wp2_with (first
          | (go_at_call 39; with_reducible refine (hpn _).mono ?_; rintro e w' ⟨rfl, rfl⟩)
          | (go_at_call 39; with_reducible refine (hpk _).mono ?_; rintro e w' ⟨rfl, rfl⟩))
        have hL : Arr (w3.alloc (.cells #[Value.int .i64 (-1), .int .i64 (powI n), .int .i64 (powI k)] 3)) w3.heap.size 3 [-1, powI n, powI k] := heap_alloc_new w3 _
        have hup : Upd (fun _ => False) w3 (w3.alloc (.cells #[Value.int .i64 (-1), .int .i64 (powI n), .int .i64 (powI k)] 3)) := (Upd.refl _ _).alloc _
        obtain ⟨W4, hW4⟩ : ∃ W4, w3.alloc (.cells #[Value.int .i64 (-1), .int .i64 (powI n), .int .i64 (powI k)] 3) = W4 := ⟨_, rfl⟩
        rw [hW4] at hL hup ⊢
        clear hW4
        have z4 := hup.size
        refine (one_any R (p + q + 1 + 1) _ 3 3 _ _ W4 (hR3.upd hup (fun _ e => e.elim)) (by omega) (hL.ints' (n := 3) hL.lt rfl) (fun b off e => by cases e; omega) (by omega) (by omega)).mono ?_
        rintro e w5 ⟨v, rfl, -, hR5, hU5⟩
        have hA5 := (hA3.upd hup (fun e => e)).upd hU5 (by omega)
        have z5 := hU5.size
        have hck5 := hA5.cell hkl
        have hfk5 := hA5.frozen k
        have hU5' := (hUw3.trans (hup.mono fun _ _ e => e.elim)).trans hU5
        go_wp2
        go_ret
        have hA6 := hA5.set k v
        rw [hset] at hA6
        have hU6 : Upd (fun i => w.heap.size ≤ i ∧ i = b) w5 (w5.setCell ⟨b, k, none⟩ (.int .i64 v)) := (Upd.refl (fun i => w.heap.size ≤ i ∧ i = b) w5).setCell (p := ⟨b, k, none⟩) (.inr ⟨hb0, rfl⟩) _
        exact ⟨_, n, c, zs.set k v, q + 3, rfl, by omega, ⟨by simpa using hlen.out, fun _ => ⟨b, ys, rfl, hb0, by simp [World.setCell]; omega, hA6⟩⟩, by omega, hR5.upd hU6 (fun i hi => by omega), hU5'.trans' hU6 (fun i hi e => by omega)⟩
      · by_cases x2 : x = 2
        · subst x2
          have hmk := run_make_row' (P := Tryd.prog) 22 3 (.int .i64 0) 8 Tryd.underlying22 infoInt rfl .i64 .i64 7 (by omega) (by omega)
          simp only [Int.cast_ofNat_Int] at hmk
          go_wp2
          go_ret
          exact ⟨_, 7, 7, List.replicate 7 0, q + 2, rfl, by omega, Row.of (Arr.new w3 3 7) (by simp) (by omega) (by simp), by omega, hR3.upd ((Upd.refl (fun _ => False) w3).alloc _) (fun _ e => e.elim), hUw3.alloc _⟩
        · go_wp2
          go_ret
          exact ⟨_, n, c, zs, q + 2, rfl, by omega, ⟨hlen.out, fun _ => ⟨b, ys, rfl, hb0, by omega, hA3⟩⟩, by omega, hR3, hUw3⟩
  · obtain rfl : n = 0 := by omega
    go_wp2
    go_ret
    exact ⟨A, 0, c, zs, q, rfl, by omega, r1, by omega, hR1, hU1⟩
end Go.Proofs.YtogiooecjfnkcaaDoor

/- Arguments that are drawn: a new reader, and what is drawn reads as numbers. -/
namespace Go.Proofs.YtogiooecjfnkcaaDoor
open Go.RowKit Go.Shelf

/-- A list that is drawn reads as numbers, few of them. -/
def Drawn (w : World) (e : Ending) (w' : World) : Prop := ∃ A n c zs, e = .returned (.slice A n c) ∧ n ≤ 7 ∧ Ints w' w'.heap.size A n zs ∧ Below w.heap.size w w'
theorem newReader_rd {A : Option Addr} {m c : Nat} {bs : List Int} {w : World} (h : Byts w w.heap.size A m bs) (hcap : m ≤ c) (hbig : m ≤ 1152921504606846976) :
    Calls Tryd.prog 34 #[.slice A m c] w fun e w' => e = .returned (.pointer (some ⟨w.heap.size, 0, none⟩)) ∧ Rd w' w.heap.size 0 ∧ Below w.heap.size w w' ∧ w.heap.size < w'.heap.size := by
  refine (newReader_any A m c bs w h hcap hbig).mono ?_
  rintro e w0 ⟨rfl, rfl⟩
  exact ⟨rfl, ⟨A, min m 2000, c, bs.take (min m 2000), by omega, heap_alloc_new w _, (h.take (by omega)).below (((Below.refl w.heap.size w).alloc (Nat.le_refl _)) _)⟩, (Below.refl w.heap.size w).alloc (Nat.le_refl _) _, by simp⟩
end Go.Proofs.YtogiooecjfnkcaaDoor

/- The arguments of FirstChance, drawn. -/
namespace Go.Proofs.YtogiooecjfnkcaaDoor
open Go.RowKit Go.Shelf

set_option maxRecDepth 100000 in
set_option maxHeartbeats 4000000 in
theorem anItem_any (R p n : Nat) (w : World) (hR0 : Rd w R p) (hp : p ≤ 900000) (hn : n ≤ 7) :
    Calls Tryd.prog 36 #[.pointer (some ⟨R, 0, none⟩), .int .i64 (n : Int)] w fun e w' => ∃ v, e = .returned (.int .i64 v) ∧ Rd w' R (p + 7) ∧ Upd (fun k => k = R) w w' := by
  go_enter Tryd.func36, Tryd.ntmps36
  go_wp2_with fail
  refine (pick_any R _ _ w hR0 (by omega)).mono ?_
  rintro e w1 ⟨y1, rfl, -, hR1, hU1⟩
  go_wp2_with fail
  refine (pick_any R _ _ w1 hR1 (by omega)).mono ?_
  rintro e w2 ⟨y2, rfl, -, hR2, hU2⟩
  go_wp2_with fail
  refine (pick_any R _ _ w2 hR2 (by omega)).mono ?_
  rintro e w3 ⟨y3, rfl, -, hR3, hU3⟩
  go_wp2_with fail
  refine (pick_any R _ _ w3 hR3 (by omega)).mono ?_
  rintro e w4 ⟨y4, rfl, -, hR4, hU4⟩
  go_wp2_with fail
  refine (pick_any R _ _ w4 hR4 (by omega)).mono ?_
  rintro e w5 ⟨y5, rfl, -, hR5, hU5⟩
  go_wp2_with fail
  refine (pick_any R _ _ w5 hR5 (by omega)).mono ?_
  rintro e w6 ⟨y6, rfl, -, hR6, hU6⟩
  have hUU := ((((hU1.trans hU2).trans hU3).trans hU4).trans hU5).trans hU6
  have hRl := hR6.lt
  go_wp2_with fail
  have hL : Arr (w6.alloc (.cells #[Value.int .i64 y1, .int .i64 y2, .int .i64 y3, .int .i64 y4, .int .i64 y5, .int .i64 0, .int .i64 ((n : Int) - 1), .int .i64 y6, .int .i64 (n : Int), .int .i64 (-1)] 3)) w6.heap.size 3 [y1, y2, y3, y4, y5, 0, (n : Int) - 1, y6, (n : Int), -1] := heap_alloc_new w6 _
  have hUl : Upd (fun _ => False) w6 (w6.alloc (.cells #[Value.int .i64 y1, .int .i64 y2, .int .i64 y3, .int .i64 y4, .int .i64 y5, .int .i64 0, .int .i64 ((n : Int) - 1), .int .i64 y6, .int .i64 (n : Int), .int .i64 (-1)] 3)) := (Upd.refl _ _).alloc _
  obtain ⟨W6, hW6⟩ : ∃ W6, w6.alloc (.cells #[Value.int .i64 y1, .int .i64 y2, .int .i64 y3, .int .i64 y4, .int .i64 y5, .int .i64 0, .int .i64 ((n : Int) - 1), .int .i64 y6, .int .i64 (n : Int), .int .i64 (-1)] 3) = W6 := ⟨_, rfl⟩
  rw [hW6] at hL hUl ⊢
  clear hW6
  refine (one_any R _ _ 10 10 _ _ W6 (hR6.upd hUl (fun _ e => e.elim)) (by omega) (hL.ints' (n := 10) hL.lt rfl) (fun b off e => by cases e; omega) (by omega) (by omega)).mono ?_
  rintro e w7 ⟨v, rfl, -, hR7, hU7⟩
  go_wp2_with fail
  go_ret
  exact ⟨v, rfl, hR7, hUU.trans ((hUl.mono (S := fun k => k = R) (fun _ _ e => e.elim)).trans hU7)⟩

end Go.Proofs.YtogiooecjfnkcaaDoor

/- What the row's condition gives a walk: the library's variable's cell. -/
namespace Go.Proofs.YtogiooecjfnkcaaDoor
open Go.RowKit

theorem etNamed : Tryd.prog.globalNamed "errors.errorType" = some 0 := by kernel_rfl
theorem etCut : (Tryd.prog.cutTypes.find? (·.1 == "internal/reflectlite.rtype")).map (·.2) = some 99 := by kernel_rfl
theorem etRow : ((List.range Tryd.prog.types.size).filter fun t => Tryd.prog.rowNamed t [101, 114, 114, 111, 114]) = [57] := by kernel_rfl
theorem etOfLaid {W : World} (h : laidMetH Tryd.prog [("errors.errorType", Rows.laid_errors_errorType)] W) : Et W := by
  have h' : laidMet Tryd.prog [] W ∧ handlesMet Tryd.prog [("errors.errorType", Rows.laid_errors_errorType)] W := h
  obtain ⟨name, u, ty, e1, e2, e3, e4, e5⟩ := h'.2 _ (List.mem_singleton.2 rfl)
  have en : name = [101, 114, 114, 111, 114] := (Option.some.inj e1).symm
  subst en
  obtain rfl := Option.some.inj (etCut.symm.trans e2)
  have hm : ty ∈ (List.range Tryd.prog.types.size).filter fun t => Tryd.prog.rowNamed t [101, 114, 114, 111, 114] := List.mem_filter.2 ⟨List.mem_range.2 e3, e4⟩
  rw [etRow] at hm
  obtain rfl := List.mem_singleton.1 hm
  have hh : typeHandle Tryd.prog 57 = .pointer (some ⟨1, 57, none⟩) := by kernel_rfl
  rw [hh] at e5
  have hc : W.cell? ⟨0, 0, none⟩ = some (.iface 99 (.agg #[.pointer (some ⟨1, 57, none⟩)])) := by simpa using World.var?_cell etNamed e5 0
  refine ⟨hc, ?_⟩
  rcases Nat.eq_zero_or_pos W.heap.size with h0 | h0
  · simp [World.cell?, h0] at hc
  · exact h0
end Go.Proofs.YtogiooecjfnkcaaDoor

/- A region that draws its order, in a round of a loop over a function, by the laws for plain machines: where nothing in it defers, and no round may outgrow. -/
namespace Go.Proofs.YtogiooecjfnkcaaDoor
open Go.RowKit

section
variable {n : Nat} {P : Program} {ops : Array Oper} {Q : Exit → Act → World → Prop} {md : Region.Mode} {S : World → Prop} {l₀ : Nat}
theorem rows_wide {row : String} {args : Array Value} {w : World} {R : Value → World → Prop} (h : Rows P row args w R) : RowsIn Fence.wide n P row args w R :=
  fun c cs _ => let ⟨v, w', r, s⟩ := h c cs; ⟨v, w', r, stepsIn_wide.2 s⟩
theorem oper_wide {o : Oper} {a : Act} {w : World} {K : Act → World → Prop} (h : o.wp P a w K Q) : o.wpIn Fence.wide n P a w K Q := by
  unfold Oper.wp at h
  refine ⟨fun _ _ => trivial, ?_⟩
  rw [show Fence.wide.round = none from rfl, Oper.semAt_none]
  generalize (execOp a.eval o).run P w = r at h ⊢
  have hd : Fence.wide.depth.isSome = true → 1 ≤ n := fun e => by cases e
  cases r with
  | ok x w' =>
    cases x with
    | value v => exact h
    | skip => exact h
    | defer d => exact h
    | enter f args => exact ⟨hd, callsIn_wide.2 h⟩
    | row row args => exact ⟨hd, rows_wide h⟩
    | _ => exact h.elim
  | halt x w' => cases x <;> exact h
theorem op_wide (hQ : ¬ LetsOut Q) {i : Nat} {a : Act} {w : World} {K K' : Act → World → Prop} (hK : ∀ a w, K a w → K' a w) (h : wpOp P ops Q i K a w) : wpOpIn Fence.wide n P ops Q i K' a w := by
  unfold wpOp at h
  unfold wpOpIn
  split
  · rename_i ho; simp only [ho] at h; exact hK _ _ h
  · rename_i o ho
    simp only [ho] at h
    split
    · rename_i hw
      simp only [hw, if_true] at h
      rcases h with h | h
      · exact Oper.wpIn_mono hK (oper_wide h)
      · exact absurd h.2 hQ
    · rename_i hw
      simp only [hw] at h
      exact ⟨fun _ _ => trivial, hK _ _ h⟩
theorem any_wide (hQ : ¬ LetsOut Q) : ∀ (fuel : Nat) (listed : Array Bool) (a : Act) (w : World), wpAny P md ops Q fuel listed a w → wpAnyIn Fence.wide n P md ops Q fuel listed a w
  | 0, _, _, _, h => h
  | fuel + 1, _, _, _, h => ⟨h.1, fun i hi => op_wide hQ (fun a w h' => any_wide hQ fuel _ a w h') (h.2 i hi)⟩
/-- The beginning, in a round: a condition S on the worlds met is shown of the world behind the draw, and handed on. -/
theorem region_held_round {id : Nat} {a : Act} {w : World} {l : List Oper} (hm : P.follows .mixedOrders = true) (hd : l.all noDefer = true) (hQ : ¬ LetsOut Q) (hS : S w.drew)
    (h : S w.drew → wpAnyH P .any l.toArray Q S l.toArray.size (Array.replicate l.toArray.size false) a w.drew) : (Code.region id l.toArray true).wpIn (Fence.wide.inRound l₀) n P Q a w :=
  wpIn_region_any hm (anyIn_round (fun _ o ho => noDefer_spec (List.all_eq_true.1 hd o (List.mem_of_getElem? (by simpa using ho)))) _ _ _ _ (any_wide hQ _ _ _ _ (wpAny_of_held _ _ _ _ (h hS))))
end

/-! A region whose last operation writes what an earlier one has read: the condition S is asked behind every operation but the last one, z, which waits for all. -/
section
variable {n : Nat} {P : Program} {ops : Array Oper} {Q : Exit → Act → World → Prop} {md : Region.Mode} {S : World → Prop} {z : Nat} {l₀ : Nat}
def anyT (P : Program) (md : Region.Mode) (ops : Array Oper) (Q : Exit → Act → World → Prop) (S : World → Prop) (z : Nat) : Nat → Array Bool → Act → World → Prop
  | 0, listed, a, w => Region.ready md ops listed = [] ∧ Q .normal a w
  | fuel + 1, listed, a, w => (Region.ready md ops listed = [] → Q .normal a w) ∧
    ∀ i ∈ Region.ready md ops listed, wpOp P ops Q i (fun a' w' => (i ≠ z → S w') ∧ anyT P md ops Q S z fuel (listed.setIfInBounds i true) a' w') a w
theorem any_of_T : ∀ (fuel : Nat) (listed : Array Bool) (a : Act) (w : World), anyT P md ops Q S z fuel listed a w → wpAny P md ops Q fuel listed a w
  | 0, _, _, _, h => h
  | fuel + 1, _, _, _, h => ⟨h.1, fun i hi => wpOp_mono (fun a' w' h' => any_of_T fuel _ a' w' h'.2) (h.2 i hi)⟩
/-- What may come up before the last one may be taken first, if it yields the same in every world met. -/
theorem anyT_first {i : Nat} {oi : Oper} {v : Value} (hi : ops[i]? = some oi) (hsel : ∀ (j : Nat) (o : Oper) cs b, ops[j]? = some o → o.op ≠ .select cs b)
    (hQ : ∀ c a w, Q (.panic c) (a.put oi.dst v) w → Q (.panic c) a w) (hs : Region.sinkB md ops z = true) (hc : Region.chainB md ops z = true) (hz : z < ops.size) (hiz : i < z) :
    ∀ (fuel : Nat) (listed : Array Bool) (a : Act) (w : World), HeadInv md ops z listed →
      (∀ j oj, ops[j]? = some oj → j ≠ i → listed.getD j true = false → (∀ e ∈ oj.after, Region.binds md e = true → e.on ≠ i) → oi.apart ops oj = true) →
      i ∈ Region.ready md ops listed → YieldsIf P ops S oi v a → S w →
      anyT P md ops Q S z fuel (listed.setIfInBounds i true) (a.put oi.dst v) w → anyT P md ops Q S z (fuel + 1) listed a w
  | fuel, listed, a, w, inv, hfree, hr, hy, hS, H => by
    have hun := (mem_ready.1 hr).1
    refine ⟨fun h => (by rw [h] at hr; cases hr), fun j hj => ?_⟩
    by_cases hji : j = i
    · rw [hji]; exact hy.wpOp hi hS ⟨fun _ => hS, H⟩
    · have hjz : j < z := by
        rcases Nat.lt_or_ge j z with h | h
        · exact h
        · exact absurd hj (tail_waits hs hc hz inv _ i rfl hiz hun j h)
      cases fuel with
      | zero =>
        have := ready_mono hj hji
        rw [H.1] at this
        cases this
      | succ fuel =>
        have h1 := H.2 j (ready_mono hj hji)
        obtain ⟨hjun, oj, hoj, hall⟩ := mem_ready.1 hj
        have hnot : ∀ e ∈ oj.after, Region.binds md e = true → e.on ≠ i := fun e he hb heq => by
          have h1 := hall e he hb
          rw [heq, getD_both hun] at h1
          cases h1
        have h2 := wpOp_putIf hoj (hfree j oj hoj hji hjun hnot) (fun cs b => hsel i oi cs b hi) (fun cs b => hsel j oj cs b hoj) hQ hy h1
        have hfree' : ∀ k ok, ops[k]? = some ok → k ≠ i → (listed.setIfInBounds j true).getD k true = false →
            (∀ e ∈ ok.after, Region.binds md e = true → e.on ≠ i) → oi.apart ops ok = true := fun k ok hk hki hkun hno => by
          refine hfree k ok hk hki ?_ hno
          by_cases hjk : j = k
          · rw [← hjk]; exact hjun
          · rw [getD_set_ne true hjk] at hkun; exact hkun
        refine wpOp_mono (fun a' w' h3 => ?_) h2
        have hS' := h3.2.1 (by omega)
        refine ⟨fun _ => hS', anyT_first hi hsel hQ hs hc hz hiz fuel (listed.setIfInBounds j true) a' w' (inv.set hj hjz) hfree' (ready_mono hr (Ne.symm hji)) h3.1 hS' ?_⟩
        rw [Array.setIfInBounds_comm _ _ hji]
        exact h3.2.2
/-- The state of a walk through the head, as a Bool. -/
def headB (md : Region.Mode) (ops : Array Oper) (z : Nat) (listed : Array Bool) : Bool :=
  listed.size == ops.size && ((List.range ops.size).all (fun j => !(listed.getD j false) || match ops[j]? with | some o => o.after.all (fun e => !(Region.binds md e) || listed.getD e.on false) | none => true) &&
    (List.range ops.size).all fun t => decide (t < z) || !(listed.getD t true))
theorem headB_inv {listed : Array Bool} (h : headB md ops z listed = true) : HeadInv md ops z listed := by
  unfold headB at h
  rw [Bool.and_eq_true, Bool.and_eq_true, List.all_eq_true, List.all_eq_true, beq_iff_eq] at h
  refine ⟨h.1, fun j oj hj hl e he hb => ?_, fun t ht htn => ?_⟩
  · have := h.2.1 j (by simpa using (Array.getElem?_eq_some_iff.1 hj).1)
    rw [hj, hl] at this
    simp only [Bool.not_true, Bool.false_or] at this
    rw [Array.all_eq_true_iff_forall_mem] at this
    have h2 := this e he
    rw [hb] at h2
    simpa using h2
  · have := h.2.2 t (by simpa using htn)
    have hlt : ¬ t < z := by omega
    simpa [hlt] using this
theorem anyT_take {i : Nat} {oi : Oper} {v : Value} {fuel : Nat} {listed : Array Bool} {a : Act} {w : World} (hi : ops[i]? = some oi)
    (hc : (Region.noSelect ops && Region.sinkB md ops z && Region.chainB md ops z && decide (z < ops.size) && decide (i < z) && headB md ops z listed && Region.free md ops listed i && (Region.ready md ops listed).contains i) = true)
    (hQ : ∀ c a w, Q (.panic c) (a.put oi.dst v) w → Q (.panic c) a w) (hy : YieldsIf P ops S oi v a) (hS : S w)
    (h : anyT P md ops Q S z fuel (listed.setIfInBounds i true) (a.put oi.dst v) w) : anyT P md ops Q S z (fuel + 1) listed a w := by
  simp only [Bool.and_eq_true, decide_eq_true_eq] at hc
  obtain ⟨⟨⟨⟨⟨⟨⟨h1, h2⟩, h3⟩, h4⟩, h5⟩, h6⟩, h7⟩, h8⟩ := hc
  exact anyT_first hi (Region.noSelect_spec h1) hQ h2 h3 h4 h5 fuel listed a w (headB_inv h6) (Region.free_spec hi h7) (by simpa using h8) hy hS h
/-- The only one that may come up: it is carried out. -/
theorem anyT_one {i : Nat} {o : Oper} {fuel : Nat} {listed : Array Bool} {a : Act} {w : World} (hr : Region.ready md ops listed = [i]) (ho : ops[i]? = some o)
    (h : ∀ K' : Act → World → Prop, Shut (∀ a w, (i ≠ z → S w) → anyT P md ops Q S z fuel (listed.setIfInBounds i true) a w → K' a w) → if Region.wanted o (yielded ops a.tmps) = true then Oper.wp P o a w K' Q else K' (a.put o.dst undef) w) :
    anyT P md ops Q S z (fuel + 1) listed a w :=
  ⟨fun h0 => (by rw [hr] at h0; cases h0), fun j hj => by
    rw [hr] at hj
    obtain rfl := List.mem_singleton.1 hj
    exact wpOp_step ho (fun K' hK => h K' (fun a w hS hW => hK a w ⟨hS, hW⟩))⟩
theorem anyT_done {listed : Array Bool} {a : Act} {w : World} (hr : Region.ready md ops listed = []) (h : Q .normal a w) : ∀ fuel, anyT P md ops Q S z fuel listed a w
  | 0 => ⟨hr, h⟩
  | _ + 1 => ⟨fun _ => h, by rw [hr]; simp⟩
theorem region_T_round {id : Nat} {a : Act} {w : World} {l : List Oper} (z : Nat) (hm : P.follows .mixedOrders = true) (hd : l.all noDefer = true) (hQ : ¬ LetsOut Q)
    (h : anyT P .any l.toArray Q S z l.toArray.size (Array.replicate l.toArray.size false) a w.drew) : (Code.region id l.toArray true).wpIn (Fence.wide.inRound l₀) n P Q a w :=
  wpIn_region_any hm (anyIn_round (fun _ o ho => noDefer_spec (List.all_eq_true.1 hd o (List.mem_of_getElem? (by simpa using ho)))) _ _ _ _ (any_wide hQ _ _ _ _ (any_of_T _ _ _ _ h)))
theorem region_T {id : Nat} {a : Act} {w : World} {l : List Oper} (z : Nat) (hm : P.follows .mixedOrders = true)
    (h : anyT P .any l.toArray Q S z l.toArray.size (Array.replicate l.toArray.size false) a w.drew) : (Code.region id l.toArray true).wp P Q a w :=
  wp_region_any hm (any_of_T _ _ _ _ h)
end
end Go.Proofs.YtogiooecjfnkcaaDoor

/- Joins and meets: the program's. -/
namespace Go.Proofs.YtogiooecjfnkcaaDoor
open Go.RowKit Go.Shelf
attribute [local go_sem] Oper.semAt_some
attribute [local go_sem, local simp] wide_fn

section
variable {n : Nat} {P : Program} {ops : Array Oper} {Q : Exit → Act → World → Prop} {S : World → Prop}
theorem region_T_wide {id : Nat} {a : Act} {w : World} {l : List Oper} (z : Nat) (hm : P.follows .mixedOrders = true) (hQ : ¬ LetsOut Q)
    (h : anyT P .any l.toArray Q S z l.toArray.size (Array.replicate l.toArray.size false) a w.drew) : (Code.region id l.toArray true).wpIn Fence.wide n P Q a w :=
  wpIn_region_any hm (any_wide hQ _ _ _ _ (any_of_T _ _ _ _ h))
variable {md : Region.Mode} {z : Nat}
/-- Two may come up: both ways. -/
theorem anyT_two {i j : Nat} {oi oj : Oper} {fuel : Nat} {listed : Array Bool} {a : Act} {w : World} (hr : Region.ready md ops listed = [i, j]) (hoi : ops[i]? = some oi) (hoj : ops[j]? = some oj)
    (h1 : ∀ K' : Act → World → Prop, Shut (∀ a w, (i ≠ z → S w) → anyT P md ops Q S z fuel (listed.setIfInBounds i true) a w → K' a w) → if Region.wanted oi (yielded ops a.tmps) = true then Oper.wp P oi a w K' Q else K' (a.put oi.dst undef) w)
    (h2 : ∀ K' : Act → World → Prop, Shut (∀ a w, (j ≠ z → S w) → anyT P md ops Q S z fuel (listed.setIfInBounds j true) a w → K' a w) → if Region.wanted oj (yielded ops a.tmps) = true then Oper.wp P oj a w K' Q else K' (a.put oj.dst undef) w) :
    anyT P md ops Q S z (fuel + 1) listed a w :=
  ⟨fun h0 => (by rw [hr] at h0; cases h0), fun k hk => by
    rw [hr] at hk
    rcases List.mem_cons.1 hk with rfl | hk
    · exact wpOp_step hoi (fun K' hK => h1 K' (fun a w hS hW => hK a w ⟨hS, hW⟩))
    · obtain rfl := List.mem_singleton.1 hk
      exact wpOp_step hoj (fun K' hK => h2 K' (fun a w hS hW => hK a w ⟨hS, hW⟩))⟩
end

/-- What join gives: the item, or the error that it lacks. -/
def joinV (zs : List Int) (a b : Nat) : Value := if joinI zs a b < 0 then .tuple #[.int .i64 0, .iface 67 (.agg #[.int .i64 (a : Int), .int .i64 (b : Int)])] else .tuple #[.int .i64 (joinI zs a b), .nilIface]

set_option maxRecDepth 100000 in
set_option maxHeartbeats 8000000 in
theorem ojoin_any (A : Option Addr) (n c : Nat) (zs : List Int) (a b : Nat) (hv : Sets zs) (w : World) (hA : Ints w w.heap.size A n zs) (ha : a < n) (hb : b < n) :
    Calls Tryd.prog 28 #[.slice A n c, .int .i64 (a : Int), .int .i64 (b : Int)] w fun e W' => e = .returned (joinV zs a b) ∧ Below w.heap.size w W' := by
  have hlen := Lib.hid hA.len
  have hn6 : n ≤ 6 := by have := hv.1; rw [hlen.out] at this; exact this
  have hpk : powI n ≤ 64 := powI_le6 (by omega)
  refine (callsIn_wide (n := 9)).1 ?_
  refine callsIn_of_wp_marks Tryd.func28 rfl trivial ?_ rfl
  simp only [Tryd.ntmps28, List.size_toArray, List.length_cons, List.length_nil, Nat.reduceAdd, Nat.reduceSub, Array.replicate_succ, Array.replicate_zero, List.push_toArray, List.append_toArray, List.nil_append, List.cons_append]
  have Ht2 := Lib.hid (com_two hv (a := a) (b := b) (by rw [hlen.out]; exact ha) (by rw [hlen.out]; exact hb))
  rw [hlen.out] at Ht2
  have hub := upR_bd hv (a := a) (b := b) (by rw [hlen.out]; exact ha)
  rw [hlen.out] at hub
  have h2b := twoS_bd ha hb
  have hpa := orI_bd (a := 0) (b := powI a) (n := n) (Int.le_refl _) (powI_pos _) (Int.le_of_lt (powI_pos _)) (powI_lt ha)
  have hw1 := fun w => with_any 0 (a : Int) w (by omega) (by omega) (by omega) (by omega)
  have hw2 : ∀ w, Calls Tryd.prog 47 #[.int .i64 (orI 0 (powI a)), .int .i64 (b : Int)] w fun e w' => e = .returned (.int .i64 (twoS a b)) ∧ w = w' := fun w => with_any _ _ w (by omega) (by omega) (by omega) (by omega)
  gi_wp2_with fail
  have bO := ((Boxed.new w 35 (.slice A n c)).alloc (.cells #[Value.int .i64 0] 3)).alloc (.cells #[Value.nilIface] 57)
  have bR := (Boxed.new (w.alloc (.cells #[Value.slice A n c] 35)) 3 (.int .i64 0)).alloc (.cells #[Value.nilIface] 57)
  have bX := Boxed.new ((w.alloc (.cells #[Value.slice A n c] 35)).alloc (.cells #[Value.int .i64 0] 3)) 57 .nilIface
  have hu0 : Upd (fun _ => False) w (((w.alloc (.cells #[Value.slice A n c] 35)).alloc (.cells #[Value.int .i64 0] 3)).alloc (.cells #[Value.nilIface] 57)) := (((Upd.refl _ w).alloc _).alloc _).alloc _
  have hz0' : (((w.alloc (.cells #[Value.slice A n c] 35)).alloc (.cells #[Value.int .i64 0] 3)).alloc (.cells #[Value.nilIface] 57)).heap.size = w.heap.size + 3 := by simp
  simp only [World.size_alloc] at bR bX
  obtain ⟨W0, hW0⟩ : ∃ W0, (((w.alloc (.cells #[Value.slice A n c] 35)).alloc (.cells #[Value.int .i64 0] 3)).alloc (.cells #[Value.nilIface] 57)) = W0 := ⟨_, rfl⟩
  rw [hW0] at bO bR bX hu0 hz0' ⊢
  clear hW0
  obtain ⟨hz0, hz0b⟩ : w.heap.size + 3 ≤ W0.heap.size ∧ W0.heap.size ≤ w.heap.size + 3 := by omega
  clear hz0'
  have hA0 : Ints W0 w.heap.size A n zs := hA.below (hu0.toBelow (fun _ e => e.elim) (Nat.le_refl _))
  rename_i Q' K hK
  have key : ∀ (t : Nat) (W1 : World), W0.heap.size ≤ t → t < W1.heap.size → Upd (fun _ => False) W0 W1 → Boxed W1 t 54 (.int .i64 (upR zs a b)) → K { tmps := #[.slice A n c, .int .i64 (a : Int), .int .i64 (b : Int), .pointer (some ⟨w.heap.size, 0, none⟩), undef, undef, .pointer (some ⟨w.heap.size + 1, 0, none⟩), .pointer (some ⟨w.heap.size + 1 + 1, 0, none⟩), .pointer (some ⟨t, 0, none⟩), undef, .slice A n c, .int .i64 (a : Int), .int .i64 (orI 0 (powI a)), .int .i64 (b : Int), .int .i64 (twoS a b), .int .i64 (upR zs a b), undef, undef, undef, undef, undef, undef, undef, undef, undef, undef, undef, undef, undef, undef, undef, undef], defers := [] } W1 := by
    intro t W1 ht1 ht2 hU1 bC
    refine hK _ _ ?_
    clear hK
    have bO1 := hU1.boxed bO (fun e => e)
    have bR1 := hU1.boxed bR (fun e => e)
    have bX1 := hU1.boxed bX (fun e => e)
    have z1 := hU1.size
    have hcC1 := bC.cell
    gi_wp2_with (gi_at_call 48; refine (callsIn_wide.2 (each_any _ _)).mono ?_; rintro e w' ⟨rfl, rfl⟩)
    clear hcC1
    have bO2 := bO1.alloc (.cells #[Value.int .i64 (upR zs a b)] 54)
    have bR2 := bR1.alloc (.cells #[Value.int .i64 (upR zs a b)] 54)
    have bX2 := bX1.alloc (.cells #[Value.int .i64 (upR zs a b)] 54)
    have bC2 := bC.alloc (.cells #[Value.int .i64 (upR zs a b)] 54)
    have bE := Boxed.new W1 54 (.int .i64 (upR zs a b))
    have hu1 : Upd (fun _ => False) W0 (W1.alloc (.cells #[Value.int .i64 (upR zs a b)] 54)) := hU1.alloc _
    have hz1' : (W1.alloc (.cells #[Value.int .i64 (upR zs a b)] 54)).heap.size = W1.heap.size + 1 := by simp
    obtain ⟨Y, hY⟩ : ∃ Y, W1.heap.size = Y := ⟨_, rfl⟩
    rw [hY] at z1 ht2 bE hz1' ⊢
    obtain ⟨V0, hV0⟩ : ∃ V0, (W1.alloc (.cells #[Value.int .i64 (upR zs a b)] 54)) = V0 := ⟨_, rfl⟩
    rw [hV0] at bO2 bR2 bX2 bC2 bE hu1 hz1' ⊢
    clear hV0 hY bO1 bR1 bX1 bC hU1
    obtain ⟨hz1, hz1b⟩ : Y + 1 ≤ V0.heap.size ∧ V0.heap.size ≤ Y + 1 := by omega
    clear hz1'
    have hA1 : Ints V0 w.heap.size A n zs := hA0.below (hu1.toBelow (fun _ e => e.elim) (Nat.le_refl _) |>.mono (by omega))
    refine range_out (n := 9) (gf := 59) (lb := #[.pointer (some ⟨Y, 0, none⟩)]) rfl (enters_of Tryd.func59 (by kernel_rfl) rfl) (encs := encI) (L := itemsL (upR zs a b))
      (fun k => k = w.heap.size + 1 ∨ k = w.heap.size + 1 + 1) (fun k e => by omega) (fun _ => rfl)
      (fun W1 l1 hu1 hl1 hl2 => each_iter _ hub.1 (by omega) _ _ W1 (hu1.boxed bE (fun e => e)) (fun e => by omega))
      (fun pre D W => (∀ x ∈ pre, lessI (upR zs a b) (atUp zs x) ≠ 0) ∧ Boxed W (w.heap.size + 1) 3 (.int .i64 0) ∧ Boxed W (w.heap.size + 1 + 1) 57 .nilIface ∧ Upd (fun k => k = w.heap.size + 1 ∨ k = w.heap.size + 1 + 1) V0 W)
      (fun co pre D W => co = .ret ∧ (∃ x : Nat, joinI zs a b = x ∧ Boxed W (w.heap.size + 1) 3 (.int .i64 (x : Int))) ∧ Boxed W (w.heap.size + 1 + 1) 57 .nilIface ∧ Upd (fun k => k = w.heap.size + 1 ∨ k = w.heap.size + 1 + 1) V0 W)
      (fun s D X Z hs hu => ⟨hs.1, hu.boxed hs.2.1 (fun e => by omega), hu.boxed hs.2.2.1 (fun e => by omega), hs.2.2.2.trans' hu (fun i hi e => by omega)⟩)
      (fun co s D X Z hs hu => ⟨hs.1, hs.2.1.imp (fun x hx => ⟨hx.1, hu.boxed hx.2 (fun e => by omega)⟩), hu.boxed hs.2.2.1 (fun e => by omega), hs.2.2.2.trans' hu (fun i hi e => by omega)⟩)
      ⟨(fun x hx => by cases hx), bR2, bX2, Upd.refl _ _⟩ ?owes ?done ?stop
    case owes =>
      rintro l1 pre x D1 W hl1 hl2 hDl hD1 - hpre K hK
      gi_wp2
      refine hK _ _ (Upd.refl _ _) ?_
      rintro Wb hWb - ⟨hall, bRb, bXb, hU⟩
      clear hK
      have hsz := hU.size
      obtain ⟨hx6, hxb⟩ := mem_itemsTo.1 (hpre.subset (by simp : x ∈ pre ++ [x]))
      have hxn := bitB_lt hub.2 hxb
      have hcO := (hU.boxed bO2 (by omega)).cell
      have hcC := (hU.boxed bC2 (by omega)).cell
      obtain ⟨ab, off, rfl, hab, hc⟩ := hA1.at_ hxn
      have hcx := hU.cell (hc x hxn) (fun e => by simp at e; omega)
      have zx := hv.bd x (by rw [hlen.out]; exact hxn)
      have hcR := bRb.cell
      have hfR := bRb.frozen
      have hcX := bXb.cell
      have hfX := bXb.frozen
      have hszb := hWb.size
      clear hc
      have hlb := lessI_bd (upR zs a b) (powI x)
      have hwo := fun w => without_any (upR zs a b) (x : Int) w (by omega) (by omega) (by omega) (by omega)
      have hwi := fun w => within_any (lessI (upR zs a b) (powI x)) (zs[x]?.getD 0) w (by omega) (by omega) (by omega) (by omega)
      have Hll := Lib.hid (less_less (upR zs a b) (powI x) (zs[x]?.getD 0))
      have Hat := Lib.hid (show orI (zs[x]?.getD 0) (powI x) = atUp zs x from rfl)
      cases hb : (lessI (lessI (upR zs a b) (powI x)) (zs[x]?.getD 0) == 0)
      · have HF := Lib.hid (show lessI (upR zs a b) (atUp zs x) ≠ 0 by
          intro e
          have := Hll.out
          rw [Hat.out, e, hb] at this
          cases this)
        rw [hb] at hwi
        gi_wp2
        refine region_quiet_round (by kernel_rfl) (by kernel_rfl) (by kernel_rfl) ?_
        repeat (gi_big_quiet_step ((first
          | (gi_at_call 49; exact quietIn_add (hwo _))
          | (gi_at_call 49; exact quietIn_left (hwo _))
          | (gi_at_call 50; exact quietIn_add (hwi _))
          | (gi_at_call 50; exact quietIn_left (hwi _)))))
        refine wpQuietIn_nil ?_
        intro _ hw'
        obtain ⟨nq, hw''⟩ := hw'
        subst hw''
        gi_wp2
        exact ⟨D1, ⟨fun y hy => by rcases List.mem_append.1 hy with hy | hy
                                   · exact hall y hy
                                   · rw [List.mem_singleton.1 hy]; exact HF.out, bRb, bXb, hU.drewN _⟩, (Upd.refl _ _).drewN _, fun k hk => .inl hk⟩
      · have HJ := Lib.hid (show joinI zs a b = x by
          have h2 := Hll.out
          rw [Hat.out, hb] at h2
          refine jnI_at (by rw [hlen.out]; exact hxn) (show jnB zs (upR zs a b) x = true by unfold jnB; rw [hxb, ← h2]; rfl) fun j hj => ?_
          cases e : jnB zs (upR zs a b) j
          · rfl
          · exfalso
            unfold jnB at e
            rw [Bool.and_eq_true, beq_iff_eq] at e
            refine hall j ?_ e.2
            have hjm := (mem_itemsL (by omega)).2 e.1
            obtain ⟨t', ht'⟩ := hpre
            rw [← ht', List.append_assoc] at hjm
            have hs := itemsL_sorted (upR zs a b)
            rw [← ht', List.append_assoc, List.pairwise_append] at hs
            rcases List.mem_append.1 hjm with hjm | hjm
            · exact hjm
            · simp only [List.singleton_append, List.mem_cons] at hjm
              have h5 := hs.2.1
              simp only [List.singleton_append, List.pairwise_cons] at h5
              rcases hjm with hjm | hjm
              · omega
              · have := h5.1 j hjm; omega)
        rw [hb] at hwi
        gi_wp2
        refine region_quiet_round (by kernel_rfl) (by kernel_rfl) (by kernel_rfl) ?_
        repeat (gi_big_quiet_step ((first
          | (gi_at_call 49; exact quietIn_add (hwo _))
          | (gi_at_call 49; exact quietIn_left (hwo _))
          | (gi_at_call 50; exact quietIn_add (hwi _))
          | (gi_at_call 50; exact quietIn_left (hwi _)))))
        refine wpQuietIn_nil ?_
        intro _ hw'
        obtain ⟨nq, hw''⟩ := hw'
        subst hw''
        gi_wp2
        have hs1 : Upd (fun k => k = w.heap.size + 1 ∨ k = w.heap.size + 1 + 1) V0 ((Wb.drewN nq).setCell ⟨w.heap.size + 1, 0, none⟩ (.int .i64 (x : Int))) := (hU.drewN nq).setCell (p := ⟨w.heap.size + 1, 0, none⟩) (.inr (.inl rfl)) _
        have hs1b : Upd (fun k => k = w.heap.size + 1) (Wb.drewN nq) ((Wb.drewN nq).setCell ⟨w.heap.size + 1, 0, none⟩ (.int .i64 (x : Int))) := (Upd.refl (fun k => k = w.heap.size + 1) _).setCell (p := ⟨w.heap.size + 1, 0, none⟩) (.inr rfl) _
        have bRn : Boxed (Wb.drewN nq) (w.heap.size + 1) 3 (.int .i64 0) := bRb
        have bXn : Boxed (Wb.drewN nq) (w.heap.size + 1 + 1) 57 .nilIface := bXb
        have bR3 := bRn.set (.int .i64 (x : Int))
        have bX3 := hs1b.boxed bXn (fun e => by omega)
        have hs2b : Upd (fun k => k = w.heap.size + 1 + 1) ((Wb.drewN nq).setCell ⟨w.heap.size + 1, 0, none⟩ (.int .i64 (x : Int))) (((Wb.drewN nq).setCell ⟨w.heap.size + 1, 0, none⟩ (.int .i64 (x : Int))).setCell ⟨w.heap.size + 1 + 1, 0, none⟩ .nilIface) := (Upd.refl (fun k => k = w.heap.size + 1 + 1) _).setCell (p := ⟨w.heap.size + 1 + 1, 0, none⟩) (.inr rfl) _
        refine ⟨D1, ⟨rfl, ⟨x, HJ.out, hs2b.boxed bR3 (fun e => by omega)⟩, bX3.set _, hs1.setCell (p := ⟨w.heap.size + 1 + 1, 0, none⟩) (.inr (.inr rfl)) _⟩, ?_, fun k hk => .inl hk⟩
        exact (((Upd.refl _ _).drewN _).setCell (p := ⟨w.heap.size + 1, 0, none⟩) (.inr (.inl (.inl rfl))) _).setCell (p := ⟨w.heap.size + 1 + 1, 0, none⟩) (.inr (.inl (.inr rfl))) _
    case done =>
      rintro d D1 W hd ⟨hall, bRb, bXb, hU⟩ hD1 hKd
      have HJ := Lib.hid (show joinI zs a b = -1 from jnI_none fun j hj => by
        cases e : jnB zs (upR zs a b) j
        · rfl
        · exfalso
          unfold jnB at e
          rw [Bool.and_eq_true, beq_iff_eq] at e
          exact hall j ((mem_itemsL (by omega)).2 e.1) e.2)
      have HV := Lib.hid (show joinV zs a b = .tuple #[.int .i64 0, .iface 67 (.agg #[.int .i64 (a : Int), .int .i64 (b : Int)])] by unfold joinV; rw [HJ.out]; rfl)
      have hsz := hU.size
      have hcR := bRb.cell
      have hfR := bRb.frozen
      have hcX := bXb.cell
      have hfX := bXb.frozen
      gi_wp2
      have hs1b : Upd (fun k => k = w.heap.size + 1) W (W.setCell ⟨w.heap.size + 1, 0, none⟩ (.int .i64 0)) := (Upd.refl (fun k => k = w.heap.size + 1) _).setCell (p := ⟨w.heap.size + 1, 0, none⟩) (.inr rfl) _
      have bR3 := bRb.set (.int .i64 0)
      have bX3 := hs1b.boxed bXb (fun e => by omega)
      have hs2b : Upd (fun k => k = w.heap.size + 1 + 1) (W.setCell ⟨w.heap.size + 1, 0, none⟩ (.int .i64 0)) ((W.setCell ⟨w.heap.size + 1, 0, none⟩ (.int .i64 0)).setCell ⟨w.heap.size + 1 + 1, 0, none⟩ (.iface 67 (.agg #[.int .i64 (a : Int), .int .i64 (b : Int)]))) := (Upd.refl (fun k => k = w.heap.size + 1 + 1) _).setCell (p := ⟨w.heap.size + 1 + 1, 0, none⟩) (.inr rfl) _
      have bR4 := hs2b.boxed bR3 (fun e => by omega)
      have bX4 := bX3.set (.iface 67 (.agg #[.int .i64 (a : Int), .int .i64 (b : Int)]))
      have hus : Upd (fun k => k = w.heap.size + 1 ∨ k = w.heap.size + 1 + 1) W ((W.setCell ⟨w.heap.size + 1, 0, none⟩ (.int .i64 0)).setCell ⟨w.heap.size + 1 + 1, 0, none⟩ (.iface 67 (.agg #[.int .i64 (a : Int), .int .i64 (b : Int)]))) := (hs1b.mono (fun k _ e => .inl e)).trans' (hs2b.mono (fun k _ e => .inr e)) (fun i _ e => e)
      refine leaves_marks [d] _ ⟨by simp, fun b hb => ?_⟩ (fun W' hu' => ?_)
      · rw [List.mem_singleton.1 hb]
        exact (hus.block d (Array.getElem?_eq_some_iff.1 hKd).1 (by omega)).trans hKd
      · have hc' := (hu'.boxed bR4 (by simp; omega)).cell
        have hd' := (hu'.boxed bX4 (by simp; omega)).cell
        exact ⟨_, by simp [results, Tryd.f28, go_sem, hc', hd']; rfl, by rw [HV.out],
          (((hu0.mono fun _ _ e => e.elim).trans' (((hu1.mono fun _ _ e => e.elim).trans' (hU.trans hus) (fun i hi e => e))) (fun i hi e => by omega)).trans' hu' (fun i hi e => by simp at e; omega)).toBelow (R := fun _ => False) (fun _ e => e.elim) (Nat.le_refl _)⟩
    case stop =>
      rintro d D1 co pre W hd hpre ⟨rfl, ⟨x, hx, bRb⟩, bXb, hU⟩ hD1 hKd
      have HV := Lib.hid (show joinV zs a b = .tuple #[.int .i64 (x : Int), .nilIface] by unfold joinV; rw [hx, if_neg (by omega)])
      have hsz := hU.size
      gi_wp2
      refine leaves_marks [d] _ ⟨by simp, fun b hb => ?_⟩ (fun W' hu' => ?_)
      · rw [List.mem_singleton.1 hb]
        exact hKd
      · have hc' := (hu'.boxed bRb (by simp; omega)).cell
        have hd' := (hu'.boxed bXb (by simp; omega)).cell
        exact ⟨_, by simp [results, Tryd.f28, go_sem, hc', hd']; rfl, by rw [HV.out],
          (((hu0.mono fun _ _ e => e.elim).trans' (((hu1.mono fun _ _ e => e.elim).trans' hU (fun i hi e => e))) (fun i hi e => by omega)).trans' hu' (fun i hi e => by simp at e; omega)).toBelow (R := fun _ => False) (fun _ e => e.elim) (Nat.le_refl _)⟩
  clear hK
  refine Code.wpIn_mono (Q := fun e a w => e = Exit.normal ∧ K a w) ?_ ?_
  · rintro e a w ⟨rfl, h⟩
    exact h
  refine region_T_wide (S := (fun w' => w'.cell? ⟨w.heap.size, 0, none⟩ = some (.slice A n c))) 7 (by kernel_rfl) (by rintro ⟨_, _, h, _⟩; cases h) ?_
  have bOd : Boxed W0.drew w.heap.size 35 (.slice A n c) := bO
  have hUd : Upd (fun _ => False) W0 W0.drew := (Upd.refl _ W0).drew
  have hAd : Ints W0.drew w.heap.size A n zs := hA0
  have hzd : W0.heap.size ≤ W0.drew.heap.size ∧ W0.drew.heap.size ≤ W0.heap.size := ⟨Nat.le_refl _, Nat.le_refl _⟩
  obtain ⟨Wd, hWd⟩ : ∃ Wd, W0.drew = Wd := ⟨_, rfl⟩
  rw [hWd] at bOd hUd hAd hzd ⊢
  clear hWd
  have hSd : (fun w' => w'.cell? ⟨w.heap.size, 0, none⟩ = some (.slice A n c)) Wd := bOd.cell
  refine anyT_take (i := 0) (oi := ?oi0a) (v := .slice A n c) ?hi0a (by kernel_rfl) ?hq0a ?hy0a (by assumption) ?rest0a
  case hi0a => (simp only [List.getElem?_toArray, List.getElem?_cons_zero]; first | done | rfl)
  case hq0a => first | exact fun _ _ _ h => h | exact fun _ _ _ h => (by cases h.1)
  case hy0a => (refine Or.inl ⟨by rfl, ?_⟩; intro wz hSw; go_simp; first | done | with_reducible rfl | simp | omega)
  try simp only [Act.put, List.setIfInBounds_toArray, List.set_cons_zero, List.set_cons_succ]
  refine anyT_take (i := 1) (oi := ?oi1a) (v := .int .i64 (a : Int)) ?hi1a (by kernel_rfl) ?hq1a ?hy1a (by assumption) ?rest1a
  case hi1a => (simp only [List.getElem?_toArray, List.getElem?_cons_succ, List.getElem?_cons_zero]; first | done | rfl)
  case hq1a => first | exact fun _ _ _ h => h | exact fun _ _ _ h => (by cases h.1)
  case hy1a => (refine Or.inl ⟨by rfl, ?_⟩; intro wz hSw; go_simp; first | done | with_reducible rfl | simp | omega)
  try simp only [Act.put, List.setIfInBounds_toArray, List.set_cons_zero, List.set_cons_succ]
  refine anyT_take (i := 3) (oi := ?oi3a) (v := .int .i64 (b : Int)) ?hi3a (by kernel_rfl) ?hq3a ?hy3a (by assumption) ?rest3a
  case hi3a => (simp only [List.getElem?_toArray, List.getElem?_cons_succ, List.getElem?_cons_zero]; first | done | rfl)
  case hq3a => first | exact fun _ _ _ h => h | exact fun _ _ _ h => (by cases h.1)
  case hy3a => (refine Or.inl ⟨by rfl, ?_⟩; intro wz hSw; go_simp; first | done | with_reducible rfl | simp | omega)
  try simp only [Act.put, List.setIfInBounds_toArray, List.set_cons_zero, List.set_cons_succ]
  refine anyT_two (i := 2) (j := 6) (by kernel_rfl) rfl rfl (fun K' hK => ?_) (fun K' hK => ?_)
  · go_simp
    refine (hw1 _).mono ?_
    rintro e w' ⟨rfl, rfl⟩
    refine hK.out _ _ (fun _ => hSd) ?_
    clear hK K'
    try simp only [Act.put, List.setIfInBounds_toArray, List.set_cons_zero, List.set_cons_succ]
    refine anyT_two (i := 4) (j := 6) (by kernel_rfl) rfl rfl (fun K' hK => ?_) (fun K' hK => ?_)
    · go_simp
      refine (hw2 _).mono ?_
      rintro e w' ⟨rfl, rfl⟩
      refine hK.out _ _ (fun _ => hSd) ?_
      clear hK K'
      try simp only [Act.put, List.setIfInBounds_toArray, List.set_cons_zero, List.set_cons_succ]
      refine anyT_two (i := 5) (j := 6) (by kernel_rfl) rfl rfl (fun K' hK => ?_) (fun K' hK => ?_)
      · go_simp
        refine (atOrAbove_any A n c zs (twoS a b) hv Wd (hAd.more (by omega)) h2b.1 h2b.2).mono ?_
        rw [Ht2.out]
        rintro e W2 ⟨rfl, hB2⟩
        have z2 := hB2.size
        have bO2 := (Below.toUpd hB2).boxed bOd (fun e => by omega)
        have hU2 : Upd (fun _ => False) W0 W2 := hUd.below hB2 (fun k h1 h2 => by omega)
        refine hK.out _ _ (fun _ => bO2.cell) ?_
        clear hK K'
        try simp only [Act.put, List.setIfInBounds_toArray, List.set_cons_zero, List.set_cons_succ]
        refine anyT_one (i := 6) (by kernel_rfl) rfl (fun K' hK => ?_)
        go_simp
        have bO3 := bO2.alloc (.cells #[Value.int .i64 0] 54)
        have bC3 := Boxed.new W2 54 (.int .i64 0)
        refine hK.out _ _ (fun _ => bO3.cell) ?_
        clear hK K'
        try simp only [Act.put, List.setIfInBounds_toArray, List.set_cons_zero, List.set_cons_succ]
        refine anyT_one (i := 7) (by kernel_rfl) rfl (fun K' hK => ?_)
        go_simp
        refine hK.out _ _ (fun h => absurd rfl h) ?_
        clear hK K'
        try simp only [Act.put, List.setIfInBounds_toArray, List.set_cons_zero, List.set_cons_succ]
        refine anyT_done (by kernel_rfl) ?_ _
        exact ⟨rfl, key W2.heap.size _ (by omega) (by simp) (hU2.alloc _) (Boxed.new W2 54 (.int .i64 (upR zs a b)))⟩
      · go_simp
        have hSa : (fun w' => w'.cell? ⟨w.heap.size, 0, none⟩ = some (.slice A n c)) (Wd.alloc (.cells #[Value.int .i64 0] 54)) := (bOd.alloc _).cell
        refine hK.out _ _ (fun _ => hSa) ?_
        clear hK K'
        try simp only [Act.put, List.setIfInBounds_toArray, List.set_cons_zero, List.set_cons_succ]
        refine anyT_one (i := 5) (by kernel_rfl) rfl (fun K' hK => ?_)
        go_simp
        have hAa : Ints (Wd.alloc (.cells #[Value.int .i64 0] 54)) w.heap.size A n zs := hAd.below (((Upd.refl (fun _ => False) Wd).alloc _).toBelow (fun _ e => e.elim) (by omega))
        have bCa := Boxed.new Wd 54 (.int .i64 0)
        have hUa : Upd (fun _ => False) W0 (Wd.alloc (.cells #[Value.int .i64 0] 54)) := hUd.alloc _
        have hza : Wd.heap.size < (Wd.alloc (.cells #[Value.int .i64 0] 54)).heap.size := by simp
        have bOa := bOd.alloc (.cells #[Value.int .i64 0] 54)
        generalize Wd.alloc (.cells #[Value.int .i64 0] 54) = Wa at *
        refine (atOrAbove_any A n c zs (twoS a b) hv Wa (hAa.more (by omega)) h2b.1 h2b.2).mono ?_
        rw [Ht2.out]
        rintro e W2 ⟨rfl, hB2⟩
        have z2 := hB2.size
        have bO2 := (Below.toUpd hB2).boxed bOa (fun e => by omega)
        have bC2 := (Below.toUpd hB2).boxed bCa (fun e => by omega)
        have hU2 : Upd (fun _ => False) W0 W2 := hUa.below hB2 (fun k h1 h2 => by omega)
        have hcC := bC2.cell
        have hfC := bC2.frozen
        refine hK.out _ _ (fun _ => bO2.cell) ?_
        clear hK K'
        try simp only [Act.put, List.setIfInBounds_toArray, List.set_cons_zero, List.set_cons_succ]
        refine anyT_one (i := 7) (by kernel_rfl) rfl (fun K' hK => ?_)
        go_simp
        refine hK.out _ _ (fun h => absurd rfl h) ?_
        clear hK K'
        try simp only [Act.put, List.setIfInBounds_toArray, List.set_cons_zero, List.set_cons_succ]
        refine anyT_done (by kernel_rfl) ?_ _
        exact ⟨rfl, key Wd.heap.size _ (by omega) (by simp; omega) (hU2.setCell (p := ⟨Wd.heap.size, 0, none⟩) (.inl (by show W0.heap.size ≤ Wd.heap.size; omega)) _) (bC2.set _)⟩
    · go_simp
      have hSa : (fun w' => w'.cell? ⟨w.heap.size, 0, none⟩ = some (.slice A n c)) (Wd.alloc (.cells #[Value.int .i64 0] 54)) := (bOd.alloc _).cell
      refine hK.out _ _ (fun _ => hSa) ?_
      clear hK K'
      try simp only [Act.put, List.setIfInBounds_toArray, List.set_cons_zero, List.set_cons_succ]
      refine anyT_one (i := 4) (by kernel_rfl) rfl (fun K' hK => ?_)
      go_simp
      refine (hw2 _).mono ?_
      rintro e w' ⟨rfl, rfl⟩
      refine hK.out _ _ (fun _ => hSa) ?_
      clear hK K'
      try simp only [Act.put, List.setIfInBounds_toArray, List.set_cons_zero, List.set_cons_succ]
      refine anyT_one (i := 5) (by kernel_rfl) rfl (fun K' hK => ?_)
      go_simp
      have hAa : Ints (Wd.alloc (.cells #[Value.int .i64 0] 54)) w.heap.size A n zs := hAd.below (((Upd.refl (fun _ => False) Wd).alloc _).toBelow (fun _ e => e.elim) (by omega))
      have bCa := Boxed.new Wd 54 (.int .i64 0)
      have hUa : Upd (fun _ => False) W0 (Wd.alloc (.cells #[Value.int .i64 0] 54)) := hUd.alloc _
      have hza : Wd.heap.size < (Wd.alloc (.cells #[Value.int .i64 0] 54)).heap.size := by simp
      have bOa := bOd.alloc (.cells #[Value.int .i64 0] 54)
      generalize Wd.alloc (.cells #[Value.int .i64 0] 54) = Wa at *
      refine (atOrAbove_any A n c zs (twoS a b) hv Wa (hAa.more (by omega)) h2b.1 h2b.2).mono ?_
      rw [Ht2.out]
      rintro e W2 ⟨rfl, hB2⟩
      have z2 := hB2.size
      have bO2 := (Below.toUpd hB2).boxed bOa (fun e => by omega)
      have bC2 := (Below.toUpd hB2).boxed bCa (fun e => by omega)
      have hU2 : Upd (fun _ => False) W0 W2 := hUa.below hB2 (fun k h1 h2 => by omega)
      have hcC := bC2.cell
      have hfC := bC2.frozen
      refine hK.out _ _ (fun _ => bO2.cell) ?_
      clear hK K'
      try simp only [Act.put, List.setIfInBounds_toArray, List.set_cons_zero, List.set_cons_succ]
      refine anyT_one (i := 7) (by kernel_rfl) rfl (fun K' hK => ?_)
      go_simp
      refine hK.out _ _ (fun h => absurd rfl h) ?_
      clear hK K'
      try simp only [Act.put, List.setIfInBounds_toArray, List.set_cons_zero, List.set_cons_succ]
      refine anyT_done (by kernel_rfl) ?_ _
      exact ⟨rfl, key Wd.heap.size _ (by omega) (by simp; omega) (hU2.setCell (p := ⟨Wd.heap.size, 0, none⟩) (.inl (by show W0.heap.size ≤ Wd.heap.size; omega)) _) (bC2.set _)⟩
  · go_simp
    have hSa : (fun w' => w'.cell? ⟨w.heap.size, 0, none⟩ = some (.slice A n c)) (Wd.alloc (.cells #[Value.int .i64 0] 54)) := (bOd.alloc _).cell
    refine hK.out _ _ (fun _ => hSa) ?_
    clear hK K'
    try simp only [Act.put, List.setIfInBounds_toArray, List.set_cons_zero, List.set_cons_succ]
    refine anyT_one (i := 2) (by kernel_rfl) rfl (fun K' hK => ?_)
    go_simp
    refine (hw1 _).mono ?_
    rintro e w' ⟨rfl, rfl⟩
    refine hK.out _ _ (fun _ => hSa) ?_
    clear hK K'
    try simp only [Act.put, List.setIfInBounds_toArray, List.set_cons_zero, List.set_cons_succ]
    refine anyT_one (i := 4) (by kernel_rfl) rfl (fun K' hK => ?_)
    go_simp
    refine (hw2 _).mono ?_
    rintro e w' ⟨rfl, rfl⟩
    refine hK.out _ _ (fun _ => hSa) ?_
    clear hK K'
    try simp only [Act.put, List.setIfInBounds_toArray, List.set_cons_zero, List.set_cons_succ]
    refine anyT_one (i := 5) (by kernel_rfl) rfl (fun K' hK => ?_)
    go_simp
    have hAa : Ints (Wd.alloc (.cells #[Value.int .i64 0] 54)) w.heap.size A n zs := hAd.below (((Upd.refl (fun _ => False) Wd).alloc _).toBelow (fun _ e => e.elim) (by omega))
    have bCa := Boxed.new Wd 54 (.int .i64 0)
    have hUa : Upd (fun _ => False) W0 (Wd.alloc (.cells #[Value.int .i64 0] 54)) := hUd.alloc _
    have hza : Wd.heap.size < (Wd.alloc (.cells #[Value.int .i64 0] 54)).heap.size := by simp
    have bOa := bOd.alloc (.cells #[Value.int .i64 0] 54)
    generalize Wd.alloc (.cells #[Value.int .i64 0] 54) = Wa at *
    refine (atOrAbove_any A n c zs (twoS a b) hv Wa (hAa.more (by omega)) h2b.1 h2b.2).mono ?_
    rw [Ht2.out]
    rintro e W2 ⟨rfl, hB2⟩
    have z2 := hB2.size
    have bO2 := (Below.toUpd hB2).boxed bOa (fun e => by omega)
    have bC2 := (Below.toUpd hB2).boxed bCa (fun e => by omega)
    have hU2 : Upd (fun _ => False) W0 W2 := hUa.below hB2 (fun k h1 h2 => by omega)
    have hcC := bC2.cell
    have hfC := bC2.frozen
    refine hK.out _ _ (fun _ => bO2.cell) ?_
    clear hK K'
    try simp only [Act.put, List.setIfInBounds_toArray, List.set_cons_zero, List.set_cons_succ]
    refine anyT_one (i := 7) (by kernel_rfl) rfl (fun K' hK => ?_)
    go_simp
    refine hK.out _ _ (fun h => absurd rfl h) ?_
    clear hK K'
    try simp only [Act.put, List.setIfInBounds_toArray, List.set_cons_zero, List.set_cons_succ]
    refine anyT_done (by kernel_rfl) ?_ _
    exact ⟨rfl, key Wd.heap.size _ (by omega) (by simp; omega) (hU2.setCell (p := ⟨Wd.heap.size, 0, none⟩) (.inl (by show W0.heap.size ≤ Wd.heap.size; omega)) _) (bC2.set _)⟩
end Go.Proofs.YtogiooecjfnkcaaDoor

/- Joins and meets: the model's. -/
namespace Go.Proofs.YtogiooecjfnkcaaDoor
open Go.RowKit Go.Shelf
attribute [local go_sem] Oper.semAt_some
attribute [local go_sem, local simp] wide_fn

theorem quiet_zero_left {P : Program} {f : FuncId} {args : Array Value} {w : World} {n : Nat} {v : Value}
    (h : Calls P f args (w.drewN n) fun e w' => e = .returned v ∧ w.drewN n = w') :
    Calls P f args (w.drewN n) fun e w'' => e = .returned v ∧ ∃ m, w'' = w.drewN m :=
  h.mono fun _ _ ⟨he, hm⟩ => ⟨he, n, hm.symm⟩

set_option maxRecDepth 100000 in
set_option maxHeartbeats 400000 in
theorem supper_any (A : Option Addr) (n c B : Nat) (zs : List Int) (a b : Nat) (w : World) (h : Ints w B A n zs) (hv : Sets zs) (ha : a < n) (hb : b < n) :
    Calls Tryd.prog 41 #[.slice A n c, .int .i64 (a : Int), .int .i64 (b : Int)] w fun e w' => e = .returned (.int .i64 (upR zs a b)) ∧ ∃ m, w' = w.drewN m := by
  have hlen := Lib.hid h.len
  have hn6 : n ≤ 6 := by have := hv.1; rw [hlen.out] at this; exact this
  obtain ⟨bl, off, rfl, _, hc⟩ := h.at_ ha
  have hca := hc a ha
  have hcb := hc b hb
  clear hc
  have hza := hv.bd a (by rw [hlen.out]; exact ha)
  have hzb := hv.bd b (by rw [hlen.out]; exact hb)
  have hua := atUp_bd hv (a := a) (by rw [hlen.out]; exact ha)
  have hub := atUp_bd hv (a := b) (by rw [hlen.out]; exact hb)
  have hpn := powI_le6 (n := (zs.length : Int)) (by rw [hlen.out]; omega)
  have hpa := powI_le6 (n := (a : Int)) (by omega)
  have hpb := powI_le6 (n := (b : Int)) (by omega)
  have hp0 := powI_pos (a : Int)
  have hp1 := powI_pos (b : Int)
  have ho1 : bits .or .i64 (zs[a]?.getD 0) (powI a) = atUp zs a := bits_or (by omega) (by omega) (by omega) (by omega)
  have ho2 : bits .or .i64 (zs[b]?.getD 0) (powI b) = atUp zs b := bits_or (by omega) (by omega) (by omega) (by omega)
  have hand : bits .and .i64 (atUp zs a) (atUp zs b) = upR zs a b := bits_and (by omega) (by omega) (by omega) (by omega)
  have hqa := fun w => power_any (a : Int) w (by omega) (by omega)
  have hqb := fun w => power_any (b : Int) w (by omega) (by omega)
  generalize upR zs a b = u at *
  generalize atUp zs a = ua at *
  generalize atUp zs b = ub at *
  generalize powI (a : Int) = pa at *
  generalize powI (b : Int) = pb at *
  generalize zs[a]?.getD 0 = za at *
  generalize zs[b]?.getD 0 = zb at *
  clear hpa hpb hp0 hp1 hua hub hza hzb hpn
  go_enter Tryd.func41, Tryd.ntmps41
  go_wp2
  go_quiet ((go_at_call 39; first | (with_reducible exact quiet_zero_left (hqa _)) | exact quiet_zero_left (hqb _)))
  go_wp2
  go_ret
  exact ⟨rfl, _, rfl⟩

set_option maxHeartbeats 1000000 in
theorem sjoin_any (A : Option Addr) (n c B : Nat) (zs : List Int) (a b : Nat) (w : World) (h : Ints w B A n zs) (hv : Sets zs) (ha : a < n) (hb : b < n) :
    Calls Tryd.prog 25 #[.slice A n c, .int .i64 (a : Int), .int .i64 (b : Int)] w fun e w' => e = .returned (.int .i64 (joinI zs a b)) ∧ ∃ m, w' = w.drewN m := by
  have hlen := Lib.hid h.len
  have hn6 : n ≤ 6 := by have := hv.1; rw [hlen.out] at this; exact this
  have hub := upR_bd hv (a := a) (b := b) (by rw [hlen.out]; exact ha)
  have hpn := powI_le6 (n := (zs.length : Int)) (by rw [hlen.out]; omega)
  have Hj := Lib.hid (show joinI zs a b = jnI zs (upR zs a b) from rfl)
  have hup := supper_any A n c B zs a b w h hv ha hb
  rw [Hj.out]
  generalize upR zs a b = u at *
  go_enter Tryd.func25, Tryd.ntmps25
  go_wp2_with (go_at_call 41; refine hup.mono ?_; rintro e w' ⟨rfl, m0, rfl⟩)
  go_loopw [8] (fun i wr => ∃ k q : Nat, k ≤ n ∧ i = .int .i64 k ∧ (∀ j, j < k → jnB zs u j = false) ∧ wr = w.drewN q) (fun i _ => n - (intOf i).toNat)
  case atStart => exact ⟨0, m0, by omega, rfl, fun j hj => by omega, rfl⟩
  case round =>
    obtain ⟨k, q, hk, rfl, hno, rfl⟩ := hrel
    have Hno := Lib.hid hno
    clear hno
    by_cases hlt : k < n
    · obtain ⟨bl, off, rfl, _, hc⟩ := h.at_ hlt
      have hck := hc k hlt
      clear hc
      have hz := hv.bd k (by rw [hlen.out]; exact hlt)
      have hbk := atUp_bd hv (a := k) (by rw [hlen.out]; exact hlt)
      have hpk := powI_le6 (n := (k : Int)) (by omega)
      have hp0 := powI_pos (k : Int)
      have hqt := fun w => bit_any u (k : Int) w (by omega) (by omega) (by omega) (by omega)
      have hqk := fun w => power_any (k : Int) w (by omega) (by omega)
      have ho : bits .or .i64 (zs[k]?.getD 0) (powI k) = atUp zs k := bits_or (by omega) (by omega) (by omega) (by omega)
      have hle : bits .andNot .i64 u (atUp zs k) = lessI u (atUp zs k) := bits_less (by omega) (by omega) (by omega) (by omega)
      cases hb : bitB u k
      · have hbi : (bitI u k == 1) = false := by rw [bitI_one, hb]
        have Hn := Lib.hid (show jnB zs u k = false by unfold jnB; rw [hb]; rfl)
        go_wp2
        go_quiet ((first | (go_at_call 40; exact quiet_add_left (hqt _)) | (go_at_call 39; exact quiet_add_left (hqk _))))
        go_wp2
        go_roundw
        case rel => exact ⟨k + 1, _, by omega, by go_num, all_snoc Hno.out Hn.out, rfl⟩
        case measure => simp [intOf]; omega
      · have hbi : (bitI u k == 1) = true := by rw [bitI_one, hb]
        cases hl : (lessI u (atUp zs k) == 0)
        · have Hn := Lib.hid (show jnB zs u k = false by unfold jnB; rw [hb, hl]; rfl)
          go_wp2
          go_quiet ((first | (go_at_call 40; exact quiet_add_left (hqt _)) | (go_at_call 39; exact quiet_add_left (hqk _))))
          go_wp2
          go_roundw
          case rel => exact ⟨k + 1, _, by omega, by go_num, all_snoc Hno.out Hn.out, rfl⟩
          case measure => simp [intOf]; omega
        · have Hn := Lib.hid (jnI_at (zs := zs) (s := u) (c := k) (by rw [hlen.out]; exact hlt) (show jnB zs u k = true by unfold jnB; rw [hb, hl]; rfl) Hno.out)
          go_wp2
          go_quiet ((first | (go_at_call 40; exact quiet_add_left (hqt _)) | (go_at_call 39; exact quiet_add_left (hqk _))))
          go_wp2
          go_ret
          exact ⟨ret_int Hn.out.symm, _, World.drewN_drewN ..⟩
    · obtain rfl : k = n := by omega
      have Hn := Lib.hid (jnI_none (zs := zs) (s := u) (by rw [hlen.out]; exact Hno.out))
      go_wp2
      go_ret
      exact ⟨ret_int Hn.out.symm, _, rfl⟩
end Go.Proofs.YtogiooecjfnkcaaDoor

/- JoinOf, MeetOf: the program's and the model's. -/
namespace Go.Proofs.YtogiooecjfnkcaaDoor
open Go.RowKit Go.Shelf
attribute [local go_sem] Oper.semAt_some
attribute [local go_sem, local simp] wide_fn

theorem omeet_any (A : Option Addr) (n c : Nat) (zs : List Int) (a b : Nat) (hv : Sets zs) (w : World) (hA : Ints w w.heap.size A n zs) (ha : a < n) (hb : b < n) :
    Calls Tryd.prog 30 #[.slice A n c, .int .i64 (a : Int), .int .i64 (b : Int)] w fun e W' => e = .returned (joinV (du zs) a b) ∧ Below w.heap.size w W' := by
  have hlen := Lib.hid hA.len
  have Hd := Lib.hid (show downP n (pairsL zs) = du zs by unfold du; rw [hlen.out])
  go_enter Tryd.func30, Tryd.ntmps30
  go_wp2_with fail
  refine (dual_any A n c zs hv w hA).mono ?_
  rintro e w2 ⟨rfl, hA2, hB2⟩
  rw [Hd.out] at hA2
  go_wp2_with fail
  refine (ojoin_any _ n _ (du zs) a b (du_sets hv) _ (hA2.ints' hA2.lt (by rw [du_len, hlen.out])) ha hb).mono ?_
  rintro e w3 ⟨rfl, hB3⟩
  have C := hB2.trans (hB3.mono hB2.size)
  by_cases hneg : joinI (du zs) a b < 0
  · have Hv := Lib.hid (show joinV (du zs) a b = .tuple #[.int .i64 0, .iface 67 (.agg #[.int .i64 (a : Int), .int .i64 (b : Int)])] by unfold joinV; rw [if_pos hneg])
    clear hneg
    rw [Hv.out]
    go_wp2_with fail
    go_ret2
    exact ⟨by rw [Hv.out]; rfl, C⟩
  · have Hv := Lib.hid (show joinV (du zs) a b = .tuple #[.int .i64 (joinI (du zs) a b), .nilIface] by unfold joinV; rw [if_neg hneg])
    clear hneg
    rw [Hv.out]
    go_wp2_with fail
    go_ret2
    exact ⟨by rw [Hv.out]; rfl, C⟩

/-- What is found for two numbers. -/
def findR (zs ds : List Int) (a b : Int) : Int := if isIt zs a && isIt zs b then joinI ds a.toNat b.toNat else -1

set_option maxHeartbeats 1000000 in
theorem find_join_any (A : Option Addr) (n c : Nat) (zs : List Int) (a b : Int) (hv : Sets zs) (w : World) (hA : Ints w w.heap.size A n zs) (hE : Et w) :
    Calls Tryd.prog 27 #[.slice A n c, .func (.func 28) #[.slice A n c] #[], .int .i64 a, .int .i64 b] w fun e W' => e = .returned (.int .i64 (findR zs zs a b)) ∧ Below w.heap.size w W' := by
  have hlen := Lib.hid hA.len
  have hn6 : n ≤ 6 := by have := hv.1; rw [hlen.out] at this; exact this
  have hi := fun k w => isItemOf_any (n : Int) k w
  cases ha : inB a 0 ((n : Int) - 1)
  · have Ht := Lib.hid (show findR zs zs a b = -1 by unfold findR isIt; rw [hlen.out, ha]; rfl)
    have hia := fun w => hi a w
    rw [ha] at hia
    go_enter Tryd.func27, Tryd.ntmps27
    go_wp2_with (go_at_call 44; refine (hia _).mono ?_; rintro e w' ⟨rfl, rfl⟩)
    go_ret
    exact ⟨ret_int Ht.out.symm, Below.refl _ _⟩
  · cases hb : inB b 0 ((n : Int) - 1)
    · have Ht := Lib.hid (show findR zs zs a b = -1 by unfold findR isIt; rw [hlen.out, ha, hb]; rfl)
      have hia := fun w => hi a w
      have hib := fun w => hi b w
      rw [ha] at hia
      rw [hb] at hib
      go_enter Tryd.func27, Tryd.ntmps27
      go_wp2_with fail
      refine (hia _).mono ?_
      rintro e w' ⟨rfl, rfl⟩
      go_wp2_with fail
      refine (hib _).mono ?_
      rintro e w' ⟨rfl, rfl⟩
      go_wp2_with fail
      go_ret
      exact ⟨ret_int Ht.out.symm, Below.refl _ _⟩
    · have Ht := Lib.hid (show findR zs zs a b = joinI zs a.toNat b.toNat by unfold findR isIt; rw [hlen.out, ha, hb]; rfl)
      have hia := fun w => hi a w
      have hib := fun w => hi b w
      rw [ha] at hia
      rw [hb] at hib
      simp only [inB, decide_eq_true_eq] at ha hb
      obtain ⟨x, rfl⟩ := Int.eq_ofNat_of_zero_le ha.1
      obtain ⟨y, rfl⟩ := Int.eq_ofNat_of_zero_le hb.1
      rw [Int.toNat_natCast, Int.toNat_natCast] at Ht
      have hx : x < n := by omega
      have hy : y < n := by omega
      clear hi ha hb
      go_enter Tryd.func27, Tryd.ntmps27
      go_wp2_with fail
      refine (hia _).mono ?_
      rintro e w' ⟨rfl, rfl⟩
      go_wp2_with fail
      refine (hib _).mono ?_
      rintro e w' ⟨rfl, rfl⟩
      go_wp2_with fail
      refine (ojoin_any A n c zs x y hv _ hA hx hy).mono ?_
      rintro e w2 ⟨rfl, hB2⟩
      have hE2 := hE.below hB2 hE.2
      have z2 := hB2.size
      unfold joinV
      have hjb := joinI_bd zs x y
      by_cases hneg : joinI zs x y < 0
      · have Hj := Lib.hid (show joinI zs x y = -1 by omega)
        rw [if_pos hneg]
        clear hneg hjb
        go_wp2_with fail
        refine (isLack_hit _ _ _ hE2).mono ?_
        rintro e w3 ⟨rfl, hB3⟩
        go_wp2_with fail
        go_ret
        exact ⟨ret_int (by rw [Ht.out, Hj.out]), hB2.trans (hB3.mono z2)⟩
      · rw [if_neg hneg]
        clear hneg hjb
        go_wp2_with fail
        refine (isLack_nil _).mono ?_
        rintro e w3 ⟨rfl, hB3⟩
        go_wp2_with fail
        go_ret
        exact ⟨ret_int Ht.out.symm, hB2.trans (hB3.mono z2)⟩

set_option maxHeartbeats 1000000 in
theorem find_meet_any (A : Option Addr) (n c : Nat) (zs : List Int) (a b : Int) (hv : Sets zs) (w : World) (hA : Ints w w.heap.size A n zs) (hE : Et w) :
    Calls Tryd.prog 27 #[.slice A n c, .func (.func 30) #[.slice A n c] #[], .int .i64 a, .int .i64 b] w fun e W' => e = .returned (.int .i64 (findR zs (du zs) a b)) ∧ Below w.heap.size w W' := by
  have hlen := Lib.hid hA.len
  have hn6 : n ≤ 6 := by have := hv.1; rw [hlen.out] at this; exact this
  have hi := fun k w => isItemOf_any (n : Int) k w
  cases ha : inB a 0 ((n : Int) - 1)
  · have Ht := Lib.hid (show findR zs (du zs) a b = -1 by unfold findR isIt; rw [hlen.out, ha]; rfl)
    have hia := fun w => hi a w
    rw [ha] at hia
    go_enter Tryd.func27, Tryd.ntmps27
    go_wp2_with (go_at_call 44; refine (hia _).mono ?_; rintro e w' ⟨rfl, rfl⟩)
    go_ret
    exact ⟨ret_int Ht.out.symm, Below.refl _ _⟩
  · cases hb : inB b 0 ((n : Int) - 1)
    · have Ht := Lib.hid (show findR zs (du zs) a b = -1 by unfold findR isIt; rw [hlen.out, ha, hb]; rfl)
      have hia := fun w => hi a w
      have hib := fun w => hi b w
      rw [ha] at hia
      rw [hb] at hib
      go_enter Tryd.func27, Tryd.ntmps27
      go_wp2_with fail
      refine (hia _).mono ?_
      rintro e w' ⟨rfl, rfl⟩
      go_wp2_with fail
      refine (hib _).mono ?_
      rintro e w' ⟨rfl, rfl⟩
      go_wp2_with fail
      go_ret
      exact ⟨ret_int Ht.out.symm, Below.refl _ _⟩
    · have Ht := Lib.hid (show findR zs (du zs) a b = joinI (du zs) a.toNat b.toNat by unfold findR isIt; rw [hlen.out, ha, hb]; rfl)
      have hia := fun w => hi a w
      have hib := fun w => hi b w
      rw [ha] at hia
      rw [hb] at hib
      simp only [inB, decide_eq_true_eq] at ha hb
      obtain ⟨x, rfl⟩ := Int.eq_ofNat_of_zero_le ha.1
      obtain ⟨y, rfl⟩ := Int.eq_ofNat_of_zero_le hb.1
      rw [Int.toNat_natCast, Int.toNat_natCast] at Ht
      have hx : x < n := by omega
      have hy : y < n := by omega
      clear hi ha hb
      go_enter Tryd.func27, Tryd.ntmps27
      go_wp2_with fail
      refine (hia _).mono ?_
      rintro e w' ⟨rfl, rfl⟩
      go_wp2_with fail
      refine (hib _).mono ?_
      rintro e w' ⟨rfl, rfl⟩
      go_wp2_with fail
      refine (omeet_any A n c zs x y hv _ hA hx hy).mono ?_
      rintro e w2 ⟨rfl, hB2⟩
      have hE2 := hE.below hB2 hE.2
      have z2 := hB2.size
      unfold joinV
      have hjb := joinI_bd (du zs) x y
      by_cases hneg : joinI (du zs) x y < 0
      · have Hj := Lib.hid (show joinI (du zs) x y = -1 by omega)
        rw [if_pos hneg]
        clear hneg hjb
        go_wp2_with fail
        refine (isLack_hit _ _ _ hE2).mono ?_
        rintro e w3 ⟨rfl, hB3⟩
        go_wp2_with fail
        go_ret
        exact ⟨ret_int (by rw [Ht.out, Hj.out]), hB2.trans (hB3.mono z2)⟩
      · rw [if_neg hneg]
        clear hneg hjb
        go_wp2_with fail
        refine (isLack_nil _).mono ?_
        rintro e w3 ⟨rfl, hB3⟩
        go_wp2_with fail
        go_ret
        exact ⟨ret_int Ht.out.symm, hB2.trans (hB3.mono z2)⟩

theorem JoinOf_any (A : Option Addr) (n c : Nat) (zs : List Int) (a b : Int) (w : World) (h : Ints w w.heap.size A n zs) (hbig : n ≤ 1152921504606846976) (hE : Et w) :
    Calls Tryd.prog 11 #[.slice A n c, .int .i64 a, .int .i64 b] w fun e w' => e = .returned (.int .i64 (joinR zs a b)) ∧ Below w.heap.size w w' := by
  have hlen := Lib.hid h.len
  cases hv : vo zs
  · have Ht := Lib.hid (show joinR zs a b = -1 by unfold joinR; rw [hv]; rfl)
    have Hv := Lib.hid hv
    clear hv
    go_enter Tryd.func11, Tryd.ntmps11
    go_wp2_with fail
    refine (readOrder_any _ _ _ zs _ h hbig).mono ?_
    rintro e w' ⟨hB, (⟨hv, b, rfl, _, _⟩ | ⟨_, rfl⟩)⟩
    · rw [Hv.out] at hv; cases hv
    · go_wp2_with fail
      go_ret
      exact ⟨ret_int Ht.out.symm, hB⟩
  · have hvo : VoP zs := by simpa [vo] using hv
    have Ht := Lib.hid (show joinR zs a b = findR zs zs a b by unfold joinR findR; rw [hv]; rfl)
    have Hv := Lib.hid hv
    clear hv
    go_enter Tryd.func11, Tryd.ntmps11
    go_wp2_with fail
    refine (readOrder_any _ _ _ zs _ h hbig).mono ?_
    rintro e w1 ⟨hB, (⟨_, bb, rfl, hb, hAr⟩ | ⟨hv, _⟩)⟩
    · have z1 := hB.size
      have hE1 := hE.below hB hE.2
      go_wp2_with fail
      refine (find_join_any _ n _ zs a b hvo.sets _ (hAr.ints' hAr.lt hlen.out) hE1).mono ?_
      rintro e w2 ⟨rfl, hB2⟩
      go_wp2_with fail
      go_ret
      exact ⟨ret_int Ht.out.symm, hB.trans (hB2.mono z1)⟩
    · rw [Hv.out] at hv; cases hv

theorem specJoinOfF_any (A : Option Addr) (n c : Nat) (zs : List Int) (a b : Int) (w : World) (h : Ints w w.heap.size A n zs) (hbig : n ≤ 1152921504606846976) :
    Calls Tryd.prog 9 #[.slice A n c, .int .i64 a, .int .i64 b] w fun e w' => e = .returned (.int .i64 (joinR zs a b)) ∧ Below w.heap.size w w' := by
  have hlen := Lib.hid h.len
  have hir := fun k w => inRange_any k 0 ((n : Int) - 1) w
  cases hv : vo zs
  · have Ht := Lib.hid (show joinR zs a b = -1 by unfold joinR; rw [hv]; rfl)
    have HV := Lib.hid hv
    clear hv
    go_enter Tryd.func9, Tryd.ntmps9
    go_wp2_with fail
    refine (validOrder_any _ _ _ _ zs _ h hbig).mono ?_
    rw [HV.out]
    rintro e w' ⟨rfl, m, rfl⟩
    go_wp2_with fail
    go_ret
    exact ⟨ret_int Ht.out.symm, below_drewN (Below.refl _ _) _⟩
  · have hvo : VoP zs := by simpa [vo] using hv
    have HV := Lib.hid hv
    clear hv
    cases ha : inB a 0 ((n : Int) - 1)
    · have Ht := Lib.hid (show joinR zs a b = -1 by unfold joinR isIt; rw [HV.out, hlen.out, ha]; rfl)
      have hia := fun w => hir a w
      rw [ha] at hia
      go_enter Tryd.func9, Tryd.ntmps9
      go_wp2_with fail
      refine (validOrder_any _ _ _ _ zs _ h hbig).mono ?_
      rw [HV.out]
      rintro e w' ⟨rfl, m, rfl⟩
      go_wp2_with fail
      refine (hia _).mono ?_
      rintro e w' ⟨rfl, rfl⟩
      go_wp2_with fail
      go_ret
      exact ⟨ret_int Ht.out.symm, below_drewN (Below.refl _ _) _⟩
    · cases hb : inB b 0 ((n : Int) - 1)
      · have Ht := Lib.hid (show joinR zs a b = -1 by unfold joinR isIt; rw [HV.out, hlen.out, ha, hb]; rfl)
        have hia := fun w => hir a w
        have hib := fun w => hir b w
        rw [ha] at hia
        rw [hb] at hib
        go_enter Tryd.func9, Tryd.ntmps9
        go_wp2_with fail
        refine (validOrder_any _ _ _ _ zs _ h hbig).mono ?_
        rw [HV.out]
        rintro e w' ⟨rfl, m, rfl⟩
        go_wp2_with fail
        refine (hia _).mono ?_
        rintro e w' ⟨rfl, rfl⟩
        go_wp2_with fail
        refine (hib _).mono ?_
        rintro e w' ⟨rfl, rfl⟩
        go_wp2_with fail
        go_ret
        exact ⟨ret_int Ht.out.symm, below_drewN (Below.refl _ _) _⟩
      · have Ht := Lib.hid (show joinR zs a b = joinI zs a.toNat b.toNat by unfold joinR isIt; rw [HV.out, hlen.out, ha, hb]; rfl)
        have hia := fun w => hir a w
        have hib := fun w => hir b w
        rw [ha] at hia
        rw [hb] at hib
        simp only [inB, decide_eq_true_eq] at ha hb
        obtain ⟨x, rfl⟩ := Int.eq_ofNat_of_zero_le ha.1
        obtain ⟨y, rfl⟩ := Int.eq_ofNat_of_zero_le hb.1
        rw [Int.toNat_natCast, Int.toNat_natCast] at Ht
        have hx : x < n := by omega
        have hy : y < n := by omega
        clear hir ha hb
        go_enter Tryd.func9, Tryd.ntmps9
        go_wp2_with fail
        refine (validOrder_any _ _ _ _ zs _ h hbig).mono ?_
        rw [HV.out]
        rintro e w' ⟨rfl, m, rfl⟩
        go_wp2_with fail
        refine (hia _).mono ?_
        rintro e w' ⟨rfl, rfl⟩
        go_wp2_with fail
        refine (hib _).mono ?_
        rintro e w' ⟨rfl, rfl⟩
        go_wp2_with fail
        refine (sjoin_any A n c _ zs x y _ (h.drewN m) hvo.sets hx hy).mono ?_
        rintro e w2 ⟨rfl, m2, rfl⟩
        go_wp2_with fail
        go_ret
        exact ⟨ret_int Ht.out.symm, below_drewN (Below.refl _ _) _⟩

theorem MeetOf_any (A : Option Addr) (n c : Nat) (zs : List Int) (a b : Int) (w : World) (h : Ints w w.heap.size A n zs) (hbig : n ≤ 1152921504606846976) (hE : Et w) :
    Calls Tryd.prog 14 #[.slice A n c, .int .i64 a, .int .i64 b] w fun e w' => e = .returned (.int .i64 (meetR zs a b)) ∧ Below w.heap.size w w' := by
  have hlen := Lib.hid h.len
  cases hv : vo zs
  · have Ht := Lib.hid (show meetR zs a b = -1 by unfold meetR; rw [hv]; rfl)
    have Hv := Lib.hid hv
    clear hv
    go_enter Tryd.func14, Tryd.ntmps14
    go_wp2_with fail
    refine (readOrder_any _ _ _ zs _ h hbig).mono ?_
    rintro e w' ⟨hB, (⟨hv, b, rfl, _, _⟩ | ⟨_, rfl⟩)⟩
    · rw [Hv.out] at hv; cases hv
    · go_wp2_with fail
      go_ret
      exact ⟨ret_int Ht.out.symm, hB⟩
  · have hvo : VoP zs := by simpa [vo] using hv
    have Ht := Lib.hid (show meetR zs a b = findR zs (du zs) a b by unfold meetR findR; rw [hv]; rfl)
    have Hv := Lib.hid hv
    clear hv
    go_enter Tryd.func14, Tryd.ntmps14
    go_wp2_with fail
    refine (readOrder_any _ _ _ zs _ h hbig).mono ?_
    rintro e w1 ⟨hB, (⟨_, bb, rfl, hb, hAr⟩ | ⟨hv, _⟩)⟩
    · have z1 := hB.size
      have hE1 := hE.below hB hE.2
      go_wp2_with fail
      refine (find_meet_any _ n _ zs a b hvo.sets _ (hAr.ints' hAr.lt hlen.out) hE1).mono ?_
      rintro e w2 ⟨rfl, hB2⟩
      go_wp2_with fail
      go_ret
      exact ⟨ret_int Ht.out.symm, hB.trans (hB2.mono z1)⟩
    · rw [Hv.out] at hv; cases hv

theorem specMeetOfF_any (A : Option Addr) (n c : Nat) (zs : List Int) (a b : Int) (w : World) (h : Ints w w.heap.size A n zs) (hbig : n ≤ 1152921504606846976) :
    Calls Tryd.prog 13 #[.slice A n c, .int .i64 a, .int .i64 b] w fun e w' => e = .returned (.int .i64 (meetR zs a b)) ∧ Below w.heap.size w w' := by
  have hlen := Lib.hid h.len
  have hir := fun k w => inRange_any k 0 ((n : Int) - 1) w
  cases hv : vo zs
  · have Ht := Lib.hid (show meetR zs a b = -1 by unfold meetR; rw [hv]; rfl)
    have HV := Lib.hid hv
    clear hv
    go_enter Tryd.func13, Tryd.ntmps13
    go_wp2_with fail
    refine (validOrder_any _ _ _ _ zs _ h hbig).mono ?_
    rw [HV.out]
    rintro e w' ⟨rfl, m, rfl⟩
    go_wp2_with fail
    go_ret
    exact ⟨ret_int Ht.out.symm, below_drewN (Below.refl _ _) _⟩
  · have hvo : VoP zs := by simpa [vo] using hv
    have HV := Lib.hid hv
    clear hv
    cases ha : inB a 0 ((n : Int) - 1)
    · have Ht := Lib.hid (show meetR zs a b = -1 by unfold meetR isIt; rw [HV.out, hlen.out, ha]; rfl)
      have hia := fun w => hir a w
      rw [ha] at hia
      go_enter Tryd.func13, Tryd.ntmps13
      go_wp2_with fail
      refine (validOrder_any _ _ _ _ zs _ h hbig).mono ?_
      rw [HV.out]
      rintro e w' ⟨rfl, m, rfl⟩
      go_wp2_with fail
      refine (hia _).mono ?_
      rintro e w' ⟨rfl, rfl⟩
      go_wp2_with fail
      go_ret
      exact ⟨ret_int Ht.out.symm, below_drewN (Below.refl _ _) _⟩
    · cases hb : inB b 0 ((n : Int) - 1)
      · have Ht := Lib.hid (show meetR zs a b = -1 by unfold meetR isIt; rw [HV.out, hlen.out, ha, hb]; rfl)
        have hia := fun w => hir a w
        have hib := fun w => hir b w
        rw [ha] at hia
        rw [hb] at hib
        go_enter Tryd.func13, Tryd.ntmps13
        go_wp2_with fail
        refine (validOrder_any _ _ _ _ zs _ h hbig).mono ?_
        rw [HV.out]
        rintro e w' ⟨rfl, m, rfl⟩
        go_wp2_with fail
        refine (hia _).mono ?_
        rintro e w' ⟨rfl, rfl⟩
        go_wp2_with fail
        refine (hib _).mono ?_
        rintro e w' ⟨rfl, rfl⟩
        go_wp2_with fail
        go_ret
        exact ⟨ret_int Ht.out.symm, below_drewN (Below.refl _ _) _⟩
      · have Ht := Lib.hid (show meetR zs a b = joinI (du zs) a.toNat b.toNat by unfold meetR isIt; rw [HV.out, hlen.out, ha, hb]; rfl)
        have hia := fun w => hir a w
        have hib := fun w => hir b w
        rw [ha] at hia
        rw [hb] at hib
        simp only [inB, decide_eq_true_eq] at ha hb
        obtain ⟨x, rfl⟩ := Int.eq_ofNat_of_zero_le ha.1
        obtain ⟨y, rfl⟩ := Int.eq_ofNat_of_zero_le hb.1
        rw [Int.toNat_natCast, Int.toNat_natCast] at Ht
        have hx : x < n := by omega
        have hy : y < n := by omega
        clear hir ha hb
        go_enter Tryd.func13, Tryd.ntmps13
        go_wp2_with fail
        refine (validOrder_any _ _ _ _ zs _ h hbig).mono ?_
        rw [HV.out]
        rintro e w' ⟨rfl, m, rfl⟩
        go_wp2_with fail
        refine (hia _).mono ?_
        rintro e w' ⟨rfl, rfl⟩
        go_wp2_with fail
        refine (hib _).mono ?_
        rintro e w' ⟨rfl, rfl⟩
        go_wp2_with fail
        refine (downOf_any A n c zs _ (h.drewN m) hvo.sets).mono ?_
        rintro e w2 ⟨rfl, hA2, hB2⟩
        have Hd := Lib.hid (show downP n (pairsL zs) = du zs by unfold du; rw [hlen.out])
        rw [Hd.out] at hA2
        go_wp2_with fail
        refine (sjoin_any _ n _ _ (du zs) x y _ (hA2.ints' hA2.lt (by rw [du_len, hlen.out])) (du_sets hvo.sets) hx hy).mono ?_
        rintro e w3 ⟨rfl, m3, rfl⟩
        go_wp2_with fail
        go_ret
        exact ⟨ret_int Ht.out.symm, below_drewN ((below_drewN (Below.refl _ _) _).trans hB2) _⟩
end Go.Proofs.YtogiooecjfnkcaaDoor

/- Joins: what their own laws ask. No program. -/
namespace Go.Proofs.YtogiooecjfnkcaaDoor

theorem up_swap (zs : List Int) (a b : Nat) : upR zs a b = upR zs b a := by
  unfold upR andI
  rw [Nat.and_comm]
theorem join_swap (zs : List Int) (a b : Nat) : joinI zs a b = joinI zs b a := by unfold joinI; rw [up_swap]
theorem join_bits {zs : List Int} {a b c : Nat} (h : joinI zs a b = c) : c < zs.length ∧ bitB (atUp zs a) c = true ∧ bitB (atUp zs b) c = true := by
  rcases jnI_cases (zs := zs) (s := upR zs a b) with ⟨e, _⟩ | ⟨d, e, hd, hb⟩
  · exfalso
    have : joinI zs a b = -1 := e
    omega
  · have : joinI zs a b = (d : Int) := e
    obtain rfl : d = c := by omega
    unfold jnB at hb
    rw [Bool.and_eq_true] at hb
    have h1 := hb.1
    unfold upR at h1
    rw [bitB_and, Bool.and_eq_true] at h1
    exact ⟨hd, h1⟩
theorem at_or {zs : List Int} {a c : Nat} (h : bitB (atUp zs a) c = true) (hne : c ≠ a) : bitB (zs[a]?.getD 0) c = true := by
  rw [atUp_bit, Bool.or_eq_true, decide_eq_true_eq] at h
  rcases h with h | h
  · exact h
  · exact absurd h.symm hne
/-- Where there is one, all stand in range. -/
theorem join_parts {zs ds : List Int} {a b J : Int} (hJ : (if vo zs && (isIt zs a && isIt zs b) then joinI ds a.toNat b.toNat else -1) = J) (h0 : 0 ≤ J) :
    VoP zs ∧ ∃ x y c : Nat, a = x ∧ b = y ∧ J = c ∧ x < zs.length ∧ y < zs.length ∧ joinI ds x y = c := by
  cases e : (vo zs && (isIt zs a && isIt zs b))
  · rw [e] at hJ
    simp only [Bool.false_eq_true, if_false] at hJ
    omega
  · rw [e, if_pos rfl] at hJ
    rw [Bool.and_eq_true, Bool.and_eq_true] at e
    obtain ⟨hv, ha, hb⟩ := e
    unfold isIt inB at ha hb
    rw [decide_eq_true_eq] at ha hb
    refine ⟨by simpa [vo] using hv, a.toNat, b.toNat, J.toNat, by omega, by omega, by omega, by omega, by omega, by omega⟩
theorem isIt_cast {zs : List Int} {x : Nat} (h : x < zs.length) : isIt zs (x : Int) = true := by unfold isIt inB; rw [decide_eq_true_eq]; omega
theorem joinR_cast {zs : List Int} (h : VoP zs) {x y : Nat} (hx : x < zs.length) (hy : y < zs.length) : joinR zs x y = joinI zs x y := by
  unfold joinR; rw [vo_true h, isIt_cast hx, isIt_cast hy]; rfl
theorem meetR_cast {zs : List Int} (h : VoP zs) {x y : Nat} (hx : x < zs.length) (hy : y < zs.length) : meetR zs x y = joinI (du zs) x y := by
  unfold meetR; rw [vo_true h, isIt_cast hx, isIt_cast hy]; rfl
end Go.Proofs.YtogiooecjfnkcaaDoor

/- CountOrders: both sides, whole. -/
import Derived.Test.YtghogabmkbadjaaAoI
import Derived.Test.YtghogabmkbadjaaOdS
set_option linter.unusedVariables false
set_option linter.unusedSimpArgs false
namespace Go.Proofs.Ytghogabmkbadjaa
open Go.RowKit Go.Shelf
attribute [local go_sem] Oper.semAt_some
attribute [local go_sem, local simp] wide_fn

/-- How many orders of n items there are. -/
def coR (n : Int) : Int := if inB n 0 4 then ((oaL n.toNat).length : Int) else -1
theorem oaL_bd {n : Nat} (hn : n ≤ 4) : (oaL n).length ≤ 65536 := by
  rw [← odG_nil]
  exact odG_bd hn hn []

theorem shapeSize_any (n : Int) (w : World) :
    Calls Try.prog 60 #[.int .i64 n] w fun e w' => e = .returned (.bool (inB n 0 4)) ∧ w = w' := by
  go_enter Try.func60, Try.ntmps60
  by_cases h0 : n ≥ 0
  · have hd : decide (n ≥ 0) = true := decide_eq_true h0
    have He := Lib.hid (show inB n 0 4 = decide (n ≤ 4) by unfold inB; simp [h0])
    go_wp2
    go_ret
    exact ⟨ret_bool He.out.symm, rfl⟩
  · have hd : decide (n ≥ 0) = false := decide_eq_false h0
    have He := Lib.hid (show inB n 0 4 = false by unfold inB; simp; omega)
    go_wp2
    go_ret
    exact ⟨ret_bool He.out.symm, rfl⟩

theorem oallOrders_any (n : Nat) (w : World) :
    Calls Try.prog 61 #[.int .i64 (n : Int)] w fun e w' => e = .returned (.func (.func 83) #[] #[.pointer (some ⟨w.heap.size, 0, none⟩)]) ∧ w' = w.alloc (.cells #[.int .i64 (n : Int)] 3) := by
  go_enter Try.func61, Try.ntmps61
  go_wp2
  go_ret
  exact ⟨rfl, rfl⟩

set_option maxRecDepth 100000 in
set_option maxHeartbeats 2000000 in
theorem specCountOrdersF_any (n : Int) (w : World) :
    Calls Try.prog 31 #[.int .i64 n] w fun e w' => e = .returned (.int .i64 (coR n)) ∧ Below w.heap.size w w' := by
  cases hin : inB n 0 4
  · have Ht := Lib.hid (show coR n = -1 by unfold coR; rw [hin]; rfl)
    have Hin := Lib.hid hin
    clear hin
    go_enter Try.func31, Try.ntmps31
    go_wp2_with (go_at_call 58; refine (inRange_any _ _ _ _).mono ?_; rw [Hin.out]; rintro e w' ⟨rfl, rfl⟩)
    go_ret
    exact ⟨ret_int Ht.out.symm, Below.refl _ _⟩
  · have hb : 0 ≤ n ∧ n ≤ 4 := by unfold inB at hin; simpa using hin
    have Ht := Lib.hid (show coR n = ((oaL n.toNat).length : Int) by unfold coR; rw [hin]; rfl)
    have Hin := Lib.hid hin
    clear hin
    obtain ⟨N, rfl⟩ := Int.eq_ofNat_of_zero_le hb.1
    rw [Int.toNat_natCast] at Ht
    go_enter Try.func31, Try.ntmps31
    go_wp2_with (go_at_call 58; refine (inRange_any _ _ _ _).mono ?_; rw [Hin.out]; rintro e w' ⟨rfl, rfl⟩)
    have hO : (w.alloc (.cells #[] 3)).ownsRow 0 3 1 (.slice (some ⟨w.heap.size, 0, none⟩) 0 0) 0 [] := own_sooner (own_new w 3) (Nat.zero_le _)
    have hU1 : Upd (fun _ => False) w (w.alloc (.cells #[] 3)) := (Upd.refl _ w).alloc _
    obtain ⟨w1, hw1⟩ : ∃ w1, w.alloc (.cells #[] 3) = w1 := ⟨_, rfl⟩
    rw [hw1] at hO hU1 ⊢
    clear hw1
    refine (allOrders_any N (by omega) N [] w.heap.size 0 w1 (by simp) hO).mono ?_
    rintro e w2 ⟨v, g', c', rfl, ⟨L, rfl, hL, hR⟩, hB⟩
    have hl : L.length = (oaL N).length := by rw [← odG_nil, ← hL, List.length_map]
    have Hl := Lib.hid hl
    clear hl hL hR
    go_wp2_with fail
    go_ret
    exact ⟨ret_int (by rw [Ht.out, Hl.out]), (hU1.toBelow (B := w.heap.size) (fun _ e => e.elim) (Nat.le_refl _)).trans (hB.mono hU1.size)⟩

set_option maxRecDepth 100000 in
set_option maxHeartbeats 2000000 in
theorem CountOrders_any (n : Int) (w : World) :
    Calls Try.prog 32 #[.int .i64 n] w fun e w' => e = .returned (.int .i64 (coR n)) ∧ Below w.heap.size w w' := by
  cases hin : inB n 0 4
  · have Ht := Lib.hid (show coR n = -1 by unfold coR; rw [hin]; rfl)
    have Hin := Lib.hid hin
    clear hin
    go_enter Try.func32, Try.ntmps32
    go_wp2_with (go_at_call 60; refine (shapeSize_any _ _).mono ?_; rw [Hin.out]; rintro e w' ⟨rfl, rfl⟩)
    go_ret
    exact ⟨ret_int Ht.out.symm, Below.refl _ _⟩
  · have hb : 0 ≤ n ∧ n ≤ 4 := by unfold inB at hin; simpa using hin
    have Ht := Lib.hid (show coR n = ((oaL n.toNat).length : Int) by unfold coR; rw [hin]; rfl)
    have Hin := Lib.hid hin
    clear hin
    obtain ⟨N, rfl⟩ := Int.eq_ofNat_of_zero_le hb.1
    rw [Int.toNat_natCast] at Ht
    have hbd := oaL_bd (n := N) (by omega)
    refine (callsIn_wide (n := 9)).1 ?_
    refine callsIn_of_wp_marks Try.func32 rfl trivial ?_ rfl
    simp only [Try.ntmps32, List.size_toArray, List.length_cons, List.length_nil, Nat.reduceAdd, Nat.reduceSub, Array.replicate_succ, Array.replicate_zero, List.push_toArray, List.append_toArray, List.nil_append, List.cons_append]
    gi_wp2_with (first
      | (gi_at_call 60; refine (callsIn_wide.2 (shapeSize_any _ _)).mono ?_; rw [Hin.out]; rintro e w' ⟨rfl, rfl⟩)
      | (gi_at_call 61; refine (callsIn_wide.2 (oallOrders_any _ _)).mono ?_; rintro e w' ⟨rfl, rfl⟩))
    have bW := (Boxed.new w 3 (.int .i64 0)).alloc (.cells #[Value.int .i64 (N : Int)] 3)
    have bP := Boxed.new (w.alloc (.cells #[Value.int .i64 0] 3)) 3 (.int .i64 (N : Int))
    have hu0 : Upd (fun _ => False) w ((w.alloc (.cells #[Value.int .i64 0] 3)).alloc (.cells #[Value.int .i64 (N : Int)] 3)) := ((Upd.refl _ w).alloc _).alloc _
    have hz0 : ((w.alloc (.cells #[Value.int .i64 0] 3)).alloc (.cells #[Value.int .i64 (N : Int)] 3)).heap.size = w.heap.size + 2 := by simp
    simp only [World.size_alloc] at bP
    obtain ⟨W0, hW0⟩ : ∃ W0, ((w.alloc (.cells #[Value.int .i64 0] 3)).alloc (.cells #[Value.int .i64 (N : Int)] 3)) = W0 := ⟨_, rfl⟩
    rw [hW0] at bW bP hu0 hz0 ⊢
    clear hW0
    refine range_outH (n := 9) (gf := 83) (lb := #[.pointer (some ⟨w.heap.size + 1, 0, none⟩)]) rfl (enters_of Try.func83 (by kernel_rfl) rfl) (encs := oaEnc N) (own := oaOwn) (lent := oaLent) (Has := oaHas) (Lent := oaLies) oa_firm oaLent_firm (Ok := oaUp N) (Full := oaFull N)
      (fun k => k = w.heap.size) (fun k e => by omega) (fun _ => rfl)
      (fun W1 l1 hu1 hl1 hl2 => allOrders_iter N (by omega) _ _ W1 (hu1.boxed bP (fun e => e)) (fun k e => by have := hu1.size; omega))
      (fun (pre : List Oa) D W => Boxed W w.heap.size 3 (.int .i64 (pre.length : Int)) ∧ Upd (fun k => k = w.heap.size) W0 W)
      (fun _ _ _ _ => False)
      (fun _ D X Y hs hu => ⟨hu.boxed hs.1 (fun e => by omega), hs.2.trans' hu (fun i hi e => by omega)⟩)
      (fun _ _ _ _ _ hs _ => hs)
      ⟨bW, Upd.refl _ _⟩ ?owes ?done ?stop
    case owes =>
      rintro l1 pre x D1 W hl1 hl2 hDl hOl hLl hD1 hO1 hLe1 - - - hpre K hK
      have hnb : pre.length < 65536 := by
        have h2 := (show (pre ++ [x]).map Prod.fst <+: oaL N from hpre).length_le
        simp at h2
        omega
      have hxW : w.heap.size + 1 < x.2 := by have := hLe1 x.2 rfl; omega
      clear hpre
      gi_wp2
      refine hK _ _ (Upd.refl _ _) ?_
      rintro Wb hWb - ⟨bW1, hU⟩ - hle
      clear hK
      have hcW := bW1.cell
      have hfW := bW1.frozen
      have hLx : Arr Wb x.2 59 x.1 := hle
      gi_wp2
      have hum : Upd (fun k => k = w.heap.size) Wb (Wb.setCell ⟨w.heap.size, 0, none⟩ (.int .i64 ((pre.length : Int) + 1))) := (Upd.refl (fun k => k = w.heap.size) Wb).setCell (p := ⟨w.heap.size, 0, none⟩) (.inr rfl) _
      exact keep_end (own := oaOwn) (lent := oaLent) (Lent := oaLies) (D := D1) (x := x) ⟨by rw [List.length_append]; exact bW1.set _, hU.trans' hum (fun i hi e => e)⟩ (hLx.upd hum (by omega)) (fun k e => (hLe1 k e).2.2) (hum.mono fun _ _ e => .inl e)
    case done =>
      rintro d D1 L W hd hF ⟨bW1, hU⟩ hD1 hKd
      have hl : L.length = (oaL N).length := by rw [← show L.map Prod.fst = oaL N from hF, List.length_map]
      rw [hl] at bW1
      have hcW := bW1.cell
      gi_wp2
      refine leaves_marks [d] _ ⟨by simp, fun b hb => ?_⟩ (fun W' hu' => ?_)
      · rw [List.mem_singleton.1 hb]
        exact hKd
      · exact ⟨_, by simp [results, Try.f32, go_sem], ret_int Ht.out.symm,
          (((hu0.mono fun _ _ e => e.elim).trans' hU (fun i hi e => by omega)).trans' hu' (fun i hi e => by simp at e; omega)).toBelow (R := fun _ => False) (fun _ e => e.elim) (Nat.le_refl _)⟩
    case stop =>
      rintro d D1 co pre W hd hpre h
      exact h.elim
end Go.Proofs.Ytghogabmkbadjaa

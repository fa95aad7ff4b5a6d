/- IsLattice: the program's, whole. -/
import Derived.Test.YtmlihbcffndnbaaDoorGxe
import Derived.Test.YtmlihbcffndnbaaDoorGb
import Derived.Test.YtmlihbcffndnbaaDoorMk6
import Derived.Test.YtmlihbcffndnbaaDoorGxc
set_option linter.unusedVariables false
set_option linter.unusedSimpArgs false
namespace Go.Proofs.YtmlihbcffndnbaaDoor
open Go.RowKit Go.Shelf
attribute [local go_sem] Oper.semAt_some
attribute [local go_sem, local simp] wide_fn

theorem rowPair_set {W : World} {g : Nat} {t : TypeId} {x y p q : Value} (h : W.heap[g]? = some (.cells #[x, y] t (0, 0))) : ((W.setCell ⟨g, 0, none⟩ p).setCell ⟨g, 1, none⟩ q).heap[g]? = some (.cells #[p, q] t (0, 0)) := by
  simp [World.setCell, Array.getElem?_modify, h]
theorem rowPair_upd {W : World} {g : Nat} {p q : Value} : Upd (fun k => k = g) W ((W.setCell ⟨g, 0, none⟩ p).setCell ⟨g, 1, none⟩ q) :=
  ((Upd.refl (fun k => k = g) W).setCell (p := ⟨g, 0, none⟩) (.inr rfl) _).setCell (p := ⟨g, 1, none⟩) (.inr rfl) _

theorem rowPair_cells {W : World} {g : Nat} {t : TypeId} {x y : Value} (h : W.heap[g]? = some (.cells #[x, y] t (0, 0))) : W.cell? ⟨g, 0, none⟩ = some x ∧ W.cell? ⟨g, 1, none⟩ = some y ∧ W.frozen? ⟨g, 0, none⟩ = false ∧ W.frozen? ⟨g, 1, none⟩ = false := by
  refine ⟨by rw [cell_of_row _ _ _ _ _ _ h]; rfl, by rw [cell_of_row _ _ _ _ _ _ h]; rfl, by simp [World.frozen?, h], by simp [World.frozen?, h]⟩

def Latted (zs : List Int) (e : Ending) : Prop := ((JoinsOk zs ∧ JoinsOk (du zs)) ∧ ∃ B m c B' m' c', e = .returned (.tuple #[.agg #[.slice B m c, .slice B' m' c'], .nilIface])) ∨ (¬ (JoinsOk zs ∧ JoinsOk (du zs)) ∧ ∃ x y : Int, e = .returned (.tuple #[.agg #[.slice none 0 0, .slice none 0 0], .iface 100 (.agg #[.int .i64 x, .int .i64 y])]))

set_option maxRecDepth 100000 in
set_option maxHeartbeats 4000000 in
theorem olattice_any (A : Option Addr) (n c : Nat) (zs : List Int) (hv : Sets zs) (w : World) (hA : Ints w w.heap.size A n zs) :
    Calls Tryd.prog 49 #[.slice A n c] w fun e W' => Latted zs e ∧ Below w.heap.size w W' := by
  have hlen := Lib.hid hA.len
  have hb0 : (w.alloc (.cells #[Value.slice none 0 0, .slice none 0 0] 38)).heap[w.heap.size]? = some (.cells #[Value.slice none 0 0, .slice none 0 0] 38 (0, 0)) := heap_alloc_new w _
  have hB0 : Below w.heap.size w (w.alloc (.cells #[Value.slice none 0 0, .slice none 0 0] 38)) := (Below.refl _ _).alloc (Nat.le_refl _) _
  have hz0 : w.heap.size < (w.alloc (.cells #[Value.slice none 0 0, .slice none 0 0] 38)).heap.size := by simp
  go_enter Tryd.func49, Tryd.ntmps49
  go_wp2_with fail
  obtain ⟨W0, hW0⟩ : ∃ W0, w.alloc (.cells #[Value.slice none 0 0, .slice none 0 0] 38) = W0 := ⟨_, rfl⟩
  rw [hW0] at hb0 hB0 hz0 ⊢
  clear hW0
  refine (otab_join_any A n c zs hv W0 (hA.to hB0 (Nat.le_refl _) (by omega))).mono ?_
  rintro e w2 ⟨(⟨hok, B, m, c1, rfl⟩ | ⟨hno, x, y, rfl⟩), hB2⟩
  · have z2 := hB2.size
    have hb2 : w2.heap[w.heap.size]? = _ := (hB2.block _ hz0).trans hb0
    have C2 := hB0.trans (hB2.mono (by omega))
    have Hok := Lib.hid hok
    clear hok hb0 hB2
    go_wp2_with fail
    refine (otab_meet_any A n c zs hv w2 (hA.to C2 (Nat.le_refl _) (by omega))).mono ?_
    rintro e w3 ⟨(⟨hok, B', m', c2, rfl⟩ | ⟨hno, x, y, rfl⟩), hB3⟩
    · have z3 := hB3.size
      have hb3 : w3.heap[w.heap.size]? = _ := (hB3.block _ (by omega)).trans hb2
      have C3 := C2.trans (hB3.mono (by omega))
      have Hok2 := Lib.hid hok
      clear hok hb2 hB3
      obtain ⟨qc0, qc1, qf0, qf1⟩ := rowPair_cells hb3
      go_wp2_with fail
      refine bodyPost_ret (v := .tuple #[.agg #[.slice B m c1, .slice B' m' c2], .nilIface]) (results_cell_row2 rfl _ _ w.heap.size _ _ (0, 0) _ _ rfl rfl (rowPair_set hb3) Tryd.underlying38 rfl (by kernel_rfl)) rfl ?_
      exact ⟨.inl ⟨⟨Hok.out, Hok2.out⟩, _, _, _, _, _, _, rfl⟩, C3.trans (rowPair_upd.toBelow (fun k e => by omega) (by omega))⟩
    · have z3 := hB3.size
      have hb3 : w3.heap[w.heap.size]? = _ := (hB3.block _ (by omega)).trans hb2
      have C3 := C2.trans (hB3.mono (by omega))
      have Hno := Lib.hid hno
      clear hno hb2 hB3
      obtain ⟨qc0, qc1, qf0, qf1⟩ := rowPair_cells hb3
      go_wp2_with fail
      refine bodyPost_ret (v := .tuple #[.agg #[.slice none 0 0, .slice none 0 0], .iface 100 (.agg #[.int .i64 x, .int .i64 y])]) (results_cell_row2 rfl _ _ w.heap.size _ _ (0, 0) _ _ rfl rfl (rowPair_set hb3) Tryd.underlying38 rfl (by kernel_rfl)) rfl ?_
      exact ⟨.inr ⟨fun h => Hno.out h.2, _, _, rfl⟩, C3.trans (rowPair_upd.toBelow (fun k e => by omega) (by omega))⟩
  · have z2 := hB2.size
    have hb2 : w2.heap[w.heap.size]? = _ := (hB2.block _ hz0).trans hb0
    have C2 := hB0.trans (hB2.mono (by omega))
    have Hno := Lib.hid hno
    clear hno hb0 hB2
    obtain ⟨qc0, qc1, qf0, qf1⟩ := rowPair_cells hb2
    go_wp2_with fail
    refine bodyPost_ret (v := .tuple #[.agg #[.slice none 0 0, .slice none 0 0], .iface 100 (.agg #[.int .i64 x, .int .i64 y])]) (results_cell_row2 rfl _ _ w.heap.size _ _ (0, 0) _ _ rfl rfl (rowPair_set hb2) Tryd.underlying38 rfl (by kernel_rfl)) rfl ?_
    exact ⟨.inr ⟨fun h => Hno.out h.1, _, _, rfl⟩, C2.trans (rowPair_upd.toBelow (fun k e => by omega) (by omega))⟩

/-- What reading a lattice gives: two tables, or not one. -/
def ReadsLat (zs : List Int) (e : Ending) : Prop := ∃ B m c B' m' c', e = .returned (.tuple #[.agg #[.slice B m c, .slice B' m' c'], .bool (latR zs)])
theorem lat_eq {zs : List Int} : latR zs = decide (VoP zs ∧ 0 < zs.length ∧ (JoinsOk zs ∧ JoinsOk (du zs))) := by
  unfold latR latB vo
  rw [Bool.eq_iff_iff]
  simp

set_option maxRecDepth 100000 in
set_option maxHeartbeats 4000000 in
theorem readLattice_any (A : Option Addr) (n c : Nat) (zs : List Int) (w : World) (h : Ints w w.heap.size A n zs) (hbig : n ≤ 1152921504606846976) (hE : Et w) :
    Calls Tryd.prog 24 #[.slice A n c] w fun e W' => ReadsLat zs e ∧ Below w.heap.size w W' := by
  have hlen := Lib.hid h.len
  have hb0 : (w.alloc (.cells #[Value.slice none 0 0, .slice none 0 0] 38)).heap[w.heap.size]? = some (.cells #[Value.slice none 0 0, .slice none 0 0] 38 (0, 0)) := heap_alloc_new w _
  have hB0 : Below w.heap.size w (w.alloc (.cells #[Value.slice none 0 0, .slice none 0 0] 38)) := (Below.refl _ _).alloc (Nat.le_refl _) _
  have hz0 : w.heap.size < (w.alloc (.cells #[Value.slice none 0 0, .slice none 0 0] 38)).heap.size := by simp
  have hew := hE.2
  go_enter Tryd.func24, Tryd.ntmps24
  go_wp2_with fail
  obtain ⟨W0, hW0⟩ : ∃ W0, w.alloc (.cells #[Value.slice none 0 0, .slice none 0 0] 38) = W0 := ⟨_, rfl⟩
  rw [hW0] at hb0 hB0 hz0 ⊢
  clear hW0
  refine (readOrder_any _ _ _ zs _ (h.to hB0 (Nat.le_refl _) (by omega)) hbig).mono ?_
  rintro e w1 ⟨hB1, (⟨hv, bb, rfl, hbb, hAr⟩ | ⟨hv, rfl⟩)⟩
  · have hvo : VoP zs := by simpa [vo] using hv
    have z1 := hB1.size
    have hb1 : w1.heap[w.heap.size]? = _ := (hB1.block _ hz0).trans hb0
    have C1 := hB0.trans (hB1.mono (by omega))
    clear hb0 hv
    by_cases hn0 : n = 0
    · have Hl := Lib.hid (show latR zs = false by rw [lat_eq]; refine decide_eq_false ?_; rintro ⟨_, h2, _⟩; rw [hlen.out] at h2; omega)
      subst hn0
      clear hB1
      obtain ⟨qc0, qc1, qf0, qf1⟩ := rowPair_cells hb1
      go_wp2_with fail
      refine bodyPost_ret (v := .tuple #[.agg #[.slice none 0 0, .slice none 0 0], .bool false]) (results_cell_row2 rfl _ _ w.heap.size _ _ (0, 0) _ _ rfl rfl (rowPair_set hb1) Tryd.underlying38 rfl (by kernel_rfl)) rfl ?_
      exact ⟨⟨_, _, _, _, _, _, by rw [Hl.out]⟩, C1.trans (rowPair_upd.toBelow (fun k e => by omega) (by omega))⟩
    · have hnb : ((n : Int) == 0) = false := by simpa using hn0
      have hn1 : 0 < zs.length := by rw [hlen.out]; omega
      clear hB1
      go_wp2_with fail
      refine (olattice_any _ n _ zs hvo.sets w1 (hAr.ints' hAr.lt hlen.out)).mono ?_
      rintro e w2 ⟨hLt, hB2⟩
      have z2 := hB2.size
      have hb2 : w2.heap[w.heap.size]? = _ := (hB2.block _ (by omega)).trans hb1
      have C2 := C1.trans (hB2.mono (by omega))
      have hE2 := hE.below C2 hew
      clear hb1 hB2
      rcases hLt with ⟨hok, B, m, c1, B', m', c2, rfl⟩ | ⟨hno, x, y, rfl⟩
      · have Hl := Lib.hid (show latR zs = true by rw [lat_eq]; exact decide_eq_true ⟨hvo, hn1, hok⟩)
        clear hok
        have hp2 : (w2.alloc (.cells #[Value.slice B m c1, .slice B' m' c2] 38)).heap[w2.heap.size]? = some (.cells #[Value.slice B m c1, .slice B' m' c2] 38 (0, 0)) := heap_alloc_new w2 _
        have hU3 : Upd (fun _ => False) w2 (w2.alloc (.cells #[Value.slice B m c1, .slice B' m' c2] 38)) := (Upd.refl _ w2).alloc _
        have hz3 : w2.heap.size < (w2.alloc (.cells #[Value.slice B m c1, .slice B' m' c2] 38)).heap.size := by simp
        have hb3 : (w2.alloc (.cells #[Value.slice B m c1, .slice B' m' c2] 38)).drew.heap[w.heap.size]? = _ := (hU3.block _ (by omega) (fun e => e)).trans hb2
        have hE3 : Et (w2.alloc (.cells #[Value.slice B m c1, .slice B' m' c2] 38)).drew := hE2.upd (R := fun _ => False) hU3.drew (fun e => e)
        have C3 : Below w.heap.size w (w2.alloc (.cells #[Value.slice B m c1, .slice B' m' c2] 38)).drew := below_drewN (C2.trans (hU3.toBelow (B := w.heap.size) (fun _ e => e.elim) (by omega))) 1
        have hSd : (fun w' => w'.heap[w2.heap.size]? = some (.cells #[Value.slice B m c1, .slice B' m' c2] 38 (0, 0))) (w2.alloc (.cells #[Value.slice B m c1, .slice B' m' c2] 38)).drew := hp2
        have hz4 : w2.heap.size < (w2.alloc (.cells #[Value.slice B m c1, .slice B' m' c2] 38)).drew.heap.size := hz3
        go_wp2_with fail
        refine region_T (S := (fun w' => w'.heap[w2.heap.size]? = some (.cells #[Value.slice B m c1, .slice B' m' c2] 38 (0, 0)))) 5 (by kernel_rfl) ?_
        obtain ⟨W3, hW3⟩ : ∃ W3, (w2.alloc (.cells #[Value.slice B m c1, .slice B' m' c2] 38)).drew = W3 := ⟨_, rfl⟩
        rw [hW3] at hb3 hE3 C3 hSd hz4 ⊢
        clear hW3 hp2 hU3 hz3
        refine anyT_take (i := 0) (oi := ?oi0a) (v := .agg #[Value.slice B m c1, .slice B' m' c2]) ?hi0a (by kernel_rfl) ?hq0a ?hy0a (by assumption) ?rest0a
        case hi0a => (simp only [List.getElem?_toArray, List.getElem?_cons_zero]; first | done | rfl)
        case hq0a => first | exact fun _ _ _ h => h | exact fun _ _ _ h => (by cases h.1)
        case hy0a => exact yieldsIf_load_row (by rfl) _ _ rfl w2.heap.size rfl _ _ _ (fun _ h => h) Tryd.underlying38 rfl (by kernel_rfl)
        try simp only [Act.put, List.setIfInBounds_toArray, List.set_cons_zero, List.set_cons_succ]
        refine anyT_take (i := 1) (oi := ?oi1a) (v := .nilIface) ?hi1a (by kernel_rfl) ?hq1a ?hy1a (by assumption) ?rest1a
        case hi1a => (simp only [List.getElem?_toArray, List.getElem?_cons_succ, List.getElem?_cons_zero]; first | done | rfl)
        case hq1a => first | exact fun _ _ _ h => h | exact fun _ _ _ h => (by cases h.1)
        case hy1a => (refine Or.inl ⟨by rfl, ?_⟩; intro wz hSw; go_simp; first | done | with_reducible rfl | simp | omega)
        try simp only [Act.put, List.setIfInBounds_toArray, List.set_cons_zero, List.set_cons_succ]
        refine anyT_one (i := 2) (by kernel_rfl) rfl (fun K' hK => ?_)
        go_simp
        refine (isLack_nil _).mono ?_
        rintro e w4 ⟨rfl, hB4⟩
        have z4 := hB4.size
        have hS4 : (fun w' => w'.heap[w2.heap.size]? = some (.cells #[Value.slice B m c1, .slice B' m' c2] 38 (0, 0))) w4 := (hB4.block _ hz4).trans hSd
        have hb4 : w4.heap[w.heap.size]? = _ := (hB4.block _ (by omega)).trans hb3
        have C4 := C3.trans (hB4.mono C3.size)
        refine hK.out _ _ (fun _ => hS4) ?_
        clear hK K'
        try simp only [Act.put, List.setIfInBounds_toArray, List.set_cons_zero, List.set_cons_succ]
        refine anyT_take (i := 3) (oi := ?oi3a) (v := .bool true) ?hi3a (by kernel_rfl) ?hq3a ?hy3a (by assumption) ?rest3a
        case hi3a => (simp only [List.getElem?_toArray, List.getElem?_cons_succ, List.getElem?_cons_zero]; first | done | rfl)
        case hq3a => first | exact fun _ _ _ h => h | exact fun _ _ _ h => (by cases h.1)
        case hy3a => (refine Or.inl ⟨by rfl, ?_⟩; intro wz hSw; go_simp; first | done | with_reducible rfl | simp | omega)
        try simp only [Act.put, List.setIfInBounds_toArray, List.set_cons_zero, List.set_cons_succ]
        obtain ⟨qc0, qc1, qf0, qf1⟩ := rowPair_cells hb4
        refine anyT_one (i := 4) (by kernel_rfl) rfl (fun K' hK => ?_)
        go_simp
        have hS5 : (fun w' => w'.heap[w2.heap.size]? = some (.cells #[Value.slice B m c1, .slice B' m' c2] 38 (0, 0))) ((w4.setCell ⟨w.heap.size, 0, none⟩ (.slice B m c1)).setCell ⟨w.heap.size, 1, none⟩ (.slice B' m' c2)) := (rowPair_upd.block _ (by omega) (fun e => by omega)).trans hS4
        refine hK.out _ _ (fun _ => hS5) ?_
        clear hK K'
        try simp only [Act.put, List.setIfInBounds_toArray, List.set_cons_zero, List.set_cons_succ]
        refine anyT_one (i := 5) (by kernel_rfl) rfl (fun K' hK => ?_)
        go_simp
        refine hK.out _ _ (fun h => absurd rfl h) ?_
        clear hK K'
        try simp only [Act.put, List.setIfInBounds_toArray, List.set_cons_zero, List.set_cons_succ]
        refine anyT_done (by kernel_rfl) ?_ _
        go_wp2_with fail
        refine bodyPost_ret (v := .tuple #[.agg #[Value.slice B m c1, .slice B' m' c2], .bool true]) (results_cell_row2 rfl _ _ w.heap.size _ _ (0, 0) _ _ rfl rfl (rowPair_set hb4) Tryd.underlying38 rfl (by kernel_rfl)) rfl ?_
        exact ⟨⟨_, _, _, _, _, _, by rw [Hl.out]⟩, C4.trans (rowPair_upd.toBelow (fun k e => by omega) (by omega))⟩
      · have Hl := Lib.hid (show latR zs = false by rw [lat_eq]; exact decide_eq_false (fun h3 => hno h3.2.2))
        clear hno
        have hp2 : (w2.alloc (.cells #[Value.slice none 0 0, .slice none 0 0] 38)).heap[w2.heap.size]? = some (.cells #[Value.slice none 0 0, .slice none 0 0] 38 (0, 0)) := heap_alloc_new w2 _
        have hU3 : Upd (fun _ => False) w2 (w2.alloc (.cells #[Value.slice none 0 0, .slice none 0 0] 38)) := (Upd.refl _ w2).alloc _
        have hz3 : w2.heap.size < (w2.alloc (.cells #[Value.slice none 0 0, .slice none 0 0] 38)).heap.size := by simp
        have hb3 : (w2.alloc (.cells #[Value.slice none 0 0, .slice none 0 0] 38)).drew.heap[w.heap.size]? = _ := (hU3.block _ (by omega) (fun e => e)).trans hb2
        have hE3 : Et (w2.alloc (.cells #[Value.slice none 0 0, .slice none 0 0] 38)).drew := hE2.upd (R := fun _ => False) hU3.drew (fun e => e)
        have C3 : Below w.heap.size w (w2.alloc (.cells #[Value.slice none 0 0, .slice none 0 0] 38)).drew := below_drewN (C2.trans (hU3.toBelow (B := w.heap.size) (fun _ e => e.elim) (by omega))) 1
        have hSd : (fun w' => w'.heap[w2.heap.size]? = some (.cells #[Value.slice none 0 0, .slice none 0 0] 38 (0, 0))) (w2.alloc (.cells #[Value.slice none 0 0, .slice none 0 0] 38)).drew := hp2
        have hz4 : w2.heap.size < (w2.alloc (.cells #[Value.slice none 0 0, .slice none 0 0] 38)).drew.heap.size := hz3
        go_wp2_with fail
        refine region_T (S := (fun w' => w'.heap[w2.heap.size]? = some (.cells #[Value.slice none 0 0, .slice none 0 0] 38 (0, 0)))) 5 (by kernel_rfl) ?_
        obtain ⟨W3, hW3⟩ : ∃ W3, (w2.alloc (.cells #[Value.slice none 0 0, .slice none 0 0] 38)).drew = W3 := ⟨_, rfl⟩
        rw [hW3] at hb3 hE3 C3 hSd hz4 ⊢
        clear hW3 hp2 hU3 hz3
        refine anyT_take (i := 0) (oi := ?oi0b) (v := .agg #[Value.slice none 0 0, .slice none 0 0]) ?hi0b (by kernel_rfl) ?hq0b ?hy0b (by assumption) ?rest0b
        case hi0b => (simp only [List.getElem?_toArray, List.getElem?_cons_zero]; first | done | rfl)
        case hq0b => first | exact fun _ _ _ h => h | exact fun _ _ _ h => (by cases h.1)
        case hy0b => exact yieldsIf_load_row (by rfl) _ _ rfl w2.heap.size rfl _ _ _ (fun _ h => h) Tryd.underlying38 rfl (by kernel_rfl)
        try simp only [Act.put, List.setIfInBounds_toArray, List.set_cons_zero, List.set_cons_succ]
        refine anyT_take (i := 1) (oi := ?oi1b) (v := .iface 100 (.agg #[.int .i64 x, .int .i64 y])) ?hi1b (by kernel_rfl) ?hq1b ?hy1b (by assumption) ?rest1b
        case hi1b => (simp only [List.getElem?_toArray, List.getElem?_cons_succ, List.getElem?_cons_zero]; first | done | rfl)
        case hq1b => first | exact fun _ _ _ h => h | exact fun _ _ _ h => (by cases h.1)
        case hy1b => (refine Or.inl ⟨by rfl, ?_⟩; intro wz hSw; go_simp; first | done | with_reducible rfl | simp | omega)
        try simp only [Act.put, List.setIfInBounds_toArray, List.set_cons_zero, List.set_cons_succ]
        refine anyT_one (i := 2) (by kernel_rfl) rfl (fun K' hK => ?_)
        go_simp
        refine (isLack_hit _ _ _ hE3).mono ?_
        rintro e w4 ⟨rfl, hB4⟩
        have z4 := hB4.size
        have hS4 : (fun w' => w'.heap[w2.heap.size]? = some (.cells #[Value.slice none 0 0, .slice none 0 0] 38 (0, 0))) w4 := (hB4.block _ hz4).trans hSd
        have hb4 : w4.heap[w.heap.size]? = _ := (hB4.block _ (by omega)).trans hb3
        have C4 := C3.trans (hB4.mono C3.size)
        refine hK.out _ _ (fun _ => hS4) ?_
        clear hK K'
        try simp only [Act.put, List.setIfInBounds_toArray, List.set_cons_zero, List.set_cons_succ]
        refine anyT_take (i := 3) (oi := ?oi3b) (v := .bool false) ?hi3b (by kernel_rfl) ?hq3b ?hy3b (by assumption) ?rest3b
        case hi3b => (simp only [List.getElem?_toArray, List.getElem?_cons_succ, List.getElem?_cons_zero]; first | done | rfl)
        case hq3b => first | exact fun _ _ _ h => h | exact fun _ _ _ h => (by cases h.1)
        case hy3b => (refine Or.inl ⟨by rfl, ?_⟩; intro wz hSw; go_simp; first | done | with_reducible rfl | simp | omega)
        try simp only [Act.put, List.setIfInBounds_toArray, List.set_cons_zero, List.set_cons_succ]
        obtain ⟨qc0, qc1, qf0, qf1⟩ := rowPair_cells hb4
        refine anyT_one (i := 4) (by kernel_rfl) rfl (fun K' hK => ?_)
        go_simp
        have hS5 : (fun w' => w'.heap[w2.heap.size]? = some (.cells #[Value.slice none 0 0, .slice none 0 0] 38 (0, 0))) ((w4.setCell ⟨w.heap.size, 0, none⟩ (.slice none 0 0)).setCell ⟨w.heap.size, 1, none⟩ (.slice none 0 0)) := (rowPair_upd.block _ (by omega) (fun e => by omega)).trans hS4
        refine hK.out _ _ (fun _ => hS5) ?_
        clear hK K'
        try simp only [Act.put, List.setIfInBounds_toArray, List.set_cons_zero, List.set_cons_succ]
        refine anyT_one (i := 5) (by kernel_rfl) rfl (fun K' hK => ?_)
        go_simp
        refine hK.out _ _ (fun h => absurd rfl h) ?_
        clear hK K'
        try simp only [Act.put, List.setIfInBounds_toArray, List.set_cons_zero, List.set_cons_succ]
        refine anyT_done (by kernel_rfl) ?_ _
        go_wp2_with fail
        refine bodyPost_ret (v := .tuple #[.agg #[Value.slice none 0 0, .slice none 0 0], .bool false]) (results_cell_row2 rfl _ _ w.heap.size _ _ (0, 0) _ _ rfl rfl (rowPair_set hb4) Tryd.underlying38 rfl (by kernel_rfl)) rfl ?_
        exact ⟨⟨_, _, _, _, _, _, by rw [Hl.out]⟩, C4.trans (rowPair_upd.toBelow (fun k e => by omega) (by omega))⟩
  · have Hl := Lib.hid (show latR zs = false by unfold latR; rw [hv]; rfl)
    have z1 := hB1.size
    have hb1 : w1.heap[w.heap.size]? = _ := (hB1.block _ hz0).trans hb0
    have C1 := hB0.trans (hB1.mono (by omega))
    clear hb0 hv hB1
    obtain ⟨qc0, qc1, qf0, qf1⟩ := rowPair_cells hb1
    go_wp2_with fail
    refine bodyPost_ret (v := .tuple #[.agg #[.slice none 0 0, .slice none 0 0], .bool false]) (results_cell_row2 rfl _ _ w.heap.size _ _ (0, 0) _ _ rfl rfl (rowPair_set hb1) Tryd.underlying38 rfl (by kernel_rfl)) rfl ?_
    exact ⟨⟨_, _, _, _, _, _, by rw [Hl.out]⟩, C1.trans (rowPair_upd.toBelow (fun k e => by omega) (by omega))⟩

end Go.Proofs.YtmlihbcffndnbaaDoor

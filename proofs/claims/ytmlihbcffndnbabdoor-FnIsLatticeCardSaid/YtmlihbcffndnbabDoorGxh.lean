/- Texts that several claims share, one behind the other. -/
import Derived.Test.YtmlihbcffndnbabDoorGxg
import Derived.Test.YtmlihbcffndnbabDoorGc
import Derived.Test.YtmlihbcffndnbabDoorFrac
import Derived.Test.YtmlihbcffndnbabDoorGxc
import Derived.Test.YtmlihbcffndnbabDoorGxe
set_option linter.unusedVariables false
set_option linter.unusedSimpArgs false
/- IsLattice: the program's, whole. -/
namespace Go.Proofs.YtmlihbcffndnbabDoor
open Go.RowKit Go.Shelf
attribute [local go_sem] Oper.semAt_some
attribute [local go_sem, local simp] wide_fn

theorem rowPair_set {W : World} {g : Nat} {t : TypeId} {x y p q : Value} (h : W.heap[g]? = some (.cells #[x, y] t (0, 0))) : ((W.setCell ⟨g, 0, none⟩ p).setCell ⟨g, 1, none⟩ q).heap[g]? = some (.cells #[p, q] t (0, 0)) := by
  simp [World.setCell, Array.getElem?_modify, h]
theorem rowPair_upd {W : World} {g : Nat} {p q : Value} : Upd (fun k => k = g) W ((W.setCell ⟨g, 0, none⟩ p).setCell ⟨g, 1, none⟩ q) :=
  ((Upd.refl (fun k => k = g) W).setCell (p := ⟨g, 0, none⟩) (.inr rfl) _).setCell (p := ⟨g, 1, none⟩) (.inr rfl) _

theorem rowPair_cells {W : World} {g : Nat} {t : TypeId} {x y : Value} (h : W.heap[g]? = some (.cells #[x, y] t (0, 0))) : W.cell? ⟨g, 0, none⟩ = some x ∧ W.cell? ⟨g, 1, none⟩ = some y ∧ W.frozen? ⟨g, 0, none⟩ = false ∧ W.frozen? ⟨g, 1, none⟩ = false := by
  refine ⟨by rw [cell_of_row _ _ _ _ _ _ h]; rfl, by rw [cell_of_row _ _ _ _ _ _ h]; rfl, by simp [World.frozen?, h], by simp [World.frozen?, h]⟩

def Latted (zs : List Int) (e : Ending) : Prop := ((JoinsOk zs ∧ JoinsOk (du zs)) ∧ ∃ B m c B' m' c', e = .returned (.tuple #[.agg #[.slice B m c, .slice B' m' c'], .nilIface])) ∨ (¬ (JoinsOk zs ∧ JoinsOk (du zs)) ∧ ∃ x y : Int, e = .returned (.tuple #[.agg #[.slice none 0 0, .slice none 0 0], .iface 72 (.agg #[.int .i64 x, .int .i64 y])]))

set_option maxRecDepth 100000 in
set_option maxHeartbeats 4000000 in
theorem olattice_any (A : Option Addr) (n c : Nat) (zs : List Int) (hv : Sets zs) (w : World) (hA : Ints w w.heap.size A n zs) :
    Calls Tryd.prog 62 #[.slice A n c] w fun e W' => Latted zs e ∧ Below w.heap.size w W' := by
  have hlen := Lib.hid hA.len
  have hb0 : (w.alloc (.cells #[Value.slice none 0 0, .slice none 0 0] 45)).heap[w.heap.size]? = some (.cells #[Value.slice none 0 0, .slice none 0 0] 45 (0, 0)) := heap_alloc_new w _
  have hB0 : Below w.heap.size w (w.alloc (.cells #[Value.slice none 0 0, .slice none 0 0] 45)) := (Below.refl _ _).alloc (Nat.le_refl _) _
  have hz0 : w.heap.size < (w.alloc (.cells #[Value.slice none 0 0, .slice none 0 0] 45)).heap.size := by simp
  go_enter Tryd.func62, Tryd.ntmps62
  go_wp2_with fail
  obtain ⟨W0, hW0⟩ : ∃ W0, w.alloc (.cells #[Value.slice none 0 0, .slice none 0 0] 45) = W0 := ⟨_, rfl⟩
  rw [hW0] at hb0 hB0 hz0 ⊢
  clear hW0
  refine (otab_join_any A n c zs hv W0 (hA.to hB0 (Nat.le_refl _) (by omega))).mono ?_
  rintro e w2 ⟨(⟨hok, B, m, c1, rfl⟩ | ⟨hno, x, y, rfl⟩), hB2⟩
  · have z2 := hB2.size
    have hb2 : w2.heap[w.heap.size]? = _ := (hB2.block _ hz0).trans hb0
    have C2 := hB0.trans (hB2.mono (by omega))
    have Hok := Lib.hid hok
    clear hok hb0 hB2
    go_wp2_with fail
    refine (otab_meet_any A n c zs hv w2 (hA.to C2 (Nat.le_refl _) (by omega))).mono ?_
    rintro e w3 ⟨(⟨hok, B', m', c2, rfl⟩ | ⟨hno, x, y, rfl⟩), hB3⟩
    · have z3 := hB3.size
      have hb3 : w3.heap[w.heap.size]? = _ := (hB3.block _ (by omega)).trans hb2
      have C3 := C2.trans (hB3.mono (by omega))
      have Hok2 := Lib.hid hok
      clear hok hb2 hB3
      obtain ⟨qc0, qc1, qf0, qf1⟩ := rowPair_cells hb3
      go_wp2_with fail
      refine bodyPost_ret (v := .tuple #[.agg #[.slice B m c1, .slice B' m' c2], .nilIface]) (results_cell_row2 rfl _ _ w.heap.size _ _ (0, 0) _ _ rfl rfl (rowPair_set hb3) Tryd.underlying45 rfl (by kernel_rfl)) rfl ?_
      exact ⟨.inl ⟨⟨Hok.out, Hok2.out⟩, _, _, _, _, _, _, rfl⟩, C3.trans (rowPair_upd.toBelow (fun k e => by omega) (by omega))⟩
    · have z3 := hB3.size
      have hb3 : w3.heap[w.heap.size]? = _ := (hB3.block _ (by omega)).trans hb2
      have C3 := C2.trans (hB3.mono (by omega))
      have Hno := Lib.hid hno
      clear hno hb2 hB3
      obtain ⟨qc0, qc1, qf0, qf1⟩ := rowPair_cells hb3
      go_wp2_with fail
      refine bodyPost_ret (v := .tuple #[.agg #[.slice none 0 0, .slice none 0 0], .iface 72 (.agg #[.int .i64 x, .int .i64 y])]) (results_cell_row2 rfl _ _ w.heap.size _ _ (0, 0) _ _ rfl rfl (rowPair_set hb3) Tryd.underlying45 rfl (by kernel_rfl)) rfl ?_
      exact ⟨.inr ⟨fun h => Hno.out h.2, _, _, rfl⟩, C3.trans (rowPair_upd.toBelow (fun k e => by omega) (by omega))⟩
  · have z2 := hB2.size
    have hb2 : w2.heap[w.heap.size]? = _ := (hB2.block _ hz0).trans hb0
    have C2 := hB0.trans (hB2.mono (by omega))
    have Hno := Lib.hid hno
    clear hno hb0 hB2
    obtain ⟨qc0, qc1, qf0, qf1⟩ := rowPair_cells hb2
    go_wp2_with fail
    refine bodyPost_ret (v := .tuple #[.agg #[.slice none 0 0, .slice none 0 0], .iface 72 (.agg #[.int .i64 x, .int .i64 y])]) (results_cell_row2 rfl _ _ w.heap.size _ _ (0, 0) _ _ rfl rfl (rowPair_set hb2) Tryd.underlying45 rfl (by kernel_rfl)) rfl ?_
    exact ⟨.inr ⟨fun h => Hno.out h.1, _, _, rfl⟩, C2.trans (rowPair_upd.toBelow (fun k e => by omega) (by omega))⟩

/-- What reading a lattice gives: two tables, or not one. -/
def ReadsLat (zs : List Int) (e : Ending) : Prop := ∃ B m c B' m' c', e = .returned (.tuple #[.agg #[.slice B m c, .slice B' m' c'], .bool (latR zs)])
theorem lat_eq {zs : List Int} : latR zs = decide (VoP zs ∧ 0 < zs.length ∧ (JoinsOk zs ∧ JoinsOk (du zs))) := by
  unfold latR latB vo
  rw [Bool.eq_iff_iff]
  simp

set_option maxRecDepth 100000 in
set_option maxHeartbeats 4000000 in
theorem readLattice_any (A : Option Addr) (n c : Nat) (zs : List Int) (w : World) (h : Ints w w.heap.size A n zs) (hbig : n ≤ 1152921504606846976) (hE : Et w) :
    Calls Tryd.prog 40 #[.slice A n c] w fun e W' => ReadsLat zs e ∧ Below w.heap.size w W' := by
  have hlen := Lib.hid h.len
  have hb0 : (w.alloc (.cells #[Value.slice none 0 0, .slice none 0 0] 45)).heap[w.heap.size]? = some (.cells #[Value.slice none 0 0, .slice none 0 0] 45 (0, 0)) := heap_alloc_new w _
  have hB0 : Below w.heap.size w (w.alloc (.cells #[Value.slice none 0 0, .slice none 0 0] 45)) := (Below.refl _ _).alloc (Nat.le_refl _) _
  have hz0 : w.heap.size < (w.alloc (.cells #[Value.slice none 0 0, .slice none 0 0] 45)).heap.size := by simp
  have hew := hE.2
  go_enter Tryd.func40, Tryd.ntmps40
  go_wp2_with fail
  obtain ⟨W0, hW0⟩ : ∃ W0, w.alloc (.cells #[Value.slice none 0 0, .slice none 0 0] 45) = W0 := ⟨_, rfl⟩
  rw [hW0] at hb0 hB0 hz0 ⊢
  clear hW0
  refine (readOrder_any _ _ _ zs _ (h.to hB0 (Nat.le_refl _) (by omega)) hbig).mono ?_
  rintro e w1 ⟨hB1, (⟨hv, bb, rfl, hbb, hAr⟩ | ⟨hv, rfl⟩)⟩
  · have hvo : VoP zs := by simpa [vo] using hv
    have z1 := hB1.size
    have hb1 : w1.heap[w.heap.size]? = _ := (hB1.block _ hz0).trans hb0
    have C1 := hB0.trans (hB1.mono (by omega))
    clear hb0 hv
    by_cases hn0 : n = 0
    · have Hl := Lib.hid (show latR zs = false by rw [lat_eq]; refine decide_eq_false ?_; rintro ⟨_, h2, _⟩; rw [hlen.out] at h2; omega)
      subst hn0
      clear hB1
      obtain ⟨qc0, qc1, qf0, qf1⟩ := rowPair_cells hb1
      go_wp2_with fail
      refine bodyPost_ret (v := .tuple #[.agg #[.slice none 0 0, .slice none 0 0], .bool false]) (results_cell_row2 rfl _ _ w.heap.size _ _ (0, 0) _ _ rfl rfl (rowPair_set hb1) Tryd.underlying45 rfl (by kernel_rfl)) rfl ?_
      exact ⟨⟨_, _, _, _, _, _, by rw [Hl.out]⟩, C1.trans (rowPair_upd.toBelow (fun k e => by omega) (by omega))⟩
    · have hnb : ((n : Int) == 0) = false := by simpa using hn0
      have hn1 : 0 < zs.length := by rw [hlen.out]; omega
      clear hB1
      go_wp2_with fail
      refine (olattice_any _ n _ zs hvo.sets w1 (hAr.ints' hAr.lt hlen.out)).mono ?_
      rintro e w2 ⟨hLt, hB2⟩
      have z2 := hB2.size
      have hb2 : w2.heap[w.heap.size]? = _ := (hB2.block _ (by omega)).trans hb1
      have C2 := C1.trans (hB2.mono (by omega))
      have hE2 := hE.below C2 hew
      clear hb1 hB2
      rcases hLt with ⟨hok, B, m, c1, B', m', c2, rfl⟩ | ⟨hno, x, y, rfl⟩
      · have Hl := Lib.hid (show latR zs = true by rw [lat_eq]; exact decide_eq_true ⟨hvo, hn1, hok⟩)
        clear hok
        have hp2 : (w2.alloc (.cells #[Value.slice B m c1, .slice B' m' c2] 45)).heap[w2.heap.size]? = some (.cells #[Value.slice B m c1, .slice B' m' c2] 45 (0, 0)) := heap_alloc_new w2 _
        have hU3 : Upd (fun _ => False) w2 (w2.alloc (.cells #[Value.slice B m c1, .slice B' m' c2] 45)) := (Upd.refl _ w2).alloc _
        have hz3 : w2.heap.size < (w2.alloc (.cells #[Value.slice B m c1, .slice B' m' c2] 45)).heap.size := by simp
        have hb3 : (w2.alloc (.cells #[Value.slice B m c1, .slice B' m' c2] 45)).drew.heap[w.heap.size]? = _ := (hU3.block _ (by omega) (fun e => e)).trans hb2
        have hE3 : Et (w2.alloc (.cells #[Value.slice B m c1, .slice B' m' c2] 45)).drew := hE2.upd (R := fun _ => False) hU3.drew (fun e => e)
        have C3 : Below w.heap.size w (w2.alloc (.cells #[Value.slice B m c1, .slice B' m' c2] 45)).drew := below_drewN (C2.trans (hU3.toBelow (B := w.heap.size) (fun _ e => e.elim) (by omega))) 1
        have hSd : (fun w' => w'.heap[w2.heap.size]? = some (.cells #[Value.slice B m c1, .slice B' m' c2] 45 (0, 0))) (w2.alloc (.cells #[Value.slice B m c1, .slice B' m' c2] 45)).drew := hp2
        have hz4 : w2.heap.size < (w2.alloc (.cells #[Value.slice B m c1, .slice B' m' c2] 45)).drew.heap.size := hz3
        go_wp2_with fail
        refine region_T (S := (fun w' => w'.heap[w2.heap.size]? = some (.cells #[Value.slice B m c1, .slice B' m' c2] 45 (0, 0)))) 5 (by kernel_rfl) ?_
        obtain ⟨W3, hW3⟩ : ∃ W3, (w2.alloc (.cells #[Value.slice B m c1, .slice B' m' c2] 45)).drew = W3 := ⟨_, rfl⟩
        rw [hW3] at hb3 hE3 C3 hSd hz4 ⊢
        clear hW3 hp2 hU3 hz3
        refine anyT_take (i := 0) (oi := ?oi0a) (v := .agg #[Value.slice B m c1, .slice B' m' c2]) ?hi0a (by kernel_rfl) ?hq0a ?hy0a (by assumption) ?rest0a
        case hi0a => (simp only [List.getElem?_toArray, List.getElem?_cons_zero]; first | done | rfl)
        case hq0a => first | exact fun _ _ _ h => h | exact fun _ _ _ h => (by cases h.1)
        case hy0a => exact yieldsIf_load_row (by rfl) _ _ rfl w2.heap.size rfl _ _ _ (fun _ h => h) Tryd.underlying45 rfl (by kernel_rfl)
        try simp only [Act.put, List.setIfInBounds_toArray, List.set_cons_zero, List.set_cons_succ]
        refine anyT_take (i := 1) (oi := ?oi1a) (v := .nilIface) ?hi1a (by kernel_rfl) ?hq1a ?hy1a (by assumption) ?rest1a
        case hi1a => (simp only [List.getElem?_toArray, List.getElem?_cons_succ, List.getElem?_cons_zero]; first | done | rfl)
        case hq1a => first | exact fun _ _ _ h => h | exact fun _ _ _ h => (by cases h.1)
        case hy1a => (refine Or.inl ⟨by rfl, ?_⟩; intro wz hSw; go_simp; first | done | with_reducible rfl | simp | omega)
        try simp only [Act.put, List.setIfInBounds_toArray, List.set_cons_zero, List.set_cons_succ]
        refine anyT_one (i := 2) (by kernel_rfl) rfl (fun K' hK => ?_)
        go_simp
        refine (isLack_nil _).mono ?_
        rintro e w4 ⟨rfl, hB4⟩
        have z4 := hB4.size
        have hS4 : (fun w' => w'.heap[w2.heap.size]? = some (.cells #[Value.slice B m c1, .slice B' m' c2] 45 (0, 0))) w4 := (hB4.block _ hz4).trans hSd
        have hb4 : w4.heap[w.heap.size]? = _ := (hB4.block _ (by omega)).trans hb3
        have C4 := C3.trans (hB4.mono C3.size)
        refine hK.out _ _ (fun _ => hS4) ?_
        clear hK K'
        try simp only [Act.put, List.setIfInBounds_toArray, List.set_cons_zero, List.set_cons_succ]
        refine anyT_take (i := 3) (oi := ?oi3a) (v := .bool true) ?hi3a (by kernel_rfl) ?hq3a ?hy3a (by assumption) ?rest3a
        case hi3a => (simp only [List.getElem?_toArray, List.getElem?_cons_succ, List.getElem?_cons_zero]; first | done | rfl)
        case hq3a => first | exact fun _ _ _ h => h | exact fun _ _ _ h => (by cases h.1)
        case hy3a => (refine Or.inl ⟨by rfl, ?_⟩; intro wz hSw; go_simp; first | done | with_reducible rfl | simp | omega)
        try simp only [Act.put, List.setIfInBounds_toArray, List.set_cons_zero, List.set_cons_succ]
        obtain ⟨qc0, qc1, qf0, qf1⟩ := rowPair_cells hb4
        refine anyT_one (i := 4) (by kernel_rfl) rfl (fun K' hK => ?_)
        go_simp
        have hS5 : (fun w' => w'.heap[w2.heap.size]? = some (.cells #[Value.slice B m c1, .slice B' m' c2] 45 (0, 0))) ((w4.setCell ⟨w.heap.size, 0, none⟩ (.slice B m c1)).setCell ⟨w.heap.size, 1, none⟩ (.slice B' m' c2)) := (rowPair_upd.block _ (by omega) (fun e => by omega)).trans hS4
        refine hK.out _ _ (fun _ => hS5) ?_
        clear hK K'
        try simp only [Act.put, List.setIfInBounds_toArray, List.set_cons_zero, List.set_cons_succ]
        refine anyT_one (i := 5) (by kernel_rfl) rfl (fun K' hK => ?_)
        go_simp
        refine hK.out _ _ (fun h => absurd rfl h) ?_
        clear hK K'
        try simp only [Act.put, List.setIfInBounds_toArray, List.set_cons_zero, List.set_cons_succ]
        refine anyT_done (by kernel_rfl) ?_ _
        go_wp2_with fail
        refine bodyPost_ret (v := .tuple #[.agg #[Value.slice B m c1, .slice B' m' c2], .bool true]) (results_cell_row2 rfl _ _ w.heap.size _ _ (0, 0) _ _ rfl rfl (rowPair_set hb4) Tryd.underlying45 rfl (by kernel_rfl)) rfl ?_
        exact ⟨⟨_, _, _, _, _, _, by rw [Hl.out]⟩, C4.trans (rowPair_upd.toBelow (fun k e => by omega) (by omega))⟩
      · have Hl := Lib.hid (show latR zs = false by rw [lat_eq]; exact decide_eq_false (fun h3 => hno h3.2.2))
        clear hno
        have hp2 : (w2.alloc (.cells #[Value.slice none 0 0, .slice none 0 0] 45)).heap[w2.heap.size]? = some (.cells #[Value.slice none 0 0, .slice none 0 0] 45 (0, 0)) := heap_alloc_new w2 _
        have hU3 : Upd (fun _ => False) w2 (w2.alloc (.cells #[Value.slice none 0 0, .slice none 0 0] 45)) := (Upd.refl _ w2).alloc _
        have hz3 : w2.heap.size < (w2.alloc (.cells #[Value.slice none 0 0, .slice none 0 0] 45)).heap.size := by simp
        have hb3 : (w2.alloc (.cells #[Value.slice none 0 0, .slice none 0 0] 45)).drew.heap[w.heap.size]? = _ := (hU3.block _ (by omega) (fun e => e)).trans hb2
        have hE3 : Et (w2.alloc (.cells #[Value.slice none 0 0, .slice none 0 0] 45)).drew := hE2.upd (R := fun _ => False) hU3.drew (fun e => e)
        have C3 : Below w.heap.size w (w2.alloc (.cells #[Value.slice none 0 0, .slice none 0 0] 45)).drew := below_drewN (C2.trans (hU3.toBelow (B := w.heap.size) (fun _ e => e.elim) (by omega))) 1
        have hSd : (fun w' => w'.heap[w2.heap.size]? = some (.cells #[Value.slice none 0 0, .slice none 0 0] 45 (0, 0))) (w2.alloc (.cells #[Value.slice none 0 0, .slice none 0 0] 45)).drew := hp2
        have hz4 : w2.heap.size < (w2.alloc (.cells #[Value.slice none 0 0, .slice none 0 0] 45)).drew.heap.size := hz3
        go_wp2_with fail
        refine region_T (S := (fun w' => w'.heap[w2.heap.size]? = some (.cells #[Value.slice none 0 0, .slice none 0 0] 45 (0, 0)))) 5 (by kernel_rfl) ?_
        obtain ⟨W3, hW3⟩ : ∃ W3, (w2.alloc (.cells #[Value.slice none 0 0, .slice none 0 0] 45)).drew = W3 := ⟨_, rfl⟩
        rw [hW3] at hb3 hE3 C3 hSd hz4 ⊢
        clear hW3 hp2 hU3 hz3
        refine anyT_take (i := 0) (oi := ?oi0b) (v := .agg #[Value.slice none 0 0, .slice none 0 0]) ?hi0b (by kernel_rfl) ?hq0b ?hy0b (by assumption) ?rest0b
        case hi0b => (simp only [List.getElem?_toArray, List.getElem?_cons_zero]; first | done | rfl)
        case hq0b => first | exact fun _ _ _ h => h | exact fun _ _ _ h => (by cases h.1)
        case hy0b => exact yieldsIf_load_row (by rfl) _ _ rfl w2.heap.size rfl _ _ _ (fun _ h => h) Tryd.underlying45 rfl (by kernel_rfl)
        try simp only [Act.put, List.setIfInBounds_toArray, List.set_cons_zero, List.set_cons_succ]
        refine anyT_take (i := 1) (oi := ?oi1b) (v := .iface 72 (.agg #[.int .i64 x, .int .i64 y])) ?hi1b (by kernel_rfl) ?hq1b ?hy1b (by assumption) ?rest1b
        case hi1b => (simp only [List.getElem?_toArray, List.getElem?_cons_succ, List.getElem?_cons_zero]; first | done | rfl)
        case hq1b => first | exact fun _ _ _ h => h | exact fun _ _ _ h => (by cases h.1)
        case hy1b => (refine Or.inl ⟨by rfl, ?_⟩; intro wz hSw; go_simp; first | done | with_reducible rfl | simp | omega)
        try simp only [Act.put, List.setIfInBounds_toArray, List.set_cons_zero, List.set_cons_succ]
        refine anyT_one (i := 2) (by kernel_rfl) rfl (fun K' hK => ?_)
        go_simp
        refine (isLack_hit _ _ _ hE3).mono ?_
        rintro e w4 ⟨rfl, hB4⟩
        have z4 := hB4.size
        have hS4 : (fun w' => w'.heap[w2.heap.size]? = some (.cells #[Value.slice none 0 0, .slice none 0 0] 45 (0, 0))) w4 := (hB4.block _ hz4).trans hSd
        have hb4 : w4.heap[w.heap.size]? = _ := (hB4.block _ (by omega)).trans hb3
        have C4 := C3.trans (hB4.mono C3.size)
        refine hK.out _ _ (fun _ => hS4) ?_
        clear hK K'
        try simp only [Act.put, List.setIfInBounds_toArray, List.set_cons_zero, List.set_cons_succ]
        refine anyT_take (i := 3) (oi := ?oi3b) (v := .bool false) ?hi3b (by kernel_rfl) ?hq3b ?hy3b (by assumption) ?rest3b
        case hi3b => (simp only [List.getElem?_toArray, List.getElem?_cons_succ, List.getElem?_cons_zero]; first | done | rfl)
        case hq3b => first | exact fun _ _ _ h => h | exact fun _ _ _ h => (by cases h.1)
        case hy3b => (refine Or.inl ⟨by rfl, ?_⟩; intro wz hSw; go_simp; first | done | with_reducible rfl | simp | omega)
        try simp only [Act.put, List.setIfInBounds_toArray, List.set_cons_zero, List.set_cons_succ]
        obtain ⟨qc0, qc1, qf0, qf1⟩ := rowPair_cells hb4
        refine anyT_one (i := 4) (by kernel_rfl) rfl (fun K' hK => ?_)
        go_simp
        have hS5 : (fun w' => w'.heap[w2.heap.size]? = some (.cells #[Value.slice none 0 0, .slice none 0 0] 45 (0, 0))) ((w4.setCell ⟨w.heap.size, 0, none⟩ (.slice none 0 0)).setCell ⟨w.heap.size, 1, none⟩ (.slice none 0 0)) := (rowPair_upd.block _ (by omega) (fun e => by omega)).trans hS4
        refine hK.out _ _ (fun _ => hS5) ?_
        clear hK K'
        try simp only [Act.put, List.setIfInBounds_toArray, List.set_cons_zero, List.set_cons_succ]
        refine anyT_one (i := 5) (by kernel_rfl) rfl (fun K' hK => ?_)
        go_simp
        refine hK.out _ _ (fun h => absurd rfl h) ?_
        clear hK K'
        try simp only [Act.put, List.setIfInBounds_toArray, List.set_cons_zero, List.set_cons_succ]
        refine anyT_done (by kernel_rfl) ?_ _
        go_wp2_with fail
        refine bodyPost_ret (v := .tuple #[.agg #[Value.slice none 0 0, .slice none 0 0], .bool false]) (results_cell_row2 rfl _ _ w.heap.size _ _ (0, 0) _ _ rfl rfl (rowPair_set hb4) Tryd.underlying45 rfl (by kernel_rfl)) rfl ?_
        exact ⟨⟨_, _, _, _, _, _, by rw [Hl.out]⟩, C4.trans (rowPair_upd.toBelow (fun k e => by omega) (by omega))⟩
  · have Hl := Lib.hid (show latR zs = false by unfold latR; rw [hv]; rfl)
    have z1 := hB1.size
    have hb1 : w1.heap[w.heap.size]? = _ := (hB1.block _ hz0).trans hb0
    have C1 := hB0.trans (hB1.mono (by omega))
    clear hb0 hv hB1
    obtain ⟨qc0, qc1, qf0, qf1⟩ := rowPair_cells hb1
    go_wp2_with fail
    refine bodyPost_ret (v := .tuple #[.agg #[.slice none 0 0, .slice none 0 0], .bool false]) (results_cell_row2 rfl _ _ w.heap.size _ _ (0, 0) _ _ rfl rfl (rowPair_set hb1) Tryd.underlying45 rfl (by kernel_rfl)) rfl ?_
    exact ⟨⟨_, _, _, _, _, _, by rw [Hl.out]⟩, C1.trans (rowPair_upd.toBelow (fun k e => by omega) (by omega))⟩

theorem IsLattice_any (A : Option Addr) (n c : Nat) (zs : List Int) (w : World) (h : Ints w w.heap.size A n zs) (hbig : n ≤ 1152921504606846976) (hE : Et w) :
    Calls Tryd.prog 18 #[.slice A n c] w fun e W' => e = .returned (.bool (latR zs)) ∧ Below w.heap.size w W' := by
  go_enter Tryd.func18, Tryd.ntmps18
  go_wp2_with fail
  refine (readLattice_any A n c zs w h hbig hE).mono ?_
  rintro e w2 ⟨⟨B, m, c1, B', m', c2, rfl⟩, hB2⟩
  go_wp2_with fail
  go_ret
  exact ⟨rfl, hB2.trans (((Upd.refl (fun _ => False) w2).alloc _).toBelow (fun _ e => e.elim) hB2.size)⟩
end Go.Proofs.YtmlihbcffndnbabDoor

/- IsEven: the program's. -/
namespace Go.Proofs.YtmlihbcffndnbabDoor
open Go.RowKit Go.Shelf
attribute [local go_sem] Oper.semAt_some
attribute [local go_sem, local simp] wide_fn

theorem TblTo.row {w : World} {bt n : Nat} {ds : List Int} (h : TblTo w bt n n ds) {i : Nat} (hi : i < n) : ∃ b off c, w.cell? ⟨bt, i, none⟩ = some (.slice (some ⟨b, off, none⟩) n c) ∧ ∀ j, j < n → w.cell? ⟨b, off + j, none⟩ = some (.int .i64 (joinI ds i j)) := by
  obtain ⟨cs, h1, h2, h3, h4⟩ := h
  obtain ⟨b, off, c, e1, _, _, e4⟩ := h4 i hi
  exact ⟨b, off, c, by rw [cell_of_row _ _ _ _ _ _ h1]; exact e1, e4⟩
def latV (b1 b2 n : Nat) : Value := .agg #[.slice (some ⟨b1, 0, none⟩) n n, .slice (some ⟨b2, 0, none⟩) n n]

set_option maxRecDepth 100000 in
set_option maxHeartbeats 4000000 in
theorem ogoes_any (b1 b2 n : Nat) (zs : List Int) (hlen : zs.length = n) (hn6 : n ≤ 6) (hj1 : JoinsOk zs) (hj2 : JoinsOk (du zs)) (a b c : Nat) (ha : a < n) (hb : b < n) (hc : c < n) (w : World) (h1 : TblTo w b1 n n zs) (h2 : TblTo w b2 n n (du zs)) :
    Calls Tryd.prog 63 #[latV b1 b2 n, .int .i64 (a : Int), .int .i64 (b : Int), .int .i64 (c : Int)] w fun e W' => e = .returned (.bool (goesOver zs a b c)) ∧ Below w.heap.size w W' := by
  have hdl : (du zs).length = n := by rw [du_len, hlen]
  obtain ⟨m1, hm1, hm1n⟩ := joins_at hj2 hdl ha hb
  obtain ⟨m2, hm2, hm2n⟩ := joins_at hj2 hdl ha hc
  obtain ⟨j, hj, hjn⟩ := joins_at hj1 hlen hb hc
  have hU : Upd (fun _ => False) w (w.alloc (.cells #[Value.slice (some ⟨b1, 0, none⟩) n n, .slice (some ⟨b2, 0, none⟩) n n] 45)) := (Upd.refl _ w).alloc _
  have hp : (w.alloc (.cells #[Value.slice (some ⟨b1, 0, none⟩) n n, .slice (some ⟨b2, 0, none⟩) n n] 45)).heap[w.heap.size]? = some (.cells #[Value.slice (some ⟨b1, 0, none⟩) n n, .slice (some ⟨b2, 0, none⟩) n n] 45 (0, 0)) := heap_alloc_new w _
  have k1 := h1.upd hU (fun k _ _ e => e)
  have k2 := h2.upd hU (fun k _ _ e => e)
  obtain ⟨ra, oa, ca, qa, ea⟩ := k2.row ha
  obtain ⟨rb, ob, cb, qb, eb⟩ := k1.row hb
  obtain ⟨rm, om, cm, qm, em⟩ := k1.row hm1n
  have f1 := eb c hc
  have f2 := ea j hjn
  have f3 := ea b hb
  have f4 := ea c hc
  have f5 := em m2 hm2n
  rw [hj] at f1
  rw [hm1] at f3
  rw [hm2] at f4
  obtain ⟨x, hx⟩ : ∃ x, joinI (du zs) a j = x := ⟨_, rfl⟩
  obtain ⟨y, hy⟩ : ∃ y, joinI zs m1 m2 = y := ⟨_, rfl⟩
  have Hg := Lib.hid (show goesOver zs a b c = (x == y) by unfold goesOver; rw [hj, hm1, hm2, Int.toNat_natCast, Int.toNat_natCast, Int.toNat_natCast, hx, hy])
  rw [hx] at f2
  rw [hy] at f5
  obtain ⟨qp0, qp1, -, -⟩ := rowPair_cells hp
  clear k1 k2 ea eb em hj hm1 hm2 hx hy h1 h2 hj1 hj2 hdl
  unfold latV
  go_enter Tryd.func63, Tryd.ntmps63
  go_wp2_with fail
  obtain ⟨W0, hW0⟩ : ∃ W0, w.alloc (.cells #[Value.slice (some ⟨b1, 0, none⟩) n n, .slice (some ⟨b2, 0, none⟩) n n] 45) = W0 := ⟨_, rfl⟩
  rw [hW0] at f1 f2 f3 f4 f5 qa qb qm qp0 qp1 hU hp ⊢
  clear hW0 hp
  go_quiet (fail)
  go_wp2
  go_ret
  exact ⟨ret_bool Hg.out.symm, below_drewN (hU.toBelow (fun _ e => e.elim) (Nat.le_refl _)) _⟩
/-- What a lattice comes to: both tables, or the error. -/
def LatF (zs : List Int) (n lo : Nat) (e : Ending) (W : World) : Prop := ((JoinsOk zs ∧ JoinsOk (du zs)) ∧ ∃ b1 b2, lo < b1 ∧ lo < b2 ∧ e = .returned (.tuple #[latV b1 b2 n, .nilIface]) ∧ TblTo W b1 n n zs ∧ TblTo W b2 n n (du zs)) ∨ (¬ (JoinsOk zs ∧ JoinsOk (du zs)) ∧ ∃ x y : Int, e = .returned (.tuple #[.agg #[.slice none 0 0, .slice none 0 0], .iface 72 (.agg #[.int .i64 x, .int .i64 y])]))
set_option maxRecDepth 100000 in
set_option maxHeartbeats 4000000 in
theorem olatf_any (A : Option Addr) (n c : Nat) (zs : List Int) (hv : Sets zs) (w : World) (hA : Ints w w.heap.size A n zs) :
    Calls Tryd.prog 62 #[.slice A n c] w fun e W' => LatF zs n w.heap.size e W' ∧ Below w.heap.size w W' := by
  have hlen := Lib.hid hA.len
  have hb0 : (w.alloc (.cells #[Value.slice none 0 0, .slice none 0 0] 45)).heap[w.heap.size]? = some (.cells #[Value.slice none 0 0, .slice none 0 0] 45 (0, 0)) := heap_alloc_new w _
  have hB0 : Below w.heap.size w (w.alloc (.cells #[Value.slice none 0 0, .slice none 0 0] 45)) := (Below.refl _ _).alloc (Nat.le_refl _) _
  have hz0 : w.heap.size < (w.alloc (.cells #[Value.slice none 0 0, .slice none 0 0] 45)).heap.size := by simp
  go_enter Tryd.func62, Tryd.ntmps62
  go_wp2_with fail
  obtain ⟨W0, hW0⟩ : ∃ W0, w.alloc (.cells #[Value.slice none 0 0, .slice none 0 0] 45) = W0 := ⟨_, rfl⟩
  rw [hW0] at hb0 hB0 hz0 ⊢
  clear hW0
  refine (otabf_join_any A n c zs hv W0 (hA.to hB0 (Nat.le_refl _) (by omega))).mono ?_
  rintro e w2 ⟨(⟨hok, rfl, hT⟩ | ⟨hno, x, y, rfl⟩), hB2⟩
  · have z2 := hB2.size
    have hb2 : w2.heap[w.heap.size]? = _ := (hB2.block _ hz0).trans hb0
    have C2 := hB0.trans (hB2.mono (by omega))
    have Hok := Lib.hid hok
    clear hok hb0 hB2
    go_wp2_with fail
    refine (otabf_meet_any A n c zs hv w2 (hA.to C2 (Nat.le_refl _) (by omega))).mono ?_
    rintro e w3 ⟨(⟨hok, rfl, hT2⟩ | ⟨hno, x, y, rfl⟩), hB3⟩
    · have z3 := hB3.size
      have hb3 : w3.heap[w.heap.size]? = _ := (hB3.block _ (by omega)).trans hb2
      have C3 := C2.trans (hB3.mono (by omega))
      have Hok2 := Lib.hid hok
      have hT3 := hT.upd (Below.toUpd hB3) (fun k e1 e2 e3 => by omega)
      have hlt2 := hT2.lt
      clear hok hb2 hB3 hT
      obtain ⟨qc0, qc1, qf0, qf1⟩ := rowPair_cells hb3
      go_wp2_with fail
      refine bodyPost_ret (v := .tuple #[.agg #[.slice (some ⟨W0.heap.size, 0, none⟩) n n, .slice (some ⟨w2.heap.size, 0, none⟩) n n], .nilIface]) (results_cell_row2 rfl _ _ w.heap.size _ _ (0, 0) _ _ rfl rfl (rowPair_set hb3) Tryd.underlying45 rfl (by kernel_rfl)) rfl ?_
      exact ⟨.inl ⟨⟨Hok.out, Hok2.out⟩, W0.heap.size, w2.heap.size, hz0, by omega, rfl, hT3.upd rowPair_upd (fun k e1 e2 e3 => by omega), hT2.upd rowPair_upd (fun k e1 e2 e3 => by omega)⟩, C3.trans (rowPair_upd.toBelow (fun k e => by omega) (by omega))⟩
    · have z3 := hB3.size
      have hb3 : w3.heap[w.heap.size]? = _ := (hB3.block _ (by omega)).trans hb2
      have C3 := C2.trans (hB3.mono (by omega))
      have Hno := Lib.hid hno
      clear hno hb2 hB3
      obtain ⟨qc0, qc1, qf0, qf1⟩ := rowPair_cells hb3
      go_wp2_with fail
      refine bodyPost_ret (v := .tuple #[.agg #[.slice none 0 0, .slice none 0 0], .iface 72 (.agg #[.int .i64 x, .int .i64 y])]) (results_cell_row2 rfl _ _ w.heap.size _ _ (0, 0) _ _ rfl rfl (rowPair_set hb3) Tryd.underlying45 rfl (by kernel_rfl)) rfl ?_
      exact ⟨.inr ⟨fun h => Hno.out h.2, _, _, rfl⟩, C3.trans (rowPair_upd.toBelow (fun k e => by omega) (by omega))⟩
  · have z2 := hB2.size
    have hb2 : w2.heap[w.heap.size]? = _ := (hB2.block _ hz0).trans hb0
    have C2 := hB0.trans (hB2.mono (by omega))
    have Hno := Lib.hid hno
    clear hno hb0 hB2
    obtain ⟨qc0, qc1, qf0, qf1⟩ := rowPair_cells hb2
    go_wp2_with fail
    refine bodyPost_ret (v := .tuple #[.agg #[.slice none 0 0, .slice none 0 0], .iface 72 (.agg #[.int .i64 x, .int .i64 y])]) (results_cell_row2 rfl _ _ w.heap.size _ _ (0, 0) _ _ rfl rfl (rowPair_set hb2) Tryd.underlying45 rfl (by kernel_rfl)) rfl ?_
    exact ⟨.inr ⟨fun h => Hno.out h.1, _, _, rfl⟩, C2.trans (rowPair_upd.toBelow (fun k e => by omega) (by omega))⟩


/-- What reading a lattice gives: both tables, or none. -/
def ReadF (zs : List Int) (n : Nat) (e : Ending) (W : World) : Prop := (latR zs = true ∧ ∃ b1 b2, b1 < W.heap.size ∧ b2 < W.heap.size ∧ e = .returned (.tuple #[latV b1 b2 n, .bool true]) ∧ TblTo W b1 n n zs ∧ TblTo W b2 n n (du zs)) ∨ (latR zs = false ∧ e = .returned (.tuple #[.agg #[.slice none 0 0, .slice none 0 0], .bool false]))
set_option maxRecDepth 100000 in
set_option maxHeartbeats 4000000 in
theorem readLatF_any (A : Option Addr) (n c : Nat) (zs : List Int) (w : World) (h : Ints w w.heap.size A n zs) (hbig : n ≤ 1152921504606846976) (hE : Et w) :
    Calls Tryd.prog 40 #[.slice A n c] w fun e W' => ReadF zs n e W' ∧ Below w.heap.size w W' := by
  have hlen := Lib.hid h.len
  have hb0 : (w.alloc (.cells #[Value.slice none 0 0, .slice none 0 0] 45)).heap[w.heap.size]? = some (.cells #[Value.slice none 0 0, .slice none 0 0] 45 (0, 0)) := heap_alloc_new w _
  have hB0 : Below w.heap.size w (w.alloc (.cells #[Value.slice none 0 0, .slice none 0 0] 45)) := (Below.refl _ _).alloc (Nat.le_refl _) _
  have hz0 : w.heap.size < (w.alloc (.cells #[Value.slice none 0 0, .slice none 0 0] 45)).heap.size := by simp
  have hew := hE.2
  go_enter Tryd.func40, Tryd.ntmps40
  go_wp2_with fail
  obtain ⟨W0, hW0⟩ : ∃ W0, w.alloc (.cells #[Value.slice none 0 0, .slice none 0 0] 45) = W0 := ⟨_, rfl⟩
  rw [hW0] at hb0 hB0 hz0 ⊢
  clear hW0
  refine (readOrder_any _ _ _ zs _ (h.to hB0 (Nat.le_refl _) (by omega)) hbig).mono ?_
  rintro e w1 ⟨hB1, (⟨hv, bb, rfl, hbb, hAr⟩ | ⟨hv, rfl⟩)⟩
  · have hvo : VoP zs := by simpa [vo] using hv
    have z1 := hB1.size
    have hb1 : w1.heap[w.heap.size]? = _ := (hB1.block _ hz0).trans hb0
    have C1 := hB0.trans (hB1.mono (by omega))
    clear hb0 hv
    by_cases hn0 : n = 0
    · have Hl := Lib.hid (show latR zs = false by rw [lat_eq]; refine decide_eq_false ?_; rintro ⟨_, h2, _⟩; rw [hlen.out] at h2; omega)
      subst hn0
      clear hB1
      obtain ⟨qc0, qc1, qf0, qf1⟩ := rowPair_cells hb1
      go_wp2_with fail
      refine bodyPost_ret (v := .tuple #[.agg #[.slice none 0 0, .slice none 0 0], .bool false]) (results_cell_row2 rfl _ _ w.heap.size _ _ (0, 0) _ _ rfl rfl (rowPair_set hb1) Tryd.underlying45 rfl (by kernel_rfl)) rfl ?_
      exact ⟨.inr ⟨Hl.out, rfl⟩, C1.trans (rowPair_upd.toBelow (fun k e => by omega) (by omega))⟩
    · have hnb : ((n : Int) == 0) = false := by simpa using hn0
      have hn1 : 0 < zs.length := by rw [hlen.out]; omega
      clear hB1
      go_wp2_with fail
      refine (olatf_any _ n _ zs hvo.sets w1 (hAr.ints' hAr.lt hlen.out)).mono ?_
      rintro e w2 ⟨hLt, hB2⟩
      have z2 := hB2.size
      have hb2 : w2.heap[w.heap.size]? = _ := (hB2.block _ (by omega)).trans hb1
      have C2 := C1.trans (hB2.mono (by omega))
      have hE2 := hE.below C2 hew
      clear hb1 hB2
      rcases hLt with ⟨hok, b1, b2, hl1, hl2, rfl, hT1, hT2⟩ | ⟨hno, x, y, rfl⟩
      · have Hl := Lib.hid (show latR zs = true by rw [lat_eq]; exact decide_eq_true ⟨hvo, hn1, hok⟩)
        clear hok
        unfold latV
        have hp2 : (w2.alloc (.cells #[Value.slice (some ⟨b1, 0, none⟩) n n, .slice (some ⟨b2, 0, none⟩) n n] 45)).heap[w2.heap.size]? = some (.cells #[Value.slice (some ⟨b1, 0, none⟩) n n, .slice (some ⟨b2, 0, none⟩) n n] 45 (0, 0)) := heap_alloc_new w2 _
        have hU3 : Upd (fun _ => False) w2 (w2.alloc (.cells #[Value.slice (some ⟨b1, 0, none⟩) n n, .slice (some ⟨b2, 0, none⟩) n n] 45)) := (Upd.refl _ w2).alloc _
        have hz3 : w2.heap.size < (w2.alloc (.cells #[Value.slice (some ⟨b1, 0, none⟩) n n, .slice (some ⟨b2, 0, none⟩) n n] 45)).heap.size := by simp
        have hb3 : (w2.alloc (.cells #[Value.slice (some ⟨b1, 0, none⟩) n n, .slice (some ⟨b2, 0, none⟩) n n] 45)).drew.heap[w.heap.size]? = _ := (hU3.block _ (by omega) (fun e => e)).trans hb2
        have hE3 : Et (w2.alloc (.cells #[Value.slice (some ⟨b1, 0, none⟩) n n, .slice (some ⟨b2, 0, none⟩) n n] 45)).drew := hE2.upd (R := fun _ => False) hU3.drew (fun e => e)
        have C3 : Below w.heap.size w (w2.alloc (.cells #[Value.slice (some ⟨b1, 0, none⟩) n n, .slice (some ⟨b2, 0, none⟩) n n] 45)).drew := below_drewN (C2.trans (hU3.toBelow (B := w.heap.size) (fun _ e => e.elim) (by omega))) 1
        have hSd : (fun w' => w'.heap[w2.heap.size]? = some (.cells #[Value.slice (some ⟨b1, 0, none⟩) n n, .slice (some ⟨b2, 0, none⟩) n n] 45 (0, 0))) (w2.alloc (.cells #[Value.slice (some ⟨b1, 0, none⟩) n n, .slice (some ⟨b2, 0, none⟩) n n] 45)).drew := hp2
        have hz4 : w2.heap.size < (w2.alloc (.cells #[Value.slice (some ⟨b1, 0, none⟩) n n, .slice (some ⟨b2, 0, none⟩) n n] 45)).drew.heap.size := hz3
        have hT1b : TblTo (w2.alloc (.cells #[Value.slice (some ⟨b1, 0, none⟩) n n, .slice (some ⟨b2, 0, none⟩) n n] 45)).drew b1 n n zs := hT1.upd hU3.drew (fun k _ _ e => e)
        have hT2b : TblTo (w2.alloc (.cells #[Value.slice (some ⟨b1, 0, none⟩) n n, .slice (some ⟨b2, 0, none⟩) n n] 45)).drew b2 n n (du zs) := hT2.upd hU3.drew (fun k _ _ e => e)
        go_wp2_with fail
        refine region_T (S := (fun w' => w'.heap[w2.heap.size]? = some (.cells #[Value.slice (some ⟨b1, 0, none⟩) n n, .slice (some ⟨b2, 0, none⟩) n n] 45 (0, 0)))) 5 (by kernel_rfl) ?_
        obtain ⟨W3, hW3⟩ : ∃ W3, (w2.alloc (.cells #[Value.slice (some ⟨b1, 0, none⟩) n n, .slice (some ⟨b2, 0, none⟩) n n] 45)).drew = W3 := ⟨_, rfl⟩
        rw [hW3] at hb3 hE3 C3 hSd hz4 hT1b hT2b ⊢
        clear hW3 hp2 hU3 hz3
        refine anyT_take (i := 0) (oi := ?oi0a) (v := .agg #[Value.slice (some ⟨b1, 0, none⟩) n n, .slice (some ⟨b2, 0, none⟩) n n]) ?hi0a (by kernel_rfl) ?hq0a ?hy0a (by assumption) ?rest0a
        case hi0a => (simp only [List.getElem?_toArray, List.getElem?_cons_zero]; first | done | rfl)
        case hq0a => first | exact fun _ _ _ h => h | exact fun _ _ _ h => (by cases h.1)
        case hy0a => exact yieldsIf_load_row (by rfl) _ _ rfl w2.heap.size rfl _ _ _ (fun _ h => h) Tryd.underlying45 rfl (by kernel_rfl)
        try simp only [Act.put, List.setIfInBounds_toArray, List.set_cons_zero, List.set_cons_succ]
        refine anyT_take (i := 1) (oi := ?oi1a) (v := .nilIface) ?hi1a (by kernel_rfl) ?hq1a ?hy1a (by assumption) ?rest1a
        case hi1a => (simp only [List.getElem?_toArray, List.getElem?_cons_succ, List.getElem?_cons_zero]; first | done | rfl)
        case hq1a => first | exact fun _ _ _ h => h | exact fun _ _ _ h => (by cases h.1)
        case hy1a => (refine Or.inl ⟨by rfl, ?_⟩; intro wz hSw; go_simp; first | done | with_reducible rfl | simp | omega)
        try simp only [Act.put, List.setIfInBounds_toArray, List.set_cons_zero, List.set_cons_succ]
        refine anyT_one (i := 2) (by kernel_rfl) rfl (fun K' hK => ?_)
        go_simp
        refine (isLack_nil _).mono ?_
        rintro e w4 ⟨rfl, hB4⟩
        have z4 := hB4.size
        have hS4 : (fun w' => w'.heap[w2.heap.size]? = some (.cells #[Value.slice (some ⟨b1, 0, none⟩) n n, .slice (some ⟨b2, 0, none⟩) n n] 45 (0, 0))) w4 := (hB4.block _ hz4).trans hSd
        have hb4 : w4.heap[w.heap.size]? = _ := (hB4.block _ (by omega)).trans hb3
        have C4 := C3.trans (hB4.mono C3.size)
        have T1 := hT1b.upd (Below.toUpd hB4) (fun k e1 e2 e3 => by omega)
        have T2 := hT2b.upd (Below.toUpd hB4) (fun k e1 e2 e3 => by omega)
        refine hK.out _ _ (fun _ => hS4) ?_
        clear hK K'
        try simp only [Act.put, List.setIfInBounds_toArray, List.set_cons_zero, List.set_cons_succ]
        refine anyT_take (i := 3) (oi := ?oi3a) (v := .bool true) ?hi3a (by kernel_rfl) ?hq3a ?hy3a (by assumption) ?rest3a
        case hi3a => (simp only [List.getElem?_toArray, List.getElem?_cons_succ, List.getElem?_cons_zero]; first | done | rfl)
        case hq3a => first | exact fun _ _ _ h => h | exact fun _ _ _ h => (by cases h.1)
        case hy3a => (refine Or.inl ⟨by rfl, ?_⟩; intro wz hSw; go_simp; first | done | with_reducible rfl | simp | omega)
        try simp only [Act.put, List.setIfInBounds_toArray, List.set_cons_zero, List.set_cons_succ]
        obtain ⟨qc0, qc1, qf0, qf1⟩ := rowPair_cells hb4
        refine anyT_one (i := 4) (by kernel_rfl) rfl (fun K' hK => ?_)
        go_simp
        have hS5 : (fun w' => w'.heap[w2.heap.size]? = some (.cells #[Value.slice (some ⟨b1, 0, none⟩) n n, .slice (some ⟨b2, 0, none⟩) n n] 45 (0, 0))) ((w4.setCell ⟨w.heap.size, 0, none⟩ (.slice (some ⟨b1, 0, none⟩) n n)).setCell ⟨w.heap.size, 1, none⟩ (.slice (some ⟨b2, 0, none⟩) n n)) := (rowPair_upd.block _ (by omega) (fun e => by omega)).trans hS4
        refine hK.out _ _ (fun _ => hS5) ?_
        clear hK K'
        try simp only [Act.put, List.setIfInBounds_toArray, List.set_cons_zero, List.set_cons_succ]
        refine anyT_one (i := 5) (by kernel_rfl) rfl (fun K' hK => ?_)
        go_simp
        refine hK.out _ _ (fun h => absurd rfl h) ?_
        clear hK K'
        try simp only [Act.put, List.setIfInBounds_toArray, List.set_cons_zero, List.set_cons_succ]
        refine anyT_done (by kernel_rfl) ?_ _
        go_wp2_with fail
        refine bodyPost_ret (v := .tuple #[.agg #[Value.slice (some ⟨b1, 0, none⟩) n n, .slice (some ⟨b2, 0, none⟩) n n], .bool true]) (results_cell_row2 rfl _ _ w.heap.size _ _ (0, 0) _ _ rfl rfl (rowPair_set hb4) Tryd.underlying45 rfl (by kernel_rfl)) rfl ?_
        exact ⟨.inl ⟨Hl.out, b1, b2, (T1.upd rowPair_upd (fun k e1 e2 e3 => by omega)).lt, (T2.upd rowPair_upd (fun k e1 e2 e3 => by omega)).lt, rfl, T1.upd rowPair_upd (fun k e1 e2 e3 => by omega), T2.upd rowPair_upd (fun k e1 e2 e3 => by omega)⟩, C4.trans (rowPair_upd.toBelow (fun k e => by omega) (by omega))⟩
      · have Hl := Lib.hid (show latR zs = false by rw [lat_eq]; exact decide_eq_false (fun h3 => hno h3.2.2))
        clear hno
        have hp2 : (w2.alloc (.cells #[Value.slice none 0 0, .slice none 0 0] 45)).heap[w2.heap.size]? = some (.cells #[Value.slice none 0 0, .slice none 0 0] 45 (0, 0)) := heap_alloc_new w2 _
        have hU3 : Upd (fun _ => False) w2 (w2.alloc (.cells #[Value.slice none 0 0, .slice none 0 0] 45)) := (Upd.refl _ w2).alloc _
        have hz3 : w2.heap.size < (w2.alloc (.cells #[Value.slice none 0 0, .slice none 0 0] 45)).heap.size := by simp
        have hb3 : (w2.alloc (.cells #[Value.slice none 0 0, .slice none 0 0] 45)).drew.heap[w.heap.size]? = _ := (hU3.block _ (by omega) (fun e => e)).trans hb2
        have hE3 : Et (w2.alloc (.cells #[Value.slice none 0 0, .slice none 0 0] 45)).drew := hE2.upd (R := fun _ => False) hU3.drew (fun e => e)
        have C3 : Below w.heap.size w (w2.alloc (.cells #[Value.slice none 0 0, .slice none 0 0] 45)).drew := below_drewN (C2.trans (hU3.toBelow (B := w.heap.size) (fun _ e => e.elim) (by omega))) 1
        have hSd : (fun w' => w'.heap[w2.heap.size]? = some (.cells #[Value.slice none 0 0, .slice none 0 0] 45 (0, 0))) (w2.alloc (.cells #[Value.slice none 0 0, .slice none 0 0] 45)).drew := hp2
        have hz4 : w2.heap.size < (w2.alloc (.cells #[Value.slice none 0 0, .slice none 0 0] 45)).drew.heap.size := hz3
        go_wp2_with fail
        refine region_T (S := (fun w' => w'.heap[w2.heap.size]? = some (.cells #[Value.slice none 0 0, .slice none 0 0] 45 (0, 0)))) 5 (by kernel_rfl) ?_
        obtain ⟨W3, hW3⟩ : ∃ W3, (w2.alloc (.cells #[Value.slice none 0 0, .slice none 0 0] 45)).drew = W3 := ⟨_, rfl⟩
        rw [hW3] at hb3 hE3 C3 hSd hz4 ⊢
        clear hW3 hp2 hU3 hz3
        refine anyT_take (i := 0) (oi := ?oi0b) (v := .agg #[Value.slice none 0 0, .slice none 0 0]) ?hi0b (by kernel_rfl) ?hq0b ?hy0b (by assumption) ?rest0b
        case hi0b => (simp only [List.getElem?_toArray, List.getElem?_cons_zero]; first | done | rfl)
        case hq0b => first | exact fun _ _ _ h => h | exact fun _ _ _ h => (by cases h.1)
        case hy0b => exact yieldsIf_load_row (by rfl) _ _ rfl w2.heap.size rfl _ _ _ (fun _ h => h) Tryd.underlying45 rfl (by kernel_rfl)
        try simp only [Act.put, List.setIfInBounds_toArray, List.set_cons_zero, List.set_cons_succ]
        refine anyT_take (i := 1) (oi := ?oi1b) (v := .iface 72 (.agg #[.int .i64 x, .int .i64 y])) ?hi1b (by kernel_rfl) ?hq1b ?hy1b (by assumption) ?rest1b
        case hi1b => (simp only [List.getElem?_toArray, List.getElem?_cons_succ, List.getElem?_cons_zero]; first | done | rfl)
        case hq1b => first | exact fun _ _ _ h => h | exact fun _ _ _ h => (by cases h.1)
        case hy1b => (refine Or.inl ⟨by rfl, ?_⟩; intro wz hSw; go_simp; first | done | with_reducible rfl | simp | omega)
        try simp only [Act.put, List.setIfInBounds_toArray, List.set_cons_zero, List.set_cons_succ]
        refine anyT_one (i := 2) (by kernel_rfl) rfl (fun K' hK => ?_)
        go_simp
        refine (isLack_hit _ _ _ hE3).mono ?_
        rintro e w4 ⟨rfl, hB4⟩
        have z4 := hB4.size
        have hS4 : (fun w' => w'.heap[w2.heap.size]? = some (.cells #[Value.slice none 0 0, .slice none 0 0] 45 (0, 0))) w4 := (hB4.block _ hz4).trans hSd
        have hb4 : w4.heap[w.heap.size]? = _ := (hB4.block _ (by omega)).trans hb3
        have C4 := C3.trans (hB4.mono C3.size)
        refine hK.out _ _ (fun _ => hS4) ?_
        clear hK K'
        try simp only [Act.put, List.setIfInBounds_toArray, List.set_cons_zero, List.set_cons_succ]
        refine anyT_take (i := 3) (oi := ?oi3b) (v := .bool false) ?hi3b (by kernel_rfl) ?hq3b ?hy3b (by assumption) ?rest3b
        case hi3b => (simp only [List.getElem?_toArray, List.getElem?_cons_succ, List.getElem?_cons_zero]; first | done | rfl)
        case hq3b => first | exact fun _ _ _ h => h | exact fun _ _ _ h => (by cases h.1)
        case hy3b => (refine Or.inl ⟨by rfl, ?_⟩; intro wz hSw; go_simp; first | done | with_reducible rfl | simp | omega)
        try simp only [Act.put, List.setIfInBounds_toArray, List.set_cons_zero, List.set_cons_succ]
        obtain ⟨qc0, qc1, qf0, qf1⟩ := rowPair_cells hb4
        refine anyT_one (i := 4) (by kernel_rfl) rfl (fun K' hK => ?_)
        go_simp
        have hS5 : (fun w' => w'.heap[w2.heap.size]? = some (.cells #[Value.slice none 0 0, .slice none 0 0] 45 (0, 0))) ((w4.setCell ⟨w.heap.size, 0, none⟩ (.slice none 0 0)).setCell ⟨w.heap.size, 1, none⟩ (.slice none 0 0)) := (rowPair_upd.block _ (by omega) (fun e => by omega)).trans hS4
        refine hK.out _ _ (fun _ => hS5) ?_
        clear hK K'
        try simp only [Act.put, List.setIfInBounds_toArray, List.set_cons_zero, List.set_cons_succ]
        refine anyT_one (i := 5) (by kernel_rfl) rfl (fun K' hK => ?_)
        go_simp
        refine hK.out _ _ (fun h => absurd rfl h) ?_
        clear hK K'
        try simp only [Act.put, List.setIfInBounds_toArray, List.set_cons_zero, List.set_cons_succ]
        refine anyT_done (by kernel_rfl) ?_ _
        go_wp2_with fail
        refine bodyPost_ret (v := .tuple #[.agg #[Value.slice none 0 0, .slice none 0 0], .bool false]) (results_cell_row2 rfl _ _ w.heap.size _ _ (0, 0) _ _ rfl rfl (rowPair_set hb4) Tryd.underlying45 rfl (by kernel_rfl)) rfl ?_
        exact ⟨.inr ⟨Hl.out, rfl⟩, C4.trans (rowPair_upd.toBelow (fun k e => by omega) (by omega))⟩
  · have Hl := Lib.hid (show latR zs = false by unfold latR; rw [hv]; rfl)
    have z1 := hB1.size
    have hb1 : w1.heap[w.heap.size]? = _ := (hB1.block _ hz0).trans hb0
    have C1 := hB0.trans (hB1.mono (by omega))
    clear hb0 hv hB1
    obtain ⟨qc0, qc1, qf0, qf1⟩ := rowPair_cells hb1
    go_wp2_with fail
    refine bodyPost_ret (v := .tuple #[.agg #[.slice none 0 0, .slice none 0 0], .bool false]) (results_cell_row2 rfl _ _ w.heap.size _ _ (0, 0) _ _ rfl rfl (rowPair_set hb1) Tryd.underlying45 rfl (by kernel_rfl)) rfl ?_
    exact ⟨.inr ⟨Hl.out, rfl⟩, C1.trans (rowPair_upd.toBelow (fun k e => by omega) (by omega))⟩


set_option maxRecDepth 100000 in
set_option maxHeartbeats 4000000 in
theorem oisEven_any (b1 b2 n : Nat) (zs : List Int) (hlen0 : zs.length = n) (hn6 : n ≤ 6) (hj1 : JoinsOk zs) (hj2 : JoinsOk (du zs)) (w : World) (h1 : TblTo w b1 n n zs) (h2 : TblTo w b2 n n (du zs)) :
    Calls Tryd.prog 41 #[latV b1 b2 n] w fun e W' => e = .returned (.bool (decide (EvenAll zs))) ∧ Below w.heap.size w W' := by
  have hlen := Lib.hid hlen0
  have Hj1 := Lib.hid hj1
  have Hj2 := Lib.hid hj2
  clear hlen0 hj1 hj2
  have hU : Upd (fun _ => False) w (w.alloc (.cells #[Value.slice (some ⟨b1, 0, none⟩) n n, .slice (some ⟨b2, 0, none⟩) n n] 45)) := (Upd.refl _ w).alloc _
  have hp : (w.alloc (.cells #[Value.slice (some ⟨b1, 0, none⟩) n n, .slice (some ⟨b2, 0, none⟩) n n] 45)).heap[w.heap.size]? = some (.cells #[Value.slice (some ⟨b1, 0, none⟩) n n, .slice (some ⟨b2, 0, none⟩) n n] 45 (0, 0)) := heap_alloc_new w _
  have hz : w.heap.size < (w.alloc (.cells #[Value.slice (some ⟨b1, 0, none⟩) n n, .slice (some ⟨b2, 0, none⟩) n n] 45)).heap.size := by simp
  have k1 := h1.upd hU (fun k _ _ e => e)
  have k2 := h2.upd hU (fun k _ _ e => e)
  unfold latV
  obtain ⟨qp0, qp1, -, -⟩ := rowPair_cells hp
  go_enter Tryd.func41, Tryd.ntmps41
  go_wp2_with fail
  obtain ⟨W0, hW0⟩ : ∃ W0, w.alloc (.cells #[Value.slice (some ⟨b1, 0, none⟩) n n, .slice (some ⟨b2, 0, none⟩) n n] 45) = W0 := ⟨_, rfl⟩
  rw [hW0] at k1 k2 qp0 qp1 hU hp hz ⊢
  clear hW0 qp0 qp1 h1 h2
  have hB0 : Below w.heap.size w W0 := hU.toBelow (fun _ e => e.elim) (Nat.le_refl _)
  go_loopw [9] (fun i wr => ∃ k : Nat, k ≤ n ∧ i = .int .i64 k ∧ (∀ a, a < k → ∀ b, b < n → ∀ c, c < n → goesOver zs a b c = true) ∧ Below W0.heap.size W0 wr) (fun i _ => n - (intOf i).toNat)
  case atStart => exact ⟨0, by omega, rfl, fun a ha => by omega, Below.refl _ _⟩
  case round =>
    obtain ⟨a, ha, rfl, hall, hBr⟩ := hrel
    have Hall := Lib.hid hall
    clear hall
    rename World => wr
    have zr := hBr.size
    by_cases han : a < n
    · obtain ⟨qp0, qp1, -, -⟩ := rowPair_cells ((hBr.block _ hz).trans hp)
      go_wp2
      go_loopw [15] (fun i wr => ∃ k : Nat, k ≤ n ∧ i = .int .i64 k ∧ (∀ b, b < k → ∀ c, c < n → goesOver zs a b c = true) ∧ Below W0.heap.size W0 wr) (fun i _ => n - (intOf i).toNat)
      case atStart => exact ⟨0, by omega, rfl, fun a ha => by omega, hBr⟩
      case round =>
        clear qp0 qp1 hBr zr
        obtain ⟨b, hb, rfl, hall2, hBr⟩ := hrel
        have Hall2 := Lib.hid hall2
        clear hall2
        rename World => wr2
        have zr := hBr.size
        by_cases hbn : b < n
        · obtain ⟨qp0, qp1, -, -⟩ := rowPair_cells ((hBr.block _ hz).trans hp)
          go_wp2
          go_loopw [21] (fun i wr => ∃ k : Nat, k ≤ n ∧ i = .int .i64 k ∧ (∀ c, c < k → goesOver zs a b c = true) ∧ Below W0.heap.size W0 wr) (fun i _ => n - (intOf i).toNat)
          case atStart => exact ⟨0, by omega, rfl, fun a ha => by omega, hBr⟩
          case round =>
            clear qp0 qp1 hBr zr
            obtain ⟨c, hc, rfl, hall3, hBr⟩ := hrel
            have Hall3 := Lib.hid hall3
            clear hall3
            rename World => wr3
            have zr := hBr.size
            by_cases hcn : c < n
            · have hp3 := (hBr.block _ hz).trans hp
              have t1 := k1.upd (Below.toUpd hBr) (fun k e1 e2 e3 => by omega)
              have t2 := k2.upd (Below.toUpd hBr) (fun k e1 e2 e3 => by omega)
              have hcall := ogoes_any b1 b2 n zs hlen.out hn6 Hj1.out Hj2.out a b c han hbn hcn wr3 t1 t2
              unfold latV at hcall
              cases hg : goesOver zs a b c
              · rw [hg] at hcall
                have HF := Lib.hid (show decide (EvenAll zs) = false from decide_eq_false (fun hev => by have := hev a (by rw [hlen.out]; exact han) b (by rw [hlen.out]; exact hbn) c (by rw [hlen.out]; exact hcn); rw [hg] at this; cases this))
                clear hg t1 t2
                go_wp2_with (refine wpList_load_row rfl _ _ rfl w.heap.size rfl _ _ (0, 0) _ hp3 Tryd.underlying45 rfl (by kernel_rfl) ?_)
                refine hcall.mono ?_
                rintro e w5 ⟨rfl, hB5⟩
                go_wp2_with fail
                go_ret
                exact ⟨ret_bool HF.out.symm, hB0.trans ((hBr.mono (by omega)).trans (hB5.mono (by omega)))⟩
              · rw [hg] at hcall
                have Hn := Lib.hid hg
                clear hg t1 t2
                go_wp2_with (refine wpList_load_row rfl _ _ rfl w.heap.size rfl _ _ (0, 0) _ hp3 Tryd.underlying45 rfl (by kernel_rfl) ?_)
                refine hcall.mono ?_
                rintro e w5 ⟨rfl, hB5⟩
                go_wp2_with fail
                go_roundw
                case rel => exact ⟨c + 1, by omega, by go_num, all_snoc Hall3.out Hn.out, hBr.trans (hB5.mono zr)⟩
                case measure => simp [intOf]; omega
            · obtain rfl : c = n := by omega
              go_wp2
              go_roundw
              case rel => exact ⟨b + 1, by omega, by go_num, all_snoc Hall2.out Hall3.out, hBr⟩
              case measure => simp [intOf]; omega
        · obtain rfl : b = n := by omega
          go_wp2
          go_roundw
          case rel => exact ⟨a + 1, by omega, by go_num, all_snoc Hall.out Hall2.out, hBr⟩
          case measure => simp [intOf]; omega
    · obtain rfl : a = n := by omega
      have HF := Lib.hid (show decide (EvenAll zs) = true from decide_eq_true (by unfold EvenAll; rw [hlen.out]; exact Hall.out))
      go_wp2
      go_ret
      exact ⟨ret_bool HF.out.symm, hB0.trans (hBr.mono (by omega))⟩

set_option maxRecDepth 100000 in
set_option maxHeartbeats 4000000 in
theorem IsEven_any (A : Option Addr) (n c : Nat) (zs : List Int) (w : World) (h : Ints w w.heap.size A n zs) (hbig : n ≤ 1152921504606846976) (hE : Et w) :
    Calls Tryd.prog 20 #[.slice A n c] w fun e W' => e = .returned (.bool (evenR zs)) ∧ Below w.heap.size w W' := by
  have hlen := Lib.hid h.len
  go_enter Tryd.func20, Tryd.ntmps20
  go_wp2_with fail
  refine (readLatF_any A n c zs w h hbig hE).mono ?_
  rintro e w2 ⟨(⟨hl, b1, b2, l1, l2, rfl, hT1, hT2⟩ | ⟨hl, rfl⟩), hB2⟩
  · obtain ⟨hvo, hn0, hj1, hj2⟩ := lat_parts hl
    have hn6 : n ≤ 6 := by have := hvo.1; rw [hlen.out] at this; exact this
    have Ht := Lib.hid (show evenR zs = decide (EvenAll zs) by unfold evenR; rw [hl]; rfl)
    have hU : Upd (fun _ => False) w2 (w2.alloc (.cells #[Value.slice (some ⟨b1, 0, none⟩) n n, .slice (some ⟨b2, 0, none⟩) n n] 45)) := (Upd.refl _ w2).alloc _
    have hp : (w2.alloc (.cells #[Value.slice (some ⟨b1, 0, none⟩) n n, .slice (some ⟨b2, 0, none⟩) n n] 45)).heap[w2.heap.size]? = some (.cells #[Value.slice (some ⟨b1, 0, none⟩) n n, .slice (some ⟨b2, 0, none⟩) n n] 45 (0, 0)) := heap_alloc_new w2 _
    have k1 := hT1.upd hU (fun k _ _ e => e)
    have k2 := hT2.upd hU (fun k _ _ e => e)
    have hcall := oisEven_any b1 b2 n zs hlen.out hn6 hj1 hj2 _ k1 k2
    have C3 := hB2.trans (hU.toBelow (B := w.heap.size) (fun _ e => e.elim) hB2.size)
    have z3 := C3.size
    unfold latV at hcall ⊢
    clear hl hj1 hj2 k1 k2 hT1 hT2 hU hB2
    go_wp2_with (refine wpList_load_row rfl _ _ rfl w2.heap.size rfl _ _ (0, 0) _ hp Tryd.underlying45 rfl (by kernel_rfl) ?_)
    refine hcall.mono ?_
    rintro e w5 ⟨rfl, hB5⟩
    go_wp2_with fail
    go_ret
    exact ⟨ret_bool Ht.out.symm, C3.trans (hB5.mono z3)⟩
  · have Ht := Lib.hid (show evenR zs = false by unfold evenR; rw [hl]; rfl)
    clear hl
    go_wp2_with fail
    go_ret
    exact ⟨ret_bool Ht.out.symm, hB2.trans (((Upd.refl (fun _ => False) w2).alloc _).toBelow (fun _ e => e.elim) hB2.size)⟩
end Go.Proofs.YtmlihbcffndnbabDoor

/- A lattice that is drawn: one of some, or an order. -/
import Derived.Test.YtmlihbcffndnbaaDoorDrawS
import Derived.Test.YtmlihbcffndnbaaDoorSomeM
import Derived.Test.YtmlihbcffndnbaaDoorGood
import Derived.Test.YtmlihbcffndnbaaDoorOrdSp
import Derived.Test.YtmlihbcffndnbaaDoorGb
set_option linter.unusedVariables false
set_option linter.unusedSimpArgs false
namespace Go.Proofs.YtmlihbcffndnbaaDoor
open Go.RowKit Go.Shelf
attribute [local go_sem] Oper.semAt_some
attribute [local go_sem, local simp] wide_fn

theorem litW_size (w : World) (rs : List (Int × Int)) : (litW w rs).heap.size = litN w.heap.size rs + 1 := by unfold litW; rw [World.size_alloc, (litA_size rs w).1]
theorem litRowsU (w W : World) (rs : List (Int × Int)) (h : Upd (fun k => k < w.heap.size) (litW w rs) W) : IntsS W W.heap.size (some ⟨litN w.heap.size rs, 0, none⟩) rs.length (rs.map fun r => [r.1, r.2]) := by
  have hz := h.size
  rw [litW_size] at hz
  have hn := (litA_size rs w).2
  refine ⟨by simp, fun _ => ⟨litN w.heap.size rs, 0, rfl, by omega, fun j hj => ?_⟩⟩
  have hA := ((litA_row rs w j hj).alloc (.cells (litV w.heap.size rs).toArray 22)).upd h (by omega)
  have hg : (rs.map fun r => [r.1, r.2])[j]?.getD [] = [rs[j].1, rs[j].2] := by simp [hj]
  rw [hg]
  refine ⟨_, 2, ?_, hA.ints (by have := hA.lt; exact this)⟩
  have hc := heap_alloc_new (litA w rs) (.cells (litV w.heap.size rs).toArray 22)
  rw [(litA_size rs w).1] at hc
  have hc2 := (h.block (litN w.heap.size rs) (by rw [litW_size]; omega) (by omega)).trans hc
  rw [Nat.zero_add]
  refine (cell_of_row _ _ _ _ _ _ hc2).trans ?_
  simpa using litV_get rs w.heap.size j hj
/-- Lists of pairs that are written out, one behind the other. -/
def latsW (w : World) : List (List (Int × Int)) → World
  | [] => w
  | l :: ls => latsW (litW w l) ls
def latsV (b : Nat) : List (List (Int × Int)) → List Value
  | [] => []
  | l :: ls => .slice (some ⟨litN b l, 0, none⟩) l.length l.length :: latsV (litN b l + 1) ls
def latsN (b : Nat) : List (List (Int × Int)) → Nat
  | [] => b
  | l :: ls => latsN (litN b l + 1) ls
theorem latsW_upd : ∀ (ls : List (List (Int × Int))) (w : World), Upd (fun _ => False) w (latsW w ls)
  | [], w => Upd.refl _ w
  | l :: ls, w => (litW_upd w l).trans (latsW_upd ls _)
theorem latsW_size : ∀ (ls : List (List (Int × Int))) (w : World), (latsW w ls).heap.size = latsN w.heap.size ls
  | [], _ => rfl
  | l :: ls, w => by
    have h := latsW_size ls (litW w l)
    rw [litW_size] at h
    exact h
theorem lats_row : ∀ (ls : List (List (Int × Int))) (w W : World) (k : Nat) (_ : k < ls.length), Upd (fun j => j < w.heap.size) (latsW w ls) W →
    ∃ b l, (latsV w.heap.size ls)[k]? = some (.slice (some ⟨b, 0, none⟩) l.length l.length) ∧ l ∈ ls ∧ IntsS W W.heap.size (some ⟨b, 0, none⟩) l.length (l.map fun r => [r.1, r.2])
  | l :: ls, w, W, 0, _, h => ⟨_, l, rfl, by simp, litRowsU w W l (((latsW_upd ls (litW w l)).mono (fun _ _ e => e.elim)).trans h)⟩
  | l :: ls, w, W, k + 1, hk, h => by
    have hz := litW_size w l
    have hn := (litA_size l w).2
    obtain ⟨b, l2, h1, h2, h3⟩ := lats_row ls (litW w l) W k (by simpa using hk) (h.mono (fun j _ e => by omega))
    rw [hz] at h1
    exact ⟨b, l2, by simpa [latsV] using h1, by simp [h2], h3⟩
def latLL : List (List (Int × Int)) := [[(0, 1), (1, 2), (2, 3)], [(0, 1), (0, 2), (1, 3), (2, 3)], [(0, 1), (0, 2), (0, 3), (1, 4), (2, 4), (3, 4)], [(0, 1), (1, 2), (0, 3), (2, 4), (3, 4)], [(0, 1)], [], [(0, 1), (0, 2), (1, 3), (2, 3), (3, 4), (4, 5)], [(0, 1), (1, 2), (1, 3), (2, 4), (3, 4)]]
def litX (w : World) (b : Nat) (rs : List (Int × Int)) : World := (litA w rs).alloc (.cells (litV b rs).toArray 22)
def latsX (w : World) (b : Nat) : List (List (Int × Int)) → World
  | [] => w
  | l :: ls => latsX (litX w b l) (litN b l + 1) ls
theorem latsX_eq : ∀ (ls : List (List (Int × Int))) (w : World), latsX w w.heap.size ls = latsW w ls
  | [], _ => rfl
  | l :: ls, w => by
    have h := latsX_eq ls (litW w l)
    rw [litW_size] at h
    exact h
theorem calls_at {P : Program} {f : FuncId} {args : Array Value} {w w' : World} {Q : Ending → World → Prop} (e : w = w') (h : Calls P f args w' Q) : Calls P f args w Q := by rw [e]; exact h
def latF (w : World) : World := ((latsW w latLL).alloc (.cells (latsV w.heap.size latLL).toArray 36)).alloc (.cells #[.int .i64 4, .int .i64 4, .int .i64 5, .int .i64 5, .int .i64 2, .int .i64 1, .int .i64 6, .int .i64 5] 3)
def latFX (w : World) : World := ((latsX w w.heap.size latLL).alloc (.cells (latsV w.heap.size latLL).toArray 36)).alloc (.cells #[.int .i64 4, .int .i64 4, .int .i64 5, .int .i64 5, .int .i64 2, .int .i64 1, .int .i64 6, .int .i64 5] 3)
theorem latFX_eq (w : World) : latFX w = latF w := by unfold latFX latF; rw [latsX_eq]
theorem ordL_le6 (n : Int) (rs : List (List Int)) : (ordL n rs).length ≤ 6 := (ordL_small n rs).2.2
/-- What lies written out: the row of lists, the sizes, each list. -/
theorem latF_facts (w W : World) (R : Nat) (hR : R < w.heap.size) (h : Upd (fun j => j = R) (latF w) W) :
    ∃ B, B < W.heap.size ∧ B + 1 < W.heap.size ∧ B = latsN w.heap.size latLL ∧ ∀ k, k < 8 → ∃ (b : Nat) (l : List (List Int)) (s : Int), W.cell? ⟨B, k, none⟩ = some (.slice (some ⟨b, 0, none⟩) l.length l.length) ∧ W.cell? ⟨B + 1, k, none⟩ = some (.int .i64 s) ∧ l.length ≤ 6 ∧ (∀ r ∈ l, r.length ≤ 1048576) ∧ IntsS W W.heap.size (some ⟨b, 0, none⟩) l.length l := by
  have hz := h.size
  have hs := latsW_size latLL w
  have hu0 := latsW_upd latLL w
  have hsz := hu0.size
  have hF : (latF w).heap.size = latsN w.heap.size latLL + 2 := by unfold latF; rw [World.size_alloc, World.size_alloc, hs]
  have hb1 : (latF w).heap[latsN w.heap.size latLL]? = some (.cells (latsV w.heap.size latLL).toArray 36 (0, 0)) := by
    have h1 := heap_alloc_new (latsW w latLL) (.cells (latsV w.heap.size latLL).toArray 36)
    rw [hs] at h1
    exact (Below.heap_alloc _ _ _ (by rw [World.size_alloc, hs]; omega)).trans h1
  have hb2 : (latF w).heap[latsN w.heap.size latLL + 1]? = some (.cells #[.int .i64 4, .int .i64 4, .int .i64 5, .int .i64 5, .int .i64 2, .int .i64 1, .int .i64 6, .int .i64 5] 3 (0, 0)) := by
    have h1 := heap_alloc_new ((latsW w latLL).alloc (.cells (latsV w.heap.size latLL).toArray 36)) (.cells #[.int .i64 4, .int .i64 4, .int .i64 5, .int .i64 5, .int .i64 2, .int .i64 1, .int .i64 6, .int .i64 5] 3)
    rw [World.size_alloc, hs] at h1
    exact h1
  have g1 := (h.block _ (by omega) (by omega)).trans hb1
  have g2 := (h.block _ (by omega) (by omega)).trans hb2
  refine ⟨_, by omega, by omega, rfl, fun k hk => ?_⟩
  have hu1 : Upd (fun _ => False) (latsW w latLL) (latF w) := ((Upd.refl _ _).alloc _).alloc _
  obtain ⟨b, l, h1, h2, h3⟩ := lats_row latLL w W k (by simpa [latLL] using hk) ((hu1.mono (fun _ _ e => e.elim)).trans (h.mono (fun j _ e => by omega)))
  refine ⟨b, l.map fun r => [r.1, r.2], (([4, 4, 5, 5, 2, 1, 6, 5] : List Int)[k]?.getD 0), ?_, ?_, ?_, ?_, ?_⟩
  · rw [List.length_map, cell_of_row _ _ _ _ _ _ g1]
    simpa using h1
  · rw [cell_of_row _ _ _ _ _ _ g2]
    match k, hk with
    | 0, _ | 1, _ | 2, _ | 3, _ | 4, _ | 5, _ | 6, _ | 7, _ => rfl
  · rw [List.length_map]
    have : ∀ l ∈ latLL, l.length ≤ 6 := by decide
    exact this l h2
  · intro r hr
    obtain ⟨x, _, rfl⟩ := List.mem_map.1 hr
    simp
  · rw [List.length_map]; exact h3

/-- What drawing an order gives. -/
def DrawnO (w : World) (R p : Nat) (e : Ending) (w' : World) : Prop := ∃ A n c zs q, e = .returned (.slice A n c) ∧ n ≤ 7 ∧ Row w' w.heap.size w'.heap.size A n zs ∧ q ≤ 120 ∧ Rd w' R (p + q) ∧ Upd (fun k => k = R) w w'

set_option maxRecDepth 100000 in
set_option maxHeartbeats 8000000 in
theorem aLattice_any (R p : Nat) (w : World) (hR0 : Rd w R p) (hp : p ≤ 1000) :
    Calls Tryd.prog 39 #[.pointer (some ⟨R, 0, none⟩)] w (DrawnO w R p) := by
  have hRl := hR0.lt
  go_enter Tryd.func39, Tryd.ntmps39
  go_wp2_with fail
  refine (pick_any R _ 5 w hR0 (by omega)).mono ?_
  rintro e w1 ⟨g, rfl, hpk, hR1, hU1⟩
  have hg0 := hpk.1 (by omega)
  have z1 := hU1.size
  clear hpk hR0
  by_cases hg : g = 0
  · subst hg
    clear hg0
    go_wp2_with fail
    refine (someOrderM_any R _ 6 (by omega) w1 hR1 (by omega)).mono ?_
    rintro e w2 ⟨A2, n2, c2, zs, q2, rfl, hn2, r2, hq2, hR2, hU2⟩
    go_wp2
    go_ret
    exact ⟨A2, n2, c2, zs, 1 + q2, rfl, hn2, r2.more (by omega) (Nat.le_refl _), by omega, by rw [← Nat.add_assoc]; exact hR2, hU1.trans' hU2 (fun j hj e => e)⟩
  · have hgn : (g == 0) = false := by simp; exact hg
    clear hg hg0
    go_wp2_with fail
    have hF1 : Upd (fun _ => False) w1 (latF w1) := (((latsW_upd latLL w1).alloc _).alloc _)
    have hRF := hR1.upd hF1 (fun _ e => e.elim)
    refine calls_at (w' := latFX w1) (by kernel_rfl) ?_
    rw [latFX_eq]
    refine (pick_any R _ 8 (latF w1) hRF (by omega)).mono ?_
    rintro e w2 ⟨kk, rfl, hpk, hR2, hU2⟩
    have hkb := hpk.1 (by omega)
    obtain ⟨k, rfl⟩ := Int.eq_ofNat_of_zero_le hkb.1
    have hk8 : k < 8 := by omega
    obtain ⟨B, hBs, hBs2, hBe, hfac⟩ := latF_facts w1 w2 R (by omega) hU2
    obtain ⟨b, l, s, hc1, hc2, hl6, hlr, hI⟩ := hfac k hk8
    have hBe2 : w1.heap.size + 1 + 1 + 1 + 1 + 1 + 1 + 1 + 1 + 1 + 1 + 1 + 1 + 1 + 1 + 1 + 1 + 1 + 1 + 1 + 1 + 1 + 1 + 1 + 1 + 1 + 1 + 1 + 1 + 1 + 1 + 1 + 1 + 1 + 1 + 1 + 1 + 1 + 1 = B := by rw [hBe]; kernel_rfl
    have hF2 := hU2.size
    have hF3 := hF1.size
    clear hfac hpk hkb hBe
    rw [hBe2]
    clear hBe2
    have hR1B : w1.heap.size ≤ w2.heap.size := by omega
    have hU12 : Upd (fun k => k = R) w w2 := (hU1.trans' hF1 (fun j hj e => e.elim)).trans' hU2 (fun j hj e => e)
    clear hF1 hRF hU2 hU1 hF2 hF3
    go_wp2
    have hud : Upd (fun _ => False) w2 w2.drew := (Upd.refl _ w2).drew
    have kd : Below w2.heap.size w2 w2.drew := hud.toBelow (fun _ e => e.elim) (Nat.le_refl _)
    have hd1 : w2.drew.cell? ⟨B, k, none⟩ = some (.slice (some ⟨b, 0, none⟩) l.length l.length) := hc1
    have hd2 : w2.drew.cell? ⟨B + 1, k, none⟩ = some (.int .i64 s) := hc2
    have hId : IntsS w2.drew w2.drew.heap.size (some ⟨b, 0, none⟩) l.length l := hI
    have hzd := kd.size
    refine region_T (S := (fun w' => w'.cell? ⟨B, k, none⟩ = some (.slice (some ⟨b, 0, none⟩) l.length l.length) ∧ w'.cell? ⟨B + 1, k, none⟩ = some (.int .i64 s))) 13 (by kernel_rfl) ?_
    obtain ⟨wd, hwd⟩ : ∃ wd, w2.drew = wd := ⟨_, rfl⟩
    rw [hwd] at kd hd1 hd2 hId hzd hud ⊢
    clear hwd
    have hSd : (fun w' => w'.cell? ⟨B, k, none⟩ = some (.slice (some ⟨b, 0, none⟩) l.length l.length) ∧ w'.cell? ⟨B + 1, k, none⟩ = some (.int .i64 s)) wd := ⟨hd1, hd2⟩
    refine anyT_take (i := 0) (oi := ?oi0a) (v := .slice (some ⟨B + 1, 0, none⟩) 8 8) ?hi0a (by kernel_rfl) ?hq0a ?hy0a (by assumption) ?rest0a
    case hi0a => (simp only [List.getElem?_toArray, List.getElem?_cons_zero]; first | done | rfl)
    case hq0a => first | exact fun _ _ _ h => h | exact fun _ _ _ h => (by cases h.1)
    case hy0a => (refine Or.inl ⟨by rfl, ?_⟩; intro wz hSw; go_simp; first | done | with_reducible rfl | simp | omega)
    try simp only [Act.put, List.setIfInBounds_toArray, List.set_cons_zero, List.set_cons_succ]
    refine anyT_take (i := 1) (oi := ?oi1a) (v := .int .i64 (k : Int)) ?hi1a (by kernel_rfl) ?hq1a ?hy1a (by assumption) ?rest1a
    case hi1a => (simp only [List.getElem?_toArray, List.getElem?_cons_succ, List.getElem?_cons_zero]; first | done | rfl)
    case hq1a => first | exact fun _ _ _ h => h | exact fun _ _ _ h => (by cases h.1)
    case hy1a => (refine Or.inl ⟨by rfl, ?_⟩; intro wz hSw; go_simp; first | done | with_reducible rfl | simp | omega)
    try simp only [Act.put, List.setIfInBounds_toArray, List.set_cons_zero, List.set_cons_succ]
    refine anyT_take (i := 2) (oi := ?oi2a) (v := .pointer (some ⟨B + 1, k, none⟩)) ?hi2a (by kernel_rfl) ?hq2a ?hy2a (by assumption) ?rest2a
    case hi2a => (simp only [List.getElem?_toArray, List.getElem?_cons_succ, List.getElem?_cons_zero]; first | done | rfl)
    case hq2a => first | exact fun _ _ _ h => h | exact fun _ _ _ h => (by cases h.1)
    case hy2a => (refine Or.inl ⟨by rfl, ?_⟩; intro wz hSw; go_simp; first | done | with_reducible rfl | simp | omega)
    try simp only [Act.put, List.setIfInBounds_toArray, List.set_cons_zero, List.set_cons_succ]
    refine anyT_take (i := 3) (oi := ?oi3a) (v := .int .i64 s) ?hi3a (by kernel_rfl) ?hq3a ?hy3a (by assumption) ?rest3a
    case hi3a => (simp only [List.getElem?_toArray, List.getElem?_cons_succ, List.getElem?_cons_zero]; first | done | rfl)
    case hq3a => first | exact fun _ _ _ h => h | exact fun _ _ _ h => (by cases h.1)
    case hy3a => (refine Or.inl ⟨by rfl, ?_⟩; intro wz hSw; obtain ⟨s1, s2⟩ := hSw; go_simp; first | done | with_reducible rfl | simp | omega)
    try simp only [Act.put, List.setIfInBounds_toArray, List.set_cons_zero, List.set_cons_succ]
    refine anyT_take (i := 4) (oi := ?oi4a) (v := .slice (some ⟨B, 0, none⟩) 8 8) ?hi4a (by kernel_rfl) ?hq4a ?hy4a (by assumption) ?rest4a
    case hi4a => (simp only [List.getElem?_toArray, List.getElem?_cons_succ, List.getElem?_cons_zero]; first | done | rfl)
    case hq4a => first | exact fun _ _ _ h => h | exact fun _ _ _ h => (by cases h.1)
    case hy4a => (refine Or.inl ⟨by rfl, ?_⟩; intro wz hSw; go_simp; first | done | with_reducible rfl | simp | omega)
    try simp only [Act.put, List.setIfInBounds_toArray, List.set_cons_zero, List.set_cons_succ]
    refine anyT_take (i := 5) (oi := ?oi5a) (v := .int .i64 (k : Int)) ?hi5a (by kernel_rfl) ?hq5a ?hy5a (by assumption) ?rest5a
    case hi5a => (simp only [List.getElem?_toArray, List.getElem?_cons_succ, List.getElem?_cons_zero]; first | done | rfl)
    case hq5a => first | exact fun _ _ _ h => h | exact fun _ _ _ h => (by cases h.1)
    case hy5a => (refine Or.inl ⟨by rfl, ?_⟩; intro wz hSw; go_simp; first | done | with_reducible rfl | simp | omega)
    try simp only [Act.put, List.setIfInBounds_toArray, List.set_cons_zero, List.set_cons_succ]
    refine anyT_take (i := 6) (oi := ?oi6a) (v := .pointer (some ⟨B, k, none⟩)) ?hi6a (by kernel_rfl) ?hq6a ?hy6a (by assumption) ?rest6a
    case hi6a => (simp only [List.getElem?_toArray, List.getElem?_cons_succ, List.getElem?_cons_zero]; first | done | rfl)
    case hq6a => first | exact fun _ _ _ h => h | exact fun _ _ _ h => (by cases h.1)
    case hy6a => (refine Or.inl ⟨by rfl, ?_⟩; intro wz hSw; go_simp; first | done | with_reducible rfl | simp | omega)
    try simp only [Act.put, List.setIfInBounds_toArray, List.set_cons_zero, List.set_cons_succ]
    refine anyT_take (i := 7) (oi := ?oi7a) (v := .slice (some ⟨b, 0, none⟩) l.length l.length) ?hi7a (by kernel_rfl) ?hq7a ?hy7a (by assumption) ?rest7a
    case hi7a => (simp only [List.getElem?_toArray, List.getElem?_cons_succ, List.getElem?_cons_zero]; first | done | rfl)
    case hq7a => first | exact fun _ _ _ h => h | exact fun _ _ _ h => (by cases h.1)
    case hy7a => (refine Or.inl ⟨by rfl, ?_⟩; intro wz hSw; obtain ⟨s1, s2⟩ := hSw; go_simp; first | done | with_reducible rfl | simp | omega)
    try simp only [Act.put, List.setIfInBounds_toArray, List.set_cons_zero, List.set_cons_succ]
    refine anyT_one (i := 8) (by kernel_rfl) rfl (fun K' hK => ?_)
    go_simp
    refine (specOrderOf_any s (some ⟨b, 0, none⟩) l.length l.length l wd hId (by omega) hlr).mono ?_
    rintro e w3 ⟨A3, m3, c3, rfl, r3, hB3⟩
    have hS3 : (fun w' => w'.cell? ⟨B, k, none⟩ = some (.slice (some ⟨b, 0, none⟩) l.length l.length) ∧ w'.cell? ⟨B + 1, k, none⟩ = some (.int .i64 s)) w3 := ⟨(hB3.cell (by show B < wd.heap.size; omega)).trans hd1, (hB3.cell (by show B + 1 < wd.heap.size; omega)).trans hd2⟩
    refine hK.out _ _ (fun _ => hS3) ?_
    clear hK K'
    try simp only [Act.put, List.setIfInBounds_toArray, List.set_cons_zero, List.set_cons_succ]
    refine anyT_one (i := 9) (by kernel_rfl) rfl (fun K' hK => ?_)
    go_simp
    refine hK.out _ _ (fun _ => hS3) ?_
    clear hK K'
    try simp only [Act.put, List.setIfInBounds_toArray, List.set_cons_zero, List.set_cons_succ]
    refine anyT_take (i := 10) (oi := ?oi10b) (v := .slice A3 m3 c3) ?hi10b (by kernel_rfl) ?hq10b ?hy10b (by assumption) ?rest10b
    case hi10b => (simp only [List.getElem?_toArray, List.getElem?_cons_succ, List.getElem?_cons_zero]; first | done | rfl)
    case hq10b => first | exact fun _ _ _ h => h | exact fun _ _ _ h => (by cases h.1)
    case hy10b => (refine Or.inl ⟨by rfl, ?_⟩; intro wz hSw; go_simp; first | done | with_reducible rfl | simp | omega)
    try simp only [Act.put, List.setIfInBounds_toArray, List.set_cons_zero, List.set_cons_succ]
    refine anyT_take (i := 11) (oi := ?oi11b) (v := .bool (ordOk s l)) ?hi11b (by kernel_rfl) ?hq11b ?hy11b (by assumption) ?rest11b
    case hi11b => (simp only [List.getElem?_toArray, List.getElem?_cons_succ, List.getElem?_cons_zero]; first | done | rfl)
    case hq11b => first | exact fun _ _ _ h => h | exact fun _ _ _ h => (by cases h.1)
    case hy11b => (refine Or.inl ⟨by rfl, ?_⟩; intro wz hSw; go_simp; first | done | with_reducible rfl | simp | omega)
    try simp only [Act.put, List.setIfInBounds_toArray, List.set_cons_zero, List.set_cons_succ]
    refine anyT_one (i := 12) (by kernel_rfl) rfl (fun K' hK => ?_)
    go_simp
    refine hK.out _ _ (fun _ => hS3) ?_
    clear hK K'
    try simp only [Act.put, List.setIfInBounds_toArray, List.set_cons_zero, List.set_cons_succ]
    refine anyT_one (i := 13) (by kernel_rfl) rfl (fun K' hK => ?_)
    go_simp
    refine hK.out _ _ (fun h => absurd rfl h) ?_
    clear hK K'
    try simp only [Act.put, List.setIfInBounds_toArray, List.set_cons_zero, List.set_cons_succ]
    refine anyT_done (by kernel_rfl) ?_ _
    have hm3 : m3 ≤ 6 := by rw [← r3.len]; exact ordL_le6 s l
    have hU3 := (hU12.trans' hud (fun j hj e => e.elim)).trans' (Below.toUpd hB3) (fun j hj e => by omega)
    have hR3 := (hR2.upd hud (fun _ e => e.elim)).upd (Below.toUpd hB3) (fun j hj => by omega)
    go_wp2
    go_ret
    exact ⟨A3, m3, c3, _, 1 + 1, rfl, by omega, r3.more (by omega) (Nat.le_refl _), by omega, by rw [← Nat.add_assoc]; exact hR3, hU3⟩
end Go.Proofs.YtmlihbcffndnbaaDoor

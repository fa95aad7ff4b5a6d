/- SignOf, UndoSums: the program's. -/
import Derived.Test.YtopfeebibphdgaaSgI
namespace Go.Proofs.Ytopfeebibphdgaa
open Go.RowKit Go.Shelf
attribute [local go_sem] Oper.semAt_some
attribute [local go_sem, local simp] wide_fn

theorem pair_set {W : World} {g : Nat} {t : TypeId} {x y p q : Value} (h : W.heap[g]? = some (.cells #[x, y] t (0, 0))) : ((W.setCell ⟨g, 0, none⟩ p).setCell ⟨g, 1, none⟩ q).heap[g]? = some (.cells #[p, q] t (0, 0)) := by
  simp [World.setCell, Array.getElem?_modify, h]
theorem pair_upd {W : World} {g : Nat} {p q : Value} : Upd (fun k => k = g) W ((W.setCell ⟨g, 0, none⟩ p).setCell ⟨g, 1, none⟩ q) :=
  ((Upd.refl (fun k => k = g) W).setCell (p := ⟨g, 0, none⟩) (.inr rfl) _).setCell (p := ⟨g, 1, none⟩) (.inr rfl) _
theorem pair_cells {W : World} {g : Nat} {t : TypeId} {x y : Value} (h : W.heap[g]? = some (.cells #[x, y] t (0, 0))) : W.cell? ⟨g, 0, none⟩ = some x ∧ W.cell? ⟨g, 1, none⟩ = some y ∧ W.frozen? ⟨g, 0, none⟩ = false ∧ W.frozen? ⟨g, 1, none⟩ = false := by
  refine ⟨by rw [cell_of_row _ _ _ _ _ _ h]; rfl, by rw [cell_of_row _ _ _ _ _ _ h]; rfl, by simp [World.frozen?, h], by simp [World.frozen?, h]⟩
theorem results_tct {P : Program} {fn : Func} {o p q : Tmp} {ty : TypeId} (h : fn.results = #[.tmp o, .cell p ty, .tmp q]) (tmps : Array Value) (w : World) (g : Nat) (t : TypeId) (cs : Array Value) (fr : Nat × Nat) (d : TypeDesc) (u v : Value)
    (ho : tmps.getD o undef = u) (hp : tmps.getD p undef = .pointer (some ⟨g, 0, none⟩)) (hq : tmps.getD q undef = v) (hg : w.heap[g]? = some (.cells cs t fr))
    (hu : P.underlying ty = some d) (hd : (match d with | .struct _ | .array _ _ => true | _ => false) = true) (hi : (P.info? ty).map (·.size) = some cs.size) :
    (results fn tmps).run P w = .ok (.tuple #[u, .agg cs, v]) w := by
  have ho' : tmps[o]?.getD undef = u := by simpa using ho
  have hp' : tmps[p]?.getD undef = .pointer (some ⟨g, 0, none⟩) := by simpa using hp
  have hq' : tmps[q]?.getD undef = v := by simpa using hq
  simp [results, h, ho', hp', hq', asAddr, run_loadVar_row w g t ty cs fr d hg hu hd hi]

set_option maxRecDepth 100000 in
set_option maxHeartbeats 1000000 in
theorem osigns_any (b n : Nat) (zs : List Int) (w : World) (hA : Arr w b 57 zs) :
    Calls Try.prog 46 #[.slice (some ⟨b, 0, none⟩) n n] w fun e w' => ∃ m, e = .returned (signV b m n) ∧ w'.heap[m]? = some (.map #[] 0) ∧ w.heap.size < m ∧ Below w.heap.size w w' := by
  have hmm := @run_makeMap Try.prog
  have hh1 : (w.alloc (.cells #[.slice none 0 0, .map none] 49)).heap[w.heap.size]? = some (.cells #[.slice none 0 0, .map none] 49 (0, 0)) := heap_alloc_new w _
  have hs1 : (w.alloc (.cells #[.slice none 0 0, .map none] 49)).heap.size = w.heap.size + 1 := by simp
  have hC1 : Below w.heap.size w (w.alloc (.cells #[.slice none 0 0, .map none] 49)) := (Below.refl w.heap.size w).alloc (Nat.le_refl _) _
  have hh3 : ((w.alloc (.cells #[.slice none 0 0, .map none] 49)).alloc (.map #[] 0)).heap[w.heap.size]? = some (.cells #[.slice none 0 0, .map none] 49 (0, 0)) := (Below.heap_alloc (w.alloc (.cells #[.slice none 0 0, .map none] 49)) (.map #[] 0) w.heap.size (by rw [hs1]; omega)).trans hh1
  have hm3 : ((w.alloc (.cells #[.slice none 0 0, .map none] 49)).alloc (.map #[] 0)).heap[w.heap.size + 1]? = some (.map #[] 0) := by have := heap_alloc_new (w.alloc (.cells #[.slice none 0 0, .map none] 49)) (.map #[] 0); rwa [hs1] at this
  have hs3 : ((w.alloc (.cells #[.slice none 0 0, .map none] 49)).alloc (.map #[] 0)).heap.size = w.heap.size + 2 := by simp
  have hC3 : Below w.heap.size w ((w.alloc (.cells #[.slice none 0 0, .map none] 49)).alloc (.map #[] 0)) := hC1.alloc (by omega) _
  obtain ⟨qc0, qc1, qf0, qf1⟩ := pair_cells hh3
  clear hh1 hs1 hC1
  go_enter Try.func46, Try.ntmps46
  go_wp2
  clear qc0 qc1 qf0 qf1 hC3 hs3 hm3 hh3
  have kh1 : (w.alloc (.cells #[Value.slice (some ⟨b, 0, none⟩) n n, .map (some (w.heap.size + 1))] 49)).heap[w.heap.size]? = some (.cells #[Value.slice (some ⟨b, 0, none⟩) n n, .map (some (w.heap.size + 1))] 49 (0, 0)) := heap_alloc_new w _
  have ks1 : (w.alloc (.cells #[Value.slice (some ⟨b, 0, none⟩) n n, .map (some (w.heap.size + 1))] 49)).heap.size = w.heap.size + 1 := by simp
  have kC1 : Below w.heap.size w (w.alloc (.cells #[Value.slice (some ⟨b, 0, none⟩) n n, .map (some (w.heap.size + 1))] 49)) := (Below.refl w.heap.size w).alloc (Nat.le_refl _) _
  have kh : ((w.alloc (.cells #[Value.slice (some ⟨b, 0, none⟩) n n, .map (some (w.heap.size + 1))] 49)).alloc (.map #[] 0)).heap[w.heap.size]? = some (.cells #[Value.slice (some ⟨b, 0, none⟩) n n, .map (some (w.heap.size + 1))] 49 (0, 0)) := (Below.heap_alloc (w.alloc (.cells #[Value.slice (some ⟨b, 0, none⟩) n n, .map (some (w.heap.size + 1))] 49)) (.map #[] 0) w.heap.size (by rw [ks1]; omega)).trans kh1
  have km : ((w.alloc (.cells #[Value.slice (some ⟨b, 0, none⟩) n n, .map (some (w.heap.size + 1))] 49)).alloc (.map #[] 0)).heap[w.heap.size + 1]? = some (.map #[] 0) := by have := heap_alloc_new (w.alloc (.cells #[Value.slice (some ⟨b, 0, none⟩) n n, .map (some (w.heap.size + 1))] 49)) (.map #[] 0); rwa [ks1] at this
  refine bodyPost_ret (v := signV b (w.heap.size + 1) n) (results_cell_row rfl _ _ w.heap.size _ _ (0, 0) _ rfl kh Try.underlying49 rfl (by kernel_rfl)) rfl ?_
  exact ⟨w.heap.size + 1, rfl, km, by omega, kC1.alloc (by omega) _⟩

/-- Whether two numbers are items of the order. -/
def endsB (zs : List Int) (a b : Int) : Bool := vo zs && (isIt zs a && isIt zs b)
/-- What 'readEnds' hands back. -/
def ReadsE (zs : List Int) (a b : Int) (n : Nat) (w : World) (e : Ending) (w' : World) : Prop :=
  Below w.heap.size w w' ∧ ((endsB zs a b = true ∧ ∃ q, e = .returned (.tuple #[.slice (some ⟨q, 0, none⟩) n n, .agg #[.int .i64 a, .int .i64 b], .bool true]) ∧ w.heap.size ≤ q ∧ Arr w' q 57 zs) ∨
    (endsB zs a b = false ∧ e = .returned (.tuple #[.slice none 0 0, .agg #[.int .i64 0, .int .i64 0], .bool false])))

set_option maxRecDepth 100000 in
set_option maxHeartbeats 4000000 in
theorem readEnds_any (A : Option Addr) (n c : Nat) (zs : List Int) (a b : Int) (w : World) (h : Ints w w.heap.size A n zs) (hbig : n ≤ 1152921504606846976) :
    Calls Try.prog 45 #[.slice A n c, .int .i64 a, .int .i64 b] w (ReadsE zs a b n w) := by
  have hlen := Lib.hid h.len
  have hi := fun k w => isItemOf_any (n : Int) k w
  have hb0 : (w.alloc (.cells #[Value.int .i64 0, .int .i64 0] 44)).heap[w.heap.size]? = some (.cells #[Value.int .i64 0, .int .i64 0] 44 (0, 0)) := heap_alloc_new w _
  have hB0 : Below w.heap.size w (w.alloc (.cells #[Value.int .i64 0, .int .i64 0] 44)) := (Below.refl _ _).alloc (Nat.le_refl _) _
  have hz0 : (w.alloc (.cells #[Value.int .i64 0, .int .i64 0] 44)).heap.size = w.heap.size + 1 := by simp
  go_enter Try.func45, Try.ntmps45
  go_wp2_with fail
  obtain ⟨w1, hw1⟩ : ∃ w1, w.alloc (.cells #[Value.int .i64 0, .int .i64 0] 44) = w1 := ⟨_, rfl⟩
  rw [hw1] at hb0 hB0 hz0 ⊢
  clear hw1
  refine (readOrder_any A n c zs w1 (h.to hB0 (Nat.le_refl _) hB0.size) hbig).mono ?_
  rintro e w2 ⟨hB2, hread⟩
  have z2 := hB2.size
  have hb2 := (hB2.block w.heap.size (by omega)).trans hb0
  have C2 := hB0.trans (hB2.mono hB0.size)
  obtain ⟨qc0, qc1, qf0, qf1⟩ := pair_cells hb2
  have bad : endsB zs a b = false → ReadsE zs a b n w (.returned (.tuple #[.slice none 0 0, .agg #[.int .i64 0, .int .i64 0], .bool false])) ((w2.setCell ⟨w.heap.size, 0, none⟩ (.int .i64 0)).setCell ⟨w.heap.size, 1, none⟩ (.int .i64 0)) := fun hf =>
    ⟨C2.trans (pair_upd.toBelow (fun k e => by omega) (by omega)), .inr ⟨hf, rfl⟩⟩
  clear hb0 hB0
  rcases hread with ⟨hv, q, rfl, hq, hAr⟩ | ⟨hv, rfl⟩
  · have Hv := Lib.hid hv
    clear hv
    cases ha : inB a 0 ((n : Int) - 1)
    · have Ht := Lib.hid (show endsB zs a b = false by unfold endsB isIt; rw [hlen.out, ha, Hv.out]; rfl)
      have hia := fun w => hi a w
      rw [ha] at hia
      clear ha
      go_wp2_with (go_at_call 79; refine (hia _).mono ?_; rintro e w' ⟨rfl, rfl⟩)
      refine bodyPost_ret (results_tct rfl _ _ w.heap.size _ _ (0, 0) _ _ _ rfl rfl rfl (pair_set hb2) Try.underlying44 rfl (by kernel_rfl)) rfl ?_
      exact bad Ht.out
    · cases hb : inB b 0 ((n : Int) - 1)
      · have Ht := Lib.hid (show endsB zs a b = false by unfold endsB isIt; rw [hlen.out, ha, hb, Hv.out]; rfl)
        have hia := fun w => hi a w
        have hib := fun w => hi b w
        rw [ha] at hia
        rw [hb] at hib
        clear ha hb
        go_wp2_with fail
        refine (hia _).mono ?_
        rintro e w' ⟨rfl, rfl⟩
        go_wp2_with fail
        refine (hib _).mono ?_
        rintro e w' ⟨rfl, rfl⟩
        go_wp2_with fail
        refine bodyPost_ret (results_tct rfl _ _ w.heap.size _ _ (0, 0) _ _ _ rfl rfl rfl (pair_set hb2) Try.underlying44 rfl (by kernel_rfl)) rfl ?_
        exact bad Ht.out
      · have Ht := Lib.hid (show endsB zs a b = true by unfold endsB isIt; rw [hlen.out, ha, hb, Hv.out]; rfl)
        have hia := fun w => hi a w
        have hib := fun w => hi b w
        rw [ha] at hia
        rw [hb] at hib
        clear ha hb
        go_wp2_with fail
        refine (hia _).mono ?_
        rintro e w' ⟨rfl, rfl⟩
        go_wp2_with fail
        refine (hib _).mono ?_
        rintro e w' ⟨rfl, rfl⟩
        go_wp2_with fail
        refine bodyPost_ret (results_tct rfl _ _ w.heap.size _ _ (0, 0) _ _ _ rfl rfl rfl (pair_set hb2) Try.underlying44 rfl (by kernel_rfl)) rfl ?_
        exact ⟨C2.trans (pair_upd.toBelow (fun k e => by omega) (by omega)), .inl ⟨Ht.out, q, rfl, by omega, hAr.upd pair_upd (fun e => by omega)⟩⟩
  · have Ht := Lib.hid (show endsB zs a b = false by unfold endsB; rw [hv]; rfl)
    clear hv
    go_wp2_with fail
    refine bodyPost_ret (results_tct rfl _ _ w.heap.size _ _ (0, 0) _ _ _ rfl rfl rfl (pair_set hb2) Try.underlying44 rfl (by kernel_rfl)) rfl ?_
    exact bad Ht.out
end Go.Proofs.Ytopfeebibphdgaa

/- LinesOf: the model's; where the program's rows lie. -/
import Derived.Test.YtghogabmkbadjaaAllS
set_option linter.unusedVariables false
set_option linter.unusedSimpArgs false
namespace Go.Proofs.Ytghogabmkbadjaa
open Go.RowKit Go.Shelf

/-- Rows of lines, in blocks from lo up to less than hi. -/
def LnT (w : World) (lo hi : Nat) (A : Option Addr) (n c : Nat) (rs : List (List Int)) : Prop := ∃ L : List Ln, L.length = n ∧ L.map Prod.fst = rs ∧ LnRows (fun k => lo ≤ k ∧ k < hi) w (.slice A n c) L
section
variable {w w' : World} {lo hi n c : Nat} {A : Option Addr} {rs : List (List Int)} {R : Nat → Prop}
theorem LnT.len (h : LnT w lo hi A n c rs) : rs.length = n := by
  obtain ⟨L, h1, h2, _⟩ := h
  rw [← h2, List.length_map, h1]
theorem LnT.upd (h : LnT w lo hi A n c rs) (hu : Upd R w w') (hr : ∀ j, R j → j < lo ∨ hi ≤ j) : LnT w' lo hi A n c rs := by
  obtain ⟨L, h1, h2, h3⟩ := h
  exact ⟨L, h1, h2, h3.keep hu (fun k hk e => by have := hr k e; omega)⟩
theorem LnT.below {B : Nat} (h : LnT w lo hi A n c rs) (hu : Below B w w') (hB : hi ≤ B) : LnT w' lo hi A n c rs := h.upd (Below.toUpd hu) (fun j hj => by omega)
theorem LnRows.intsB {S : Nat → Prop} {v : Value} {L : List Ln} {B : Nat} (h : LnRows S w v L) (hS : ∀ k, S k → k < B) (hv : v = .slice A L.length c) : IntsS w B A L.length (L.map Prod.fst) := by
  refine ⟨by simp, fun hn => ?_⟩
  obtain ⟨x0, hx0⟩ : ∃ x, L[0]? = some x := ⟨L[0], List.getElem?_eq_getElem hn⟩
  obtain ⟨g, c', e, hg, _⟩ := h.at_ hx0
  have hgS := h.inS.1 g (by rw [e]; rfl)
  rw [hv] at e
  cases e
  refine ⟨g, 0, rfl, hS g hgS, fun j hj => ?_⟩
  have hx : L[j]? = some L[j] := List.getElem?_eq_getElem hj
  obtain ⟨g', c2, e2, _, hcell⟩ := h.at_ hx
  rw [hv] at e2
  cases e2
  have hm := List.getElem_mem hj
  obtain ⟨A', c', e', hI⟩ := lnHas_slice (h.has _ hm)
  rw [Nat.zero_add, hcell, List.getElem?_map, hx]
  refine ⟨A', c', by rw [e']; rfl, hI.1, fun hn' => ?_⟩
  obtain ⟨b, off, e5, _, hc5⟩ := hI.2 hn'
  refine ⟨b, off, e5, hS b (h.inS.2 _ hm b (by unfold lnOwn; rw [e', e5]; rfl)), hc5⟩
theorem LnT.ints (h : LnT w lo hi A n c rs) {B : Nat} (hB : hi ≤ B) : IntsS w B A n rs := by
  obtain ⟨L, h1, h2, h3⟩ := h
  subst h1
  rw [← h2]
  exact h3.intsB (fun k hk => by omega) rfl
end
theorem LnRows.below2 {S : Nat → Prop} {v : Value} {L : List Ln} {w w' : World} (h : LnRows S w v L) (hu : Below w.heap.size w w') : LnRows S w' v L := h.later (Below.toUpd hu) (fun k e => e)
theorem markLnT (A : Option Addr) (n c lo hi : Nat) (rs : List (List Int)) (k : Int) (w : World) (h : LnT w lo hi A n c rs) (hbig : n ≤ 1048576) (ht : tot rs ≤ 1048576) (hk0 : 0 ≤ k) (hk1 : k ≤ 1048576) :
    Calls Try.prog 29 #[.slice A n c, .int .i64 k] w fun e w' => e = .returned (.int .i64 (k + tot rs)) ∧ LnT w' lo hi A n c (countedR k rs) ∧ Upd (fun j => lo ≤ j ∧ j < hi) w w' := by
  obtain ⟨L, h1, h2, h3⟩ := h
  refine (markLnR _ L _ k w h3 (by omega) (by rw [h2]; exact ht) hk0 hk1).mono ?_
  rintro e w' ⟨rfl, ⟨L', h4, h5, h6⟩, hU⟩
  exact ⟨by rw [h2], ⟨L', by omega, by rw [h5, h2], h4⟩, hU⟩

theorem linesOfR_bd (zs : List Int) : (linesOfR zs).length ≤ 1048576 ∧ (∀ r ∈ linesOfR zs, r.length ≤ 1048576) ∧ tot (linesOfR zs) ≤ 1048576 := by
  unfold linesOfR
  split
  · rename_i h
    rw [Bool.and_eq_true, decide_eq_true_eq] at h
    have h6 : zs.length ≤ 6 := by omega
    refine ⟨by have := alL_count h6; omega, fun r hr => by have := alL_rows r hr; omega, alL_tot h6⟩
  · simp [tot]

end Go.Proofs.Ytghogabmkbadjaa

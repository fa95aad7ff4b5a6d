/- LinesOf: the model's; where the program's rows lie. -/
import Derived.Test.YtipdmaggfbfnlaaAllS
set_option linter.unusedVariables false
set_option linter.unusedSimpArgs false
namespace Go.Proofs.Ytipdmaggfbfnlaa
open Go.RowKit Go.Shelf

/-- Rows of lines, in blocks from lo up to less than hi. -/
def LnT (w : World) (lo hi : Nat) (A : Option Addr) (n c : Nat) (rs : List (List Int)) : Prop := ∃ L : List Ln, L.length = n ∧ L.map Prod.fst = rs ∧ LnRows (fun k => lo ≤ k ∧ k < hi) w (.slice A n c) L
section
variable {w w' : World} {lo hi n c : Nat} {A : Option Addr} {rs : List (List Int)} {R : Nat → Prop}
theorem LnT.len (h : LnT w lo hi A n c rs) : rs.length = n := by
  obtain ⟨L, h1, h2, _⟩ := h
  rw [← h2, List.length_map, h1]
theorem LnT.upd (h : LnT w lo hi A n c rs) (hu : Upd R w w') (hr : ∀ j, R j → j < lo ∨ hi ≤ j) : LnT w' lo hi A n c rs := by
  obtain ⟨L, h1, h2, h3⟩ := h
  exact ⟨L, h1, h2, h3.keep hu (fun k hk e => by have := hr k e; omega)⟩
theorem LnT.below {B : Nat} (h : LnT w lo hi A n c rs) (hu : Below B w w') (hB : hi ≤ B) : LnT w' lo hi A n c rs := h.upd (Below.toUpd hu) (fun j hj => by omega)
theorem LnRows.intsB {S : Nat → Prop} {v : Value} {L : List Ln} {B : Nat} (h : LnRows S w v L) (hS : ∀ k, S k → k < B) (hv : v = .slice A L.length c) : IntsS w B A L.length (L.map Prod.fst) := by
  refine ⟨by simp, fun hn => ?_⟩
  obtain ⟨x0, hx0⟩ : ∃ x, L[0]? = some x := ⟨L[0], List.getElem?_eq_getElem hn⟩
  obtain ⟨g, c', e, hg, _⟩ := h.at_ hx0
  have hgS := h.inS.1 g (by rw [e]; rfl)
  rw [hv] at e
  cases e
  refine ⟨g, 0, rfl, hS g hgS, fun j hj => ?_⟩
  have hx : L[j]? = some L[j] := List.getElem?_eq_getElem hj
  obtain ⟨g', c2, e2, _, hcell⟩ := h.at_ hx
  rw [hv] at e2
  cases e2
  have hm := List.getElem_mem hj
  obtain ⟨A', c', e', hI⟩ := lnHas_slice (h.has _ hm)
  rw [Nat.zero_add, hcell, List.getElem?_map, hx]
  refine ⟨A', c', by rw [e']; rfl, hI.1, fun hn' => ?_⟩
  obtain ⟨b, off, e5, _, hc5⟩ := hI.2 hn'
  refine ⟨b, off, e5, hS b (h.inS.2 _ hm b (by unfold lnOwn; rw [e', e5]; rfl)), hc5⟩
theorem LnT.ints (h : LnT w lo hi A n c rs) {B : Nat} (hB : hi ≤ B) : IntsS w B A n rs := by
  obtain ⟨L, h1, h2, h3⟩ := h
  subst h1
  rw [← h2]
  exact h3.intsB (fun k hk => by omega) rfl
end
theorem LnRows.below2 {S : Nat → Prop} {v : Value} {L : List Ln} {w w' : World} (h : LnRows S w v L) (hu : Below w.heap.size w w') : LnRows S w' v L := h.later (Below.toUpd hu) (fun k e => e)
theorem markLnT (A : Option Addr) (n c lo hi : Nat) (rs : List (List Int)) (k : Int) (w : World) (h : LnT w lo hi A n c rs) (hbig : n ≤ 1048576) (ht : tot rs ≤ 1048576) (hk0 : 0 ≤ k) (hk1 : k ≤ 1048576) :
    Calls Try.prog 27 #[.slice A n c, .int .i64 k] w fun e w' => e = .returned (.int .i64 (k + tot rs)) ∧ LnT w' lo hi A n c (countedR k rs) ∧ Upd (fun j => lo ≤ j ∧ j < hi) w w' := by
  obtain ⟨L, h1, h2, h3⟩ := h
  refine (markLnR _ L _ k w h3 (by omega) (by rw [h2]; exact ht) hk0 hk1).mono ?_
  rintro e w' ⟨rfl, ⟨L', h4, h5, h6⟩, hU⟩
  exact ⟨by rw [h2], ⟨L', by omega, by rw [h5, h2], h4⟩, hU⟩

theorem LinesOf_T (A : Option Addr) (n c : Nat) (zs : List Int) (w : World) (h : Ints w w.heap.size A n zs) (hbig : n ≤ 1152921504606846976) :
    Calls Try.prog 24 #[.slice A n c] w fun e w' => ∃ A' m c', e = .returned (.slice A' m c') ∧ LnT w' w.heap.size w'.heap.size A' m c' (linesOfR zs) ∧ Below w.heap.size w w' := by
  refine (LinesOf_any A n c zs w h hbig).mono ?_
  rintro e w' ⟨v, L, rfl, hL, hR, hB⟩
  obtain ⟨A', c', e⟩ := hR.slice
  subst e
  have hl := hR.lt
  exact ⟨A', L.length, c', rfl, ⟨L, rfl, hL, ⟨hR.own, hR.has, hR.apart, hR.pair, fun k e => ⟨hR.inS.1 k e, hl.1 k e⟩, fun x hx k e => ⟨hR.inS.2 x hx k e, hl.2 x hx k e⟩⟩⟩, hB⟩

theorem linesOfR_bd (zs : List Int) : (linesOfR zs).length ≤ 1048576 ∧ (∀ r ∈ linesOfR zs, r.length ≤ 1048576) ∧ tot (linesOfR zs) ≤ 1048576 := by
  unfold linesOfR
  split
  · rename_i h
    rw [Bool.and_eq_true, decide_eq_true_eq] at h
    have h6 : zs.length ≤ 6 := by omega
    refine ⟨by have := alL_count h6; omega, fun r hr => by have := alL_rows r hr; omega, alL_tot h6⟩
  · simp [tot]

set_option maxHeartbeats 1000000 in
theorem specLinesOfF_any (A : Option Addr) (n c : Nat) (zs : List Int) (w : World) (h : Ints w w.heap.size A n zs) (hbig : n ≤ 1152921504606846976) :
    Calls Try.prog 23 #[.slice A n c] w fun e w' => ∃ A2 c2, e = .returned (.slice A2 (linesOfR zs).length c2) ∧ IntsS w' w'.heap.size A2 (linesOfR zs).length (linesOfR zs) ∧ Below w.heap.size w w' := by
  have hlen := Lib.hid h.len
  cases hv : vo zs
  · have Ht := Lib.hid (show linesOfR zs = [] by unfold linesOfR; rw [hv]; rfl)
    go_enter Try.func23, Try.ntmps23
    go_wp2_with fail
    refine (validOrder_any _ _ _ _ zs _ h hbig).mono ?_
    rw [hv]
    rintro e w' ⟨rfl, m, rfl⟩
    go_wp2_with fail
    go_ret
    exact ⟨none, 0, by rw [Ht.out]; rfl, by rw [Ht.out]; exact ⟨rfl, fun h => absurd h (by simp)⟩, below_drewN (Below.refl _ _) m⟩
  · have hvo : VoP zs := by simpa [vo] using hv
    have Hv := Lib.hid hv
    clear hv
    have hn6 : n ≤ 6 := by have := hvo.1; rw [hlen.out] at this; exact this
    by_cases hn5 : n ≤ 5
    · have Ht := Lib.hid (show linesOfR zs = alL zs by unfold linesOfR; rw [Hv.out, hlen.out]; simp [hn5])
      have Hdu := Lib.hid (show downP n (pairsL zs) = du zs by unfold du; rw [hlen.out])
      go_enter Try.func23, Try.ntmps23
      go_wp2_with fail
      refine (validOrder_any _ _ _ _ zs _ h hbig).mono ?_
      rw [Hv.out]
      rintro e w' ⟨rfl, m, rfl⟩
      have i1 : Ints (w.drewN m) (w.drewN m).heap.size A n zs := h.drewN m
      have B1 : Below w.heap.size w (w.drewN m) := below_drewN (Below.refl _ _) m
      generalize w.drewN m = w1 at *
      have z1 := B1.size
      go_wp2_with fail
      refine (downOf_any A n c zs w1 i1 hvo.sets).mono ?_
      rintro e w2 ⟨rfl, hA2, hB2⟩
      rw [Hdu.out] at hA2
      have z2 := hB2.size
      have i2 := i1.to hB2 (Nat.le_refl _) z2
      have j2 := hA2.ints' (B := w2.heap.size) hA2.lt (by rw [du_len, hlen.out])
      have B2 := B1.trans (hB2.mono z1)
      clear hA2 hB2
      go_wp2_with fail
      have hown0 := own_new w2 3
      have hU0 : Upd (fun _ => False) w2 (w2.alloc (.cells #[] 3)) := (Upd.refl _ w2).alloc _
      have hB0 := hU0.toBelow (B := w2.heap.size) (fun _ e => e.elim) (Nat.le_refl _)
      have z3 := hB0.size
      refine (allLines_any zs hvo n hlen.out A _ c _ n [] 0 w2.heap.size 0 _ (by simp) (Int.le_refl _) (powI_pos _) (i2.to hB0 (Nat.le_refl _) z3) (j2.to hB0 (Nat.le_refl _) z3) (own_sooner hown0 (Nat.zero_le _))).mono ?_
      rintro e w4 ⟨v, g', c', rfl, ⟨L, rfl, hL, hR⟩, hB4⟩
      have Hal := Lib.hid (show alL zs = alG zs n [] 0 by unfold alL; rw [hlen.out])
      have HL := Lib.hid hL
      clear hL
      have hlt := hR.lt
      have HI := Lib.hid ((⟨hR.own, hR.has, hR.apart, hR.pair, hlt.1, hlt.2⟩ : LnRows (fun k => k < w4.heap.size) w4 _ L).intsB (fun k e => e) rfl)
      have Hll := Lib.hid (show L.length = (linesOfR zs).length by rw [Ht.out, Hal.out, ← HL.out, List.length_map])
      have HB := Lib.hid (B2.trans ((hB0.trans (hB4.mono z3)).mono (by omega)))
      clear hR hlt hB4
      go_wp2_with fail
      go_ret
      exact ⟨_, c', by rw [← Hll.out]; rfl, by rw [← Hll.out, Ht.out, Hal.out, ← HL.out]; exact HI.out, HB.out⟩
    · have Ht := Lib.hid (show linesOfR zs = [] by unfold linesOfR; rw [Hv.out, hlen.out]; simp [hn5])
      go_enter Try.func23, Try.ntmps23
      go_wp2_with fail
      refine (validOrder_any _ _ _ _ zs _ h hbig).mono ?_
      rw [Hv.out]
      rintro e w' ⟨rfl, m, rfl⟩
      go_wp2_with fail
      go_ret
      exact ⟨none, 0, by rw [Ht.out]; rfl, by rw [Ht.out]; exact ⟨rfl, fun h => absurd h (by simp)⟩, below_drewN (Below.refl _ _) m⟩
end Go.Proofs.Ytipdmaggfbfnlaa

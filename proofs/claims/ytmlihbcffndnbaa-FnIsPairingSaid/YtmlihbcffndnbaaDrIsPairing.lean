/- The arguments of IsPairing, drawn. -/
import Derived.Test.YtmlihbcffndnbaaAMap
import Derived.Test.YtmlihbcffndnbaaALat
import Derived.Test.YtmlihbcffndnbaaGxd
set_option linter.unusedVariables false
set_option linter.unusedSimpArgs false
namespace Go.Proofs.Ytmlihbcffndnbaa
open Go.RowKit Go.Shelf

/-- Four lists that are drawn read as numbers, few of them. -/
def Drawn4 (w : World) (e : Ending) (w' : World) : Prop := ∃ A n c zs A' m c' ys F cf fs G l cg gs, e = .returned (.tuple #[.slice A n c, .slice A' m c', .slice F n cf, .slice G l cg]) ∧ n ≤ 7 ∧ m ≤ 7 ∧ l ≤ 7 ∧ Ints w' w'.heap.size A n zs ∧ Ints w' w'.heap.size A' m ys ∧ Ints w' w'.heap.size F n fs ∧ Ints w' w'.heap.size G l gs ∧ Below w.heap.size w w'
theorem results_tmp4 {fn : Func} {P : Program} {t u v x : Tmp} (h : fn.results = #[.tmp t, .tmp u, .tmp v, .tmp x]) (tmps : Array Value) (w : World) :
    (results fn tmps).run P w = .ok (.tuple #[tmps.getD t undef, tmps.getD u undef, tmps.getD v undef, tmps.getD x undef]) w := by
  simp [results, h]
set_option maxRecDepth 100000 in
set_option maxHeartbeats 4000000 in
theorem drawIsPairing_any (A : Option Addr) (m c : Nat) (bs : List Int) (w : World) (h : Byts w w.heap.size A m bs) (hcap : m ≤ c) (hbig : m ≤ 1152921504606846976) :
    Calls Try.prog 31 #[.slice A m c] w (Drawn4 w) := by
  go_enter Try.func31, Try.ntmps31
  go_wp2_with fail
  refine (newReader_rd h hcap hbig).mono ?_
  rintro e w0 ⟨rfl, hR, hB, hz⟩
  obtain ⟨R, hRe⟩ : ∃ R, w.heap.size = R := ⟨_, rfl⟩
  rw [hRe] at hR hz hB ⊢
  have hRl := hR.lt
  go_wp2_with fail
  refine (aLattice_any R 0 w0 hR (by omega)).mono ?_
  rintro e w1 ⟨A1, n1, c1, zs, q1, rfl, hn1, r1, hq1, hR1, hU1⟩
  have z1 := hU1.size
  have hB1 := hB.trans (hU1.toBelow (fun k e => by omega) (by omega))
  clear hR hB hU1
  go_wp2_with fail
  refine (aLattice_any R _ w1 hR1 (by omega)).mono ?_
  rintro e w2 ⟨A2, n2, c2, ys, q2, rfl, hn2, r2, hq2, hR2, hU2⟩
  have z2 := hU2.size
  have r12 := (r1.upd hU2 (fun j e => by omega)).more (Nat.le_refl _) z2
  have hB2 := hB1.trans (hU2.toBelow (fun k e => by omega) (by omega))
  clear hR1 hB1 hU2 r1
  go_wp2_with fail
  refine (aMap_any R _ A1 n1 c1 _ zs A2 n2 c2 _ ys w2 hR2 (by omega) r12 r2 (by omega) (by omega) hn1 hn2).mono ?_
  rintro e w3 ⟨A3, c3, fs, q3, rfl, r3, hq3, hR3, hU3⟩
  have z3 := hU3.size
  have r13 := (r12.upd hU3 (fun j e => by omega)).more (Nat.le_refl _) z3
  have r23 := (r2.upd hU3 (fun j e => by omega)).more (Nat.le_refl _) z3
  have hB3 := hB2.trans (hU3.toBelow (fun k e => by omega) (by omega))
  clear hR2 hB2 hU3 r12 r2
  go_wp2_with fail
  refine (aMap_any R _ A2 n2 c2 _ ys A1 n1 c1 _ zs w3 hR3 (by omega) r23 r13 (by omega) (by omega) hn2 hn1).mono ?_
  rintro e w4 ⟨A4, c4, gs, q4, rfl, r4, hq4, hR4, hU4⟩
  have z4 := hU4.size
  have r14 := (r13.upd hU4 (fun j e => by omega)).more (Nat.le_refl _) z4
  have r24 := (r23.upd hU4 (fun j e => by omega)).more (Nat.le_refl _) z4
  have r34 := (r3.upd hU4 (fun j e => by omega)).more (Nat.le_refl _) z4
  have hB4 := hB3.trans (hU4.toBelow (fun k e => by omega) (by omega))
  clear hR3 hB3 hU4 r13 r23 r3
  go_wp2_with fail
  refine (pick_any R _ 3 w4 hR4 (by omega)).mono ?_
  rintro e w5 ⟨g, rfl, hpk, hR5, hU5⟩
  have hg0 := hpk.1 (by omega)
  have z5 := hU5.size
  have r15 := (r14.upd hU5 (fun j e => by omega)).more (Nat.le_refl _) z5
  have r25 := (r24.upd hU5 (fun j e => by omega)).more (Nat.le_refl _) z5
  have r35 := (r34.upd hU5 (fun j e => by omega)).more (Nat.le_refl _) z5
  have r45 := (r4.upd hU5 (fun j e => by omega)).more (Nat.le_refl _) z5
  have hB5 := hB4.trans (hU5.toBelow (fun k e => by omega) (by omega))
  clear hR4 hB4 hU5 r14 r24 r34 r4 hpk
  by_cases hg : 0 < g
  · clear hg0
    go_wp2_with fail
    refine (specPairOfF_any A1 n1 c1 zs A2 n2 c2 ys A3 n1 c3 fs w5 (r15.ints (Nat.le_refl _)) (r25.ints (Nat.le_refl _)) (r35.ints (Nat.le_refl _)) (by omega) (by omega) (by omega)).mono ?_
    rintro e w6 ⟨A6, n6, c6, rfl, r6, hB6⟩
    have z6 := hB6.size
    have i1 := (r15.ints (B := w5.heap.size) (Nat.le_refl _)).to hB6 (Nat.le_refl _) z6
    have i2 := (r25.ints (B := w5.heap.size) (Nat.le_refl _)).to hB6 (Nat.le_refl _) z6
    have i3 := (r35.ints (B := w5.heap.size) (Nat.le_refl _)).to hB6 (Nat.le_refl _) z6
    have i4 := (r45.ints (B := w5.heap.size) (Nat.le_refl _)).to hB6 (Nat.le_refl _) z6
    have i6 := r6.ints (B := w6.heap.size) (Nat.le_refl _)
    have hl6 : n6 ≤ 7 := by
      rw [← r6.len]
      unfold poR
      cases hpo : poB zs ys fs
      · simp
      · simp only [if_true]
        rw [gsTo_len, r25.len]
        exact hn2
    obtain ⟨ok, hok⟩ : ∃ ok, poB zs ys fs = ok := ⟨_, rfl⟩
    rw [hok]
    cases ok
    · go_wp2
      try simp only [Exit.inBlock, Exit.then]
      refine bodyPost_ret (results_tmp4 rfl _ _) rfl ?_
      exact ⟨A1, n1, c1, zs, A2, n2, c2, ys, A3, c3, fs, A4, n2, c4, gs, rfl, hn1, hn2, hn2, i1, i2, i3, i4, by rw [hRe]; exact hB5.trans (hB6.mono (by omega))⟩
    · go_wp2
      try simp only [Exit.inBlock, Exit.then]
      refine bodyPost_ret (results_tmp4 rfl _ _) rfl ?_
      exact ⟨A1, n1, c1, zs, A2, n2, c2, ys, A3, c3, fs, A6, n6, c6, _, rfl, hn1, hn2, hl6, i1, i2, i3, i6, by rw [hRe]; exact hB5.trans (hB6.mono (by omega))⟩
  · clear hg0
    go_wp2
    try simp only [Exit.inBlock, Exit.then]
    refine bodyPost_ret (results_tmp4 rfl _ _) rfl ?_
    exact ⟨A1, n1, c1, zs, A2, n2, c2, ys, A3, c3, fs, A4, n2, c4, gs, rfl, hn1, hn2, hn2, r15.ints (Nat.le_refl _), r25.ints (Nat.le_refl _), r35.ints (Nat.le_refl _), r45.ints (Nat.le_refl _), by rw [hRe]; exact hB5⟩
end Go.Proofs.Ytmlihbcffndnbaa

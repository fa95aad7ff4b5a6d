/- MapOrder: the model's, whole. -/
import Derived.Test.YtghogabmkbadjaaRnU
import Derived.Test.YtghogabmkbadjaaLoT
set_option linter.unusedVariables false
set_option linter.unusedSimpArgs false
namespace Go.Proofs.Ytghogabmkbadjaa
open Go.RowKit Go.Shelf

theorem find_hit {p : List Int → Bool} : ∀ {l : List (List Int)} {k : Nat}, k < l.length → (∀ j, j < k → p (l[j]?.getD []) = false) → p (l[k]?.getD []) = true → l.find? p = some (l[k]?.getD [])
  | [], k, hk, _, _ => by simp at hk
  | x :: l, 0, _, _, h => by
    have h' : p x = true := by simpa using h
    rw [List.find?_cons, h']; rfl
  | x :: l, k + 1, hk, hno, h => by
    have h0 : p x = false := by simpa using hno 0 (by omega)
    rw [List.find?_cons, h0]
    simp only [List.getElem?_cons_succ] at h ⊢
    exact find_hit (by simpa using hk) (fun j hj => by simpa using hno (j + 1) (by omega)) h
theorem find_no {p : List Int → Bool} {l : List (List Int)} (h : ∀ j, j < l.length → p (l[j]?.getD []) = false) : l.find? p = none := by
  rw [List.find?_eq_none]
  intro x hx
  obtain ⟨j, hj, rfl⟩ := List.mem_iff_getElem.1 hx
  have := h j hj
  rw [List.getElem?_eq_getElem hj, Option.getD_some] at this
  rw [this]; simp
theorem own_from {w : World} {lo n : Nat} {e : TypeId} {v : Value} {xs : List Value} (h : w.ownsRow 0 e 1 v n xs) (hlo : ∀ k, v.ownBlock = some k → lo ≤ k) : w.ownsRow lo e 1 v n xs := by
  refine ⟨h.1, ?_⟩
  rcases h.2 with e | ⟨g, cap, cur, e, hg, hc, hrest⟩
  · exact .inl e
  · exact .inr ⟨g, cap, cur, e, hlo g (by rw [e]; rfl), hc, hrest⟩
theorem lnHas_rowV {x : Ln} {w : World} {lo n : Nat} (h : lnHas x w) (hlo : ∀ k, lnOwn x k → lo ≤ k) (hn : x.1.length = n) : ∃ A c, x.2 = .slice A n c ∧ RowV w lo w.heap.size A n x.1 := by
  obtain ⟨A, c, e, hV⟩ := rowV_of_own (own_from h hlo)
  rw [hn] at e hV
  exact ⟨A, c, e, hV⟩
theorem map_no {a b : List Int} (h : (triB a && (triB b && decide (a.length = b.length))) = false) : mapB a b = false ∧ mapR a b = [] := by
  unfold mapB mapR mapO
  rw [h]
  exact ⟨rfl, rfl⟩
theorem map_yes {a b : List Int} (h : (triB a && (triB b && decide (a.length = b.length))) = true) : mapO a b = (alL (zr a.length)).find? (fun t => decide (rnL a t = b)) := by
  unfold mapO
  rw [h]
  rfl

set_option maxRecDepth 100000 in
set_option maxHeartbeats 8000000 in
theorem specMapOrderF_any (A : Option Addr) (n c : Nat) (zs : List Int) (A2 : Option Addr) (n2 c2 : Nat) (ys : List Int) (w : World) (h : Ints w w.heap.size A n zs) (h' : Ints w w.heap.size A2 n2 ys) (hbig : n ≤ 1152921504606846976) (hbig' : n2 ≤ 1152921504606846976) :
    Calls Try.prog 20 #[.slice A n c, .slice A2 n2 c2] w (GivesAtV w (mapR zs ys) (mapB zs ys)) := by
  have hlen := Lib.hid h.len
  have hlen2 := Lib.hid h'.len
  have stop : ∀ (w9 : World), (triB zs && (triB ys && decide (zs.length = ys.length))) = false → Below w.heap.size w w9 → GivesAtV w (mapR zs ys) (mapB zs ys) (.returned (.tuple #[.slice none 0 0, .bool false])) w9 := fun w9 e hB => by
    obtain ⟨e1, e2⟩ := map_no e
    exact ⟨none, 0, 0, by rw [e1], by rw [e2]; exact RowV.nil _ _ _ _, hB⟩
  have Stop := Lib.hid stop
  clear stop
  cases hv : vo zs
  · have Hno := Lib.hid (show (triB zs && (triB ys && decide (zs.length = ys.length))) = false by unfold triB; rw [hv]; rfl)
    go_enter Try.func20, Try.ntmps20
    go_wp2_with fail
    refine (validOrder_any _ _ _ _ zs _ h hbig).mono ?_
    rw [hv]
    rintro e w' ⟨rfl, m, rfl⟩
    go_wp2_with fail
    go_ret2
    exact Stop.out _ Hno.out (below_drewN (Below.refl _ _) m)
  · have hvo : VoP zs := by simpa [vo] using hv
    have Hv := Lib.hid hv
    clear hv
    have hn6 : n ≤ 6 := by have := hvo.1; rw [hlen.out] at this; exact this
    go_enter Try.func20, Try.ntmps20
    go_wp2_with fail
    refine (validOrder_any _ _ _ _ zs _ h hbig).mono ?_
    rw [Hv.out]
    rintro e w' ⟨rfl, m, rfl⟩
    have i1 : Ints (w.drewN m) (w.drewN m).heap.size A n zs := h.drewN m
    have j1 : Ints (w.drewN m) (w.drewN m).heap.size A2 n2 ys := h'.drewN m
    have B1 : Below w.heap.size w (w.drewN m) := below_drewN (Below.refl _ _) m
    generalize w.drewN m = w1 at *
    have z1 := B1.size
    go_wp2_with fail
    refine (validOrder_any _ _ _ _ ys _ j1 hbig').mono ?_
    cases hv2 : vo ys
    · have Hno := Lib.hid (show (triB zs && (triB ys && decide (zs.length = ys.length))) = false by
        have : triB ys = false := by unfold triB; rw [hv2]; rfl
        rw [this]; cases triB zs <;> rfl)
      rintro e w' ⟨rfl, m2, rfl⟩
      go_wp2_with fail
      go_ret2
      exact Stop.out _ Hno.out (below_drewN B1 m2)
    · have hvy : VoP ys := by simpa [vo] using hv2
      clear hv2
      have hn26 : n2 ≤ 6 := by have := hvy.1; rw [hlen2.out] at this; exact this
      rintro e w' ⟨rfl, m2, rfl⟩
      have i2 : Ints (w1.drewN m2) (w1.drewN m2).heap.size A n zs := i1.drewN m2
      have j2 : Ints (w1.drewN m2) (w1.drewN m2).heap.size A2 n2 ys := j1.drewN m2
      have C2 : Below w.heap.size w (w1.drewN m2) := below_drewN B1 m2
      clear h h' i1 j1 B1 z1
      generalize w1.drewN m2 = w2 at *
      by_cases hnn : n = n2
      · subst hnn
        by_cases hn5 : n ≤ 5
        · have Hyes := Lib.hid (map_yes (a := zs) (b := ys) (by rw [triB_of hvo (by rw [hlen.out]; exact hn5), triB_of hvy (by rw [hlen2.out]; exact hn5), hlen.out, hlen2.out]; simp))
          rw [hlen.out] at Hyes
          go_wp2_with fail
          refine (perm_any n hn6 w2).mono ?_
          rintro e w3 ⟨g, cN, L, rfl, hL, hR, hB3⟩
          have z2 := C2.size
          have z3 := hB3.size
          have i3 := i2.to hB3 (Nat.le_refl _) z3
          have j3 := j2.to hB3 (Nat.le_refl _) z3
          have C3 := C2.trans (hB3.mono z2)
          have HL := Lib.hid hL
          have HR := Lib.hid hR
          obtain ⟨N, hN⟩ : ∃ N, L.length = N := ⟨_, rfl⟩
          have HN := Lib.hid hN
          have HNa := Lib.hid (show (alL (zr n)).length = N by rw [← hL, List.length_map, hN])
          have hNb : N ≤ 46656 := by rw [← HNa.out]; exact alL_count (zs := zr n) (by rw [zr_len]; exact hn6)
          rw [hN]
          clear hL hR hN i2 j2 hB3 C2
          go_wp2_with fail
          go_loopw [7] (fun i wr => ∃ k : Nat, k ≤ N ∧ i = .int .i64 k ∧ (∀ j, j < k → decide (rnL zs ((alL (zr n))[j]?.getD []) = ys) = false) ∧ Below w3.heap.size w3 wr) (fun i _ => N - (intOf i).toNat)
          case atStart => exact ⟨0, by omega, rfl, fun j hj => by omega, Below.refl _ _⟩
          case round =>
            obtain ⟨k, hk, rfl, hno, hB⟩ := hrel
            rename World => wr
            have zB := hB.size
            have Hno := Lib.hid hno
            clear hno
            by_cases hlt : k < N
            · have hR2 := HR.out.below2 hB
              obtain ⟨x, hx⟩ : ∃ x, L[k]? = some x := ⟨L[k]'(by rw [HN.out]; exact hlt), List.getElem?_eq_getElem _⟩
              have hxa : (alL (zr n))[k]?.getD [] = x.1 := by rw [← HL.out, List.getElem?_map, hx]; rfl
              obtain ⟨g9, c9, e9, hg9, hcell⟩ := hR2.at_ hx
              cases e9
              obtain ⟨hlb, hll⟩ := alz_row (n := n) (k := k) (by rw [HNa.out]; exact hlt)
              rw [hxa] at hlb hll
              have hm := List.mem_of_getElem? hx
              have hlnx := hR2.has x hm
              have hinS : ∀ k, lnOwn x k → w.heap.size ≤ k := fun q hq => by have h8 : w2.heap.size ≤ q := hR2.inS.2 x hm q hq; omega
              obtain ⟨A', c', hv, hV⟩ := lnHas_rowV hlnx hinS hll
              have hI := hV.ints (Nat.le_refl _)
              rw [hv] at hcell
              have Hhit := Lib.hid (fun e => find_hit (p := fun t => decide (rnL zs t = ys)) (l := alL (zr n)) (k := k) (by rw [HNa.out]; exact hlt) Hno.out e)
              rw [hxa] at Hhit
              have Hxa := Lib.hid hxa
              have HV := Lib.hid hV
              have Hlb := Lib.hid hlb
              clear hx hxa hv hV hlb hlnx hm hinS hR2
              generalize x.1 = r at *
              have i4 := i3.to hB (Nat.le_refl _) zB
              have j4 := j3.to hB (Nat.le_refl _) zB
              go_wp2_with fail
              refine (rnS_any A A' n c c' zs r wr i4 hI hvo.sets Hlb.out).mono ?_
              rintro e w4 ⟨rfl, hA4, hB4⟩
              have z4 := hB4.size
              have hD := hB.trans (hB4.mono zB)
              go_wp2_with fail
              refine (below_quiet (sameInts_any _ _ _ _ _ _ w4.heap.size w4.heap.size _ ys _ (hA4.ints' hA4.lt (by rw [rnL_len, hlen.out])) (j4.to hB4 (Nat.le_refl _) z4) (by omega) (by omega))).mono ?_
              rintro e w5 ⟨rfl, hB5⟩
              have z5 := hB5.size
              have hD5 := hD.trans (hB5.mono (by omega))
              cases he : decide (rnL zs r = ys)
              · have Hno2 := Lib.hid (all_snoc (p := fun j => decide (rnL zs ((alL (zr n))[j]?.getD []) = ys) = false) Hno.out (by show decide (rnL zs ((alL (zr n))[k]?.getD []) = ys) = false; rw [Hxa.out]; exact he))
                clear he
                go_wp2_with fail
                go_roundw
                case rel => exact ⟨k + 1, by omega, by go_num, Hno2.out, hD5⟩
                case measure => simp [intOf]; omega
              · have Hf := Lib.hid (Hhit.out he)
                clear he
                have hcell5 := ((hB4.trans (hB5.mono z4)).cell (p := ⟨g, k, none⟩) hg9).trans hcell
                have HV5 := Lib.hid ((HV.out.below (hB4.trans (hB5.mono z4)) (Nat.le_refl _)).more (Nat.le_refl _) (by omega : wr.heap.size ≤ w5.heap.size))
                go_wp2_with fail
                go_ret2
                exact ⟨A', n, c', by unfold mapB; rw [Hyes.out, Hf.out]; rfl, by unfold mapR; rw [Hyes.out, Hf.out]; exact HV5.out, C3.trans (hD5.mono C3.size)⟩
            · obtain rfl : k = N := by omega
              have Hf := Lib.hid (find_no (p := fun t => decide (rnL zs t = ys)) (l := alL (zr n)) (fun j hj => Hno.out j (by rw [HNa.out] at hj; exact hj)))
              go_wp2
              go_ret2
              exact ⟨none, 0, 0, by unfold mapB; rw [Hyes.out, Hf.out]; rfl, by unfold mapR; rw [Hyes.out, Hf.out]; exact RowV.nil _ _ _ _, C3.trans (hB.mono C3.size)⟩
        · have Hno := Lib.hid (show (triB zs && (triB ys && decide (zs.length = ys.length))) = false by
            have : triB zs = false := by unfold triB; rw [Hv.out, hlen.out]; simp [hn5]
            rw [this]; rfl)
          go_wp2_with fail
          go_ret2
          exact Stop.out _ Hno.out C2
      · have Hno := Lib.hid (show (triB zs && (triB ys && decide (zs.length = ys.length))) = false by rw [hlen.out, hlen2.out]; simp [hnn])
        have hne : ((n : Int) != (n2 : Int)) = true := by simp; omega
        clear hnn
        go_wp2_with fail
        go_ret2
        exact Stop.out _ Hno.out C2
end Go.Proofs.Ytghogabmkbadjaa

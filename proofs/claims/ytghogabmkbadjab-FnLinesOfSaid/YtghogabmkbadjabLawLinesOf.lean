/- LinesOf's own law: each row is a line, of the rank of its place, each one less than the next one, and there are as many as are counted. -/
import Derived.Test.YtghogabmkbadjabDrLinesOf
import Derived.Test.YtghogabmkbadjabGxi
import Derived.Test.YtghogabmkbadjabLessR
import Derived.Test.YtghogabmkbadjabRowsL
import Derived.Test.YtghogabmkbadjabRankI
import Derived.Test.YtghogabmkbadjabGxf
import Derived.Test.YtghogabmkbadjabGxm
import Derived.Test.YtghogabmkbadjabGd
set_option linter.unusedVariables false
set_option linter.unusedSimpArgs false
namespace Go.Proofs.Ytghogabmkbadjab
open Go.RowKit Go.Shelf
attribute [local go_sem] Oper.semAt_some

theorem equalRows_same (A A' : Option Addr) (n c n' c' B B' : Nat) (xs : List (List Int)) (w : World) (hA : IntsS w B A n xs) (hA' : IntsS w B' A' n' xs) (hbig : n ≤ 1048576) (hbig' : n' ≤ 1048576) (hx : ∀ r ∈ xs, r.length ≤ 1048576) :
    Calls Try.prog 48 #[.slice A n c, .slice A' n' c'] w fun e w' => e = .returned (.bool true) ∧ Below w.heap.size w w' :=
  (below_quiet (equalRows_any A A' n c n' c' B B' xs xs w hA hA' hbig hbig' hx hx)).mono (by
    rintro e w' ⟨rfl, h⟩
    exact ⟨by simp, h⟩)

set_option maxRecDepth 100000 in
set_option maxHeartbeats 8000000 in
theorem fnLinesOf_walk (A : Option Addr) (m c : Nat) (bs : List Int) (w : World) (h : Byts w w.heap.size A m bs) (hcap : m ≤ c) :
    Calls Try.prog 9 #[.slice A m c] w fun e w' => e = .returned (.bool true) ∧ Below w.heap.size w w' := by
  by_cases hs : m ≤ 1048576
  · go_enter Try.func9, Try.ntmps9
    go_wp2_with fail
    refine (drawLinesOf_any A m c bs w h hcap (by omega)).mono ?_
    rintro e w1 ⟨A1, n, c1, zs, rfl, hn7, hI1, C1⟩
    have hlen := Lib.hid hI1.len
    have z1 := C1.size
    have HR := Lib.hid (linesOfR_bd zs)
    go_wp2_with fail
    refine (LinesOf_T A1 n c1 zs w1 hI1 (by omega)).mono ?_
    rintro e w2 ⟨A2, N, c2, rfl, g2, hB2⟩
    have z2 := hB2.size
    have C2 := C1.trans (hB2.mono z1)
    have hI2 := hI1.to hB2 (Nat.le_refl _) z2
    have hN : N ≤ 1048576 := by rw [← g2.len]; exact HR.out.1
    go_wp2_with fail
    refine (specLinesOfF_any A1 n c1 zs w2 hI2 (by omega)).mono ?_
    rintro e w3 ⟨A3, c3, rfl, r3, hB3⟩
    have z3 := hB3.size
    have C3 := C2.trans (hB3.mono (by omega))
    have hI3 := hI2.to hB3 (Nat.le_refl _) z3
    have g3 := g2.below hB3 (Nat.le_refl _)
    have hM : (linesOfR zs).length ≤ 1048576 := HR.out.1
    have HM := Lib.hid hM
    generalize hM' : (linesOfR zs).length = M at *
    have HMl := Lib.hid hM'
    clear hM'
    go_wp2_with fail
    refine (equalRows_same A2 A3 N c2 M c3 w3.heap.size w3.heap.size (linesOfR zs) w3 (g3.ints z3) r3 hN hM HR.out.2.1).mono ?_
    rintro e w4 ⟨rfl, hB4⟩
    have z4 := hB4.size
    have C4 := C3.trans (hB4.mono (by omega))
    have hI4 := hI3.to hB4 (Nat.le_refl _) z4
    have g4 := g3.below hB4 z3
    clear hI1 hI2 hI3 g2 g3 r3 hB2 hB3 hB4 C1 C2 C3
    by_cases hN0 : N = 0
    · subst hN0
      go_wp2_with fail
      refine (specLinesOfF_any A1 n c1 zs w4 hI4 (by omega)).mono ?_
      rw [HMl.out]
      rintro e w5 ⟨A5, c5, rfl, r5, hB5⟩
      have z5 := hB5.size
      have g5 := g4.below hB5 (by omega)
      go_wp2_with fail
      refine (equalRows_same A2 A5 0 c2 M c5 w5.heap.size w5.heap.size (linesOfR zs) w5 (g5.ints (by omega)) r5 hN hM HR.out.2.1).mono ?_
      rintro e w6 ⟨rfl, hB6⟩
      go_wp2_with fail
      go_ret
      exact ⟨rfl, C4.trans ((hB5.trans (hB6.mono z5)).mono (by omega))⟩
    · have hvo : VoP zs := by
        cases hv : vo zs
        · exfalso
          have hl := g4.len
          unfold linesOfR at hl
          rw [hv] at hl
          simp at hl
          omega
        · simpa [vo] using hv
      have hal : linesOfR zs = alL zs := by
        have hl := g4.len
        unfold linesOfR at hl ⊢
        split
        · rfl
        · rename_i hno
          rw [if_neg hno] at hl
          simp at hl
          omega
      obtain ⟨hcnt, hrow⟩ := lines_law hvo
      rw [hal] at g4 HMl
      obtain ⟨L, hL1, hL2, hL3⟩ := g4
      have hlr : ∀ (i : Nat) (x : Ln), L[i]? = some x → isLineR zs x.1 = true ∧ rankR zs x.1 = (i : Int) ∧ x.1.length = n ∧ ∀ (j : Nat) (y : Ln), i = j + 1 → L[j]? = some y → lessRB y.1 x.1 = true := fun i x hx => by
        have e1 : (alL zs)[i]? = some x.1 := by rw [← hL2, List.getElem?_map, hx]; rfl
        obtain ⟨k1, k2, k3⟩ := hrow i x.1 e1
        refine ⟨k1, k2, by rw [alL_rows x.1 (List.mem_of_getElem? e1), hlen.out], fun j y hj hy => k3 j y.1 hj ?_⟩
        rw [← hL2, List.getElem?_map, hy]; rfl
      have Hlr := Lib.hid hlr
      have Hcnt := Lib.hid (show (N : Int) = linesR zs by rw [← hcnt, ← hL2, List.length_map, hL1])
      have Hl1 := Lib.hid hL1
      have H3 := Lib.hid hL3
      have hn6 : n ≤ 6 := by have := hvo.1; rw [hlen.out] at this; exact this
      have hNb : ((N : Int) == 0) = false := by simp; omega
      clear hlr hcnt hrow hL1 hL2 hL3 hal
      go_wp2_with fail
      go_loopw [5] (fun i wr => ∃ k : Nat, k ≤ N ∧ i = .int .i64 k ∧ Below w4.heap.size w4 wr) (fun i _ => N - (intOf i).toNat)
      case atStart => exact ⟨0, by omega, rfl, Below.refl _ _⟩
      case round =>
        obtain ⟨k, hk, rfl, hBr⟩ := hrel
        have zr := hBr.size
        have hIr := hI4.to hBr (Nat.le_refl _) zr
        by_cases hlt : k < N
        · have hkl : k < L.length := by rw [Hl1.out]; exact hlt
          obtain ⟨x, hx⟩ : ∃ x, L[k]? = some x := ⟨L[k], List.getElem?_eq_getElem hkl⟩
          obtain ⟨k1, k2, k3, k4⟩ := Hlr.out k x hx
          have hLr := H3.out.below2 hBr
          obtain ⟨g, c', e, hg, hcell⟩ := hLr.at_ hx
          rw [Hl1.out] at e
          cases e
          obtain ⟨A', c2', e2, hIx⟩ := lnHas_slice (hLr.has x (List.mem_of_getElem? hx))
          rw [e2] at hcell
          rw [k3] at hcell hIx
          have K1 := Lib.hid k1
          have K2 := Lib.hid k2
          cases k with
          | zero =>
            clear k1 k2 k4 hx
            go_wp2
            refine region_T (S := (fun w' : World => w'.cell? ⟨g, 0, none⟩ = some (.slice A' n c2'))) 33 (by kernel_rfl) ?_
            obtain ⟨Wd, hWd⟩ : ∃ Wd, wr.drew = Wd := ⟨_, rfl⟩
            have hbd : Below wr.heap.size wr Wd := by rw [← hWd]; exact ((Upd.refl (fun _ => False) wr).drew).toBelow (fun _ e => e.elim) (Nat.le_refl _)
            rw [hWd]
            clear hWd
            have zd := hbd.size
            have hId := hIr.to hbd (Nat.le_refl _) zd
            have hXd := hIx.to hbd (Nat.le_refl _) zd
            have hSd : (fun w' : World => w'.cell? ⟨g, 0, none⟩ = some (.slice A' n c2')) Wd := (Below.toUpd hbd).cell hcell (by simp only; omega)
            refine anyT_take (i := 0) (oi := ?oi0a) (v := .slice A1 n c1) ?hi0a (by kernel_rfl) ?hq0a ?hy0a (by assumption) ?rest0a
            case hi0a => (simp only [List.getElem?_toArray, List.getElem?_cons_zero]; first | done | rfl)
            case hq0a => first | exact fun _ _ _ h => h | exact fun _ _ _ h => (by cases h.1)
            case hy0a => (refine Or.inl ⟨by rfl, ?_⟩; intro wz hSw; obtain hS1 := hSw; go_simp; first | done | with_reducible rfl | simp | omega)
            try simp only [Act.put, List.setIfInBounds_toArray, List.set_cons_zero, List.set_cons_succ]
            refine anyT_take (i := 1) (oi := ?oi1a) (v := .slice (some ⟨g, 0, none⟩) N c2) ?hi1a (by kernel_rfl) ?hq1a ?hy1a (by assumption) ?rest1a
            case hi1a => (simp only [List.getElem?_toArray, List.getElem?_cons_succ, List.getElem?_cons_zero]; first | done | rfl)
            case hq1a => first | exact fun _ _ _ h => h | exact fun _ _ _ h => (by cases h.1)
            case hy1a => (refine Or.inl ⟨by rfl, ?_⟩; intro wz hSw; obtain hS1 := hSw; go_simp; first | done | with_reducible rfl | simp | omega)
            try simp only [Act.put, List.setIfInBounds_toArray, List.set_cons_zero, List.set_cons_succ]
            refine anyT_take (i := 2) (oi := ?oi2a) (v := .int .i64 ((0 : Nat) : Int)) ?hi2a (by kernel_rfl) ?hq2a ?hy2a (by assumption) ?rest2a
            case hi2a => (simp only [List.getElem?_toArray, List.getElem?_cons_succ, List.getElem?_cons_zero]; first | done | rfl)
            case hq2a => first | exact fun _ _ _ h => h | exact fun _ _ _ h => (by cases h.1)
            case hy2a => (refine Or.inl ⟨by rfl, ?_⟩; intro wz hSw; obtain hS1 := hSw; go_simp; first | done | with_reducible rfl | simp | omega)
            try simp only [Act.put, List.setIfInBounds_toArray, List.set_cons_zero, List.set_cons_succ]
            refine anyT_take (i := 3) (oi := ?oi3a) (v := .pointer (some ⟨g, 0, none⟩)) ?hi3a (by kernel_rfl) ?hq3a ?hy3a (by assumption) ?rest3a
            case hi3a => (simp only [List.getElem?_toArray, List.getElem?_cons_succ, List.getElem?_cons_zero]; first | done | rfl)
            case hq3a => first | exact fun _ _ _ h => h | exact fun _ _ _ h => (by cases h.1)
            case hy3a => (refine Or.inl ⟨by rfl, ?_⟩; intro wz hSw; obtain hS1 := hSw; go_simp; first | done | with_reducible rfl | simp | omega)
            try simp only [Act.put, List.setIfInBounds_toArray, List.set_cons_zero, List.set_cons_succ]
            refine anyT_take (i := 4) (oi := ?oi4a) (v := .slice A' n c2') ?hi4a (by kernel_rfl) ?hq4a ?hy4a (by assumption) ?rest4a
            case hi4a => (simp only [List.getElem?_toArray, List.getElem?_cons_succ, List.getElem?_cons_zero]; first | done | rfl)
            case hq4a => first | exact fun _ _ _ h => h | exact fun _ _ _ h => (by cases h.1)
            case hy4a => (refine Or.inl ⟨by rfl, ?_⟩; intro wz hSw; obtain hS1 := hSw; go_simp; first | done | with_reducible rfl | simp | omega)
            try simp only [Act.put, List.setIfInBounds_toArray, List.set_cons_zero, List.set_cons_succ]
            refine anyT_one (i := 5) (by kernel_rfl) rfl (fun K' hK => ?_)
            go_simp
            refine (IsLine_any A1 n c1 zs A' n c2' x.1 Wd hId hXd (by omega) (by omega)).mono ?_
            rw [K1.out]
            rintro e W2 ⟨rfl, hB2⟩
            have z2 := hB2.size
            have hE2 := hbd.trans (hB2.mono zd)
            have hS2 : (fun w' : World => w'.cell? ⟨g, 0, none⟩ = some (.slice A' n c2')) W2 := (Below.toUpd hB2).cell hSd (by simp only; omega)
            refine hK.out _ _ (fun _ => hS2) ?_
            clear hK K'
            try simp only [Act.put, List.setIfInBounds_toArray, List.set_cons_zero, List.set_cons_succ]
            have hI2' := hId.to hB2 (Nat.le_refl _) z2
            have hX2' := hXd.to hB2 (Nat.le_refl _) z2
            refine anyT_take (i := 6) (oi := ?oi6a) (v := .bool false) ?hi6a (by kernel_rfl) ?hq6a ?hy6a (by assumption) ?rest6a
            case hi6a => (simp only [List.getElem?_toArray, List.getElem?_cons_succ, List.getElem?_cons_zero]; first | done | rfl)
            case hq6a => first | exact fun _ _ _ h => h | exact fun _ _ _ h => (by cases h.1)
            case hy6a => (refine Or.inl ⟨by rfl, ?_⟩; intro wz hSw; obtain hS1 := hSw; go_simp; first | done | with_reducible rfl | simp | omega)
            try simp only [Act.put, List.setIfInBounds_toArray, List.set_cons_zero, List.set_cons_succ]
            refine anyT_take (i := 7) (oi := ?oi7a) (v := .bool false) ?hi7a (by kernel_rfl) ?hq7a ?hy7a (by assumption) ?rest7a
            case hi7a => (simp only [List.getElem?_toArray, List.getElem?_cons_succ, List.getElem?_cons_zero]; first | done | rfl)
            case hq7a => first | exact fun _ _ _ h => h | exact fun _ _ _ h => (by cases h.1)
            case hy7a => (refine Or.inl ⟨by rfl, ?_⟩; intro wz hSw; obtain hS1 := hSw; go_simp; first | done | with_reducible rfl | simp | omega)
            try simp only [Act.put, List.setIfInBounds_toArray, List.set_cons_zero, List.set_cons_succ]
            refine anyT_take (i := 8) (oi := ?oi8a) (v := .slice A1 n c1) ?hi8a (by kernel_rfl) ?hq8a ?hy8a (by assumption) ?rest8a
            case hi8a => (simp only [List.getElem?_toArray, List.getElem?_cons_succ, List.getElem?_cons_zero]; first | done | rfl)
            case hq8a => first | exact fun _ _ _ h => h | exact fun _ _ _ h => (by cases h.1)
            case hy8a => (refine Or.inl ⟨by rfl, ?_⟩; intro wz hSw; obtain hS1 := hSw; go_simp; first | done | with_reducible rfl | simp | omega)
            try simp only [Act.put, List.setIfInBounds_toArray, List.set_cons_zero, List.set_cons_succ]
            refine anyT_take (i := 9) (oi := ?oi9a) (v := .slice (some ⟨g, 0, none⟩) N c2) ?hi9a (by kernel_rfl) ?hq9a ?hy9a (by assumption) ?rest9a
            case hi9a => (simp only [List.getElem?_toArray, List.getElem?_cons_succ, List.getElem?_cons_zero]; first | done | rfl)
            case hq9a => first | exact fun _ _ _ h => h | exact fun _ _ _ h => (by cases h.1)
            case hy9a => (refine Or.inl ⟨by rfl, ?_⟩; intro wz hSw; obtain hS1 := hSw; go_simp; first | done | with_reducible rfl | simp | omega)
            try simp only [Act.put, List.setIfInBounds_toArray, List.set_cons_zero, List.set_cons_succ]
            refine anyT_take (i := 10) (oi := ?oi10a) (v := .int .i64 ((0 : Nat) : Int)) ?hi10a (by kernel_rfl) ?hq10a ?hy10a (by assumption) ?rest10a
            case hi10a => (simp only [List.getElem?_toArray, List.getElem?_cons_succ, List.getElem?_cons_zero]; first | done | rfl)
            case hq10a => first | exact fun _ _ _ h => h | exact fun _ _ _ h => (by cases h.1)
            case hy10a => (refine Or.inl ⟨by rfl, ?_⟩; intro wz hSw; obtain hS1 := hSw; go_simp; first | done | with_reducible rfl | simp | omega)
            try simp only [Act.put, List.setIfInBounds_toArray, List.set_cons_zero, List.set_cons_succ]
            refine anyT_take (i := 11) (oi := ?oi11a) (v := .pointer (some ⟨g, 0, none⟩)) ?hi11a (by kernel_rfl) ?hq11a ?hy11a (by assumption) ?rest11a
            case hi11a => (simp only [List.getElem?_toArray, List.getElem?_cons_succ, List.getElem?_cons_zero]; first | done | rfl)
            case hq11a => first | exact fun _ _ _ h => h | exact fun _ _ _ h => (by cases h.1)
            case hy11a => (refine Or.inl ⟨by rfl, ?_⟩; intro wz hSw; obtain hS1 := hSw; go_simp; first | done | with_reducible rfl | simp | omega)
            try simp only [Act.put, List.setIfInBounds_toArray, List.set_cons_zero, List.set_cons_succ]
            refine anyT_take (i := 12) (oi := ?oi12a) (v := .slice A' n c2') ?hi12a (by kernel_rfl) ?hq12a ?hy12a (by assumption) ?rest12a
            case hi12a => (simp only [List.getElem?_toArray, List.getElem?_cons_succ, List.getElem?_cons_zero]; first | done | rfl)
            case hq12a => first | exact fun _ _ _ h => h | exact fun _ _ _ h => (by cases h.1)
            case hy12a => (refine Or.inl ⟨by rfl, ?_⟩; intro wz hSw; obtain hS1 := hSw; go_simp; first | done | with_reducible rfl | simp | omega)
            try simp only [Act.put, List.setIfInBounds_toArray, List.set_cons_zero, List.set_cons_succ]
            refine anyT_take (i := 14) (oi := ?oi14a) (v := .int .i64 ((0 : Nat) : Int)) ?hi14a (by kernel_rfl) ?hq14a ?hy14a (by assumption) ?rest14a
            case hi14a => (simp only [List.getElem?_toArray, List.getElem?_cons_succ, List.getElem?_cons_zero]; first | done | rfl)
            case hq14a => first | exact fun _ _ _ h => h | exact fun _ _ _ h => (by cases h.1)
            case hy14a => (refine Or.inl ⟨by rfl, ?_⟩; intro wz hSw; obtain hS1 := hSw; go_simp; first | done | with_reducible rfl | simp | omega)
            try simp only [Act.put, List.setIfInBounds_toArray, List.set_cons_zero, List.set_cons_succ]
            refine anyT_one (i := 13) (by kernel_rfl) rfl (fun K' hK => ?_)
            go_simp
            refine (LineRank_any A1 n c1 zs A' n c2' x.1 W2 hI2' hX2' (by omega) (by omega)).mono ?_
            rw [K2.out]
            rintro e W3 ⟨rfl, hB3⟩
            have z3' := hB3.size
            have hE3 := hE2.trans (hB3.mono (by omega))
            have hS3 : (fun w' : World => w'.cell? ⟨g, 0, none⟩ = some (.slice A' n c2')) W3 := (Below.toUpd hB3).cell hS2 (by simp only; omega)
            refine hK.out _ _ (fun _ => hS3) ?_
            clear hK K'
            try simp only [Act.put, List.setIfInBounds_toArray, List.set_cons_zero, List.set_cons_succ]
            have hX3' := hX2'.to hB3 (Nat.le_refl _) z3'
            refine anyT_take (i := 15) (oi := ?oi15a) (v := .bool false) ?hi15a (by kernel_rfl) ?hq15a ?hy15a (by assumption) ?rest15a
            case hi15a => (simp only [List.getElem?_toArray, List.getElem?_cons_succ, List.getElem?_cons_zero]; first | done | rfl)
            case hq15a => first | exact fun _ _ _ h => h | exact fun _ _ _ h => (by cases h.1)
            case hy15a => (refine Or.inl ⟨by rfl, ?_⟩; intro wz hSw; obtain hS1 := hSw; go_simp; first | done | with_reducible rfl | simp | omega)
            try simp only [Act.put, List.setIfInBounds_toArray, List.set_cons_zero, List.set_cons_succ]
            refine anyT_take (i := 16) (oi := ?oi16a) (v := .bool false) ?hi16a (by kernel_rfl) ?hq16a ?hy16a (by assumption) ?rest16a
            case hi16a => (simp only [List.getElem?_toArray, List.getElem?_cons_succ, List.getElem?_cons_zero]; first | done | rfl)
            case hq16a => first | exact fun _ _ _ h => h | exact fun _ _ _ h => (by cases h.1)
            case hy16a => (refine Or.inl ⟨by rfl, ?_⟩; intro wz hSw; obtain hS1 := hSw; go_simp; first | done | with_reducible rfl | simp | omega)
            try simp only [Act.put, List.setIfInBounds_toArray, List.set_cons_zero, List.set_cons_succ]
            refine anyT_take (i := 17) (oi := ?oi17a) (v := .bool false) ?hi17a (by kernel_rfl) ?hq17a ?hy17a (by assumption) ?rest17a
            case hi17a => (simp only [List.getElem?_toArray, List.getElem?_cons_succ, List.getElem?_cons_zero]; first | done | rfl)
            case hq17a => first | exact fun _ _ _ h => h | exact fun _ _ _ h => (by cases h.1)
            case hy17a => (refine Or.inl ⟨by rfl, ?_⟩; intro wz hSw; obtain hS1 := hSw; go_simp; first | done | with_reducible rfl | simp | omega)
            try simp only [Act.put, List.setIfInBounds_toArray, List.set_cons_zero, List.set_cons_succ]
            refine anyT_take (i := 18) (oi := ?oi18a) (v := .int .i64 ((0 : Nat) : Int)) ?hi18a (by kernel_rfl) ?hq18a ?hy18a (by assumption) ?rest18a
            case hi18a => (simp only [List.getElem?_toArray, List.getElem?_cons_succ, List.getElem?_cons_zero]; first | done | rfl)
            case hq18a => first | exact fun _ _ _ h => h | exact fun _ _ _ h => (by cases h.1)
            case hy18a => (refine Or.inl ⟨by rfl, ?_⟩; intro wz hSw; obtain hS1 := hSw; go_simp; first | done | with_reducible rfl | simp | omega)
            try simp only [Act.put, List.setIfInBounds_toArray, List.set_cons_zero, List.set_cons_succ]
            refine anyT_take (i := 19) (oi := ?oi19a) (v := .bool false) ?hi19a (by kernel_rfl) ?hq19a ?hy19a (by assumption) ?rest19a
            case hi19a => (simp only [List.getElem?_toArray, List.getElem?_cons_succ, List.getElem?_cons_zero]; first | done | rfl)
            case hq19a => first | exact fun _ _ _ h => h | exact fun _ _ _ h => (by cases h.1)
            case hy19a => (refine Or.inl ⟨by rfl, ?_⟩; intro wz hSw; obtain hS1 := hSw; go_simp; first | done | with_reducible rfl | simp | omega)
            try simp only [Act.put, List.setIfInBounds_toArray, List.set_cons_zero, List.set_cons_succ]
            refine anyT_take (i := 20) (oi := ?oi20a) (v := .bool false) ?hi20a (by kernel_rfl) ?hq20a ?hy20a (by assumption) ?rest20a
            case hi20a => (simp only [List.getElem?_toArray, List.getElem?_cons_succ, List.getElem?_cons_zero]; first | done | rfl)
            case hq20a => first | exact fun _ _ _ h => h | exact fun _ _ _ h => (by cases h.1)
            case hy20a => (refine Or.inl ⟨by rfl, ?_⟩; intro wz hSw; obtain hS1 := hSw; go_simp; first | done | with_reducible rfl | simp | omega)
            try simp only [Act.put, List.setIfInBounds_toArray, List.set_cons_zero, List.set_cons_succ]
            refine anyT_take (i := 21) (oi := ?oi21a) (v := undef) ?hi21a (by kernel_rfl) ?hq21a ?hy21a (by assumption) ?rest21a
            case hi21a => (simp only [List.getElem?_toArray, List.getElem?_cons_succ, List.getElem?_cons_zero]; first | done | rfl)
            case hq21a => first | exact fun _ _ _ h => h | exact fun _ _ _ h => (by cases h.1)
            case hy21a => exact Or.inr ⟨by rfl, rfl⟩
            try simp only [Act.put, List.setIfInBounds_toArray, List.set_cons_zero, List.set_cons_succ]
            refine anyT_take (i := 22) (oi := ?oi22a) (v := undef) ?hi22a (by kernel_rfl) ?hq22a ?hy22a (by assumption) ?rest22a
            case hi22a => (simp only [List.getElem?_toArray, List.getElem?_cons_succ, List.getElem?_cons_zero]; first | done | rfl)
            case hq22a => first | exact fun _ _ _ h => h | exact fun _ _ _ h => (by cases h.1)
            case hy22a => exact Or.inr ⟨by rfl, rfl⟩
            try simp only [Act.put, List.setIfInBounds_toArray, List.set_cons_zero, List.set_cons_succ]
            refine anyT_take (i := 23) (oi := ?oi23a) (v := undef) ?hi23a (by kernel_rfl) ?hq23a ?hy23a (by assumption) ?rest23a
            case hi23a => (simp only [List.getElem?_toArray, List.getElem?_cons_succ, List.getElem?_cons_zero]; first | done | rfl)
            case hq23a => first | exact fun _ _ _ h => h | exact fun _ _ _ h => (by cases h.1)
            case hy23a => exact Or.inr ⟨by rfl, rfl⟩
            try simp only [Act.put, List.setIfInBounds_toArray, List.set_cons_zero, List.set_cons_succ]
            refine anyT_take (i := 24) (oi := ?oi24a) (v := undef) ?hi24a (by kernel_rfl) ?hq24a ?hy24a (by assumption) ?rest24a
            case hi24a => (simp only [List.getElem?_toArray, List.getElem?_cons_succ, List.getElem?_cons_zero]; first | done | rfl)
            case hq24a => first | exact fun _ _ _ h => h | exact fun _ _ _ h => (by cases h.1)
            case hy24a => exact Or.inr ⟨by rfl, rfl⟩
            try simp only [Act.put, List.setIfInBounds_toArray, List.set_cons_zero, List.set_cons_succ]
            refine anyT_take (i := 25) (oi := ?oi25a) (v := undef) ?hi25a (by kernel_rfl) ?hq25a ?hy25a (by assumption) ?rest25a
            case hi25a => (simp only [List.getElem?_toArray, List.getElem?_cons_succ, List.getElem?_cons_zero]; first | done | rfl)
            case hq25a => first | exact fun _ _ _ h => h | exact fun _ _ _ h => (by cases h.1)
            case hy25a => exact Or.inr ⟨by rfl, rfl⟩
            try simp only [Act.put, List.setIfInBounds_toArray, List.set_cons_zero, List.set_cons_succ]
            refine anyT_take (i := 26) (oi := ?oi26a) (v := undef) ?hi26a (by kernel_rfl) ?hq26a ?hy26a (by assumption) ?rest26a
            case hi26a => (simp only [List.getElem?_toArray, List.getElem?_cons_succ, List.getElem?_cons_zero]; first | done | rfl)
            case hq26a => first | exact fun _ _ _ h => h | exact fun _ _ _ h => (by cases h.1)
            case hy26a => exact Or.inr ⟨by rfl, rfl⟩
            try simp only [Act.put, List.setIfInBounds_toArray, List.set_cons_zero, List.set_cons_succ]
            refine anyT_take (i := 27) (oi := ?oi27a) (v := undef) ?hi27a (by kernel_rfl) ?hq27a ?hy27a (by assumption) ?rest27a
            case hi27a => (simp only [List.getElem?_toArray, List.getElem?_cons_succ, List.getElem?_cons_zero]; first | done | rfl)
            case hq27a => first | exact fun _ _ _ h => h | exact fun _ _ _ h => (by cases h.1)
            case hy27a => exact Or.inr ⟨by rfl, rfl⟩
            try simp only [Act.put, List.setIfInBounds_toArray, List.set_cons_zero, List.set_cons_succ]
            refine anyT_take (i := 28) (oi := ?oi28a) (v := undef) ?hi28a (by kernel_rfl) ?hq28a ?hy28a (by assumption) ?rest28a
            case hi28a => (simp only [List.getElem?_toArray, List.getElem?_cons_succ, List.getElem?_cons_zero]; first | done | rfl)
            case hq28a => first | exact fun _ _ _ h => h | exact fun _ _ _ h => (by cases h.1)
            case hy28a => exact Or.inr ⟨by rfl, rfl⟩
            try simp only [Act.put, List.setIfInBounds_toArray, List.set_cons_zero, List.set_cons_succ]
            refine anyT_take (i := 29) (oi := ?oi29a) (v := undef) ?hi29a (by kernel_rfl) ?hq29a ?hy29a (by assumption) ?rest29a
            case hi29a => (simp only [List.getElem?_toArray, List.getElem?_cons_succ, List.getElem?_cons_zero]; first | done | rfl)
            case hq29a => first | exact fun _ _ _ h => h | exact fun _ _ _ h => (by cases h.1)
            case hy29a => exact Or.inr ⟨by rfl, rfl⟩
            try simp only [Act.put, List.setIfInBounds_toArray, List.set_cons_zero, List.set_cons_succ]
            refine anyT_take (i := 30) (oi := ?oi30a) (v := undef) ?hi30a (by kernel_rfl) ?hq30a ?hy30a (by assumption) ?rest30a
            case hi30a => (simp only [List.getElem?_toArray, List.getElem?_cons_succ, List.getElem?_cons_zero]; first | done | rfl)
            case hq30a => first | exact fun _ _ _ h => h | exact fun _ _ _ h => (by cases h.1)
            case hy30a => exact Or.inr ⟨by rfl, rfl⟩
            try simp only [Act.put, List.setIfInBounds_toArray, List.set_cons_zero, List.set_cons_succ]
            refine anyT_take (i := 31) (oi := ?oi31a) (v := undef) ?hi31a (by kernel_rfl) ?hq31a ?hy31a (by assumption) ?rest31a
            case hi31a => (simp only [List.getElem?_toArray, List.getElem?_cons_succ, List.getElem?_cons_zero]; first | done | rfl)
            case hq31a => first | exact fun _ _ _ h => h | exact fun _ _ _ h => (by cases h.1)
            case hy31a => exact Or.inr ⟨by rfl, rfl⟩
            try simp only [Act.put, List.setIfInBounds_toArray, List.set_cons_zero, List.set_cons_succ]
            refine anyT_take (i := 32) (oi := ?oi32a) (v := .bool false) ?hi32a (by kernel_rfl) ?hq32a ?hy32a (by assumption) ?rest32a
            case hi32a => (simp only [List.getElem?_toArray, List.getElem?_cons_succ, List.getElem?_cons_zero]; first | done | rfl)
            case hq32a => first | exact fun _ _ _ h => h | exact fun _ _ _ h => (by cases h.1)
            case hy32a => (refine Or.inl ⟨by rfl, ?_⟩; intro wz hSw; obtain hS1 := hSw; go_simp; first | done | with_reducible rfl | simp | omega)
            try simp only [Act.put, List.setIfInBounds_toArray, List.set_cons_zero, List.set_cons_succ]
            refine anyT_one (i := 33) (by kernel_rfl) rfl (fun K' hK => ?_)
            go_simp
            refine hK.out _ _ (fun h => absurd rfl h) ?_
            clear hK K'
            try simp only [Act.put, List.setIfInBounds_toArray, List.set_cons_zero, List.set_cons_succ]
            refine anyT_done (by kernel_rfl) ?_ _
            go_wp2
            go_roundw
            case rel => exact ⟨0 + 1, by omega, by go_num, hBr.trans (hE3.mono zr)⟩
            case measure => simp [intOf]; omega
          | succ p =>
            have hpl : p < L.length := by rw [Hl1.out]; omega
            obtain ⟨y, hy⟩ : ∃ y, L[p]? = some y := ⟨L[p], List.getElem?_eq_getElem hpl⟩
            have K4 := Lib.hid (k4 p y rfl hy)
            obtain ⟨g9, c', e, _, hcell9⟩ := hLr.at_ hy
            rw [Hl1.out] at e
            cases e
            obtain ⟨A9, c9, e9, hIy⟩ := lnHas_slice (hLr.has y (List.mem_of_getElem? hy))
            have k39 := (Hlr.out p y hy).2.2.1
            rw [e9] at hcell9
            rw [k39] at hcell9 hIy
            have hwp2 : IntKind.i64.wrap ((p : Int) + 1 - 1) = (p : Int) := by rw [IntKind.wrap_i64]; omega
            have hwp3 : IntKind.i64.wrap (p : Int) = (p : Int) := by rw [IntKind.wrap_i64]; omega
            have hwp : IntKind.i64.wrap (((p + 1 : Nat) : Int) - 1) = (p : Int) := by rw [IntKind.wrap_i64]; omega
            clear k1 k2 k4 hx hy
            go_wp2
            refine region_T (S := (fun w' : World => w'.cell? ⟨g, p + 1, none⟩ = some (.slice A' n c2') ∧ w'.cell? ⟨g, p, none⟩ = some (.slice A9 n c9))) 33 (by kernel_rfl) ?_
            obtain ⟨Wd, hWd⟩ : ∃ Wd, wr.drew = Wd := ⟨_, rfl⟩
            have hbd : Below wr.heap.size wr Wd := by rw [← hWd]; exact ((Upd.refl (fun _ => False) wr).drew).toBelow (fun _ e => e.elim) (Nat.le_refl _)
            rw [hWd]
            clear hWd
            have zd := hbd.size
            have hId := hIr.to hbd (Nat.le_refl _) zd
            have hXd := hIx.to hbd (Nat.le_refl _) zd
            have hYd := hIy.to hbd (Nat.le_refl _) zd
            have hSd : (fun w' : World => w'.cell? ⟨g, p + 1, none⟩ = some (.slice A' n c2') ∧ w'.cell? ⟨g, p, none⟩ = some (.slice A9 n c9)) Wd := ⟨(Below.toUpd hbd).cell (And.intro hcell hcell9).1 (by simp only; omega), (Below.toUpd hbd).cell (And.intro hcell hcell9).2 (by simp only; omega)⟩
            refine anyT_take (i := 0) (oi := ?oi0b) (v := .slice A1 n c1) ?hi0b (by kernel_rfl) ?hq0b ?hy0b (by assumption) ?rest0b
            case hi0b => (simp only [List.getElem?_toArray, List.getElem?_cons_zero]; first | done | rfl)
            case hq0b => first | exact fun _ _ _ h => h | exact fun _ _ _ h => (by cases h.1)
            case hy0b => (refine Or.inl ⟨by rfl, ?_⟩; intro wz hSw; obtain ⟨hS1, hS4⟩ := hSw; go_simp; first | done | with_reducible rfl | simp | omega)
            try simp only [Act.put, List.setIfInBounds_toArray, List.set_cons_zero, List.set_cons_succ]
            refine anyT_take (i := 1) (oi := ?oi1b) (v := .slice (some ⟨g, 0, none⟩) N c2) ?hi1b (by kernel_rfl) ?hq1b ?hy1b (by assumption) ?rest1b
            case hi1b => (simp only [List.getElem?_toArray, List.getElem?_cons_succ, List.getElem?_cons_zero]; first | done | rfl)
            case hq1b => first | exact fun _ _ _ h => h | exact fun _ _ _ h => (by cases h.1)
            case hy1b => (refine Or.inl ⟨by rfl, ?_⟩; intro wz hSw; obtain ⟨hS1, hS4⟩ := hSw; go_simp; first | done | with_reducible rfl | simp | omega)
            try simp only [Act.put, List.setIfInBounds_toArray, List.set_cons_zero, List.set_cons_succ]
            refine anyT_take (i := 2) (oi := ?oi2b) (v := .int .i64 ((p + 1 : Nat) : Int)) ?hi2b (by kernel_rfl) ?hq2b ?hy2b (by assumption) ?rest2b
            case hi2b => (simp only [List.getElem?_toArray, List.getElem?_cons_succ, List.getElem?_cons_zero]; first | done | rfl)
            case hq2b => first | exact fun _ _ _ h => h | exact fun _ _ _ h => (by cases h.1)
            case hy2b => (refine Or.inl ⟨by rfl, ?_⟩; intro wz hSw; obtain ⟨hS1, hS4⟩ := hSw; go_simp; first | done | with_reducible rfl | simp | omega)
            try simp only [Act.put, List.setIfInBounds_toArray, List.set_cons_zero, List.set_cons_succ]
            refine anyT_take (i := 3) (oi := ?oi3b) (v := .pointer (some ⟨g, p + 1, none⟩)) ?hi3b (by kernel_rfl) ?hq3b ?hy3b (by assumption) ?rest3b
            case hi3b => (simp only [List.getElem?_toArray, List.getElem?_cons_succ, List.getElem?_cons_zero]; first | done | rfl)
            case hq3b => first | exact fun _ _ _ h => h | exact fun _ _ _ h => (by cases h.1)
            case hy3b => (refine Or.inl ⟨by rfl, ?_⟩; intro wz hSw; obtain ⟨hS1, hS4⟩ := hSw; go_simp; first | done | with_reducible rfl | simp | omega)
            try simp only [Act.put, List.setIfInBounds_toArray, List.set_cons_zero, List.set_cons_succ]
            refine anyT_take (i := 4) (oi := ?oi4b) (v := .slice A' n c2') ?hi4b (by kernel_rfl) ?hq4b ?hy4b (by assumption) ?rest4b
            case hi4b => (simp only [List.getElem?_toArray, List.getElem?_cons_succ, List.getElem?_cons_zero]; first | done | rfl)
            case hq4b => first | exact fun _ _ _ h => h | exact fun _ _ _ h => (by cases h.1)
            case hy4b => (refine Or.inl ⟨by rfl, ?_⟩; intro wz hSw; obtain ⟨hS1, hS4⟩ := hSw; go_simp; first | done | with_reducible rfl | simp | omega)
            try simp only [Act.put, List.setIfInBounds_toArray, List.set_cons_zero, List.set_cons_succ]
            refine anyT_one (i := 5) (by kernel_rfl) rfl (fun K' hK => ?_)
            go_simp
            refine (IsLine_any A1 n c1 zs A' n c2' x.1 Wd hId hXd (by omega) (by omega)).mono ?_
            rw [K1.out]
            rintro e W2 ⟨rfl, hB2⟩
            have z2 := hB2.size
            have hE2 := hbd.trans (hB2.mono zd)
            have hS2 : (fun w' : World => w'.cell? ⟨g, p + 1, none⟩ = some (.slice A' n c2') ∧ w'.cell? ⟨g, p, none⟩ = some (.slice A9 n c9)) W2 := ⟨(Below.toUpd hB2).cell hSd.1 (by simp only; omega), (Below.toUpd hB2).cell hSd.2 (by simp only; omega)⟩
            refine hK.out _ _ (fun _ => hS2) ?_
            clear hK K'
            try simp only [Act.put, List.setIfInBounds_toArray, List.set_cons_zero, List.set_cons_succ]
            have hI2' := hId.to hB2 (Nat.le_refl _) z2
            have hX2' := hXd.to hB2 (Nat.le_refl _) z2
            refine anyT_take (i := 6) (oi := ?oi6b) (v := .bool false) ?hi6b (by kernel_rfl) ?hq6b ?hy6b (by assumption) ?rest6b
            case hi6b => (simp only [List.getElem?_toArray, List.getElem?_cons_succ, List.getElem?_cons_zero]; first | done | rfl)
            case hq6b => first | exact fun _ _ _ h => h | exact fun _ _ _ h => (by cases h.1)
            case hy6b => (refine Or.inl ⟨by rfl, ?_⟩; intro wz hSw; obtain ⟨hS1, hS4⟩ := hSw; go_simp; first | done | with_reducible rfl | simp | omega)
            try simp only [Act.put, List.setIfInBounds_toArray, List.set_cons_zero, List.set_cons_succ]
            refine anyT_take (i := 7) (oi := ?oi7b) (v := .bool false) ?hi7b (by kernel_rfl) ?hq7b ?hy7b (by assumption) ?rest7b
            case hi7b => (simp only [List.getElem?_toArray, List.getElem?_cons_succ, List.getElem?_cons_zero]; first | done | rfl)
            case hq7b => first | exact fun _ _ _ h => h | exact fun _ _ _ h => (by cases h.1)
            case hy7b => (refine Or.inl ⟨by rfl, ?_⟩; intro wz hSw; obtain ⟨hS1, hS4⟩ := hSw; go_simp; first | done | with_reducible rfl | simp | omega)
            try simp only [Act.put, List.setIfInBounds_toArray, List.set_cons_zero, List.set_cons_succ]
            refine anyT_take (i := 8) (oi := ?oi8b) (v := .slice A1 n c1) ?hi8b (by kernel_rfl) ?hq8b ?hy8b (by assumption) ?rest8b
            case hi8b => (simp only [List.getElem?_toArray, List.getElem?_cons_succ, List.getElem?_cons_zero]; first | done | rfl)
            case hq8b => first | exact fun _ _ _ h => h | exact fun _ _ _ h => (by cases h.1)
            case hy8b => (refine Or.inl ⟨by rfl, ?_⟩; intro wz hSw; obtain ⟨hS1, hS4⟩ := hSw; go_simp; first | done | with_reducible rfl | simp | omega)
            try simp only [Act.put, List.setIfInBounds_toArray, List.set_cons_zero, List.set_cons_succ]
            refine anyT_take (i := 9) (oi := ?oi9b) (v := .slice (some ⟨g, 0, none⟩) N c2) ?hi9b (by kernel_rfl) ?hq9b ?hy9b (by assumption) ?rest9b
            case hi9b => (simp only [List.getElem?_toArray, List.getElem?_cons_succ, List.getElem?_cons_zero]; first | done | rfl)
            case hq9b => first | exact fun _ _ _ h => h | exact fun _ _ _ h => (by cases h.1)
            case hy9b => (refine Or.inl ⟨by rfl, ?_⟩; intro wz hSw; obtain ⟨hS1, hS4⟩ := hSw; go_simp; first | done | with_reducible rfl | simp | omega)
            try simp only [Act.put, List.setIfInBounds_toArray, List.set_cons_zero, List.set_cons_succ]
            refine anyT_take (i := 10) (oi := ?oi10b) (v := .int .i64 ((p + 1 : Nat) : Int)) ?hi10b (by kernel_rfl) ?hq10b ?hy10b (by assumption) ?rest10b
            case hi10b => (simp only [List.getElem?_toArray, List.getElem?_cons_succ, List.getElem?_cons_zero]; first | done | rfl)
            case hq10b => first | exact fun _ _ _ h => h | exact fun _ _ _ h => (by cases h.1)
            case hy10b => (refine Or.inl ⟨by rfl, ?_⟩; intro wz hSw; obtain ⟨hS1, hS4⟩ := hSw; go_simp; first | done | with_reducible rfl | simp | omega)
            try simp only [Act.put, List.setIfInBounds_toArray, List.set_cons_zero, List.set_cons_succ]
            refine anyT_take (i := 11) (oi := ?oi11b) (v := .pointer (some ⟨g, p + 1, none⟩)) ?hi11b (by kernel_rfl) ?hq11b ?hy11b (by assumption) ?rest11b
            case hi11b => (simp only [List.getElem?_toArray, List.getElem?_cons_succ, List.getElem?_cons_zero]; first | done | rfl)
            case hq11b => first | exact fun _ _ _ h => h | exact fun _ _ _ h => (by cases h.1)
            case hy11b => (refine Or.inl ⟨by rfl, ?_⟩; intro wz hSw; obtain ⟨hS1, hS4⟩ := hSw; go_simp; first | done | with_reducible rfl | simp | omega)
            try simp only [Act.put, List.setIfInBounds_toArray, List.set_cons_zero, List.set_cons_succ]
            refine anyT_take (i := 12) (oi := ?oi12b) (v := .slice A' n c2') ?hi12b (by kernel_rfl) ?hq12b ?hy12b (by assumption) ?rest12b
            case hi12b => (simp only [List.getElem?_toArray, List.getElem?_cons_succ, List.getElem?_cons_zero]; first | done | rfl)
            case hq12b => first | exact fun _ _ _ h => h | exact fun _ _ _ h => (by cases h.1)
            case hy12b => (refine Or.inl ⟨by rfl, ?_⟩; intro wz hSw; obtain ⟨hS1, hS4⟩ := hSw; go_simp; first | done | with_reducible rfl | simp | omega)
            try simp only [Act.put, List.setIfInBounds_toArray, List.set_cons_zero, List.set_cons_succ]
            refine anyT_take (i := 14) (oi := ?oi14b) (v := .int .i64 ((p + 1 : Nat) : Int)) ?hi14b (by kernel_rfl) ?hq14b ?hy14b (by assumption) ?rest14b
            case hi14b => (simp only [List.getElem?_toArray, List.getElem?_cons_succ, List.getElem?_cons_zero]; first | done | rfl)
            case hq14b => first | exact fun _ _ _ h => h | exact fun _ _ _ h => (by cases h.1)
            case hy14b => (refine Or.inl ⟨by rfl, ?_⟩; intro wz hSw; obtain ⟨hS1, hS4⟩ := hSw; go_simp; first | done | with_reducible rfl | simp | omega)
            try simp only [Act.put, List.setIfInBounds_toArray, List.set_cons_zero, List.set_cons_succ]
            refine anyT_one (i := 13) (by kernel_rfl) rfl (fun K' hK => ?_)
            go_simp
            refine (LineRank_any A1 n c1 zs A' n c2' x.1 W2 hI2' hX2' (by omega) (by omega)).mono ?_
            rw [K2.out]
            rintro e W3 ⟨rfl, hB3⟩
            have z3' := hB3.size
            have hE3 := hE2.trans (hB3.mono (by omega))
            have hS3 : (fun w' : World => w'.cell? ⟨g, p + 1, none⟩ = some (.slice A' n c2') ∧ w'.cell? ⟨g, p, none⟩ = some (.slice A9 n c9)) W3 := ⟨(Below.toUpd hB3).cell hS2.1 (by simp only; omega), (Below.toUpd hB3).cell hS2.2 (by simp only; omega)⟩
            refine hK.out _ _ (fun _ => hS3) ?_
            clear hK K'
            try simp only [Act.put, List.setIfInBounds_toArray, List.set_cons_zero, List.set_cons_succ]
            have hX3' := hX2'.to hB3 (Nat.le_refl _) z3'
            refine anyT_take (i := 15) (oi := ?oi15b) (v := .bool false) ?hi15b (by kernel_rfl) ?hq15b ?hy15b (by assumption) ?rest15b
            case hi15b => (simp only [List.getElem?_toArray, List.getElem?_cons_succ, List.getElem?_cons_zero]; first | done | rfl)
            case hq15b => first | exact fun _ _ _ h => h | exact fun _ _ _ h => (by cases h.1)
            case hy15b => (refine Or.inl ⟨by rfl, ?_⟩; intro wz hSw; obtain ⟨hS1, hS4⟩ := hSw; go_simp; first | done | with_reducible rfl | simp | omega)
            try simp only [Act.put, List.setIfInBounds_toArray, List.set_cons_zero, List.set_cons_succ]
            refine anyT_take (i := 16) (oi := ?oi16b) (v := .bool false) ?hi16b (by kernel_rfl) ?hq16b ?hy16b (by assumption) ?rest16b
            case hi16b => (simp only [List.getElem?_toArray, List.getElem?_cons_succ, List.getElem?_cons_zero]; first | done | rfl)
            case hq16b => first | exact fun _ _ _ h => h | exact fun _ _ _ h => (by cases h.1)
            case hy16b => (refine Or.inl ⟨by rfl, ?_⟩; intro wz hSw; obtain ⟨hS1, hS4⟩ := hSw; go_simp; first | done | with_reducible rfl | simp | omega)
            try simp only [Act.put, List.setIfInBounds_toArray, List.set_cons_zero, List.set_cons_succ]
            refine anyT_take (i := 17) (oi := ?oi17b) (v := .bool false) ?hi17b (by kernel_rfl) ?hq17b ?hy17b (by assumption) ?rest17b
            case hi17b => (simp only [List.getElem?_toArray, List.getElem?_cons_succ, List.getElem?_cons_zero]; first | done | rfl)
            case hq17b => first | exact fun _ _ _ h => h | exact fun _ _ _ h => (by cases h.1)
            case hy17b => (refine Or.inl ⟨by rfl, ?_⟩; intro wz hSw; obtain ⟨hS1, hS4⟩ := hSw; go_simp; first | done | with_reducible rfl | simp | omega)
            try simp only [Act.put, List.setIfInBounds_toArray, List.set_cons_zero, List.set_cons_succ]
            refine anyT_take (i := 18) (oi := ?oi18b) (v := .int .i64 ((p + 1 : Nat) : Int)) ?hi18b (by kernel_rfl) ?hq18b ?hy18b (by assumption) ?rest18b
            case hi18b => (simp only [List.getElem?_toArray, List.getElem?_cons_succ, List.getElem?_cons_zero]; first | done | rfl)
            case hq18b => first | exact fun _ _ _ h => h | exact fun _ _ _ h => (by cases h.1)
            case hy18b => (refine Or.inl ⟨by rfl, ?_⟩; intro wz hSw; obtain ⟨hS1, hS4⟩ := hSw; go_simp; first | done | with_reducible rfl | simp | omega)
            try simp only [Act.put, List.setIfInBounds_toArray, List.set_cons_zero, List.set_cons_succ]
            refine anyT_take (i := 19) (oi := ?oi19b) (v := .bool true) ?hi19b (by kernel_rfl) ?hq19b ?hy19b (by assumption) ?rest19b
            case hi19b => (simp only [List.getElem?_toArray, List.getElem?_cons_succ, List.getElem?_cons_zero]; first | done | rfl)
            case hq19b => first | exact fun _ _ _ h => h | exact fun _ _ _ h => (by cases h.1)
            case hy19b => (refine Or.inl ⟨by rfl, ?_⟩; intro wz hSw; obtain ⟨hS1, hS4⟩ := hSw; go_simp; first | done | with_reducible rfl | simp | omega)
            try simp only [Act.put, List.setIfInBounds_toArray, List.set_cons_zero, List.set_cons_succ]
            refine anyT_take (i := 20) (oi := ?oi20b) (v := .bool true) ?hi20b (by kernel_rfl) ?hq20b ?hy20b (by assumption) ?rest20b
            case hi20b => (simp only [List.getElem?_toArray, List.getElem?_cons_succ, List.getElem?_cons_zero]; first | done | rfl)
            case hq20b => first | exact fun _ _ _ h => h | exact fun _ _ _ h => (by cases h.1)
            case hy20b => (refine Or.inl ⟨by rfl, ?_⟩; intro wz hSw; obtain ⟨hS1, hS4⟩ := hSw; go_simp; first | done | with_reducible rfl | simp | omega)
            try simp only [Act.put, List.setIfInBounds_toArray, List.set_cons_zero, List.set_cons_succ]
            refine anyT_take (i := 21) (oi := ?oi21b) (v := .slice (some ⟨g, 0, none⟩) N c2) ?hi21b (by kernel_rfl) ?hq21b ?hy21b (by assumption) ?rest21b
            case hi21b => (simp only [List.getElem?_toArray, List.getElem?_cons_succ, List.getElem?_cons_zero]; first | done | rfl)
            case hq21b => first | exact fun _ _ _ h => h | exact fun _ _ _ h => (by cases h.1)
            case hy21b => (refine Or.inl ⟨by rfl, ?_⟩; intro wz hSw; obtain ⟨hS1, hS4⟩ := hSw; go_simp; first | done | with_reducible rfl | simp | omega)
            try simp only [Act.put, List.setIfInBounds_toArray, List.set_cons_zero, List.set_cons_succ]
            refine anyT_take (i := 22) (oi := ?oi22b) (v := .int .i64 ((p + 1 : Nat) : Int)) ?hi22b (by kernel_rfl) ?hq22b ?hy22b (by assumption) ?rest22b
            case hi22b => (simp only [List.getElem?_toArray, List.getElem?_cons_succ, List.getElem?_cons_zero]; first | done | rfl)
            case hq22b => first | exact fun _ _ _ h => h | exact fun _ _ _ h => (by cases h.1)
            case hy22b => (refine Or.inl ⟨by rfl, ?_⟩; intro wz hSw; obtain ⟨hS1, hS4⟩ := hSw; go_simp; first | done | with_reducible rfl | simp | omega)
            try simp only [Act.put, List.setIfInBounds_toArray, List.set_cons_zero, List.set_cons_succ]
            refine anyT_take (i := 23) (oi := ?oi23b) (v := .int .i64 (p : Int)) ?hi23b (by kernel_rfl) ?hq23b ?hy23b (by assumption) ?rest23b
            case hi23b => (simp only [List.getElem?_toArray, List.getElem?_cons_succ, List.getElem?_cons_zero]; first | done | rfl)
            case hq23b => first | exact fun _ _ _ h => h | exact fun _ _ _ h => (by cases h.1)
            case hy23b => (refine Or.inl ⟨by rfl, ?_⟩; intro wz hSw; obtain ⟨hS1, hS4⟩ := hSw; go_simp; first | done | with_reducible rfl | simp [hwp, hwp2, hwp3] | omega)
            try simp only [Act.put, List.setIfInBounds_toArray, List.set_cons_zero, List.set_cons_succ]
            refine anyT_take (i := 24) (oi := ?oi24b) (v := .pointer (some ⟨g, p, none⟩)) ?hi24b (by kernel_rfl) ?hq24b ?hy24b (by assumption) ?rest24b
            case hi24b => (simp only [List.getElem?_toArray, List.getElem?_cons_succ, List.getElem?_cons_zero]; first | done | rfl)
            case hq24b => first | exact fun _ _ _ h => h | exact fun _ _ _ h => (by cases h.1)
            case hy24b => (refine Or.inl ⟨by rfl, ?_⟩; intro wz hSw; obtain ⟨hS1, hS4⟩ := hSw; go_simp; first | done | with_reducible rfl | simp | omega)
            try simp only [Act.put, List.setIfInBounds_toArray, List.set_cons_zero, List.set_cons_succ]
            refine anyT_take (i := 25) (oi := ?oi25b) (v := .slice A9 n c9) ?hi25b (by kernel_rfl) ?hq25b ?hy25b (by assumption) ?rest25b
            case hi25b => (simp only [List.getElem?_toArray, List.getElem?_cons_succ, List.getElem?_cons_zero]; first | done | rfl)
            case hq25b => first | exact fun _ _ _ h => h | exact fun _ _ _ h => (by cases h.1)
            case hy25b => (refine Or.inl ⟨by rfl, ?_⟩; intro wz hSw; obtain ⟨hS1, hS4⟩ := hSw; go_simp; first | done | with_reducible rfl | simp | omega)
            try simp only [Act.put, List.setIfInBounds_toArray, List.set_cons_zero, List.set_cons_succ]
            refine anyT_take (i := 26) (oi := ?oi26b) (v := .slice (some ⟨g, 0, none⟩) N c2) ?hi26b (by kernel_rfl) ?hq26b ?hy26b (by assumption) ?rest26b
            case hi26b => (simp only [List.getElem?_toArray, List.getElem?_cons_succ, List.getElem?_cons_zero]; first | done | rfl)
            case hq26b => first | exact fun _ _ _ h => h | exact fun _ _ _ h => (by cases h.1)
            case hy26b => (refine Or.inl ⟨by rfl, ?_⟩; intro wz hSw; obtain ⟨hS1, hS4⟩ := hSw; go_simp; first | done | with_reducible rfl | simp | omega)
            try simp only [Act.put, List.setIfInBounds_toArray, List.set_cons_zero, List.set_cons_succ]
            refine anyT_take (i := 27) (oi := ?oi27b) (v := .int .i64 ((p + 1 : Nat) : Int)) ?hi27b (by kernel_rfl) ?hq27b ?hy27b (by assumption) ?rest27b
            case hi27b => (simp only [List.getElem?_toArray, List.getElem?_cons_succ, List.getElem?_cons_zero]; first | done | rfl)
            case hq27b => first | exact fun _ _ _ h => h | exact fun _ _ _ h => (by cases h.1)
            case hy27b => (refine Or.inl ⟨by rfl, ?_⟩; intro wz hSw; obtain ⟨hS1, hS4⟩ := hSw; go_simp; first | done | with_reducible rfl | simp | omega)
            try simp only [Act.put, List.setIfInBounds_toArray, List.set_cons_zero, List.set_cons_succ]
            refine anyT_take (i := 28) (oi := ?oi28b) (v := .pointer (some ⟨g, p + 1, none⟩)) ?hi28b (by kernel_rfl) ?hq28b ?hy28b (by assumption) ?rest28b
            case hi28b => (simp only [List.getElem?_toArray, List.getElem?_cons_succ, List.getElem?_cons_zero]; first | done | rfl)
            case hq28b => first | exact fun _ _ _ h => h | exact fun _ _ _ h => (by cases h.1)
            case hy28b => (refine Or.inl ⟨by rfl, ?_⟩; intro wz hSw; obtain ⟨hS1, hS4⟩ := hSw; go_simp; first | done | with_reducible rfl | simp | omega)
            try simp only [Act.put, List.setIfInBounds_toArray, List.set_cons_zero, List.set_cons_succ]
            refine anyT_take (i := 29) (oi := ?oi29b) (v := .slice A' n c2') ?hi29b (by kernel_rfl) ?hq29b ?hy29b (by assumption) ?rest29b
            case hi29b => (simp only [List.getElem?_toArray, List.getElem?_cons_succ, List.getElem?_cons_zero]; first | done | rfl)
            case hq29b => first | exact fun _ _ _ h => h | exact fun _ _ _ h => (by cases h.1)
            case hy29b => (refine Or.inl ⟨by rfl, ?_⟩; intro wz hSw; obtain ⟨hS1, hS4⟩ := hSw; go_simp; first | done | with_reducible rfl | simp | omega)
            try simp only [Act.put, List.setIfInBounds_toArray, List.set_cons_zero, List.set_cons_succ]
            refine anyT_one (i := 30) (by kernel_rfl) rfl (fun K' hK => ?_)
            go_simp
            have hY3 := (hYd.to hB2 (Nat.le_refl _) z2).to hB3 (Nat.le_refl _) z3'
            refine (below_quiet (lessRow_any A9 A' n c9 n c2' W3.heap.size W3.heap.size y.1 x.1 W3 hY3 hX3' (by omega) (by omega))).mono ?_
            rw [K4.out]
            rintro e W4 ⟨rfl, hB4⟩
            have z4' := hB4.size
            have hE4 := hE3.trans (hB4.mono (by omega))
            have hS4' : (fun w' : World => w'.cell? ⟨g, p + 1, none⟩ = some (.slice A' n c2') ∧ w'.cell? ⟨g, p, none⟩ = some (.slice A9 n c9)) W4 := ⟨(Below.toUpd hB4).cell hS3.1 (by simp only; omega), (Below.toUpd hB4).cell hS3.2 (by simp only; omega)⟩
            refine hK.out _ _ (fun _ => hS4') ?_
            clear hK K'
            try simp only [Act.put, List.setIfInBounds_toArray, List.set_cons_zero, List.set_cons_succ]
            refine anyT_take (i := 31) (oi := ?oi31b) (v := .bool false) ?hi31b (by kernel_rfl) ?hq31b ?hy31b (by assumption) ?rest31b
            case hi31b => (simp only [List.getElem?_toArray, List.getElem?_cons_succ, List.getElem?_cons_zero]; first | done | rfl)
            case hq31b => first | exact fun _ _ _ h => h | exact fun _ _ _ h => (by cases h.1)
            case hy31b => (refine Or.inl ⟨by rfl, ?_⟩; intro wz hSw; obtain ⟨hS1, hS4⟩ := hSw; go_simp; first | done | with_reducible rfl | simp | omega)
            try simp only [Act.put, List.setIfInBounds_toArray, List.set_cons_zero, List.set_cons_succ]
            refine anyT_take (i := 32) (oi := ?oi32b) (v := .bool false) ?hi32b (by kernel_rfl) ?hq32b ?hy32b (by assumption) ?rest32b
            case hi32b => (simp only [List.getElem?_toArray, List.getElem?_cons_succ, List.getElem?_cons_zero]; first | done | rfl)
            case hq32b => first | exact fun _ _ _ h => h | exact fun _ _ _ h => (by cases h.1)
            case hy32b => (refine Or.inl ⟨by rfl, ?_⟩; intro wz hSw; obtain ⟨hS1, hS4⟩ := hSw; go_simp; first | done | with_reducible rfl | simp | omega)
            try simp only [Act.put, List.setIfInBounds_toArray, List.set_cons_zero, List.set_cons_succ]
            refine anyT_one (i := 33) (by kernel_rfl) rfl (fun K' hK => ?_)
            go_simp
            refine hK.out _ _ (fun h => absurd rfl h) ?_
            clear hK K'
            try simp only [Act.put, List.setIfInBounds_toArray, List.set_cons_zero, List.set_cons_succ]
            refine anyT_done (by kernel_rfl) ?_ _
            go_wp2
            go_roundw
            case rel => exact ⟨p + 1 + 1, by omega, by go_num, hBr.trans (hE4.mono zr)⟩
            case measure => simp [intOf]; omega
        · obtain rfl : k = N := by omega
          have hcb : ((k : Int) == linesR zs) = true := by rw [← Hcnt.out]; simp
          go_wp2_with fail
          refine (CountLines_any A1 n c1 zs wr hIr (by omega)).mono ?_
          rintro e w5 ⟨rfl, hB5⟩
          go_wp2_with fail
          go_ret
          exact ⟨rfl, C4.trans ((hBr.trans (hB5.mono zr)).mono (by omega))⟩
  · go_enter Try.func9, Try.ntmps9
    go_wp2
    go_ret
    exact ⟨rfl, Below.refl _ _⟩
end Go.Proofs.Ytghogabmkbadjab

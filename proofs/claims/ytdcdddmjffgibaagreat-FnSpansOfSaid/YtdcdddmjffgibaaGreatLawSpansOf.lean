/- SpansOf's own law: spans tell the order. -/
import Derived.Test.YtdcdddmjffgibaaGreatDrSpansOf
import Derived.Test.YtdcdddmjffgibaaGreatSpS
import Derived.Test.YtdcdddmjffgibaaGreatSpO
import Derived.Test.YtdcdddmjffgibaaGreatSoL
import Derived.Test.YtdcdddmjffgibaaGreatRowsL
import Derived.Test.YtdcdddmjffgibaaGreatEqI
import Derived.Test.YtdcdddmjffgibaaGreatGc
import Derived.Test.YtdcdddmjffgibaaGreatDfF
set_option linter.unusedVariables false
set_option linter.unusedSimpArgs false
namespace Go.Proofs.YtdcdddmjffgibaaGreat
open Go.RowKit Go.Shelf

set_option maxRecDepth 100000 in
set_option maxHeartbeats 8000000 in
theorem fnSpansOf_walk (A : Option Addr) (m c : Nat) (bs : List Int) (w : World) (h : Byts w w.heap.size A m bs) (hcap : m ≤ c) :
    Calls Tryz.prog 4 #[.slice A m c] w fun e w' => e = .returned (.bool true) ∧ Below w.heap.size w w' := by
  by_cases hs : m ≤ 1048576
  · go_enter Tryz.func4, Tryz.ntmps4
    go_wp2_with fail
    refine (drawSpansOf_any A m c bs w h hcap (by omega)).mono ?_
    rintro e w1 ⟨A1, n, c1, zs, rfl, hn7, hI1, C1⟩
    have hlen := Lib.hid hI1.len
    cases hv : spansB zs
    · have HS := Lib.hid hv
      obtain ⟨rs, hrs, hrl, hrr⟩ : ∃ rs, spansR zs = rs ∧ rs.length ≤ 1048576 ∧ ∀ r ∈ rs, r.length ≤ 1048576 := ⟨_, rfl, by unfold spansR; rw [hv]; simp, by unfold spansR; rw [hv]; simp⟩
      have HRS := Lib.hid hrs
      clear hrs hv
      go_wp2_with fail
      refine (SpansOf_any A1 n c1 zs w1 hI1 (by omega)).mono ?_
      rw [HS.out]
      rintro e w2 ⟨A2, m2, c2, rfl, r2, hB2⟩
      have z2 := hB2.size
      have C2 := C1.trans (hB2.mono C1.size)
      have hI2 := hI1.to hB2 (Nat.le_refl _) z2
      clear hI1 hB2 C1
      rw [HRS.out] at r2
      have ha2 := r2.ints (B := w2.heap.size) (Nat.le_refl _)
      have e2 := r2.len
      subst e2
      clear r2
      go_wp2_with fail
      refine (specSpansOfF_any A1 n c1 zs w2 hI2 (by omega)).mono ?_
      rw [HS.out]
      rintro e w3 ⟨A3, m3, c3, rfl, r3, hB3⟩
      have z3 := hB3.size
      have C3 := C2.trans (hB3.mono C2.size)
      have hI3 := hI2.to hB3 (Nat.le_refl _) z3
      have ha3 := ha2.to hB3 (Nat.le_refl _) z3
      clear hI2 ha2 hB3 C2
      rw [HRS.out] at r3
      have hb3 := r3.ints (B := w3.heap.size) (Nat.le_refl _)
      have e3 := r3.len
      subst e3
      clear r3
      go_wp2_with fail
      refine (equalRowsSame_any A2 A3 _ c2 _ c3 w3.heap.size w3.heap.size rs w3 ha3 hb3 hrl hrl hrr).mono ?_
      rintro e w4 ⟨rfl, hB4⟩
      have z4 := hB4.size
      have C4 := C3.trans (hB4.mono C3.size)
      have hI4 := hI3.to hB4 (Nat.le_refl _) z4
      have ha4 := ha3.to hB4 (Nat.le_refl _) z4
      have hb4 := hb3.to hB4 (Nat.le_refl _) z4
      clear hI3 ha3 hb3 hB4 C3
      go_wp2_with fail
      refine (equalRowsSame_any A2 A3 _ c2 _ c3 w4.heap.size w4.heap.size rs w4 ha4 hb4 hrl hrl hrr).mono ?_
      rintro e w5 ⟨rfl, hB5⟩
      have z5 := hB5.size
      have C5 := C4.trans (hB5.mono C4.size)
      have hI5 := hI4.to hB5 (Nat.le_refl _) z5
      have ha5 := ha4.to hB5 (Nat.le_refl _) z5
      have hb5 := hb4.to hB5 (Nat.le_refl _) z5
      clear hI4 ha4 hb4 hB5 C4
      go_wp2_with fail
      go_ret
      exact ⟨rfl, C5⟩
    · obtain ⟨hvo, hnt⟩ : VoP zs ∧ twoB zs = false := by unfold spansB at hv; rw [Bool.and_eq_true] at hv; exact ⟨by simpa [vo] using hv.1, by simpa using hv.2⟩
      have HS := Lib.hid hv
      have hup := ups_downs hvo hnt
      obtain ⟨u, hu⟩ : ∃ u, upsR zs = u := ⟨_, rfl⟩
      have HDn := Lib.hid (show downsR zs = u by rw [← hu]; unfold upsR downsR; rw [vo_true hvo, if_pos rfl, if_pos rfl, hup])
      obtain ⟨rs, hrs, hrl, hrr, hsb, hso, hnum⟩ : ∃ rs, spansR zs = rs ∧ rs.length ≤ 1048576 ∧ (∀ r ∈ rs, r.length ≤ 1048576) ∧ soB rs = true ∧ soR rs = zs ∧ (∀ k, k < rs.length → ∃ f l : Int, rs[k]?.getD [] = [f, l] ∧ f ≤ l ∧ l < u) := by
        have h6 := hvo.1
        refine ⟨spR zs, by unfold spansR; rw [hv, if_pos rfl], by rw [spR_len]; omega, spR_rows zs, spR_so hvo hnt, spR_back hvo hnt, fun k hk => ?_⟩
        rw [spR_len] at hk
        have hok := span_ok hvo hnt hk
        refine ⟨_, _, spR_row zs hk, by omega, ?_⟩
        rw [← hu]; unfold upsR; rw [vo_true hvo, if_pos rfl]; omega
      have HU := Lib.hid hu
      have HRS := Lib.hid hrs
      have HSB := Lib.hid hsb
      have HSO := Lib.hid hso
      have HN := Lib.hid hnum
      have hn6 : n ≤ 6 := by have := hvo.1; rw [hlen.out] at this; exact this
      clear hu hrs hsb hso hnum hup hv
      go_wp2_with fail
      refine (SpansOf_any A1 n c1 zs w1 hI1 (by omega)).mono ?_
      rw [HS.out]
      rintro e w2 ⟨A2, m2, c2, rfl, r2, hB2⟩
      have z2 := hB2.size
      have C2 := C1.trans (hB2.mono C1.size)
      have hI2 := hI1.to hB2 (Nat.le_refl _) z2
      clear hI1 hB2 C1
      rw [HRS.out] at r2
      have ha2 := r2.ints (B := w2.heap.size) (Nat.le_refl _)
      have e2 := r2.len
      subst e2
      clear r2
      go_wp2_with fail
      refine (specSpansOfF_any A1 n c1 zs w2 hI2 (by omega)).mono ?_
      rw [HS.out]
      rintro e w3 ⟨A3, m3, c3, rfl, r3, hB3⟩
      have z3 := hB3.size
      have C3 := C2.trans (hB3.mono C2.size)
      have hI3 := hI2.to hB3 (Nat.le_refl _) z3
      have ha3 := ha2.to hB3 (Nat.le_refl _) z3
      clear hI2 ha2 hB3 C2
      rw [HRS.out] at r3
      have hb3 := r3.ints (B := w3.heap.size) (Nat.le_refl _)
      have e3 := r3.len
      subst e3
      clear r3
      go_wp2_with fail
      refine (equalRowsSame_any A2 A3 _ c2 _ c3 w3.heap.size w3.heap.size rs w3 ha3 hb3 hrl hrl hrr).mono ?_
      rintro e w4 ⟨rfl, hB4⟩
      have z4 := hB4.size
      have C4 := C3.trans (hB4.mono C3.size)
      have hI4 := hI3.to hB4 (Nat.le_refl _) z4
      have ha4 := ha3.to hB4 (Nat.le_refl _) z4
      have hb4 := hb3.to hB4 (Nat.le_refl _) z4
      clear hI3 ha3 hb3 hB4 C3
      clear hb4
      go_wp2_with fail
      refine (SpansOrder_any A2 _ c2 rs w4 ha4 hrl hrr).mono ?_
      rw [HSB.out]
      rintro e w5 ⟨A5, m5, c5, rfl, r5, hB5⟩
      have z5 := hB5.size
      have C5 := C4.trans (hB5.mono C4.size)
      have hI5 := hI4.to hB5 (Nat.le_refl _) z5
      have ha5 := ha4.to hB5 (Nat.le_refl _) z5
      clear hI4 ha4 hB5 C4
      rw [HSO.out] at r5
      have ho5 := r5.ints (B := w5.heap.size) (Nat.le_refl _)
      have e5 := r5.len
      rw [hlen.out] at e5
      subst e5
      clear r5
      go_wp2_with fail
      go_loopw [10] (fun i wr => ∃ k : Nat, k ≤ rs.length ∧ i = .int .i64 k ∧ Below w5.heap.size w5 wr) (fun i _ => rs.length - (intOf i).toNat)
      case atStart => exact ⟨0, by omega, rfl, Below.refl _ _⟩
      case round =>
        obtain ⟨k, hk, rfl, hBr⟩ := hrel
        rename World => wr
        have zr := hBr.size
        have hIr := hI5.to hBr (Nat.le_refl _) zr
        have har := ha5.to hBr (Nat.le_refl _) zr
        have hor := ho5.to hBr (Nat.le_refl _) zr
        have Cr := C5.trans (hBr.mono C5.size)
        by_cases hlt : k < rs.length
        · obtain ⟨f, l, hr, hfl, hlu⟩ := HN.out k hlt
          obtain ⟨b, off, rfl, hb, hc⟩ := har.at_ hlt
          obtain ⟨A', c', hcell, hI⟩ := hc k hlt
          rw [hr] at hcell hI
          obtain ⟨b', off', rfl, hb', hc'⟩ := hI.at_ (k := 0) (by simp)
          have h0 : wr.cell? ⟨b', off', none⟩ = some (.int .i64 f) := hc' 0 (by simp)
          have h1 : wr.cell? ⟨b', off' + 1, none⟩ = some (.int .i64 l) := hc' 1 (by simp)
          have hcl : wr.cell? ⟨b, off + k, none⟩ = some (.slice (some ⟨b', off', none⟩) 2 c') := hcell
          have hgt : decide (l < f) = false := decide_eq_false (by omega)
          have hge : decide (u ≤ l) = false := decide_eq_false (by omega)
          clear hc hcell hI hc' hr har hor Cr
          go_wp2_with fail
          refine region_T (S := (fun w' => w'.cell? ⟨b, off + k, none⟩ = some (.slice (some ⟨b', off', none⟩) 2 c') ∧ w'.cell? ⟨b', off', none⟩ = some (.int .i64 f) ∧ w'.cell? ⟨b', off' + 1, none⟩ = some (.int .i64 l))) 23 (by kernel_rfl) ?_
          have hSd : (fun w' => w'.cell? ⟨b, off + k, none⟩ = some (.slice (some ⟨b', off', none⟩) 2 c') ∧ w'.cell? ⟨b', off', none⟩ = some (.int .i64 f) ∧ w'.cell? ⟨b', off' + 1, none⟩ = some (.int .i64 l)) wr.drew := ⟨hcl, h0, h1⟩
          have hBd : Below w5.heap.size w5 wr.drew := below_drewN hBr 1
          have hzl : wr.heap.size ≤ wr.drew.heap.size := Nat.le_refl _
          obtain ⟨Wd, hWd⟩ : ∃ Wd, wr.drew = Wd := ⟨_, rfl⟩
          rw [hWd] at hSd hBd hzl ⊢
          clear hWd hcl h0 h1 hIr hBr
          have zd := hBd.size
          have hId := hI5.to hBd (Nat.le_refl _) zd
          refine anyT_take (i := 0) (oi := ?oi0a) (v := .slice (some ⟨b, off, none⟩) rs.length c2) ?hi0a (by kernel_rfl) ?hq0a ?hy0a (by assumption) ?rest0a
          case hi0a => (simp only [List.getElem?_toArray, List.getElem?_cons_zero]; first | done | rfl)
          case hq0a => first | exact fun _ _ _ h => h | exact fun _ _ _ h => (by cases h.1)
          case hy0a => (refine Or.inl ⟨by rfl, ?_⟩; intro wz hSw; go_simp; first | done | with_reducible rfl | simp | omega)
          try simp only [Act.put, List.setIfInBounds_toArray, List.set_cons_zero, List.set_cons_succ]
          refine anyT_take (i := 1) (oi := ?oi1a) (v := .int .i64 (k : Int)) ?hi1a (by kernel_rfl) ?hq1a ?hy1a (by assumption) ?rest1a
          case hi1a => (simp only [List.getElem?_toArray, List.getElem?_cons_succ, List.getElem?_cons_zero]; first | done | rfl)
          case hq1a => first | exact fun _ _ _ h => h | exact fun _ _ _ h => (by cases h.1)
          case hy1a => (refine Or.inl ⟨by rfl, ?_⟩; intro wz hSw; go_simp; first | done | with_reducible rfl | simp | omega)
          try simp only [Act.put, List.setIfInBounds_toArray, List.set_cons_zero, List.set_cons_succ]
          refine anyT_take (i := 2) (oi := ?oi2a) (v := .pointer (some ⟨b, off + k, none⟩)) ?hi2a (by kernel_rfl) ?hq2a ?hy2a (by assumption) ?rest2a
          case hi2a => (simp only [List.getElem?_toArray, List.getElem?_cons_succ, List.getElem?_cons_zero]; first | done | rfl)
          case hq2a => first | exact fun _ _ _ h => h | exact fun _ _ _ h => (by cases h.1)
          case hy2a => (refine Or.inl ⟨by rfl, ?_⟩; intro wz hSw; go_simp; first | done | with_reducible rfl | simp | omega)
          try simp only [Act.put, List.setIfInBounds_toArray, List.set_cons_zero, List.set_cons_succ]
          refine anyT_take (i := 3) (oi := ?oi3a) (v := .slice (some ⟨b', off', none⟩) 2 c') ?hi3a (by kernel_rfl) ?hq3a ?hy3a (by assumption) ?rest3a
          case hi3a => (simp only [List.getElem?_toArray, List.getElem?_cons_succ, List.getElem?_cons_zero]; first | done | rfl)
          case hq3a => first | exact fun _ _ _ h => h | exact fun _ _ _ h => (by cases h.1)
          case hy3a => (refine Or.inl ⟨by rfl, ?_⟩; intro wz hSw; obtain ⟨hS1, hS2, hS3⟩ := hSw; go_simp; first | done | with_reducible rfl | simp | omega)
          try simp only [Act.put, List.setIfInBounds_toArray, List.set_cons_zero, List.set_cons_succ]
          refine anyT_take (i := 4) (oi := ?oi4a) (v := .pointer (some ⟨b', off', none⟩)) ?hi4a (by kernel_rfl) ?hq4a ?hy4a (by assumption) ?rest4a
          case hi4a => (simp only [List.getElem?_toArray, List.getElem?_cons_succ, List.getElem?_cons_zero]; first | done | rfl)
          case hq4a => first | exact fun _ _ _ h => h | exact fun _ _ _ h => (by cases h.1)
          case hy4a => (refine Or.inl ⟨by rfl, ?_⟩; intro wz hSw; go_simp; first | done | with_reducible rfl | simp | omega)
          try simp only [Act.put, List.setIfInBounds_toArray, List.set_cons_zero, List.set_cons_succ]
          refine anyT_take (i := 5) (oi := ?oi5a) (v := .int .i64 f) ?hi5a (by kernel_rfl) ?hq5a ?hy5a (by assumption) ?rest5a
          case hi5a => (simp only [List.getElem?_toArray, List.getElem?_cons_succ, List.getElem?_cons_zero]; first | done | rfl)
          case hq5a => first | exact fun _ _ _ h => h | exact fun _ _ _ h => (by cases h.1)
          case hy5a => (refine Or.inl ⟨by rfl, ?_⟩; intro wz hSw; obtain ⟨hS1, hS2, hS3⟩ := hSw; go_simp; first | done | with_reducible rfl | simp | omega)
          try simp only [Act.put, List.setIfInBounds_toArray, List.set_cons_zero, List.set_cons_succ]
          refine anyT_take (i := 6) (oi := ?oi6a) (v := .slice (some ⟨b, off, none⟩) rs.length c2) ?hi6a (by kernel_rfl) ?hq6a ?hy6a (by assumption) ?rest6a
          case hi6a => (simp only [List.getElem?_toArray, List.getElem?_cons_succ, List.getElem?_cons_zero]; first | done | rfl)
          case hq6a => first | exact fun _ _ _ h => h | exact fun _ _ _ h => (by cases h.1)
          case hy6a => (refine Or.inl ⟨by rfl, ?_⟩; intro wz hSw; go_simp; first | done | with_reducible rfl | simp | omega)
          try simp only [Act.put, List.setIfInBounds_toArray, List.set_cons_zero, List.set_cons_succ]
          refine anyT_take (i := 7) (oi := ?oi7a) (v := .int .i64 (k : Int)) ?hi7a (by kernel_rfl) ?hq7a ?hy7a (by assumption) ?rest7a
          case hi7a => (simp only [List.getElem?_toArray, List.getElem?_cons_succ, List.getElem?_cons_zero]; first | done | rfl)
          case hq7a => first | exact fun _ _ _ h => h | exact fun _ _ _ h => (by cases h.1)
          case hy7a => (refine Or.inl ⟨by rfl, ?_⟩; intro wz hSw; go_simp; first | done | with_reducible rfl | simp | omega)
          try simp only [Act.put, List.setIfInBounds_toArray, List.set_cons_zero, List.set_cons_succ]
          refine anyT_take (i := 8) (oi := ?oi8a) (v := .pointer (some ⟨b, off + k, none⟩)) ?hi8a (by kernel_rfl) ?hq8a ?hy8a (by assumption) ?rest8a
          case hi8a => (simp only [List.getElem?_toArray, List.getElem?_cons_succ, List.getElem?_cons_zero]; first | done | rfl)
          case hq8a => first | exact fun _ _ _ h => h | exact fun _ _ _ h => (by cases h.1)
          case hy8a => (refine Or.inl ⟨by rfl, ?_⟩; intro wz hSw; go_simp; first | done | with_reducible rfl | simp | omega)
          try simp only [Act.put, List.setIfInBounds_toArray, List.set_cons_zero, List.set_cons_succ]
          refine anyT_take (i := 9) (oi := ?oi9a) (v := .slice (some ⟨b', off', none⟩) 2 c') ?hi9a (by kernel_rfl) ?hq9a ?hy9a (by assumption) ?rest9a
          case hi9a => (simp only [List.getElem?_toArray, List.getElem?_cons_succ, List.getElem?_cons_zero]; first | done | rfl)
          case hq9a => first | exact fun _ _ _ h => h | exact fun _ _ _ h => (by cases h.1)
          case hy9a => (refine Or.inl ⟨by rfl, ?_⟩; intro wz hSw; obtain ⟨hS1, hS2, hS3⟩ := hSw; go_simp; first | done | with_reducible rfl | simp | omega)
          try simp only [Act.put, List.setIfInBounds_toArray, List.set_cons_zero, List.set_cons_succ]
          refine anyT_take (i := 10) (oi := ?oi10a) (v := .pointer (some ⟨b', off' + 1, none⟩)) ?hi10a (by kernel_rfl) ?hq10a ?hy10a (by assumption) ?rest10a
          case hi10a => (simp only [List.getElem?_toArray, List.getElem?_cons_succ, List.getElem?_cons_zero]; first | done | rfl)
          case hq10a => first | exact fun _ _ _ h => h | exact fun _ _ _ h => (by cases h.1)
          case hy10a => (refine Or.inl ⟨by rfl, ?_⟩; intro wz hSw; go_simp; first | done | with_reducible rfl | simp | omega)
          try simp only [Act.put, List.setIfInBounds_toArray, List.set_cons_zero, List.set_cons_succ]
          refine anyT_take (i := 11) (oi := ?oi11a) (v := .int .i64 l) ?hi11a (by kernel_rfl) ?hq11a ?hy11a (by assumption) ?rest11a
          case hi11a => (simp only [List.getElem?_toArray, List.getElem?_cons_succ, List.getElem?_cons_zero]; first | done | rfl)
          case hq11a => first | exact fun _ _ _ h => h | exact fun _ _ _ h => (by cases h.1)
          case hy11a => (refine Or.inl ⟨by rfl, ?_⟩; intro wz hSw; obtain ⟨hS1, hS2, hS3⟩ := hSw; go_simp; first | done | with_reducible rfl | simp | omega)
          try simp only [Act.put, List.setIfInBounds_toArray, List.set_cons_zero, List.set_cons_succ]
          refine anyT_take (i := 12) (oi := ?oi12a) (v := .bool false) ?hi12a (by kernel_rfl) ?hq12a ?hy12a (by assumption) ?rest12a
          case hi12a => (simp only [List.getElem?_toArray, List.getElem?_cons_succ, List.getElem?_cons_zero]; first | done | rfl)
          case hq12a => first | exact fun _ _ _ h => h | exact fun _ _ _ h => (by cases h.1)
          case hy12a => (refine Or.inl ⟨by rfl, ?_⟩; intro wz hSw; go_simp; first | done | with_reducible rfl | simp [hgt] | omega)
          try simp only [Act.put, List.setIfInBounds_toArray, List.set_cons_zero, List.set_cons_succ]
          refine anyT_take (i := 13) (oi := ?oi13a) (v := .bool false) ?hi13a (by kernel_rfl) ?hq13a ?hy13a (by assumption) ?rest13a
          case hi13a => (simp only [List.getElem?_toArray, List.getElem?_cons_succ, List.getElem?_cons_zero]; first | done | rfl)
          case hq13a => first | exact fun _ _ _ h => h | exact fun _ _ _ h => (by cases h.1)
          case hy13a => (refine Or.inl ⟨by rfl, ?_⟩; intro wz hSw; go_simp; first | done | with_reducible rfl | simp | omega)
          try simp only [Act.put, List.setIfInBounds_toArray, List.set_cons_zero, List.set_cons_succ]
          refine anyT_take (i := 14) (oi := ?oi14a) (v := .slice (some ⟨b, off, none⟩) rs.length c2) ?hi14a (by kernel_rfl) ?hq14a ?hy14a (by assumption) ?rest14a
          case hi14a => (simp only [List.getElem?_toArray, List.getElem?_cons_succ, List.getElem?_cons_zero]; first | done | rfl)
          case hq14a => first | exact fun _ _ _ h => h | exact fun _ _ _ h => (by cases h.1)
          case hy14a => (refine Or.inl ⟨by rfl, ?_⟩; intro wz hSw; go_simp; first | done | with_reducible rfl | simp | omega)
          try simp only [Act.put, List.setIfInBounds_toArray, List.set_cons_zero, List.set_cons_succ]
          refine anyT_take (i := 15) (oi := ?oi15a) (v := .int .i64 (k : Int)) ?hi15a (by kernel_rfl) ?hq15a ?hy15a (by assumption) ?rest15a
          case hi15a => (simp only [List.getElem?_toArray, List.getElem?_cons_succ, List.getElem?_cons_zero]; first | done | rfl)
          case hq15a => first | exact fun _ _ _ h => h | exact fun _ _ _ h => (by cases h.1)
          case hy15a => (refine Or.inl ⟨by rfl, ?_⟩; intro wz hSw; go_simp; first | done | with_reducible rfl | simp | omega)
          try simp only [Act.put, List.setIfInBounds_toArray, List.set_cons_zero, List.set_cons_succ]
          refine anyT_take (i := 16) (oi := ?oi16a) (v := .pointer (some ⟨b, off + k, none⟩)) ?hi16a (by kernel_rfl) ?hq16a ?hy16a (by assumption) ?rest16a
          case hi16a => (simp only [List.getElem?_toArray, List.getElem?_cons_succ, List.getElem?_cons_zero]; first | done | rfl)
          case hq16a => first | exact fun _ _ _ h => h | exact fun _ _ _ h => (by cases h.1)
          case hy16a => (refine Or.inl ⟨by rfl, ?_⟩; intro wz hSw; go_simp; first | done | with_reducible rfl | simp | omega)
          try simp only [Act.put, List.setIfInBounds_toArray, List.set_cons_zero, List.set_cons_succ]
          refine anyT_take (i := 17) (oi := ?oi17a) (v := .slice (some ⟨b', off', none⟩) 2 c') ?hi17a (by kernel_rfl) ?hq17a ?hy17a (by assumption) ?rest17a
          case hi17a => (simp only [List.getElem?_toArray, List.getElem?_cons_succ, List.getElem?_cons_zero]; first | done | rfl)
          case hq17a => first | exact fun _ _ _ h => h | exact fun _ _ _ h => (by cases h.1)
          case hy17a => (refine Or.inl ⟨by rfl, ?_⟩; intro wz hSw; obtain ⟨hS1, hS2, hS3⟩ := hSw; go_simp; first | done | with_reducible rfl | simp | omega)
          try simp only [Act.put, List.setIfInBounds_toArray, List.set_cons_zero, List.set_cons_succ]
          refine anyT_take (i := 18) (oi := ?oi18a) (v := .pointer (some ⟨b', off' + 1, none⟩)) ?hi18a (by kernel_rfl) ?hq18a ?hy18a (by assumption) ?rest18a
          case hi18a => (simp only [List.getElem?_toArray, List.getElem?_cons_succ, List.getElem?_cons_zero]; first | done | rfl)
          case hq18a => first | exact fun _ _ _ h => h | exact fun _ _ _ h => (by cases h.1)
          case hy18a => (refine Or.inl ⟨by rfl, ?_⟩; intro wz hSw; go_simp; first | done | with_reducible rfl | simp | omega)
          try simp only [Act.put, List.setIfInBounds_toArray, List.set_cons_zero, List.set_cons_succ]
          refine anyT_take (i := 19) (oi := ?oi19a) (v := .int .i64 l) ?hi19a (by kernel_rfl) ?hq19a ?hy19a (by assumption) ?rest19a
          case hi19a => (simp only [List.getElem?_toArray, List.getElem?_cons_succ, List.getElem?_cons_zero]; first | done | rfl)
          case hq19a => first | exact fun _ _ _ h => h | exact fun _ _ _ h => (by cases h.1)
          case hy19a => (refine Or.inl ⟨by rfl, ?_⟩; intro wz hSw; obtain ⟨hS1, hS2, hS3⟩ := hSw; go_simp; first | done | with_reducible rfl | simp | omega)
          try simp only [Act.put, List.setIfInBounds_toArray, List.set_cons_zero, List.set_cons_succ]
          refine anyT_take (i := 20) (oi := ?oi20a) (v := .slice A1 n c1) ?hi20a (by kernel_rfl) ?hq20a ?hy20a (by assumption) ?rest20a
          case hi20a => (simp only [List.getElem?_toArray, List.getElem?_cons_succ, List.getElem?_cons_zero]; first | done | rfl)
          case hq20a => first | exact fun _ _ _ h => h | exact fun _ _ _ h => (by cases h.1)
          case hy20a => (refine Or.inl ⟨by rfl, ?_⟩; intro wz hSw; go_simp; first | done | with_reducible rfl | simp | omega)
          try simp only [Act.put, List.setIfInBounds_toArray, List.set_cons_zero, List.set_cons_succ]
          refine anyT_one (i := 21) (by kernel_rfl) rfl (fun K' hK => ?_)
          go_simp
          refine (CountUps_any A1 n c1 zs Wd hId (by omega)).mono ?_
          rw [HU.out]
          rintro e W2 ⟨rfl, hB2⟩
          have z2 := hB2.size
          have hE2 := hBd.trans (hB2.mono zd)
          have hS2 : (fun w' => w'.cell? ⟨b, off + k, none⟩ = some (.slice (some ⟨b', off', none⟩) 2 c') ∧ w'.cell? ⟨b', off', none⟩ = some (.int .i64 f) ∧ w'.cell? ⟨b', off' + 1, none⟩ = some (.int .i64 l)) W2 := ⟨(World.cell?_of_block (hB2.block b (by omega))).trans hSd.1, (World.cell?_of_block (hB2.block b' (by omega))).trans hSd.2.1, (World.cell?_of_block (hB2.block b' (by omega))).trans hSd.2.2⟩
          refine hK.out _ _ (fun _ => hS2) ?_
          clear hSd hB2 hBd
          have hSd := hS2
          clear hS2
          clear hK K'
          try simp only [Act.put, List.setIfInBounds_toArray, List.set_cons_zero, List.set_cons_succ]
          refine anyT_take (i := 22) (oi := ?oi22b) (v := .bool false) ?hi22b (by kernel_rfl) ?hq22b ?hy22b (by assumption) ?rest22b
          case hi22b => (simp only [List.getElem?_toArray, List.getElem?_cons_succ, List.getElem?_cons_zero]; first | done | rfl)
          case hq22b => first | exact fun _ _ _ h => h | exact fun _ _ _ h => (by cases h.1)
          case hy22b => (refine Or.inl ⟨by rfl, ?_⟩; intro wz hSw; go_simp; first | done | with_reducible rfl | simp [hge] | omega)
          try simp only [Act.put, List.setIfInBounds_toArray, List.set_cons_zero, List.set_cons_succ]
          refine anyT_one (i := 23) (by kernel_rfl) rfl (fun K' hK => ?_)
          go_simp
          refine hK.out _ _ (fun h => absurd rfl h) ?_
          clear hK K'
          try simp only [Act.put, List.setIfInBounds_toArray, List.set_cons_zero, List.set_cons_succ]
          refine anyT_done (by kernel_rfl) ?_ _
          go_wp2_with fail
          go_roundw
          case rel => exact ⟨k + 1, by omega, by go_num, hE2⟩
          case measure => simp [intOf]; omega
        · obtain rfl : k = rs.length := by omega
          go_wp2_with fail
          refine (below_quiet (equalInts_any A5 A1 n c5 n c1 wr.heap.size wr.heap.size zs zs wr hor hIr (by omega) (by omega))).mono ?_
          rw [show decide (zs = zs) = true by simp]
          rintro e wa ⟨rfl, hBa⟩
          have za := hBa.size
          have Ca := Cr.trans (hBa.mono Cr.size)
          have hIa := hIr.to hBa (Nat.le_refl _) za
          clear hIr hor har Cr hBa
          go_wp2_with fail
          refine (CountUps_any A1 n c1 zs wa hIa (by omega)).mono ?_
          rw [HU.out]
          rintro e wb ⟨rfl, hBb⟩
          have zb := hBb.size
          have Cb := Ca.trans (hBb.mono Ca.size)
          have hIb := hIa.to hBb (Nat.le_refl _) zb
          clear hIa Ca hBb
          go_wp2_with fail
          refine (CountDowns_any A1 n c1 zs wb hIb (by omega)).mono ?_
          rw [HDn.out]
          rintro e wc ⟨rfl, hBc⟩
          have Cc := Cb.trans (hBc.mono Cb.size)
          go_wp2_with fail
          go_ret
          exact ⟨ret_bool (by simp), Cc⟩
  · go_enter Tryz.func4, Tryz.ntmps4
    go_wp2
    go_ret
    exact ⟨rfl, Below.refl _ _⟩
end Go.Proofs.YtdcdddmjffgibaaGreat

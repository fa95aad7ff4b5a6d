/- FallsBelow's own law. -/
import Derived.Test.YtcadmjpkgnbodaaDrFallsBelow
import Derived.Test.YtcadmjpkgnbodaaNuG
import Derived.Test.YtcadmjpkgnbodaaGc
import Derived.Test.YtcadmjpkgnbodaaEqI
import Derived.Test.YtcadmjpkgnbodaaSize
import Derived.Test.YtcadmjpkgnbodaaGa
import Derived.Test.YtcadmjpkgnbodaaGb
import Derived.Test.YtcadmjpkgnbodaaLongI
namespace Go.Proofs.Ytcadmjpkgnbodaa
open Go.RowKit Go.Shelf

theorem fb_at {st : Bool} {zs T : List Int} (h : VoP zs) (hT : numR st zs = T) {k : Nat} (hk : k < 5) : T[k]?.getD 0 = (nuN st zs k : Int) := by
  rw [← hT]; unfold numR; rw [vo_true h, if_pos rfl, List.getElem?_map, List.getElem?_range hk]; rfl
theorem fb_le {zs T U : List Int} (h : VoP zs) (hT : numR true zs = T) (hU : numR false zs = U) {k : Nat} (hk : k < 5) : T[k]?.getD 0 ≤ U[k]?.getD 0 := by
  rw [fb_at h hT hk, fb_at h hU hk]
  exact_mod_cast nuN_strict h k
theorem fb_none {zs T : List Int} (h : VoP zs) (hT : numR true zs = T) {L : Nat} (hL : longI zs = (L : Int)) {k : Nat} (hk : k < 5) : T[k]?.getD 0 = 0 ↔ k < L := by
  rw [fb_at h hT hk]
  have := nuN_none h k
  rw [hL] at this
  constructor
  · intro e; have := this.1 (by exact_mod_cast e); omega
  · intro e; have := this.2 (by omega); rw [this]; rfl
theorem fb_du {st : Bool} {zs : List Int} (h : VoP zs) : numR st (du zs) = numR st zs := by
  unfold numR; rw [vo_true h, vo_true (du_vo h)]
  simp only [if_true]
  exact List.map_congr_left fun k _ => by rw [nuN_du h]

set_option maxRecDepth 100000 in
set_option maxHeartbeats 8000000 in
theorem fnFallsBelow_walk (A : Option Addr) (m c : Nat) (bs : List Int) (w : World) (h : Byts w w.heap.size A m bs) (hcap : m ≤ c) :
    Calls Try.prog 11 #[.slice A m c] w fun e w' => e = .returned (.bool true) ∧ Below w.heap.size w w' := by
  by_cases hs : m ≤ 1048576
  · go_enter Try.func11, Try.ntmps11
    go_wp2_with fail
    refine (drawFallsBelow_any A m c bs w h hcap (by omega)).mono ?_
    rintro e w1 ⟨A1, n, c1, zs, rfl, hn7, hI1, C1⟩
    have hlen := Lib.hid hI1.len
    cases hv : vo zs
    · have HL := Lib.hid (numR_no (st := true) hv)
      clear hv
      go_wp2_with fail
      refine (FallsBelow_any A1 n c1 zs w1 hI1 (by omega)).mono ?_
      rintro e w2 ⟨A2, m2, c2, rfl, r2, hB2⟩
      have z2 := hB2.size
      have C2 := C1.trans (hB2.mono C1.size)
      have hI2 := hI1.to hB2 (Nat.le_refl _) z2
      have ha2 := r2.ints (B := w2.heap.size) (Nat.le_refl _)
      have e2 := r2.len
      clear hI1 hB2 C1 r2
      rw [HL.out] at ha2 e2
      simp only [List.length_nil] at e2
      subst e2
      go_wp2_with fail
      refine (specFallsBelowF_any A1 n c1 zs w2 hI2 (by omega)).mono ?_
      rintro e w3 ⟨A3, m3, c3, rfl, r3, hB3⟩
      have z3 := hB3.size
      have C3 := C2.trans (hB3.mono C2.size)
      have hI3 := hI2.to hB3 (Nat.le_refl _) z3
      have ha3 := ha2.to hB3 (Nat.le_refl _) z3
      have hb3 := r3.ints (B := w3.heap.size) (Nat.le_refl _)
      have e3 := r3.len
      clear hI2 ha2 hB3 C2 r3
      rw [HL.out] at hb3 e3
      simp only [List.length_nil] at e3
      subst e3
      go_wp2_with fail
      refine (equalSame_any _ _ _ _ _ _ _ _ _ _ ha3 hb3 (by omega) (by omega)).mono ?_
      rintro e w4 ⟨rfl, hB4⟩
      have z4 := hB4.size
      have C4 := C3.trans (hB4.mono C3.size)
      have hI4 := hI3.to hB4 (Nat.le_refl _) z4
      have ha4 := ha3.to hB4 (Nat.le_refl _) z4
      have hb4 := hb3.to hB4 (Nat.le_refl _) z4
      clear hI3 ha3 hb3 hB4 C3
      go_wp2_with fail
      refine (specFallsBelowF_any A1 n c1 zs w4 hI4 (by omega)).mono ?_
      rintro e w5 ⟨A5, m5, c5, rfl, r5, hB5⟩
      have z5 := hB5.size
      have C5 := C4.trans (hB5.mono C4.size)
      have hI5 := hI4.to hB5 (Nat.le_refl _) z5
      have ha5 := ha4.to hB5 (Nat.le_refl _) z5
      have hb5 := hb4.to hB5 (Nat.le_refl _) z5
      have hx5 := r5.ints (B := w5.heap.size) (Nat.le_refl _)
      have e5 := r5.len
      clear hI4 ha4 hb4 hB5 C4 r5
      rw [HL.out] at hx5 e5
      simp only [List.length_nil] at e5
      subst e5
      go_wp2_with fail
      refine (equalSame_any _ _ _ _ _ _ _ _ _ _ ha5 hx5 (by omega) (by omega)).mono ?_
      rintro e w6 ⟨rfl, hB6⟩
      have z6 := hB6.size
      have C6 := C5.trans (hB6.mono C5.size)
      have hI6 := hI5.to hB6 (Nat.le_refl _) z6
      have ha6 := ha5.to hB6 (Nat.le_refl _) z6
      have hb6 := hb5.to hB6 (Nat.le_refl _) z6
      have hx6 := hx5.to hB6 (Nat.le_refl _) z6
      clear hI5 ha5 hb5 hx5 hB6 C5
      go_wp2_with fail
      go_ret
      exact ⟨rfl, C6⟩
    · have hvo : VoP zs := by simpa [vo] using hv
      clear hv
      obtain ⟨T, hT⟩ : ∃ T, numR true zs = T := ⟨_, rfl⟩
      obtain ⟨U, hU⟩ : ∃ U, numR false zs = U := ⟨_, rfl⟩
      have hT5 : T.length = 5 := by rw [← hT]; unfold numR; rw [vo_true hvo]; simp
      have hU5 : U.length = 5 := by rw [← hU]; unfold numR; rw [vo_true hvo]; simp
      have HTU := Lib.hid (fun k hk => fb_le hvo hT hU (k := k) hk)
      obtain ⟨L, hL⟩ := Int.eq_ofNat_of_zero_le (longI_nn zs)
      have HTL := Lib.hid (fun k hk => fb_none hvo hT (by rw [hL]) (k := k) hk)
      have HLL := Lib.hid (show longR zs = (L : Int) by unfold longR; rw [vo_true hvo, ← hL]; rfl)
      have HD := Lib.hid (show dualR zs = du zs by unfold dualR; rw [vo_true hvo]; rfl)
      have HDN := Lib.hid (du_len zs)
      have HDT := Lib.hid ((fb_du hvo).trans hT)
      have HT := Lib.hid hT
      have HU := Lib.hid hU
      clear hT hU hL
      have hL6 : L ≤ 6 := by have h1 := longI_bd hvo; have h2 := hvo.1; have h3 := HLL.out; unfold longR at h3; rw [vo_true hvo, if_pos rfl] at h3; omega
      go_wp2_with fail
      refine (FallsBelow_any A1 n c1 zs w1 hI1 (by omega)).mono ?_
      rintro e w2 ⟨A2, m2, c2, rfl, r2, hB2⟩
      have z2 := hB2.size
      have C2 := C1.trans (hB2.mono C1.size)
      have hI2 := hI1.to hB2 (Nat.le_refl _) z2
      have ha2 := r2.ints (B := w2.heap.size) (Nat.le_refl _)
      have e2 := r2.len
      clear hI1 hB2 C1 r2
      rw [HT.out] at ha2 e2
      rw [hT5] at e2
      subst e2
      go_wp2_with fail
      refine (specFallsBelowF_any A1 n c1 zs w2 hI2 (by omega)).mono ?_
      rintro e w3 ⟨A3, m3, c3, rfl, r3, hB3⟩
      have z3 := hB3.size
      have C3 := C2.trans (hB3.mono C2.size)
      have hI3 := hI2.to hB3 (Nat.le_refl _) z3
      have ha3 := ha2.to hB3 (Nat.le_refl _) z3
      have hb3 := r3.ints (B := w3.heap.size) (Nat.le_refl _)
      have e3 := r3.len
      clear hI2 ha2 hB3 C2 r3
      rw [HT.out] at hb3 e3
      rw [hT5] at e3
      subst e3
      go_wp2_with fail
      refine (equalSame_any _ _ _ _ _ _ _ _ _ _ ha3 hb3 (by omega) (by omega)).mono ?_
      rintro e w4 ⟨rfl, hB4⟩
      have z4 := hB4.size
      have C4 := C3.trans (hB4.mono C3.size)
      have hI4 := hI3.to hB4 (Nat.le_refl _) z4
      have ha4 := ha3.to hB4 (Nat.le_refl _) z4
      have hb4 := hb3.to hB4 (Nat.le_refl _) z4
      clear hI3 ha3 hb3 hB4 C3
      clear hb4
      go_wp2_with fail
      refine (LineSums_any A1 n c1 zs w4 hI4 (by omega)).mono ?_
      rintro e w5 ⟨A5, m5, c5, rfl, r5, hB5⟩
      have z5 := hB5.size
      have C5 := C4.trans (hB5.mono C4.size)
      have hI5 := hI4.to hB5 (Nat.le_refl _) z5
      have ha5 := ha4.to hB5 (Nat.le_refl _) z5
      have hs5 := r5.ints (B := w5.heap.size) (Nat.le_refl _)
      have e5 := r5.len
      clear hI4 ha4 hB5 C4 r5
      rw [HU.out] at hs5 e5
      rw [hU5] at e5
      subst e5
      go_wp2_with fail
      go_loopw [6] (fun i wr => ∃ k : Nat, k ≤ 5 ∧ i = .int .i64 k ∧ Below w5.heap.size w5 wr) (fun i _ => 5 - (intOf i).toNat)
      case atStart => exact ⟨0, by omega, rfl, Below.refl _ _⟩
      case round =>
        obtain ⟨k, hk, rfl, hB⟩ := hrel
        rename World => wx
        have zx := hB.size
        have hIx := hI5.to hB (Nat.le_refl _) zx
        have hax := ha5.to hB (Nat.le_refl _) zx
        have hsx := hs5.to hB (Nat.le_refl _) zx
        have Cx := C5.trans (hB.mono C5.size)
        by_cases hlt : k < 5
        · obtain ⟨ba, oa, eA, hba, hca⟩ := (ha5.below hB).at_ hlt
          obtain ⟨bu, ou, eU, hbu, hcu⟩ := (hs5.below hB).at_ hlt
          subst eA
          subst eU
          have hck := hca k hlt
          have huk := hcu k hlt
          have htu := HTU.out k hlt
          have htl := HTL.out k hlt
          clear hca hcu hax hsx
          generalize T[k]?.getD 0 = tk at *
          generalize U[k]?.getD 0 = uk at *
          have hgt : decide (uk < tk) = false := decide_eq_false (by omega)
          by_cases hkl : k < L
          · have hz : (tk == 0) = true := by simpa using (htl.2 hkl)
            have hl : decide ((k : Int) < (L : Int)) = true := decide_eq_true (by omega)
            go_wp2_with fail
            refine region_T (S := (fun w' => w'.cell? ⟨ba, oa + k, none⟩ = some (.int .i64 tk) ∧ w'.cell? ⟨bu, ou + k, none⟩ = some (.int .i64 uk))) 20 (by kernel_rfl) ?_
            have hSd : (fun w' => w'.cell? ⟨ba, oa + k, none⟩ = some (.int .i64 tk) ∧ w'.cell? ⟨bu, ou + k, none⟩ = some (.int .i64 uk)) wx.drew := ⟨hck, huk⟩
            have hId : Ints wx.drew wx.drew.heap.size A1 n zs := hIx
            have hBd : Below w5.heap.size w5 wx.drew := below_drewN hB 1
            obtain ⟨Wd, hWd⟩ : ∃ Wd, wx.drew = Wd := ⟨_, rfl⟩
            rw [hWd] at hSd hId hBd ⊢
            clear hWd hck huk hIx
            have zd := hBd.size
            refine anyT_take (i := 0) (oi := ?oi0a) (v := .slice (some ⟨ba, oa, none⟩) 5 c2) ?hi0a (by kernel_rfl) ?hq0a ?hy0a (by assumption) ?rest0a
            case hi0a => (simp only [List.getElem?_toArray, List.getElem?_cons_zero]; first | done | rfl)
            case hq0a => first | exact fun _ _ _ h => h | exact fun _ _ _ h => (by cases h.1)
            case hy0a => (refine Or.inl ⟨by rfl, ?_⟩; intro wz hSw; go_simp; first | done | with_reducible rfl | simp | omega)
            try simp only [Act.put, List.setIfInBounds_toArray, List.set_cons_zero, List.set_cons_succ]
            refine anyT_take (i := 1) (oi := ?oi1a) (v := .int .i64 (k : Int)) ?hi1a (by kernel_rfl) ?hq1a ?hy1a (by assumption) ?rest1a
            case hi1a => (simp only [List.getElem?_toArray, List.getElem?_cons_succ, List.getElem?_cons_zero]; first | done | rfl)
            case hq1a => first | exact fun _ _ _ h => h | exact fun _ _ _ h => (by cases h.1)
            case hy1a => (refine Or.inl ⟨by rfl, ?_⟩; intro wz hSw; go_simp; first | done | with_reducible rfl | simp | omega)
            try simp only [Act.put, List.setIfInBounds_toArray, List.set_cons_zero, List.set_cons_succ]
            refine anyT_take (i := 2) (oi := ?oi2a) (v := .pointer (some ⟨ba, oa + k, none⟩)) ?hi2a (by kernel_rfl) ?hq2a ?hy2a (by assumption) ?rest2a
            case hi2a => (simp only [List.getElem?_toArray, List.getElem?_cons_succ, List.getElem?_cons_zero]; first | done | rfl)
            case hq2a => first | exact fun _ _ _ h => h | exact fun _ _ _ h => (by cases h.1)
            case hy2a => (refine Or.inl ⟨by rfl, ?_⟩; intro wz hSw; go_simp; first | done | with_reducible rfl | simp | omega)
            try simp only [Act.put, List.setIfInBounds_toArray, List.set_cons_zero, List.set_cons_succ]
            refine anyT_take (i := 3) (oi := ?oi3a) (v := .int .i64 tk) ?hi3a (by kernel_rfl) ?hq3a ?hy3a (by assumption) ?rest3a
            case hi3a => (simp only [List.getElem?_toArray, List.getElem?_cons_succ, List.getElem?_cons_zero]; first | done | rfl)
            case hq3a => first | exact fun _ _ _ h => h | exact fun _ _ _ h => (by cases h.1)
            case hy3a => (refine Or.inl ⟨by rfl, ?_⟩; intro wz hSw; obtain ⟨hS1, hS2⟩ := hSw; go_simp; first | done | with_reducible rfl | simp | omega)
            try simp only [Act.put, List.setIfInBounds_toArray, List.set_cons_zero, List.set_cons_succ]
            refine anyT_take (i := 4) (oi := ?oi4a) (v := .slice (some ⟨bu, ou, none⟩) 5 c5) ?hi4a (by kernel_rfl) ?hq4a ?hy4a (by assumption) ?rest4a
            case hi4a => (simp only [List.getElem?_toArray, List.getElem?_cons_succ, List.getElem?_cons_zero]; first | done | rfl)
            case hq4a => first | exact fun _ _ _ h => h | exact fun _ _ _ h => (by cases h.1)
            case hy4a => (refine Or.inl ⟨by rfl, ?_⟩; intro wz hSw; go_simp; first | done | with_reducible rfl | simp | omega)
            try simp only [Act.put, List.setIfInBounds_toArray, List.set_cons_zero, List.set_cons_succ]
            refine anyT_take (i := 5) (oi := ?oi5a) (v := .int .i64 (k : Int)) ?hi5a (by kernel_rfl) ?hq5a ?hy5a (by assumption) ?rest5a
            case hi5a => (simp only [List.getElem?_toArray, List.getElem?_cons_succ, List.getElem?_cons_zero]; first | done | rfl)
            case hq5a => first | exact fun _ _ _ h => h | exact fun _ _ _ h => (by cases h.1)
            case hy5a => (refine Or.inl ⟨by rfl, ?_⟩; intro wz hSw; go_simp; first | done | with_reducible rfl | simp | omega)
            try simp only [Act.put, List.setIfInBounds_toArray, List.set_cons_zero, List.set_cons_succ]
            refine anyT_take (i := 6) (oi := ?oi6a) (v := .pointer (some ⟨bu, ou + k, none⟩)) ?hi6a (by kernel_rfl) ?hq6a ?hy6a (by assumption) ?rest6a
            case hi6a => (simp only [List.getElem?_toArray, List.getElem?_cons_succ, List.getElem?_cons_zero]; first | done | rfl)
            case hq6a => first | exact fun _ _ _ h => h | exact fun _ _ _ h => (by cases h.1)
            case hy6a => (refine Or.inl ⟨by rfl, ?_⟩; intro wz hSw; go_simp; first | done | with_reducible rfl | simp | omega)
            try simp only [Act.put, List.setIfInBounds_toArray, List.set_cons_zero, List.set_cons_succ]
            refine anyT_take (i := 7) (oi := ?oi7a) (v := .int .i64 uk) ?hi7a (by kernel_rfl) ?hq7a ?hy7a (by assumption) ?rest7a
            case hi7a => (simp only [List.getElem?_toArray, List.getElem?_cons_succ, List.getElem?_cons_zero]; first | done | rfl)
            case hq7a => first | exact fun _ _ _ h => h | exact fun _ _ _ h => (by cases h.1)
            case hy7a => (refine Or.inl ⟨by rfl, ?_⟩; intro wz hSw; obtain ⟨hS1, hS2⟩ := hSw; go_simp; first | done | with_reducible rfl | simp | omega)
            try simp only [Act.put, List.setIfInBounds_toArray, List.set_cons_zero, List.set_cons_succ]
            refine anyT_take (i := 8) (oi := ?oi8a) (v := .bool false) ?hi8a (by kernel_rfl) ?hq8a ?hy8a (by assumption) ?rest8a
            case hi8a => (simp only [List.getElem?_toArray, List.getElem?_cons_succ, List.getElem?_cons_zero]; first | done | rfl)
            case hq8a => first | exact fun _ _ _ h => h | exact fun _ _ _ h => (by cases h.1)
            case hy8a => (refine Or.inl ⟨by rfl, ?_⟩; intro wz hSw; go_simp; first | done | with_reducible rfl | simp [hgt] | omega)
            try simp only [Act.put, List.setIfInBounds_toArray, List.set_cons_zero, List.set_cons_succ]
            refine anyT_take (i := 9) (oi := ?oi9a) (v := .bool false) ?hi9a (by kernel_rfl) ?hq9a ?hy9a (by assumption) ?rest9a
            case hi9a => (simp only [List.getElem?_toArray, List.getElem?_cons_succ, List.getElem?_cons_zero]; first | done | rfl)
            case hq9a => first | exact fun _ _ _ h => h | exact fun _ _ _ h => (by cases h.1)
            case hy9a => (refine Or.inl ⟨by rfl, ?_⟩; intro wz hSw; go_simp; first | done | with_reducible rfl | simp | omega)
            try simp only [Act.put, List.setIfInBounds_toArray, List.set_cons_zero, List.set_cons_succ]
            refine anyT_take (i := 10) (oi := ?oi10a) (v := .slice (some ⟨ba, oa, none⟩) 5 c2) ?hi10a (by kernel_rfl) ?hq10a ?hy10a (by assumption) ?rest10a
            case hi10a => (simp only [List.getElem?_toArray, List.getElem?_cons_succ, List.getElem?_cons_zero]; first | done | rfl)
            case hq10a => first | exact fun _ _ _ h => h | exact fun _ _ _ h => (by cases h.1)
            case hy10a => (refine Or.inl ⟨by rfl, ?_⟩; intro wz hSw; go_simp; first | done | with_reducible rfl | simp | omega)
            try simp only [Act.put, List.setIfInBounds_toArray, List.set_cons_zero, List.set_cons_succ]
            refine anyT_take (i := 11) (oi := ?oi11a) (v := .int .i64 (k : Int)) ?hi11a (by kernel_rfl) ?hq11a ?hy11a (by assumption) ?rest11a
            case hi11a => (simp only [List.getElem?_toArray, List.getElem?_cons_succ, List.getElem?_cons_zero]; first | done | rfl)
            case hq11a => first | exact fun _ _ _ h => h | exact fun _ _ _ h => (by cases h.1)
            case hy11a => (refine Or.inl ⟨by rfl, ?_⟩; intro wz hSw; go_simp; first | done | with_reducible rfl | simp | omega)
            try simp only [Act.put, List.setIfInBounds_toArray, List.set_cons_zero, List.set_cons_succ]
            refine anyT_take (i := 12) (oi := ?oi12a) (v := .pointer (some ⟨ba, oa + k, none⟩)) ?hi12a (by kernel_rfl) ?hq12a ?hy12a (by assumption) ?rest12a
            case hi12a => (simp only [List.getElem?_toArray, List.getElem?_cons_succ, List.getElem?_cons_zero]; first | done | rfl)
            case hq12a => first | exact fun _ _ _ h => h | exact fun _ _ _ h => (by cases h.1)
            case hy12a => (refine Or.inl ⟨by rfl, ?_⟩; intro wz hSw; go_simp; first | done | with_reducible rfl | simp | omega)
            try simp only [Act.put, List.setIfInBounds_toArray, List.set_cons_zero, List.set_cons_succ]
            refine anyT_take (i := 13) (oi := ?oi13a) (v := .int .i64 tk) ?hi13a (by kernel_rfl) ?hq13a ?hy13a (by assumption) ?rest13a
            case hi13a => (simp only [List.getElem?_toArray, List.getElem?_cons_succ, List.getElem?_cons_zero]; first | done | rfl)
            case hq13a => first | exact fun _ _ _ h => h | exact fun _ _ _ h => (by cases h.1)
            case hy13a => (refine Or.inl ⟨by rfl, ?_⟩; intro wz hSw; obtain ⟨hS1, hS2⟩ := hSw; go_simp; first | done | with_reducible rfl | simp | omega)
            try simp only [Act.put, List.setIfInBounds_toArray, List.set_cons_zero, List.set_cons_succ]
            refine anyT_take (i := 14) (oi := ?oi14a) (v := .bool true) ?hi14a (by kernel_rfl) ?hq14a ?hy14a (by assumption) ?rest14a
            case hi14a => (simp only [List.getElem?_toArray, List.getElem?_cons_succ, List.getElem?_cons_zero]; first | done | rfl)
            case hq14a => first | exact fun _ _ _ h => h | exact fun _ _ _ h => (by cases h.1)
            case hy14a => (refine Or.inl ⟨by rfl, ?_⟩; intro wz hSw; go_simp; first | done | with_reducible rfl | simp [hz] | omega)
            try simp only [Act.put, List.setIfInBounds_toArray, List.set_cons_zero, List.set_cons_succ]
            refine anyT_take (i := 15) (oi := ?oi15a) (v := .int .i64 (k : Int)) ?hi15a (by kernel_rfl) ?hq15a ?hy15a (by assumption) ?rest15a
            case hi15a => (simp only [List.getElem?_toArray, List.getElem?_cons_succ, List.getElem?_cons_zero]; first | done | rfl)
            case hq15a => first | exact fun _ _ _ h => h | exact fun _ _ _ h => (by cases h.1)
            case hy15a => (refine Or.inl ⟨by rfl, ?_⟩; intro wz hSw; go_simp; first | done | with_reducible rfl | simp | omega)
            try simp only [Act.put, List.setIfInBounds_toArray, List.set_cons_zero, List.set_cons_succ]
            refine anyT_take (i := 16) (oi := ?oi16a) (v := .slice A1 n c1) ?hi16a (by kernel_rfl) ?hq16a ?hy16a (by assumption) ?rest16a
            case hi16a => (simp only [List.getElem?_toArray, List.getElem?_cons_succ, List.getElem?_cons_zero]; first | done | rfl)
            case hq16a => first | exact fun _ _ _ h => h | exact fun _ _ _ h => (by cases h.1)
            case hy16a => (refine Or.inl ⟨by rfl, ?_⟩; intro wz hSw; go_simp; first | done | with_reducible rfl | simp | omega)
            try simp only [Act.put, List.setIfInBounds_toArray, List.set_cons_zero, List.set_cons_succ]
            refine anyT_one (i := 17) (by kernel_rfl) rfl (fun K' hK => ?_)
            go_simp
            refine (LongestChain_any A1 n c1 zs Wd hId (by omega)).mono ?_
            rw [HLL.out]
            rintro e W2 ⟨rfl, hB2⟩
            have hB3 := hBd.trans (hB2.mono zd)
            have hS2 : (fun w' => w'.cell? ⟨ba, oa + k, none⟩ = some (.int .i64 tk) ∧ w'.cell? ⟨bu, ou + k, none⟩ = some (.int .i64 uk)) W2 := ⟨(World.cell?_of_block (hB2.block ba (by show ba < Wd.heap.size; omega))).trans hSd.1, (World.cell?_of_block (hB2.block bu (by show bu < Wd.heap.size; omega))).trans hSd.2⟩
            refine hK.out _ _ (fun _ => hS2) ?_
            clear hSd hB2
            clear hK K'
            try simp only [Act.put, List.setIfInBounds_toArray, List.set_cons_zero, List.set_cons_succ]
            refine anyT_take (i := 18) (oi := ?oi18b) (v := .bool true) ?hi18b (by kernel_rfl) ?hq18b ?hy18b (by assumption) ?rest18b
            case hi18b => (simp only [List.getElem?_toArray, List.getElem?_cons_succ, List.getElem?_cons_zero]; first | done | rfl)
            case hq18b => first | exact fun _ _ _ h => h | exact fun _ _ _ h => (by cases h.1)
            case hy18b => (refine Or.inl ⟨by rfl, ?_⟩; intro wz hSw; go_simp; first | done | with_reducible rfl | simp [hl] | omega)
            try simp only [Act.put, List.setIfInBounds_toArray, List.set_cons_zero, List.set_cons_succ]
            refine anyT_take (i := 19) (oi := ?oi19b) (v := .bool false) ?hi19b (by kernel_rfl) ?hq19b ?hy19b (by assumption) ?rest19b
            case hi19b => (simp only [List.getElem?_toArray, List.getElem?_cons_succ, List.getElem?_cons_zero]; first | done | rfl)
            case hq19b => first | exact fun _ _ _ h => h | exact fun _ _ _ h => (by cases h.1)
            case hy19b => (refine Or.inl ⟨by rfl, ?_⟩; intro wz hSw; go_simp; first | done | with_reducible rfl | simp | omega)
            try simp only [Act.put, List.setIfInBounds_toArray, List.set_cons_zero, List.set_cons_succ]
            refine anyT_one (i := 20) (by kernel_rfl) rfl (fun K' hK => ?_)
            go_simp
            refine hK.out _ _ (fun h => absurd rfl h) ?_
            clear hK K'
            try simp only [Act.put, List.setIfInBounds_toArray, List.set_cons_zero, List.set_cons_succ]
            refine anyT_done (by kernel_rfl) ?_ _
            go_wp2
            go_roundw
            case rel => exact ⟨k + 1, by omega, by go_num, hB3⟩
            case measure => simp [intOf]; omega
          · have hz : (tk == 0) = false := by simpa using (fun e => hkl (htl.1 e))
            have hl : decide ((k : Int) < (L : Int)) = false := decide_eq_false (by omega)
            go_wp2_with fail
            refine region_T (S := (fun w' => w'.cell? ⟨ba, oa + k, none⟩ = some (.int .i64 tk) ∧ w'.cell? ⟨bu, ou + k, none⟩ = some (.int .i64 uk))) 20 (by kernel_rfl) ?_
            have hSd : (fun w' => w'.cell? ⟨ba, oa + k, none⟩ = some (.int .i64 tk) ∧ w'.cell? ⟨bu, ou + k, none⟩ = some (.int .i64 uk)) wx.drew := ⟨hck, huk⟩
            have hId : Ints wx.drew wx.drew.heap.size A1 n zs := hIx
            have hBd : Below w5.heap.size w5 wx.drew := below_drewN hB 1
            obtain ⟨Wd, hWd⟩ : ∃ Wd, wx.drew = Wd := ⟨_, rfl⟩
            rw [hWd] at hSd hId hBd ⊢
            clear hWd hck huk hIx
            have zd := hBd.size
            refine anyT_take (i := 0) (oi := ?oi0c) (v := .slice (some ⟨ba, oa, none⟩) 5 c2) ?hi0c (by kernel_rfl) ?hq0c ?hy0c (by assumption) ?rest0c
            case hi0c => (simp only [List.getElem?_toArray, List.getElem?_cons_zero]; first | done | rfl)
            case hq0c => first | exact fun _ _ _ h => h | exact fun _ _ _ h => (by cases h.1)
            case hy0c => (refine Or.inl ⟨by rfl, ?_⟩; intro wz hSw; go_simp; first | done | with_reducible rfl | simp | omega)
            try simp only [Act.put, List.setIfInBounds_toArray, List.set_cons_zero, List.set_cons_succ]
            refine anyT_take (i := 1) (oi := ?oi1c) (v := .int .i64 (k : Int)) ?hi1c (by kernel_rfl) ?hq1c ?hy1c (by assumption) ?rest1c
            case hi1c => (simp only [List.getElem?_toArray, List.getElem?_cons_succ, List.getElem?_cons_zero]; first | done | rfl)
            case hq1c => first | exact fun _ _ _ h => h | exact fun _ _ _ h => (by cases h.1)
            case hy1c => (refine Or.inl ⟨by rfl, ?_⟩; intro wz hSw; go_simp; first | done | with_reducible rfl | simp | omega)
            try simp only [Act.put, List.setIfInBounds_toArray, List.set_cons_zero, List.set_cons_succ]
            refine anyT_take (i := 2) (oi := ?oi2c) (v := .pointer (some ⟨ba, oa + k, none⟩)) ?hi2c (by kernel_rfl) ?hq2c ?hy2c (by assumption) ?rest2c
            case hi2c => (simp only [List.getElem?_toArray, List.getElem?_cons_succ, List.getElem?_cons_zero]; first | done | rfl)
            case hq2c => first | exact fun _ _ _ h => h | exact fun _ _ _ h => (by cases h.1)
            case hy2c => (refine Or.inl ⟨by rfl, ?_⟩; intro wz hSw; go_simp; first | done | with_reducible rfl | simp | omega)
            try simp only [Act.put, List.setIfInBounds_toArray, List.set_cons_zero, List.set_cons_succ]
            refine anyT_take (i := 3) (oi := ?oi3c) (v := .int .i64 tk) ?hi3c (by kernel_rfl) ?hq3c ?hy3c (by assumption) ?rest3c
            case hi3c => (simp only [List.getElem?_toArray, List.getElem?_cons_succ, List.getElem?_cons_zero]; first | done | rfl)
            case hq3c => first | exact fun _ _ _ h => h | exact fun _ _ _ h => (by cases h.1)
            case hy3c => (refine Or.inl ⟨by rfl, ?_⟩; intro wz hSw; obtain ⟨hS1, hS2⟩ := hSw; go_simp; first | done | with_reducible rfl | simp | omega)
            try simp only [Act.put, List.setIfInBounds_toArray, List.set_cons_zero, List.set_cons_succ]
            refine anyT_take (i := 4) (oi := ?oi4c) (v := .slice (some ⟨bu, ou, none⟩) 5 c5) ?hi4c (by kernel_rfl) ?hq4c ?hy4c (by assumption) ?rest4c
            case hi4c => (simp only [List.getElem?_toArray, List.getElem?_cons_succ, List.getElem?_cons_zero]; first | done | rfl)
            case hq4c => first | exact fun _ _ _ h => h | exact fun _ _ _ h => (by cases h.1)
            case hy4c => (refine Or.inl ⟨by rfl, ?_⟩; intro wz hSw; go_simp; first | done | with_reducible rfl | simp | omega)
            try simp only [Act.put, List.setIfInBounds_toArray, List.set_cons_zero, List.set_cons_succ]
            refine anyT_take (i := 5) (oi := ?oi5c) (v := .int .i64 (k : Int)) ?hi5c (by kernel_rfl) ?hq5c ?hy5c (by assumption) ?rest5c
            case hi5c => (simp only [List.getElem?_toArray, List.getElem?_cons_succ, List.getElem?_cons_zero]; first | done | rfl)
            case hq5c => first | exact fun _ _ _ h => h | exact fun _ _ _ h => (by cases h.1)
            case hy5c => (refine Or.inl ⟨by rfl, ?_⟩; intro wz hSw; go_simp; first | done | with_reducible rfl | simp | omega)
            try simp only [Act.put, List.setIfInBounds_toArray, List.set_cons_zero, List.set_cons_succ]
            refine anyT_take (i := 6) (oi := ?oi6c) (v := .pointer (some ⟨bu, ou + k, none⟩)) ?hi6c (by kernel_rfl) ?hq6c ?hy6c (by assumption) ?rest6c
            case hi6c => (simp only [List.getElem?_toArray, List.getElem?_cons_succ, List.getElem?_cons_zero]; first | done | rfl)
            case hq6c => first | exact fun _ _ _ h => h | exact fun _ _ _ h => (by cases h.1)
            case hy6c => (refine Or.inl ⟨by rfl, ?_⟩; intro wz hSw; go_simp; first | done | with_reducible rfl | simp | omega)
            try simp only [Act.put, List.setIfInBounds_toArray, List.set_cons_zero, List.set_cons_succ]
            refine anyT_take (i := 7) (oi := ?oi7c) (v := .int .i64 uk) ?hi7c (by kernel_rfl) ?hq7c ?hy7c (by assumption) ?rest7c
            case hi7c => (simp only [List.getElem?_toArray, List.getElem?_cons_succ, List.getElem?_cons_zero]; first | done | rfl)
            case hq7c => first | exact fun _ _ _ h => h | exact fun _ _ _ h => (by cases h.1)
            case hy7c => (refine Or.inl ⟨by rfl, ?_⟩; intro wz hSw; obtain ⟨hS1, hS2⟩ := hSw; go_simp; first | done | with_reducible rfl | simp | omega)
            try simp only [Act.put, List.setIfInBounds_toArray, List.set_cons_zero, List.set_cons_succ]
            refine anyT_take (i := 8) (oi := ?oi8c) (v := .bool false) ?hi8c (by kernel_rfl) ?hq8c ?hy8c (by assumption) ?rest8c
            case hi8c => (simp only [List.getElem?_toArray, List.getElem?_cons_succ, List.getElem?_cons_zero]; first | done | rfl)
            case hq8c => first | exact fun _ _ _ h => h | exact fun _ _ _ h => (by cases h.1)
            case hy8c => (refine Or.inl ⟨by rfl, ?_⟩; intro wz hSw; go_simp; first | done | with_reducible rfl | simp [hgt] | omega)
            try simp only [Act.put, List.setIfInBounds_toArray, List.set_cons_zero, List.set_cons_succ]
            refine anyT_take (i := 9) (oi := ?oi9c) (v := .bool false) ?hi9c (by kernel_rfl) ?hq9c ?hy9c (by assumption) ?rest9c
            case hi9c => (simp only [List.getElem?_toArray, List.getElem?_cons_succ, List.getElem?_cons_zero]; first | done | rfl)
            case hq9c => first | exact fun _ _ _ h => h | exact fun _ _ _ h => (by cases h.1)
            case hy9c => (refine Or.inl ⟨by rfl, ?_⟩; intro wz hSw; go_simp; first | done | with_reducible rfl | simp | omega)
            try simp only [Act.put, List.setIfInBounds_toArray, List.set_cons_zero, List.set_cons_succ]
            refine anyT_take (i := 10) (oi := ?oi10c) (v := .slice (some ⟨ba, oa, none⟩) 5 c2) ?hi10c (by kernel_rfl) ?hq10c ?hy10c (by assumption) ?rest10c
            case hi10c => (simp only [List.getElem?_toArray, List.getElem?_cons_succ, List.getElem?_cons_zero]; first | done | rfl)
            case hq10c => first | exact fun _ _ _ h => h | exact fun _ _ _ h => (by cases h.1)
            case hy10c => (refine Or.inl ⟨by rfl, ?_⟩; intro wz hSw; go_simp; first | done | with_reducible rfl | simp | omega)
            try simp only [Act.put, List.setIfInBounds_toArray, List.set_cons_zero, List.set_cons_succ]
            refine anyT_take (i := 11) (oi := ?oi11c) (v := .int .i64 (k : Int)) ?hi11c (by kernel_rfl) ?hq11c ?hy11c (by assumption) ?rest11c
            case hi11c => (simp only [List.getElem?_toArray, List.getElem?_cons_succ, List.getElem?_cons_zero]; first | done | rfl)
            case hq11c => first | exact fun _ _ _ h => h | exact fun _ _ _ h => (by cases h.1)
            case hy11c => (refine Or.inl ⟨by rfl, ?_⟩; intro wz hSw; go_simp; first | done | with_reducible rfl | simp | omega)
            try simp only [Act.put, List.setIfInBounds_toArray, List.set_cons_zero, List.set_cons_succ]
            refine anyT_take (i := 12) (oi := ?oi12c) (v := .pointer (some ⟨ba, oa + k, none⟩)) ?hi12c (by kernel_rfl) ?hq12c ?hy12c (by assumption) ?rest12c
            case hi12c => (simp only [List.getElem?_toArray, List.getElem?_cons_succ, List.getElem?_cons_zero]; first | done | rfl)
            case hq12c => first | exact fun _ _ _ h => h | exact fun _ _ _ h => (by cases h.1)
            case hy12c => (refine Or.inl ⟨by rfl, ?_⟩; intro wz hSw; go_simp; first | done | with_reducible rfl | simp | omega)
            try simp only [Act.put, List.setIfInBounds_toArray, List.set_cons_zero, List.set_cons_succ]
            refine anyT_take (i := 13) (oi := ?oi13c) (v := .int .i64 tk) ?hi13c (by kernel_rfl) ?hq13c ?hy13c (by assumption) ?rest13c
            case hi13c => (simp only [List.getElem?_toArray, List.getElem?_cons_succ, List.getElem?_cons_zero]; first | done | rfl)
            case hq13c => first | exact fun _ _ _ h => h | exact fun _ _ _ h => (by cases h.1)
            case hy13c => (refine Or.inl ⟨by rfl, ?_⟩; intro wz hSw; obtain ⟨hS1, hS2⟩ := hSw; go_simp; first | done | with_reducible rfl | simp | omega)
            try simp only [Act.put, List.setIfInBounds_toArray, List.set_cons_zero, List.set_cons_succ]
            refine anyT_take (i := 14) (oi := ?oi14c) (v := .bool false) ?hi14c (by kernel_rfl) ?hq14c ?hy14c (by assumption) ?rest14c
            case hi14c => (simp only [List.getElem?_toArray, List.getElem?_cons_succ, List.getElem?_cons_zero]; first | done | rfl)
            case hq14c => first | exact fun _ _ _ h => h | exact fun _ _ _ h => (by cases h.1)
            case hy14c => (refine Or.inl ⟨by rfl, ?_⟩; intro wz hSw; go_simp; first | done | with_reducible rfl | simp [hz] | omega)
            try simp only [Act.put, List.setIfInBounds_toArray, List.set_cons_zero, List.set_cons_succ]
            refine anyT_take (i := 15) (oi := ?oi15c) (v := .int .i64 (k : Int)) ?hi15c (by kernel_rfl) ?hq15c ?hy15c (by assumption) ?rest15c
            case hi15c => (simp only [List.getElem?_toArray, List.getElem?_cons_succ, List.getElem?_cons_zero]; first | done | rfl)
            case hq15c => first | exact fun _ _ _ h => h | exact fun _ _ _ h => (by cases h.1)
            case hy15c => (refine Or.inl ⟨by rfl, ?_⟩; intro wz hSw; go_simp; first | done | with_reducible rfl | simp | omega)
            try simp only [Act.put, List.setIfInBounds_toArray, List.set_cons_zero, List.set_cons_succ]
            refine anyT_take (i := 16) (oi := ?oi16c) (v := .slice A1 n c1) ?hi16c (by kernel_rfl) ?hq16c ?hy16c (by assumption) ?rest16c
            case hi16c => (simp only [List.getElem?_toArray, List.getElem?_cons_succ, List.getElem?_cons_zero]; first | done | rfl)
            case hq16c => first | exact fun _ _ _ h => h | exact fun _ _ _ h => (by cases h.1)
            case hy16c => (refine Or.inl ⟨by rfl, ?_⟩; intro wz hSw; go_simp; first | done | with_reducible rfl | simp | omega)
            try simp only [Act.put, List.setIfInBounds_toArray, List.set_cons_zero, List.set_cons_succ]
            refine anyT_one (i := 17) (by kernel_rfl) rfl (fun K' hK => ?_)
            go_simp
            refine (LongestChain_any A1 n c1 zs Wd hId (by omega)).mono ?_
            rw [HLL.out]
            rintro e W2 ⟨rfl, hB2⟩
            have hB3 := hBd.trans (hB2.mono zd)
            have hS2 : (fun w' => w'.cell? ⟨ba, oa + k, none⟩ = some (.int .i64 tk) ∧ w'.cell? ⟨bu, ou + k, none⟩ = some (.int .i64 uk)) W2 := ⟨(World.cell?_of_block (hB2.block ba (by show ba < Wd.heap.size; omega))).trans hSd.1, (World.cell?_of_block (hB2.block bu (by show bu < Wd.heap.size; omega))).trans hSd.2⟩
            refine hK.out _ _ (fun _ => hS2) ?_
            clear hSd hB2
            clear hK K'
            try simp only [Act.put, List.setIfInBounds_toArray, List.set_cons_zero, List.set_cons_succ]
            refine anyT_take (i := 18) (oi := ?oi18d) (v := .bool false) ?hi18d (by kernel_rfl) ?hq18d ?hy18d (by assumption) ?rest18d
            case hi18d => (simp only [List.getElem?_toArray, List.getElem?_cons_succ, List.getElem?_cons_zero]; first | done | rfl)
            case hq18d => first | exact fun _ _ _ h => h | exact fun _ _ _ h => (by cases h.1)
            case hy18d => (refine Or.inl ⟨by rfl, ?_⟩; intro wz hSw; go_simp; first | done | with_reducible rfl | simp [hl] | omega)
            try simp only [Act.put, List.setIfInBounds_toArray, List.set_cons_zero, List.set_cons_succ]
            refine anyT_take (i := 19) (oi := ?oi19d) (v := .bool false) ?hi19d (by kernel_rfl) ?hq19d ?hy19d (by assumption) ?rest19d
            case hi19d => (simp only [List.getElem?_toArray, List.getElem?_cons_succ, List.getElem?_cons_zero]; first | done | rfl)
            case hq19d => first | exact fun _ _ _ h => h | exact fun _ _ _ h => (by cases h.1)
            case hy19d => (refine Or.inl ⟨by rfl, ?_⟩; intro wz hSw; go_simp; first | done | with_reducible rfl | simp | omega)
            try simp only [Act.put, List.setIfInBounds_toArray, List.set_cons_zero, List.set_cons_succ]
            refine anyT_one (i := 20) (by kernel_rfl) rfl (fun K' hK => ?_)
            go_simp
            refine hK.out _ _ (fun h => absurd rfl h) ?_
            clear hK K'
            try simp only [Act.put, List.setIfInBounds_toArray, List.set_cons_zero, List.set_cons_succ]
            refine anyT_done (by kernel_rfl) ?_ _
            go_wp2
            go_roundw
            case rel => exact ⟨k + 1, by omega, by go_num, hB3⟩
            case measure => simp [intOf]; omega
        · obtain rfl : k = 5 := by omega
          go_wp2_with fail
          refine (DualOf_any A1 n c1 zs wx hIx (by omega)).mono ?_
          rintro e v1 ⟨A9, m9, c9, rfl, r9, hB9⟩
          have z9 := hB9.size
          have C9 := Cx.trans (hB9.mono Cx.size)
          have h9 := r9.ints (B := v1.heap.size) (Nat.le_refl _)
          have e9 := r9.len
          have ha9 := hax.to hB9 (Nat.le_refl _) z9
          rw [HD.out] at h9 e9
          rw [HDN.out, hlen.out] at e9
          subst e9
          clear r9
          go_wp2_with fail
          refine (FallsBelow_any A9 _ c9 (du zs) v1 h9 (by omega)).mono ?_
          rw [HDT.out]
          rintro e v2 ⟨A8, m8, c8, rfl, r8, hB8⟩
          have z8 := hB8.size
          have C8 := C9.trans (hB8.mono C9.size)
          have h8 := r8.ints (B := v2.heap.size) (Nat.le_refl _)
          have e8 := r8.len
          have ha8 := ha9.to hB8 (Nat.le_refl _) z8
          rw [hT5] at e8
          subst e8
          clear r8
          go_wp2_with fail
          refine (equalSame_any _ _ _ _ _ _ _ _ _ _ h8 ha8 (by omega) (by omega)).mono ?_
          rintro e v3 ⟨rfl, hB7⟩
          have C7 := C8.trans (hB7.mono C8.size)
          go_wp2_with fail
          go_ret
          exact ⟨rfl, C7⟩
  · go_enter Try.func11, Try.ntmps11
    go_wp2
    go_ret
    exact ⟨rfl, Below.refl _ _⟩
end Go.Proofs.Ytcadmjpkgnbodaa

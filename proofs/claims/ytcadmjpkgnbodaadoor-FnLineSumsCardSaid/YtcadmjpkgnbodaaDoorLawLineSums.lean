/- LineSums's own law. -/
import Derived.Test.YtcadmjpkgnbodaaDoorGc
import Derived.Test.YtcadmjpkgnbodaaDoorNuG
import Derived.Test.YtcadmjpkgnbodaaDoorGd
import Derived.Test.YtcadmjpkgnbodaaDoorGa
import Derived.Test.YtcadmjpkgnbodaaDoorGb
namespace Go.Proofs.YtcadmjpkgnbodaaDoor
open Go.RowKit Go.Shelf

theorem ls_at {st : Bool} {zs T : List Int} (h : VoP zs) (hT : numR st zs = T) {k : Nat} (hk : k < 5) : T[k]?.getD 0 = (nuN st zs k : Int) := by
  rw [← hT]; unfold numR; rw [vo_true h, if_pos rfl, List.getElem?_map, List.getElem?_range hk]; rfl
theorem ls_up {zs T : List Int} (h : VoP zs) (hT : numR false zs = T) {k : Nat} (hk : k < 5) : T[k - 1]?.getD 0 ≤ T[k]?.getD 0 := by
  rw [ls_at h hT hk, ls_at h hT (show k - 1 < 5 by omega)]
  exact_mod_cast nuN_more h (Nat.sub_le k 1)
theorem ls_one {zs T : List Int} (h : VoP zs) (hT : numR false zs = T) : T[1]?.getD 0 = 1 := by
  rw [ls_at h hT (by omega), nuN_one h]; rfl
theorem ls_two {zs T : List Int} (h : VoP zs) (hT : numR false zs = T) : T[2]?.getD 0 = (ciN zs (2 ^ zs.length - 1) : Int) := by
  rw [ls_at h hT (by omega), nuN_two h]
theorem ls_du {st : Bool} {zs : List Int} (h : VoP zs) : numR st (du zs) = numR st zs := by
  unfold numR; rw [vo_true h, vo_true (du_vo h)]
  simp only [if_true]
  exact List.map_congr_left fun k _ => by rw [nuN_du h]

set_option maxRecDepth 100000 in
set_option maxHeartbeats 8000000 in
theorem fnLineSums_walk (A : Option Addr) (m c : Nat) (bs : List Int) (w : World) (h : Byts w w.heap.size A m bs) (hcap : m ≤ c) (hT : Tab w) (hw1 : 1 < w.heap.size) :
    Calls Tryd.prog 3 #[.slice A m c] w fun e w' => e = .returned (.bool true) ∧ Below w.heap.size w w' := by
  by_cases hs : m ≤ 1048576
  · go_enter Tryd.func3, Tryd.ntmps3
    go_wp2_with fail
    refine (drawLineSums_any A m c bs w h hcap (by omega)).mono ?_
    rintro e w1 ⟨A1, n, c1, zs, rfl, hn7, hI1, C1⟩
    have hlen := Lib.hid hI1.len
    cases hv : vo zs
    · have HL := Lib.hid (numR_no (st := false) hv)
      clear hv
      go_wp2_with fail
      refine (LineSums_any A1 n c1 zs w1 hI1 (by omega)).mono ?_
      rintro e w2 ⟨A2, m2, c2, rfl, r2, hB2⟩
      have z2 := hB2.size
      have C2 := C1.trans (hB2.mono C1.size)
      have hI2 := hI1.to hB2 (Nat.le_refl _) z2
      have ha2 := r2.ints (B := w2.heap.size) (Nat.le_refl _)
      have e2 := r2.len
      clear hI1 hB2 C1 r2
      rw [HL.out] at ha2 e2
      simp only [List.length_nil] at e2
      subst e2
      go_wp2_with fail
      refine (specLineSumsF_any A1 n c1 zs w2 hI2 (by omega)).mono ?_
      rintro e w3 ⟨A3, m3, c3, rfl, r3, hB3⟩
      have z3 := hB3.size
      have C3 := C2.trans (hB3.mono C2.size)
      have hI3 := hI2.to hB3 (Nat.le_refl _) z3
      have ha3 := ha2.to hB3 (Nat.le_refl _) z3
      have hb3 := r3.ints (B := w3.heap.size) (Nat.le_refl _)
      have e3 := r3.len
      clear hI2 ha2 hB3 C2 r3
      rw [HL.out] at hb3 e3
      simp only [List.length_nil] at e3
      subst e3
      go_wp2_with fail
      refine (equalSame_any _ _ _ _ _ _ _ _ _ _ ha3 hb3 (by omega) (by omega)).mono ?_
      rintro e w4 ⟨rfl, hB4⟩
      have z4 := hB4.size
      have C4 := C3.trans (hB4.mono C3.size)
      have hI4 := hI3.to hB4 (Nat.le_refl _) z4
      have ha4 := ha3.to hB4 (Nat.le_refl _) z4
      have hb4 := hb3.to hB4 (Nat.le_refl _) z4
      clear hI3 ha3 hb3 hB4 C3
      go_wp2_with fail
      refine (specLineSumsF_any A1 n c1 zs w4 hI4 (by omega)).mono ?_
      rintro e w5 ⟨A5, m5, c5, rfl, r5, hB5⟩
      have z5 := hB5.size
      have C5 := C4.trans (hB5.mono C4.size)
      have hI5 := hI4.to hB5 (Nat.le_refl _) z5
      have ha5 := ha4.to hB5 (Nat.le_refl _) z5
      have hb5 := hb4.to hB5 (Nat.le_refl _) z5
      have hx5 := r5.ints (B := w5.heap.size) (Nat.le_refl _)
      have e5 := r5.len
      clear hI4 ha4 hb4 hB5 C4 r5
      rw [HL.out] at hx5 e5
      simp only [List.length_nil] at e5
      subst e5
      go_wp2_with fail
      refine (equalSame_any _ _ _ _ _ _ _ _ _ _ ha5 hx5 (by omega) (by omega)).mono ?_
      rintro e w6 ⟨rfl, hB6⟩
      have z6 := hB6.size
      have C6 := C5.trans (hB6.mono C5.size)
      have hI6 := hI5.to hB6 (Nat.le_refl _) z6
      have ha6 := ha5.to hB6 (Nat.le_refl _) z6
      have hb6 := hb5.to hB6 (Nat.le_refl _) z6
      have hx6 := hx5.to hB6 (Nat.le_refl _) z6
      clear hI5 ha5 hb5 hx5 hB6 C5
      go_wp2_with fail
      go_ret
      exact ⟨rfl, C6⟩
    · have hvo : VoP zs := by simpa [vo] using hv
      clear hv
      obtain ⟨T, hT0⟩ : ∃ T, numR false zs = T := ⟨_, rfl⟩
      have hT5 : T.length = 5 := by rw [← hT0]; unfold numR; rw [vo_true hvo]; simp
      have HUp := Lib.hid (fun k hk => ls_up hvo hT0 (k := k) hk)
      have hT1 : T[1]?.getD 0 = 1 := ls_one hvo hT0
      have hT2 : T[2]?.getD 0 = (ciN zs (2 ^ zs.length - 1) : Int) := ls_two hvo hT0
      have HCI := Lib.hid (show countIdealsR zs = (ciN zs (2 ^ zs.length - 1) : Int) by unfold countIdealsR; rw [vo_true hvo]; rfl)
      obtain ⟨cc, hcc⟩ : ∃ cc : Int, (ciN zs (2 ^ zs.length - 1) : Int) = cc := ⟨_, rfl⟩
      rw [hcc] at hT2 HCI
      clear hcc
      have HD := Lib.hid (show dualR zs = du zs by unfold dualR; rw [vo_true hvo]; rfl)
      have HDN := Lib.hid (du_len zs)
      have HDT := Lib.hid ((ls_du hvo).trans hT0)
      have HT := Lib.hid hT0
      clear hT0
      go_wp2_with fail
      refine (LineSums_any A1 n c1 zs w1 hI1 (by omega)).mono ?_
      rintro e w2 ⟨A2, m2, c2, rfl, r2, hB2⟩
      have z2 := hB2.size
      have C2 := C1.trans (hB2.mono C1.size)
      have hI2 := hI1.to hB2 (Nat.le_refl _) z2
      have ha2 := r2.ints (B := w2.heap.size) (Nat.le_refl _)
      have e2 := r2.len
      clear hI1 hB2 C1 r2
      rw [HT.out] at ha2 e2
      rw [hT5] at e2
      subst e2
      go_wp2_with fail
      refine (specLineSumsF_any A1 n c1 zs w2 hI2 (by omega)).mono ?_
      rintro e w3 ⟨A3, m3, c3, rfl, r3, hB3⟩
      have z3 := hB3.size
      have C3 := C2.trans (hB3.mono C2.size)
      have hI3 := hI2.to hB3 (Nat.le_refl _) z3
      have ha3 := ha2.to hB3 (Nat.le_refl _) z3
      have hb3 := r3.ints (B := w3.heap.size) (Nat.le_refl _)
      have e3 := r3.len
      clear hI2 ha2 hB3 C2 r3
      rw [HT.out] at hb3 e3
      rw [hT5] at e3
      subst e3
      go_wp2_with fail
      refine (equalSame_any _ _ _ _ _ _ _ _ _ _ ha3 hb3 (by omega) (by omega)).mono ?_
      rintro e w4 ⟨rfl, hB4⟩
      have z4 := hB4.size
      have C4 := C3.trans (hB4.mono C3.size)
      have hI4 := hI3.to hB4 (Nat.le_refl _) z4
      have ha4 := ha3.to hB4 (Nat.le_refl _) z4
      have hb4 := hb3.to hB4 (Nat.le_refl _) z4
      clear hI3 ha3 hb3 hB4 C3
      clear hb4
      go_wp2_with fail
      go_loopw [5] (fun i wr => ∃ k : Nat, 1 ≤ k ∧ k ≤ 5 ∧ i = .int .i64 k ∧ Below w4.heap.size w4 wr) (fun i _ => 5 - (intOf i).toNat)
      case atStart => exact ⟨1, by omega, by omega, rfl, Below.refl _ _⟩
      case round =>
        obtain ⟨k, hk1, hk, rfl, hB⟩ := hrel
        rename World => wx
        have zx := hB.size
        have hIx := hI4.to hB (Nat.le_refl _) zx
        have hax := ha4.to hB (Nat.le_refl _) zx
        have Cx := C4.trans (hB.mono C4.size)
        obtain ⟨ba, oa, eA, hba, hca⟩ := (ha4.below hB).at_ (show 1 < 5 by omega)
        subst eA
        by_cases hlt : k < 5
        · have hck := hca k hlt
          have hcj := hca (k - 1) (by omega)
          have hup := HUp.out k (by omega)
          have hdec : decide ((k : Int) < 5) = true := decide_eq_true (by omega)
          have hsub : (k : Int) - 1 = ((k - 1 : Nat) : Int) := by omega
          have hwr : IntKind.i64.wrap ((k : Int) - 1) = ((k - 1 : Nat) : Int) := by rw [IntKind.wrap_i64]; omega
          have hwr2 : wrap64 ((k : Int) - 1) = ((k - 1 : Nat) : Int) := by rw [hsub]; exact IntWalk.wrap64_in _ ⟨by omega, by omega⟩
          have hkm : k - 1 < 5 := by omega
          clear hsub hca hax
          generalize T[k]?.getD 0 = tk at *
          generalize T[k - 1]?.getD 0 = tj at *
          generalize k - 1 = j at *
          have hlt2 : decide (tk < tj) = false := decide_eq_false (by omega)
          go_wp2_with fail
          refine region_T (S := (fun w' => w'.cell? ⟨ba, oa + k, none⟩ = some (.int .i64 tk) ∧ w'.cell? ⟨ba, oa + j, none⟩ = some (.int .i64 tj))) 9 (by kernel_rfl) ?_
          have hSd : (fun w' => w'.cell? ⟨ba, oa + k, none⟩ = some (.int .i64 tk) ∧ w'.cell? ⟨ba, oa + j, none⟩ = some (.int .i64 tj)) wx.drew := ⟨hck, hcj⟩
          have hBd : Below w4.heap.size w4 wx.drew := below_drewN hB 1
          obtain ⟨Wd, hWd⟩ : ∃ Wd, wx.drew = Wd := ⟨_, rfl⟩
          rw [hWd] at hSd hBd ⊢
          clear hWd hck hcj hIx
          refine anyT_take (i := 0) (oi := ?oi0a) (v := .slice (some ⟨ba, oa, none⟩) 5 c2) ?hi0a (by kernel_rfl) ?hq0a ?hy0a (by assumption) ?rest0a
          case hi0a => (simp only [List.getElem?_toArray, List.getElem?_cons_zero]; first | done | rfl)
          case hq0a => first | exact fun _ _ _ h => h | exact fun _ _ _ h => (by cases h.1)
          case hy0a => (refine Or.inl ⟨by rfl, ?_⟩; intro wz hSw; go_simp; first | done | with_reducible rfl | simp | omega)
          try simp only [Act.put, List.setIfInBounds_toArray, List.set_cons_zero, List.set_cons_succ]
          refine anyT_take (i := 1) (oi := ?oi1a) (v := .int .i64 (k : Int)) ?hi1a (by kernel_rfl) ?hq1a ?hy1a (by assumption) ?rest1a
          case hi1a => (simp only [List.getElem?_toArray, List.getElem?_cons_succ, List.getElem?_cons_zero]; first | done | rfl)
          case hq1a => first | exact fun _ _ _ h => h | exact fun _ _ _ h => (by cases h.1)
          case hy1a => (refine Or.inl ⟨by rfl, ?_⟩; intro wz hSw; go_simp; first | done | with_reducible rfl | simp | omega)
          try simp only [Act.put, List.setIfInBounds_toArray, List.set_cons_zero, List.set_cons_succ]
          refine anyT_take (i := 2) (oi := ?oi2a) (v := .pointer (some ⟨ba, oa + k, none⟩)) ?hi2a (by kernel_rfl) ?hq2a ?hy2a (by assumption) ?rest2a
          case hi2a => (simp only [List.getElem?_toArray, List.getElem?_cons_succ, List.getElem?_cons_zero]; first | done | rfl)
          case hq2a => first | exact fun _ _ _ h => h | exact fun _ _ _ h => (by cases h.1)
          case hy2a => (refine Or.inl ⟨by rfl, ?_⟩; intro wz hSw; go_simp; first | done | with_reducible rfl | simp | omega)
          try simp only [Act.put, List.setIfInBounds_toArray, List.set_cons_zero, List.set_cons_succ]
          refine anyT_take (i := 3) (oi := ?oi3a) (v := .int .i64 tk) ?hi3a (by kernel_rfl) ?hq3a ?hy3a (by assumption) ?rest3a
          case hi3a => (simp only [List.getElem?_toArray, List.getElem?_cons_succ, List.getElem?_cons_zero]; first | done | rfl)
          case hq3a => first | exact fun _ _ _ h => h | exact fun _ _ _ h => (by cases h.1)
          case hy3a => (refine Or.inl ⟨by rfl, ?_⟩; intro wz hSw; obtain ⟨hS1, hS2⟩ := hSw; go_simp; first | done | with_reducible rfl | simp | omega)
          try simp only [Act.put, List.setIfInBounds_toArray, List.set_cons_zero, List.set_cons_succ]
          refine anyT_take (i := 4) (oi := ?oi4a) (v := .slice (some ⟨ba, oa, none⟩) 5 c2) ?hi4a (by kernel_rfl) ?hq4a ?hy4a (by assumption) ?rest4a
          case hi4a => (simp only [List.getElem?_toArray, List.getElem?_cons_succ, List.getElem?_cons_zero]; first | done | rfl)
          case hq4a => first | exact fun _ _ _ h => h | exact fun _ _ _ h => (by cases h.1)
          case hy4a => (refine Or.inl ⟨by rfl, ?_⟩; intro wz hSw; go_simp; first | done | with_reducible rfl | simp | omega)
          try simp only [Act.put, List.setIfInBounds_toArray, List.set_cons_zero, List.set_cons_succ]
          refine anyT_take (i := 5) (oi := ?oi5a) (v := .int .i64 (k : Int)) ?hi5a (by kernel_rfl) ?hq5a ?hy5a (by assumption) ?rest5a
          case hi5a => (simp only [List.getElem?_toArray, List.getElem?_cons_succ, List.getElem?_cons_zero]; first | done | rfl)
          case hq5a => first | exact fun _ _ _ h => h | exact fun _ _ _ h => (by cases h.1)
          case hy5a => (refine Or.inl ⟨by rfl, ?_⟩; intro wz hSw; go_simp; first | done | with_reducible rfl | simp | omega)
          try simp only [Act.put, List.setIfInBounds_toArray, List.set_cons_zero, List.set_cons_succ]
          refine anyT_take (i := 6) (oi := ?oi6a) (v := .int .i64 (j : Int)) ?hi6a (by kernel_rfl) ?hq6a ?hy6a (by assumption) ?rest6a
          case hi6a => (simp only [List.getElem?_toArray, List.getElem?_cons_succ, List.getElem?_cons_zero]; first | done | rfl)
          case hq6a => first | exact fun _ _ _ h => h | exact fun _ _ _ h => (by cases h.1)
          case hy6a => (refine Or.inl ⟨by rfl, ?_⟩; intro wz hSw; go_simp; first | done | with_reducible rfl | simp [hwr, hwr2] | omega)
          try simp only [Act.put, List.setIfInBounds_toArray, List.set_cons_zero, List.set_cons_succ]
          refine anyT_take (i := 7) (oi := ?oi7a) (v := .pointer (some ⟨ba, oa + j, none⟩)) ?hi7a (by kernel_rfl) ?hq7a ?hy7a (by assumption) ?rest7a
          case hi7a => (simp only [List.getElem?_toArray, List.getElem?_cons_succ, List.getElem?_cons_zero]; first | done | rfl)
          case hq7a => first | exact fun _ _ _ h => h | exact fun _ _ _ h => (by cases h.1)
          case hy7a => (refine Or.inl ⟨by rfl, ?_⟩; intro wz hSw; go_simp; first | done | with_reducible rfl | simp | omega)
          try simp only [Act.put, List.setIfInBounds_toArray, List.set_cons_zero, List.set_cons_succ]
          refine anyT_take (i := 8) (oi := ?oi8a) (v := .int .i64 tj) ?hi8a (by kernel_rfl) ?hq8a ?hy8a (by assumption) ?rest8a
          case hi8a => (simp only [List.getElem?_toArray, List.getElem?_cons_succ, List.getElem?_cons_zero]; first | done | rfl)
          case hq8a => first | exact fun _ _ _ h => h | exact fun _ _ _ h => (by cases h.1)
          case hy8a => (refine Or.inl ⟨by rfl, ?_⟩; intro wz hSw; obtain ⟨hS1, hS2⟩ := hSw; go_simp; first | done | with_reducible rfl | simp | omega)
          try simp only [Act.put, List.setIfInBounds_toArray, List.set_cons_zero, List.set_cons_succ]
          refine anyT_one (i := 9) (by kernel_rfl) rfl (fun K' hK => ?_)
          go_simp
          refine hK.out _ _ (fun h => absurd rfl h) ?_
          clear hK K'
          try simp only [Act.put, List.setIfInBounds_toArray, List.set_cons_zero, List.set_cons_succ]
          refine anyT_done (by kernel_rfl) ?_ _
          go_wp2
          go_roundw
          case rel => exact ⟨k + 1, by omega, by omega, by go_num, hBd⟩
          case measure => simp [intOf]; omega
        · have hkk : k = 5 := by omega
          subst hkk
          have hc1 := hca 1 (by omega)
          have hc2 := hca 2 (by omega)
          rw [hT1] at hc1
          rw [hT2] at hc2
          clear hca
          go_wp2_with fail
          refine region_T (S := (fun w' => w'.cell? ⟨ba, oa + 1, none⟩ = some (.int .i64 1) ∧ w'.cell? ⟨ba, oa + 2, none⟩ = some (.int .i64 cc))) 24 (by kernel_rfl) ?_
          have hSd : (fun w' => w'.cell? ⟨ba, oa + 1, none⟩ = some (.int .i64 1) ∧ w'.cell? ⟨ba, oa + 2, none⟩ = some (.int .i64 cc)) wx.drew := ⟨hc1, hc2⟩
          have hId : Ints wx.drew wx.drew.heap.size A1 n zs := hIx
          have had : Ints wx.drew wx.drew.heap.size (some ⟨ba, oa, none⟩) 5 T := hax
          have hBd : Below w.heap.size w wx.drew := below_drewN Cx 1
          have zw : w4.heap.size ≤ wx.drew.heap.size := zx
          obtain ⟨Wd, hWd⟩ : ∃ Wd, wx.drew = Wd := ⟨_, rfl⟩
          rw [hWd] at hSd hId had hBd zw ⊢
          clear hWd hc1 hc2 hIx hax Cx
          have zd := hBd.size
          refine anyT_take (i := 0) (oi := ?oi0e) (v := .slice (some ⟨ba, oa, none⟩) 5 c2) ?hi0e (by kernel_rfl) ?hq0e ?hy0e (by assumption) ?rest0e
          case hi0e => (simp only [List.getElem?_toArray, List.getElem?_cons_zero]; first | done | rfl)
          case hq0e => first | exact fun _ _ _ h => h | exact fun _ _ _ h => (by cases h.1)
          case hy0e => (refine Or.inl ⟨by rfl, ?_⟩; intro wz hSw; go_simp; first | done | with_reducible rfl | simp | omega)
          try simp only [Act.put, List.setIfInBounds_toArray, List.set_cons_zero, List.set_cons_succ]
          refine anyT_take (i := 1) (oi := ?oi1e) (v := .int .i64 5) ?hi1e (by kernel_rfl) ?hq1e ?hy1e (by assumption) ?rest1e
          case hi1e => (simp only [List.getElem?_toArray, List.getElem?_cons_succ, List.getElem?_cons_zero]; first | done | rfl)
          case hq1e => first | exact fun _ _ _ h => h | exact fun _ _ _ h => (by cases h.1)
          case hy1e => (refine Or.inl ⟨by rfl, ?_⟩; intro wz hSw; go_simp; first | done | with_reducible rfl | simp | omega)
          try simp only [Act.put, List.setIfInBounds_toArray, List.set_cons_zero, List.set_cons_succ]
          refine anyT_take (i := 2) (oi := ?oi2e) (v := .bool true) ?hi2e (by kernel_rfl) ?hq2e ?hy2e (by assumption) ?rest2e
          case hi2e => (simp only [List.getElem?_toArray, List.getElem?_cons_succ, List.getElem?_cons_zero]; first | done | rfl)
          case hq2e => first | exact fun _ _ _ h => h | exact fun _ _ _ h => (by cases h.1)
          case hy2e => (refine Or.inl ⟨by rfl, ?_⟩; intro wz hSw; go_simp; first | done | with_reducible rfl | simp | omega)
          try simp only [Act.put, List.setIfInBounds_toArray, List.set_cons_zero, List.set_cons_succ]
          refine anyT_take (i := 3) (oi := ?oi3e) (v := .bool true) ?hi3e (by kernel_rfl) ?hq3e ?hy3e (by assumption) ?rest3e
          case hi3e => (simp only [List.getElem?_toArray, List.getElem?_cons_succ, List.getElem?_cons_zero]; first | done | rfl)
          case hq3e => first | exact fun _ _ _ h => h | exact fun _ _ _ h => (by cases h.1)
          case hy3e => (refine Or.inl ⟨by rfl, ?_⟩; intro wz hSw; go_simp; first | done | with_reducible rfl | simp | omega)
          try simp only [Act.put, List.setIfInBounds_toArray, List.set_cons_zero, List.set_cons_succ]
          refine anyT_take (i := 4) (oi := ?oi4e) (v := .slice (some ⟨ba, oa, none⟩) 5 c2) ?hi4e (by kernel_rfl) ?hq4e ?hy4e (by assumption) ?rest4e
          case hi4e => (simp only [List.getElem?_toArray, List.getElem?_cons_succ, List.getElem?_cons_zero]; first | done | rfl)
          case hq4e => first | exact fun _ _ _ h => h | exact fun _ _ _ h => (by cases h.1)
          case hy4e => (refine Or.inl ⟨by rfl, ?_⟩; intro wz hSw; go_simp; first | done | with_reducible rfl | simp | omega)
          try simp only [Act.put, List.setIfInBounds_toArray, List.set_cons_zero, List.set_cons_succ]
          refine anyT_take (i := 5) (oi := ?oi5e) (v := .pointer (some ⟨ba, oa + 1, none⟩)) ?hi5e (by kernel_rfl) ?hq5e ?hy5e (by assumption) ?rest5e
          case hi5e => (simp only [List.getElem?_toArray, List.getElem?_cons_succ, List.getElem?_cons_zero]; first | done | rfl)
          case hq5e => first | exact fun _ _ _ h => h | exact fun _ _ _ h => (by cases h.1)
          case hy5e => (refine Or.inl ⟨by rfl, ?_⟩; intro wz hSw; go_simp; first | done | with_reducible rfl | simp | omega)
          try simp only [Act.put, List.setIfInBounds_toArray, List.set_cons_zero, List.set_cons_succ]
          refine anyT_take (i := 6) (oi := ?oi6e) (v := .int .i64 1) ?hi6e (by kernel_rfl) ?hq6e ?hy6e (by assumption) ?rest6e
          case hi6e => (simp only [List.getElem?_toArray, List.getElem?_cons_succ, List.getElem?_cons_zero]; first | done | rfl)
          case hq6e => first | exact fun _ _ _ h => h | exact fun _ _ _ h => (by cases h.1)
          case hy6e => (refine Or.inl ⟨by rfl, ?_⟩; intro wz hSw; obtain ⟨hS1, hS2⟩ := hSw; go_simp; first | done | with_reducible rfl | simp | omega)
          try simp only [Act.put, List.setIfInBounds_toArray, List.set_cons_zero, List.set_cons_succ]
          refine anyT_take (i := 7) (oi := ?oi7e) (v := .bool true) ?hi7e (by kernel_rfl) ?hq7e ?hy7e (by assumption) ?rest7e
          case hi7e => (simp only [List.getElem?_toArray, List.getElem?_cons_succ, List.getElem?_cons_zero]; first | done | rfl)
          case hq7e => first | exact fun _ _ _ h => h | exact fun _ _ _ h => (by cases h.1)
          case hy7e => (refine Or.inl ⟨by rfl, ?_⟩; intro wz hSw; go_simp; first | done | with_reducible rfl | simp | omega)
          try simp only [Act.put, List.setIfInBounds_toArray, List.set_cons_zero, List.set_cons_succ]
          refine anyT_take (i := 8) (oi := ?oi8e) (v := .bool true) ?hi8e (by kernel_rfl) ?hq8e ?hy8e (by assumption) ?rest8e
          case hi8e => (simp only [List.getElem?_toArray, List.getElem?_cons_succ, List.getElem?_cons_zero]; first | done | rfl)
          case hq8e => first | exact fun _ _ _ h => h | exact fun _ _ _ h => (by cases h.1)
          case hy8e => (refine Or.inl ⟨by rfl, ?_⟩; intro wz hSw; go_simp; first | done | with_reducible rfl | simp | omega)
          try simp only [Act.put, List.setIfInBounds_toArray, List.set_cons_zero, List.set_cons_succ]
          refine anyT_take (i := 9) (oi := ?oi9e) (v := .bool true) ?hi9e (by kernel_rfl) ?hq9e ?hy9e (by assumption) ?rest9e
          case hi9e => (simp only [List.getElem?_toArray, List.getElem?_cons_succ, List.getElem?_cons_zero]; first | done | rfl)
          case hq9e => first | exact fun _ _ _ h => h | exact fun _ _ _ h => (by cases h.1)
          case hy9e => (refine Or.inl ⟨by rfl, ?_⟩; intro wz hSw; go_simp; first | done | with_reducible rfl | simp | omega)
          try simp only [Act.put, List.setIfInBounds_toArray, List.set_cons_zero, List.set_cons_succ]
          refine anyT_take (i := 10) (oi := ?oi10e) (v := .slice (some ⟨ba, oa, none⟩) 5 c2) ?hi10e (by kernel_rfl) ?hq10e ?hy10e (by assumption) ?rest10e
          case hi10e => (simp only [List.getElem?_toArray, List.getElem?_cons_succ, List.getElem?_cons_zero]; first | done | rfl)
          case hq10e => first | exact fun _ _ _ h => h | exact fun _ _ _ h => (by cases h.1)
          case hy10e => (refine Or.inl ⟨by rfl, ?_⟩; intro wz hSw; go_simp; first | done | with_reducible rfl | simp | omega)
          try simp only [Act.put, List.setIfInBounds_toArray, List.set_cons_zero, List.set_cons_succ]
          refine anyT_take (i := 11) (oi := ?oi11e) (v := .pointer (some ⟨ba, oa + 2, none⟩)) ?hi11e (by kernel_rfl) ?hq11e ?hy11e (by assumption) ?rest11e
          case hi11e => (simp only [List.getElem?_toArray, List.getElem?_cons_succ, List.getElem?_cons_zero]; first | done | rfl)
          case hq11e => first | exact fun _ _ _ h => h | exact fun _ _ _ h => (by cases h.1)
          case hy11e => (refine Or.inl ⟨by rfl, ?_⟩; intro wz hSw; go_simp; first | done | with_reducible rfl | simp | omega)
          try simp only [Act.put, List.setIfInBounds_toArray, List.set_cons_zero, List.set_cons_succ]
          refine anyT_take (i := 12) (oi := ?oi12e) (v := .int .i64 cc) ?hi12e (by kernel_rfl) ?hq12e ?hy12e (by assumption) ?rest12e
          case hi12e => (simp only [List.getElem?_toArray, List.getElem?_cons_succ, List.getElem?_cons_zero]; first | done | rfl)
          case hq12e => first | exact fun _ _ _ h => h | exact fun _ _ _ h => (by cases h.1)
          case hy12e => (refine Or.inl ⟨by rfl, ?_⟩; intro wz hSw; obtain ⟨hS1, hS2⟩ := hSw; go_simp; first | done | with_reducible rfl | simp | omega)
          try simp only [Act.put, List.setIfInBounds_toArray, List.set_cons_zero, List.set_cons_succ]
          refine anyT_take (i := 13) (oi := ?oi13e) (v := .slice A1 n c1) ?hi13e (by kernel_rfl) ?hq13e ?hy13e (by assumption) ?rest13e
          case hi13e => (simp only [List.getElem?_toArray, List.getElem?_cons_succ, List.getElem?_cons_zero]; first | done | rfl)
          case hq13e => first | exact fun _ _ _ h => h | exact fun _ _ _ h => (by cases h.1)
          case hy13e => (refine Or.inl ⟨by rfl, ?_⟩; intro wz hSw; go_simp; first | done | with_reducible rfl | simp | omega)
          try simp only [Act.put, List.setIfInBounds_toArray, List.set_cons_zero, List.set_cons_succ]
          refine anyT_one (i := 14) (by kernel_rfl) rfl (fun K' hK => ?_)
          go_simp
          refine (CountIdeals_any A1 n c1 zs Wd hId (by omega) (hT.below hBd hw1) (by omega)).mono ?_
          rw [HCI.out]
          rintro e W2 ⟨rfl, hB2⟩
          have z2 := hB2.size
          have hE2 := hBd.trans (hB2.mono zd)
          have hI2 := hId.to hB2 (Nat.le_refl _) z2
          have ha2 := had.to hB2 (Nat.le_refl _) z2
          have hS2 : (fun w' => w'.cell? ⟨ba, oa + 1, none⟩ = some (.int .i64 1) ∧ w'.cell? ⟨ba, oa + 2, none⟩ = some (.int .i64 cc)) W2 := ⟨(World.cell?_of_block (hB2.block ba (by show ba < Wd.heap.size; omega))).trans hSd.1, (World.cell?_of_block (hB2.block ba (by show ba < Wd.heap.size; omega))).trans hSd.2⟩
          refine hK.out _ _ (fun _ => hS2) ?_
          clear hSd hB2 hId had hBd
          clear hK K'
          try simp only [Act.put, List.setIfInBounds_toArray, List.set_cons_zero, List.set_cons_succ]
          refine anyT_take (i := 15) (oi := ?oi15f) (v := .bool true) ?hi15f (by kernel_rfl) ?hq15f ?hy15f (by assumption) ?rest15f
          case hi15f => (simp only [List.getElem?_toArray, List.getElem?_cons_succ, List.getElem?_cons_zero]; first | done | rfl)
          case hq15f => first | exact fun _ _ _ h => h | exact fun _ _ _ h => (by cases h.1)
          case hy15f => (refine Or.inl ⟨by rfl, ?_⟩; intro wz hSw; go_simp; first | done | with_reducible rfl | simp | omega)
          try simp only [Act.put, List.setIfInBounds_toArray, List.set_cons_zero, List.set_cons_succ]
          refine anyT_take (i := 16) (oi := ?oi16f) (v := .bool true) ?hi16f (by kernel_rfl) ?hq16f ?hy16f (by assumption) ?rest16f
          case hi16f => (simp only [List.getElem?_toArray, List.getElem?_cons_succ, List.getElem?_cons_zero]; first | done | rfl)
          case hq16f => first | exact fun _ _ _ h => h | exact fun _ _ _ h => (by cases h.1)
          case hy16f => (refine Or.inl ⟨by rfl, ?_⟩; intro wz hSw; go_simp; first | done | with_reducible rfl | simp | omega)
          try simp only [Act.put, List.setIfInBounds_toArray, List.set_cons_zero, List.set_cons_succ]
          refine anyT_take (i := 17) (oi := ?oi17f) (v := .bool true) ?hi17f (by kernel_rfl) ?hq17f ?hy17f (by assumption) ?rest17f
          case hi17f => (simp only [List.getElem?_toArray, List.getElem?_cons_succ, List.getElem?_cons_zero]; first | done | rfl)
          case hq17f => first | exact fun _ _ _ h => h | exact fun _ _ _ h => (by cases h.1)
          case hy17f => (refine Or.inl ⟨by rfl, ?_⟩; intro wz hSw; go_simp; first | done | with_reducible rfl | simp | omega)
          try simp only [Act.put, List.setIfInBounds_toArray, List.set_cons_zero, List.set_cons_succ]
          refine anyT_take (i := 18) (oi := ?oi18f) (v := .slice A1 n c1) ?hi18f (by kernel_rfl) ?hq18f ?hy18f (by assumption) ?rest18f
          case hi18f => (simp only [List.getElem?_toArray, List.getElem?_cons_succ, List.getElem?_cons_zero]; first | done | rfl)
          case hq18f => first | exact fun _ _ _ h => h | exact fun _ _ _ h => (by cases h.1)
          case hy18f => (refine Or.inl ⟨by rfl, ?_⟩; intro wz hSw; go_simp; first | done | with_reducible rfl | simp | omega)
          try simp only [Act.put, List.setIfInBounds_toArray, List.set_cons_zero, List.set_cons_succ]
          refine anyT_take (i := 21) (oi := ?oi21f) (v := .slice (some ⟨ba, oa, none⟩) 5 c2) ?hi21f (by kernel_rfl) ?hq21f ?hy21f (by assumption) ?rest21f
          case hi21f => (simp only [List.getElem?_toArray, List.getElem?_cons_succ, List.getElem?_cons_zero]; first | done | rfl)
          case hq21f => first | exact fun _ _ _ h => h | exact fun _ _ _ h => (by cases h.1)
          case hy21f => (refine Or.inl ⟨by rfl, ?_⟩; intro wz hSw; go_simp; first | done | with_reducible rfl | simp | omega)
          try simp only [Act.put, List.setIfInBounds_toArray, List.set_cons_zero, List.set_cons_succ]
          refine anyT_one (i := 19) (by kernel_rfl) rfl (fun K' hK => ?_)
          go_simp
          refine (DualOf_any A1 n c1 zs W2 hI2 (by omega)).mono ?_
          rintro e W3 ⟨A9, m9, c9, rfl, r9, hB3⟩
          have z3 := hB3.size
          have hE3 := hE2.trans (hB3.mono hE2.size)
          have h9 := r9.ints (B := W3.heap.size) (Nat.le_refl _)
          have e9 := r9.len
          have ha3 := ha2.to hB3 (Nat.le_refl _) z3
          rw [HD.out] at h9 e9
          rw [HDN.out, hlen.out] at e9
          subst e9
          have hS3 : (fun w' => w'.cell? ⟨ba, oa + 1, none⟩ = some (.int .i64 1) ∧ w'.cell? ⟨ba, oa + 2, none⟩ = some (.int .i64 cc)) W3 := ⟨(World.cell?_of_block (hB3.block ba (by show ba < W2.heap.size; omega))).trans hS2.1, (World.cell?_of_block (hB3.block ba (by show ba < W2.heap.size; omega))).trans hS2.2⟩
          refine hK.out _ _ (fun _ => hS3) ?_
          clear hS2 hB3 hI2 ha2 hE2 r9
          clear hK K'
          try simp only [Act.put, List.setIfInBounds_toArray, List.set_cons_zero, List.set_cons_succ]
          refine anyT_one (i := 20) (by kernel_rfl) rfl (fun K' hK => ?_)
          go_simp
          refine (LineSums_any A9 _ c9 (du zs) W3 h9 (by omega)).mono ?_
          rw [HDT.out]
          rintro e W4 ⟨A8, m8, c8, rfl, r8, hB4⟩
          have z4 := hB4.size
          have hE4 := hE3.trans (hB4.mono hE3.size)
          have h8 := r8.ints (B := W4.heap.size) (Nat.le_refl _)
          have e8 := r8.len
          have ha4 := ha3.to hB4 (Nat.le_refl _) z4
          rw [hT5] at e8
          subst e8
          have hS4 : (fun w' => w'.cell? ⟨ba, oa + 1, none⟩ = some (.int .i64 1) ∧ w'.cell? ⟨ba, oa + 2, none⟩ = some (.int .i64 cc)) W4 := ⟨(World.cell?_of_block (hB4.block ba (by show ba < W3.heap.size; omega))).trans hS3.1, (World.cell?_of_block (hB4.block ba (by show ba < W3.heap.size; omega))).trans hS3.2⟩
          refine hK.out _ _ (fun _ => hS4) ?_
          clear hS3 hB4 ha3 hE3 r8 h9
          clear hK K'
          try simp only [Act.put, List.setIfInBounds_toArray, List.set_cons_zero, List.set_cons_succ]
          refine anyT_one (i := 22) (by kernel_rfl) rfl (fun K' hK => ?_)
          go_simp
          refine (equalSame_any _ _ _ _ _ _ _ _ _ _ h8 ha4 (by omega) (by omega)).mono ?_
          rintro e W5 ⟨rfl, hB5⟩
          have hE5 := hE4.trans (hB5.mono hE4.size)
          have hS5 : (fun w' => w'.cell? ⟨ba, oa + 1, none⟩ = some (.int .i64 1) ∧ w'.cell? ⟨ba, oa + 2, none⟩ = some (.int .i64 cc)) W5 := ⟨(World.cell?_of_block (hB5.block ba (by show ba < W4.heap.size; omega))).trans hS4.1, (World.cell?_of_block (hB5.block ba (by show ba < W4.heap.size; omega))).trans hS4.2⟩
          refine hK.out _ _ (fun _ => hS5) ?_
          clear hS4 hB5
          clear hK K'
          try simp only [Act.put, List.setIfInBounds_toArray, List.set_cons_zero, List.set_cons_succ]
          refine anyT_take (i := 23) (oi := ?oi23g) (v := .bool true) ?hi23g (by kernel_rfl) ?hq23g ?hy23g (by assumption) ?rest23g
          case hi23g => (simp only [List.getElem?_toArray, List.getElem?_cons_succ, List.getElem?_cons_zero]; first | done | rfl)
          case hq23g => first | exact fun _ _ _ h => h | exact fun _ _ _ h => (by cases h.1)
          case hy23g => (refine Or.inl ⟨by rfl, ?_⟩; intro wz hSw; go_simp; first | done | with_reducible rfl | simp | omega)
          try simp only [Act.put, List.setIfInBounds_toArray, List.set_cons_zero, List.set_cons_succ]
          refine anyT_one (i := 24) (by kernel_rfl) rfl (fun K' hK => ?_)
          go_simp
          refine hK.out _ _ (fun h => absurd rfl h) ?_
          clear hK K'
          try simp only [Act.put, List.setIfInBounds_toArray, List.set_cons_zero, List.set_cons_succ]
          refine anyT_done (by kernel_rfl) ?_ _
          go_wp2_with fail
          go_ret
          exact ⟨rfl, hE5⟩
  · go_enter Tryd.func3, Tryd.ntmps3
    go_wp2
    go_ret
    exact ⟨rfl, Below.refl _ _⟩
end Go.Proofs.YtcadmjpkgnbodaaDoor

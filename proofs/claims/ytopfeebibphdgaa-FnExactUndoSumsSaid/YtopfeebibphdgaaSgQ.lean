/- SignOf: the program's and the model's. -/
import Derived.Test.YtopfeebibphdgaaSgP
namespace Go.Proofs.Ytopfeebibphdgaa
open Go.RowKit Go.Shelf
attribute [local go_sem] Oper.semAt_some
attribute [local go_sem, local simp] wide_fn

theorem ends_parts {zs : List Int} {a b : Int} (h : endsB zs a b = true) : VoP zs ∧ ∃ x y : Nat, a = x ∧ b = y ∧ x < zs.length ∧ y < zs.length := by
  unfold endsB isIt inB at h
  simp only [Bool.and_eq_true, decide_eq_true_eq] at h
  obtain ⟨h1, h2, h3⟩ := h
  exact ⟨by simpa [vo] using h1, a.toNat, b.toNat, by omega, by omega, by omega, by omega⟩
theorem signR_no {zs : List Int} {a b : Int} (h : endsB zs a b = false) : signR zs a b = -1000 := by
  unfold endsB at h
  unfold signR; rw [h]; rfl
theorem signR_yes {zs : List Int} {x y : Nat} (h : endsB zs (x : Int) (y : Int) = true) : signR zs (x : Int) (y : Int) = muI zs x y := by
  unfold endsB at h
  unfold signR; rw [h]; rfl

set_option maxRecDepth 100000 in
set_option maxHeartbeats 4000000 in
theorem SignOf_any (A : Option Addr) (n c : Nat) (zs : List Int) (a b : Int) (w : World) (h : Ints w w.heap.size A n zs) (hbig : n ≤ 1152921504606846976) :
    Calls Try.prog 21 #[.slice A n c, .int .i64 a, .int .i64 b] w fun e w' => e = .returned (.int .i64 (signR zs a b)) ∧ Below w.heap.size w w' := by
  have hlen := Lib.hid h.len
  go_enter Try.func21, Try.ntmps21
  go_wp2_with fail
  refine (readEnds_any A n c zs a b w h hbig).mono ?_
  rintro e w2 ⟨hB2, (⟨hv, q, rfl, hq, hAr⟩ | ⟨hv, rfl⟩)⟩
  · obtain ⟨hvo, x, y, rfl, rfl, hx, hy⟩ := ends_parts hv
    have Ht := Lib.hid (signR_yes hv)
    rw [hlen.out] at hx hy
    have z2 := hB2.size
    have hql := hAr.lt
    clear hv
    go_wp2
    have bE := heap_alloc_new w2 (.cells #[Value.int .i64 (x : Int), .int .i64 (y : Int)] 44)
    have hU2 : Upd (fun _ => False) w2 (w2.alloc (.cells #[Value.int .i64 (x : Int), .int .i64 (y : Int)] 44)).drew := ((Upd.refl _ w2).alloc _).drew
    have bEd : (w2.alloc (.cells #[Value.int .i64 (x : Int), .int .i64 (y : Int)] 44)).drew.heap[w2.heap.size]? = some (.cells #[Value.int .i64 (x : Int), .int .i64 (y : Int)] 44 (0, 0)) := bE
    have hzd : w2.heap.size < (w2.alloc (.cells #[Value.int .i64 (x : Int), .int .i64 (y : Int)] 44)).drew.heap.size := by show _ < (w2.alloc _).heap.size; simp
    refine region_T (S := (fun w' => w'.heap[w2.heap.size]? = some (.cells #[Value.int .i64 (x : Int), .int .i64 (y : Int)] 44 (0, 0)))) 4 (by kernel_rfl) ?_
    obtain ⟨Wd, hWd⟩ : ∃ Wd, (w2.alloc (.cells #[Value.int .i64 (x : Int), .int .i64 (y : Int)] 44)).drew = Wd := ⟨_, rfl⟩
    rw [hWd] at hU2 bEd hzd ⊢
    clear hWd bE
    have hAd := hAr.upd hU2 (fun e => e)
    have hSd : (fun w' => w'.heap[w2.heap.size]? = some (.cells #[Value.int .i64 (x : Int), .int .i64 (y : Int)] 44 (0, 0))) Wd := bEd
    refine anyT_take (i := 0) (oi := ?oi0a) (v := .slice (some ⟨q, 0, none⟩) n n) ?hi0a (by kernel_rfl) ?hq0a ?hy0a (by assumption) ?rest0a
    case hi0a => (simp only [List.getElem?_toArray, List.getElem?_cons_zero]; first | done | rfl)
    case hq0a => first | exact fun _ _ _ h => h | exact fun _ _ _ h => (by cases h.1)
    case hy0a => (refine Or.inl ⟨by rfl, ?_⟩; intro wz hSw; go_simp; first | done | with_reducible rfl | simp | omega)
    try simp only [Act.put, List.setIfInBounds_toArray, List.set_cons_zero, List.set_cons_succ]
    refine anyT_take (i := 2) (oi := ?oi2a) (v := .agg #[Value.int .i64 (x : Int), .int .i64 (y : Int)]) ?hi2a (by kernel_rfl) ?hq2a ?hy2a (by assumption) ?rest2a
    case hi2a => (simp only [List.getElem?_toArray, List.getElem?_cons_succ, List.getElem?_cons_zero]; first | done | rfl)
    case hq2a => first | exact fun _ _ _ h => h | exact fun _ _ _ h => (by cases h.1)
    case hy2a => exact yieldsIf_load_row (by rfl) _ _ rfl _ rfl _ _ _ (fun _ h => h) Try.underlying44 rfl (by kernel_rfl)
    try simp only [Act.put, List.setIfInBounds_toArray, List.set_cons_zero, List.set_cons_succ]
    refine anyT_one (i := 1) (by kernel_rfl) rfl (fun K' hK => ?_)
    go_simp
    refine (osigns_any q n zs Wd hAd).mono ?_
    rintro e w3 ⟨m, rfl, hm, hmz, hB3⟩
    have z3 := hB3.size
    have hA3 := hAd.below hB3 (by omega)
    have hS3 : (fun w' => w'.heap[w2.heap.size]? = some (.cells #[Value.int .i64 (x : Int), .int .i64 (y : Int)] 44 (0, 0))) w3 := (hB3.block _ hzd).trans bEd
    refine hK.out _ _ (fun _ => hS3) ?_
    clear hK K'
    try simp only [Act.put, List.setIfInBounds_toArray, List.set_cons_zero, List.set_cons_succ]
    refine anyT_one (i := 3) (by kernel_rfl) rfl (fun K' hK => ?_)
    go_simp
    refine (sof_any zs hvo n hlen.out q m (by omega) 7 x y 0 w3 (rank_le6 hvo y) (by omega) hx hy hA3 (EMap.new hm) (by decide)).mono ?_
    rintro e w4 ⟨rfl, -, hU4⟩
    have hS4 : (fun w' => w'.heap[w2.heap.size]? = some (.cells #[Value.int .i64 (x : Int), .int .i64 (y : Int)] 44 (0, 0))) w4 := (hU4.block w2.heap.size (by omega) (by omega)).trans hS3
    refine hK.out _ _ (fun _ => hS4) ?_
    clear hK K'
    try simp only [Act.put, List.setIfInBounds_toArray, List.set_cons_zero, List.set_cons_succ]
    refine anyT_one (i := 4) (by kernel_rfl) rfl (fun K' hK => ?_)
    go_simp
    refine hK.out _ _ (fun h => absurd rfl h) ?_
    clear hK K'
    try simp only [Act.put, List.setIfInBounds_toArray, List.set_cons_zero, List.set_cons_succ]
    refine anyT_done (by kernel_rfl) ?_ _
    go_wp2
    go_ret
    exact ⟨ret_int Ht.out.symm, hB2.trans ((((hU2.below hB3 (fun k h1 h2 => by omega)).mono fun _ _ e => e.elim).trans' (R := fun k => w2.heap.size ≤ k) hU4 (fun i hi e => by omega)).toBelow (fun _ e => e) (Nat.le_refl _) |>.mono z2)⟩
  · have Ht := Lib.hid (signR_no hv)
    go_wp2_with fail
    go_ret
    exact ⟨ret_int Ht.out.symm, hB2.alloc hB2.size _⟩

theorem signOf_in {zs : List Int} {n : Nat} (h : zs.length = n) {x y : Nat} (hv : vo zs = true) (hx : x < n) (hy : y < n) : signR zs (x : Int) (y : Int) = muI zs x y := by
  refine signR_yes ?_
  unfold endsB isIt inB
  rw [hv, h, decide_eq_true (by omega), decide_eq_true (by omega)]; rfl
set_option maxHeartbeats 1000000 in
theorem specSignOfF_any (A : Option Addr) (n c : Nat) (zs : List Int) (a b : Int) (w : World) (h : Ints w w.heap.size A n zs) (hbig : n ≤ 1152921504606846976) :
    Calls Try.prog 20 #[.slice A n c, .int .i64 a, .int .i64 b] w fun e w' => e = .returned (.int .i64 (signR zs a b)) ∧ Below w.heap.size w w' := by
  have hlen := Lib.hid h.len
  have hir := fun k w => inRange_any k 0 ((n : Int) - 1) w
  cases hv : vo zs
  · have Ht := Lib.hid (show signR zs a b = -1000 by unfold signR; rw [hv]; rfl)
    have HV := Lib.hid hv
    clear hv
    go_enter Try.func20, Try.ntmps20
    go_wp2_with fail
    refine (validOrder_any _ _ _ _ zs _ h hbig).mono ?_
    rw [HV.out]
    rintro e w' ⟨rfl, m, rfl⟩
    go_wp2_with fail
    go_ret
    exact ⟨ret_int Ht.out.symm, below_drewN (Below.refl _ _) _⟩
  · have hvo : VoP zs := by simpa [vo] using hv
    have HV := Lib.hid hv
    clear hv
    cases ha : inB a 0 ((n : Int) - 1)
    · have Ht := Lib.hid (show signR zs a b = -1000 by unfold signR isIt; rw [HV.out, hlen.out, ha]; rfl)
      have hia := fun w => hir a w
      rw [ha] at hia
      go_enter Try.func20, Try.ntmps20
      go_wp2_with fail
      refine (validOrder_any _ _ _ _ zs _ h hbig).mono ?_
      rw [HV.out]
      rintro e w' ⟨rfl, m, rfl⟩
      go_wp2_with fail
      refine (hia _).mono ?_
      rintro e w' ⟨rfl, rfl⟩
      go_wp2_with fail
      go_ret
      exact ⟨ret_int Ht.out.symm, below_drewN (Below.refl _ _) _⟩
    · cases hb : inB b 0 ((n : Int) - 1)
      · have Ht := Lib.hid (show signR zs a b = -1000 by unfold signR isIt; rw [HV.out, hlen.out, ha, hb]; rfl)
        have hia := fun w => hir a w
        have hib := fun w => hir b w
        rw [ha] at hia
        rw [hb] at hib
        go_enter Try.func20, Try.ntmps20
        go_wp2_with fail
        refine (validOrder_any _ _ _ _ zs _ h hbig).mono ?_
        rw [HV.out]
        rintro e w' ⟨rfl, m, rfl⟩
        go_wp2_with fail
        refine (hia _).mono ?_
        rintro e w' ⟨rfl, rfl⟩
        go_wp2_with fail
        refine (hib _).mono ?_
        rintro e w' ⟨rfl, rfl⟩
        go_wp2_with fail
        go_ret
        exact ⟨ret_int Ht.out.symm, below_drewN (Below.refl _ _) _⟩
      · have Ht := Lib.hid (show signR zs a b = muI zs a.toNat b.toNat by unfold signR isIt; rw [HV.out, hlen.out, ha, hb]; rfl)
        have hia := fun w => hir a w
        have hib := fun w => hir b w
        rw [ha] at hia
        rw [hb] at hib
        simp only [inB, decide_eq_true_eq] at ha hb
        obtain ⟨x, rfl⟩ := Int.eq_ofNat_of_zero_le ha.1
        obtain ⟨y, rfl⟩ := Int.eq_ofNat_of_zero_le hb.1
        rw [Int.toNat_natCast, Int.toNat_natCast] at Ht
        have hx : x < n := by omega
        have hy : y < n := by omega
        clear hir ha hb
        go_enter Try.func20, Try.ntmps20
        go_wp2_with fail
        refine (validOrder_any _ _ _ _ zs _ h hbig).mono ?_
        rw [HV.out]
        rintro e w' ⟨rfl, m, rfl⟩
        go_wp2_with fail
        refine (hia _).mono ?_
        rintro e w' ⟨rfl, rfl⟩
        go_wp2_with fail
        refine (hib _).mono ?_
        rintro e w' ⟨rfl, rfl⟩
        go_wp2_with fail
        refine (smobius_any A n c zs hvo hlen.out 7 x y _ _ (h.drewN m) (rank_le6 hvo y) hx hy).mono ?_
        rintro e w2 ⟨rfl, m2, rfl⟩
        go_wp2_with fail
        go_ret
        exact ⟨ret_int Ht.out.symm, below_drewN (Below.refl _ _) _⟩

end Go.Proofs.Ytopfeebibphdgaa

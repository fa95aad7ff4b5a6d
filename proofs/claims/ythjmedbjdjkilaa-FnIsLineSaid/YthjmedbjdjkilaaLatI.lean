/- LineAt: the program's, whole. -/
import Derived.Test.YthjmedbjdjkilaaAtI
import Derived.Test.YthjmedbjdjkilaaAtS
import Derived.Test.YthjmedbjdjkilaaRowV
namespace Go.Proofs.Ythjmedbjdjkilaa
open Go.RowKit Go.Shelf

set_option maxHeartbeats 4000000 in
theorem LineAt_any (A : Option Addr) (n c : Nat) (zs : List Int) (r : Int) (w : World) (h : Ints w w.heap.size A n zs) (hbig : n ≤ 1152921504606846976) :
    Calls Try.prog 18 #[.slice A n c, .int .i64 r] w (GivesAtV w (atR zs r) (hasAt zs r)) := by
  have hlen := Lib.hid h.len
  cases hv : vo zs
  · have Hh := Lib.hid (show hasAt zs r = false by unfold hasAt; rw [hv]; rfl)
    have Ht := Lib.hid (show atR zs r = [] by unfold atR; rw [Hh.out]; rfl)
    have Hv := Lib.hid hv
    clear hv
    go_enter Try.func18, Try.ntmps18
    go_wp2_with fail
    refine (readOrder_any _ _ _ zs _ h hbig).mono ?_
    rintro e w' ⟨hB, (⟨hv, b, rfl, _, _⟩ | ⟨_, rfl⟩)⟩
    · rw [Hv.out] at hv; cases hv
    · go_wp2_with fail
      go_ret2
      exact ⟨none, 0, 0, by rw [Hh.out]; rfl, by rw [Ht.out]; exact RowV.nil _ _ _ _, hB⟩
  · have hvo : VoP zs := by simpa [vo] using hv
    have Hv := Lib.hid hv
    clear hv
    have hn6 : n ≤ 6 := by have := hvo.1; rw [hlen.out] at this; exact this
    have hp64 := pow_le64 hn6
    have hpp := Nat.two_pow_pos n
    have hF := cF_le hvo (s := 2 ^ n - 1) (by rw [hlen.out]; omega)
    have Hall := Lib.hid (show powI n - 1 = ((2 ^ n - 1 : Nat) : Int) by
      have : powI (n : Int) = ((2 ^ n : Nat) : Int) := by simp [powI]
      omega)
    have hwr := (writes_le (show 2 ^ n - 1 < 64 by omega)).2
    go_enter Try.func18, Try.ntmps18
    go_wp2_with fail
    refine (readOrder_any _ _ _ zs _ h hbig).mono ?_
    rintro e w1 ⟨hB, (⟨_, b, rfl, hb, hAr⟩ | ⟨hv, _⟩)⟩
    · have z1 := hB.size
      go_wp2_with fail
      refine (lineup_any _ n _ zs hvo.sets _ (hAr.ints' hAr.lt hlen.out)).mono ?_
      rintro e w2 ⟨bd, bm, rfl, hA2, hm2, hbd, hbm, hne, hB2⟩
      unfold lineV
      have z2 := hB2.size
      have C2 := hB.trans (hB2.mono z1)
      have l2 := hA2.lt
      have hm2l := (Array.getElem?_eq_some_iff.1 hm2).1
      have hs0 : (w2.alloc (.cells #[Value.slice (some ⟨bd, 0, none⟩) n n, .map (some bm)] 62)).heap[w2.heap.size]? = some (.cells #[Value.slice (some ⟨bd, 0, none⟩) n n, .map (some bm)] 62 (0, 0)) := heap_alloc_new w2 _
      have hU3 : Upd (fun _ => False) w2 (w2.alloc (.cells #[Value.slice (some ⟨bd, 0, none⟩) n n, .map (some bm)] 62)) := (Upd.refl _ w2).alloc _
      have hz3 : (w2.alloc (.cells #[Value.slice (some ⟨bd, 0, none⟩) n n, .map (some bm)] 62)).heap.size = w2.heap.size + 1 := by simp
      have hA3 := hA2.upd hU3 (fun e => e)
      have hM3 : MapOk zs (w2.alloc (.cells #[Value.slice (some ⟨bd, 0, none⟩) n n, .map (some bm)] 62)) bm 0 := (MapOk.new hm2).upd hU3 (fun e => e)
      have C3 := C2.trans (hU3.toBelow (B := w.heap.size) (fun _ e => e.elim) (by omega))
      by_cases hr0 : r < 0
      · have hd : decide (r < 0) = true := decide_eq_true hr0
        have Hh := Lib.hid (show hasAt zs r = false by unfold hasAt; rw [decide_eq_false (show ¬ 0 ≤ r by omega)]; simp)
        have Ht := Lib.hid (show atR zs r = [] by unfold atR; rw [Hh.out]; rfl)
        go_wp2_with fail
        refine region_T (S := (fun w' => w'.heap[w2.heap.size]? = some (.cells #[Value.slice (some ⟨bd, 0, none⟩) n n, .map (some bm)] 62 (0, 0)))) 9 (by kernel_rfl) ?_
        have hS0 : (fun w' => w'.heap[w2.heap.size]? = some (.cells #[Value.slice (some ⟨bd, 0, none⟩) n n, .map (some bm)] 62 (0, 0))) (w2.alloc (.cells #[Value.slice (some ⟨bd, 0, none⟩) n n, .map (some bm)] 62)).drew := hs0
        refine anyT_take (i := 0) (oi := ?oi0) (v := .int .i64 r) ?hi0 (by kernel_rfl) ?hq0 ?hy0 (by assumption) ?rest0
        case hi0 => (simp only [List.getElem?_toArray, List.getElem?_cons_zero]; first | done | rfl)
        case hq0 => exact fun _ _ _ h => h
        case hy0 => (refine Or.inl ⟨by rfl, ?_⟩; intro wz hSw; go_simp; first | done | with_reducible rfl | simp [hd] | omega)
        try simp only [Act.put, List.setIfInBounds_toArray, List.set_cons_zero, List.set_cons_succ]
        refine anyT_take (i := 1) (oi := ?oi1) (v := .bool true) ?hi1 (by kernel_rfl) ?hq1 ?hy1 (by assumption) ?rest1
        case hi1 => (simp only [List.getElem?_toArray, List.getElem?_cons_succ, List.getElem?_cons_zero]; first | done | rfl)
        case hq1 => exact fun _ _ _ h => h
        case hy1 => (refine Or.inl ⟨by rfl, ?_⟩; intro wz hSw; go_simp; first | done | with_reducible rfl | simp [hd] | omega)
        try simp only [Act.put, List.setIfInBounds_toArray, List.set_cons_zero, List.set_cons_succ]
        refine anyT_take (i := 2) (oi := ?oi2) (v := .bool true) ?hi2 (by kernel_rfl) ?hq2 ?hy2 (by assumption) ?rest2
        case hi2 => (simp only [List.getElem?_toArray, List.getElem?_cons_succ, List.getElem?_cons_zero]; first | done | rfl)
        case hq2 => exact fun _ _ _ h => h
        case hy2 => (refine Or.inl ⟨by rfl, ?_⟩; intro wz hSw; go_simp; first | done | with_reducible rfl | simp [hd] | omega)
        try simp only [Act.put, List.setIfInBounds_toArray, List.set_cons_zero, List.set_cons_succ]
        refine anyT_take (i := 3) (oi := ?oi3) (v := undef) ?hi3 (by kernel_rfl) ?hq3 ?hy3 (by assumption) ?rest3
        case hi3 => (simp only [List.getElem?_toArray, List.getElem?_cons_succ, List.getElem?_cons_zero]; first | done | rfl)
        case hq3 => exact fun _ _ _ h => h
        case hy3 => exact Or.inr ⟨by rfl, rfl⟩
        try simp only [Act.put, List.setIfInBounds_toArray, List.set_cons_zero, List.set_cons_succ]
        refine anyT_take (i := 4) (oi := ?oi4) (v := undef) ?hi4 (by kernel_rfl) ?hq4 ?hy4 (by assumption) ?rest4
        case hi4 => (simp only [List.getElem?_toArray, List.getElem?_cons_succ, List.getElem?_cons_zero]; first | done | rfl)
        case hq4 => exact fun _ _ _ h => h
        case hy4 => exact Or.inr ⟨by rfl, rfl⟩
        try simp only [Act.put, List.setIfInBounds_toArray, List.set_cons_zero, List.set_cons_succ]
        refine anyT_take (i := 5) (oi := ?oi5) (v := undef) ?hi5 (by kernel_rfl) ?hq5 ?hy5 (by assumption) ?rest5
        case hi5 => (simp only [List.getElem?_toArray, List.getElem?_cons_succ, List.getElem?_cons_zero]; first | done | rfl)
        case hq5 => exact fun _ _ _ h => h
        case hy5 => exact Or.inr ⟨by rfl, rfl⟩
        try simp only [Act.put, List.setIfInBounds_toArray, List.set_cons_zero, List.set_cons_succ]
        refine anyT_take (i := 6) (oi := ?oi6) (v := undef) ?hi6 (by kernel_rfl) ?hq6 ?hy6 (by assumption) ?rest6
        case hi6 => (simp only [List.getElem?_toArray, List.getElem?_cons_succ, List.getElem?_cons_zero]; first | done | rfl)
        case hq6 => exact fun _ _ _ h => h
        case hy6 => exact Or.inr ⟨by rfl, rfl⟩
        try simp only [Act.put, List.setIfInBounds_toArray, List.set_cons_zero, List.set_cons_succ]
        refine anyT_take (i := 7) (oi := ?oi7) (v := undef) ?hi7 (by kernel_rfl) ?hq7 ?hy7 (by assumption) ?rest7
        case hi7 => (simp only [List.getElem?_toArray, List.getElem?_cons_succ, List.getElem?_cons_zero]; first | done | rfl)
        case hq7 => exact fun _ _ _ h => h
        case hy7 => exact Or.inr ⟨by rfl, rfl⟩
        try simp only [Act.put, List.setIfInBounds_toArray, List.set_cons_zero, List.set_cons_succ]
        refine anyT_take (i := 8) (oi := ?oi8) (v := undef) ?hi8 (by kernel_rfl) ?hq8 ?hy8 (by assumption) ?rest8
        case hi8 => (simp only [List.getElem?_toArray, List.getElem?_cons_succ, List.getElem?_cons_zero]; first | done | rfl)
        case hq8 => exact fun _ _ _ h => h
        case hy8 => exact Or.inr ⟨by rfl, rfl⟩
        try simp only [Act.put, List.setIfInBounds_toArray, List.set_cons_zero, List.set_cons_succ]
        refine anyT_one (i := 9) (by kernel_rfl) rfl (fun K' hK => ?_)
        go_simp
        refine hK.out _ _ (fun h => absurd rfl h) ?_
        clear hK K'
        try simp only [Act.put, List.setIfInBounds_toArray, List.set_cons_zero, List.set_cons_succ]
        refine anyT_done (by kernel_rfl) ?_ _
        go_wp2_with fail
        go_ret2
        exact ⟨none, 0, 0, by rw [Hh.out]; rfl, by rw [Ht.out]; exact RowV.nil _ _ _ _, below_drewN C3 1⟩
      · have hd : decide (r < 0) = false := decide_eq_false hr0
        obtain ⟨R, rfl⟩ : ∃ R : Nat, r = (R : Int) := ⟨r.toNat, by omega⟩
        have hrec := fun w' hA' hM' => lcount_any zs hvo n hlen.out bd bm hne _ (2 ^ n - 1) 0 w' (Nat.le_refl _) (by omega) hA' hM' (by omega)
        obtain ⟨F, hFF⟩ : ∃ F, cF zs (2 ^ n - 1) = F := ⟨_, rfl⟩
        have HF := Lib.hid hFF
        rw [hFF] at hF
        simp only [hFF] at hrec
        clear hFF
        go_wp2_with fail
        refine region_T (S := (fun w' => w'.heap[w2.heap.size]? = some (.cells #[Value.slice (some ⟨bd, 0, none⟩) n n, .map (some bm)] 62 (0, 0)))) 9 (by kernel_rfl) ?_
        have hS0 : (fun w' => w'.heap[w2.heap.size]? = some (.cells #[Value.slice (some ⟨bd, 0, none⟩) n n, .map (some bm)] 62 (0, 0))) (w2.alloc (.cells #[Value.slice (some ⟨bd, 0, none⟩) n n, .map (some bm)] 62)).drew := hs0
        refine anyT_take (i := 0) (oi := ?oib0) (v := .int .i64 (R : Int)) ?hib0 (by kernel_rfl) ?hqb0 ?hyb0 (by assumption) ?restb0
        case hib0 => (simp only [List.getElem?_toArray, List.getElem?_cons_zero]; first | done | rfl)
        case hqb0 => exact fun _ _ _ h => h
        case hyb0 => (refine Or.inl ⟨by rfl, ?_⟩; intro wz hSw; go_simp; first | done | with_reducible rfl | simp [hd] | omega)
        try simp only [Act.put, List.setIfInBounds_toArray, List.set_cons_zero, List.set_cons_succ]
        refine anyT_take (i := 1) (oi := ?oib1) (v := .bool false) ?hib1 (by kernel_rfl) ?hqb1 ?hyb1 (by assumption) ?restb1
        case hib1 => (simp only [List.getElem?_toArray, List.getElem?_cons_succ, List.getElem?_cons_zero]; first | done | rfl)
        case hqb1 => exact fun _ _ _ h => h
        case hyb1 => (refine Or.inl ⟨by rfl, ?_⟩; intro wz hSw; go_simp; first | done | with_reducible rfl | simp [hd] | omega)
        try simp only [Act.put, List.setIfInBounds_toArray, List.set_cons_zero, List.set_cons_succ]
        refine anyT_take (i := 2) (oi := ?oib2) (v := .bool false) ?hib2 (by kernel_rfl) ?hqb2 ?hyb2 (by assumption) ?restb2
        case hib2 => (simp only [List.getElem?_toArray, List.getElem?_cons_succ, List.getElem?_cons_zero]; first | done | rfl)
        case hqb2 => exact fun _ _ _ h => h
        case hyb2 => (refine Or.inl ⟨by rfl, ?_⟩; intro wz hSw; go_simp; first | done | with_reducible rfl | simp [hd] | omega)
        try simp only [Act.put, List.setIfInBounds_toArray, List.set_cons_zero, List.set_cons_succ]
        refine anyT_take (i := 3) (oi := ?oib3) (v := .int .i64 (R : Int)) ?hib3 (by kernel_rfl) ?hqb3 ?hyb3 (by assumption) ?restb3
        case hib3 => (simp only [List.getElem?_toArray, List.getElem?_cons_succ, List.getElem?_cons_zero]; first | done | rfl)
        case hqb3 => exact fun _ _ _ h => h
        case hyb3 => (refine Or.inl ⟨by rfl, ?_⟩; intro wz hSw; go_simp; first | done | with_reducible rfl | simp [hd] | omega)
        try simp only [Act.put, List.setIfInBounds_toArray, List.set_cons_zero, List.set_cons_succ]
        refine anyT_take (i := 4) (oi := ?oib4) (v := .agg #[Value.slice (some ⟨bd, 0, none⟩) n n, .map (some bm)]) ?hib4 (by kernel_rfl) ?hqb4 ?hyb4 (by assumption) ?restb4
        case hib4 => (simp only [List.getElem?_toArray, List.getElem?_cons_succ, List.getElem?_cons_zero]; first | done | rfl)
        case hqb4 => exact fun _ _ _ h => h
        case hyb4 => exact yieldsIf_load_row (by rfl) _ _ rfl w2.heap.size rfl _ _ _ (fun _ h => h) Try.underlying62 rfl (by kernel_rfl)
        try simp only [Act.put, List.setIfInBounds_toArray, List.set_cons_zero, List.set_cons_succ]
        refine anyT_take (i := 5) (oi := ?oib5) (v := .agg #[Value.slice (some ⟨bd, 0, none⟩) n n, .map (some bm)]) ?hib5 (by kernel_rfl) ?hqb5 ?hyb5 (by assumption) ?restb5
        case hib5 => (simp only [List.getElem?_toArray, List.getElem?_cons_succ, List.getElem?_cons_zero]; first | done | rfl)
        case hqb5 => exact fun _ _ _ h => h
        case hyb5 => exact yieldsIf_load_row (by rfl) _ _ rfl w2.heap.size rfl _ _ _ (fun _ h => h) Try.underlying62 rfl (by kernel_rfl)
        try simp only [Act.put, List.setIfInBounds_toArray, List.set_cons_zero, List.set_cons_succ]
        have hA4 : Arr (w2.alloc (.cells #[Value.slice (some ⟨bd, 0, none⟩) n n, .map (some bm)] 62)).drew bd 65 (du zs) := hA3
        have hM4 : MapOk zs (w2.alloc (.cells #[Value.slice (some ⟨bd, 0, none⟩) n n, .map (some bm)] 62)).drew bm 0 := hM3
        have C4 := below_drewN C3 1
        have hz4 : (w2.alloc (.cells #[Value.slice (some ⟨bd, 0, none⟩) n n, .map (some bm)] 62)).drew.heap.size = w2.heap.size + 1 := hz3
        obtain ⟨W4, hW4⟩ : ∃ W4, (w2.alloc (.cells #[Value.slice (some ⟨bd, 0, none⟩) n n, .map (some bm)] 62)).drew = W4 := ⟨_, rfl⟩
        have C4' : Below w.heap.size w W4 := hW4 ▸ C4
        rw [hW4] at hA4 hM4 hz4 hS0 ⊢
        clear hW4 C4 C3 hA3 hM3 hU3 hz3 hs0
        refine anyT_one (i := 6) (by kernel_rfl) rfl (fun K' hK => ?_)
        go_simp
        refine (lall2_any bd bm n _ hn6).mono ?_
        rintro e w5 ⟨rfl, hB5⟩
        have hS5 : (fun w' => w'.heap[w2.heap.size]? = some (.cells #[Value.slice (some ⟨bd, 0, none⟩) n n, .map (some bm)] 62 (0, 0))) w5 := (hB5.block _ (by omega)).trans hS0
        refine hK.out _ _ (fun _ => hS5) ?_
        clear hK K'
        try simp only [Act.put, List.setIfInBounds_toArray, List.set_cons_zero, List.set_cons_succ]
        rw [Hall.out]
        refine anyT_one (i := 7) (by kernel_rfl) rfl (fun K' hK => ?_)
        go_simp
        refine (hrec w5 (hA4.below hB5 hA4.lt) (hM4.upd (Below.toUpd hB5) (fun e => by have := hM4.lt; omega))).mono ?_
        rintro e w6 ⟨rfl, hM6, hU6⟩
        have z5 := hB5.size
        have hS6 : (fun w' => w'.heap[w2.heap.size]? = some (.cells #[Value.slice (some ⟨bd, 0, none⟩) n n, .map (some bm)] 62 (0, 0))) w6 := (hU6.block _ (by omega) (by omega)).trans hS5
        have hA6 := (hA4.below hB5 hA4.lt).upd hU6 hne
        have C6 := (C4'.trans (hB5.mono C4'.size)).trans (hU6.toBelow (B := w.heap.size) (fun i e => by omega) (by omega))
        refine hK.out _ _ (fun _ => hS6) ?_
        clear hK K' hS0
        have hS0 := hS6
        try simp only [Act.put, List.setIfInBounds_toArray, List.set_cons_zero, List.set_cons_succ]
        by_cases hrF : R < F
        · have hge : decide ((F : Int) ≤ (R : Int)) = false := decide_eq_false (by omega)
          refine anyT_take (i := 8) (oi := ?oi8x) (v := .bool false) ?hi8x (by kernel_rfl) ?hq8x ?hy8x (by assumption) ?rest8x
          case hi8x => (simp only [List.getElem?_toArray, List.getElem?_cons_succ, List.getElem?_cons_zero]; first | done | rfl)
          case hq8x => exact fun _ _ _ h => h
          case hy8x => (refine Or.inl ⟨by rfl, ?_⟩; intro wz hSw; go_simp; first | done | with_reducible rfl | simp [hge] | omega)
          try simp only [Act.put, List.setIfInBounds_toArray, List.set_cons_zero, List.set_cons_succ]
          refine anyT_one (i := 9) (by kernel_rfl) rfl (fun K' hK => ?_)
          go_simp
          refine hK.out _ _ (fun h => absurd rfl h) ?_
          clear hK K'
          try simp only [Act.put, List.setIfInBounds_toArray, List.set_cons_zero, List.set_cons_succ]
          refine anyT_done (by kernel_rfl) ?_ _
          have hRF : R < cF zs (2 ^ zs.length - 1) := by rw [hlen.out, HF.out]; exact hrF
          have Hh := Lib.hid (show hasAt zs (R : Int) = true by unfold hasAt; rw [Hv.out, hlen.out, HF.out, decide_eq_true (show (0 : Int) ≤ (R : Int) by omega), decide_eq_true (show (R : Int) < (F : Int) by omega)]; rfl)
          have Ht := Lib.hid (show atR zs (R : Int) = atL zs R n by unfold atR; rw [Hh.out, if_pos rfl, hlen.out]; rfl)
          go_wp2_with (refine wpList_load_row rfl _ _ rfl w2.heap.size rfl _ _ (0, 0) _ hS6 Try.underlying62 rfl (by kernel_rfl) ?_)
          refine (lat_any zs hvo R n hlen.out hRF bd bm hne w6 hA6 (hM6.mono (by omega))).mono ?_
          rintro e w7 ⟨v, rfl, hO7, hU7⟩
          have z6 := C6.size
          obtain ⟨A7, c7, rfl, hV7⟩ := rowV_of_own hO7.2
          have Hal := Lib.hid (atL_len zs R n)
          rw [Hal.out] at hV7 ⊢
          go_wp2_with fail
          go_ret2
          exact ⟨A7, n, c7, by rw [Hh.out]; rfl, by rw [Ht.out]; exact hV7.more z6 (Nat.le_refl _), C6.trans (hU7.toBelow (B := w.heap.size) (fun i e => by omega) z6)⟩
        · have hge : decide ((F : Int) ≤ (R : Int)) = true := decide_eq_true (by omega)
          refine anyT_take (i := 8) (oi := ?oi8y) (v := .bool true) ?hi8y (by kernel_rfl) ?hq8y ?hy8y (by assumption) ?rest8y
          case hi8y => (simp only [List.getElem?_toArray, List.getElem?_cons_succ, List.getElem?_cons_zero]; first | done | rfl)
          case hq8y => exact fun _ _ _ h => h
          case hy8y => (refine Or.inl ⟨by rfl, ?_⟩; intro wz hSw; go_simp; first | done | with_reducible rfl | simp [hge] | omega)
          try simp only [Act.put, List.setIfInBounds_toArray, List.set_cons_zero, List.set_cons_succ]
          refine anyT_one (i := 9) (by kernel_rfl) rfl (fun K' hK => ?_)
          go_simp
          refine hK.out _ _ (fun h => absurd rfl h) ?_
          clear hK K'
          try simp only [Act.put, List.setIfInBounds_toArray, List.set_cons_zero, List.set_cons_succ]
          refine anyT_done (by kernel_rfl) ?_ _
          have Hh := Lib.hid (show hasAt zs (R : Int) = false by unfold hasAt; rw [Hv.out, hlen.out, HF.out, decide_eq_false (show ¬ (R : Int) < (F : Int) by omega)]; simp)
          have Ht := Lib.hid (show atR zs (R : Int) = [] by unfold atR; rw [Hh.out]; rfl)
          go_wp2_with fail
          go_ret2
          exact ⟨none, 0, 0, by rw [Hh.out]; rfl, by rw [Ht.out]; exact RowV.nil _ _ _ _, C6⟩
    · rw [Hv.out] at hv; cases hv
end Go.Proofs.Ythjmedbjdjkilaa

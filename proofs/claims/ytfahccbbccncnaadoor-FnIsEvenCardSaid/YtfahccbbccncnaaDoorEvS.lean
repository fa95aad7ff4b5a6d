/- IsEven: the model's. -/
import Derived.Test.YtfahccbbccncnaaDoorEvM
import Derived.Test.YtfahccbbccncnaaDoorGc
namespace Go.Proofs.YtfahccbbccncnaaDoor
open Go.RowKit Go.Shelf
attribute [local go_sem] Oper.semAt_some
attribute [local go_sem, local simp] wide_fn

set_option maxRecDepth 100000 in
set_option maxHeartbeats 4000000 in
theorem specIsEvenF_any (A : Option Addr) (n c0 : Nat) (zs : List Int) (w : World) (h : Ints w w.heap.size A n zs) (hbig : n ≤ 1152921504606846976) :
    Calls Tryd.prog 12 #[.slice A n c0] w fun e w' => e = .returned (.bool (evenR zs)) ∧ Below w.heap.size w w' := by
  have hlen := Lib.hid h.len
  cases hv : vo zs
  · have Ht := Lib.hid (show evenR zs = false by unfold evenR latR; rw [hv]; rfl)
    go_enter Tryd.func12, Tryd.ntmps12
    go_wp2_with fail
    refine (validOrder_any _ _ _ _ zs _ h hbig).mono ?_
    rw [hv]
    rintro e w' ⟨rfl, m, rfl⟩
    go_wp2_with fail
    go_ret
    exact ⟨ret_bool Ht.out.symm, below_drewN (Below.refl _ _) _⟩
  · have hvo : VoP zs := by simpa [vo] using hv
    have hn6 : n ≤ 6 := by have := hvo.1; rw [hlen.out] at this; exact this
    have Hv := Lib.hid hv
    cases hl : latB zs
    · have Ht := Lib.hid (show evenR zs = false by unfold evenR latR; rw [hv, hl]; rfl)
      have Hl := Lib.hid hl
      clear hv hl
      go_enter Tryd.func12, Tryd.ntmps12
      go_wp2_with fail
      refine (validOrder_any _ _ _ _ zs _ h hbig).mono ?_
      rw [Hv.out]
      rintro e w1 ⟨rfl, m, hm⟩
      have hB : Below w.heap.size w w1 := by rw [hm]; exact below_drewN (Below.refl _ _) _
      have hI := h.to hB (Nat.le_refl _) hB.size
      clear hm
      go_wp2_with fail
      refine (sisLat_any A n c0 zs w1 hI hvo).mono ?_
      rw [Hl.out]
      rintro e w2 ⟨rfl, hB2⟩
      go_wp2_with fail
      go_ret
      exact ⟨ret_bool Ht.out.symm, hB.trans (hB2.mono hB.size)⟩
    · have hlt : latR zs = true := by unfold latR; rw [hv, hl]; rfl
      obtain ⟨_, hn0, hj1, hj2⟩ := lat_parts hlt
      have Ht := Lib.hid (show evenR zs = decide (EvenAll zs) by unfold evenR; rw [hlt]; rfl)
      have Hl := Lib.hid hl
      have Hd := Lib.hid (show downP n (pairsL zs) = du zs by unfold du; rw [hlen.out])
      have hds := du_sets hvo.sets
      have Hj1 := Lib.hid hj1
      have Hj2 := Lib.hid hj2
      have Hdl := Lib.hid (show (du zs).length = n by rw [du_len, hlen.out])
      clear hv hl hlt hj1 hj2
      go_enter Tryd.func12, Tryd.ntmps12
      go_wp2_with fail
      refine (validOrder_any _ _ _ _ zs _ h hbig).mono ?_
      rw [Hv.out]
      rintro e w1 ⟨rfl, m, hm⟩
      have hB : Below w.heap.size w w1 := by rw [hm]; exact below_drewN (Below.refl _ _) _
      have hI := h.to hB (Nat.le_refl _) hB.size
      clear hm
      go_wp2_with fail
      refine (sisLat_any A n c0 zs w1 hI hvo).mono ?_
      rw [Hl.out]
      rintro e w2 ⟨rfl, hB2⟩
      have z2 := hB2.size
      have C2 := hB.trans (hB2.mono hB.size)
      have hI2 := hI.to hB2 (Nat.le_refl _) z2
      clear hB hB2 hI
      go_wp2_with fail
      refine (downOf_any _ _ _ zs _ hI2 hvo.sets).mono ?_
      rintro e w3 ⟨rfl, hA3, hB3⟩
      rw [Hd.out] at hA3
      have hD : Ints w3 w3.heap.size (some ⟨w2.heap.size, 0, none⟩) n (du zs) := hA3.ints' hA3.lt Hdl.out
      have hU := hI2.to hB3 (Nat.le_refl _) hB3.size
      have C3 := C2.trans (hB3.mono C2.size)
      clear hA3 hB3 hI2 C2
      go_wp2_with fail
      go_loopw [4] (fun i wr => ∃ k q : Nat, k ≤ n ∧ i = .int .i64 k ∧ (∀ a, a < k → ∀ b, b < n → ∀ c, c < n → goesOver zs a b c = true) ∧ wr = w3.drewN q) (fun i _ => n - (intOf i).toNat)
      case atStart => exact ⟨0, 0, by omega, rfl, fun a ha => by omega, rfl⟩
      case round =>
        obtain ⟨a, q, ha, rfl, hall, rfl⟩ := hrel
        have Hall := Lib.hid hall
        clear hall
        by_cases han : a < n
        · go_wp2
          go_loopw [5] (fun i wr => ∃ k q : Nat, k ≤ n ∧ i = .int .i64 k ∧ (∀ b, b < k → ∀ c, c < n → goesOver zs a b c = true) ∧ wr = w3.drewN q) (fun i _ => n - (intOf i).toNat)
          case atStart => exact ⟨0, q, by omega, rfl, fun a ha => by omega, rfl⟩
          case round =>
            obtain ⟨b, q, hb, rfl, hall2, rfl⟩ := hrel
            have Hall2 := Lib.hid hall2
            clear hall2
            by_cases hbn : b < n
            · obtain ⟨m1, hm1, hm1n⟩ := joins_at Hj2.out Hdl.out han hbn
              have Hm1 := Lib.hid hm1
              clear hm1
              go_wp2
              go_loopw [6] (fun i wr => ∃ k q : Nat, k ≤ n ∧ i = .int .i64 k ∧ (∀ c, c < k → goesOver zs a b c = true) ∧ wr = w3.drewN q) (fun i _ => n - (intOf i).toNat)
              case atStart => exact ⟨0, q, by omega, rfl, fun a ha => by omega, rfl⟩
              case round =>
                obtain ⟨c, q, hc, rfl, hall3, rfl⟩ := hrel
                have Hall3 := Lib.hid hall3
                clear hall3
                by_cases hcn : c < n
                · obtain ⟨j, hj, hjn⟩ := joins_at Hj1.out hlen.out hbn hcn
                  obtain ⟨m2, hm2, hm2n⟩ := joins_at Hj2.out Hdl.out han hcn
                  have Hj := Lib.hid hj
                  have Hm2 := Lib.hid hm2
                  clear hj hm2
                  obtain ⟨x, hx⟩ : ∃ x, joinI (du zs) a j = x := ⟨_, rfl⟩
                  obtain ⟨y, hy⟩ : ∃ y, joinI zs m1 m2 = y := ⟨_, rfl⟩
                  have Hx := Lib.hid hx
                  have Hy := Lib.hid hy
                  have Hg := Lib.hid (show goesOver zs a b c = (x == y) by unfold goesOver; rw [Hj.out, Hm1.out, Hm2.out, Int.toNat_natCast, Int.toNat_natCast, Int.toNat_natCast, hx, hy])
                  clear hx hy
                  cases hxy : (x == y)
                  · have hne : (x != y) = true := by rw [bne, hxy]; rfl
                    have HF := Lib.hid (show evenR zs = false by rw [Ht.out]; exact decide_eq_false (fun hev => by have := hev a (by rw [hlen.out]; exact han) b (by rw [hlen.out]; exact hbn) c (by rw [hlen.out]; exact hcn); rw [Hg.out, hxy] at this; cases this))
                    clear hxy
                    go_wp2_with fail
                    refine (sjoin_any A n c0 _ zs b c _ (hU.drewN _) hvo.sets (by omega) (by omega)).mono ?_
                    rw [Hj.out]
                    rintro e u0 ⟨rfl, p0, rfl⟩
                    go_wp2_with fail
                    refine (sjoin_any _ n _ _ (du zs) a j _ (hD.drewN _) hds (by omega) (by omega)).mono ?_
                    rw [Hx.out]
                    rintro e u1 ⟨rfl, p1, rfl⟩
                    go_wp2_with fail
                    refine (sjoin_any _ n _ _ (du zs) a b _ (hD.drewN _) hds (by omega) (by omega)).mono ?_
                    rw [Hm1.out]
                    rintro e u2 ⟨rfl, p2, rfl⟩
                    go_wp2_with fail
                    refine (sjoin_any _ n _ _ (du zs) a c _ (hD.drewN _) hds (by omega) (by omega)).mono ?_
                    rw [Hm2.out]
                    rintro e u3 ⟨rfl, p3, rfl⟩
                    go_wp2_with fail
                    refine (sjoin_any A n c0 _ zs m1 m2 _ (hU.drewN _) hvo.sets (by omega) (by omega)).mono ?_
                    rw [Hy.out]
                    rintro e u4 ⟨rfl, p4, rfl⟩
                    go_wp2_with fail
                    go_ret
                    exact ⟨ret_bool HF.out.symm, below_drewN C3 _⟩
                  · have hne : (x != y) = false := by rw [bne, hxy]; rfl
                    have Hn := Lib.hid (show goesOver zs a b c = true by rw [Hg.out, hxy])
                    clear hxy
                    go_wp2_with fail
                    refine (sjoin_any A n c0 _ zs b c _ (hU.drewN _) hvo.sets (by omega) (by omega)).mono ?_
                    rw [Hj.out]
                    rintro e u0 ⟨rfl, p0, rfl⟩
                    go_wp2_with fail
                    refine (sjoin_any _ n _ _ (du zs) a j _ (hD.drewN _) hds (by omega) (by omega)).mono ?_
                    rw [Hx.out]
                    rintro e u1 ⟨rfl, p1, rfl⟩
                    go_wp2_with fail
                    refine (sjoin_any _ n _ _ (du zs) a b _ (hD.drewN _) hds (by omega) (by omega)).mono ?_
                    rw [Hm1.out]
                    rintro e u2 ⟨rfl, p2, rfl⟩
                    go_wp2_with fail
                    refine (sjoin_any _ n _ _ (du zs) a c _ (hD.drewN _) hds (by omega) (by omega)).mono ?_
                    rw [Hm2.out]
                    rintro e u3 ⟨rfl, p3, rfl⟩
                    go_wp2_with fail
                    refine (sjoin_any A n c0 _ zs m1 m2 _ (hU.drewN _) hvo.sets (by omega) (by omega)).mono ?_
                    rw [Hy.out]
                    rintro e u4 ⟨rfl, p4, rfl⟩
                    go_wp2_with fail
                    go_roundw
                    case rel => exact ⟨c + 1, _, by omega, by go_num, all_snoc Hall3.out Hn.out, rfl⟩
                    case measure => simp [intOf]; omega
                · obtain rfl : c = n := by omega
                  go_wp2
                  go_roundw
                  case rel => exact ⟨b + 1, q, by omega, by go_num, all_snoc Hall2.out Hall3.out, rfl⟩
                  case measure => simp [intOf]; omega
            · obtain rfl : b = n := by omega
              go_wp2
              go_roundw
              case rel => exact ⟨a + 1, q, by omega, by go_num, all_snoc Hall.out Hall2.out, rfl⟩
              case measure => simp [intOf]; omega
        · obtain rfl : a = n := by omega
          have HF := Lib.hid (show evenR zs = true by rw [Ht.out]; exact decide_eq_true (by unfold EvenAll; rw [hlen.out]; exact Hall.out))
          go_wp2
          go_ret
          exact ⟨ret_bool HF.out.symm, below_drewN C3 _⟩
end Go.Proofs.YtfahccbbccncnaaDoor

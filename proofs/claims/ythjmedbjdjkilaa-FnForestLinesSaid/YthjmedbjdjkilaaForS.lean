/- ForestLines: the model's. -/
import Derived.Test.YthjmedbjdjkilaaForM
import Derived.Test.YthjmedbjdjkilaaGa
namespace Go.Proofs.Ythjmedbjdjkilaa
open Go.RowKit Go.Shelf

set_option maxHeartbeats 1000000 in
theorem factorial_any (n : Nat) (w : World) (hn : n ≤ 6) :
    Calls Try.prog 83 #[.int .i64 (n : Int)] w fun e w' => e = .returned (.int .i64 (factI n)) ∧ w = w' := by
  go_enter Try.func83, Try.ntmps83
  go_wp2
  go_loop [3, 4] (fun t i => ∃ k : Nat, (k ≤ n ∨ k = 1) ∧ 1 ≤ k ∧ i = .int .i64 ((k : Int) + 1) ∧ t = .int .i64 (factI k)) (fun _ i => n + 1 - (intOf i).toNat)
  case atStart => exact ⟨1, .inr rfl, by omega, rfl, rfl⟩
  case round =>
    obtain ⟨k, hk, hk1, rfl, rfl⟩ := hrel
    by_cases hlt : k + 1 ≤ n
    · have Hs := Lib.hid (show factI (k + 1) = factI k * ((k : Int) + 1) from rfl)
      have hb := factI_bd ⟨k + 1, by omega⟩
      simp only at hb
      rw [Hs.out] at hb
      generalize factI k = t at *
      have hw : wrap64 (t * ((k : Int) + 1)) = t * ((k : Int) + 1) := IntWalk.wrap64_in _ ⟨by omega, by omega⟩
      go_wp2
      go_round
      case rel => exact ⟨k + 1, by omega, by omega, by go_num, by rw [Hs.out]⟩
      case measure => show n + 1 - ((k : Int) + 1 + 1).toNat < n + 1 - ((k : Int) + 1).toNat; omega
    · have he : factI k = factI n := by
        rcases hk with h | rfl
        · rw [show k = n by omega]
        · rcases (show n = 0 ∨ n = 1 by omega) with rfl | rfl <;> rfl
      have He := Lib.hid he
      clear he
      go_wp2
      go_ret
      exact ⟨ret_int He.out, rfl⟩

set_option maxRecDepth 100000 in
set_option maxHeartbeats 4000000 in
theorem specForestLinesF_any (A : Option Addr) (n c : Nat) (zs : List Int) (w : World) (h : Ints w w.heap.size A n zs) (hbig : n ≤ 1152921504606846976) :
    Calls Try.prog 32 #[.slice A n c] w fun e w' => e = .returned (.int .i64 (forestR zs)) ∧ Below w.heap.size w w' := by
  have hlen := Lib.hid h.len
  cases hv : vo zs
  · have Ht := Lib.hid (show forestR zs = -1 by unfold forestR; rw [hv]; rfl)
    go_enter Try.func32, Try.ntmps32
    go_wp2_with (go_at_call 62; refine (validOrder_any _ _ _ _ zs _ h hbig).mono ?_; rintro e w' ⟨rfl, m, rfl⟩)
    go_ret
    exact ⟨ret_int Ht.out.symm, below_drewN (Below.refl _ _) m⟩
  · have hvo : VoP zs := by simpa [vo] using hv
    have hn6 : n ≤ 6 := by have := hvo.1; rw [hlen.out] at this; exact this
    have Hv := Lib.hid hv
    have Hdu := Lib.hid (show downP n (pairsL zs) = du zs by unfold du; rw [hlen.out])
    have hds := du_sets hvo.sets
    have Hdl := Lib.hid (show (du zs).length = n by rw [du_len, hlen.out])
    go_enter Try.func32, Try.ntmps32
    go_wp2_with fail
    refine (validOrder_any _ _ _ _ zs _ h hbig).mono ?_
    rw [hv]
    rintro e w1 ⟨rfl, m, rfl⟩
    clear hv
    have h1 := (h.drewN m).more (B' := (w.drewN m).heap.size) (by simp)
    go_wp2_with fail
    refine (downOf_any A n c zs _ h1 hvo.sets).mono ?_
    rintro e w2 ⟨rfl, hA2, hB2⟩
    rw [Hdu.out] at hA2
    have z2 := hB2.size
    have C2 : Below w.heap.size w w2 := (below_drewN (Below.refl _ _) m).trans (hB2.mono (by simp))
    have h2 := h1.to hB2 (Nat.le_refl _) z2
    have hI2 : Ints w2 w2.heap.size (some ⟨w.heap.size, 0, none⟩) n (du zs) := hA2.ints' hA2.lt Hdl.out
    go_wp2_with fail
    refine (factorial_any n w2 hn6).mono ?_
    rintro e w3 ⟨rfl, rfl⟩
    clear hA2 h1 h
    go_wp2_with fail
    go_loopw [4, 5] (fun t i wr => ∃ k : Nat, k ≤ n ∧ i = .int .i64 k ∧ t = .int .i64 (quoTo zs n k) ∧ (∀ a, a < k → chB zs ((du zs)[a]?.getD 0) = true) ∧ w2.heap.size ≤ wr.heap.size ∧ Below w.heap.size w wr ∧ Below w2.heap.size w2 wr) (fun _ i _ => n - (intOf i).toNat)
    case atStart => exact ⟨0, by omega, rfl, rfl, fun a ha => by omega, Nat.le_refl _, C2, Below.refl _ _⟩
    case round =>
      obtain ⟨k, hk, rfl, rfl, hch, zr, Cr, Dr⟩ := hrel
      have Hch := Lib.hid hch
      clear hch
      have hz := h2.to Dr (Nat.le_refl _) zr
      have hd := hI2.to Dr (Nat.le_refl _) zr
      obtain ⟨hq, hq0, hq1⟩ := quoTo_is (n := n) hvo.sets hn6 k (by rw [hlen.out]; exact hk)
      by_cases hlt : k < n
      · obtain ⟨bd, offd, e1, hbd, hcd⟩ := hd.at_ hlt
        cases e1
        have hck := hcd k hlt
        simp only [Nat.zero_add] at hck
        have hdb := hds.2 k (by rw [Hdl.out]; exact hlt)
        rw [Hdl.out] at hdb
        have hzb := hvo.bd k (by rw [hlen.out]; exact hlt)
        have hpb := popI_bd hzb.1 hzb.2
        have Hs := Lib.hid (show quoTo zs n (k + 1) = (quoTo zs n k).tdiv (1 + popI (zs[k]?.getD 0)) from rfl)
        clear hcd hd hq
        cases hc1 : chB zs ((du zs)[k]?.getD 0)
        · have Ht := Lib.hid (show forestR zs = -1 by unfold forestR; rw [allCh_no hlen.out hlt hc1]; simp)
          have Hc := Lib.hid hc1
          clear hc1
          generalize (du zs)[k]?.getD 0 = d at *
          go_wp2_with fail
          refine (specIsChain_any A n c _ zs d hvo.sets wr hz (Nat.le_refl _) hdb.1 hdb.2).mono ?_
          rw [Hc.out]
          rintro e w4 ⟨rfl, hB4⟩
          go_wp2_with fail
          go_ret
          exact ⟨ret_int Ht.out.symm, Cr.trans (hB4.mono Cr.size)⟩
        · have Hc := Lib.hid hc1
          clear hc1
          have Hall := Lib.hid (all_snoc Hch.out Hc.out)
          generalize (du zs)[k]?.getD 0 = d at *
          go_wp2_with fail
          refine (specIsChain_any A n c _ zs d hvo.sets wr hz (Nat.le_refl _) hdb.1 hdb.2).mono ?_
          rw [Hc.out]
          rintro e w4 ⟨rfl, hB4⟩
          have z4 := hB4.size
          have hz4 := hz.to hB4 (Nat.le_refl _) z4
          obtain ⟨bz, offz, rfl, hbz, hcz⟩ := hz4.at_ hlt
          have hckz := hcz k hlt
          clear hcz hz4 hck
          generalize zs[k]?.getD 0 = z at *
          generalize quoTo zs n k = q at *
          have hne : ¬ (1 + popI z = 0) := by omega
          have hqq := Int.ediv_le_self (1 + popI z) hq0
          have hqn := Int.ediv_nonneg hq0 (show (0 : Int) ≤ 1 + popI z by omega)
          rw [← Int.tdiv_eq_ediv_of_nonneg hq0] at hqq hqn
          have hw : wrap64 (q.tdiv (1 + popI z)) = q.tdiv (1 + popI z) := IntWalk.wrap64_in _ ⟨by omega, by omega⟩
          have Hw := Lib.hid hw
          clear hw
          go_wp2_with (go_at_call 85; refine (bits_any _ _ hzb.1 hzb.2).mono ?_; rintro e w' ⟨rfl, rfl⟩)
          go_roundw
          case rel => exact ⟨k + 1, by omega, by go_num, by first | (rw [Hs.out]; done) | (rw [Hs.out, Hw.out]), Hall.out, by omega, Cr.trans (hB4.mono Cr.size), Dr.trans (hB4.mono zr)⟩
          case measure => simp [intOf]; omega
      · obtain rfl : k = n := by omega
        have Ht := Lib.hid (show forestR zs = quoTo zs k k by unfold forestR; rw [Hv.out, allCh_yes hlen.out Hch.out, hq, hlen.out]; rfl)
        go_wp2
        go_ret
        exact ⟨ret_int Ht.out.symm, Cr⟩
end Go.Proofs.Ythjmedbjdjkilaa

/- IsIdeal, BelowOf, NextIdeal: the program's. -/
import Derived.Test.YtidggolnhagfdaaMkI
namespace Go.Proofs.Ytidggolnhagfdaa
open Go.RowKit Go.Shelf
attribute [local go_sem] Oper.semAt_some
attribute [local go_sem, local simp] wide_fn

theorem IsIdeal_any (A : Option Addr) (n c : Nat) (zs : List Int) (s : Int) (w : World) (h : Ints w w.heap.size A n zs) (hbig : n ≤ 1152921504606846976) :
    Calls Try.prog 16 #[.slice A n c, .int .i64 s] w fun e w' => e = .returned (.bool (isIdealR zs s)) ∧ Below w.heap.size w w' := by
  have hlen := Lib.hid h.len
  cases hv : vo zs
  · have Ht := Lib.hid (show isIdealR zs s = false by unfold isIdealR; rw [hv]; rfl)
    have Hv := Lib.hid hv
    clear hv
    go_enter Try.func16, Try.ntmps16
    go_wp2_with fail
    refine (readOrder_any _ _ _ zs _ h hbig).mono ?_
    rintro e w' ⟨hB, (⟨hv, b, rfl, _, _⟩ | ⟨_, rfl⟩)⟩
    · rw [Hv.out] at hv; cases hv
    · go_wp2_with fail
      go_ret
      exact ⟨ret_bool Ht.out.symm, hB⟩
  · have hvo : VoP zs := by simpa [vo] using hv
    have Hv := Lib.hid hv
    clear hv
    have hn6 : n ≤ 6 := by have := hvo.1; rw [hlen.out] at this; exact this
    cases hq : inB s 0 (powI n - 1)
    · have Ht := Lib.hid (show isIdealR zs s = false by unfold isIdealR; rw [hlen.out, hq]; simp)
      go_enter Try.func16, Try.ntmps16
      go_wp2_with fail
      refine (readOrder_any _ _ _ zs _ h hbig).mono ?_
      rintro e w' ⟨hB, (⟨_, b, rfl, _, _⟩ | ⟨hv, _⟩)⟩
      · go_wp2_with (go_at_call 45; refine (isSetOf_any _ _ _ (by omega) (by omega)).mono ?_; rintro e w2 ⟨rfl, rfl⟩)
        go_ret
        exact ⟨ret_bool Ht.out.symm, hB⟩
      · rw [Hv.out] at hv; cases hv
    · have Ht := Lib.hid (show isIdealR zs s = idB zs s by unfold isIdealR; rw [hlen.out, hq, Hv.out]; rfl)
      have hs : 0 ≤ s ∧ s < powI n := by unfold inB at hq; simp at hq; omega
      go_enter Try.func16, Try.ntmps16
      go_wp2_with fail
      refine (readOrder_any _ _ _ zs _ h hbig).mono ?_
      rintro e w' ⟨hB, (⟨_, b, rfl, hb, hAr⟩ | ⟨hv, _⟩)⟩
      · go_wp2_with (first
          | (go_at_call 45; refine (isSetOf_any _ _ _ (by omega) (by omega)).mono ?_; rintro e w2 ⟨rfl, rfl⟩)
          | (go_at_call 46; refine (oisIdeal_any _ _ _ zs s hvo _ (hAr.ints' hAr.lt hlen.out) hs.1 hs.2).mono ?_; rintro e w2 ⟨rfl, hB2⟩))
        go_ret
        exact ⟨ret_bool Ht.out.symm, hB.trans (hB2.mono hB.size)⟩
      · rw [Hv.out] at hv; cases hv

theorem BelowOf_any (A : Option Addr) (n c : Nat) (zs : List Int) (s : Int) (w : World) (h : Ints w w.heap.size A n zs) (hbig : n ≤ 1152921504606846976) :
    Calls Try.prog 19 #[.slice A n c, .int .i64 s] w fun e w' => e = .returned (.int .i64 (belowR zs s)) ∧ Below w.heap.size w w' := by
  have hlen := Lib.hid h.len
  cases hv : vo zs
  · have Ht := Lib.hid (show belowR zs s = -1 by unfold belowR; rw [hv]; rfl)
    have Hv := Lib.hid hv
    clear hv
    go_enter Try.func19, Try.ntmps19
    go_wp2_with fail
    refine (readOrder_any _ _ _ zs _ h hbig).mono ?_
    rintro e w' ⟨hB, (⟨hv, b, rfl, _, _⟩ | ⟨_, rfl⟩)⟩
    · rw [Hv.out] at hv; cases hv
    · go_wp2_with fail
      go_ret
      exact ⟨ret_int Ht.out.symm, hB⟩
  · have hvo : VoP zs := by simpa [vo] using hv
    have Hv := Lib.hid hv
    clear hv
    have hn6 : n ≤ 6 := by have := hvo.1; rw [hlen.out] at this; exact this
    cases hq : inB s 0 (powI n - 1)
    · have Ht := Lib.hid (show belowR zs s = -1 by unfold belowR; rw [hlen.out, hq]; simp)
      go_enter Try.func19, Try.ntmps19
      go_wp2_with fail
      refine (readOrder_any _ _ _ zs _ h hbig).mono ?_
      rintro e w' ⟨hB, (⟨_, b, rfl, _, _⟩ | ⟨hv, _⟩)⟩
      · go_wp2_with (go_at_call 45; refine (isSetOf_any _ _ _ (by omega) (by omega)).mono ?_; rintro e w2 ⟨rfl, rfl⟩)
        go_ret
        exact ⟨ret_int Ht.out.symm, hB⟩
      · rw [Hv.out] at hv; cases hv
    · have Ht := Lib.hid (show belowR zs s = belI zs s by unfold belowR; rw [hlen.out, hq, Hv.out]; rfl)
      have hs : 0 ≤ s ∧ s < powI n := by unfold inB at hq; simp at hq; omega
      go_enter Try.func19, Try.ntmps19
      go_wp2_with fail
      refine (readOrder_any _ _ _ zs _ h hbig).mono ?_
      rintro e w' ⟨hB, (⟨_, b, rfl, hb, hAr⟩ | ⟨hv, _⟩)⟩
      · go_wp2_with (first
          | (go_at_call 45; refine (isSetOf_any _ _ _ (by omega) (by omega)).mono ?_; rintro e w2 ⟨rfl, rfl⟩)
          | (go_at_call 48; refine (obelow_any _ _ _ zs s hvo _ (hAr.ints' hAr.lt hlen.out) hs.1 hs.2).mono ?_; rintro e w2 ⟨rfl, hB2⟩))
        go_ret
        exact ⟨ret_int Ht.out.symm, hB.trans (hB2.mono hB.size)⟩
      · rw [Hv.out] at hv; cases hv

theorem less_all_fin : ∀ n : Fin 7, ∀ k : Fin 64, (k.val : Int) < powI (n.val : Int) → lessI (powI (n.val : Int) - 1) (k.val : Int) = powI (n.val : Int) - 1 - (k.val : Int) := by decide +kernel
theorem less_all {n : Nat} {s : Int} (hn : n ≤ 6) (h0 : 0 ≤ s) (h1 : s < powI n) : lessI (powI n - 1) s = powI n - 1 - s := by
  have hpn := powI_le6 (n := (n : Int)) (by omega)
  obtain ⟨k, rfl⟩ := Int.eq_ofNat_of_zero_le h0
  exact less_all_fin ⟨n, by omega⟩ ⟨k, by omega⟩ h1

theorem onextIdeal_any (A : Option Addr) (n c : Nat) (zs : List Int) (s : Int) (hvo : VoP zs) (w : World) (hA : Ints w w.heap.size A n zs) (h0 : 0 ≤ s) (h1 : s < powI n) :
    Calls Try.prog 55 #[.slice A n c, .int .i64 s] w fun e W' => e = .returned (.int .i64 (nextI zs s)) ∧ Below w.heap.size w W' := by
  have hlen := Lib.hid hA.len
  have hn6 : n ≤ 6 := by have := hvo.1; rw [hlen.out] at this; exact this
  have hpn : powI n ≤ 64 := powI_le6 (by omega)
  have hpp := powI_pos (n : Int)
  have Hl := Lib.hid ((bits_less (a := powI n - 1) (b := s) (by omega) (by omega) h0 (by omega)).trans (less_all hn6 h0 h1))
  have Hd := Lib.hid (show downP n (pairsL zs) = du zs by unfold du; rw [hlen.out])
  have htb := topsTo_bd (du zs) (powI n - 1 - s) n
  have Hn := Lib.hid (show nextI zs s = belI zs (topsTo (du zs) (powI n - 1 - s) n) by unfold nextI; rw [hlen.out])
  go_enter Try.func55, Try.ntmps55
  go_wp2_with fail
  refine (oall_any _ _ _ _ hn6).mono ?_
  rintro e w' ⟨rfl, rfl⟩
  go_wp2_with fail
  refine (dual_any A n c zs hvo.sets w hA).mono ?_
  rintro e w2 ⟨rfl, hA2, hB2⟩
  rw [Hd.out] at hA2
  rw [Hl.out]
  have z2 := hB2.size
  have hI2 := hA.to hB2 (Nat.le_refl _) z2
  go_wp2_with fail
  refine (tops_any _ n _ (du zs) _ (du_sets hvo.sets) _ (hA2.ints' hA2.lt (by rw [du_len, hlen.out])) (by omega) (by omega)).mono ?_
  rintro e w3 ⟨rfl, hB3⟩
  have z3 := hB3.size
  go_wp2_with fail
  refine (obelow_any A n c zs _ hvo _ (hI2.to hB3 (Nat.le_refl _) z3) htb.1 htb.2).mono ?_
  rintro e w4 ⟨rfl, hB4⟩
  go_wp2_with fail
  go_ret
  exact ⟨ret_int Hn.out.symm, hB2.trans ((hB3.mono z2).trans (hB4.mono (by omega)))⟩

theorem NextIdeal_any (A : Option Addr) (n c : Nat) (zs : List Int) (s : Int) (w : World) (h : Ints w w.heap.size A n zs) (hbig : n ≤ 1152921504606846976) :
    Calls Try.prog 25 #[.slice A n c, .int .i64 s] w fun e w' => e = .returned (.int .i64 (nextR zs s)) ∧ Below w.heap.size w w' := by
  have hlen := Lib.hid h.len
  cases hv : vo zs
  · have Ht := Lib.hid (show nextR zs s = -1 by unfold nextR isIdealR; rw [hv]; rfl)
    have Hv := Lib.hid hv
    clear hv
    go_enter Try.func25, Try.ntmps25
    go_wp2_with fail
    refine (readOrder_any _ _ _ zs _ h hbig).mono ?_
    rintro e w' ⟨hB, (⟨hv, b, rfl, _, _⟩ | ⟨_, rfl⟩)⟩
    · rw [Hv.out] at hv; cases hv
    · go_wp2_with fail
      go_ret
      exact ⟨ret_int Ht.out.symm, hB⟩
  · have hvo : VoP zs := by simpa [vo] using hv
    have Hv := Lib.hid hv
    clear hv
    have hn6 : n ≤ 6 := by have := hvo.1; rw [hlen.out] at this; exact this
    cases hq : inB s 0 (powI n - 1)
    · have Ht := Lib.hid (show nextR zs s = -1 by unfold nextR isIdealR; rw [hlen.out, hq]; simp)
      go_enter Try.func25, Try.ntmps25
      go_wp2_with fail
      refine (readOrder_any _ _ _ zs _ h hbig).mono ?_
      rintro e w' ⟨hB, (⟨_, b, rfl, _, _⟩ | ⟨hv, _⟩)⟩
      · go_wp2_with (go_at_call 45; refine (isSetOf_any _ _ _ (by omega) (by omega)).mono ?_; rintro e w2 ⟨rfl, rfl⟩)
        go_ret
        exact ⟨ret_int Ht.out.symm, hB⟩
      · rw [Hv.out] at hv; cases hv
    · have hs : 0 ≤ s ∧ s < powI n := by unfold inB at hq; simp at hq; omega
      cases hi : idB zs s
      · have Ht := Lib.hid (show nextR zs s = -1 by unfold nextR isIdealR; rw [hlen.out, hq, hi]; simp)
        have Hi := Lib.hid hi
        clear hi
        go_enter Try.func25, Try.ntmps25
        go_wp2_with fail
        refine (readOrder_any _ _ _ zs _ h hbig).mono ?_
        rintro e w' ⟨hB, (⟨_, b, rfl, hb, hAr⟩ | ⟨hv, _⟩)⟩
        · go_wp2_with (first
            | (go_at_call 45; refine (isSetOf_any _ _ _ (by omega) (by omega)).mono ?_; rintro e w2 ⟨rfl, rfl⟩)
            | (go_at_call 46; refine (oisIdeal_any _ _ _ zs s hvo _ (hAr.ints' hAr.lt hlen.out) hs.1 hs.2).mono ?_; rw [Hi.out]; rintro e w2 ⟨rfl, hB2⟩))
          go_ret
          exact ⟨ret_int Ht.out.symm, hB.trans (hB2.mono hB.size)⟩
        · rw [Hv.out] at hv; cases hv
      · have Ht := Lib.hid (show nextR zs s = nextI zs s by unfold nextR isIdealR; rw [hlen.out, hq, hi, Hv.out]; rfl)
        have Hi := Lib.hid hi
        clear hi
        go_enter Try.func25, Try.ntmps25
        go_wp2_with fail
        refine (readOrder_any _ _ _ zs _ h hbig).mono ?_
        rintro e w' ⟨hB, (⟨_, b, rfl, hb, hAr⟩ | ⟨hv, _⟩)⟩
        · have hI := hAr.ints' (B := w'.heap.size) hAr.lt hlen.out
          go_wp2_with (first
            | (go_at_call 45; refine (isSetOf_any _ _ _ (by omega) (by omega)).mono ?_; rintro e w2 ⟨rfl, rfl⟩)
            | (go_at_call 46; refine (oisIdeal_any _ _ _ zs s hvo _ hI hs.1 hs.2).mono ?_; rw [Hi.out]; rintro e w2 ⟨rfl, hB2⟩)
            | (go_at_call 55; refine (onextIdeal_any _ _ _ zs s hvo _ (hI.to hB2 (Nat.le_refl _) hB2.size) hs.1 hs.2).mono ?_; rintro e w3 ⟨rfl, hB3⟩))
          go_ret
          exact ⟨ret_int Ht.out.symm, hB.trans ((hB2.mono hB.size).trans (hB3.mono (Nat.le_trans hB.size hB2.size)))⟩
        · rw [Hv.out] at hv; cases hv
end Go.Proofs.Ytidggolnhagfdaa

/- LineSums, FallsBelow: the model's, whole. -/
import Derived.Test.YtcadmjpkgnbodaaNuS
import Derived.Test.YtcadmjpkgnbodaaNuSt
import Derived.Test.YtcadmjpkgnbodaaGc
namespace Go.Proofs.Ytcadmjpkgnbodaa
open Go.RowKit Go.Shelf
attribute [local go_sem] Oper.semAt_some
attribute [local go_sem, local simp] wide_fn

def numL (st : Bool) (zs : List Int) (k : Nat) : List Int := (List.range k).map fun j => (mN st zs j zs.length [] : Int)
theorem numL_succ (st : Bool) (zs : List Int) (k : Nat) : numL st zs (k + 1) = numL st zs k ++ [(mN st zs k zs.length [] : Int)] := by unfold numL; rw [List.range_succ, List.map_append]; rfl
theorem numL_len (st : Bool) (zs : List Int) (k : Nat) : (numL st zs k).length = k := by simp [numL]
theorem numR_is {st : Bool} {zs : List Int} (h : vo zs = true) : numR st zs = numL st zs 5 := by unfold numR; rw [h]; rfl

set_option maxRecDepth 100000 in
set_option maxHeartbeats 4000000 in
theorem specLineSumsF_any (A : Option Addr) (n c : Nat) (zs : List Int) (w : World) (h : Ints w w.heap.size A n zs) (hbig : n ≤ 1152921504606846976) :
    Calls Try.prog 39 #[.slice A n c] w (GivesRowV w (numR false zs)) := by
  obtain ⟨i0, hi0, hz0, hz1, hz2⟩ := info_parts infoInt
  have hlen := Lib.hid h.len
  cases hv : vo zs
  · have Ht := Lib.hid (numR_no (st := false) hv)
    go_enter Try.func39, Try.ntmps39
    go_wp2_with fail
    refine (validOrder_any _ _ _ _ zs _ h hbig).mono ?_
    rw [hv]
    rintro e w1 ⟨rfl, m, hm⟩
    have hB : Below w.heap.size w w1 := by rw [hm]; exact below_drewN (Below.refl _ _) _
    clear hm
    go_wp2_with fail
    go_ret
    exact ⟨none, 0, 0, rfl, by rw [Ht.out]; exact RowV.nil _ _ _ _, hB⟩
  · have hvo : VoP zs := by simpa [vo] using hv
    have Ht := Lib.hid (numR_is (st := false) hv)
    have Hc := Lib.hid (fun k hk (w' : World) h1 h2 => scountMaps_any zs hvo A n c k hk hlen.out n [] w'.heap.size 0 0 0 (w'.alloc (.cells #[] 3)) h1 h2 (Nat.zero_add n))
    go_enter Try.func39, Try.ntmps39
    go_wp2_with fail
    refine (validOrder_any _ _ _ _ zs _ h hbig).mono ?_
    rw [hv]
    rintro e w1 ⟨rfl, m, hm⟩
    have hB1 : Below w.heap.size w w1 := by rw [hm]; exact below_drewN (Below.refl _ _) _
    have hx := h.below hB1
    have z1 := hB1.size
    clear hm
    go_wp2_with fail
    have h1 := own_new w1 3
    have hU1 : Upd (fun _ => False) w1 (w1.alloc (.cells #[] 3)) := (Upd.refl _ w1).alloc _
    have hzz : w1.heap.size < (w1.alloc (.cells #[] 3)).heap.size := by simp
    obtain ⟨W1, hW1⟩ : ∃ W1, w1.alloc (.cells #[] 3) = W1 := ⟨_, rfl⟩
    rw [hW1] at h1 hU1 hzz ⊢
    clear hW1
    go_loopw [3, 4] (fun v i wr => ∃ k : Nat, k ≤ 5 ∧ i = .int .i64 k ∧ OwnS (fun j => w1.heap.size ≤ j) wr w1.heap.size 3 v (numL false zs k) ∧ Below w1.heap.size w1 wr) (fun _ i _ => 5 - (intOf i).toNat)
    case atStart => exact ⟨0, by omega, rfl, ⟨fun j hj => by simp [Value.ownBlock] at hj; omega, h1⟩, hU1.toBelow (fun _ e => e.elim) (Nat.le_refl _)⟩
    case round =>
      clear h1 hU1
      obtain ⟨k, hk, rfl, hO, hB⟩ := hrel
      rename World => wx
      have zx := hB.size
      by_cases hlt : k < 5
      · have hle : decide ((k : Int) ≤ 4) = true := decide_eq_true (by omega)
        have hAx : Ints (wx.alloc (.cells #[] 3)) (wx.alloc (.cells #[] 3)).heap.size A n zs := ((hx.below (hB.mono z1)).more (by omega : w.heap.size ≤ wx.heap.size) |>.to ((Below.refl _ _).alloc (Nat.le_refl _) _) (Nat.le_refl _) (by simp))
        have hGx : Ints (wx.alloc (.cells #[] 3)) (wx.alloc (.cells #[] 3)).heap.size (some ⟨wx.heap.size, 0, none⟩) 0 [] := ⟨rfl, fun e => absurd e (by omega)⟩
        have Hcall := Lib.hid (Hc.out k (by omega) wx hAx hGx)
        have hU1 : Upd (fun _ => False) wx (wx.alloc (.cells #[] 3)) := (Upd.refl _ wx).alloc _
        have hzy : wx.heap.size < (wx.alloc (.cells #[] 3)).heap.size := by simp
        have Hnx := Lib.hid (numL_succ false zs k)
        have Hln := Lib.hid (numL_len false zs k)
        have hown := own_lt' hO.2
        clear hAx hGx
        go_wp2_with fail
        obtain ⟨W3, hW3⟩ : ∃ W3, wx.alloc (.cells #[] 3) = W3 := ⟨_, rfl⟩
        rw [hW3] at Hcall hU1 hzy ⊢
        clear hW3
        refine Hcall.out.mono ?_
        rw [hlen.out] at Hnx
        rintro e w4 ⟨rfl, hB4⟩
        have z4 := hB4.size
        have hU4 : Upd (fun j => wx.heap.size ≤ j) wx w4 := (hU1.mono (fun _ _ e => e.elim)).trans' (R := fun j => wx.heap.size ≤ j) (Below.toUpd hB4) (fun i hi e => by omega)
        have hO4 := OwnS.keep (S := fun j => w1.heap.size ≤ j ∧ j < wx.heap.size) ⟨fun j hj => ⟨hO.1 j hj, hown j hj⟩, hO.2⟩ hU4 (fun j hj e => by omega)
        have hB14 : Below w1.heap.size w1 w4 := hB.trans ((hU4.toBelow (fun _ e => e) (Nat.le_refl _)).mono zx)
        generalize (mN false zs k n [] : Int) = q at *
        clear hO Hcall hU4 hU1
        go_wp2_with (at_builtin; refine wpList_append1 _ rfl (.tmp 13) (.tmp 18) _ rfl w1.heap.size 3 i0 _ 8 Try.underlying22 hi0 hz0 hz1 hz2 rfl _ (numL false zs k).length _ rfl (hO4.2.alloc _) w4.heap.size 1 (.int .i64 q) rfl (cell_new _ _ _) rfl (by rw [Hln.out]; omega) (by rw [Hln.out]; omega) (by simp; omega) ?_; rintro v' w' hown' hg' hv')
        have zg := hg'.size
        simp at zg
        go_roundw
        case rel => exact ⟨k + 1, by omega, by go_num, by rw [Hnx.out]; exact hO4.step hown' hv' (fun j e => e.1) (fun _ => by omega), ((((Below.toUpd hB14).mono (S := fun j => w1.heap.size ≤ j) fun _ _ e => e).alloc _).grown hg' (fun j hj => .inl (hO4.1 j hj).1)).toBelow (fun _ e => e) (Nat.le_refl _)⟩
        case measure => simp [intOf]; omega
      · obtain rfl : k = 5 := by omega
        have hle : decide (((5 : Nat) : Int) ≤ 4) = false := by decide
        have Hl := Lib.hid (numL_len false zs 5)
        obtain ⟨A2, c2, hv2, hR⟩ := rowV_of_own hO.2
        subst hv2
        rw [Hl.out] at hR ⊢
        go_wp2_with fail
        go_ret
        exact ⟨A2, 5, c2, rfl, by rw [Ht.out]; exact hR.more z1 (Nat.le_refl _), hB1.trans (hB.mono z1)⟩

set_option maxRecDepth 100000 in
set_option maxHeartbeats 4000000 in
theorem specFallsBelowF_any (A : Option Addr) (n c : Nat) (zs : List Int) (w : World) (h : Ints w w.heap.size A n zs) (hbig : n ≤ 1152921504606846976) :
    Calls Try.prog 41 #[.slice A n c] w (GivesRowV w (numR true zs)) := by
  obtain ⟨i0, hi0, hz0, hz1, hz2⟩ := info_parts infoInt
  have hlen := Lib.hid h.len
  cases hv : vo zs
  · have Ht := Lib.hid (numR_no (st := true) hv)
    go_enter Try.func41, Try.ntmps41
    go_wp2_with fail
    refine (validOrder_any _ _ _ _ zs _ h hbig).mono ?_
    rw [hv]
    rintro e w1 ⟨rfl, m, hm⟩
    have hB : Below w.heap.size w w1 := by rw [hm]; exact below_drewN (Below.refl _ _) _
    clear hm
    go_wp2_with fail
    go_ret
    exact ⟨none, 0, 0, rfl, by rw [Ht.out]; exact RowV.nil _ _ _ _, hB⟩
  · have hvo : VoP zs := by simpa [vo] using hv
    have Ht := Lib.hid (numR_is (st := true) hv)
    have Hc := Lib.hid (fun k hk (w' : World) h1 h2 => sstrictMaps_any zs hvo A n c k hk hlen.out n [] w'.heap.size 0 0 0 (w'.alloc (.cells #[] 3)) h1 h2 (Nat.zero_add n))
    go_enter Try.func41, Try.ntmps41
    go_wp2_with fail
    refine (validOrder_any _ _ _ _ zs _ h hbig).mono ?_
    rw [hv]
    rintro e w1 ⟨rfl, m, hm⟩
    have hB1 : Below w.heap.size w w1 := by rw [hm]; exact below_drewN (Below.refl _ _) _
    have hx := h.below hB1
    have z1 := hB1.size
    clear hm
    go_wp2_with fail
    have h1 := own_new w1 3
    have hU1 : Upd (fun _ => False) w1 (w1.alloc (.cells #[] 3)) := (Upd.refl _ w1).alloc _
    have hzz : w1.heap.size < (w1.alloc (.cells #[] 3)).heap.size := by simp
    obtain ⟨W1, hW1⟩ : ∃ W1, w1.alloc (.cells #[] 3) = W1 := ⟨_, rfl⟩
    rw [hW1] at h1 hU1 hzz ⊢
    clear hW1
    go_loopw [3, 4] (fun v i wr => ∃ k : Nat, k ≤ 5 ∧ i = .int .i64 k ∧ OwnS (fun j => w1.heap.size ≤ j) wr w1.heap.size 3 v (numL true zs k) ∧ Below w1.heap.size w1 wr) (fun _ i _ => 5 - (intOf i).toNat)
    case atStart => exact ⟨0, by omega, rfl, ⟨fun j hj => by simp [Value.ownBlock] at hj; omega, h1⟩, hU1.toBelow (fun _ e => e.elim) (Nat.le_refl _)⟩
    case round =>
      clear h1 hU1
      obtain ⟨k, hk, rfl, hO, hB⟩ := hrel
      rename World => wx
      have zx := hB.size
      by_cases hlt : k < 5
      · have hle : decide ((k : Int) ≤ 4) = true := decide_eq_true (by omega)
        have hAx : Ints (wx.alloc (.cells #[] 3)) (wx.alloc (.cells #[] 3)).heap.size A n zs := ((hx.below (hB.mono z1)).more (by omega : w.heap.size ≤ wx.heap.size) |>.to ((Below.refl _ _).alloc (Nat.le_refl _) _) (Nat.le_refl _) (by simp))
        have hGx : Ints (wx.alloc (.cells #[] 3)) (wx.alloc (.cells #[] 3)).heap.size (some ⟨wx.heap.size, 0, none⟩) 0 [] := ⟨rfl, fun e => absurd e (by omega)⟩
        have Hcall := Lib.hid (Hc.out k (by omega) wx hAx hGx)
        have hU1 : Upd (fun _ => False) wx (wx.alloc (.cells #[] 3)) := (Upd.refl _ wx).alloc _
        have hzy : wx.heap.size < (wx.alloc (.cells #[] 3)).heap.size := by simp
        have Hnx := Lib.hid (numL_succ true zs k)
        have Hln := Lib.hid (numL_len true zs k)
        have hown := own_lt' hO.2
        clear hAx hGx
        go_wp2_with fail
        obtain ⟨W3, hW3⟩ : ∃ W3, wx.alloc (.cells #[] 3) = W3 := ⟨_, rfl⟩
        rw [hW3] at Hcall hU1 hzy ⊢
        clear hW3
        refine Hcall.out.mono ?_
        rw [hlen.out] at Hnx
        rintro e w4 ⟨rfl, hB4⟩
        have z4 := hB4.size
        have hU4 : Upd (fun j => wx.heap.size ≤ j) wx w4 := (hU1.mono (fun _ _ e => e.elim)).trans' (R := fun j => wx.heap.size ≤ j) (Below.toUpd hB4) (fun i hi e => by omega)
        have hO4 := OwnS.keep (S := fun j => w1.heap.size ≤ j ∧ j < wx.heap.size) ⟨fun j hj => ⟨hO.1 j hj, hown j hj⟩, hO.2⟩ hU4 (fun j hj e => by omega)
        have hB14 : Below w1.heap.size w1 w4 := hB.trans ((hU4.toBelow (fun _ e => e) (Nat.le_refl _)).mono zx)
        generalize (mN true zs k n [] : Int) = q at *
        clear hO Hcall hU4 hU1
        go_wp2_with (at_builtin; refine wpList_append1 _ rfl (.tmp 13) (.tmp 18) _ rfl w1.heap.size 3 i0 _ 8 Try.underlying22 hi0 hz0 hz1 hz2 rfl _ (numL true zs k).length _ rfl (hO4.2.alloc _) w4.heap.size 1 (.int .i64 q) rfl (cell_new _ _ _) rfl (by rw [Hln.out]; omega) (by rw [Hln.out]; omega) (by simp; omega) ?_; rintro v' w' hown' hg' hv')
        have zg := hg'.size
        simp at zg
        go_roundw
        case rel => exact ⟨k + 1, by omega, by go_num, by rw [Hnx.out]; exact hO4.step hown' hv' (fun j e => e.1) (fun _ => by omega), ((((Below.toUpd hB14).mono (S := fun j => w1.heap.size ≤ j) fun _ _ e => e).alloc _).grown hg' (fun j hj => .inl (hO4.1 j hj).1)).toBelow (fun _ e => e) (Nat.le_refl _)⟩
        case measure => simp [intOf]; omega
      · obtain rfl : k = 5 := by omega
        have hle : decide (((5 : Nat) : Int) ≤ 4) = false := by decide
        have Hl := Lib.hid (numL_len true zs 5)
        obtain ⟨A2, c2, hv2, hR⟩ := rowV_of_own hO.2
        subst hv2
        rw [Hl.out] at hR ⊢
        go_wp2_with fail
        go_ret
        exact ⟨A2, 5, c2, rfl, by rw [Ht.out]; exact hR.more z1 (Nat.le_refl _), hB1.trans (hB.mono z1)⟩
end Go.Proofs.Ytcadmjpkgnbodaa

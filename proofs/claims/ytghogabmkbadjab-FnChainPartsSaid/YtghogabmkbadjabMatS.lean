/- FewestChains: the model's matching. -/
import Derived.Test.YtghogabmkbadjabGb
import Derived.Test.YtghogabmkbadjabGa
set_option linter.unusedVariables false
set_option linter.unusedSimpArgs false
namespace Go.Proofs.Ytghogabmkbadjab
open Go.RowKit Go.Shelf

/-- Block b is just the marks s. -/
def Bel (w : World) (b : Nat) (s : List Bool) : Prop := w.heap[b]? = some (.cells (s.map Value.bool).toArray 4 (0, 0))
section
variable {w w' : World} {b : Nat} {s : List Bool} {R : Nat → Prop}
theorem Bel.lt (h : Bel w b s) : b < w.heap.size := (Array.getElem?_eq_some_iff.1 h).1
theorem Bel.cell (h : Bel w b s) {k : Nat} (hk : k < s.length) : w.cell? ⟨b, k, none⟩ = some (.bool (s[k]?.getD false)) := by
  rw [cell_of_row w b k _ _ (0, 0) h]
  simp [List.getElem?_eq_getElem hk]
theorem Bel.frozen (h : Bel w b s) (k : Nat) : w.frozen? ⟨b, k, none⟩ = false := frozen_of_row _ _ k _ _ h
theorem Bel.upd (h : Bel w b s) (hu : Upd R w w') (hr : ¬ R b) : Bel w' b s := (hu.block b h.lt hr).trans h
theorem Bel.set (h : Bel w b s) (k : Nat) (v : Bool) : Bel (w.setCell ⟨b, k, none⟩ (.bool v)) b (s.set k v) := by
  unfold Bel at h ⊢
  simp [World.setCell, Array.getElem?_modify, h, List.map_set]
end

set_option maxRecDepth 100000 in
set_option maxHeartbeats 4000000 in
theorem mate_any (zs : List Int) (hvo : VoP zs) (n c c2 hb sb : Nat) (A : Option Addr) (B : Nat) (hhB : B ≤ hb) (hsB : B ≤ sb) (hne : hb ≠ sb) (hlen0 : zs.length = n) :
    ∀ (f a : Nat) (has : List Int) (seen : List Bool) (w : World), a < n → OkH n has → seen.length = n → unseen seen < f → Ints w B A n zs → Cel w hb 3 n has → Bel w sb seen →
    Calls Try.prog 137 #[.slice A n c, .int .i64 (a : Int), .slice (some ⟨hb, 0, none⟩) n c2, .slice (some ⟨sb, 0, none⟩) n n] w fun e w' => e = .returned (.bool (mateF zs f a has seen).1) ∧ Cel w' hb 3 n (mateF zs f a has seen).2.1 ∧ Bel w' sb (mateF zs f a has seen).2.2 ∧ Upd (fun k => k = hb ∨ k = sb) w w'
  | 0, _, _, seen, _, _, _, _, hu, _, _, _ => absurd hu (Nat.not_lt_zero _)
  | f + 1, a, has, seen, w, ha, hOk, hsl, hu, hI, hC, hS => by
    have ih := mate_any zs hvo n c c2 hb sb A B hhB hsB hne hlen0 f
    have hlen := Lib.hid hlen0
    have hn6 : n ≤ 6 := by have := hvo.1; rw [hlen0] at this; exact this
    have hza := hvo.bd a (by rw [hlen0]; exact ha)
    have Hrok := Lib.hid (show ∀ (x : Nat) (h : List Int) (s : List Bool), x < n → OkH n h → s.length = n → Keeps n s (mateF zs f x h s) by rw [← hlen0]; exact mateF_ok zs f)
    have HF := Lib.hid (show mateF zs (f + 1) a has seen = mateG zs (mateF zs f) a n 0 has seen by rw [← hlen0]; rfl)
    rw [HF.out]
    obtain ⟨r, hr⟩ : ∃ r, mateG zs (mateF zs f) a n 0 has seen = r := ⟨_, rfl⟩
    rw [hr]
    have Hr := Lib.hid hr
    clear hr hlen0
    obtain ⟨ba, off, rfl, hba, hca⟩ := hI.at_ ha
    have hca0 := hca a ha
    go_enter Try.func137, Try.ntmps137
    go_wp2
    go_loopw [9] (fun i wr => ∃ (b : Nat) (h2 : List Int) (s2 : List Bool), b ≤ n ∧ i = .int .i64 b ∧ OkH n h2 ∧ s2.length = n ∧ unseen s2 ≤ unseen seen ∧ Hid (mateG zs (mateF zs f) a (n - b) b h2 s2 = r) ∧ Cel wr hb 3 n h2 ∧ Bel wr sb s2 ∧ Upd (fun k => k = hb ∨ k = sb) w wr) (fun i _ => n - (intOf i).toNat)
    case atStart => exact ⟨0, has, seen, by omega, rfl, hOk, hsl, Nat.le_refl _, Hr, hC, hS, Upd.refl _ _⟩
    case round =>
      obtain ⟨b, h2, s2, hb1, rfl, hOk2, hsl2, hus, Hg, hC2, hS2, hU⟩ := hrel
      rename World => wx
      have zx := hU.size
      have hcx := hU.cell hca0 (fun e => by simp at e; omega)
      by_cases hlt : b < n
      · have hcs := hS2.cell (k := b) (by rw [hsl2]; exact hlt)
        have hch := hC2.cell hlt
        have hfs := hS2.frozen b
        have hbh := hOk2.2 b hlt
        obtain ⟨d, hd⟩ : ∃ d, n - b = d + 1 := ⟨n - b - 1, by omega⟩
        have hd2 : n - (b + 1) = d := by omega
        have hg := Hg.out
        rw [hd] at hg
        unfold mateG at hg
        cases hbit : bitB (zs[a]?.getD 0) b
        · have hbi : (bitI (zs[a]?.getD 0) (b : Int) == 0) = true := by unfold bitI; rw [hbit]; rfl
          rw [hbit] at hg
          simp only [Bool.not_false, Bool.true_or, if_true] at hg
          have Hg2 := Lib.hid (show mateG zs (mateF zs f) a (n - (b + 1)) (b + 1) h2 s2 = r by rw [hd2]; exact hg)
          clear hg Hg hd hd2
          go_wp2_with (go_at_call 63; refine (bit_any _ _ _ (by omega) (by omega) (by omega) (by omega)).mono ?_; rintro e w' ⟨rfl, rfl⟩)
          go_roundw
          case rel => exact ⟨b + 1, h2, s2, by omega, by go_num, hOk2, hsl2, hus, Hg2, hC2, hS2, hU⟩
          case measure => simp [intOf]; omega
        · have hbi : (bitI (zs[a]?.getD 0) (b : Int) == 0) = false := by unfold bitI; rw [hbit]; rfl
          rw [hbit] at hg
          simp only [Bool.not_true, Bool.false_or] at hg
          cases hsb : s2[b]?.getD false
          · have hu2 := unseen_set s2 b (by omega) hsb
            rw [hsb] at hcs hg
            simp only [Bool.false_eq_true, if_false] at hg
            have hS3 := hS2.set b true
            have hU3 : Upd (fun k => k = hb ∨ k = sb) w (wx.setCell ⟨sb, b, none⟩ (.bool true)) := hU.setCell (p := ⟨sb, b, none⟩) (.inr (.inr rfl)) _
            have hC3 := hC2.upd ((Upd.refl (fun k => k = sb) wx).setCell (p := ⟨sb, b, none⟩) (.inr rfl) (.bool true)) (fun e => hne e)
            have hch3 := hC3.cell hlt
            have hfh3 := hC3.frozen b
            by_cases hneg : h2[b]?.getD 0 < 0
            · rw [if_pos hneg] at hg
              have Hgr := Lib.hid hg
              have hdn : decide (h2[b]?.getD 0 < 0) = true := decide_eq_true hneg
              clear hg Hg hd hd2
              have hC4 := hC3.set b (a : Int)
              have hS4 : Bel ((wx.setCell ⟨sb, b, none⟩ (.bool true)).setCell ⟨hb, b, none⟩ (.int .i64 (a : Int))) sb (s2.set b true) := hS3.upd ((Upd.refl (fun k => k = hb) _).setCell (p := ⟨hb, b, none⟩) (.inr rfl) _) (fun e => hne e.symm)
              go_wp2_with (go_at_call 63; refine (bit_any _ _ _ (by omega) (by omega) (by omega) (by omega)).mono ?_; rintro e w' ⟨rfl, rfl⟩)
              go_ret
              rw [← Hgr.out]
              exact ⟨rfl, hC4, hS4, hU3.setCell (p := ⟨hb, b, none⟩) (.inr (.inl rfl)) _⟩
            · rw [if_neg hneg] at hg
              obtain ⟨x, hx⟩ := Int.eq_ofNat_of_zero_le (show 0 ≤ h2[b]?.getD 0 by omega)
              have hxn : x < n := by omega
              rw [hx, Int.toNat_natCast] at hg
              have hdn : ¬ ((x : Int) < 0) := by omega
              have hI3 := hI.below (hU3.toBelow (B := B) (fun k e => by omega) (by have := hC.lt; omega))
              have hcall := ih x h2 (s2.set b true) _ hxn hOk2 (by simpa using hsl2) (by omega) hI3 hC3 hS3
              obtain ⟨m1, m2, m3⟩ := Hrok.out x h2 (s2.set b true) hxn hOk2 (by simpa using hsl2)
              rw [hx] at hch3 hch
              generalize mateF zs f x h2 (s2.set b true) = rr at *
              obtain ⟨W3, hW3⟩ : ∃ W3, wx.setCell ⟨sb, b, none⟩ (.bool true) = W3 := ⟨_, rfl⟩
              clear hS3 hC3
              cases hrr : rr.1
              · rw [hrr] at hg hcall
                simp only [Bool.false_eq_true, if_false] at hg
                have Hg2 := Lib.hid (show mateG zs (mateF zs f) a (n - (b + 1)) (b + 1) rr.2.1 rr.2.2 = r by rw [hd2]; exact hg)
                clear hg Hg hd hd2 hW3 hrr
                go_wp2_with (first | (go_at_call 63; refine (bit_any _ _ _ (by omega) (by omega) (by omega) (by omega)).mono ?_; rintro e w' ⟨rfl, rfl⟩) | (go_at_call 137; refine hcall.mono ?_; rintro e w5 ⟨rfl, hC5, hS5, hU5⟩))
                go_roundw
                case rel => exact ⟨b + 1, rr.2.1, rr.2.2, by omega, by go_num, m1, m2, by omega, Hg2, hC5, hS5, hU3.trans' hU5 (fun i hi e => e)⟩
                case measure => simp [intOf]; omega
              · rw [hrr] at hg hcall
                simp only [if_true] at hg
                have Hgr := Lib.hid hg
                clear hg Hg hd hd2 hW3 hrr
                go_wp2_with (first | (go_at_call 63; refine (bit_any _ _ _ (by omega) (by omega) (by omega) (by omega)).mono ?_; rintro e w' ⟨rfl, rfl⟩) | (go_at_call 137; refine hcall.mono ?_; rintro e w5 ⟨rfl, hC5, hS5, hU5⟩; have hc5 := hC5.cell hlt; have hf5 := hC5.frozen b))
                rename_i w5 hC5 hS5 hU5 hc5 hf5
                go_ret
                rw [← Hgr.out]
                exact ⟨rfl, hC5.set b (a : Int), hS5.upd ((Upd.refl (fun k => k = hb) _).setCell (p := ⟨hb, b, none⟩) (.inr rfl) _) (fun e => hne e.symm), (hU3.trans' hU5 (fun i hi e => e)).setCell (p := ⟨hb, b, none⟩) (.inr (.inl rfl)) _⟩
          · rw [hsb] at hcs hg
            simp only [if_true] at hg
            have Hg2 := Lib.hid (show mateG zs (mateF zs f) a (n - (b + 1)) (b + 1) h2 s2 = r by rw [hd2]; exact hg)
            clear hg Hg hd hd2
            go_wp2_with (go_at_call 63; refine (bit_any _ _ _ (by omega) (by omega) (by omega) (by omega)).mono ?_; rintro e w' ⟨rfl, rfl⟩)
            go_roundw
            case rel => exact ⟨b + 1, h2, s2, by omega, by go_num, hOk2, hsl2, hus, Hg2, hC2, hS2, hU⟩
            case measure => simp [intOf]; omega
      · obtain rfl : b = n := by omega
        have hg := Hg.out
        rw [Nat.sub_self] at hg
        have Hgr := Lib.hid (show (false, h2, s2) = r from hg)
        clear hg Hg
        go_wp2
        go_ret
        rw [← Hgr.out]
        exact ⟨rfl, hC2, hS2, hU⟩
end Go.Proofs.Ytghogabmkbadjab

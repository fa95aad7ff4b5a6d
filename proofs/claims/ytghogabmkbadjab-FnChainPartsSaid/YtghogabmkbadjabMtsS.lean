/- FewestChains: the model's, whole. -/
import Derived.Test.YtghogabmkbadjabMatS
import Derived.Test.YtghogabmkbadjabGa
set_option linter.unusedVariables false
set_option linter.unusedSimpArgs false
namespace Go.Proofs.Ytghogabmkbadjab
open Go.RowKit Go.Shelf

theorem infoBool : (Try.prog.info? 4).map (fun i => (i.zero, i.size, i.bytes)) = some (some (.bool false), 1, 1) := by kernel_rfl
theorem Bel.new (w : World) (n : Nat) : Bel (w.alloc (.cells (madeCells #[.bool false] n) 4)) w.heap.size (List.replicate n false) := by
  have h := heap_alloc_new w (.cells (madeCells #[Value.bool false] n) 4)
  unfold Bel
  rw [h]
  congr 2
  apply Array.ext
  · simp [madeCells]
  · intro i h1 h2
    simp [madeCells, Nat.mod_one]
theorem rep_snoc (k : Nat) : (List.replicate (k + 1) (-1 : Int)) = List.replicate k (-1) ++ [-1] := by rw [List.replicate_succ']
theorem cel_of_own {w : World} {base n : Nat} {t : TypeId} {v : Value} {xs : List Int} (h : w.ownsRow base t 1 v n (xs.map (Value.int .i64))) (hn : 0 < n) : ∃ g cap, v = .slice (some ⟨g, 0, none⟩) n cap ∧ base ≤ g ∧ Cel w g t n xs := by
  have hl : xs.length = n := by simpa using h.1
  rcases h.2 with ⟨_, e⟩ | ⟨g, cap, cur, rfl, hg, hc, _, _, _, ht⟩
  · omega
  · exact ⟨g, cap, rfl, hg, hl, cur, hc, by simpa using ht⟩

set_option maxRecDepth 100000 in
set_option maxHeartbeats 4000000 in
theorem mates_any (A : Option Addr) (n c : Nat) (zs : List Int) (hvo : VoP zs) (w : World) (h : Ints w w.heap.size A n zs) :
    Calls Try.prog 92 #[.slice A n c] w fun e w' => ∃ A' c', e = .returned (.slice A' n c') ∧ Ints w' w'.heap.size A' n (matesTo zs n) ∧ Below w.heap.size w w' := by
  obtain ⟨i0, hi0, hz0, hz1, hz2⟩ := info_parts infoInt
  have hlen := Lib.hid h.len
  have hn6 : n ≤ 6 := by have := hvo.1; rw [hlen.out] at this; exact this
  have H0 := Lib.hid (show matesTo zs 0 = List.replicate n (-1) by unfold matesTo; rw [hlen.out])
  have Hs := Lib.hid (fun k => (show matesTo zs (k + 1) = (mateF zs (n + 1) k (matesTo zs k) (List.replicate n false)).2.1 by rw [← hlen.out]; rfl))
  have Hok := Lib.hid (fun k (hk : k ≤ n) => (show OkH n (matesTo zs k) by rw [← hlen.out] at hk ⊢; exact matesTo_ok zs k hk))
  have hmate := fun (hb sb c2 : Nat) (hhB : w.heap.size ≤ hb) (hsB : w.heap.size ≤ sb) (hne : hb ≠ sb) => mate_any zs hvo n c c2 hb sb A w.heap.size hhB hsB hne hlen.out (n + 1)
  have hmk := run_make_row' (P := Try.prog) 110 4 (.bool false) 1 Try.underlying110 infoBool rfl .i64 .i64 n (by omega) (by omega)
  go_enter Try.func92, Try.ntmps92
  go_wp2_with fail
  have h1 := own_new w 3
  have hU1 : Upd (fun _ => False) w (w.alloc (.cells #[] 3)) := (Upd.refl _ w).alloc _
  have hz1' : (w.alloc (.cells #[] 3)).heap.size = w.heap.size + 1 := by simp
  obtain ⟨W1, hW1⟩ : ∃ W1, w.alloc (.cells #[] 3) = W1 := ⟨_, rfl⟩
  rw [hW1] at h1 hU1 hz1' ⊢
  have hzl : w.heap.size < W1.heap.size := by omega
  clear hW1 hz1'
  go_loopw [3, 8] (fun v i wr => ∃ k : Nat, k ≤ n ∧ i = .int .i64 k ∧ wr.ownsRow w.heap.size 3 1 v k ((List.replicate k (-1 : Int)).map (Value.int .i64)) ∧ Upd (fun g => w.heap.size ≤ g) w wr ∧ w.heap.size ≤ wr.heap.size) (fun _ i _ => n - (intOf i).toNat)
  case atStart => exact ⟨0, by omega, rfl, by simpa using h1, hU1.mono (fun _ _ e => e.elim), by omega⟩
  case round =>
    obtain ⟨k, hk, rfl, hO, hU, hsz⟩ := hrel
    rename World => wx
    obtain ⟨A', c', rfl, hI', -⟩ := ints_of_own_at hO
    clear hI'
    by_cases hlt : k < n
    · have Hrow := Lib.hid (rep_snoc k)
      go_wp2_with (at_builtin; refine wpList_append1 _ rfl (.tmp 10) (.tmp 11) _ rfl w.heap.size 3 i0 _ 8 Try.underlying22 hi0 hz0 hz1 hz2 rfl _ k _ rfl (hO.alloc _) wx.heap.size 1 (.int .i64 (-1)) rfl (cell_new _ _ _) rfl (by omega) (by omega) (by simp; omega) ?_; rintro v' w' hown' hg' hv')
      have zg := hg'.size
      simp at zg
      have hO2 : w'.ownsRow w.heap.size 3 1 v' (k + 1) ((List.replicate (k + 1) (-1 : Int)).map (Value.int .i64)) := by rw [Hrow.out, List.map_append]; exact hown'
      go_roundw
      case rel => exact ⟨k + 1, by omega, by go_num, hO2, (hU.alloc _).grown hg' (fun g hg => .inl (by have := own_base hO g hg; omega)), by omega⟩
      case measure => simp [intOf]; omega
    · obtain rfl : k = n := by omega
      by_cases hn0 : k = 0
      · subst hn0
        have Hm0 := Lib.hid (show matesTo zs 0 = [] from H0.out)
        have hI0 : Ints wx wx.heap.size A' 0 (matesTo zs 0) := by rw [Hm0.out]; exact Ints.nil _ _ _
        clear hmate hmk Hok Hs hO
        go_wp2_with fail
        go_loop [4] (fun i => i = .int .i64 0) (fun _ => 0)
        case atStart => rfl
        case round =>
          subst hrel
          go_wp2
          go_ret
          first | exact ⟨A', ⟨c', rfl⟩, hI0, hU.toBelow (fun g hg => hg) (Nat.le_refl _)⟩ | exact ⟨A', c', rfl, hI0, hU.toBelow (fun g hg => hg) (Nat.le_refl _)⟩
      · obtain ⟨g, cap, he, hg, hC⟩ := cel_of_own hO (by omega)
        cases he
        rw [← H0.out] at hC
        have hgl := hC.lt
        clear hO
        go_wp2_with fail
        go_loopw [4] (fun i wr => ∃ a : Nat, a ≤ k ∧ i = .int .i64 a ∧ Cel wr g 3 k (matesTo zs a) ∧ Upd (fun q => w.heap.size ≤ q) w wr ∧ wx.heap.size ≤ wr.heap.size) (fun i _ => k - (intOf i).toNat)
        case atStart => exact ⟨0, by omega, rfl, hC, hU, Nat.le_refl _⟩
        case round =>
          clear hC hU
          obtain ⟨a, ha, rfl, hC, hU, hsz2⟩ := hrel
          rename World => wy
          by_cases hlt2 : a < k
          · have hcall := hmate g wy.heap.size c' hg (by omega) (by omega) a (matesTo zs a) (List.replicate k false) (wy.alloc (.cells (madeCells #[.bool false] k) 4)) hlt2 (Hok.out a ha) (by simp) (by have := unseen_le (List.replicate k false); simp at this; omega)
              ((h.below (hU.toBelow (fun q e => e) (Nat.le_refl _))).below ((Below.refl w.heap.size wy).alloc (by omega) _))
              (hC.upd ((Upd.refl (fun _ => False) wy).alloc _) (fun e => e)) (Bel.new wy k)
            have Hs1 := Lib.hid (Hs.out a)
            go_wp2_with (go_at_call 137; refine hcall.mono ?_; rintro e w5 ⟨rfl, hC5, -, hU5⟩)
            have z5 := hU5.size
            simp at z5
            go_roundw
            case rel => exact ⟨a + 1, by omega, by go_num, by rw [Hs1.out]; exact hC5, (hU.alloc _).trans' hU5 (fun q hq e => by omega), by omega⟩
            case measure => simp [intOf]; omega
          · obtain rfl : a = k := by omega
            go_wp2
            go_ret
            exact ⟨_, c', rfl, hC.ints hC.lt, hU.toBelow (fun q e => e) (Nat.le_refl _)⟩
set_option maxHeartbeats 2000000 in
theorem specFewestChainsF_any (A : Option Addr) (n c : Nat) (zs : List Int) (w : World) (h : Ints w w.heap.size A n zs) (hbig : n ≤ 1152921504606846976) :
    Calls Try.prog 33 #[.slice A n c] w fun e w' => e = .returned (.int .i64 (fewestR zs)) ∧ Below w.heap.size w w' := by
  have hlen := Lib.hid h.len
  cases hv : vo zs
  · have Ht := Lib.hid (show fewestR zs = -1 by unfold fewestR; rw [hv]; rfl)
    go_enter Try.func33, Try.ntmps33
    go_wp2_with fail
    refine (validOrder_any _ _ _ _ zs _ h hbig).mono ?_
    rw [hv]
    rintro e w' ⟨rfl, m, rfl⟩
    go_wp2_with fail
    go_ret
    exact ⟨ret_int Ht.out.symm, below_drewN (Below.refl _ _) m⟩
  · have hvo : VoP zs := by simpa [vo] using hv
    have Hv := Lib.hid hv
    clear hv
    have hn6 : n ≤ 6 := by have := hvo.1; rw [hlen.out] at this; exact this
    have Ht := Lib.hid (show fewestR zs = (noneTo (matesTo zs n) n : Int) by unfold fewestR; rw [Hv.out, hlen.out]; rfl)
    go_enter Try.func33, Try.ntmps33
    go_wp2_with fail
    refine (validOrder_any _ _ _ _ zs _ h hbig).mono ?_
    rw [Hv.out]
    rintro e w' ⟨rfl, m, rfl⟩
    have i1 : Ints (w.drewN m) (w.drewN m).heap.size A n zs := h.drewN m
    have B1 : Below w.heap.size w (w.drewN m) := below_drewN (Below.refl _ _) m
    generalize w.drewN m = w1 at *
    go_wp2_with fail
    refine (mates_any A n c zs hvo w1 i1).mono ?_
    rintro e w2 ⟨A2, c2, rfl, hI2, hB2⟩
    have C2 := B1.trans (hB2.mono B1.size)
    generalize matesTo zs n = has at *
    go_wp2_with fail
    go_loopw [3, 5] (fun v i wr => ∃ k : Nat, k ≤ n ∧ i = .int .i64 k ∧ v = .int .i64 (noneTo has k : Int) ∧ wr = w2) (fun _ i _ => n - (intOf i).toNat)
    case atStart => exact ⟨0, by omega, rfl, rfl, rfl⟩
    case round =>
      obtain ⟨k, hk, rfl, rfl, rfl⟩ := hrel
      have hle := noneTo_le has k
      by_cases hlt : k < n
      · obtain ⟨b, off, rfl, hb, hc⟩ := hI2.at_ hlt
        have hck := hc k hlt
        have Hs := Lib.hid (show noneTo has (k + 1) = noneTo has k + (if has[k]?.getD 0 < 0 then 1 else 0) from rfl)
        generalize noneTo has k = t at *
        by_cases hneg : has[k]?.getD 0 < 0
        · rw [if_pos hneg] at Hs
          go_wp2_with fail
          go_roundw
          case rel => exact ⟨k + 1, by omega, by go_num, by rw [Hs.out]; rfl, by first | rfl | trivial⟩
          case measure => simp [intOf]; omega
        · rw [if_neg hneg] at Hs
          go_wp2_with fail
          go_roundw
          case rel => exact ⟨k + 1, by omega, by go_num, by rw [Hs.out]; rfl, by first | rfl | trivial⟩
          case measure => simp [intOf]; omega
      · obtain rfl : k = n := by omega
        go_wp2
        go_ret
        exact ⟨ret_int Ht.out.symm, C2⟩
end Go.Proofs.Ytghogabmkbadjab

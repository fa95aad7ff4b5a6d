/- CoversOf: the model's. -/
import Derived.Test.YtipdmaggfbfnlaaAppend
import Derived.Test.YtipdmaggfbfnlaaNext
import Derived.Test.YtipdmaggfbfnlaaGa
set_option linter.unusedVariables false
set_option linter.unusedSimpArgs false
namespace Go.Proofs.Ytipdmaggfbfnlaa
open Go.RowKit

/-- What is left of the items above a when what is above the first b of them is taken away. -/
def coverTo (zs : List Int) (a : Nat) : Nat → Int
  | 0 => zs[a]?.getD 0
  | b + 1 => if bitB (zs[a]?.getD 0) b then lessI (coverTo zs a b) (zs[b]?.getD 0) else coverTo zs a b
theorem coverTo_bd {zs : List Int} (h : Sets zs) {a : Nat} (ha : a < zs.length) : ∀ b : Nat, 0 ≤ coverTo zs a b ∧ coverTo zs a b ≤ zs[a]?.getD 0
  | 0 => ⟨(h.bd a ha).1, Int.le_refl _⟩
  | b + 1 => by
    have ih := coverTo_bd h ha b
    unfold coverTo
    split
    · have := lessI_bd (coverTo zs a b) (zs[b]?.getD 0)
      omega
    · exact ih
theorem coverTo_yes {zs : List Int} {a b : Nat} (h : bitB (zs[a]?.getD 0) b = true) : coverTo zs a (b + 1) = lessI (coverTo zs a b) (zs[b]?.getD 0) := by simp [coverTo, h]
theorem coverTo_no {zs : List Int} {a b : Nat} (h : bitB (zs[a]?.getD 0) b = false) : coverTo zs a (b + 1) = coverTo zs a b := by simp [coverTo, h]

theorem own_new (w : World) (e : TypeId) : (w.alloc (.cells #[] e)).ownsRow w.heap.size e 1 (.slice (some ⟨w.heap.size, 0, none⟩) 0 0) 0 [] :=
  ⟨rfl, .inr ⟨w.heap.size, 0, #[], rfl, Nat.le_refl _, by show (w.heap.push _)[w.heap.size]? = _; simp, Nat.le_refl _, by simp [maxLen], rfl, rfl⟩⟩
theorem cell_new (w : World) (e : TypeId) (u : Value) : (w.alloc (.cells #[u] e)).cell? ⟨w.heap.size, 0, none⟩ = some u := (Boxed.new w e u).cell
theorem own_base {w : World} {base n : Nat} {e : TypeId} {v : Value} {xs : List Value} (h : w.ownsRow base e 1 v n xs) : ∀ k, v.ownBlock = some k → base ≤ k := fun k hk => by
  rcases h.2 with ⟨rfl, _⟩ | ⟨g, cap, cur, rfl, hg, _⟩
  · cases hk
  · cases hk; exact hg

set_option maxHeartbeats 2000000 in
theorem specCoversOf0_any (A : Option Addr) (n c : Nat) (zs : List Int) (w : World) (h : Ints w w.heap.size A n zs) (hv : Sets zs) :
    Calls Try.prog 66 #[.slice A n c] w fun e w' => ∃ A' c', e = .returned (.slice A' n c') ∧ Ints w' w'.heap.size A' n ((List.range n).map fun a => coverTo zs a n) ∧ Below w.heap.size w w' := by
  have hlen := Lib.hid h.len
  have hn6 : n ≤ 6 := by have := hv.1; rw [hlen.out] at this; exact this
  obtain ⟨i0, hi0, hz0, hz1, hz2⟩ := info_parts infoInt
  go_enter Try.func66, Try.ntmps66
  go_wp2
  go_loopw [3, 4] (fun v i wr => ∃ a : Nat, a ≤ n ∧ i = .int .i64 a ∧ wr.ownsRow w.heap.size 3 1 v a (((List.range a).map fun a => coverTo zs a n).map (Value.int .i64)) ∧ Upd (fun _ => False) w wr) (fun _ i _ => n - (intOf i).toNat)
  case atStart => exact ⟨0, by omega, rfl, own_new _ _, (Upd.refl _ _).alloc _⟩
  case round =>
    obtain ⟨a, ha, rfl, hown, hU⟩ := hrel
    by_cases hak : a < n
    · have hz := hv.bd a (by rw [hlen.out]; exact hak)
      have hI := Lib.hid (h.below (hU.toBelow (fun _ e => e.elim) (Nat.le_refl _)))
      obtain ⟨bl, off, rfl, hbl, hc⟩ := hI.out.at_ hak
      have hck := hc a hak
      have Hc := Lib.hid hc
      clear hc
      go_wp2
      go_loop [5, 6] (fun s i => ∃ b : Nat, b ≤ n ∧ i = .int .i64 b ∧ s = .int .i64 (coverTo zs a b)) (fun _ i => n - (intOf i).toNat)
      case atStart => exact ⟨0, by omega, rfl, rfl⟩
      case round =>
        obtain ⟨b, hb, rfl, rfl⟩ := hrel
        have hcb := coverTo_bd hv (by rw [hlen.out]; exact hak) b
        by_cases hbk : b < n
        · cases hbit : bitB (zs[a]?.getD 0) b
          · have hbi : (bitI (zs[a]?.getD 0) b == 1) = false := by rw [bitI_one, hbit]
            have Hn := Lib.hid (coverTo_no hbit)
            go_wp2_with (go_at_call 67; refine (bit_any _ _ _ (by omega) (by omega) (by omega) (by omega)).mono ?_; rintro e w' ⟨rfl, rfl⟩)
            go_round
            case rel => exact ⟨b + 1, by omega, by go_num, by rw [Hn.out]⟩
            case measure => simp [intOf]; omega
          · have hbi : (bitI (zs[a]?.getD 0) b == 1) = true := by rw [bitI_one, hbit]
            have Hn := Lib.hid (coverTo_yes hbit)
            have hcbb := Hc.out b hbk
            have hzb := hv.bd b (by rw [hlen.out]; exact hbk)
            have hle : bits .andNot .i64 (coverTo zs a b) (zs[b]?.getD 0) = lessI (coverTo zs a b) (zs[b]?.getD 0) := bits_less (by omega) (by omega) (by omega) (by omega)
            go_wp2_with (go_at_call 67; refine (bit_any _ _ _ (by omega) (by omega) (by omega) (by omega)).mono ?_; rintro e w' ⟨rfl, rfl⟩)
            go_round
            case rel => exact ⟨b + 1, by omega, by go_num, by rw [Hn.out]⟩
            case measure => simp [intOf]; omega
        · obtain rfl : b = n := by omega
          go_wp2_with (at_builtin; refine wpList_append1 _ rfl (.tmp 37) (.tmp 39) _ rfl w.heap.size 3 i0 _ 8 Try.underlying22 hi0 hz0 hz1 hz2 rfl _ a _ rfl (hown.alloc _) wr.heap.size 1 (.int .i64 (coverTo zs a b)) rfl (cell_new _ _ _) rfl (by omega) (by omega) (by have := hU.size; simp; omega) ?_; rintro v' w' hown' hg' -)
          go_roundw
          case rel => exact ⟨a + 1, by omega, by go_num, by rw [List.range_succ, List.map_append, List.map_append]; exact hown', (hU.alloc _).grown hg' (fun k hk => .inl (own_base hown k hk))⟩
          case measure => simp [intOf]; omega
    · obtain rfl : a = n := by omega
      obtain ⟨A', c', rfl, hI⟩ := ints_of_own hown
      go_wp2
      go_ret
      exact ⟨A', c', rfl, hI, hU.toBelow (fun _ e => e.elim) (Nat.le_refl _)⟩
end Go.Proofs.Ytipdmaggfbfnlaa

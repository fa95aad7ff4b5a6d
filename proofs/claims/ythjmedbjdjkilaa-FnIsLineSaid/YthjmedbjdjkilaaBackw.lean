/- A list backwards. -/
import Derived.Test.YthjmedbjdjkilaaRowV
import Derived.Test.YthjmedbjdjkilaaGa
namespace Go.Proofs.Ythjmedbjdjkilaa
open Go.RowKit Go.Shelf

theorem drop_rev {ls : List Int} {k : Nat} (hk : k < ls.length) : ls.reverse.take (k + 1) = ls.reverse.take k ++ [ls[ls.length - 1 - k]?.getD 0] := by
  rw [List.take_add_one, List.getElem?_reverse hk, List.getElem?_eq_getElem (by omega)]
  simp

set_option maxHeartbeats 2000000 in
theorem backwards_any (A : Option Addr) (n c : Nat) (ls : List Int) (w : World) (h : Ints w w.heap.size A n ls) (hbig : n ≤ 1000000) :
    Calls Try.prog 25 #[.slice A n c] w (GivesRowV w ls.reverse) := by
  obtain ⟨i0, hi0, hz0, hz1, hz2⟩ := info_parts infoInt
  have hlen := Lib.hid h.len
  go_enter Try.func25, Try.ntmps25
  go_wp2_with fail
  have h1 := own_new w 3
  have hU1 : Upd (fun _ => False) w (w.alloc (.cells #[] 3)) := (Upd.refl _ w).alloc _
  have hz1' : (w.alloc (.cells #[] 3)).heap.size = w.heap.size + 1 := by simp
  obtain ⟨W1, hW1⟩ : ∃ W1, w.alloc (.cells #[] 3) = W1 := ⟨_, rfl⟩
  rw [hW1] at h1 hU1 hz1' ⊢
  clear hW1
  go_loopw [3, 4] (fun v i wr => ∃ k : Nat, k ≤ n ∧ i = .int .i64 ((n : Int) - 1 - (k : Int)) ∧ wr.ownsRow w.heap.size 3 1 v k ((ls.reverse.take k).map (Value.int .i64)) ∧ Upd (fun g => w.heap.size ≤ g) w wr ∧ w.heap.size ≤ wr.heap.size) (fun _ i _ => (intOf i + 1).toNat)
  case atStart => exact ⟨0, by omega, by simp, by simpa using h1, hU1.mono (fun _ _ e => e.elim), by omega⟩
  case round =>
    obtain ⟨k, hk, rfl, hO, hU, hsz⟩ := hrel
    rename World => wx
    obtain ⟨A', c', rfl, hI', -⟩ := ints_of_own_at hO
    by_cases hlt : k < n
    · obtain ⟨b, off, rfl, hb, hc⟩ := h.at_ (show n - 1 - k < n by omega)
      have hcx := hU.cell (hc (n - 1 - k) (by omega)) (fun e => by simp at e; omega)
      have Hrow := Lib.hid (drop_rev (ls := ls) (k := k) (by rw [hlen.out]; exact hlt))
      have e1 : ((n : Int) - 1 - (k : Int)) = ((n - 1 - k : Nat) : Int) := by omega
      have Htl := Lib.hid (show (ls.reverse.take k).length = k by rw [List.length_take, List.length_reverse, hlen.out]; omega)
      rw [hlen.out] at Hrow
      obtain ⟨y, hy⟩ : ∃ y, ls[n - 1 - k]?.getD 0 = y := ⟨_, rfl⟩
      rw [hy] at hcx
      have Hrow2 := Lib.hid (Hrow.out.trans (by rw [hy]))
      clear hc hy Hrow
      rw [e1]
      generalize hq : n - 1 - k = q at *
      have hqn : q < n := by omega
      go_wp2_with (at_builtin; refine wpList_append1 _ rfl (.tmp 13) (.tmp 18) _ rfl w.heap.size 3 i0 _ 8 Try.underlying23 hi0 hz0 hz1 hz2 rfl _ k _ rfl (hO.alloc _) wx.heap.size 1 (.int .i64 y) rfl (cell_new _ _ _) rfl (by omega) (by omega) (by simp; omega) ?_; rintro v' w' hown' hg' hv')
      have zg := hg'.size
      simp at zg
      have hO2 : w'.ownsRow w.heap.size 3 1 v' (k + 1) ((ls.reverse.take (k + 1)).map (Value.int .i64)) := by rw [Hrow2.out, List.map_append]; exact hown'
      go_roundw
      case rel => exact ⟨k + 1, by omega, congrArg (Value.int .i64) (by omega), hO2, (hU.alloc _).grown hg' (fun g hg => .inl (by have := own_base hO g hg; omega)), by omega⟩
      case measure => first | (simp [intOf]; done) | (simp [intOf]; omega)
    · obtain rfl : k = n := by omega
      have Hfull := Lib.hid (show ls.reverse.take k = ls.reverse by rw [List.take_of_length_le (by rw [List.length_reverse, hlen.out]; exact Nat.le_refl _)])
      rw [Hfull.out] at hO
      obtain ⟨A'', c'', he, hV⟩ := rowV_of_own hO
      cases he
      have hneg : ((k : Int) - 1 - (k : Int)) = -1 := by omega
      rw [hneg]
      have hon := hO.1
      clear hO hI'
      go_wp2
      go_ret
      exact ⟨_, k, _, rfl, hV.more (Nat.le_refl _) (Nat.le_refl _), hU.toBelow (fun g hg => hg) (Nat.le_refl _)⟩
end Go.Proofs.Ythjmedbjdjkilaa

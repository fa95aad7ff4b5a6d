/- Chains as links: the program's. -/
import Derived.Test.YtghogabmkbadjabMtI
import Derived.RegionTactic
set_option linter.unusedVariables false
set_option linter.unusedSimpArgs false
namespace Go.Proofs.Ytghogabmkbadjab
open Go.RowKit Go.Shelf
attribute [local go_sem] Oper.semAt_some

abbrev lnk (s i : Nat) : Value := .pointer (some ⟨s + i, 0, none⟩)
def lnkN (s : Nat) : Option Nat → Value
  | none => .pointer none
  | some j => lnk s j
/-- Whom an item is followed by, among the first k. -/
def nxT (has : List Int) (i : Nat) : Nat → Option Nat
  | 0 => none
  | k + 1 => if has[k]?.getD 0 = (i : Int) then some k else nxT has i k
/-- Those of the first k that have none below. -/
def lowL (has : List Int) : Nat → List Nat
  | 0 => []
  | k + 1 => if has[k]?.getD 0 < 0 then lowL has k ++ [k] else lowL has k
theorem lowL_len (has : List Int) : ∀ k : Nat, (lowL has k).length = noneTo has k
  | 0 => rfl
  | k + 1 => by
    have := lowL_len has k
    unfold lowL noneTo
    split
    · rw [List.length_append]; simp; omega
    · omega
def Links (w : World) (s n : Nat) (nx : Nat → Option Nat) : Prop := ∀ i, i < n → w.heap[s + i]? = some (.cells #[.int .i64 (i : Int), lnkN s (nx i)] 108 (0, 0))
theorem Links.upd {w w' : World} {s n : Nat} {nx : Nat → Option Nat} {R : Nat → Prop} (h : Links w s n nx) (hu : Upd R w w') (hr : ∀ i, i < n → ¬ R (s + i)) : Links w' s n nx := fun i hi =>
  (hu.block _ (Array.getElem?_eq_some_iff.1 (h i hi)).1 (hr i hi)).trans (h i hi)
theorem ownP_keep {w w' : World} {B n : Nat} {e : TypeId} {v : Value} {xs : List Value} {R : Nat → Prop} (h1 : w.ownsRow B e 1 v n xs) (hu : Upd R w w') (hS : ∀ k, v.ownBlock = some k → ¬ R k) : w'.ownsRow B e 1 v n xs := by
  refine ⟨h1.1, ?_⟩
  rcases h1.2 with e | ⟨g, cap, cur, rfl, hg, hc, hrest⟩
  · exact .inl e
  · exact .inr ⟨g, cap, cur, rfl, hg, (hu.block g (Array.getElem?_eq_some_iff.1 hc).1 (hS g rfl)).trans hc, hrest⟩
theorem infoLink : (Try.prog.info? 79).map (fun i => (i.zero, i.size, i.bytes)) = some (some (.pointer none), 1, 8) := by kernel_rfl
theorem infoLink_parts : ∃ i : TypeInfo, Try.prog.info? 79 = some i ∧ i.zero = some (.pointer none) ∧ i.size = 1 ∧ i.bytes = 8 := by
  have h := infoLink
  cases hi : Try.prog.info? 79 with
  | none => rw [hi] at h; cases h
  | some i =>
    rw [hi] at h
    simp only [Option.map_some, Option.some.injEq, Prod.mk.injEq] at h
    exact ⟨i, rfl, h.1, h.2.1, h.2.2⟩

set_option maxRecDepth 100000 in
set_option maxHeartbeats 4000000 in
theorem linkChains_any (bz n : Nat) (zs : List Int) (hvo : VoP zs) (hlen : zs.length = n) (w : World) (hZ : Arr w bz 76 zs) :
    Calls Try.prog 91 #[.slice (some ⟨bz, 0, none⟩) n n] w fun e w' => ∃ s v, e = .returned v ∧ w.heap.size ≤ s ∧
      w'.ownsRow w.heap.size 79 1 v (lowL (matesTo zs n) n).length ((lowL (matesTo zs n) n).map (lnk s)) ∧ Links w' s n (fun i => nxT (matesTo zs n) i n) ∧ Below w.heap.size w w' := by
  obtain ⟨i0, hi0, hz0, hz1, hz2⟩ := infoLink_parts
  have Hlen := Lib.hid hlen
  have hn6 : n ≤ 6 := by have := hvo.1; rw [hlen] at this; exact this
  have hzl := hZ.lt
  clear hlen
  have hmk := run_make_row' (P := Try.prog) 77 79 (.pointer none) 8 Try.underlying77 infoLink rfl .i64 .i64 n (by omega) (by omega)
  go_enter Try.func91, Try.ntmps91
  go_wp2_with fail
  have hG : (w.alloc (.cells (madeCells #[Value.pointer none] n) 79)).heap[w.heap.size]? = some (.cells (madeCells #[Value.pointer none] n) 79 (0, 0)) := heap_alloc_new w _
  have hU0 : Upd (fun _ => False) w (w.alloc (.cells (madeCells #[Value.pointer none] n) 79)) := (Upd.refl _ w).alloc _
  have Z0 := Lib.hid (show (w.alloc (.cells (madeCells #[Value.pointer none] n) 79)).heap.size = w.heap.size + 1 by simp)
  obtain ⟨W0, hW0⟩ : ∃ W0, w.alloc (.cells (madeCells #[Value.pointer none] n) 79) = W0 := ⟨_, rfl⟩
  rw [hW0] at hG hU0 Z0 ⊢
  clear hW0 hmk
  have hZ0 := hZ.upd hU0 (fun e => e)
  go_loopw [13] (fun i wr => ∃ (k : Nat) (cs : Array Value), k ≤ n ∧ i = .int .i64 k ∧ wr.heap[w.heap.size]? = some (.cells cs 79 (0, 0)) ∧ (∀ j, j < k → cs[j]? = some (lnk (w.heap.size + 1) j)) ∧ cs.size = n ∧ Links wr (w.heap.size + 1) k (fun _ => none) ∧ Hid (wr.heap.size = w.heap.size + 1 + k) ∧ Upd (fun q => q = w.heap.size) W0 wr) (fun i _ => n - (intOf i).toNat)
  case atStart => exact ⟨0, _, by omega, rfl, hG, fun j hj => by omega, size_madeCells _ _, fun i hi => by omega, Lib.hid Z0.out, Upd.refl _ _⟩
  case round =>
    clear hG
    obtain ⟨k, cs, hk, rfl, hg, hcs, hcn, hL, HZ, hU⟩ := hrel
    rename World => wr
    have zU := hU.size
    by_cases hlt : k < n
    · have hgc : wr.cell? ⟨w.heap.size, k, none⟩ = some (cs[k]?.getD undef) := by
        rw [cell_of_row wr w.heap.size k _ _ (0, 0) hg, Array.getElem?_eq_getElem (by omega)]; rfl
      have hgf : wr.frozen? ⟨w.heap.size, k, none⟩ = false := frozen_of_row _ _ k _ _ hg
      have hgl : w.heap.size < wr.heap.size := (Array.getElem?_eq_some_iff.1 hg).1
      have Hcs := Lib.hid hcs
      clear hcs
      go_wp2_with fail
      have he : (wr.setCell ⟨w.heap.size, k, none⟩ (.pointer (some ⟨wr.heap.size, 0, none⟩))).alloc (.cells #[Value.int .i64 (k : Int), .pointer none] 108) = (wr.alloc (.cells #[Value.int .i64 (k : Int), .pointer none] 108)).setCell ⟨w.heap.size, k, none⟩ (.pointer (some ⟨wr.heap.size, 0, none⟩)) := (World.setCell_alloc_past _ _ _ _ hgl).symm
      rw [he]
      have hUa : Upd (fun _ => False) wr (wr.alloc (.cells #[Value.int .i64 (k : Int), .pointer none] 108)) := (Upd.refl _ wr).alloc _
      have hUs : Upd (fun q => q = w.heap.size) wr ((wr.alloc (.cells #[Value.int .i64 (k : Int), .pointer none] 108)).setCell ⟨w.heap.size, k, none⟩ (.pointer (some ⟨wr.heap.size, 0, none⟩))) := ((Upd.refl (fun q => q = w.heap.size) wr).alloc _).setCell (p := ⟨w.heap.size, k, none⟩) (.inr rfl) _
      have hnew : ((wr.alloc (.cells #[Value.int .i64 (k : Int), .pointer none] 108)).setCell ⟨w.heap.size, k, none⟩ (.pointer (some ⟨wr.heap.size, 0, none⟩))).heap[wr.heap.size]? = some (.cells #[Value.int .i64 (k : Int), .pointer none] 108 (0, 0)) := (Below.heap_setCell _ _ _ _ (by show wr.heap.size ≠ w.heap.size; omega)).trans (heap_alloc_new wr _)
      have hg5 : (wr.alloc (.cells #[Value.int .i64 (k : Int), .pointer none] 108)).heap[w.heap.size]? = some (.cells cs 79 (0, 0)) := (hUa.block _ hgl (fun e => e)).trans hg
      go_roundw
      case rel =>
        refine ⟨k + 1, cs.setIfInBounds k (.pointer (some ⟨wr.heap.size, 0, none⟩)), by omega, by go_num, ?_, fun j hj => ?_, by simpa using hcn, fun i hi => ?_, Lib.hid ?_, hU.trans' hUs (fun i hi e => e)⟩
        · simp [World.setCell, Array.getElem?_modify, hg5]
        · rcases Nat.lt_or_ge j k with h1 | h1
          · rw [Array.getElem?_setIfInBounds_ne (by omega)]
            exact Hcs.out j h1
          · obtain rfl : j = k := by omega
            rw [Array.getElem?_setIfInBounds_self_of_lt (by omega), HZ.out]
        · rcases Nat.lt_or_ge i k with h1 | h1
          · exact (hL.upd hUs (fun i hi => by omega)) i h1
          · obtain rfl : i = k := by omega
            rw [← HZ.out]
            exact hnew
        · have := HZ.out
          simp [World.setCell]
          omega
      case measure => simp [intOf]; omega
    · obtain rfl : k = n := by omega
      go_wp2_with fail
      have hZr := hZ0.upd hU (by omega)
      have hrl : w.heap.size + 1 ≤ wr.heap.size := by have := HZ.out; omega
      have hB1 : Below w.heap.size w wr := ((hU0.mono fun _ _ e => e.elim).trans' hU (fun i hi e => e)).toBelow (R := fun q => q = w.heap.size) (fun k e => by omega) (Nat.le_refl _)
      refine (matchItems_any bz k zs hvo Hlen.out wr hZr).mono ?_
      rintro e w3 ⟨hb, rfl, hhb, hC3, hB3⟩
      have z3 := hB3.size
      have Hok := Lib.hid (show OkH k (matesTo zs k) by have := matesTo_ok zs k (by rw [Hlen.out]; exact Nat.le_refl _); rwa [Hlen.out] at this)
      generalize hhas : matesTo zs k = has at *
      have HH := Lib.hid hhas
      clear hhas
      have hL3 : Links w3 (w.heap.size + 1) k (fun i => nxT has i 0) := fun i hi => (hB3.block _ (by have := HZ.out; omega)).trans (hL i hi)
      have hg3 : w3.heap[w.heap.size]? = some (.cells cs 79 (0, 0)) := (hB3.block _ (by omega)).trans hg
      have HZ3 := Lib.hid (show w.heap.size + 1 + k ≤ w3.heap.size by have := HZ.out; omega)
      have hB13 := hB1.trans (hB3.mono (by omega))
      have hws : w.heap.size < w.heap.size + 1 := Nat.lt_succ_self _
      have hsk : w.heap.size + 1 + k ≤ wr.heap.size := by have := HZ.out; omega
      have Hcs := Lib.hid hcs
      clear hL hg HZ hU hZ hZ0 hZr hB1 hB3 hcs zU hU0
      generalize w.heap.size + 1 = s at *
      go_wp2_with fail
      go_loopw [5, 26] (fun v i wy => ∃ j : Nat, j ≤ k ∧ i = .int .i64 j ∧ wy.ownsRow w.heap.size 79 1 v (lowL has j).length ((lowL has j).map (lnk s)) ∧ (∀ q, v.ownBlock = some q → w3.heap.size ≤ q) ∧ Links wy s k (fun i => nxT has i j) ∧ Upd (fun q => s ≤ q ∧ q < s + k) w3 wy) (fun _ i _ => k - (intOf i).toNat)
      case atStart => exact ⟨0, by omega, rfl, ⟨rfl, .inl ⟨rfl, rfl⟩⟩, fun q hq => by simp [Value.ownBlock] at hq, hL3, Upd.refl _ _⟩
      case round =>
        clear hL3
        obtain ⟨j, hj, rfl, hown, hob, hLy, hUy⟩ := hrel
        rename World => wy
        have zy := hUy.size
        have hgy : wy.heap[w.heap.size]? = some (.cells cs 79 (0, 0)) := (hUy.block _ (by omega) (by omega)).trans hg3
        by_cases hlt : j < k
        · have hCy := hC3.upd hUy (by omega)
          have hcj := hCy.cell hlt
          have hxb := Hok.out.2 j hlt
          have hgj : wy.cell? ⟨w.heap.size, j, none⟩ = some (lnk s j) := by rw [cell_of_row wy w.heap.size j _ _ (0, 0) hgy]; exact Hcs.out j hlt
          have Hnx := Lib.hid (fun (i : Nat) => (show nxT has i (j + 1) = if has[j]?.getD 0 = (i : Int) then some j else nxT has i j from rfl))
          have Hlo := Lib.hid (show lowL has (j + 1) = if has[j]?.getD 0 < 0 then lowL has j ++ [j] else lowL has j from rfl)
          have Hll := Lib.hid (lowL_len has j)
          have hl6 : (lowL has j).length ≤ 6 := by rw [lowL_len]; have := noneTo_le has j; omega
          generalize has[j]?.getD 0 = x at *
          by_cases hx : x = -1
          · subst hx
            have Hlo2 := Lib.hid (Hlo.out.trans (if_pos (by omega)))
            have Hnx2 := Lib.hid (fun (i : Nat) => (Hnx.out i).trans (if_neg (by omega)))
            go_wp2_with (at_builtin; go_loud (refine wpList_append1 _ rfl (.tmp 33) (.tmp 38) _ rfl w.heap.size 79 i0 _ 8 Try.underlying77 hi0 hz0 hz1 hz2 rfl _ (lowL has j).length _ rfl (hown.alloc _) wy.heap.size 1 (lnk s j) rfl (cell_new _ _ _) rfl (by omega) (by omega) (by simp; omega) ?_); rintro v' w' hown' hg' hv')
            have hUg : Upd (fun q => w3.heap.size ≤ q) wy w' := ((Upd.refl (fun q => w3.heap.size ≤ q) wy).alloc _).grown hg' (fun q hq => .inr (hob q hq))
            have hUn : Upd (fun q => s ≤ q ∧ q < s + k) w3 w' := (hUy.alloc _).grown hg' (fun q hq => .inl (hob q hq))
            have hLn := hLy.upd hUg (fun i hi => by omega)
            go_roundw
            case rel =>
              refine ⟨j + 1, by omega, by go_num, by rw [Hlo2.out, List.length_append, List.map_append]; exact hown', fun q hq => ?_, fun i hi => by simp only [Hnx2.out]; exact hLn i hi, hUn⟩
              rcases hv' with e | e
              · exact hob q (e ▸ hq)
              · rw [e] at hq
                simp at hq
                omega
            case measure => simp [intOf]; omega
          · obtain ⟨low, rfl⟩ := Int.eq_ofNat_of_zero_le (show 0 ≤ x by omega)
            have hlk : low < k := by omega
            have Hlo2 := Lib.hid (Hlo.out.trans (if_neg (by omega)))
            have hgl : wy.cell? ⟨w.heap.size, low, none⟩ = some (lnk s low) := by rw [cell_of_row wy w.heap.size low _ _ (0, 0) hgy]; exact Hcs.out low hlk
            have hlb := hLy low hlk
            have hlc : wy.cell? ⟨s + low, 1, none⟩ = some (lnkN s (nxT has low j)) := by rw [cell_of_row wy (s + low) 1 _ _ (0, 0) hlb]; rfl
            have hlf : wy.frozen? ⟨s + low, 1, none⟩ = false := frozen_of_row _ _ 1 _ _ hlb
            go_wp2_with fail
            go_region
            all_goals
              go_wp2
              have hUs : Upd (fun q => q = s + low) wy (wy.setCell ⟨s + low, 1, none⟩ (.pointer (some ⟨s + j, 0, none⟩))).drew := ((Upd.refl (fun q => q = s + low) wy).setCell (p := ⟨s + low, 1, none⟩) (.inr rfl) _).drew
              have hbl : (wy.setCell ⟨s + low, 1, none⟩ (.pointer (some ⟨s + j, 0, none⟩))).drew.heap[s + low]? = some (.cells #[.int .i64 (low : Int), lnk s j] 108 (0, 0)) := by
                show (wy.setCell ⟨s + low, 1, none⟩ (.pointer (some ⟨s + j, 0, none⟩))).heap[s + low]? = _
                simp [World.setCell, Array.getElem?_modify, hlb]
              go_roundw
              case rel =>
                refine ⟨j + 1, by omega, by go_num, by rw [Hlo2.out]; exact ownP_keep hown hUs (fun q hq e => by have := hob q hq; omega), hob, fun i hi => ?_, hUy.trans' hUs (fun i hi e => by omega)⟩
                by_cases hil : i = low
                · subst hil
                  simp only [Hnx.out]
                  rw [if_pos trivial]
                  exact hbl
                · simp only [Hnx.out]
                  rw [if_neg (by omega)]
                  exact (hUs.block _ (Array.getElem?_eq_some_iff.1 (hLy i hi)).1 (by omega)).trans (hLy i hi)
              case measure => simp [intOf]; omega
        · obtain rfl : j = k := by omega
          rw [← HH.out] at hown hLy
          go_wp2_with fail
          go_ret
          exact ⟨s, _, rfl, by omega, hown, hLy, hB13.trans (hUy.toBelow (B := w.heap.size) (fun q hq => by omega) (by omega))⟩
end Go.Proofs.Ytghogabmkbadjab

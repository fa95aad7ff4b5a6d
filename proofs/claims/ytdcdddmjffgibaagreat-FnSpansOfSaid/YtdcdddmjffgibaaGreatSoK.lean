/- The order of spans: rows read as spans by the program. -/
import Derived.Test.YtdcdddmjffgibaaGreatSoJ
set_option linter.unusedVariables false
set_option linter.unusedSimpArgs false
namespace Go.Proofs.YtdcdddmjffgibaaGreat
open Go.RowKit Go.Shelf
attribute [local go_sem] Oper.semAt_some

def fsS (rs : List (List Int)) : List Int := (List.range rs.length).map (sF rs)
def lsS (rs : List (List Int)) : List Int := (List.range rs.length).map (sL rs)
theorem fsS_len (rs : List (List Int)) : (fsS rs).length = rs.length := by simp [fsS]
theorem lsS_len (rs : List (List Int)) : (lsS rs).length = rs.length := by simp [lsS]
theorem fsS_get (rs : List (List Int)) {i : Nat} (h : i < rs.length) : (fsS rs)[i]?.getD 0 = sF rs i := by simp [fsS, h]
theorem lsS_get (rs : List (List Int)) {i : Nat} (h : i < rs.length) : (lsS rs)[i]?.getD 0 = sL rs i := by simp [lsS, h]
theorem spS_get (rs : List (List Int)) {i : Nat} (h : i < rs.length) : (flS (fsS rs) (lsS rs))[i * 2]?.getD 0 = sF rs i ∧ (flS (fsS rs) (lsS rs))[i * 2 + 1]?.getD 0 = sL rs i := by
  have := flS_get (fsS rs) (lsS rs) (i := i) (by rw [fsS_len]; exact h)
  rwa [fsS_get rs h, lsS_get rs h] at this

def ReadsSp (w : World) (n : Nat) (rs : List (List Int)) (e : Ending) (w' : World) : Prop :=
  Below w.heap.size w w' ∧ ((soB rs = false ∧ e = .returned (.tuple #[.slice none 0 0, .bool false])) ∨ (soB rs = true ∧ ∃ b, e = .returned (.tuple #[.slice (some ⟨b, 0, none⟩) n n, .bool true]) ∧ w.heap.size ≤ b ∧ Arr w' b 69 (flS (fsS rs) (lsS rs))))

set_option maxRecDepth 100000 in
set_option maxHeartbeats 4000000 in
theorem readSpans_any (A : Option Addr) (n c : Nat) (rs : List (List Int)) (w : World) (h : IntsS w w.heap.size A n rs) (hn : n ≤ 1048576) (hr : ∀ r ∈ rs, r.length ≤ 1048576) :
    Calls Tryz.prog 33 #[.slice A n c] w (ReadsSp w n rs) := by
  have Hlen := Lib.hid h.len
  by_cases hn6 : n ≤ 6
  · have hmk := run_make_span n hn6
    have hSl : (flS (fsS rs) (lsS rs)).length = n * 2 := by rw [flS_len, fsS_len, Hlen.out]
    have HSl := Lib.hid hSl
    clear hSl
    go_enter Tryz.func33, Tryz.ntmps33
    go_wp2_with fail
    have hA4 := Arr.new2 w 69 n
    have hB4 : Upd (fun _ => False) w (w.alloc (.cells (madeCells #[.int .i64 0, .int .i64 0] (n * 2)) 69)) := (Upd.refl _ _).alloc _
    have Z4 := Lib.hid (show (w.alloc (.cells (madeCells #[.int .i64 0, .int .i64 0] (n * 2)) 69)).heap.size = w.heap.size + 1 by simp)
    obtain ⟨W4, hW4⟩ : ∃ W4, w.alloc (.cells (madeCells #[.int .i64 0, .int .i64 0] (n * 2)) 69) = W4 := ⟨_, rfl⟩
    rw [hW4] at hA4 hB4 Z4 ⊢
    clear hW4 hmk
    go_loopw [17] (fun i wr => ∃ k : Nat, k ≤ n ∧ i = .int .i64 k ∧ (rs.take k).all spanOk = true ∧ Arr wr w.heap.size 69 (copied (flS (fsS rs) (lsS rs)) (n * 2) (k * 2)) ∧ Upd (fun q => q = w.heap.size) W4 wr) (fun i _ => n - (intOf i).toNat)
    case atStart => exact ⟨0, by omega, rfl, rfl, by rw [Nat.zero_mul, copied_zero]; exact hA4, Upd.refl _ _⟩
    case round =>
      obtain ⟨k, hk, rfl, hall, hAr, hU⟩ := hrel
      rename World => wr
      have Hall := Lib.hid hall
      clear hall
      have zU := hU.size
      have hB5 : Below w.heap.size w wr := ((hB4.mono fun _ _ e => e.elim).trans' hU (fun i hi e => e)).toBelow (R := fun q => q = w.heap.size) (fun k e => by omega) (Nat.le_refl _)
      by_cases hlt : k < n
      · have hkl : k < rs.length := by rw [Hlen.out]; exact hlt
        have Hno := Lib.hid (fun (hx : spanOk rs[k] = false) => (show soB rs = false by unfold soB; rw [all_not hkl hx]; rfl))
        have Hye := Lib.hid (fun (hx : spanOk rs[k] = true) => all_take_snoc hkl Hall.out hx)
        have hrk := hr rs[k] (List.getElem_mem hkl)
        obtain ⟨hg0, hg1⟩ := spS_get rs hkl
        have Hcp := Lib.hid (copied_two HSl.out hlt hg0 hg1)
        clear hg0 hg1
        have HsF := Lib.hid (show sF rs k = rs[k][0]?.getD 0 by unfold sF; rw [List.getElem?_eq_getElem hkl]; rfl)
        have HsL := Lib.hid (show sL rs k = rs[k][1]?.getD 0 by unfold sL; rw [List.getElem?_eq_getElem hkl]; rfl)
        obtain ⟨b, off, rfl, hb, hc⟩ := (h.below hB5).at_ hlt
        obtain ⟨A', c', hcell, hI⟩ := hc k hlt
        clear hc
        rw [List.getElem?_eq_getElem hkl, Option.getD_some] at hcell hI
        generalize rs[k] = r at *
        clear hkl
        have hI' : Ints wr wr.heap.size A' r.length r := hI.more (by have := hB5.size; omega)
        clear hI
        go_wp2_with fail
        refine (readSpan_any A' r.length c' r wr hI' hrk).mono ?_
        rintro e w5 ⟨x, y, rfl, hxy, hU5⟩
        have z5 := hU5.size
        have hb5 : w.heap.size < wr.heap.size := hAr.lt
        have hAr5 := hAr.upd hU5 (fun e => e)
        have hU6 := hU.trans' hU5 (fun i hi e => e.elim)
        clear hAr hU hU5
        cases hs : spanOk r
        · have Hf := Lib.hid (Hno.out hs)
          clear hs hxy
          go_wp2_with fail
          go_ret2
          exact ⟨(((hB4.mono fun _ _ e => e.elim).trans' (hU6.alloc _) (fun i hi e => e)).toBelow (R := fun q => q = w.heap.size) (fun k e => by omega) (Nat.le_refl _)), Or.inl ⟨Hf.out, rfl⟩⟩
        · have Hf := Lib.hid (Hye.out hs)
          obtain ⟨rfl, rfl⟩ := hxy hs
          clear hs hxy
          rw [HsF.out, HsL.out] at Hcp
          generalize r[0]?.getD 0 = fk at *
          generalize r[1]?.getD 0 = lk at *
          have hAr7 := hAr5.alloc (.cells #[.int .i64 fk, .int .i64 lk] 69)
          have hU7 := hU6.alloc (.cells #[.int .i64 fk, .int .i64 lk] 69)
          have Hcl := Lib.hid (copied_len HSl.out (show k * 2 ≤ n * 2 by omega))
          have hc0 := hAr7.cell (k := k * 2) (by rw [Hcl.out]; omega)
          have hc1 := hAr7.cell (k := k * 2 + 1) (by rw [Hcl.out]; omega)
          have hf0 := hAr7.frozen (k * 2)
          have hf1 := hAr7.frozen (k * 2 + 1)
          go_wp2_with fail
          go_roundw
          case rel => exact ⟨k + 1, by omega, by go_num, Hf.out, by rw [← Hcp.out]; exact (hAr7.set _ _).set _ _, (hU7.setCell (p := ⟨w.heap.size, k * 2, none⟩) (.inr rfl) _).setCell (p := ⟨w.heap.size, k * 2 + 1, none⟩) (.inr rfl) _⟩
          case measure => simp [intOf]; omega
      · obtain rfl : k = n := by omega
        have Hfull := Lib.hid (copied_full HSl.out)
        have Hso := Lib.hid (show soB rs = true by
          have h1 := Hall.out
          rw [List.take_of_length_le (by rw [Hlen.out]; exact Nat.le_refl _)] at h1
          unfold soB
          rw [h1, Hlen.out, decide_eq_true hn6]; rfl)
        go_wp2
        go_ret2
        exact ⟨hB5, Or.inr ⟨Hso.out, w.heap.size, rfl, Nat.le_refl _, by rw [← Hfull.out]; exact hAr⟩⟩
  · have Hso := Lib.hid (show soB rs = false by unfold soB; rw [Hlen.out, decide_eq_false hn6, Bool.and_false])
    go_enter Tryz.func33, Tryz.ntmps33
    go_wp2
    go_ret2
    exact ⟨Below.refl _ _, Or.inl ⟨Hso.out, rfl⟩⟩
end Go.Proofs.YtdcdddmjffgibaaGreat

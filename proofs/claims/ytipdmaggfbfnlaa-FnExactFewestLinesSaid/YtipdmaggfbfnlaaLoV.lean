/- LinesOrder: the model's, whole. -/
import Derived.Test.YtipdmaggfbfnlaaLoS
import Derived.Test.YtipdmaggfbfnlaaRowV
import Derived.Test.YtipdmaggfbfnlaaGa
import Derived.Test.YtipdmaggfbfnlaaGd
set_option linter.unusedVariables false
set_option linter.unusedSimpArgs false
namespace Go.Proofs.Ytipdmaggfbfnlaa
open Go.RowKit Go.Shelf
attribute [local go_sem] Oper.semAt_some
attribute [local go_sem, local simp] wide_fn

def lnsB (n : Nat) (rs : List (List Int)) : Bool := rs.all (lineB (zr n)) && decide (0 < rs.length)
theorem lnsB_no {n : Nat} {rs : List (List Int)} {k : Nat} (hk : k < rs.length) (h : lineB (zr n) (rs[k]?.getD []) = false) : lnsB n rs = false := by
  unfold lnsB
  rw [List.getElem?_eq_getElem hk, Option.getD_some] at h
  have : rs.all (lineB (zr n)) = false := by
    rw [Bool.eq_false_iff]
    intro ha
    rw [List.all_eq_true.1 ha _ (List.getElem_mem hk)] at h
    cases h
  rw [this]; rfl
theorem lnsB_yes {n m : Nat} {rs : List (List Int)} (hl : rs.length = m) (h : ∀ a, a < m → lineB (zr n) (rs[a]?.getD []) = true) : lnsB n rs = decide ((m : Int) ≥ 1) := by
  unfold lnsB
  have : rs.all (lineB (zr n)) = true := by
    rw [List.all_eq_true]
    intro r hr
    obtain ⟨i, hi, rfl⟩ := List.getElem_of_mem hr
    have := h i (by omega)
    rwa [List.getElem?_eq_getElem hi] at this
  rw [this, Bool.true_and, hl, decide_eq_decide]
  omega
theorem lnOk_in {n : Nat} {rs : List (List Int)} (hn : n ≤ 6) : lnOk (n : Int) rs = lnsB n rs := by
  unfold lnOk lnsB
  rw [show inB (n : Int) 0 6 = true by simp [inB]; omega, Bool.true_and, Int.toNat_natCast]

set_option maxRecDepth 100000 in
set_option maxHeartbeats 4000000 in
theorem validLines_any (n : Nat) (A : Option Addr) (m c : Nat) (rs : List (List Int)) (w : World) (h : IntsS w w.heap.size A m rs) (hn6 : n ≤ 6) (hm : m ≤ 1048576) (hr : ∀ r ∈ rs, r.length ≤ 1048576) :
    Calls Try.prog 93 #[.int .i64 (n : Int), .slice A m c] w fun e w' => e = .returned (.bool (lnsB n rs)) ∧ Below w.heap.size w w' := by
  have hlen := Lib.hid h.len
  have hmk := run_make_row' (P := Try.prog) 22 3 (.int .i64 0) 8 Try.underlying22 infoInt rfl .i64 .i64 n (by omega) (by omega)
  go_enter Try.func93, Try.ntmps93
  go_wp2
  go_loopw [5] (fun i wr => ∃ k : Nat, k ≤ m ∧ i = .int .i64 k ∧ (∀ a, a < k → lineB (zr n) (rs[a]?.getD []) = true) ∧ Below w.heap.size w wr) (fun i _ => m - (intOf i).toNat)
  case atStart => exact ⟨0, by omega, rfl, fun a ha => by omega, Below.refl _ _⟩
  case round =>
    obtain ⟨k, hk, rfl, hok, hB⟩ := hrel
    rename World => wr
    have Hok := Lib.hid hok
    clear hok
    by_cases hlt : k < m
    · have hkl := Lib.hid (show k < rs.length by rw [hlen.out]; exact hlt)
      have zB := hB.size
      obtain ⟨b0, off, rfl, hb0, hc⟩ := (h.below hB).at_ hlt
      obtain ⟨A', c', hcell, hI⟩ := hc k hlt
      clear hc
      have hml : (rs[k]?.getD []).length ≤ 1048576 := by
        rw [List.getElem?_eq_getElem hkl.out]
        exact hr _ (List.getElem_mem _)
      have hno := fun e => lnsB_no (n := n) hkl.out e
      have Hno := Lib.hid hno
      clear hno
      generalize hrr : rs[k]?.getD [] = r at *
      have Hrr := Lib.hid hrr
      clear hrr
      have hA1 : Arr (wr.alloc (.cells (madeCells #[.int .i64 0] n) 3)) wr.heap.size 3 (zr n) := Arr.new wr 3 n
      have hB1 : Below w.heap.size w (wr.alloc (.cells (madeCells #[.int .i64 0] n) 3)) := hB.alloc zB _
      have hI1 : Ints (wr.alloc (.cells (madeCells #[.int .i64 0] n) 3)) w.heap.size A' r.length r := hI.below ((Below.refl w.heap.size wr).alloc zB _)
      have hz1 : (wr.alloc (.cells (madeCells #[.int .i64 0] n) 3)).heap.size = wr.heap.size + 1 := by simp
      have hIA : Ints (wr.alloc (.cells (madeCells #[.int .i64 0] n) 3)) (wr.alloc (.cells (madeCells #[.int .i64 0] n) 3)).heap.size (some ⟨wr.heap.size, 0, none⟩) n (zr n) := hA1.ints' (by rw [hz1]; omega) (zr_len n)
      have hIB : Ints (wr.alloc (.cells (madeCells #[.int .i64 0] n) 3)) (wr.alloc (.cells (madeCells #[.int .i64 0] n) 3)).heap.size A' r.length r := hI1.more (by rw [hz1]; omega)
      have hcall := sisLine_any (some ⟨wr.heap.size, 0, none⟩) n n (zr n) A' r.length c' r (zr_vo hn6) (wr.alloc (.cells (madeCells #[.int .i64 0] n) 3)).drew hIA hIB (by omega)
      have hcell1 : (wr.alloc (.cells (madeCells #[.int .i64 0] n) 3)).drew.cell? ⟨b0, off + k, none⟩ = some (.slice A' r.length c') := (((Below.refl w.heap.size wr).alloc zB (.cells (madeCells #[.int .i64 0] n) 3)).cell (p := ⟨b0, off + k, none⟩) hb0).trans hcell
      have Hcell1 := Lib.hid hcell1
      clear hcell1
      have Hcall := Lib.hid hcall
      have HB1 := Lib.hid hB1
      clear hIA hIB hI1 hA1 hcall hB1
      cases hl : lineB (zr n) r
      · have Ht := Lib.hid (Hno.out hl)
        have Hl := Lib.hid hl
        clear hl
        go_wp2
        have hcd : wr.drew.cell? ⟨b0, off + k, none⟩ = some (.slice A' r.length c') := hcell
        refine region_T (S := (fun w' => w'.cell? ⟨b0, off + k, none⟩ = some (.slice A' r.length c'))) 7 (by kernel_rfl) ?_
        have hSd : (fun w' => w'.cell? ⟨b0, off + k, none⟩ = some (.slice A' r.length c')) wr.drew := hcd
        refine anyT_take (i := 0) (oi := ?oi0a) (v := .int .i64 (n : Int)) ?hi0a (by kernel_rfl) ?hq0a ?hy0a (by assumption) ?rest0a
        case hi0a => (simp only [List.getElem?_toArray, List.getElem?_cons_zero]; first | done | rfl)
        case hq0a => first | exact fun _ _ _ h => h | exact fun _ _ _ h => (by cases h.1)
        case hy0a => (refine Or.inl ⟨by rfl, ?_⟩; intro wz hSw; go_simp; first | done | with_reducible rfl | simp | omega)
        try simp only [Act.put, List.setIfInBounds_toArray, List.set_cons_zero, List.set_cons_succ]
        refine anyT_take (i := 2) (oi := ?oi2a) (v := .slice (some ⟨b0, off, none⟩) m c) ?hi2a (by kernel_rfl) ?hq2a ?hy2a (by assumption) ?rest2a
        case hi2a => (simp only [List.getElem?_toArray, List.getElem?_cons_succ, List.getElem?_cons_zero]; first | done | rfl)
        case hq2a => first | exact fun _ _ _ h => h | exact fun _ _ _ h => (by cases h.1)
        case hy2a => (refine Or.inl ⟨by rfl, ?_⟩; intro wz hSw; go_simp; first | done | with_reducible rfl | simp | omega)
        try simp only [Act.put, List.setIfInBounds_toArray, List.set_cons_zero, List.set_cons_succ]
        refine anyT_take (i := 3) (oi := ?oi3a) (v := .int .i64 (k : Int)) ?hi3a (by kernel_rfl) ?hq3a ?hy3a (by assumption) ?rest3a
        case hi3a => (simp only [List.getElem?_toArray, List.getElem?_cons_succ, List.getElem?_cons_zero]; first | done | rfl)
        case hq3a => first | exact fun _ _ _ h => h | exact fun _ _ _ h => (by cases h.1)
        case hy3a => (refine Or.inl ⟨by rfl, ?_⟩; intro wz hSw; go_simp; first | done | with_reducible rfl | simp | omega)
        try simp only [Act.put, List.setIfInBounds_toArray, List.set_cons_zero, List.set_cons_succ]
        refine anyT_take (i := 4) (oi := ?oi4a) (v := .pointer (some ⟨b0, off + k, none⟩)) ?hi4a (by kernel_rfl) ?hq4a ?hy4a (by assumption) ?rest4a
        case hi4a => (simp only [List.getElem?_toArray, List.getElem?_cons_succ, List.getElem?_cons_zero]; first | done | rfl)
        case hq4a => first | exact fun _ _ _ h => h | exact fun _ _ _ h => (by cases h.1)
        case hy4a => (refine Or.inl ⟨by rfl, ?_⟩; intro wz hSw; go_simp; first | done | with_reducible rfl | simp | omega)
        try simp only [Act.put, List.setIfInBounds_toArray, List.set_cons_zero, List.set_cons_succ]
        refine anyT_take (i := 5) (oi := ?oi5a) (v := .slice A' r.length c') ?hi5a (by kernel_rfl) ?hq5a ?hy5a (by assumption) ?rest5a
        case hi5a => (simp only [List.getElem?_toArray, List.getElem?_cons_succ, List.getElem?_cons_zero]; first | done | rfl)
        case hq5a => first | exact fun _ _ _ h => h | exact fun _ _ _ h => (by cases h.1)
        case hy5a => (refine Or.inl ⟨by rfl, ?_⟩; intro wz hSw; go_simp; first | done | with_reducible rfl | simp | omega)
        try simp only [Act.put, List.setIfInBounds_toArray, List.set_cons_zero, List.set_cons_succ]
        refine anyT_one (i := 1) (by kernel_rfl) rfl (fun K' hK => ?_)
        go_simp
        refine hK.out _ _ (fun _ => Hcell1.out) ?_
        clear hK K'
        try simp only [Act.put, List.setIfInBounds_toArray, List.set_cons_zero, List.set_cons_succ]
        refine anyT_one (i := 6) (by kernel_rfl) rfl (fun K' hK => ?_)
        go_simp
        refine Hcall.out.mono ?_
        rintro e w2 ⟨rfl, hB2⟩
        rw [Hl.out]
        have hS2 : w2.cell? ⟨b0, off + k, none⟩ = some (.slice A' r.length c') := (hB2.cell (p := ⟨b0, off + k, none⟩) (by show b0 < (wr.alloc _).heap.size; rw [hz1]; omega)).trans Hcell1.out
        have hC2 : Below w.heap.size w w2 := HB1.out.drew.trans (hB2.mono (by show w.heap.size ≤ (wr.alloc _).heap.size; rw [hz1]; omega))
        refine hK.out _ _ (fun _ => hS2) ?_
        clear hK K'
        try simp only [Act.put, List.setIfInBounds_toArray, List.set_cons_zero, List.set_cons_succ]
        refine anyT_one (i := 7) (by kernel_rfl) rfl (fun K' hK => ?_)
        go_simp
        refine hK.out _ _ (fun h => absurd rfl h) ?_
        clear hK K'
        try simp only [Act.put, List.setIfInBounds_toArray, List.set_cons_zero, List.set_cons_succ]
        refine anyT_done (by kernel_rfl) ?_ _
        go_wp2
        go_ret
        exact ⟨ret_bool Ht.out.symm, hC2⟩
      · have Hl := Lib.hid hl
        clear hl
        go_wp2
        have hcd : wr.drew.cell? ⟨b0, off + k, none⟩ = some (.slice A' r.length c') := hcell
        refine region_T (S := (fun w' => w'.cell? ⟨b0, off + k, none⟩ = some (.slice A' r.length c'))) 7 (by kernel_rfl) ?_
        have hSd : (fun w' => w'.cell? ⟨b0, off + k, none⟩ = some (.slice A' r.length c')) wr.drew := hcd
        refine anyT_take (i := 0) (oi := ?oi0b) (v := .int .i64 (n : Int)) ?hi0b (by kernel_rfl) ?hq0b ?hy0b (by assumption) ?rest0b
        case hi0b => (simp only [List.getElem?_toArray, List.getElem?_cons_zero]; first | done | rfl)
        case hq0b => first | exact fun _ _ _ h => h | exact fun _ _ _ h => (by cases h.1)
        case hy0b => (refine Or.inl ⟨by rfl, ?_⟩; intro wz hSw; go_simp; first | done | with_reducible rfl | simp | omega)
        try simp only [Act.put, List.setIfInBounds_toArray, List.set_cons_zero, List.set_cons_succ]
        refine anyT_take (i := 2) (oi := ?oi2b) (v := .slice (some ⟨b0, off, none⟩) m c) ?hi2b (by kernel_rfl) ?hq2b ?hy2b (by assumption) ?rest2b
        case hi2b => (simp only [List.getElem?_toArray, List.getElem?_cons_succ, List.getElem?_cons_zero]; first | done | rfl)
        case hq2b => first | exact fun _ _ _ h => h | exact fun _ _ _ h => (by cases h.1)
        case hy2b => (refine Or.inl ⟨by rfl, ?_⟩; intro wz hSw; go_simp; first | done | with_reducible rfl | simp | omega)
        try simp only [Act.put, List.setIfInBounds_toArray, List.set_cons_zero, List.set_cons_succ]
        refine anyT_take (i := 3) (oi := ?oi3b) (v := .int .i64 (k : Int)) ?hi3b (by kernel_rfl) ?hq3b ?hy3b (by assumption) ?rest3b
        case hi3b => (simp only [List.getElem?_toArray, List.getElem?_cons_succ, List.getElem?_cons_zero]; first | done | rfl)
        case hq3b => first | exact fun _ _ _ h => h | exact fun _ _ _ h => (by cases h.1)
        case hy3b => (refine Or.inl ⟨by rfl, ?_⟩; intro wz hSw; go_simp; first | done | with_reducible rfl | simp | omega)
        try simp only [Act.put, List.setIfInBounds_toArray, List.set_cons_zero, List.set_cons_succ]
        refine anyT_take (i := 4) (oi := ?oi4b) (v := .pointer (some ⟨b0, off + k, none⟩)) ?hi4b (by kernel_rfl) ?hq4b ?hy4b (by assumption) ?rest4b
        case hi4b => (simp only [List.getElem?_toArray, List.getElem?_cons_succ, List.getElem?_cons_zero]; first | done | rfl)
        case hq4b => first | exact fun _ _ _ h => h | exact fun _ _ _ h => (by cases h.1)
        case hy4b => (refine Or.inl ⟨by rfl, ?_⟩; intro wz hSw; go_simp; first | done | with_reducible rfl | simp | omega)
        try simp only [Act.put, List.setIfInBounds_toArray, List.set_cons_zero, List.set_cons_succ]
        refine anyT_take (i := 5) (oi := ?oi5b) (v := .slice A' r.length c') ?hi5b (by kernel_rfl) ?hq5b ?hy5b (by assumption) ?rest5b
        case hi5b => (simp only [List.getElem?_toArray, List.getElem?_cons_succ, List.getElem?_cons_zero]; first | done | rfl)
        case hq5b => first | exact fun _ _ _ h => h | exact fun _ _ _ h => (by cases h.1)
        case hy5b => (refine Or.inl ⟨by rfl, ?_⟩; intro wz hSw; go_simp; first | done | with_reducible rfl | simp | omega)
        try simp only [Act.put, List.setIfInBounds_toArray, List.set_cons_zero, List.set_cons_succ]
        refine anyT_one (i := 1) (by kernel_rfl) rfl (fun K' hK => ?_)
        go_simp
        refine hK.out _ _ (fun _ => Hcell1.out) ?_
        clear hK K'
        try simp only [Act.put, List.setIfInBounds_toArray, List.set_cons_zero, List.set_cons_succ]
        refine anyT_one (i := 6) (by kernel_rfl) rfl (fun K' hK => ?_)
        go_simp
        refine Hcall.out.mono ?_
        rintro e w2 ⟨rfl, hB2⟩
        rw [Hl.out]
        have hS2 : w2.cell? ⟨b0, off + k, none⟩ = some (.slice A' r.length c') := (hB2.cell (p := ⟨b0, off + k, none⟩) (by show b0 < (wr.alloc _).heap.size; rw [hz1]; omega)).trans Hcell1.out
        have hC2 : Below w.heap.size w w2 := HB1.out.drew.trans (hB2.mono (by show w.heap.size ≤ (wr.alloc _).heap.size; rw [hz1]; omega))
        refine hK.out _ _ (fun _ => hS2) ?_
        clear hK K'
        try simp only [Act.put, List.setIfInBounds_toArray, List.set_cons_zero, List.set_cons_succ]
        refine anyT_one (i := 7) (by kernel_rfl) rfl (fun K' hK => ?_)
        go_simp
        refine hK.out _ _ (fun h => absurd rfl h) ?_
        clear hK K'
        try simp only [Act.put, List.setIfInBounds_toArray, List.set_cons_zero, List.set_cons_succ]
        refine anyT_done (by kernel_rfl) ?_ _
        go_wp2
        go_roundw
        case rel => exact ⟨k + 1, by omega, by go_num, all_snoc Hok.out (by rw [Hrr.out]; exact Hl.out), hC2⟩
        case measure => simp [intOf]; omega
    · obtain rfl : k = m := by omega
      have Ht := Lib.hid (lnsB_yes hlen.out Hok.out)
      go_wp2
      go_ret
      exact ⟨ret_bool Ht.out.symm, hB⟩

/-- What LinesOrder gives. -/
def GivesLn (w : World) (n : Int) (rs : List (List Int)) (e : Ending) (w' : World) : Prop :=
  ∃ A m c, e = .returned (.tuple #[.slice A m c, .bool (lnOk n rs)]) ∧ Row w' w.heap.size w'.heap.size A m (lnR n rs) ∧ Below w.heap.size w w'
theorem none_ln {w w' : World} {n : Int} {rs : List (List Int)} (h : lnOk n rs = false) (hB : Below w.heap.size w w') : GivesLn w n rs (.returned (.tuple #[.slice none 0 0, .bool false])) w' :=
  ⟨none, 0, 0, by rw [h], by rw [lnR, h]; exact Row.nil _ _ _ _, hB⟩

set_option maxRecDepth 100000 in
set_option maxHeartbeats 2000000 in
theorem specLinesOrder_any (n : Int) (A : Option Addr) (m c : Nat) (rs : List (List Int)) (w : World) (h : IntsS w w.heap.size A m rs) (hm : m ≤ 1048576) (hr : ∀ r ∈ rs, r.length ≤ 1048576) :
    Calls Try.prog 42 #[.int .i64 n, .slice A m c] w (GivesLn w n rs) := by
  cases hin : inB n 0 6
  · have Ho := Lib.hid (show lnOk n rs = false by simp [lnOk, hin])
    have Hin := Lib.hid hin
    clear hin
    go_enter Try.func42, Try.ntmps42
    go_wp2_with fail
    refine (inRange_any _ _ _ _).mono ?_
    rw [Hin.out]
    rintro e w' ⟨rfl, rfl⟩
    go_wp2_with fail
    go_ret2
    exact none_ln Ho.out (Below.refl _ _)
  · have Hin := Lib.hid hin
    have hnn := inB_iff.1 hin
    clear hin
    obtain ⟨N, rfl⟩ := Int.eq_ofNat_of_zero_le hnn.1
    have hN : N ≤ 6 := by omega
    clear hnn
    have Hok := Lib.hid (lnOk_in (rs := rs) hN)
    cases hl : lnsB N rs
    · have Hl := Lib.hid hl
      have Ho := Lib.hid (show lnOk (N : Int) rs = false by rw [Hok.out]; exact hl)
      clear hl
      go_enter Try.func42, Try.ntmps42
      go_wp2_with fail
      refine (inRange_any _ _ _ _).mono ?_
      rw [Hin.out]
      rintro e w' ⟨rfl, rfl⟩
      go_wp2_with fail
      refine (validLines_any N A m c rs _ h hN hm hr).mono ?_
      rw [Hl.out]
      rintro e w1 ⟨rfl, hB1⟩
      go_wp2_with fail
      go_ret2
      exact none_ln Ho.out hB1
    · have Hl := Lib.hid hl
      have Ho := Lib.hid (show lnOk (N : Int) rs = true by rw [Hok.out]; exact hl)
      clear hl
      go_enter Try.func42, Try.ntmps42
      go_wp2_with fail
      refine (inRange_any _ _ _ _).mono ?_
      rw [Hin.out]
      rintro e w' ⟨rfl, rfl⟩
      go_wp2_with fail
      refine (validLines_any N A m c rs _ h hN hm hr).mono ?_
      rw [Hl.out]
      rintro e w1 ⟨rfl, hB1⟩
      have z1 := hB1.size
      go_wp2_with fail
      refine (meetLines_any N A m c rs _ ((h.below hB1).more z1) hN hm hr).mono ?_
      rintro e w2 ⟨rfl, hA2, hB2⟩
      go_wp2_with fail
      go_ret2
      exact ⟨_, N, N, by rw [Ho.out]; rfl, by rw [lnR, Ho.out]; exact (Row.of hA2 (meL_len N rs) (by omega) hA2.lt), hB1.trans (hB2.mono z1)⟩
end Go.Proofs.Ytipdmaggfbfnlaa

/- Texts that several claims share, one behind the other. -/
import Derived.Test.YtghogabmkbadjabGxb
import Derived.Test.YtghogabmkbadjabGxc
import Derived.Test.YtghogabmkbadjabGa
import Derived.Test.YtghogabmkbadjabGd
import Derived.Test.YtghogabmkbadjabSdN
set_option linter.unusedVariables false
set_option linter.unusedSimpArgs false
/- LinesOrder: the model's, whole. -/
namespace Go.Proofs.Ytghogabmkbadjab
open Go.RowKit Go.Shelf
attribute [local go_sem] Oper.semAt_some
attribute [local go_sem, local simp] wide_fn

def lnsB (n : Nat) (rs : List (List Int)) : Bool := rs.all (lineB (zr n)) && decide (0 < rs.length)
theorem lnsB_no {n : Nat} {rs : List (List Int)} {k : Nat} (hk : k < rs.length) (h : lineB (zr n) (rs[k]?.getD []) = false) : lnsB n rs = false := by
  unfold lnsB
  rw [List.getElem?_eq_getElem hk, Option.getD_some] at h
  have : rs.all (lineB (zr n)) = false := by
    rw [Bool.eq_false_iff]
    intro ha
    rw [List.all_eq_true.1 ha _ (List.getElem_mem hk)] at h
    cases h
  rw [this]; rfl
theorem lnsB_yes {n m : Nat} {rs : List (List Int)} (hl : rs.length = m) (h : ∀ a, a < m → lineB (zr n) (rs[a]?.getD []) = true) : lnsB n rs = decide ((m : Int) ≥ 1) := by
  unfold lnsB
  have : rs.all (lineB (zr n)) = true := by
    rw [List.all_eq_true]
    intro r hr
    obtain ⟨i, hi, rfl⟩ := List.getElem_of_mem hr
    have := h i (by omega)
    rwa [List.getElem?_eq_getElem hi] at this
  rw [this, Bool.true_and, hl, decide_eq_decide]
  omega
theorem lnOk_in {n : Nat} {rs : List (List Int)} (hn : n ≤ 6) : lnOk (n : Int) rs = lnsB n rs := by
  unfold lnOk lnsB
  rw [show inB (n : Int) 0 6 = true by simp [inB]; omega, Bool.true_and, Int.toNat_natCast]

set_option maxRecDepth 100000 in
set_option maxHeartbeats 4000000 in
theorem validLines_any (n : Nat) (A : Option Addr) (m c : Nat) (rs : List (List Int)) (w : World) (h : IntsS w w.heap.size A m rs) (hn6 : n ≤ 6) (hm : m ≤ 1048576) (hr : ∀ r ∈ rs, r.length ≤ 1048576) :
    Calls Try.prog 87 #[.int .i64 (n : Int), .slice A m c] w fun e w' => e = .returned (.bool (lnsB n rs)) ∧ Below w.heap.size w w' := by
  have hlen := Lib.hid h.len
  have hmk := run_make_row' (P := Try.prog) 22 3 (.int .i64 0) 8 Try.underlying22 infoInt rfl .i64 .i64 n (by omega) (by omega)
  go_enter Try.func87, Try.ntmps87
  go_wp2
  go_loopw [5] (fun i wr => ∃ k : Nat, k ≤ m ∧ i = .int .i64 k ∧ (∀ a, a < k → lineB (zr n) (rs[a]?.getD []) = true) ∧ Below w.heap.size w wr) (fun i _ => m - (intOf i).toNat)
  case atStart => exact ⟨0, by omega, rfl, fun a ha => by omega, Below.refl _ _⟩
  case round =>
    obtain ⟨k, hk, rfl, hok, hB⟩ := hrel
    rename World => wr
    have Hok := Lib.hid hok
    clear hok
    by_cases hlt : k < m
    · have hkl := Lib.hid (show k < rs.length by rw [hlen.out]; exact hlt)
      have zB := hB.size
      obtain ⟨b0, off, rfl, hb0, hc⟩ := (h.below hB).at_ hlt
      obtain ⟨A', c', hcell, hI⟩ := hc k hlt
      clear hc
      have hml : (rs[k]?.getD []).length ≤ 1048576 := by
        rw [List.getElem?_eq_getElem hkl.out]
        exact hr _ (List.getElem_mem _)
      have hno := fun e => lnsB_no (n := n) hkl.out e
      have Hno := Lib.hid hno
      clear hno
      generalize hrr : rs[k]?.getD [] = r at *
      have Hrr := Lib.hid hrr
      clear hrr
      have hA1 : Arr (wr.alloc (.cells (madeCells #[.int .i64 0] n) 3)) wr.heap.size 3 (zr n) := Arr.new wr 3 n
      have hB1 : Below w.heap.size w (wr.alloc (.cells (madeCells #[.int .i64 0] n) 3)) := hB.alloc zB _
      have hI1 : Ints (wr.alloc (.cells (madeCells #[.int .i64 0] n) 3)) w.heap.size A' r.length r := hI.below ((Below.refl w.heap.size wr).alloc zB _)
      have hz1 : (wr.alloc (.cells (madeCells #[.int .i64 0] n) 3)).heap.size = wr.heap.size + 1 := by simp
      have hIA : Ints (wr.alloc (.cells (madeCells #[.int .i64 0] n) 3)) (wr.alloc (.cells (madeCells #[.int .i64 0] n) 3)).heap.size (some ⟨wr.heap.size, 0, none⟩) n (zr n) := hA1.ints' (by rw [hz1]; omega) (zr_len n)
      have hIB : Ints (wr.alloc (.cells (madeCells #[.int .i64 0] n) 3)) (wr.alloc (.cells (madeCells #[.int .i64 0] n) 3)).heap.size A' r.length r := hI1.more (by rw [hz1]; omega)
      have hcall := sisLine_any (some ⟨wr.heap.size, 0, none⟩) n n (zr n) A' r.length c' r (zr_vo hn6) (wr.alloc (.cells (madeCells #[.int .i64 0] n) 3)).drew hIA hIB (by omega)
      have hcell1 : (wr.alloc (.cells (madeCells #[.int .i64 0] n) 3)).drew.cell? ⟨b0, off + k, none⟩ = some (.slice A' r.length c') := (((Below.refl w.heap.size wr).alloc zB (.cells (madeCells #[.int .i64 0] n) 3)).cell (p := ⟨b0, off + k, none⟩) hb0).trans hcell
      have Hcell1 := Lib.hid hcell1
      clear hcell1
      have Hcall := Lib.hid hcall
      have HB1 := Lib.hid hB1
      clear hIA hIB hI1 hA1 hcall hB1
      cases hl : lineB (zr n) r
      · have Ht := Lib.hid (Hno.out hl)
        have Hl := Lib.hid hl
        clear hl
        go_wp2
        have hcd : wr.drew.cell? ⟨b0, off + k, none⟩ = some (.slice A' r.length c') := hcell
        refine region_T (S := (fun w' => w'.cell? ⟨b0, off + k, none⟩ = some (.slice A' r.length c'))) 7 (by kernel_rfl) ?_
        have hSd : (fun w' => w'.cell? ⟨b0, off + k, none⟩ = some (.slice A' r.length c')) wr.drew := hcd
        refine anyT_take (i := 0) (oi := ?oi0a) (v := .int .i64 (n : Int)) ?hi0a (by kernel_rfl) ?hq0a ?hy0a (by assumption) ?rest0a
        case hi0a => (simp only [List.getElem?_toArray, List.getElem?_cons_zero]; first | done | rfl)
        case hq0a => first | exact fun _ _ _ h => h | exact fun _ _ _ h => (by cases h.1)
        case hy0a => (refine Or.inl ⟨by rfl, ?_⟩; intro wz hSw; go_simp; first | done | with_reducible rfl | simp | omega)
        try simp only [Act.put, List.setIfInBounds_toArray, List.set_cons_zero, List.set_cons_succ]
        refine anyT_take (i := 2) (oi := ?oi2a) (v := .slice (some ⟨b0, off, none⟩) m c) ?hi2a (by kernel_rfl) ?hq2a ?hy2a (by assumption) ?rest2a
        case hi2a => (simp only [List.getElem?_toArray, List.getElem?_cons_succ, List.getElem?_cons_zero]; first | done | rfl)
        case hq2a => first | exact fun _ _ _ h => h | exact fun _ _ _ h => (by cases h.1)
        case hy2a => (refine Or.inl ⟨by rfl, ?_⟩; intro wz hSw; go_simp; first | done | with_reducible rfl | simp | omega)
        try simp only [Act.put, List.setIfInBounds_toArray, List.set_cons_zero, List.set_cons_succ]
        refine anyT_take (i := 3) (oi := ?oi3a) (v := .int .i64 (k : Int)) ?hi3a (by kernel_rfl) ?hq3a ?hy3a (by assumption) ?rest3a
        case hi3a => (simp only [List.getElem?_toArray, List.getElem?_cons_succ, List.getElem?_cons_zero]; first | done | rfl)
        case hq3a => first | exact fun _ _ _ h => h | exact fun _ _ _ h => (by cases h.1)
        case hy3a => (refine Or.inl ⟨by rfl, ?_⟩; intro wz hSw; go_simp; first | done | with_reducible rfl | simp | omega)
        try simp only [Act.put, List.setIfInBounds_toArray, List.set_cons_zero, List.set_cons_succ]
        refine anyT_take (i := 4) (oi := ?oi4a) (v := .pointer (some ⟨b0, off + k, none⟩)) ?hi4a (by kernel_rfl) ?hq4a ?hy4a (by assumption) ?rest4a
        case hi4a => (simp only [List.getElem?_toArray, List.getElem?_cons_succ, List.getElem?_cons_zero]; first | done | rfl)
        case hq4a => first | exact fun _ _ _ h => h | exact fun _ _ _ h => (by cases h.1)
        case hy4a => (refine Or.inl ⟨by rfl, ?_⟩; intro wz hSw; go_simp; first | done | with_reducible rfl | simp | omega)
        try simp only [Act.put, List.setIfInBounds_toArray, List.set_cons_zero, List.set_cons_succ]
        refine anyT_take (i := 5) (oi := ?oi5a) (v := .slice A' r.length c') ?hi5a (by kernel_rfl) ?hq5a ?hy5a (by assumption) ?rest5a
        case hi5a => (simp only [List.getElem?_toArray, List.getElem?_cons_succ, List.getElem?_cons_zero]; first | done | rfl)
        case hq5a => first | exact fun _ _ _ h => h | exact fun _ _ _ h => (by cases h.1)
        case hy5a => (refine Or.inl ⟨by rfl, ?_⟩; intro wz hSw; go_simp; first | done | with_reducible rfl | simp | omega)
        try simp only [Act.put, List.setIfInBounds_toArray, List.set_cons_zero, List.set_cons_succ]
        refine anyT_one (i := 1) (by kernel_rfl) rfl (fun K' hK => ?_)
        go_simp
        refine hK.out _ _ (fun _ => Hcell1.out) ?_
        clear hK K'
        try simp only [Act.put, List.setIfInBounds_toArray, List.set_cons_zero, List.set_cons_succ]
        refine anyT_one (i := 6) (by kernel_rfl) rfl (fun K' hK => ?_)
        go_simp
        refine Hcall.out.mono ?_
        rintro e w2 ⟨rfl, hB2⟩
        rw [Hl.out]
        have hS2 : w2.cell? ⟨b0, off + k, none⟩ = some (.slice A' r.length c') := (hB2.cell (p := ⟨b0, off + k, none⟩) (by show b0 < (wr.alloc _).heap.size; rw [hz1]; omega)).trans Hcell1.out
        have hC2 : Below w.heap.size w w2 := HB1.out.drew.trans (hB2.mono (by show w.heap.size ≤ (wr.alloc _).heap.size; rw [hz1]; omega))
        refine hK.out _ _ (fun _ => hS2) ?_
        clear hK K'
        try simp only [Act.put, List.setIfInBounds_toArray, List.set_cons_zero, List.set_cons_succ]
        refine anyT_one (i := 7) (by kernel_rfl) rfl (fun K' hK => ?_)
        go_simp
        refine hK.out _ _ (fun h => absurd rfl h) ?_
        clear hK K'
        try simp only [Act.put, List.setIfInBounds_toArray, List.set_cons_zero, List.set_cons_succ]
        refine anyT_done (by kernel_rfl) ?_ _
        go_wp2
        go_ret
        exact ⟨ret_bool Ht.out.symm, hC2⟩
      · have Hl := Lib.hid hl
        clear hl
        go_wp2
        have hcd : wr.drew.cell? ⟨b0, off + k, none⟩ = some (.slice A' r.length c') := hcell
        refine region_T (S := (fun w' => w'.cell? ⟨b0, off + k, none⟩ = some (.slice A' r.length c'))) 7 (by kernel_rfl) ?_
        have hSd : (fun w' => w'.cell? ⟨b0, off + k, none⟩ = some (.slice A' r.length c')) wr.drew := hcd
        refine anyT_take (i := 0) (oi := ?oi0b) (v := .int .i64 (n : Int)) ?hi0b (by kernel_rfl) ?hq0b ?hy0b (by assumption) ?rest0b
        case hi0b => (simp only [List.getElem?_toArray, List.getElem?_cons_zero]; first | done | rfl)
        case hq0b => first | exact fun _ _ _ h => h | exact fun _ _ _ h => (by cases h.1)
        case hy0b => (refine Or.inl ⟨by rfl, ?_⟩; intro wz hSw; go_simp; first | done | with_reducible rfl | simp | omega)
        try simp only [Act.put, List.setIfInBounds_toArray, List.set_cons_zero, List.set_cons_succ]
        refine anyT_take (i := 2) (oi := ?oi2b) (v := .slice (some ⟨b0, off, none⟩) m c) ?hi2b (by kernel_rfl) ?hq2b ?hy2b (by assumption) ?rest2b
        case hi2b => (simp only [List.getElem?_toArray, List.getElem?_cons_succ, List.getElem?_cons_zero]; first | done | rfl)
        case hq2b => first | exact fun _ _ _ h => h | exact fun _ _ _ h => (by cases h.1)
        case hy2b => (refine Or.inl ⟨by rfl, ?_⟩; intro wz hSw; go_simp; first | done | with_reducible rfl | simp | omega)
        try simp only [Act.put, List.setIfInBounds_toArray, List.set_cons_zero, List.set_cons_succ]
        refine anyT_take (i := 3) (oi := ?oi3b) (v := .int .i64 (k : Int)) ?hi3b (by kernel_rfl) ?hq3b ?hy3b (by assumption) ?rest3b
        case hi3b => (simp only [List.getElem?_toArray, List.getElem?_cons_succ, List.getElem?_cons_zero]; first | done | rfl)
        case hq3b => first | exact fun _ _ _ h => h | exact fun _ _ _ h => (by cases h.1)
        case hy3b => (refine Or.inl ⟨by rfl, ?_⟩; intro wz hSw; go_simp; first | done | with_reducible rfl | simp | omega)
        try simp only [Act.put, List.setIfInBounds_toArray, List.set_cons_zero, List.set_cons_succ]
        refine anyT_take (i := 4) (oi := ?oi4b) (v := .pointer (some ⟨b0, off + k, none⟩)) ?hi4b (by kernel_rfl) ?hq4b ?hy4b (by assumption) ?rest4b
        case hi4b => (simp only [List.getElem?_toArray, List.getElem?_cons_succ, List.getElem?_cons_zero]; first | done | rfl)
        case hq4b => first | exact fun _ _ _ h => h | exact fun _ _ _ h => (by cases h.1)
        case hy4b => (refine Or.inl ⟨by rfl, ?_⟩; intro wz hSw; go_simp; first | done | with_reducible rfl | simp | omega)
        try simp only [Act.put, List.setIfInBounds_toArray, List.set_cons_zero, List.set_cons_succ]
        refine anyT_take (i := 5) (oi := ?oi5b) (v := .slice A' r.length c') ?hi5b (by kernel_rfl) ?hq5b ?hy5b (by assumption) ?rest5b
        case hi5b => (simp only [List.getElem?_toArray, List.getElem?_cons_succ, List.getElem?_cons_zero]; first | done | rfl)
        case hq5b => first | exact fun _ _ _ h => h | exact fun _ _ _ h => (by cases h.1)
        case hy5b => (refine Or.inl ⟨by rfl, ?_⟩; intro wz hSw; go_simp; first | done | with_reducible rfl | simp | omega)
        try simp only [Act.put, List.setIfInBounds_toArray, List.set_cons_zero, List.set_cons_succ]
        refine anyT_one (i := 1) (by kernel_rfl) rfl (fun K' hK => ?_)
        go_simp
        refine hK.out _ _ (fun _ => Hcell1.out) ?_
        clear hK K'
        try simp only [Act.put, List.setIfInBounds_toArray, List.set_cons_zero, List.set_cons_succ]
        refine anyT_one (i := 6) (by kernel_rfl) rfl (fun K' hK => ?_)
        go_simp
        refine Hcall.out.mono ?_
        rintro e w2 ⟨rfl, hB2⟩
        rw [Hl.out]
        have hS2 : w2.cell? ⟨b0, off + k, none⟩ = some (.slice A' r.length c') := (hB2.cell (p := ⟨b0, off + k, none⟩) (by show b0 < (wr.alloc _).heap.size; rw [hz1]; omega)).trans Hcell1.out
        have hC2 : Below w.heap.size w w2 := HB1.out.drew.trans (hB2.mono (by show w.heap.size ≤ (wr.alloc _).heap.size; rw [hz1]; omega))
        refine hK.out _ _ (fun _ => hS2) ?_
        clear hK K'
        try simp only [Act.put, List.setIfInBounds_toArray, List.set_cons_zero, List.set_cons_succ]
        refine anyT_one (i := 7) (by kernel_rfl) rfl (fun K' hK => ?_)
        go_simp
        refine hK.out _ _ (fun h => absurd rfl h) ?_
        clear hK K'
        try simp only [Act.put, List.setIfInBounds_toArray, List.set_cons_zero, List.set_cons_succ]
        refine anyT_done (by kernel_rfl) ?_ _
        go_wp2
        go_roundw
        case rel => exact ⟨k + 1, by omega, by go_num, all_snoc Hok.out (by rw [Hrr.out]; exact Hl.out), hC2⟩
        case measure => simp [intOf]; omega
    · obtain rfl : k = m := by omega
      have Ht := Lib.hid (lnsB_yes hlen.out Hok.out)
      go_wp2
      go_ret
      exact ⟨ret_bool Ht.out.symm, hB⟩

/-- What LinesOrder gives. -/
def GivesLn (w : World) (n : Int) (rs : List (List Int)) (e : Ending) (w' : World) : Prop :=
  ∃ A m c, e = .returned (.tuple #[.slice A m c, .bool (lnOk n rs)]) ∧ Row w' w.heap.size w'.heap.size A m (lnR n rs) ∧ Below w.heap.size w w'
theorem none_ln {w w' : World} {n : Int} {rs : List (List Int)} (h : lnOk n rs = false) (hB : Below w.heap.size w w') : GivesLn w n rs (.returned (.tuple #[.slice none 0 0, .bool false])) w' :=
  ⟨none, 0, 0, by rw [h], by rw [lnR, h]; exact Row.nil _ _ _ _, hB⟩

set_option maxRecDepth 100000 in
set_option maxHeartbeats 2000000 in
theorem specLinesOrder_any (n : Int) (A : Option Addr) (m c : Nat) (rs : List (List Int)) (w : World) (h : IntsS w w.heap.size A m rs) (hm : m ≤ 1048576) (hr : ∀ r ∈ rs, r.length ≤ 1048576) :
    Calls Try.prog 26 #[.int .i64 n, .slice A m c] w (GivesLn w n rs) := by
  cases hin : inB n 0 6
  · have Ho := Lib.hid (show lnOk n rs = false by simp [lnOk, hin])
    have Hin := Lib.hid hin
    clear hin
    go_enter Try.func26, Try.ntmps26
    go_wp2_with fail
    refine (inRange_any _ _ _ _).mono ?_
    rw [Hin.out]
    rintro e w' ⟨rfl, rfl⟩
    go_wp2_with fail
    go_ret2
    exact none_ln Ho.out (Below.refl _ _)
  · have Hin := Lib.hid hin
    have hnn := inB_iff.1 hin
    clear hin
    obtain ⟨N, rfl⟩ := Int.eq_ofNat_of_zero_le hnn.1
    have hN : N ≤ 6 := by omega
    clear hnn
    have Hok := Lib.hid (lnOk_in (rs := rs) hN)
    cases hl : lnsB N rs
    · have Hl := Lib.hid hl
      have Ho := Lib.hid (show lnOk (N : Int) rs = false by rw [Hok.out]; exact hl)
      clear hl
      go_enter Try.func26, Try.ntmps26
      go_wp2_with fail
      refine (inRange_any _ _ _ _).mono ?_
      rw [Hin.out]
      rintro e w' ⟨rfl, rfl⟩
      go_wp2_with fail
      refine (validLines_any N A m c rs _ h hN hm hr).mono ?_
      rw [Hl.out]
      rintro e w1 ⟨rfl, hB1⟩
      go_wp2_with fail
      go_ret2
      exact none_ln Ho.out hB1
    · have Hl := Lib.hid hl
      have Ho := Lib.hid (show lnOk (N : Int) rs = true by rw [Hok.out]; exact hl)
      clear hl
      go_enter Try.func26, Try.ntmps26
      go_wp2_with fail
      refine (inRange_any _ _ _ _).mono ?_
      rw [Hin.out]
      rintro e w' ⟨rfl, rfl⟩
      go_wp2_with fail
      refine (validLines_any N A m c rs _ h hN hm hr).mono ?_
      rw [Hl.out]
      rintro e w1 ⟨rfl, hB1⟩
      have z1 := hB1.size
      go_wp2_with fail
      refine (meetLines_any N A m c rs _ ((h.below hB1).more z1) hN hm hr).mono ?_
      rintro e w2 ⟨rfl, hA2, hB2⟩
      go_wp2_with fail
      go_ret2
      exact ⟨_, N, N, by rw [Ho.out]; rfl, by rw [lnR, Ho.out]; exact (Row.of hA2 (meL_len N rs) (by omega) hA2.lt), hB1.trans (hB2.mono z1)⟩
end Go.Proofs.Ytghogabmkbadjab

/- SideOrder: the model's. -/
namespace Go.Proofs.Ytghogabmkbadjab
open Go.RowKit Go.Shelf
attribute [local go_sem] Oper.semAt_some
attribute [local go_sem, local simp] wide_fn

set_option maxHeartbeats 400000 in
theorem powerBig_any (n : Int) (w : World) (h0 : 0 ≤ n) (h1 : n ≤ 40) :
    Calls Try.prog 96 #[.int .i64 n] w fun e w' => e = .returned (.int .i64 (powI n)) ∧ w = w' := by
  go_enter Try.func96, Try.ntmps96
  go_wp2
  go_loop [0, 3] (fun i t => ∃ k : Int, 0 ≤ k ∧ k ≤ n ∧ i = .int .i64 k ∧ t = .int .i64 (powI (n - k))) (fun i _ => (intOf i).toNat)
  case atStart => exact ⟨n, by omega, by omega, rfl, by rw [show n - n = 0 from by omega]; rfl⟩
  case round =>
    obtain ⟨k, hk, hkn, rfl, rfl⟩ := hrel
    have hp : powI (n - k) ≤ 1099511627776 := powI_le (m := 40) (by omega)
    have hq := powI_pos (n - k)
    by_cases hlt : 0 < k
    · go_wp2
      go_round
      case rel => exact ⟨k - 1, by omega, by omega, rfl, by rw [show n - (k - 1) = (n - k) + 1 from by omega, powI_succ (by omega)]⟩
      case measure => simp [intOf]; omega
    · go_wp2
      go_ret
      exact ⟨ret_int (by rw [show n - k = n from by omega]), rfl⟩

theorem lexB_hit {a b : List Int} {k : Nat} (hk : k < a.length) (h : ∀ j, j < k → a[j]?.getD 0 = b[j]?.getD 0) (hne : ¬ a[k]?.getD 0 = b[k]?.getD 0) : lexB a b = decide (a[k]?.getD 0 < b[k]?.getD 0) := by
  rcases Int.lt_or_gt_of_ne hne with e | e
  · rw [decide_eq_true e]; exact lexB_iff.2 ⟨k, hk, h, e⟩
  · rw [decide_eq_false (by omega)]
    cases e2 : lexB a b
    · rfl
    · obtain ⟨m, hm, h1, h2⟩ := lexB_iff.1 e2
      rcases Nat.lt_trichotomy m k with h3 | h3 | h3
      · have := h m h3; omega
      · subst h3; omega
      · exact absurd (h1 k h3) hne
theorem lexB_same {a b : List Int} (h : ∀ j, j < a.length → a[j]?.getD 0 = b[j]?.getD 0) : lexB a b = false := by
  cases e2 : lexB a b
  · rfl
  · obtain ⟨m, hm, h1, h2⟩ := lexB_iff.1 e2
    have := h m hm; omega

set_option maxHeartbeats 1000000 in
theorem less_any (A : Option Addr) (n c B : Nat) (us : List Int) (A' : Option Addr) (c' B' : Nat) (bs : List Int) (w : World) (h : Ints w B A n us) (h' : Ints w B' A' n bs) (hn : n ≤ 1048576) :
    Calls Try.prog 147 #[.slice A n c, .slice A' n c'] w fun e w' => e = .returned (.bool (lexB us bs)) ∧ ∃ q, w' = w.drewN q := by
  have hlen := Lib.hid h.len
  go_enter Try.func147, Try.ntmps147
  go_wp2
  go_loopw [5] (fun i wr => ∃ k q : Nat, k ≤ n ∧ i = .int .i64 k ∧ (∀ j, j < k → us[j]?.getD 0 = bs[j]?.getD 0) ∧ wr = w.drewN q) (fun i _ => n - (intOf i).toNat)
  case atStart => exact ⟨0, 0, by omega, rfl, fun j hj => by omega, rfl⟩
  case round =>
    obtain ⟨k, q, hk, rfl, hok, rfl⟩ := hrel
    have Hok := Lib.hid hok
    clear hok
    by_cases hlt : k < n
    · have h1 := h.drewN q
      have h2 := h'.drewN q
      obtain ⟨Wq, hWq⟩ : ∃ Wq, w.drewN q = Wq := ⟨_, rfl⟩
      rw [hWq] at h1 h2 ⊢
      have HW := Lib.hid hWq
      clear hWq
      obtain ⟨b1, o1, rfl, _, hc1⟩ := h1.at_ hlt
      obtain ⟨b2, o2, rfl, _, hc2⟩ := h2.at_ hlt
      have hk1 := hc1 k hlt
      have hk2 := hc2 k hlt
      have Hh := Lib.hid (fun hne => lexB_hit (a := us) (b := bs) (by rw [hlen.out]; exact hlt) Hok.out hne)
      clear hc1 hc2
      generalize hx : us[k]?.getD 0 = x at *
      generalize hy : bs[k]?.getD 0 = y at *
      have Hx := Lib.hid hx
      have Hy := Lib.hid hy
      clear hx hy
      by_cases hxy : x = y
      · have hne : (x != y) = false := by simp [hxy]
        have Hxy := Lib.hid hxy
        clear hxy
        go_wp2
        go_quiet (fail)
        go_wp2
        go_roundw
        case rel => exact ⟨k + 1, _, by omega, by go_num, all_snoc Hok.out (by rw [Hx.out, Hy.out]; exact Hxy.out), by rw [← HW.out]; exact World.drewN_drewN ..⟩
        case measure => simp [intOf]; omega
      · have hne : (x != y) = true := by simpa using hxy
        have Ht := Lib.hid (Hh.out hxy)
        clear hxy
        go_wp2
        go_quiet (fail)
        go_wp2
        go_quiet (fail)
        go_wp2
        go_ret
        exact ⟨ret_bool Ht.out.symm, by rw [← HW.out]; first | exact ⟨_, World.drewN_drewN ..⟩ | exact ⟨_, (congrArg (fun v => World.drewN v _) (World.drewN_drewN ..)).trans (World.drewN_drewN ..)⟩⟩
    · obtain rfl : k = n := by omega
      have Ht := Lib.hid (lexB_same (a := us) (b := bs) (by rw [hlen.out]; exact Hok.out))
      go_wp2
      go_ret
      exact ⟨ret_bool Ht.out.symm, _, rfl⟩

theorem quiet_zero' {P : Program} {f : FuncId} {args : Array Value} {w : World} {n : Nat} {v : Value}
    (h : Calls P f args (w.drewN n) fun e w' => e = .returned v ∧ w.drewN n = w') :
    Calls P f args (w.drewN n) fun e w'' => e = .returned v ∧ ∃ m, w'' = w.drewN m :=
  h.mono fun _ _ ⟨he, hm⟩ => ⟨he, n, hm.symm⟩
/-- What SideOrder gives. -/
def GivesSd (w : World) (zs : List Int) (e : Ending) (w' : World) : Prop :=
  ∃ A m c, e = .returned (.tuple #[.slice A m c, .bool (sdOk zs)]) ∧ Row w' w.heap.size w'.heap.size A m (sdR zs) ∧ Below w.heap.size w w'
theorem none_sd {w w' : World} {zs : List Int} (h : sdOk zs = false) (hB : Below w.heap.size w w') : GivesSd w zs (.returned (.tuple #[.slice none 0 0, .bool false])) w' :=
  ⟨none, 0, 0, by rw [h], by rw [sdR, h]; exact Row.nil _ _ _ _, hB⟩

set_option maxRecDepth 100000 in
set_option maxHeartbeats 8000000 in
theorem specSideOrder_any (A : Option Addr) (n c : Nat) (zs : List Int) (w : World) (h : Ints w w.heap.size A n zs) (hbig : n ≤ 1152921504606846976) :
    Calls Try.prog 112 #[.slice A n c] w (GivesSd w zs) := by
  have hlen := Lib.hid h.len
  cases hv : vo zs
  · have Ho := Lib.hid (show sdOk zs = false by unfold sdOk; rw [hv]; rfl)
    go_enter Try.func112, Try.ntmps112
    go_wp2_with (go_at_call 62; refine (validOrder_any _ _ _ _ zs _ h hbig).mono ?_; rw [hv]; rintro e w' ⟨rfl, m, rfl⟩)
    go_ret2
    exact none_sd Ho.out (below_drewN (Below.refl _ _) _)
  · have hvo : VoP zs := by simpa [vo] using hv
    have hn6 : n ≤ 6 := by have := hvo.1; rw [hlen.out] at this; exact this
    have Hbest := Lib.hid (best_is hvo)
    have Hm36 := Lib.hid (mP_len hvo)
    obtain ⟨i0, hi0, hz0, hz1, hz2⟩ := infoRow_parts
    have hmk := run_make_row' (P := Try.prog) 22 3 (.int .i64 0) 8 Try.underlying22 infoInt rfl .i64 .i64 n (by omega) (by omega)
    have Hv := Lib.hid hv
    clear hv
    go_enter Try.func112, Try.ntmps112
    go_wp2_with fail
    refine (validOrder_any _ _ _ _ zs _ h hbig).mono ?_
    rw [Hv.out]
    rintro e w1 ⟨rfl, m1, hm1⟩
    have hB1 : Below w.heap.size w w1 := by rw [hm1]; exact below_drewN (Below.refl _ _) _
    have z1 := hB1.size
    clear hm1
    go_wp2_with fail
    have R1 := Rowed.new w1
    have hu1 : Upd (fun k => w.heap.size ≤ k) w (w1.alloc (.cells #[] 22)) := (Below.toUpd hB1).alloc _
    obtain ⟨W1, hW1⟩ : ∃ W1, w1.alloc (.cells #[] 22) = W1 := ⟨_, rfl⟩
    rw [hW1] at R1 hu1 ⊢
    clear hW1
    generalize w1.heap.size = B at *
    go_loopw [4, 5] (fun v i wr => ∃ a : Nat, a ≤ n ∧ i = .int .i64 a ∧ Rowed wr B v ((mPT zs a).map rowOf) ∧ Upd (fun k => w.heap.size ≤ k) w wr) (fun _ i _ => n - (intOf i).toNat)
    case atStart => exact ⟨0, by omega, rfl, R1, hu1⟩
    case round =>
      clear R1 hu1 hB1
      obtain ⟨a, ha, rfl, hR, hU⟩ := hrel
      by_cases hak : a < n
      · have Hz := Lib.hid (mPT_succ zs a)
        go_wp2_with fail
        go_loopw [4, 6] (fun v i wr => ∃ b : Nat, b ≤ a ∧ i = .int .i64 b ∧ Rowed wr B v ((mPT zs a ++ mPX zs a b).map rowOf) ∧ Upd (fun k => w.heap.size ≤ k) w wr) (fun _ i _ => a - (intOf i).toNat)
        case atStart => exact ⟨0, by omega, rfl, by rw [show mPX zs a 0 = [] from rfl, List.append_nil]; exact hR, hU⟩
        case round =>
          clear hR hU
          obtain ⟨b, hb, rfl, hR, hU⟩ := hrel
          rename World => wr
          have zU := hU.size
          have hIr := h.below (hU.toBelow (B := w.heap.size) (fun _ e => e) (Nat.le_refl _))
          by_cases hbk : b < a
          · have Hcall := Lib.hid (related_any A n c _ zs hvo.sets wr hIr a b hak (by omega))
            cases hr : relB zs a b
            · have Hs := Lib.hid (mPX_yes hr)
              have Hr := Lib.hid hr
              clear hr
              have hbase := hR.base
              have hl36 : ((mPT zs a ++ mPX zs a b).map rowOf).length ≤ 42 := by
                have h1 := mPT_len zs a
                have h2 := mPX_len zs a b
                have h3 : a * a ≤ 6 * 6 := Nat.mul_le_mul (by omega) (by omega)
                rw [List.length_map, List.length_append]; omega
              obtain ⟨vs, hown, hC, hb1⟩ := hR
              generalize hrs : (mPT zs a ++ mPX zs a b).map rowOf = rs at *
              have Hrs := Lib.hid hrs
              clear hrs
              go_wp2_with fail
              refine Hcall.out.mono ?_
              rw [Hr.out]
              rintro e w' ⟨rfl, rfl⟩
              go_wp2_with (at_builtin; go_loud (refine wpList_append1 _ rfl (.tmp 33) (.tmp 37) _ rfl B 22 i0 _ 24 Try.underlying32 hi0 hz0 hz1 hz2 rfl _ rs.length _ rfl ((hown.alloc _).alloc _) (wr.heap.size + 1) 1 (.slice (some ⟨wr.heap.size, 0, none⟩) 2 2) rfl (cell_new2 _ _ _ _) rfl (by omega) (by omega) (by simp; omega) ?_); rintro v' w' hown' hg' hv')
              go_roundw
              case rel =>
                exact ⟨b + 1, by omega, by go_num, by rw [Hs.out, ← List.append_assoc, List.map_append, Hrs.out]; exact Rowed.step hown rfl hC hb1 hown' hg', ((hU.alloc _).alloc _).grown hg' (fun k hk => .inr (by have := hbase k hk; omega))⟩
              case measure => simp [intOf]; omega
            · have Hs := Lib.hid (mPX_no hr)
              have Hr := Lib.hid hr
              clear hr
              go_wp2_with fail
              refine Hcall.out.mono ?_
              rw [Hr.out]
              rintro e w' ⟨rfl, rfl⟩
              go_wp2_with fail
              go_roundw
              case rel => exact ⟨b + 1, by omega, by go_num, by rw [Hs.out]; exact hR, hU⟩
              case measure => simp [intOf]; omega
          · obtain rfl : b = a := by omega
            go_wp2_with fail
            go_roundw
            case rel => exact ⟨b + 1, by omega, by go_num, by rw [Hz.out]; exact hR, hU⟩
            case measure => simp [intOf]; omega
      · obtain rfl : a = n := by omega
        rename World => W0
        have Hmp := Lib.hid (show mPT zs a = mP zs by unfold mP; rw [hlen.out])
        rw [Hmp.out] at hR
        obtain ⟨Ap, cp, rfl, hRR⟩ := hR.rows
        have hP := hRR.ints (Nat.le_refl _)
        clear hR hRR
        have zU := hU.size
        have hml : ((mP zs).map rowOf).length = (mP zs).length := List.length_map ..
        rw [hml] at hP ⊢
        have HrowP := Lib.hid (fun i (hi : i < (mP zs).length) => show ((mP zs).map rowOf)[i]?.getD [] = [(((mP zs)[i]?.getD (0, 0)).1 : Int), (((mP zs)[i]?.getD (0, 0)).2 : Int)] by rw [List.getElem?_map, List.getElem?_eq_getElem hi]; rfl)
        have HmF := Lib.hid (fun s => show mS zs s (mP zs).length = mF zs s from rfl)
        obtain ⟨m, hm⟩ : ∃ m, (mP zs).length = m := ⟨_, rfl⟩
        have Hm := Lib.hid hm
        rw [hm] at hP HrowP Hm36 Hbest HmF ⊢
        clear hm hml Hmp
        obtain ⟨N, hN⟩ : ∃ N : Nat, 2 ^ m = N := ⟨_, rfl⟩
        rw [hN] at Hbest
        have Hpow := Lib.hid (show powI (m : Int) = (N : Int) by rw [← hN]; simp [powI])
        have hN36 : N ≤ 68719476736 := by rw [← hN]; exact Nat.pow_le_pow_right (n := 2) (by decide) Hm36.out
        have hm36 := Hm36.out
        clear hN
        go_wp2_with fail
        have hu2 : Upd (fun _ => False) W0 (W0.alloc (.cells #[] 3)) := (Upd.refl _ W0).alloc _
        obtain ⟨W2, hW2⟩ : ∃ W2, W0.alloc (.cells #[] 3) = W2 := ⟨_, rfl⟩
        rw [hW2] at hu2 ⊢
        clear hW2
        go_loopw [7, 8, 9] (fun b ok i wr => ∃ s : Nat, s ≤ N ∧ i = .int .i64 s ∧ Upd (fun _ => False) W0 wr ∧ ((bestS zs s = none ∧ ok = .bool false) ∨ ∃ T g, bestS zs s = some T ∧ ok = .bool true ∧ b = .slice (some ⟨g, 0, none⟩) a a ∧ W0.heap.size ≤ g ∧ Arr wr g 3 T)) (fun _ _ i _ => N - (intOf i).toNat)
        case atStart => exact ⟨0, by omega, rfl, hu2, .inl ⟨rfl, rfl⟩⟩
        case round =>
          clear hu2
          obtain ⟨s, hs, rfl, hU2, hbest⟩ := hrel
          rename World => wr
          have Hb := Lib.hid hbest
          clear hbest
          have hIr0 := hP.below (hU2.toBelow (B := W0.heap.size) (fun _ e => e.elim) (Nat.le_refl _))
          have z2 := hU2.size
          by_cases hlt : s < N
          · have Hstep := Lib.hid (show bestS zs (s + 1) = if vo (mF zs s) && (match bestS zs s with | none => true | some b => lexB (mF zs s) b) then some (mF zs s) else bestS zs s from rfl)
            go_wp2_with fail
            refine (powerBig_any (m : Int) wr (by omega) (by omega)).mono ?_
            rw [Hpow.out]
            rintro e w' ⟨rfl, rfl⟩
            go_wp2_with fail
            have hA3 : Arr (wr.alloc (.cells (madeCells #[.int .i64 0] a) 3)) wr.heap.size 3 (mS zs s 0) := by rw [show mS zs s 0 = List.replicate a 0 by unfold mS zr; rw [hlen.out]]; exact Arr.new wr 3 a
            have hu3 : Upd (fun _ => False) wr (wr.alloc (.cells (madeCells #[.int .i64 0] a) 3)) := (Upd.refl _ wr).alloc _
            have hz3 : (wr.alloc (.cells (madeCells #[.int .i64 0] a) 3)).heap.size = wr.heap.size + 1 := by simp
            obtain ⟨W3, hW3⟩ : ∃ W3, wr.alloc (.cells (madeCells #[.int .i64 0] a) 3) = W3 := ⟨_, rfl⟩
            rw [hW3] at hA3 hu3 hz3 ⊢
            clear hW3
            have hU3 := hU2.trans hu3
            go_loopw [11] (fun i wx => ∃ i' : Nat, i' ≤ m ∧ i = .int .i64 i' ∧ Arr wx wr.heap.size 3 (mS zs s i') ∧ Upd (fun k => k = wr.heap.size) W3 wx) (fun i _ => m - (intOf i).toNat)
            case atStart => exact ⟨0, by omega, rfl, hA3, Upd.refl _ _⟩
            case round =>
              clear hA3
              obtain ⟨i, hi, rfl, hA, hU⟩ := hrel
              rename World => wx
              have zx := hU.size
              have hUx : Upd (fun _ => False) W0 wx := hU3.trans' hU (fun i hi e => by omega)
              by_cases hlti : i < m
              · have Hsn := Lib.hid (show mS zs s (i + 1) = putB (mS zs s i) (arcM zs s i).1 (arcM zs s i).2 from rfl)
                have hok := arcM_ok (zs := zs) (s := s) (i := i) (by rw [Hm.out]; exact hlti)
                have hfit := mS_fit (zs := zs) (s := s) (i := i) (by rw [Hm.out]; omega)
                have Hml := Lib.hid (mS_len (zs := zs) s i)
                have Harc := Lib.hid (show arcM zs s i = if s.testBit i then (((mP zs)[i]?.getD (0, 0)).2, ((mP zs)[i]?.getD (0, 0)).1) else (mP zs)[i]?.getD (0, 0) from rfl)
                have hIx := hP.below (hUx.toBelow (B := W0.heap.size) (fun _ e => e.elim) (Nat.le_refl _))
                obtain ⟨b0, off, rfl, hb0, hc⟩ := hIx.at_ hlti
                obtain ⟨A'', c'', hcell, hI⟩ := hc i hlti
                clear hc hIx
                rw [HrowP.out i hlti] at hI hcell
                generalize (mP zs)[i]?.getD (0, 0) = p at *
                obtain ⟨pa, pb⟩ := p
                obtain ⟨b1, o1, rfl, hb1, hc1⟩ := hI.at_ (k := 0) (by simp)
                have hp0 := hc1 0 (by simp)
                have hp1 := hc1 1 (by simp)
                simp only [List.length_cons, List.length_nil, Nat.zero_add, Nat.reduceAdd, List.getElem?_cons_zero, List.getElem?_cons_succ, Option.getD_some, Nat.add_zero] at hcell hp0 hp1
                clear hc1 hI
                rw [hlen.out] at hok hfit Hml
                have hpa6 := powI_le6 (n := (a : Int)) (by omega)
                cases htb : s.testBit i
                · have hbit : bitI (s : Int) (i : Int) = 0 := by
                    unfold bitI bitB
                    rw [Int.toNat_natCast, Int.toNat_natCast, htb]; rfl
                  rw [show arcM zs s i = (pa, pb) by rw [Harc.out, htb]; rfl] at hok
                  rw [show arcM zs s i = (pa, pb) by rw [Harc.out, htb]; rfl] at Hsn
                  obtain ⟨hxn, hyn, -⟩ := hok
                  simp only at hxn hyn
                  clear htb
                  have hcs := hA.cell (k := pa) (by rw [Hml.out]; exact hxn)
                  have hfs := hA.frozen pa
                  have hfx := hfit pa
                  have hpy := powI_lt hyn
                  have hpy0 := powI_pos (pb : Int)
                  have hor : bits .or .i64 ((mS zs s i)[pa]?.getD 0) (powI (pb : Int)) = orI ((mS zs s i)[pa]?.getD 0) (powI (pb : Int)) := bits_or (by omega) (by omega) (by omega) (by omega)
                  have Hq := Lib.hid (fun W => bit_any (s : Int) (i : Int) W (by omega) (by omega) (by omega) (by omega))
                  rw [hbit] at Hq
                  have Hpw := Lib.hid (fun W => power_any (pb : Int) W (by omega) (by omega))
                  have Hput := Lib.hid (show putB (mS zs s i) pa pb = (mS zs s i).set pa (orI ((mS zs s i)[pa]?.getD 0) (powI (pb : Int))) from rfl)
                  clear hbit hfit
                  generalize mS zs s i = D at *
                  generalize D[pa]?.getD 0 = cur at *
                  go_wp2
                  go_quiet ((go_at_call 63; exact quiet_zero' (Hq.out _)))
                  go_wp2
                  have kcell : (wx.drewN nq).drew.cell? ⟨b0, off + i, none⟩ = some (.slice (some ⟨b1, o1, none⟩) 2 c'') := hcell
                  have kcs : (wx.drewN nq).drew.cell? ⟨wr.heap.size, pa, none⟩ = some (.int .i64 cur) := hcs
                  have kfs : (wx.drewN nq).drew.frozen? ⟨wr.heap.size, pa, none⟩ = false := hfs
                  have ky : (wx.drewN nq).drew.cell? ⟨b1, o1 + 1, none⟩ = some (.int .i64 (pb : Int)) := hp1
                  have kA : Arr (wx.drewN nq).drew wr.heap.size 3 D := hA
                  have kU : Upd (fun k => k = wr.heap.size) W3 (wx.drewN nq).drew := (hU.drewN nq).drew
                  refine region_T (S := (fun w' => w'.cell? ⟨b0, off + i, none⟩ = some (.slice (some ⟨b1, o1, none⟩) 2 c'') ∧ w'.cell? ⟨wr.heap.size, pa, none⟩ = some (.int .i64 cur) ∧ w'.cell? ⟨b1, o1 + 1, none⟩ = some (.int .i64 (pb : Int)))) 19 (by kernel_rfl) ?_
                  obtain ⟨Wd, hWd⟩ : ∃ Wd, (wx.drewN nq).drew = Wd := ⟨_, rfl⟩
                  rw [hWd] at kcell kcs kfs ky kA kU ⊢
                  clear hWd hcell hcs hfs hp0 hp1
                  have ky2 : Wd.cell? ⟨b1, o1 + (IntKind.i64.wrap 1).toNat, none⟩ = some (.int .i64 (pb : Int)) := by rw [show (IntKind.i64.wrap 1).toNat = 1 by decide]; exact ky
                  have hSd : (fun w' => w'.cell? ⟨b0, off + i, none⟩ = some (.slice (some ⟨b1, o1, none⟩) 2 c'') ∧ w'.cell? ⟨wr.heap.size, pa, none⟩ = some (.int .i64 cur) ∧ w'.cell? ⟨b1, o1 + 1, none⟩ = some (.int .i64 (pb : Int))) Wd := ⟨kcell, kcs, ky⟩
                  refine anyT_take (i := 0) (oi := ?oi0p) (v := .slice (some ⟨wr.heap.size, 0, none⟩) a a) ?hi0p (by kernel_rfl) ?hq0p ?hy0p (by assumption) ?rest0p
                  case hi0p => (simp only [List.getElem?_toArray, List.getElem?_cons_zero]; first | done | rfl)
                  case hq0p => first | exact fun _ _ _ h => h | exact fun _ _ _ h => (by cases h.1)
                  case hy0p => (refine Or.inl ⟨by rfl, ?_⟩; intro wz hSw; obtain ⟨hS1, hS2, hS3⟩ := hSw; go_simp; first | done | with_reducible rfl | simp | omega)
                  try simp only [Act.put, List.setIfInBounds_toArray, List.set_cons_zero, List.set_cons_succ]
                  refine anyT_take (i := 1) (oi := ?oi1p) (v := .int .i64 (pa : Int)) ?hi1p (by kernel_rfl) ?hq1p ?hy1p (by assumption) ?rest1p
                  case hi1p => (simp only [List.getElem?_toArray, List.getElem?_cons_succ, List.getElem?_cons_zero]; first | done | rfl)
                  case hq1p => first | exact fun _ _ _ h => h | exact fun _ _ _ h => (by cases h.1)
                  case hy1p => (refine Or.inl ⟨by rfl, ?_⟩; intro wz hSw; obtain ⟨hS1, hS2, hS3⟩ := hSw; go_simp; first | done | with_reducible rfl | simp | omega)
                  try simp only [Act.put, List.setIfInBounds_toArray, List.set_cons_zero, List.set_cons_succ]
                  refine anyT_take (i := 2) (oi := ?oi2p) (v := .slice (some ⟨wr.heap.size, 0, none⟩) a a) ?hi2p (by kernel_rfl) ?hq2p ?hy2p (by assumption) ?rest2p
                  case hi2p => (simp only [List.getElem?_toArray, List.getElem?_cons_succ, List.getElem?_cons_zero]; first | done | rfl)
                  case hq2p => first | exact fun _ _ _ h => h | exact fun _ _ _ h => (by cases h.1)
                  case hy2p => (refine Or.inl ⟨by rfl, ?_⟩; intro wz hSw; obtain ⟨hS1, hS2, hS3⟩ := hSw; go_simp; first | done | with_reducible rfl | simp | omega)
                  try simp only [Act.put, List.setIfInBounds_toArray, List.set_cons_zero, List.set_cons_succ]
                  refine anyT_take (i := 3) (oi := ?oi3p) (v := .int .i64 (pa : Int)) ?hi3p (by kernel_rfl) ?hq3p ?hy3p (by assumption) ?rest3p
                  case hi3p => (simp only [List.getElem?_toArray, List.getElem?_cons_succ, List.getElem?_cons_zero]; first | done | rfl)
                  case hq3p => first | exact fun _ _ _ h => h | exact fun _ _ _ h => (by cases h.1)
                  case hy3p => (refine Or.inl ⟨by rfl, ?_⟩; intro wz hSw; obtain ⟨hS1, hS2, hS3⟩ := hSw; go_simp; first | done | with_reducible rfl | simp | omega)
                  try simp only [Act.put, List.setIfInBounds_toArray, List.set_cons_zero, List.set_cons_succ]
                  refine anyT_take (i := 4) (oi := ?oi4p) (v := .pointer (some ⟨wr.heap.size, pa, none⟩)) ?hi4p (by kernel_rfl) ?hq4p ?hy4p (by assumption) ?rest4p
                  case hi4p => (simp only [List.getElem?_toArray, List.getElem?_cons_succ, List.getElem?_cons_zero]; first | done | rfl)
                  case hq4p => first | exact fun _ _ _ h => h | exact fun _ _ _ h => (by cases h.1)
                  case hy4p => (refine Or.inl ⟨by rfl, ?_⟩; intro wz hSw; obtain ⟨hS1, hS2, hS3⟩ := hSw; go_simp; first | done | with_reducible rfl | simp | omega)
                  try simp only [Act.put, List.setIfInBounds_toArray, List.set_cons_zero, List.set_cons_succ]
                  refine anyT_take (i := 5) (oi := ?oi5p) (v := .int .i64 cur) ?hi5p (by kernel_rfl) ?hq5p ?hy5p (by assumption) ?rest5p
                  case hi5p => (simp only [List.getElem?_toArray, List.getElem?_cons_succ, List.getElem?_cons_zero]; first | done | rfl)
                  case hq5p => first | exact fun _ _ _ h => h | exact fun _ _ _ h => (by cases h.1)
                  case hy5p => (refine Or.inl ⟨by rfl, ?_⟩; intro wz hSw; obtain ⟨hS1, hS2, hS3⟩ := hSw; go_simp; first | done | with_reducible rfl | simp | omega)
                  try simp only [Act.put, List.setIfInBounds_toArray, List.set_cons_zero, List.set_cons_succ]
                  refine anyT_take (i := 6) (oi := ?oi6p) (v := .slice (some ⟨b0, off, none⟩) m cp) ?hi6p (by kernel_rfl) ?hq6p ?hy6p (by assumption) ?rest6p
                  case hi6p => (simp only [List.getElem?_toArray, List.getElem?_cons_succ, List.getElem?_cons_zero]; first | done | rfl)
                  case hq6p => first | exact fun _ _ _ h => h | exact fun _ _ _ h => (by cases h.1)
                  case hy6p => (refine Or.inl ⟨by rfl, ?_⟩; intro wz hSw; obtain ⟨hS1, hS2, hS3⟩ := hSw; go_simp; first | done | with_reducible rfl | simp | omega)
                  try simp only [Act.put, List.setIfInBounds_toArray, List.set_cons_zero, List.set_cons_succ]
                  refine anyT_take (i := 7) (oi := ?oi7p) (v := .int .i64 (i : Int)) ?hi7p (by kernel_rfl) ?hq7p ?hy7p (by assumption) ?rest7p
                  case hi7p => (simp only [List.getElem?_toArray, List.getElem?_cons_succ, List.getElem?_cons_zero]; first | done | rfl)
                  case hq7p => first | exact fun _ _ _ h => h | exact fun _ _ _ h => (by cases h.1)
                  case hy7p => (refine Or.inl ⟨by rfl, ?_⟩; intro wz hSw; obtain ⟨hS1, hS2, hS3⟩ := hSw; go_simp; first | done | with_reducible rfl | simp | omega)
                  try simp only [Act.put, List.setIfInBounds_toArray, List.set_cons_zero, List.set_cons_succ]
                  refine anyT_take (i := 8) (oi := ?oi8p) (v := .pointer (some ⟨b0, off + i, none⟩)) ?hi8p (by kernel_rfl) ?hq8p ?hy8p (by assumption) ?rest8p
                  case hi8p => (simp only [List.getElem?_toArray, List.getElem?_cons_succ, List.getElem?_cons_zero]; first | done | rfl)
                  case hq8p => first | exact fun _ _ _ h => h | exact fun _ _ _ h => (by cases h.1)
                  case hy8p => (refine Or.inl ⟨by rfl, ?_⟩; intro wz hSw; obtain ⟨hS1, hS2, hS3⟩ := hSw; go_simp; first | done | with_reducible rfl | simp | omega)
                  try simp only [Act.put, List.setIfInBounds_toArray, List.set_cons_zero, List.set_cons_succ]
                  refine anyT_take (i := 9) (oi := ?oi9p) (v := .slice (some ⟨b1, o1, none⟩) 2 c'') ?hi9p (by kernel_rfl) ?hq9p ?hy9p (by assumption) ?rest9p
                  case hi9p => (simp only [List.getElem?_toArray, List.getElem?_cons_succ, List.getElem?_cons_zero]; first | done | rfl)
                  case hq9p => first | exact fun _ _ _ h => h | exact fun _ _ _ h => (by cases h.1)
                  case hy9p => (refine Or.inl ⟨by rfl, ?_⟩; intro wz hSw; obtain ⟨hS1, hS2, hS3⟩ := hSw; go_simp; first | done | with_reducible rfl | simp | omega)
                  try simp only [Act.put, List.setIfInBounds_toArray, List.set_cons_zero, List.set_cons_succ]
                  refine anyT_take (i := 10) (oi := ?oi10p) (v := .int .i64 (s : Int)) ?hi10p (by kernel_rfl) ?hq10p ?hy10p (by assumption) ?rest10p
                  case hi10p => (simp only [List.getElem?_toArray, List.getElem?_cons_succ, List.getElem?_cons_zero]; first | done | rfl)
                  case hq10p => first | exact fun _ _ _ h => h | exact fun _ _ _ h => (by cases h.1)
                  case hy10p => (refine Or.inl ⟨by rfl, ?_⟩; intro wz hSw; obtain ⟨hS1, hS2, hS3⟩ := hSw; go_simp; first | done | with_reducible rfl | simp | omega)
                  try simp only [Act.put, List.setIfInBounds_toArray, List.set_cons_zero, List.set_cons_succ]
                  refine anyT_take (i := 11) (oi := ?oi11p) (v := .int .i64 (i : Int)) ?hi11p (by kernel_rfl) ?hq11p ?hy11p (by assumption) ?rest11p
                  case hi11p => (simp only [List.getElem?_toArray, List.getElem?_cons_succ, List.getElem?_cons_zero]; first | done | rfl)
                  case hq11p => first | exact fun _ _ _ h => h | exact fun _ _ _ h => (by cases h.1)
                  case hy11p => (refine Or.inl ⟨by rfl, ?_⟩; intro wz hSw; obtain ⟨hS1, hS2, hS3⟩ := hSw; go_simp; first | done | with_reducible rfl | simp | omega)
                  try simp only [Act.put, List.setIfInBounds_toArray, List.set_cons_zero, List.set_cons_succ]
                  refine anyT_one (i := 12) (by kernel_rfl) rfl (fun K' hK => ?_)
                  go_simp
                  refine (Hq.out _).mono ?_
                  rintro e w' ⟨rfl, rfl⟩
                  refine hK.out _ _ (fun _ => hSd) ?_
                  clear hK K'
                  try simp only [Act.put, List.setIfInBounds_toArray, List.set_cons_zero, List.set_cons_succ]
                  refine anyT_one (i := 13) (by kernel_rfl) rfl (fun K' hK => ?_)
                  go_simp
                  refine hK.out _ _ (fun _ => hSd) ?_
                  clear hK K'
                  try simp only [Act.put, List.setIfInBounds_toArray, List.set_cons_zero, List.set_cons_succ]
                  refine anyT_one (i := 14) (by kernel_rfl) rfl (fun K' hK => ?_)
                  go_simp
                  refine hK.out _ _ (fun _ => hSd) ?_
                  clear hK K'
                  try simp only [Act.put, List.setIfInBounds_toArray, List.set_cons_zero, List.set_cons_succ]
                  refine anyT_one (i := 15) (by kernel_rfl) rfl (fun K' hK => ?_)
                  go_simp
                  refine hK.out _ _ (fun _ => hSd) ?_
                  clear hK K'
                  try simp only [Act.put, List.setIfInBounds_toArray, List.set_cons_zero, List.set_cons_succ]
                  refine anyT_one (i := 16) (by kernel_rfl) rfl (fun K' hK => ?_)
                  go_simp
                  refine (Hpw.out _).mono ?_
                  rintro e w' ⟨rfl, rfl⟩
                  refine hK.out _ _ (fun _ => hSd) ?_
                  clear hK K'
                  try simp only [Act.put, List.setIfInBounds_toArray, List.set_cons_zero, List.set_cons_succ]
                  refine anyT_one (i := 17) (by kernel_rfl) rfl (fun K' hK => ?_)
                  go_simp
                  refine hK.out _ _ (fun _ => hSd) ?_
                  clear hK K'
                  try simp only [Act.put, List.setIfInBounds_toArray, List.set_cons_zero, List.set_cons_succ]
                  refine anyT_one (i := 18) (by kernel_rfl) rfl (fun K' hK => ?_)
                  go_simp
                  refine hK.out _ _ (fun _ => hSd) ?_
                  clear hK K'
                  try simp only [Act.put, List.setIfInBounds_toArray, List.set_cons_zero, List.set_cons_succ]
                  refine anyT_one (i := 19) (by kernel_rfl) rfl (fun K' hK => ?_)
                  go_simp
                  refine hK.out _ _ (fun h => absurd rfl h) ?_
                  clear hK K'
                  try simp only [Act.put, List.setIfInBounds_toArray, List.set_cons_zero, List.set_cons_succ]
                  refine anyT_done (by kernel_rfl) ?_ _
                  go_wp2
                  go_roundw
                  case rel => exact ⟨i + 1, by omega, by go_num, by rw [Hsn.out, Hput.out]; exact kA.set _ _, kU.setCell (p := ⟨wr.heap.size, pa, none⟩) (.inr rfl) _⟩
                  case measure => simp [intOf]; omega
                · have hbit : bitI (s : Int) (i : Int) = 1 := by
                    unfold bitI bitB
                    rw [Int.toNat_natCast, Int.toNat_natCast, htb]; rfl
                  rw [show arcM zs s i = (pb, pa) by rw [Harc.out, htb]; rfl] at hok
                  rw [show arcM zs s i = (pb, pa) by rw [Harc.out, htb]; rfl] at Hsn
                  obtain ⟨hxn, hyn, -⟩ := hok
                  simp only at hxn hyn
                  clear htb
                  have hcs := hA.cell (k := pb) (by rw [Hml.out]; exact hxn)
                  have hfs := hA.frozen pb
                  have hfx := hfit pb
                  have hpy := powI_lt hyn
                  have hpy0 := powI_pos (pa : Int)
                  have hor : bits .or .i64 ((mS zs s i)[pb]?.getD 0) (powI (pa : Int)) = orI ((mS zs s i)[pb]?.getD 0) (powI (pa : Int)) := bits_or (by omega) (by omega) (by omega) (by omega)
                  have Hq := Lib.hid (fun W => bit_any (s : Int) (i : Int) W (by omega) (by omega) (by omega) (by omega))
                  rw [hbit] at Hq
                  have Hpw := Lib.hid (fun W => power_any (pa : Int) W (by omega) (by omega))
                  have Hput := Lib.hid (show putB (mS zs s i) pb pa = (mS zs s i).set pb (orI ((mS zs s i)[pb]?.getD 0) (powI (pa : Int))) from rfl)
                  clear hbit hfit
                  generalize mS zs s i = D at *
                  generalize D[pb]?.getD 0 = cur at *
                  go_wp2
                  go_quiet ((go_at_call 63; exact quiet_zero' (Hq.out _)))
                  go_wp2
                  have kcell : (wx.drewN nq).drew.cell? ⟨b0, off + i, none⟩ = some (.slice (some ⟨b1, o1, none⟩) 2 c'') := hcell
                  have kcs : (wx.drewN nq).drew.cell? ⟨wr.heap.size, pb, none⟩ = some (.int .i64 cur) := hcs
                  have kfs : (wx.drewN nq).drew.frozen? ⟨wr.heap.size, pb, none⟩ = false := hfs
                  have ky : (wx.drewN nq).drew.cell? ⟨b1, o1, none⟩ = some (.int .i64 (pa : Int)) := hp0
                  have kA : Arr (wx.drewN nq).drew wr.heap.size 3 D := hA
                  have kU : Upd (fun k => k = wr.heap.size) W3 (wx.drewN nq).drew := (hU.drewN nq).drew
                  refine region_T (S := (fun w' => w'.cell? ⟨b0, off + i, none⟩ = some (.slice (some ⟨b1, o1, none⟩) 2 c'') ∧ w'.cell? ⟨wr.heap.size, pb, none⟩ = some (.int .i64 cur) ∧ w'.cell? ⟨b1, o1, none⟩ = some (.int .i64 (pa : Int)))) 19 (by kernel_rfl) ?_
                  obtain ⟨Wd, hWd⟩ : ∃ Wd, (wx.drewN nq).drew = Wd := ⟨_, rfl⟩
                  rw [hWd] at kcell kcs kfs ky kA kU ⊢
                  clear hWd hcell hcs hfs hp0 hp1
                  have ky2 : Wd.cell? ⟨b1, o1 + (IntKind.i64.wrap 0).toNat, none⟩ = some (.int .i64 (pa : Int)) := by rw [show (IntKind.i64.wrap 0).toNat = 0 by decide]; exact ky
                  have hSd : (fun w' => w'.cell? ⟨b0, off + i, none⟩ = some (.slice (some ⟨b1, o1, none⟩) 2 c'') ∧ w'.cell? ⟨wr.heap.size, pb, none⟩ = some (.int .i64 cur) ∧ w'.cell? ⟨b1, o1, none⟩ = some (.int .i64 (pa : Int))) Wd := ⟨kcell, kcs, ky⟩
                  refine anyT_take (i := 0) (oi := ?oi0r) (v := .slice (some ⟨wr.heap.size, 0, none⟩) a a) ?hi0r (by kernel_rfl) ?hq0r ?hy0r (by assumption) ?rest0r
                  case hi0r => (simp only [List.getElem?_toArray, List.getElem?_cons_zero]; first | done | rfl)
                  case hq0r => first | exact fun _ _ _ h => h | exact fun _ _ _ h => (by cases h.1)
                  case hy0r => (refine Or.inl ⟨by rfl, ?_⟩; intro wz hSw; obtain ⟨hS1, hS2, hS3⟩ := hSw; go_simp; first | done | with_reducible rfl | simp | omega)
                  try simp only [Act.put, List.setIfInBounds_toArray, List.set_cons_zero, List.set_cons_succ]
                  refine anyT_take (i := 1) (oi := ?oi1r) (v := .int .i64 (pb : Int)) ?hi1r (by kernel_rfl) ?hq1r ?hy1r (by assumption) ?rest1r
                  case hi1r => (simp only [List.getElem?_toArray, List.getElem?_cons_succ, List.getElem?_cons_zero]; first | done | rfl)
                  case hq1r => first | exact fun _ _ _ h => h | exact fun _ _ _ h => (by cases h.1)
                  case hy1r => (refine Or.inl ⟨by rfl, ?_⟩; intro wz hSw; obtain ⟨hS1, hS2, hS3⟩ := hSw; go_simp; first | done | with_reducible rfl | simp | omega)
                  try simp only [Act.put, List.setIfInBounds_toArray, List.set_cons_zero, List.set_cons_succ]
                  refine anyT_take (i := 2) (oi := ?oi2r) (v := .slice (some ⟨wr.heap.size, 0, none⟩) a a) ?hi2r (by kernel_rfl) ?hq2r ?hy2r (by assumption) ?rest2r
                  case hi2r => (simp only [List.getElem?_toArray, List.getElem?_cons_succ, List.getElem?_cons_zero]; first | done | rfl)
                  case hq2r => first | exact fun _ _ _ h => h | exact fun _ _ _ h => (by cases h.1)
                  case hy2r => (refine Or.inl ⟨by rfl, ?_⟩; intro wz hSw; obtain ⟨hS1, hS2, hS3⟩ := hSw; go_simp; first | done | with_reducible rfl | simp | omega)
                  try simp only [Act.put, List.setIfInBounds_toArray, List.set_cons_zero, List.set_cons_succ]
                  refine anyT_take (i := 3) (oi := ?oi3r) (v := .int .i64 (pb : Int)) ?hi3r (by kernel_rfl) ?hq3r ?hy3r (by assumption) ?rest3r
                  case hi3r => (simp only [List.getElem?_toArray, List.getElem?_cons_succ, List.getElem?_cons_zero]; first | done | rfl)
                  case hq3r => first | exact fun _ _ _ h => h | exact fun _ _ _ h => (by cases h.1)
                  case hy3r => (refine Or.inl ⟨by rfl, ?_⟩; intro wz hSw; obtain ⟨hS1, hS2, hS3⟩ := hSw; go_simp; first | done | with_reducible rfl | simp | omega)
                  try simp only [Act.put, List.setIfInBounds_toArray, List.set_cons_zero, List.set_cons_succ]
                  refine anyT_take (i := 4) (oi := ?oi4r) (v := .pointer (some ⟨wr.heap.size, pb, none⟩)) ?hi4r (by kernel_rfl) ?hq4r ?hy4r (by assumption) ?rest4r
                  case hi4r => (simp only [List.getElem?_toArray, List.getElem?_cons_succ, List.getElem?_cons_zero]; first | done | rfl)
                  case hq4r => first | exact fun _ _ _ h => h | exact fun _ _ _ h => (by cases h.1)
                  case hy4r => (refine Or.inl ⟨by rfl, ?_⟩; intro wz hSw; obtain ⟨hS1, hS2, hS3⟩ := hSw; go_simp; first | done | with_reducible rfl | simp | omega)
                  try simp only [Act.put, List.setIfInBounds_toArray, List.set_cons_zero, List.set_cons_succ]
                  refine anyT_take (i := 5) (oi := ?oi5r) (v := .int .i64 cur) ?hi5r (by kernel_rfl) ?hq5r ?hy5r (by assumption) ?rest5r
                  case hi5r => (simp only [List.getElem?_toArray, List.getElem?_cons_succ, List.getElem?_cons_zero]; first | done | rfl)
                  case hq5r => first | exact fun _ _ _ h => h | exact fun _ _ _ h => (by cases h.1)
                  case hy5r => (refine Or.inl ⟨by rfl, ?_⟩; intro wz hSw; obtain ⟨hS1, hS2, hS3⟩ := hSw; go_simp; first | done | with_reducible rfl | simp | omega)
                  try simp only [Act.put, List.setIfInBounds_toArray, List.set_cons_zero, List.set_cons_succ]
                  refine anyT_take (i := 6) (oi := ?oi6r) (v := .slice (some ⟨b0, off, none⟩) m cp) ?hi6r (by kernel_rfl) ?hq6r ?hy6r (by assumption) ?rest6r
                  case hi6r => (simp only [List.getElem?_toArray, List.getElem?_cons_succ, List.getElem?_cons_zero]; first | done | rfl)
                  case hq6r => first | exact fun _ _ _ h => h | exact fun _ _ _ h => (by cases h.1)
                  case hy6r => (refine Or.inl ⟨by rfl, ?_⟩; intro wz hSw; obtain ⟨hS1, hS2, hS3⟩ := hSw; go_simp; first | done | with_reducible rfl | simp | omega)
                  try simp only [Act.put, List.setIfInBounds_toArray, List.set_cons_zero, List.set_cons_succ]
                  refine anyT_take (i := 7) (oi := ?oi7r) (v := .int .i64 (i : Int)) ?hi7r (by kernel_rfl) ?hq7r ?hy7r (by assumption) ?rest7r
                  case hi7r => (simp only [List.getElem?_toArray, List.getElem?_cons_succ, List.getElem?_cons_zero]; first | done | rfl)
                  case hq7r => first | exact fun _ _ _ h => h | exact fun _ _ _ h => (by cases h.1)
                  case hy7r => (refine Or.inl ⟨by rfl, ?_⟩; intro wz hSw; obtain ⟨hS1, hS2, hS3⟩ := hSw; go_simp; first | done | with_reducible rfl | simp | omega)
                  try simp only [Act.put, List.setIfInBounds_toArray, List.set_cons_zero, List.set_cons_succ]
                  refine anyT_take (i := 8) (oi := ?oi8r) (v := .pointer (some ⟨b0, off + i, none⟩)) ?hi8r (by kernel_rfl) ?hq8r ?hy8r (by assumption) ?rest8r
                  case hi8r => (simp only [List.getElem?_toArray, List.getElem?_cons_succ, List.getElem?_cons_zero]; first | done | rfl)
                  case hq8r => first | exact fun _ _ _ h => h | exact fun _ _ _ h => (by cases h.1)
                  case hy8r => (refine Or.inl ⟨by rfl, ?_⟩; intro wz hSw; obtain ⟨hS1, hS2, hS3⟩ := hSw; go_simp; first | done | with_reducible rfl | simp | omega)
                  try simp only [Act.put, List.setIfInBounds_toArray, List.set_cons_zero, List.set_cons_succ]
                  refine anyT_take (i := 9) (oi := ?oi9r) (v := .slice (some ⟨b1, o1, none⟩) 2 c'') ?hi9r (by kernel_rfl) ?hq9r ?hy9r (by assumption) ?rest9r
                  case hi9r => (simp only [List.getElem?_toArray, List.getElem?_cons_succ, List.getElem?_cons_zero]; first | done | rfl)
                  case hq9r => first | exact fun _ _ _ h => h | exact fun _ _ _ h => (by cases h.1)
                  case hy9r => (refine Or.inl ⟨by rfl, ?_⟩; intro wz hSw; obtain ⟨hS1, hS2, hS3⟩ := hSw; go_simp; first | done | with_reducible rfl | simp | omega)
                  try simp only [Act.put, List.setIfInBounds_toArray, List.set_cons_zero, List.set_cons_succ]
                  refine anyT_take (i := 10) (oi := ?oi10r) (v := .int .i64 (s : Int)) ?hi10r (by kernel_rfl) ?hq10r ?hy10r (by assumption) ?rest10r
                  case hi10r => (simp only [List.getElem?_toArray, List.getElem?_cons_succ, List.getElem?_cons_zero]; first | done | rfl)
                  case hq10r => first | exact fun _ _ _ h => h | exact fun _ _ _ h => (by cases h.1)
                  case hy10r => (refine Or.inl ⟨by rfl, ?_⟩; intro wz hSw; obtain ⟨hS1, hS2, hS3⟩ := hSw; go_simp; first | done | with_reducible rfl | simp | omega)
                  try simp only [Act.put, List.setIfInBounds_toArray, List.set_cons_zero, List.set_cons_succ]
                  refine anyT_take (i := 11) (oi := ?oi11r) (v := .int .i64 (i : Int)) ?hi11r (by kernel_rfl) ?hq11r ?hy11r (by assumption) ?rest11r
                  case hi11r => (simp only [List.getElem?_toArray, List.getElem?_cons_succ, List.getElem?_cons_zero]; first | done | rfl)
                  case hq11r => first | exact fun _ _ _ h => h | exact fun _ _ _ h => (by cases h.1)
                  case hy11r => (refine Or.inl ⟨by rfl, ?_⟩; intro wz hSw; obtain ⟨hS1, hS2, hS3⟩ := hSw; go_simp; first | done | with_reducible rfl | simp | omega)
                  try simp only [Act.put, List.setIfInBounds_toArray, List.set_cons_zero, List.set_cons_succ]
                  refine anyT_one (i := 12) (by kernel_rfl) rfl (fun K' hK => ?_)
                  go_simp
                  refine (Hq.out _).mono ?_
                  rintro e w' ⟨rfl, rfl⟩
                  refine hK.out _ _ (fun _ => hSd) ?_
                  clear hK K'
                  try simp only [Act.put, List.setIfInBounds_toArray, List.set_cons_zero, List.set_cons_succ]
                  refine anyT_one (i := 13) (by kernel_rfl) rfl (fun K' hK => ?_)
                  go_simp
                  refine hK.out _ _ (fun _ => hSd) ?_
                  clear hK K'
                  try simp only [Act.put, List.setIfInBounds_toArray, List.set_cons_zero, List.set_cons_succ]
                  refine anyT_one (i := 14) (by kernel_rfl) rfl (fun K' hK => ?_)
                  go_simp
                  refine hK.out _ _ (fun _ => hSd) ?_
                  clear hK K'
                  try simp only [Act.put, List.setIfInBounds_toArray, List.set_cons_zero, List.set_cons_succ]
                  refine anyT_one (i := 15) (by kernel_rfl) rfl (fun K' hK => ?_)
                  go_simp
                  refine hK.out _ _ (fun _ => hSd) ?_
                  clear hK K'
                  try simp only [Act.put, List.setIfInBounds_toArray, List.set_cons_zero, List.set_cons_succ]
                  refine anyT_one (i := 16) (by kernel_rfl) rfl (fun K' hK => ?_)
                  go_simp
                  refine (Hpw.out _).mono ?_
                  rintro e w' ⟨rfl, rfl⟩
                  refine hK.out _ _ (fun _ => hSd) ?_
                  clear hK K'
                  try simp only [Act.put, List.setIfInBounds_toArray, List.set_cons_zero, List.set_cons_succ]
                  refine anyT_one (i := 17) (by kernel_rfl) rfl (fun K' hK => ?_)
                  go_simp
                  refine hK.out _ _ (fun _ => hSd) ?_
                  clear hK K'
                  try simp only [Act.put, List.setIfInBounds_toArray, List.set_cons_zero, List.set_cons_succ]
                  refine anyT_one (i := 18) (by kernel_rfl) rfl (fun K' hK => ?_)
                  go_simp
                  refine hK.out _ _ (fun _ => hSd) ?_
                  clear hK K'
                  try simp only [Act.put, List.setIfInBounds_toArray, List.set_cons_zero, List.set_cons_succ]
                  refine anyT_one (i := 19) (by kernel_rfl) rfl (fun K' hK => ?_)
                  go_simp
                  refine hK.out _ _ (fun h => absurd rfl h) ?_
                  clear hK K'
                  try simp only [Act.put, List.setIfInBounds_toArray, List.set_cons_zero, List.set_cons_succ]
                  refine anyT_done (by kernel_rfl) ?_ _
                  go_wp2
                  go_roundw
                  case rel => exact ⟨i + 1, by omega, by go_num, by rw [Hsn.out, Hput.out]; exact kA.set _ _, kU.setCell (p := ⟨wr.heap.size, pb, none⟩) (.inr rfl) _⟩
                  case measure => simp [intOf]; omega
              · obtain rfl : i = m := by omega
                rw [HmF.out] at hA
                have hFl : (mF zs s).length = a := by rw [← HmF.out, mS_len, hlen.out]
                have hIF := hA.ints' hA.lt hFl
                have hg' : ∀ T g, Arr wr g 3 T → Arr wx g 3 T := fun T g hh => (hh.upd hu3 (fun e => e)).upd hU (fun e => by have := hh.lt; omega)
                have Hg := Lib.hid hg'
                clear hg'
                cases hvm : vo (mF zs s)
                · have Hs1 := Lib.hid (show bestS zs (s + 1) = bestS zs s by rw [Hstep.out, hvm]; rfl)
                  have Hvm := Lib.hid hvm
                  clear hvm
                  go_wp2_with fail
                  refine (validOrder_any _ _ _ _ (mF zs s) _ hIF (by omega)).mono ?_
                  rw [Hvm.out]
                  rintro e w' ⟨rfl, q1, rfl⟩
                  go_wp2_with fail
                  go_roundw
                  case rel => exact ⟨s + 1, by omega, by go_num, hUx.drewN q1, by
                    rcases Hb.out with ⟨h1, h2⟩ | ⟨T, g, h1, h2, h3, h4, h5⟩
                    · exact .inl ⟨by rw [Hs1.out]; exact h1, h2⟩
                    · exact .inr ⟨T, g, by rw [Hs1.out]; exact h1, h2, h3, h4, (Hg.out T g h5).drewN q1⟩⟩
                  case measure => simp [intOf]; omega
                · have Hvm := Lib.hid hvm
                  clear hvm
                  rcases Hb.out with ⟨h1, rfl⟩ | ⟨T, g, h1, rfl, rfl, hg0, hAT⟩
                  · have Hs1 := Lib.hid (show bestS zs (s + 1) = some (mF zs s) by rw [Hstep.out, Hvm.out, h1]; rfl)
                    go_wp2_with fail
                    refine (validOrder_any _ _ _ _ (mF zs s) _ hIF (by omega)).mono ?_
                    rw [Hvm.out]
                    rintro e w' ⟨rfl, q1, rfl⟩
                    go_wp2_with fail
                    go_roundw
                    case rel => exact ⟨s + 1, by omega, by go_num, hUx.drewN q1, .inr ⟨_, _, Hs1.out, rfl, rfl, by omega, hA.drewN q1⟩⟩
                    case measure => simp [intOf]; omega
                  · have hAT2 := Hg.out T g hAT
                    have hTl : T.length = a := by
                      obtain ⟨⟨s0, _, e0⟩, _, _⟩ := (best_inv (zs := zs) s).2 T h1
                      rw [e0, ← HmF.out, mS_len, hlen.out]
                    have hIT := hAT2.ints' hAT2.lt hTl
                    have Hless := Lib.hid (fun q => less_any (some ⟨wr.heap.size, 0, none⟩) a a _ (mF zs s) (some ⟨g, 0, none⟩) a _ T (wx.drewN q) (hIF.drewN q) (hIT.drewN q) (by omega))
                    cases hx : lexB (mF zs s) T
                    · have Hs1 := Lib.hid (show bestS zs (s + 1) = some T by rw [Hstep.out, Hvm.out, h1]; simp only [hx]; rfl)
                      have Hx := Lib.hid hx
                      clear hx
                      go_wp2_with fail
                      refine (validOrder_any _ _ _ _ (mF zs s) _ hIF (by omega)).mono ?_
                      rw [Hvm.out]
                      rintro e w' ⟨rfl, q1, rfl⟩
                      go_wp2_with fail
                      refine (Hless.out q1).mono ?_
                      rw [Hx.out]
                      rintro e w' ⟨rfl, q2, rfl⟩
                      go_wp2_with fail
                      go_roundw
                      case rel => exact ⟨s + 1, by omega, by go_num, hUx.drewN _, .inr ⟨_, _, Hs1.out, rfl, rfl, hg0, hAT2.drewN _⟩⟩
                      case measure => simp [intOf]; omega
                    · have Hs1 := Lib.hid (show bestS zs (s + 1) = some (mF zs s) by rw [Hstep.out, Hvm.out, h1]; simp only [hx]; rfl)
                      have Hx := Lib.hid hx
                      clear hx
                      go_wp2_with fail
                      refine (validOrder_any _ _ _ _ (mF zs s) _ hIF (by omega)).mono ?_
                      rw [Hvm.out]
                      rintro e w' ⟨rfl, q1, rfl⟩
                      go_wp2_with fail
                      refine (Hless.out q1).mono ?_
                      rw [Hx.out]
                      rintro e w' ⟨rfl, q2, rfl⟩
                      go_wp2_with fail
                      go_roundw
                      case rel => exact ⟨s + 1, by omega, by go_num, hUx.drewN _, .inr ⟨_, _, Hs1.out, rfl, rfl, by omega, hA.drewN _⟩⟩
                      case measure => simp [intOf]; omega
          · obtain rfl : s = N := by omega
            rw [Hbest.out] at Hb
            have hend : ¬ (s : Int) < (s : Int) := by omega
            rcases Hb.out with ⟨hn, rfl⟩ | ⟨T, g, hT, rfl, rfl, hg, hAT⟩
            · have Ho := Lib.hid (show sdOk zs = false by unfold sdOk; rw [hn]; simp)
              go_wp2_with fail
              refine (powerBig_any (m : Int) wr (by omega) (by omega)).mono ?_
              rw [Hpow.out]
              rintro e w' ⟨rfl, rfl⟩
              go_wp2_with fail
              go_ret2
              exact none_sd Ho.out ((hU.trans' hU2 (fun i hi e => e.elim)).toBelow (fun _ e => e) (Nat.le_refl _))
            · have Ho := Lib.hid (show sdOk zs = true by unfold sdOk; rw [hT, Hv.out]; rfl)
              have hTl := (sdF_some hvo hT).1.len
              have Hr := Lib.hid (show sdR zs = T by unfold sdR; rw [Ho.out, hT]; rfl)
              go_wp2_with fail
              refine (powerBig_any (m : Int) wr (by omega) (by omega)).mono ?_
              rw [Hpow.out]
              rintro e w' ⟨rfl, rfl⟩
              go_wp2_with fail
              go_ret2
              exact ⟨_, a, a, by rw [Ho.out]; rfl, by rw [Hr.out]; exact Row.of hAT (by rw [hTl, hlen.out]) (by omega) hAT.lt, (hU.trans' hU2 (fun i hi e => e.elim)).toBelow (fun _ e => e) (Nat.le_refl _)⟩
end Go.Proofs.Ytghogabmkbadjab

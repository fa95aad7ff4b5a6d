/- OrderOf: the program's and the model's. -/
import Derived.Test.YtgeicciieagbgaaFollow
import Derived.Test.YtgeicciieagbgaaTable
namespace Go.Proofs.Ytgeicciieagbgaa
open Go.RowKit Go.Shelf

/-- Whether a row is a pair of numbers of items. -/
def pairOk (n : Int) (r : List Int) : Bool := decide (r.length = 2) && inB (r[0]?.getD 0) 0 (n - 1) && inB (r[1]?.getD 0) 0 (n - 1)
def prOf (r : List Int) : Nat × Nat := ((r[1]?.getD 0).toNat, (r[0]?.getD 0).toNat)
def baseR (n : Nat) (rs : List (List Int)) : List Int := downP n (rs.map prOf)
def closR (n : Nat) (rs : List (List Int)) : List Int := folTo n (baseR n rs) n
def ordOk (n : Int) (rs : List (List Int)) : Bool := inB n 0 6 && rs.all (pairOk n) && vo (closR n.toNat rs)
def ordL (n : Int) (rs : List (List Int)) : List Int := if ordOk n rs then closR n.toNat rs else []
def GivesOrder (w : World) (n : Int) (rs : List (List Int)) (e : Ending) (w' : World) : Prop :=
  ∃ A m c, e = .returned (.tuple #[.slice A m c, .bool (ordOk n rs)]) ∧ Row w' w.heap.size w'.heap.size A m (ordL n rs) ∧ Below w.heap.size w w'

theorem inB_iff {a l h : Int} : inB a l h = true ↔ l ≤ a ∧ a ≤ h := by simp [inB]
theorem pairOk_iff {n : Int} {r : List Int} : pairOk n r = true ↔ r.length = 2 ∧ ((0 : Int) ≤ r[0]?.getD 0 ∧ r[0]?.getD 0 ≤ n - 1) ∧ ((0 : Int) ≤ r[1]?.getD 0 ∧ r[1]?.getD 0 ≤ n - 1) := by
  simp [pairOk, inB_iff, and_assoc]
theorem baseR_fit {n : Nat} {rs : List (List Int)} (h : ∀ r ∈ rs, pairOk n r = true) : Fit n (baseR n rs) ∧ Sets (baseR n rs) ∨ 6 < n := by
  by_cases hn : n ≤ 6
  · have hf : Fit n (baseR n rs) := base_fit (fun p hp => by
      obtain ⟨r, hr, rfl⟩ := List.mem_map.1 hp
      have := pairOk_iff.1 (h r hr)
      show (r[1]?.getD 0).toNat < n
      omega)
    exact .inl ⟨hf, by rw [hf.1]; exact hn, fun a _ => by rw [hf.1]; exact hf.2 a⟩
  · exact .inr (by omega)
theorem baseR_snoc (n : Nat) (rs : List (List Int)) (r : List Int) : baseR n (rs ++ [r]) = (baseR n rs).set (r[0]?.getD 0).toNat (orI ((baseR n rs)[(r[0]?.getD 0).toNat]?.getD 0) (powI (r[1]?.getD 0).toNat)) := by
  rw [baseR, List.map_append, List.map_singleton, downP_snoc]; rfl
theorem take_snoc {rs : List (List Int)} {k : Nat} (hk : k < rs.length) : rs.take k ++ [rs[k]?.getD []] = rs.take (k + 1) := by
  rw [List.take_succ_eq_append_getElem hk, List.getElem?_eq_getElem hk]; rfl
theorem fit_sets {n : Nat} {d : List Int} (h : Fit n d) (hn : n ≤ 6) : Sets d := ⟨by rw [h.1]; exact hn, fun a _ => by rw [h.1]; exact h.2 a⟩
theorem ord_no {n : Int} {rs : List (List Int)} {k : Nat} (hk : k < rs.length) (h : pairOk n (rs[k]?.getD []) = false) : ordOk n rs = false := by
  unfold ordOk
  rw [List.getElem?_eq_getElem hk, Option.getD_some] at h
  have : rs.all (pairOk n) = false := by
    rw [Bool.eq_false_iff]
    intro ha
    rw [List.all_eq_true.1 ha _ (List.getElem_mem hk)] at h
    cases h
  rw [this]; simp
theorem none_order {w w' : World} {n : Int} {rs : List (List Int)} (h : ordOk n rs = false) (hB : Below w.heap.size w w') : GivesOrder w n rs (.returned (.tuple #[.slice none 0 0, .bool false])) w' :=
  ⟨none, 0, 0, by rw [h], by rw [ordL, h]; exact Row.nil _ _ _ _, hB⟩

theorem isPairOf_any (A : Option Addr) (m c B : Nat) (n : Int) (r : List Int) (w : World) (h : Ints w B A m r) (hm : m ≤ 1152921504606846976) :
    Calls Try.prog 78 #[.int .i64 n, .slice A m c] w fun e w' => e = .returned (.bool (pairOk n r)) ∧ w = w' := by
  have hlen := Lib.hid h.len
  by_cases hm2 : m = 2
  · subst hm2
    obtain ⟨b, off, rfl, hb, hc⟩ := h.at_ (k := 0) (by omega)
    have h0 := hc 0 (by omega)
    have h1 := hc 1 (by omega)
    rw [Nat.add_zero] at h0
    clear hc
    have hp : pairOk n r = (inB (r[0]?.getD 0) 0 (n - 1) && inB (r[1]?.getD 0) 0 (n - 1)) := by simp [pairOk, hlen.out]
    have Hp := Lib.hid hp
    clear hp
    generalize r[0]?.getD 0 = x at *
    generalize r[1]?.getD 0 = y at *
    cases hx : inB x 0 (n - 1)
    · have Hx := Lib.hid hx
      clear hx
      go_enter Try.func78, Try.ntmps78
      go_wp2_with (go_at_call 110; refine (isItemOf_any _ _ _).mono ?_; try rw [Hx.out]; rintro e w' ⟨rfl, rfl⟩)
      go_ret
      exact ⟨ret_bool (by rw [Hp.out, Hx.out]; rfl), rfl⟩
    · have Hx := Lib.hid hx
      clear hx
      cases hy : inB y 0 (n - 1)
      all_goals
        have Hy := Lib.hid hy
        clear hy
        go_enter Try.func78, Try.ntmps78
        go_wp2_with (go_at_call 110; refine (isItemOf_any _ _ _).mono ?_; (first | rw [Hx.out] | rw [Hy.out]); rintro e w' ⟨rfl, rfl⟩)
        go_ret
        exact ⟨ret_bool (by rw [Hp.out, Hx.out, Hy.out]; rfl), rfl⟩
  · have hp : pairOk n r = false := by simp [pairOk, hlen.out, hm2]
    have hmi : ((m : Int) == 2) = false := by simp; omega
    go_enter Try.func78, Try.ntmps78
    go_wp2
    go_ret
    exact ⟨ret_bool hp.symm, rfl⟩

set_option maxRecDepth 100000 in
set_option maxHeartbeats 4000000 in
theorem OrderOf_any (n : Int) (A : Option Addr) (m c : Nat) (rs : List (List Int)) (w : World) (h : IntsS w w.heap.size A m rs) (hm : m ≤ 1048576) (hr : ∀ r ∈ rs, r.length ≤ 1048576) :
    Calls Try.prog 26 #[.int .i64 n, .slice A m c] w (GivesOrder w n rs) := by
  have hlen := Lib.hid h.len
  by_cases hn0 : n < 0
  · have Ho := Lib.hid (show ordOk n rs = false by simp [ordOk, inB]; omega)
    go_enter Try.func26, Try.ntmps26
    go_wp2
    go_ret2
    exact none_order Ho.out (Below.refl _ _)
  by_cases hn6 : 6 < n
  · have Ho := Lib.hid (show ordOk n rs = false by simp [ordOk, inB]; omega)
    go_enter Try.func26, Try.ntmps26
    go_wp2
    go_ret2
    exact none_order Ho.out (Below.refl _ _)
  obtain ⟨N, rfl⟩ := Int.eq_ofNat_of_zero_le (show 0 ≤ n by omega)
  have hN : N ≤ 6 := by omega
  have hmk := run_make_row' (P := Try.prog) 49 54 (.int .i64 0) 8 Try.underlying49 infoItems rfl .i64 .i64 N (by omega) (by omega)
  go_enter Try.func26, Try.ntmps26
  go_wp2
  have hA1 := Arr.new w 54 N
  have hB1 : Below w.heap.size w (w.alloc (.cells (madeCells #[.int .i64 0] N) 54)) := (Below.refl _ _).alloc (Nat.le_refl _) _
  obtain ⟨W1, hW1⟩ : ∃ W1, w.alloc (.cells (madeCells #[.int .i64 0] N) 54) = W1 := ⟨_, rfl⟩
  rw [hW1] at hA1 hB1 ⊢
  clear hW1 hmk
  go_loopw [19] (fun i wr => ∃ k : Nat, k ≤ m ∧ i = .int .i64 k ∧ (∀ r ∈ rs.take k, pairOk N r = true) ∧ Arr wr w.heap.size 54 (baseR N (rs.take k)) ∧ Below w.heap.size w wr) (fun i _ => m - (intOf i).toNat)
  case atStart => exact ⟨0, by omega, rfl, (fun r hr => by simp at hr), hA1, hB1⟩
  case round =>
    obtain ⟨k, hk, rfl, hall, hAr, hB⟩ := hrel
    by_cases hlt : k < m
    · have hkl := Lib.hid (show k < rs.length by rw [hlen.out]; exact hlt)
      obtain ⟨b, off, rfl, hb, hc⟩ := (h.below hB).at_ hlt
      obtain ⟨A', c', hcell, hI⟩ := hc k hlt
      have Hc := Lib.hid hc
      clear hc
      have Hts := Lib.hid (take_snoc hkl.out)
      have hml : (rs[k]?.getD []).length ≤ 1048576 := by
        rw [List.getElem?_eq_getElem hkl.out]
        exact hr _ (List.getElem_mem _)
      have hno := fun hp => ord_no (n := N) (rs := rs) hkl.out hp
      generalize rs[k]?.getD [] = r at *
      cases hp : pairOk N r
      · have Ho := Lib.hid (hno hp)
        have Hp := Lib.hid hp
        clear hp hno
        go_wp2_with (go_at_call 78; refine (isPairOf_any A' _ _ _ _ _ _ hI (by omega)).mono ?_; rw [Hp.out]; rintro e w' ⟨rfl, rfl⟩)
        go_ret2
        exact none_order Ho.out hB
      · have Hp := Lib.hid hp
        obtain ⟨h2, h0, h1⟩ := pairOk_iff.1 hp
        clear hp hno
        have hI2 : Ints wr w.heap.size A' 2 r := by rw [h2] at hI; exact hI
        rw [h2] at hcell
        obtain ⟨b', off', rfl, hb', hc'⟩ := hI2.at_ (k := 0) (by omega)
        have hc0 := hc' 0 (by omega)
        have hc1 := hc' 1 (by omega)
        rw [Nat.add_zero] at hc0
        clear hc'
        have Hs := Lib.hid (baseR_snoc N (rs.take k) r)
        have Hall := Lib.hid (show ∀ r' ∈ rs.take k ++ [r], pairOk N r' = true from fun r' hr' => by
          rcases List.mem_append.1 hr' with h9 | h9
          · exact hall r' h9
          · rw [List.mem_singleton.1 h9]; exact Hp.out)
        obtain ⟨hfit, -⟩ : Fit N (baseR N (rs.take k)) ∧ Sets (baseR N (rs.take k)) := (baseR_fit hall).resolve_right (by omega)
        generalize r[0]?.getD 0 = x0 at *
        generalize r[1]?.getD 0 = y0 at *
        obtain ⟨x, rfl⟩ := Int.eq_ofNat_of_zero_le h0.1
        obtain ⟨y, rfl⟩ := Int.eq_ofNat_of_zero_le h1.1
        have hx : x < N := by omega
        have hy : y < N := by omega
        clear h0 h1
        simp only [Int.toNat_natCast] at Hs
        have hcs := hAr.cell (k := x) (by rw [hfit.1]; exact hx)
        have hfs := hAr.frozen x
        have hbd := hfit.2 x
        have hpn := powI_le6 (n := (N : Int)) (by omega)
        clear hfit
        generalize hD : baseR N (rs.take k) = D at *
        have HD := Lib.hid hD
        clear hD
        go_wp2_with (go_at_call 78; refine (isPairOf_any _ _ _ _ _ _ _ hI2 (by omega)).mono ?_; rw [Hp.out]; rintro e w' ⟨rfl, rfl⟩)
        go_region_with ((go_at_call 79; refine (with_any _ _ _ (by omega) (by omega) (by omega) (by omega)).mono ?_; rintro e w' ⟨rfl, rfl⟩))
        all_goals
          go_wp2
          go_roundw
          case rel => exact ⟨k + 1, by omega, by go_num, by rw [← Hts.out]; exact Hall.out, by rw [← Hts.out, Hs.out]; exact hAr.set _ _, (hB.setCell (p := ⟨w.heap.size, x, none⟩) (Nat.le_refl _) _).drew⟩
          case measure => simp [intOf]; omega
    · obtain rfl : k = m := by omega
      have htk : rs.take k = rs := List.take_of_length_le (by rw [hlen.out]; exact Nat.le_refl _)
      rw [htk] at hall hAr
      obtain ⟨hfit, -⟩ : Fit N (baseR N rs) ∧ Sets (baseR N rs) := (baseR_fit hall).resolve_right (by omega)
      have Hok := Lib.hid (show ordOk N rs = vo (closR N rs) by
        rw [ordOk, show rs.all (pairOk N) = true from List.all_eq_true.2 hall, show inB (N : Int) 0 6 = true from inB_iff.2 ⟨by omega, by omega⟩]; simp)
      have Hf := Lib.hid (folTo_fit hfit N)
      have Hset := Lib.hid (fit_sets Hf.out hN)
      have zB := hB.size
      go_wp2_with fail
      refine (addWhatFollows_any _ N _ _ hAr hfit hN).mono ?_
      rintro e w2 ⟨⟨v, rfl⟩, hA2, hU2⟩
      have z2 := hU2.size
      have hB2 : Below w.heap.size w w2 := hB.trans (hU2.toBelow (fun k e => by omega) zB)
      go_wp2_with fail
      refine (isOrder_any _ N N _ Hset.out w2 (hA2.ints' hA2.lt Hf.out.1)).mono ?_
      rintro e w3 ⟨rfl, hB3⟩
      have hl2 := hA2.lt
      have hA3 := hA2.below hB3 hl2
      have z3 := hB3.size
      have hB3' := hB2.trans (hB3.mono (by omega))
      have Hiv := Lib.hid (iso_vo Hset.out)
      cases hvo : vo (closR N rs)
      · have Hv := Lib.hid (show iso (folTo N (baseR N rs) N) = false by rw [Hiv.out]; exact hvo)
        have Ho := Lib.hid (show ordOk N rs = false by rw [Hok.out]; exact hvo)
        clear hvo
        rw [Hv.out]
        go_wp2
        go_ret2
        exact none_order Ho.out hB3'
      · have Hv := Lib.hid (show iso (folTo N (baseR N rs) N) = true by rw [Hiv.out]; exact hvo)
        have Ho := Lib.hid (show ordOk N rs = true by rw [Hok.out]; exact hvo)
        clear hvo
        rw [Hv.out]
        go_wp2_with fail
        refine (list_any _ N _ _ w3 (hA3.ints' hA3.lt Hf.out.1) (by omega)).mono ?_
        rintro e w4 ⟨rfl, hA4, hB4⟩
        go_wp2_with fail
        go_ret2
        exact ⟨_, N, N, by rw [Ho.out]; rfl, by rw [ordL, Ho.out]; exact Row.of hA4 Hf.out.1 (by omega) hA4.lt, hB3'.trans (hB4.mono (by omega))⟩
end Go.Proofs.Ytgeicciieagbgaa

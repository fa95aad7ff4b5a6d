/- Texts that several claims share, one behind the other. -/
import Derived.Test.YtghogabmkbadjaaGa
import Derived.StillTailTactics
set_option linter.unusedVariables false
set_option linter.unusedSimpArgs false
/- OrderOf: the model's. -/
namespace Go.Proofs.Ytghogabmkbadjaa
open Go.RowKit Go.Shelf

set_option maxRecDepth 100000 in
set_option maxHeartbeats 4000000 in
theorem specOrderOf_any (n : Int) (A : Option Addr) (m c : Nat) (rs : List (List Int)) (w : World) (h : IntsS w w.heap.size A m rs) (hm : m ≤ 1048576) (hr : ∀ r ∈ rs, r.length ≤ 1048576) :
    Calls Try.prog 100 #[.int .i64 n, .slice A m c] w (GivesOrder w n rs) := by
  have hlen := Lib.hid h.len
  cases hin : inB n 0 6
  · have Ho := Lib.hid (show ordOk n rs = false by simp [ordOk, hin])
    have Hin := Lib.hid hin
    clear hin
    go_enter Try.func100, Try.ntmps100
    go_wp2_with (go_at_call 58; refine (inRange_any _ _ _ _).mono ?_; rw [Hin.out]; rintro e w' ⟨rfl, rfl⟩)
    go_ret2
    exact none_order Ho.out (Below.refl _ _)
  have Hin := Lib.hid hin
  have hnn := inB_iff.1 hin
  clear hin
  obtain ⟨N, rfl⟩ := Int.eq_ofNat_of_zero_le hnn.1
  have hN : N ≤ 6 := by omega
  clear hnn
  have hmk := run_make_row' (P := Try.prog) 22 3 (.int .i64 0) 8 Try.underlying22 infoInt rfl .i64 .i64 N (by omega) (by omega)
  go_enter Try.func100, Try.ntmps100
  go_wp2_with (go_at_call 58; refine (inRange_any _ _ _ _).mono ?_; rw [Hin.out]; rintro e w' ⟨rfl, rfl⟩)
  have hA1 := Arr.new w 3 N
  have hB1 : Below w.heap.size w (w.alloc (.cells (madeCells #[.int .i64 0] N) 3)) := (Below.refl _ _).alloc (Nat.le_refl _) _
  obtain ⟨W1, hW1⟩ : ∃ W1, w.alloc (.cells (madeCells #[.int .i64 0] N) 3) = W1 := ⟨_, rfl⟩
  rw [hW1] at hA1 hB1 ⊢
  clear hW1 hmk
  go_loopw [7] (fun i wr => ∃ k : Nat, k ≤ m ∧ i = .int .i64 k ∧ (∀ r ∈ rs.take k, pairOk N r = true) ∧ Arr wr w.heap.size 3 (baseR N (rs.take k)) ∧ Below w.heap.size w wr) (fun i _ => m - (intOf i).toNat)
  case atStart => exact ⟨0, by omega, rfl, (fun r hr => by simp at hr), hA1, hB1⟩
  case round =>
    obtain ⟨k, hk, rfl, hall, hAr, hB⟩ := hrel
    by_cases hlt : k < m
    · have hkl := Lib.hid (show k < rs.length by rw [hlen.out]; exact hlt)
      obtain ⟨b, off, rfl, hb, hc⟩ := (h.below hB).at_ hlt
      obtain ⟨A', c', hcell, hI⟩ := hc k hlt
      have Hc := Lib.hid hc
      clear hc
      have Hts := Lib.hid (take_snoc hkl.out)
      have hml : (rs[k]?.getD []).length ≤ 1048576 := by
        rw [List.getElem?_eq_getElem hkl.out]
        exact hr _ (List.getElem_mem _)
      have hno := fun hp => ord_no (n := N) (rs := rs) hkl.out hp
      generalize rs[k]?.getD [] = r at *
      by_cases h2 : r.length = 2
      · have hI2 : Ints wr w.heap.size A' 2 r := by rw [h2] at hI; exact hI
        rw [h2] at hcell
        obtain ⟨b', off', rfl, hb', hc'⟩ := hI2.at_ (k := 0) (by omega)
        have hc0 := hc' 0 (by omega)
        have hc1 := hc' 1 (by omega)
        rw [Nat.add_zero] at hc0
        clear hc'
        have Hpo := Lib.hid (show pairOk N r = (inB (r[0]?.getD 0) 0 (N - 1) && inB (r[1]?.getD 0) 0 (N - 1)) by simp [pairOk, h2])
        have Hs := Lib.hid (baseR_snoc N (rs.take k) r)
        obtain ⟨hfit, -⟩ : Fit N (baseR N (rs.take k)) ∧ Sets (baseR N (rs.take k)) := (baseR_fit hall).resolve_right (by omega)
        generalize r[0]?.getD 0 = x0 at *
        generalize r[1]?.getD 0 = y0 at *
        clear h2 hml hI
        cases hx : inB x0 0 (N - 1)
        · have Hx := Lib.hid hx
          have Ho := Lib.hid (hno (by rw [Hpo.out, hx]; rfl))
          clear hx hno
          go_wp2_with (go_at_call 58; refine (inRange_any _ _ _ _).mono ?_; rw [Hx.out]; rintro e w' ⟨rfl, rfl⟩)
          go_ret2
          exact none_order Ho.out hB
        cases hy : inB y0 0 (N - 1)
        · have Hx := Lib.hid hx
          have Hy := Lib.hid hy
          have Ho := Lib.hid (hno (by rw [Hpo.out, hx, hy]; rfl))
          clear hx hy hno
          go_wp2_with (go_at_call 58; refine (inRange_any _ _ _ _).mono ?_; (first | rw [Hx.out] | rw [Hy.out]); rintro e w' ⟨rfl, rfl⟩)
          go_ret2
          exact none_order Ho.out hB
        have Hx := Lib.hid hx
        have Hy := Lib.hid hy
        have Hp := Lib.hid (show pairOk N r = true by rw [Hpo.out, hx, hy]; rfl)
        have h0 := inB_iff.1 hx
        have h1 := inB_iff.1 hy
        clear hx hy hno
        have Hall := Lib.hid (show ∀ r' ∈ rs.take k ++ [r], pairOk N r' = true from fun r' hr' => by
          rcases List.mem_append.1 hr' with h9 | h9
          · exact hall r' h9
          · rw [List.mem_singleton.1 h9]; exact Hp.out)
        obtain ⟨x, rfl⟩ := Int.eq_ofNat_of_zero_le h0.1
        obtain ⟨y, rfl⟩ := Int.eq_ofNat_of_zero_le h1.1
        have hxN : x < N := by omega
        have hyN : y < N := by omega
        clear h0 h1
        simp only [Int.toNat_natCast] at Hs
        have hcs := hAr.cell (k := x) (by rw [hfit.1]; exact hxN)
        have hfs := hAr.frozen x
        have hbd := hfit.2 x
        have hpn := powI_le6 (n := (N : Int)) (by omega)
        have hpy := powI_le6 (n := (y : Int)) (by omega)
        have hpp := powI_pos (y : Int)
        clear hfit
        generalize hD : baseR N (rs.take k) = D at *
        have HD := Lib.hid hD
        clear hD
        have hor : bits .or .i64 (D[x]?.getD 0) (powI y) = orI (D[x]?.getD 0) (powI y) := bits_or (by omega) (by omega) (by omega) (by omega)
        go_wp2_with (go_at_call 58; refine (inRange_any _ _ _ _).mono ?_; (first | rw [Hx.out] | rw [Hy.out]); rintro e w' ⟨rfl, rfl⟩)
        have hpw : ∀ W, Calls Try.prog 69 #[.int .i64 (y : Int)] W fun e w'' => e = .returned (.int .i64 (powI y)) ∧ w'' = W := fun W =>
          (power_any _ _ (by omega) (by omega)).mono (by rintro e w' ⟨rfl, rfl⟩; exact ⟨rfl, rfl⟩)
        obtain ⟨W2, hW2⟩ : ∃ W2, wr.drew = W2 := ⟨_, rfl⟩
        have kcell : W2.cell? ⟨b, off + k, none⟩ = some (.slice (some ⟨b', off', none⟩) 2 c') := by rw [← hW2]; exact hcell
        have kc0 : W2.cell? ⟨b', off', none⟩ = some (.int .i64 (x : Int)) := by rw [← hW2]; exact hc0
        have kc1 : W2.cell? ⟨b', off' + 1, none⟩ = some (.int .i64 (y : Int)) := by rw [← hW2]; exact hc1
        have kcs : W2.cell? ⟨w.heap.size, x, none⟩ = some (.int .i64 (D[x]?.getD 0)) := by rw [← hW2]; exact hcs
        have kfs : W2.frozen? ⟨w.heap.size, x, none⟩ = false := by rw [← hW2]; exact hfs
        have kAr : Arr W2 w.heap.size 3 D := by rw [← hW2]; exact hAr
        have kB : Below w.heap.size w W2 := by rw [← hW2]; exact hB.drew
        refine wp_region_still_tail 25 (by kernel_rfl) (by kernel_rfl) ?_
        simp only [List.take_succ_cons, List.take_zero, List.drop_succ_cons, List.drop_zero]
        change wpStill _ _ wr.drew (fun a' => wpList _ _ _ _ a' wr.drew) _ _
        rw [hW2]
        clear hW2 hcell hc0 hc1 hcs hfs hAr hB
        repeat (first | still_step | still_call (hpw _))
        refine wpStill_nil ?_
        go_wp2
        go_roundw
        case rel => exact ⟨k + 1, by omega, by go_num, by rw [← Hts.out]; exact Hall.out, by rw [← Hts.out, Hs.out]; exact kAr.set _ _, kB.setCell (p := ⟨w.heap.size, x, none⟩) (Nat.le_refl _) _⟩
        case measure => simp [intOf]; omega
      · have Ho := Lib.hid (hno (by simp [pairOk, h2]))
        have hmi : ((r.length : Int) != 2) = true := by simp; omega
        clear hno
        generalize r.length = q at *
        go_wp2
        go_ret2
        exact none_order Ho.out hB
    · obtain rfl : k = m := by omega
      have htk : rs.take k = rs := List.take_of_length_le (by rw [hlen.out]; exact Nat.le_refl _)
      rw [htk] at hall hAr
      obtain ⟨hfit, -⟩ : Fit N (baseR N rs) ∧ Sets (baseR N rs) := (baseR_fit hall).resolve_right (by omega)
      have Hok := Lib.hid (show ordOk N rs = vo (closR N rs) by
        rw [ordOk, show rs.all (pairOk N) = true from List.all_eq_true.2 hall, Hin.out]; simp)
      have zB := hB.size
      clear hlen h hm
      go_wp2
      go_loopw [8] (fun i wr => ∃ a : Nat, a ≤ N ∧ i = .int .i64 a ∧ Arr wr w.heap.size 3 (folTo N (baseR N rs) a) ∧ Below w.heap.size w wr) (fun i _ => N - (intOf i).toNat)
      case atStart => exact ⟨0, by omega, rfl, hAr, hB⟩
      case round =>
        clear hAr hB zB
        obtain ⟨a, ha, rfl, hAr, hB⟩ := hrel
        by_cases hak : a < N
        · have hF := folTo_fit hfit a
          generalize hD0 : folTo N (baseR N rs) a = d0 at *
          have HD0 := Lib.hid hD0
          clear hD0
          go_wp2
          go_loopw [9] (fun i wr => ∃ l : Nat, l ≤ N ∧ i = .int .i64 l ∧ Arr wr w.heap.size 3 (folIn a d0 l) ∧ Below w.heap.size w wr) (fun i _ => N - (intOf i).toNat)
          case atStart => exact ⟨0, by omega, rfl, hAr, hB⟩
          case round =>
            clear hAr hB
            obtain ⟨l, hl, rfl, hAr, hB⟩ := hrel
            by_cases hlk : l < N
            · have hFi := folIn_fit (m := a) hF l
              have Hs := Lib.hid (folIn_succ a d0 l)
              generalize hD : folIn a d0 l = D at *
              have HD := Lib.hid hD
              clear hD
              have hpn := powI_le6 (n := (N : Int)) (by omega)
              have hl1 := hFi.2 l
              have ha1 := hFi.2 a
              have hcl := hAr.cell (k := l) (by rw [hFi.1]; exact hlk)
              have hca := hAr.cell (k := a) (by rw [hFi.1]; exact hak)
              have hfl := hAr.frozen l
              clear hFi
              cases hbit : bitB (D[l]?.getD 0) a
              · have Hb := Lib.hid hbit
                have hbi : (bitI (D[l]?.getD 0) a == 1) = false := by rw [bitI_one, hbit]
                clear hbit
                go_wp2_with (go_at_call 70; refine (bit_any _ _ _ (by omega) (by omega) (by omega) (by omega)).mono ?_; rintro e w' ⟨rfl, rfl⟩)
                go_roundw
                case rel => exact ⟨l + 1, by omega, by go_num, by rw [Hs.out, fol1, Hb.out]; exact hAr, hB⟩
                case measure => simp [intOf]; omega
              · have Hb := Lib.hid hbit
                have hbi : (bitI (D[l]?.getD 0) a == 1) = true := by rw [bitI_one, hbit]
                clear hbit
                have hor : bits .or .i64 (D[l]?.getD 0) (D[a]?.getD 0) = orI (D[l]?.getD 0) (D[a]?.getD 0) := bits_or (by omega) (by omega) (by omega) (by omega)
                go_wp2_with (go_at_call 70; refine (bit_any _ _ _ (by omega) (by omega) (by omega) (by omega)).mono ?_; rintro e w' ⟨rfl, rfl⟩)
                go_region
                all_goals
                  go_wp2
                  go_roundw
                  case rel => exact ⟨l + 1, by omega, by go_num, by rw [Hs.out, fol1, Hb.out]; exact hAr.set _ _, (hB.setCell (p := ⟨w.heap.size, l, none⟩) (Nat.le_refl _) _).drew⟩
                  case measure => simp [intOf]; omega
            · obtain rfl : l = N := by omega
              have Hs := Lib.hid (folTo_succ l (baseR l rs) a)
              go_wp2
              go_roundw
              case rel => exact ⟨a + 1, by omega, by go_num, by rw [Hs.out, HD0.out]; exact hAr, hB⟩
              case measure => simp [intOf]; omega
        · obtain rfl : a = N := by omega
          have Hf := Lib.hid (folTo_fit hfit a)
          have hl2 := hAr.lt
          go_wp2_with fail
          refine (validOrder_any _ _ _ _ _ _ (hAr.ints' hAr.lt Hf.out.1) (by omega)).mono ?_
          rintro e w3 ⟨rfl, mm, hmm⟩
          have hA3 : Arr w3 w.heap.size 3 (folTo a (baseR a rs) a) := by rw [hmm]; exact hAr
          have hB3 : Below w.heap.size w w3 := by rw [hmm]; exact below_drewN hB _
          clear hmm hAr hB
          cases hvo : vo (closR a rs)
          · have Ho := Lib.hid (show ordOk a rs = false by rw [Hok.out]; exact hvo)
            have Hv := Lib.hid (show vo (folTo a (baseR a rs) a) = false from hvo)
            clear hvo
            rw [Hv.out]
            go_wp2
            go_ret2
            exact none_order Ho.out hB3
          · have Ho := Lib.hid (show ordOk a rs = true by rw [Hok.out]; exact hvo)
            have Hv := Lib.hid (show vo (folTo a (baseR a rs) a) = true from hvo)
            clear hvo
            rw [Hv.out]
            go_wp2
            go_ret2
            exact ⟨_, a, a, by rw [Ho.out]; rfl, by rw [ordL, Ho.out]; exact Row.of hA3 Hf.out.1 (Nat.le_refl _) hA3.lt, hB3⟩
end Go.Proofs.Ytghogabmkbadjaa

/- An order under new numbers: what the drawing needs of it. -/
namespace Go.Proofs.Ytghogabmkbadjaa
open Go.RowKit Go.Shelf

/-- Small numbers: each is a set of at most six. -/
def Small (os : List Int) : Prop := ∀ j : Nat, 0 ≤ os[j]?.getD 0 ∧ os[j]?.getD 0 < 64
theorem Small.zero (n : Nat) : Small (List.replicate n 0) := fun j => by
  have : (List.replicate n (0 : Int))[j]?.getD 0 = 0 := by by_cases h : j < n <;> simp [h]
  omega
theorem Small.set {os : List Int} (h : Small os) {k : Nat} {v : Int} (h0 : 0 ≤ v) (h1 : v < 64) : Small (os.set k v) := fun j => by
  by_cases hk : k = j
  · subst hk
    by_cases hl : k < os.length
    · rw [List.getElem?_set_self hl]; exact ⟨h0, h1⟩
    · rw [List.set_eq_of_length_le (by omega)]; exact h k
  · rw [List.getElem?_set_ne hk]; exact h j

set_option maxRecDepth 100000 in
set_option maxHeartbeats 4000000 in
theorem renumbered_any (A A' : Option Addr) (n c m c' : Nat) (zs ts : List Int) (w : World) (h : Ints w w.heap.size A n zs) (h' : Ints w w.heap.size A' m ts) (hn6 : n ≤ 6) (hnm : n ≤ m) (hz : Small zs) (ht : ∀ j, j < n → 0 ≤ ts[j]?.getD 0 ∧ ts[j]?.getD 0 < n) :
    Calls Try.prog 46 #[.slice A n c, .slice A' m c'] w fun e w' => ∃ os, e = .returned (.slice (some ⟨w.heap.size, 0, none⟩) n n) ∧ os.length = n ∧ Arr w' w.heap.size 3 os ∧ Below w.heap.size w w' := by
  have hmk := run_make_row' (P := Try.prog) 22 3 (.int .i64 0) 8 Try.underlying22 infoInt rfl .i64 .i64 n (by omega) (by omega)
  go_enter Try.func46, Try.ntmps46
  go_wp2
  have hA1 := Arr.new w 3 n
  have hB1 : Below w.heap.size w (w.alloc (.cells (madeCells #[.int .i64 0] n) 3)) := (Below.refl _ _).alloc (Nat.le_refl _) _
  obtain ⟨W1, hW1⟩ : ∃ W1, w.alloc (.cells (madeCells #[.int .i64 0] n) 3) = W1 := ⟨_, rfl⟩
  rw [hW1] at hA1 hB1 ⊢
  clear hW1 hmk
  go_loopw [6] (fun i wr => ∃ (k : Nat) (os : List Int), k ≤ n ∧ i = .int .i64 k ∧ os.length = n ∧ Small os ∧ Arr wr w.heap.size 3 os ∧ Below w.heap.size w wr) (fun i _ => n - (intOf i).toNat)
  case atStart => exact ⟨0, _, by omega, rfl, by simp, Small.zero n, hA1, hB1⟩
  case round =>
    clear hA1 hB1
    obtain ⟨k, os, hk, rfl, hlen, hsm, hAr, hB⟩ := hrel
    by_cases hlt : k < n
    · go_wp2
      go_loopw [7] (fun i wr => ∃ (j : Nat) (os : List Int), j ≤ n ∧ i = .int .i64 j ∧ os.length = n ∧ Small os ∧ Arr wr w.heap.size 3 os ∧ Below w.heap.size w wr) (fun i _ => n - (intOf i).toNat)
      case atStart => exact ⟨0, os, by omega, rfl, hlen, hsm, hAr, hB⟩
      case round =>
        clear hlen hsm hAr hB
        obtain ⟨j, os, hj, rfl, hlen, hsm, hAr, hB⟩ := hrel
        by_cases hjn : j < n
        · obtain ⟨b, off, rfl, hbw, hc⟩ := (h.below hB).at_ hlt
          have hck := hc k hlt
          obtain ⟨b', off', rfl, hbw', hc'⟩ := (h'.below hB).at_ (k := k) (by omega)
          have htk := hc' k (by omega)
          have htj := hc' j (by omega)
          have hzk := hz k
          have hkm : k < m := by omega
          have hjm : j < m := by omega
          have t1 := ht k hlt
          have t2 := ht j hjn
          clear hc hc'
          generalize zs[k]?.getD 0 = z at *
          generalize ts[k]?.getD 0 = tk at *
          generalize ts[j]?.getD 0 = tj at *
          obtain ⟨x, rfl⟩ := Int.eq_ofNat_of_zero_le t1.1
          obtain ⟨y, rfl⟩ := Int.eq_ofNat_of_zero_le t2.1
          have hxn : x < n := by omega
          have hyn : y < n := by omega
          have hcs := hAr.cell (k := x) (by omega)
          have hfs := hAr.frozen x
          have hox := hsm x
          cases hb : bitB z j
          · have hbi : (bitI z j == 1) = false := by rw [bitI_one, hb]
            go_wp2_with (go_at_call 70; refine (bit_any _ _ _ (by omega) (by omega) (by omega) (by omega)).mono ?_; rintro e w' ⟨rfl, rfl⟩)
            go_roundw
            case rel => exact ⟨j + 1, os, by omega, by go_num, hlen, hsm, hAr, hB⟩
            case measure => simp [intOf]; omega
          · have hbi : (bitI z j == 1) = true := by rw [bitI_one, hb]
            have hpw : ∀ W, Calls Try.prog 69 #[.int .i64 (y : Int)] W fun e w'' => e = .returned (.int .i64 (powI y)) ∧ w'' = W := fun W => (power_any _ _ (by omega) (by omega)).mono fun _ _ ⟨h1, h2⟩ => ⟨h1, h2.symm⟩
            have hpk : powI (y : Int) < 64 := powI_lt (k := y) (n := 6) (by omega)
            have hpp := powI_pos (y : Int)
            have hsn := fun v h0 h1 => hsm.set (k := x) (v := v) h0 h1
            generalize os[x]?.getD 0 = d at *
            have hor : bits .or .i64 d (powI y) = orI d (powI y) := bits_or (by omega) (by omega) (by omega) (by omega)
            have hob := orI_bd (a := d) (b := powI y) (n := 6) hox.1 (by simpa [powI] using hox.2) (Int.le_of_lt hpp) (by simpa [powI] using hpk)
            have hob6 : 0 ≤ orI d (powI y) ∧ orI d (powI y) < 64 := by simpa [powI] using hob
            go_wp2_with (go_at_call 70; refine (bit_any _ _ _ (by omega) (by omega) (by omega) (by omega)).mono ?_; rintro e w' ⟨rfl, rfl⟩)
            obtain ⟨W2, hW2⟩ : ∃ W2, wr.drew = W2 := ⟨_, rfl⟩
            have k1 : W2.cell? ⟨b', off' + k, none⟩ = some (.int .i64 (x : Int)) := by rw [← hW2]; exact htk
            have k2 : W2.cell? ⟨b', off' + j, none⟩ = some (.int .i64 (y : Int)) := by rw [← hW2]; exact htj
            have k3 : W2.cell? ⟨w.heap.size, x, none⟩ = some (.int .i64 d) := by rw [← hW2]; exact hcs
            have k4 : W2.frozen? ⟨w.heap.size, x, none⟩ = false := by rw [← hW2]; exact hfs
            have kAr : Arr W2 w.heap.size 3 os := by rw [← hW2]; exact hAr
            have kB : Below w.heap.size w W2 := by rw [← hW2]; exact hB.drew
            refine wp_region_still_tail 19 (by kernel_rfl) (by kernel_rfl) ?_
            simp only [List.take_succ_cons, List.take_zero, List.drop_succ_cons, List.drop_zero]
            change wpStill _ _ wr.drew (fun a' => wpList _ _ _ _ a' wr.drew) _ _
            rw [hW2]
            clear hW2 htk htj hcs hfs hAr hB
            repeat (first | still_step | still_call (hpw _))
            refine wpStill_nil ?_
            go_wp2
            go_roundw
            case rel => exact ⟨j + 1, os.set x (orI d (powI y)), by omega, by go_num, by simpa using hlen, hsn _ hob6.1 hob6.2, kAr.set _ _, kB.setCell (p := ⟨w.heap.size, x, none⟩) (Nat.le_refl _) _⟩
            case measure => simp [intOf]; omega
        · obtain rfl : j = n := by omega
          go_wp2
          go_roundw
          case rel => exact ⟨k + 1, os, by omega, by go_num, hlen, hsm, hAr, hB⟩
          case measure => simp [intOf]; omega
    · obtain rfl : k = n := by omega
      go_wp2
      go_ret
      exact ⟨os, rfl, hlen, hAr, hB⟩
end Go.Proofs.Ytghogabmkbadjaa

/- The greatest chain has as many items as the greatest height tells; chains and levels counted. No program. -/
namespace Go.Proofs.Ytghogabmkbadjaa

/-- The greatest size of the sets less than k that are counted. -/
def grTo (p : Int → Bool) : Nat → Int
  | 0 => 0
  | k + 1 => if p (k : Int) then max (grTo p k) (popI (k : Int)) else grTo p k
theorem grTo_nn (p : Int → Bool) : ∀ k : Nat, 0 ≤ grTo p k
  | 0 => Int.le_refl _
  | k + 1 => by have := grTo_nn p k; unfold grTo; split <;> omega
theorem grTo_bd (p : Int → Bool) : ∀ k : Nat, k ≤ 64 → grTo p k ≤ 6
  | 0, _ => by simp [grTo]
  | k + 1, h => by
    have h1 := grTo_bd p k (by omega)
    have h2 := popI_bd (s := (k : Int)) (by omega) (by omega)
    unfold grTo; split <;> omega
theorem grTo_ge {p : Int → Bool} {j : Nat} (hp : p (j : Int) = true) : ∀ k : Nat, j < k → popI (j : Int) ≤ grTo p k
  | 0, h => by omega
  | k + 1, h => by
    rcases Nat.lt_or_ge j k with h1 | h1
    · have := grTo_ge hp k h1
      unfold grTo; split <;> omega
    · obtain rfl : j = k := by omega
      unfold grTo; rw [if_pos hp]; omega
theorem grTo_le {p : Int → Bool} {m : Int} (h0 : 0 ≤ m) : ∀ k : Nat, (∀ j : Nat, j < k → p (j : Int) = true → popI (j : Int) ≤ m) → grTo p k ≤ m
  | 0, _ => by simpa [grTo] using h0
  | k + 1, h => by
    have h1 := grTo_le h0 k (fun j hj => h j (by omega))
    unfold grTo
    split
    · rename_i hp; have := h k (by omega) hp; omega
    · exact h1

theorem pigeon1 (k : Nat) : ∀ l : List Nat, l.Pairwise (· ≠ ·) → l.length ≤ (l.filter (· != k)).length + 1
  | [], _ => by simp
  | x :: l, h => by
    rw [List.pairwise_cons] at h
    have ih := pigeon1 k l h.2
    rw [List.filter_cons]
    by_cases hx : x = k
    · subst hx
      have e : l.filter (· != x) = l := List.filter_eq_self.2 fun y hy => by simpa using (fun e => h.1 y hy e.symm : ¬ y = x)
      simp [e]
    · simp [hx]; omega
theorem pigeon : ∀ (k : Nat) (l : List Nat), l.Pairwise (· ≠ ·) → (∀ x ∈ l, x < k) → l.length ≤ k
  | 0, l, _, h => by
    cases l with
    | nil => simp
    | cons x l => have := h x (by simp); omega
  | k + 1, l, hp, h => by
    have h1 := pigeon1 k l hp
    have h2 := pigeon k (l.filter (· != k)) (hp.filter _) (fun x hx => by
      have := List.mem_filter.1 hx
      have h3 := h x this.1
      have h4 : x ≠ k := by simpa using this.2
      omega)
    omega

theorem ChP_iff {zs : List Int} {s : Int} (h1 : s < 64) : ChP zs s ↔ ∀ a b : Nat, bitB s a = true → bitB s b = true → a < b → relB zs a b = true := by
  constructor
  · intro h a b ha hb hab
    have hs := itemsL_sorted s
    obtain ⟨i, hi, rfl⟩ := List.getElem_of_mem ((mem_itemsL h1).2 ha)
    obtain ⟨j, hj, rfl⟩ := List.getElem_of_mem ((mem_itemsL h1).2 hb)
    have hij : i < j := by
      rcases Nat.lt_or_ge i j with h2 | h2
      · exact h2
      · rcases Nat.lt_or_ge j i with h3 | h3
        · have := List.pairwise_iff_getElem.1 hs j i hj hi h3; omega
        · have : i = j := by omega
          subst this; omega
    exact List.pairwise_iff_getElem.1 h i j hi hj hij
  · intro h
    exact (itemsL_sorted s).imp_of_mem fun ha hb hab => h _ _ ((mem_itemsL h1).1 ha) ((mem_itemsL h1).1 hb) hab

/-- One more than the greatest height. -/
def longI (zs : List Int) : Int := maxL (hgt zs) (List.range zs.length)
theorem longI_nn (zs : List Int) : 0 ≤ longI zs := (maxL_ge _ _).1
theorem longI_bd {zs : List Int} (h : VoP zs) : longI zs ≤ zs.length := by
  rcases maxL_eq (hgt zs) (List.range zs.length) with e | ⟨a, ha, e⟩
  · unfold longI; omega
  · have := hgt_bd h (List.mem_range.1 ha)
    unfold longI; omega
theorem longI_gt {zs : List Int} {a : Nat} (ha : a < zs.length) : hgt zs a + 1 ≤ longI zs := (maxL_ge (hgt zs) (List.range zs.length)).2 a (List.mem_range.2 ha)

theorem chain_le {zs : List Int} (h : VoP zs) {s : Int} (h0 : 0 ≤ s) (h1 : s < powI zs.length) (hc : chB zs s = true) : popI s ≤ longI zs := by
  have hpn := powI_le6 (n := (zs.length : Int)) (by have := h.1; omega)
  have hm : ∀ a ∈ itemsL s, a < zs.length := fun a ha => bitB_lt h1 ((mem_itemsL (by omega)).1 ha)
  have hC : ChP zs s := by simpa [chB] using hc
  have hp : ((itemsL s).map fun a => (hgt zs a).toNat).Pairwise (· ≠ ·) := by
    rw [List.pairwise_map]
    refine List.Pairwise.imp_of_mem ?_ hC
    intro a b ha hb hr he
    have hna := hgt_nn zs a
    have hnb := hgt_nn zs b
    simp only [relB, Bool.or_eq_true] at hr
    rcases hr with hr | hr
    · have := hgt_up h ⟨hm a ha, hr⟩; omega
    · have := hgt_up h ⟨hm b hb, hr⟩; omega
  have hk := pigeon (longI zs).toNat _ hp (fun x hx => by
    obtain ⟨a, ha, rfl⟩ := List.mem_map.1 hx
    have h2 := longI_gt (zs := zs) (hm a ha)
    have h3 := hgt_nn zs a
    show (hgt zs a).toNat < _
    omega)
  rw [List.length_map] at hk
  have := longI_nn zs
  rw [popI_items h0 (by omega)]
  omega

theorem popI_or_fin : ∀ k : Fin 64, ∀ j : Fin 6, bitB (k.val : Int) (j.val : Int) = false → popI (orI (k.val : Int) (powI (j.val : Int))) = popI (k.val : Int) + 1 := by decide +kernel
theorem popI_or {s : Int} {j : Nat} (h0 : 0 ≤ s) (h1 : s < 64) (hj : j < 6) (hb : bitB s j = false) : popI (orI s (powI j)) = popI s + 1 := by
  obtain ⟨k, rfl⟩ := Int.eq_ofNat_of_zero_le h0
  exact popI_or_fin ⟨k, by omega⟩ ⟨j, hj⟩ hb
theorem popI_pow_fin : ∀ j : Fin 6, popI (powI (j.val : Int)) = 1 := by decide +kernel

/-- Under each item there is a chain as long as its height tells. -/
theorem chain_ex {zs : List Int} (h : VoP zs) : ∀ (m b : Nat), b < zs.length → hgt zs b = m →
    ∃ s, 0 ≤ s ∧ s < powI zs.length ∧ ChP zs s ∧ popI s = m + 1 ∧ (∀ c : Nat, bitB s c = true → c = b ∨ lt zs c b)
  | 0, b, hb, hm => by
    have h6 := h.1
    refine ⟨powI b, Int.le_of_lt (powI_pos _), powI_lt hb, ?_, by have := popI_pow_fin ⟨b, by omega⟩; simpa using this, fun c hc => ?_⟩
    · have hp6 := powI_lt (k := b) (n := 6) (by omega)
      rw [ChP_iff (by simpa [powI] using hp6)]
      intro a c ha hc hac
      rw [bitB_pow] at ha hc
      have := of_decide_eq_true ha
      have := of_decide_eq_true hc
      omega
    · rw [bitB_pow] at hc
      exact .inl (of_decide_eq_true hc).symm
  | m + 1, b, hb, hm => by
    have h6 := h.1
    have hpn := powI_le6 (n := (zs.length : Int)) (by omega)
    rcases hgt_eq h hb with e | ⟨a, hl, e⟩
    · omega
    · obtain ⟨s, hs0, hs1, hC, hp, hall⟩ := chain_ex h m a hl.1 (by omega)
      have hnb : bitB s b = false := by
        cases hc : bitB s b with
        | false => rfl
        | true =>
          rcases hall b hc with rfl | h2
          · exact absurd hl h.irr
          · exact absurd (h.trans hl h2) h.irr
      have hlb : ∀ c : Nat, bitB s c = true → lt zs c b := fun c hc => by
        rcases hall c hc with rfl | h2
        · exact hl
        · exact h.trans h2 hl
      have hob := orI_bd (n := (zs.length : Int)) hs0 hs1 (Int.le_of_lt (powI_pos _)) (powI_lt hb)
      refine ⟨orI s (powI b), hob.1, hob.2, ?_, by rw [popI_or hs0 (by omega) (by omega) hnb, hp]; omega, fun c hc => ?_⟩
      · rw [ChP_iff (by omega)]
        intro x y hx hy hxy
        rw [bitB_or, bitB_pow] at hx hy
        simp only [Bool.or_eq_true, decide_eq_true_eq] at hx hy
        unfold relB
        rcases hx with hx | rfl <;> rcases hy with hy | rfl
        · exact (ChP_iff (by omega)).1 hC x y hx hy hxy
        · simp [(hlb x hx).2]
        · simp [(hlb y hy).2]
        · omega
      · rw [bitB_or, bitB_pow] at hc
        simp only [Bool.or_eq_true, decide_eq_true_eq] at hc
        rcases hc with hc | rfl
        · exact .inr (hlb c hc)
        · exact .inl rfl

/-- How many sets there are. -/
def setsN (zs : List Int) : Nat := 2 ^ zs.length
theorem setsN_pow (zs : List Int) : powI zs.length = (setsN zs : Int) := by simp [powI, setsN]
theorem gr_long {zs : List Int} (h : VoP zs) : grTo (chB zs) (setsN zs) = longI zs := by
  have hN := setsN_pow zs
  have hle : grTo (chB zs) (setsN zs) ≤ longI zs := grTo_le (longI_nn zs) _ (fun j hj hp => chain_le h (by omega) (by omega) hp)
  have hge : longI zs ≤ grTo (chB zs) (setsN zs) := by
    rcases maxL_eq (hgt zs) (List.range zs.length) with e | ⟨a, ha, e⟩
    · have := grTo_nn (chB zs) (setsN zs); unfold longI; omega
    · have hnn := hgt_nn zs a
      obtain ⟨s, hs0, hs1, hC, hp, -⟩ := chain_ex h (hgt zs a).toNat a (List.mem_range.1 ha) (by omega)
      obtain ⟨k, rfl⟩ := Int.eq_ofNat_of_zero_le hs0
      have := grTo_ge (p := chB zs) (j := k) (by simpa [chB] using hC) (setsN zs) (by omega)
      unfold longI; omega
  omega

/-- How many of the sets less than k of each size are counted. -/
def cntTo (p : Int → Bool) (len : Nat) : Nat → List Int
  | 0 => List.replicate len 0
  | k + 1 => if p (k : Int) then (cntTo p len k).set (popI (k : Int)).toNat ((cntTo p len k)[(popI (k : Int)).toNat]?.getD 0 + 1) else cntTo p len k
theorem cntTo_len (p : Int → Bool) (len : Nat) : ∀ k : Nat, (cntTo p len k).length = len
  | 0 => by simp [cntTo]
  | k + 1 => by unfold cntTo; split <;> simp [cntTo_len p len k]
theorem cntTo_bd (p : Int → Bool) (len : Nat) : ∀ (k i : Nat), 0 ≤ (cntTo p len k)[i]?.getD 0 ∧ (cntTo p len k)[i]?.getD 0 ≤ k
  | 0, i => by
    have : (List.replicate len (0 : Int))[i]?.getD 0 = 0 := by by_cases h : i < len <;> simp [h]
    simp [cntTo, this]
  | k + 1, i => by
    have h1 := cntTo_bd p len k i
    have h2 := cntTo_bd p len k (popI (k : Int)).toNat
    unfold cntTo
    split
    · by_cases hi : (popI (k : Int)).toNat = i
      · subst hi
        by_cases hl : (popI (k : Int)).toNat < (cntTo p len k).length
        · rw [List.getElem?_set_self hl]; simp only [Option.getD_some]; omega
        · rw [List.set_eq_of_length_le (by omega)]; omega
      · rw [List.getElem?_set_ne hi]; omega
    · omega
theorem cntTo_take (p : Int → Bool) {len m : Nat} (hm : m ≤ len) : ∀ k : Nat, (∀ j : Nat, j < k → p (j : Int) = true → (popI (j : Int)).toNat < m) → (cntTo p len k).take m = cntTo p m k
  | 0, _ => by simp [cntTo, List.take_replicate, hm]
  | k + 1, h => by
    have ih := cntTo_take p hm k (fun j hj => h j (by omega))
    unfold cntTo
    split
    · rename_i hp
      have hlt := h k (by omega) hp
      rw [List.take_set, ih, ← ih, List.getElem?_take_of_lt hlt]
    · exact ih
/-- How many chains of each size there are. -/
def chainsR (zs : List Int) : List Int := if vo zs then cntTo (chB zs) ((longI zs).toNat + 1) (setsN zs) else []
theorem chains_take {zs : List Int} (h : VoP zs) : (cntTo (chB zs) (zs.length + 1) (setsN zs)).take ((longI zs).toNat + 1) = cntTo (chB zs) ((longI zs).toNat + 1) (setsN zs) := by
  have hN := setsN_pow zs
  have hb := longI_bd h
  have hn := longI_nn zs
  exact cntTo_take _ (by omega) _ (fun j hj hp => by
    have := chain_le h (s := (j : Int)) (by omega) (by omega) hp
    omega)

/-- The items less than k of each height. -/
def lvTo (zs : List Int) : Nat → List Int
  | 0 => List.replicate (longI zs).toNat 0
  | k + 1 => (lvTo zs k).set (hgt zs k).toNat (orI ((lvTo zs k)[(hgt zs k).toNat]?.getD 0) (powI k))
theorem lvTo_len (zs : List Int) : ∀ k : Nat, (lvTo zs k).length = (longI zs).toNat
  | 0 => by simp [lvTo]
  | k + 1 => by simp [lvTo, lvTo_len zs k]
theorem lvTo_bd (zs : List Int) : ∀ (k i : Nat), 0 ≤ (lvTo zs k)[i]?.getD 0 ∧ (lvTo zs k)[i]?.getD 0 < powI k
  | 0, i => by
    have : (List.replicate (longI zs).toNat (0 : Int))[i]?.getD 0 = 0 := by by_cases h : i < (longI zs).toNat <;> simp [h]
    simp [lvTo, this, powI]
  | k + 1, i => by
    have h1 := lvTo_bd zs k i
    have h2 := lvTo_bd zs k (hgt zs k).toNat
    have hp : powI (k : Int) < powI ((k + 1 : Nat) : Int) := powI_lt (by omega)
    unfold lvTo
    by_cases hi : (hgt zs k).toNat = i
    · subst hi
      by_cases hl : (hgt zs k).toNat < (lvTo zs k).length
      · rw [List.getElem?_set_self hl]
        exact orI_bd h2.1 (by omega) (Int.le_of_lt (powI_pos _)) hp
      · rw [List.set_eq_of_length_le (by omega)]; omega
    · rw [List.getElem?_set_ne hi]; omega
def levelsR (zs : List Int) : List Int := if vo zs then lvTo zs zs.length else []
end Go.Proofs.Ytghogabmkbadjaa

/- The order turned round, as plain mathematics: chains, sets apart and pairs of it are as many. No program. -/
namespace Go.Proofs.Ytghogabmkbadjaa

/-- The order turned round. -/
def du (zs : List Int) : List Int := downP zs.length (pairsL zs)
theorem du_len (zs : List Int) : (du zs).length = zs.length := downP_len _ _
theorem du_bit {zs : List Int} (h : Sets zs) (a b : Nat) : bitB ((du zs)[b]?.getD 0) a = bitB (zs[a]?.getD 0) b := by
  have hn : ∀ p ∈ pairsL zs, p.2 < zs.length := fun p hp => (h.pair (a := p.1) (b := p.2) hp).2.1
  have key : bitB ((du zs)[b]?.getD 0) a = true ↔ bitB (zs[a]?.getD 0) b = true := by
    unfold du
    rw [downP_bit hn, mem_pairsL]
    constructor
    · exact fun e => e.2.2
    · intro e
      have ha : a < zs.length := by
        rcases Nat.lt_or_ge a zs.length with h1 | h1
        · exact h1
        · rw [List.getElem?_eq_none (by omega), Option.getD_none, bitB_zero] at e; cases e
      have hb := bitB_lt (h.2 a ha).2 e
      have := h.1
      exact ⟨ha, by omega, e⟩
  cases h1 : bitB ((du zs)[b]?.getD 0) a <;> cases h2 : bitB (zs[a]?.getD 0) b <;> simp_all
theorem du_sets {zs : List Int} (h : Sets zs) : Sets (du zs) := down_sets h
theorem du_lt {zs : List Int} (h : VoP zs) (a b : Nat) : lt (du zs) b a ↔ lt zs a b := by
  unfold lt
  rw [du_bit h.sets, du_len]
  constructor
  · rintro ⟨_, e⟩
    refine ⟨?_, e⟩
    rcases Nat.lt_or_ge a zs.length with h1 | h1
    · exact h1
    · rw [List.getElem?_eq_none (by omega), Option.getD_none, bitB_zero] at e; cases e
  · rintro ⟨ha, e⟩
    exact ⟨bitB_lt (h.sets.2 a ha).2 e, e⟩
theorem du_vo {zs : List Int} (h : VoP zs) : VoP (du zs) := by
  have hs := du_sets h.sets
  refine ⟨hs.1, fun a ha => ?_, fun a ha b hb => ?_⟩
  · have h1 := hs.2 a ha
    have h2 : bitB ((du zs)[a]?.getD 0) a = false := by
      rw [du_bit h.sets]
      cases e : bitB (zs[a]?.getD 0) a
      · rfl
      · exact absurd ⟨by rw [du_len] at ha; exact ha, e⟩ (h.irr (a := a))
    unfold okA inB
    rw [h2]
    simp only [Bool.not_false, Bool.and_true, decide_eq_true_eq]
    omega
  · unfold okP
    cases e : bitB ((du zs)[a]?.getD 0) b
    · rfl
    · have hab : lt zs b a := (du_lt h b a).1 ⟨ha, e⟩
      have h1 : lessI ((du zs)[b]?.getD 0) ((du zs)[a]?.getD 0) = 0 := by
        refine bitB_ext (lessI_bd _ _).1 (Int.le_refl _) fun j => ?_
        rw [bitB_less, bitB_zero]
        cases e1 : bitB ((du zs)[b]?.getD 0) j
        · rfl
        · have hjb := (du_lt h j b).1 ⟨hb, e1⟩
          have := ((du_lt h j a).2 (h.trans hjb hab)).2
          rw [this]; rfl
      have h2 : bitB ((du zs)[b]?.getD 0) a = false := by
        cases e2 : bitB ((du zs)[b]?.getD 0) a
        · rfl
        · exact absurd (h.trans hab ((du_lt h a b).1 ⟨hb, e2⟩)) h.irr
      rw [h1, h2]; rfl
theorem du_du {zs : List Int} (h : VoP zs) : du (du zs) = zs := by
  have hl : (du (du zs)).length = zs.length := by rw [du_len, du_len]
  refine List.ext_getElem hl fun j h1 h2 => ?_
  have e1 := (du_vo (du_vo h)).bd j h1
  have e2 := h.bd j h2
  have hb : ∀ k : Nat, bitB ((du (du zs))[j]?.getD 0) k = bitB (zs[j]?.getD 0) k := fun k => by rw [du_bit (du_vo h).sets, du_bit h.sets]
  have := bitB_ext e1.1 e2.1 hb
  rwa [List.getElem?_eq_getElem h1, List.getElem?_eq_getElem h2, Option.getD_some, Option.getD_some] at this

theorem du_rel {zs : List Int} (h : Sets zs) (a b : Nat) : relB (du zs) a b = relB zs a b := by
  unfold relB
  rw [du_bit h, du_bit h, Bool.or_comm]
theorem du_chB {zs : List Int} (h : Sets zs) (s : Int) : chB (du zs) s = chB zs s := by
  unfold chB ChP
  have : (fun a b => relB (du zs) a b = true) = fun a b => relB zs a b = true := by funext a b; rw [du_rel h]
  simp only [this]
theorem du_chBf {zs : List Int} (h : Sets zs) : chB (du zs) = chB zs := funext fun s => du_chB h s
theorem andI_zero {z s : Int} : andI z s = 0 ↔ ∀ b : Nat, bitB s b = true → bitB z b = false := by
  constructor
  · intro e b hb
    have := bitB_and z s b
    rw [e, bitB_zero, hb] at this
    simpa using this.symm
  · intro e
    refine bitB_ext (by unfold andI; omega) (Int.le_refl _) fun j => ?_
    rw [bitB_and, bitB_zero]
    cases e1 : bitB s j
    · simp
    · rw [e j e1]; rfl
theorem apB_iff {zs : List Int} {s : Int} (h1 : s < 64) : apB zs s = true ↔ ∀ a b : Nat, bitB s a = true → bitB s b = true → bitB (zs[a]?.getD 0) b = false := by
  unfold apB
  rw [List.all_eq_true]
  constructor
  · intro e a b ha hb
    have := e a ((mem_itemsL h1).2 ha)
    exact andI_zero.1 (by simpa using this) b hb
  · intro e a ha
    have := (andI_zero (z := zs[a]?.getD 0)).2 (fun b hb => e a b ((mem_itemsL h1).1 ha) hb)
    simpa using this
theorem du_apB {zs : List Int} (h : Sets zs) {s : Int} (h1 : s < 64) : apB (du zs) s = apB zs s := by
  have key : apB (du zs) s = true ↔ apB zs s = true := by
    rw [apB_iff h1, apB_iff h1]
    constructor
    · intro e a b ha hb
      have := e b a hb ha
      rwa [du_bit h] at this
    · intro e a b ha hb
      rw [du_bit h]
      exact e b a hb ha
  cases e1 : apB (du zs) s <;> cases e2 : apB zs s <;> simp_all
theorem grTo_congr {p q : Int → Bool} : ∀ k : Nat, (∀ j : Nat, j < k → p (j : Int) = q (j : Int)) → grTo p k = grTo q k
  | 0, _ => rfl
  | k + 1, h => by
    unfold grTo
    rw [h k (by omega), grTo_congr k fun j hj => h j (by omega)]
theorem setsN_le {zs : List Int} (h : zs.length ≤ 6) : setsN zs ≤ 64 := Nat.pow_le_pow_right (n := 2) (by decide) h
theorem du_setsN (zs : List Int) : setsN (du zs) = setsN zs := by unfold setsN; rw [du_len]
theorem du_wide {zs : List Int} (h : VoP zs) : grTo (apB (du zs)) (setsN zs) = grTo (apB zs) (setsN zs) :=
  grTo_congr _ fun j hj => du_apB h.sets (by have := setsN_le h.1; omega)
theorem du_long {zs : List Int} (h : VoP zs) : longI (du zs) = longI zs := by
  rw [← gr_long (du_vo h), ← gr_long h, du_chBf h.sets, du_setsN]

/-! Pairs. -/
theorem cl_flip (r : Nat → Nat → Bool) : ∀ l : List Nat, (∀ a ∈ l, r a a = false) → cl (fun a b => r b a) l l = cl r l l
  | [], _ => rfl
  | x :: l, h => by
    have h1 := cl_self r (x := x) (l := l) (h x (by simp))
    have h2 : cl (fun a b => r b a) (x :: l) (x :: l) = (l.filter fun a => r a x).length + (l.filter (r x)).length + cl (fun a b => r b a) l l := cl_self (fun a b => r b a) (x := x) (h x (by simp))
    rw [h1, h2, cl_flip r l fun a ha => h a (by simp [ha])]
    omega
/-- b is above a. -/
def upB (zs : List Int) (a b : Nat) : Bool := bitB (zs[a]?.getD 0) b
/-- How many pairs an order has, as mathematics. -/
def prs (zs : List Int) : Nat := cl (upB zs) (List.range zs.length) (List.range zs.length)
theorem popTo_cl {zs : List Int} (h : Sets zs) : ∀ k : Nat, k ≤ zs.length → popTo zs k = cl (upB zs) (List.range k) (List.range zs.length)
  | 0, _ => rfl
  | k + 1, hk => by
    have hb := h.bd k (by omega)
    unfold popTo
    rw [popTo_cl h k (by omega), popI_items hb.1 hb.2, ← itemsTo_all (h.2 k (by omega)).2 h.1]
    unfold cl
    rw [List.range_succ, List.map_append, List.sum_append]
    simp [itemsTo]
    rfl
theorem popTo_prs {zs : List Int} (h : Sets zs) : popTo zs zs.length = prs zs := popTo_cl h _ (Nat.le_refl _)
theorem du_prs {zs : List Int} (h : VoP zs) : prs (du zs) = prs zs := by
  unfold prs
  rw [du_len]
  have : upB (du zs) = fun a b : Nat => upB zs b a := by funext a b; unfold upB; rw [du_bit h.sets]
  rw [this]
  exact cl_flip (upB zs) _ fun a ha => h.irrB (List.mem_range.1 ha)
theorem prs_bd {zs : List Int} (h : VoP zs) : 2 * prs zs + zs.length ≤ zs.length * zs.length := by
  have := (cl_all (upB zs) (List.range zs.length) (fun a ha => h.irrB (List.mem_range.1 ha)) (fun a ha b _ e => h.asym (List.mem_range.1 ha) e)).1
  simpa [prs] using this
theorem prs_none {zs : List Int} (h : VoP zs) (hl : longI zs ≤ 1) : prs zs = 0 := by
  have hno : ∀ a b : Nat, ¬ lt zs a b := fun a b e => by
    have h1 := hgt_up h e
    have h2 := hgt_nn zs a
    have h3 := longI_gt (zs := zs) (h.lt_n e)
    omega
  unfold prs cl
  rw [List.map_congr_left (g := fun _ => 0)]
  · generalize List.range zs.length = l
    induction l with
    | nil => rfl
    | cons x l ih => simpa using ih
  · intro a ha
    rw [List.length_eq_zero_iff, List.filter_eq_nil_iff]
    intro b _ e
    exact hno a b ⟨List.mem_range.1 ha, e⟩

/-! Chains of none, of one and of two items. -/
theorem cnt_get (p : Int → Bool) {len m : Nat} (hm : m < len) : ∀ k : Nat, (cntTo p len k)[m]?.getD 0 = (((List.range k).filter fun j : Nat => p (j : Int) && (popI (j : Int)).toNat == m).length : Int)
  | 0 => by simp [cntTo, hm]
  | k + 1 => by
    have ih := cnt_get p hm k
    rw [List.range_succ, List.filter_append, List.length_append]
    have hl := cntTo_len p len k
    unfold cntTo
    cases hp : p (k : Int)
    · simp [hp, ih]
    · by_cases he : (popI (k : Int)).toNat = m
      · simp [hp, he]
        rw [List.getElem?_eq_getElem (by omega)] at ih
        rw [List.getElem?_set_self (by omega), Option.getD_some, List.getElem?_eq_getElem (by omega), Option.getD_some]
        simp only [Option.getD_some] at ih
        rw [ih]
      · simp [hp, he, ih]
def twos (n : Nat) : List Nat := (List.range n).flatMap fun b => (List.range b).map fun a => 2 ^ a + 2 ^ b
theorem twos_fin : ∀ n : Fin 7, (List.range (2 ^ n.val)).filter (fun j : Nat => (popI (j : Int)).toNat == 2) = twos n.val := by decide +kernel
theorem ones_fin : ∀ n : Fin 7, (List.range (2 ^ n.val)).filter (fun j : Nat => (popI (j : Int)).toNat == 1) = (List.range n.val).map fun a => 2 ^ a := by decide +kernel
theorem noes_fin : ∀ n : Fin 7, (List.range (2 ^ n.val)).filter (fun j : Nat => (popI (j : Int)).toNat == 0) = [0] := by decide +kernel
theorem two_items : ∀ b : Fin 6, ∀ a : Fin b.val, itemsL ((2 ^ a.val + 2 ^ b.val : Nat) : Int) = [a.val, b.val] := by decide +kernel
theorem one_items : ∀ b : Fin 6, itemsL ((2 ^ b.val : Nat) : Int) = [b.val] := by decide +kernel
theorem chB_two (zs : List Int) {a b : Nat} (hab : a < b) (hb : b < 6) : chB zs ((2 ^ a + 2 ^ b : Nat) : Int) = relB zs a b := by
  have h : ChP zs ((2 ^ a + 2 ^ b : Nat) : Int) ↔ relB zs a b = true := by
    unfold ChP
    rw [two_items ⟨b, hb⟩ ⟨a, hab⟩]
    simp
  unfold chB
  cases hr : relB zs a b
  · exact decide_eq_false fun e => by rw [h.1 e] at hr; cases hr
  · exact decide_eq_true (h.2 hr)
theorem chB_one (zs : List Int) {b : Nat} (hb : b < 6) : chB zs ((2 ^ b : Nat) : Int) = true := by
  refine decide_eq_true ?_
  unfold ChP
  rw [one_items ⟨b, hb⟩]
  simp
theorem chB_none (zs : List Int) : chB zs ((0 : Nat) : Int) = true := by
  have : itemsL ((0 : Nat) : Int) = [] := by decide
  refine decide_eq_true ?_
  unfold ChP
  rw [this]
  simp
theorem filter_and {α : Type} (p q : α → Bool) (l : List α) : l.filter (fun j => p j && q j) = (l.filter q).filter p := by rw [List.filter_filter]
theorem or_len (u v : Nat → Bool) : ∀ l : List Nat, (∀ a ∈ l, u a = true → v a = false) → (l.filter fun a => u a || v a).length = (l.filter u).length + (l.filter v).length
  | [], _ => rfl
  | a :: l, h => by
    have ih := or_len u v l fun b hb => h b (by simp [hb])
    have ha := h a (by simp)
    simp only [List.filter_cons]
    cases hu : u a <;> cases hv : v a <;> simp [hu, hv] at ha ⊢ <;> omega
theorem cl_range (r : Nat → Nat → Bool) : ∀ n : Nat, (∀ a, a < n → r a a = false) → cl r (List.range (n + 1)) (List.range (n + 1)) = cl r (List.range n) (List.range n) + ((List.range n).filter (r n)).length + ((List.range n).filter fun a => r a n).length + (if r n n then 1 else 0) := fun n _ => by
  unfold cl
  rw [List.range_succ, List.map_append, List.sum_append]
  have e : ∀ l : List Nat, (l.map fun a => ((List.range n ++ [n]).filter (r a)).length).sum = (l.map fun a => ((List.range n).filter (r a)).length).sum + (l.filter fun a => r a n).length := fun l => by
    induction l with
    | nil => rfl
    | cons a l ih =>
      rw [List.map_cons, List.sum_cons, ih, List.map_cons, List.sum_cons, List.filter_append, List.length_append, List.filter_cons (xs := l)]
      cases h : r a n <;> simp [h] <;> omega
  rw [e]
  cases h : r n n <;> simp [h, List.filter_append] <;> omega
theorem twos_chain {zs : List Int} (h : VoP zs) : ∀ n : Nat, n ≤ zs.length → ((twos n).filter fun j : Nat => chB zs (j : Int)).length = cl (upB zs) (List.range n) (List.range n)
  | 0, _ => rfl
  | n + 1, hn => by
    have h6 := h.1
    have ih := twos_chain h n (by omega)
    rw [cl_range (upB zs) n (fun a ha => h.irrB (show a < zs.length by omega)), ← ih]
    have e1 : twos (n + 1) = twos n ++ (List.range n).map fun a => 2 ^ a + 2 ^ n := by simp [twos, List.range_succ]
    rw [e1, List.filter_append, List.length_append, List.filter_map, List.length_map]
    have e2 : (List.range n).filter ((fun j : Nat => chB zs (j : Int)) ∘ fun a => 2 ^ a + 2 ^ n) = (List.range n).filter fun a => upB zs n a || upB zs a n := by
      refine List.filter_congr fun a ha => ?_
      have := chB_two zs (List.mem_range.1 ha) (show n < 6 by omega)
      simp only [Function.comp]
      rw [this]
      unfold relB upB
      rw [Bool.or_comm]
    have e3 : upB zs n n = false := h.irrB (show n < zs.length by omega)
    rw [e2, or_len (upB zs n) (fun a => upB zs a n) _ (fun a _ e => h.asym (show n < zs.length by omega) e), e3]
    simp
    omega
theorem chains_two {zs : List Int} (h : VoP zs) (hl : 2 ≤ longI zs) : (chainsR zs)[2]?.getD 0 = (prs zs : Int) := by
  have hn := h.1
  unfold chainsR
  rw [vo_true h]
  simp only [if_true]
  rw [cnt_get (chB zs) (len := (longI zs).toNat + 1) (m := 2) (by omega)]
  rw [filter_and (fun j : Nat => chB zs (j : Int)) (fun j : Nat => (popI (j : Int)).toNat == 2)]
  unfold setsN
  rw [twos_fin ⟨zs.length, by omega⟩, twos_chain h _ (Nat.le_refl _)]
  rfl
theorem chains_one {zs : List Int} (h : VoP zs) (hl : 1 ≤ longI zs) : (chainsR zs)[1]?.getD 0 = (zs.length : Int) := by
  have hn := h.1
  unfold chainsR
  rw [vo_true h]
  simp only [if_true]
  rw [cnt_get (chB zs) (len := (longI zs).toNat + 1) (m := 1) (by omega)]
  rw [filter_and (fun j : Nat => chB zs (j : Int)) (fun j : Nat => (popI (j : Int)).toNat == 1)]
  unfold setsN
  rw [ones_fin ⟨zs.length, by omega⟩, List.filter_map, List.length_map, List.filter_eq_self.2]
  · simp
  · intro a ha
    exact chB_one zs (by have := List.mem_range.1 ha; omega)
theorem chains_none {zs : List Int} (h : VoP zs) : (chainsR zs)[0]?.getD 0 = 1 := by
  have hn := h.1
  unfold chainsR
  rw [vo_true h]
  simp only [if_true]
  rw [cnt_get (chB zs) (len := (longI zs).toNat + 1) (m := 0) (by omega)]
  rw [filter_and (fun j : Nat => chB zs (j : Int)) (fun j : Nat => (popI (j : Int)).toNat == 0)]
  unfold setsN
  rw [noes_fin ⟨zs.length, by omega⟩, List.filter_cons, if_pos (chB_none zs)]
  rfl
theorem chains_len {zs : List Int} (h : VoP zs) : (chainsR zs).length = (longI zs).toNat + 1 := by
  unfold chainsR
  rw [vo_true h]
  simp [cntTo_len]
theorem du_chains {zs : List Int} (h : VoP zs) : chainsR (du zs) = chainsR zs := by
  unfold chainsR
  rw [vo_true h, vo_true (du_vo h), du_long h, du_chBf h.sets, du_setsN]
theorem long_pos {zs : List Int} (h : zs.length ≠ 0) : 1 ≤ longI zs := by
  have h1 := longI_gt (zs := zs) (a := 0) (by omega)
  have h2 := hgt_nn zs 0
  omega
end Go.Proofs.Ytghogabmkbadjaa

/- Sets that part all items, as the laws see them. -/
namespace Go.Proofs.Ytghogabmkbadjaa
open Go.RowKit Go.Shelf

/-- All items of the first k sets. -/
def seenTo (xs : List Int) : Nat → Int
  | 0 => 0
  | k + 1 => orI (seenTo xs k) (xs[k]?.getD 0)
theorem seenTo_bit (xs : List Int) (j : Nat) : ∀ k : Nat, bitB (seenTo xs k) j = true ↔ ∃ i, i < k ∧ bitB (xs[i]?.getD 0) j = true
  | 0 => by simp [seenTo, bitB_zero]
  | k + 1 => by
    unfold seenTo
    rw [bitB_or, Bool.or_eq_true, seenTo_bit xs j k]
    constructor
    · rintro (⟨i, hi, e⟩ | e)
      · exact ⟨i, by omega, e⟩
      · exact ⟨k, by omega, e⟩
    · rintro ⟨i, hi, e⟩
      by_cases hik : i = k
      · subst hik; exact .inr e
      · exact .inl ⟨i, by omega, e⟩
theorem seenTo_bd {xs : List Int} {n : Nat} (h : ∀ i, i < xs.length → 0 ≤ xs[i]?.getD 0 ∧ xs[i]?.getD 0 < powI n) : ∀ k : Nat, k ≤ xs.length → 0 ≤ seenTo xs k ∧ seenTo xs k < powI n
  | 0, _ => ⟨Int.le_refl _, powI_pos _⟩
  | k + 1, hk => by
    have h1 := seenTo_bd h k (by omega)
    have h2 := h k (by omega)
    exact orI_bd h1.1 h1.2 h2.1 h2.2
/-- Each item is in just one of the sets. -/
structure PartsOk (xs : List Int) (n : Nat) : Prop where
  n6 : n ≤ 6
  bd : ∀ i, i < xs.length → 0 ≤ xs[i]?.getD 0 ∧ xs[i]?.getD 0 < powI n
  apart : ∀ i k j : Nat, i < k → k < xs.length → bitB (xs[i]?.getD 0) j = true → bitB (xs[k]?.getD 0) j = true → False
  all : ∀ j : Nat, j < n → ∃ i, i < xs.length ∧ bitB (xs[i]?.getD 0) j = true
theorem all_bits {n : Nat} : ∀ j : Nat, bitB (powI n - 1) j = decide (j < n) := fun j => by
  have e : (powI (n : Int) - 1).toNat = 2 ^ n - 1 := by
    have : powI (n : Int) = ((2 ^ n : Nat) : Int) := by simp [powI]
    omega
  simp [bitB, e, Nat.testBit_two_pow_sub_one]
theorem PartsOk.seen {xs : List Int} {n : Nat} (h : PartsOk xs n) : seenTo xs xs.length = powI n - 1 := by
  have hb := seenTo_bd h.bd xs.length (Nat.le_refl _)
  have hp := powI_pos (n : Int)
  refine bitB_ext hb.1 (by omega) fun j => ?_
  rw [all_bits]
  by_cases hj : j < n
  · have := (seenTo_bit xs j xs.length).2 (h.all j hj)
    rw [this]; simp [hj]
  · cases e : bitB (seenTo xs xs.length) j
    · simp [hj]
    · exact absurd (bitB_lt hb.2 e) hj
theorem PartsOk.no {xs : List Int} {n k : Nat} (h : PartsOk xs n) (hk : k < xs.length) : andI (seenTo xs k) (xs[k]?.getD 0) = 0 := by
  refine bitB_ext (andI_bd _ _).1 (Int.le_refl _) fun j => ?_
  rw [bitB_and, bitB_zero]
  cases e : bitB (seenTo xs k) j
  · rfl
  · cases e2 : bitB (xs[k]?.getD 0) j
    · rfl
    · obtain ⟨i, hi, hb⟩ := (seenTo_bit xs j k).1 e
      exact (h.apart i k j hi hk hb e2).elim

end Go.Proofs.Ytghogabmkbadjaa

/- The model's test of sets. -/
namespace Go.Proofs.Ytghogabmkbadjaa
open Go.RowKit Go.Shelf
attribute [local go_sem] Oper.semAt_some
attribute [local go_sem, local simp] wide_fn
end Go.Proofs.Ytghogabmkbadjaa

/- Tops: words, the model's helper and the program's. -/
namespace Go.Proofs.Ytghogabmkbadjaa
open Go.RowKit Go.Shelf
attribute [local go_sem] Oper.semAt_some
attribute [local go_sem, local simp] wide_fn

/-- The items of s less than k above which there is none of s. -/
def topsTo (zs : List Int) (s : Int) : Nat → Int
  | 0 => 0
  | k + 1 => if bitB s k && andI (zs[k]?.getD 0) s == 0 then orI (topsTo zs s k) (powI k) else topsTo zs s k
theorem topsTo_bd (zs : List Int) (s : Int) : ∀ k : Nat, 0 ≤ topsTo zs s k ∧ topsTo zs s k < powI k
  | 0 => by simp [topsTo, powI]
  | k + 1 => by
    have h := topsTo_bd zs s k
    have hp : powI (k : Int) < powI ((k + 1 : Nat) : Int) := powI_lt (by omega)
    unfold topsTo
    split
    · exact orI_bd h.1 (by omega) (Int.le_of_lt (powI_pos _)) hp
    · omega
theorem topsTo_yes {zs : List Int} {s : Int} {k : Nat} (h : bitB s k = true) (h2 : (andI (zs[k]?.getD 0) s == 0) = true) : topsTo zs s (k + 1) = orI (topsTo zs s k) (powI k) := by simp [topsTo, h, h2]
theorem topsTo_no {zs : List Int} {s : Int} {k : Nat} (h : bitB s k = false ∨ (andI (zs[k]?.getD 0) s == 0) = false) : topsTo zs s (k + 1) = topsTo zs s k := by
  rcases h with h | h <;> simp [topsTo, h]
def topsR (zs : List Int) (s : Int) : Int := if vo zs && inB s 0 (powI zs.length - 1) then topsTo zs s zs.length else -1

theorem topsTo_bit {zs : List Int} {s : Int} (j : Nat) : ∀ k : Nat, bitB (topsTo zs s k) j = true ↔ j < k ∧ bitB s j = true ∧ andI (zs[j]?.getD 0) s = 0
  | 0 => by simp [topsTo, bitB_zero]
  | k + 1 => by
    have ih := topsTo_bit (zs := zs) (s := s) j k
    cases hc : (bitB s k && andI (zs[k]?.getD 0) s == 0)
    · have e : topsTo zs s (k + 1) = topsTo zs s k := by simp only [topsTo]; rw [hc]; rfl
      rw [e, ih]
      constructor
      · rintro ⟨h1, h2⟩; exact ⟨by omega, h2⟩
      · rintro ⟨h1, h2, h3⟩
        refine ⟨?_, h2, h3⟩
        by_cases hjk : j = k
        · subst hjk; rw [h2, h3] at hc; cases hc
        · omega
    · have e : topsTo zs s (k + 1) = orI (topsTo zs s k) (powI k) := by simp only [topsTo]; rw [hc]; rfl
      rw [Bool.and_eq_true] at hc
      rw [e, bitB_or, bitB_pow, Bool.or_eq_true, ih, decide_eq_true_eq]
      constructor
      · rintro (⟨h1, h2⟩ | rfl)
        · exact ⟨by omega, h2⟩
        · exact ⟨by omega, hc.1, by simpa using hc.2⟩
      · rintro ⟨h1, h2⟩
        by_cases hjk : k = j
        · exact .inr hjk
        · exact .inl ⟨by omega, h2⟩
/-- What has been gathered when the items of a list are over. -/
def topsL (zs : List Int) (s : Int) (l : List Nat) : Int := l.foldl (fun (t : Int) (i : Nat) => if andI (zs[i]?.getD 0) s == 0 then orI t (powI i) else t) 0
theorem topsL_yes {zs : List Int} {s : Int} {l : List Nat} {i : Nat} (h : (andI (zs[i]?.getD 0) s == 0) = true) : topsL zs s (l ++ [i]) = orI (topsL zs s l) (powI i) := by
  have h' : andI (zs[i]?.getD 0) s = 0 := by simpa using h
  simp [topsL, h']
theorem topsL_no {zs : List Int} {s : Int} {l : List Nat} {i : Nat} (h : (andI (zs[i]?.getD 0) s == 0) = false) : topsL zs s (l ++ [i]) = topsL zs s l := by
  have h' : ¬ andI (zs[i]?.getD 0) s = 0 := by simpa using h
  simp [topsL, h']
theorem topsL_to (zs : List Int) (s : Int) : ∀ k : Nat, topsL zs s (itemsTo s k) = topsTo zs s k
  | 0 => rfl
  | k + 1 => by
    have ih := topsL_to zs s k
    cases hb : bitB s k
    · rw [itemsTo_no hb, topsTo_no (.inl hb), ih]
    · rw [itemsTo_yes hb]
      cases ha : (andI (zs[k]?.getD 0) s == 0)
      · rw [topsL_no ha, topsTo_no (.inr ha), ih]
      · rw [topsL_yes ha, topsTo_yes hb ha, ih]
theorem topsTo_up {zs : List Int} {s : Int} {n : Nat} (h1 : s < powI n) : ∀ d : Nat, topsTo zs s (n + d) = topsTo zs s n
  | 0 => rfl
  | d + 1 => by
    have hb : bitB s ((n + d : Nat) : Int) = false := by
      cases h : bitB s ((n + d : Nat) : Int) with
      | false => rfl
      | true => have := bitB_lt h1 h; omega
    rw [← Nat.add_assoc, topsTo_no (.inl hb), topsTo_up h1 d]
theorem topsL_all {zs : List Int} {s : Int} {n : Nat} (hn : n ≤ 6) (h1 : s < powI n) : topsL zs s (itemsL s) = topsTo zs s n := by
  rw [itemsL, topsL_to, show (6 : Nat) = n + (6 - n) from by omega, topsTo_up h1]

set_option maxRecDepth 100000 in
set_option maxHeartbeats 4000000 in
theorem tops_any (A : Option Addr) (n c : Nat) (zs : List Int) (s : Int) (hv : Sets zs) (w : World) (hA : Ints w w.heap.size A n zs) (h0 : 0 ≤ s) (h1 : s < powI n) :
    Calls Try.prog 101 #[.slice A n c, .int .i64 s] w fun e W' => e = .returned (.int .i64 (topsTo zs s n)) ∧ Below w.heap.size w W' := by
  refine (callsIn_wide (n := 9)).1 ?_
  refine callsIn_of_wp_marks Try.func101 rfl trivial ?_ rfl
  simp only [Try.ntmps101, List.size_toArray, List.length_cons, List.length_nil, Nat.reduceAdd, Nat.reduceSub, Array.replicate_succ, Array.replicate_zero, List.push_toArray, List.append_toArray, List.nil_append, List.cons_append]
  have hlen := Lib.hid hA.len
  have hn6 : n ≤ 6 := by have := hv.1; rw [hlen.out] at this; exact this
  have hpk : powI n ≤ 64 := powI_le6 (by omega)
  gi_wp2_with (gi_at_call 93; refine (callsIn_wide.2 (each_any _ _)).mono ?_; rintro e w' ⟨rfl, rfl⟩)
  have bO := (((Boxed.new w 44 (.slice A n c)).alloc (.cells #[Value.int .i64 s] 59)).alloc (.cells #[Value.int .i64 0] 59)).alloc (.cells #[Value.int .i64 s] 59)
  have bS := ((Boxed.new (w.alloc (.cells #[Value.slice A n c] 44)) 59 (.int .i64 s)).alloc (.cells #[Value.int .i64 0] 59)).alloc (.cells #[Value.int .i64 s] 59)
  have bT := (Boxed.new ((w.alloc (.cells #[Value.slice A n c] 44)).alloc (.cells #[Value.int .i64 s] 59)) 59 (.int .i64 0)).alloc (.cells #[Value.int .i64 s] 59)
  have bE := Boxed.new (((w.alloc (.cells #[Value.slice A n c] 44)).alloc (.cells #[Value.int .i64 s] 59)).alloc (.cells #[Value.int .i64 0] 59)) 59 (.int .i64 s)
  have hu0 : Upd (fun _ => False) w ((((w.alloc (.cells #[Value.slice A n c] 44)).alloc (.cells #[Value.int .i64 s] 59)).alloc (.cells #[Value.int .i64 0] 59)).alloc (.cells #[Value.int .i64 s] 59)) := ((((Upd.refl _ w).alloc _).alloc _).alloc _).alloc _
  have hz0 : ((((w.alloc (.cells #[Value.slice A n c] 44)).alloc (.cells #[Value.int .i64 s] 59)).alloc (.cells #[Value.int .i64 0] 59)).alloc (.cells #[Value.int .i64 s] 59)).heap.size = w.heap.size + 4 := by simp
  simp only [World.size_alloc] at bO bS bT bE
  obtain ⟨W0, hW0⟩ : ∃ W0, ((((w.alloc (.cells #[Value.slice A n c] 44)).alloc (.cells #[Value.int .i64 s] 59)).alloc (.cells #[Value.int .i64 0] 59)).alloc (.cells #[Value.int .i64 s] 59)) = W0 := ⟨_, rfl⟩
  rw [hW0] at bO bS bT bE hu0 hz0 ⊢
  clear hW0
  have hA0 : Ints W0 w.heap.size A n zs := hA.below (hu0.toBelow (fun _ e => e.elim) (Nat.le_refl _))
  refine range_out (n := 9) (gf := 102) (lb := #[.pointer (some ⟨w.heap.size + 1 + 1 + 1, 0, none⟩)]) rfl (enters_of Try.func102 (by kernel_rfl) rfl) (encs := encI) (L := itemsL s)
    (fun k => k = w.heap.size + 1 + 1) (fun k e => by omega) (fun _ => rfl)
    (fun W1 l1 hu1 hl1 hl2 => each_iter s h0 (by omega) _ _ W1 (hu1.boxed bE (fun e => e)) (fun e => by omega))
    (fun pre D W => (0 ≤ topsL zs s pre ∧ topsL zs s pre < 64) ∧ Boxed W (w.heap.size + 1 + 1) 59 (.int .i64 (topsL zs s pre)) ∧ Upd (fun k => k = w.heap.size + 1 + 1) W0 W)
    (fun _ _ _ _ => False)
    (fun _ D X Y hs hu => ⟨hs.1, hu.boxed hs.2.1 (fun e => by omega), hs.2.2.trans' hu (fun i hi e => by omega)⟩)
    (fun _ _ _ _ _ hs _ => hs)
    ⟨by simp [topsL], bT, Upd.refl _ _⟩ ?owes ?done ?stop
  case owes =>
    rintro l1 pre x D1 W hl1 hl2 hDl hD1 - hpre K hK
    gi_wp2
    refine hK _ _ (Upd.refl _ _) ?_
    rintro Wb hWb - ⟨htb, bT1, hU⟩
    clear hK
    obtain ⟨hx6, hxb⟩ := mem_itemsTo.1 (hpre.subset (by simp : x ∈ pre ++ [x]))
    have hxn := bitB_lt h1 hxb
    have bO1 := hU.boxed bO (by omega)
    have hcO := bO1.cell
    have hcS := (hU.boxed bS (by omega)).cell
    obtain ⟨ab, off, rfl, hab, hc⟩ := hA0.at_ hxn
    have hcx := hU.cell (hc x hxn) (fun e => by simp at e; omega)
    have zx := hv.bd x (by rw [hlen.out]; exact hxn)
    have hsb := hU.size
    have hcT := bT1.cell
    have hfT := bT1.frozen
    have hszb := hWb.size
    have hand : bits .and .i64 (zs[x]?.getD 0) s = andI (zs[x]?.getD 0) s := bits_and (by omega) (by omega) (by omega) (by omega)
    cases ha : (andI (zs[x]?.getD 0) s == 0)
    · have Hn := Lib.hid (topsL_no (l := pre) ha)
      gi_wp2
      refine region_quiet_round (by kernel_rfl) (by kernel_rfl) (by kernel_rfl) ?_
      repeat (gi_big_quiet_step (fail))
      refine wpQuietIn_nil ?_
      intro _ hw'
      obtain ⟨nq, hw''⟩ := hw'
      subst hw''
      gi_wp2
      exact ⟨D1, ⟨by rw [Hn.out]; exact htb, by rw [Hn.out]; exact bT1, hU.drewN _⟩, (Upd.refl _ _).drewN _, fun k hk => .inl hk⟩
    · have Hn := Lib.hid (topsL_yes (l := pre) ha)
      have hob := orI_bd (a := topsL zs s pre) (b := powI x) (n := 6) htb.1 htb.2 (Int.le_of_lt (powI_pos _)) (powI_lt hx6)
      gi_wp2
      refine region_quiet_round (by kernel_rfl) (by kernel_rfl) (by kernel_rfl) ?_
      repeat (gi_big_quiet_step (fail))
      refine wpQuietIn_nil ?_
      intro _ hw'
      obtain ⟨nq, hw''⟩ := hw'
      subst hw''
      gi_wp2_with (gi_at_call 77; refine (CallsIn.inRound l1 (callsIn_wide.2 (with_any _ _ _ htb.1 htb.2 (by omega) (by omega)))).mono ?_; rintro e w' ⟨rfl, rfl⟩)
      exact ⟨D1, ⟨by rw [Hn.out]; exact hob, by rw [Hn.out]; exact bT1.set _, (hU.drewN _).setCell (p := ⟨w.heap.size + 1 + 1, 0, none⟩) (.inr rfl) _⟩, ((Upd.refl _ _).drewN _).setCell (p := ⟨w.heap.size + 1 + 1, 0, none⟩) (.inr (.inl rfl)) _, fun k hk => .inl hk⟩
  case done =>
    rintro d D1 W hd ⟨htb, bT1, hU⟩ hD1 hKd
    have Ht := Lib.hid (topsL_all (zs := zs) hn6 h1)
    have hcT := bT1.cell
    gi_wp2
    refine leaves_marks [d] _ ⟨by simp, fun b hb => ?_⟩ (fun W' hu' => ?_)
    · rw [List.mem_singleton.1 hb]
      exact hKd
    · exact ⟨.int .i64 (topsL zs s (itemsL s)), by simp [results, Try.f101, go_sem], ret_int Ht.out,
        (((hu0.mono fun _ _ e => e.elim).trans' hU (fun i hi e => by omega)).trans' hu' (fun i hi e => by simp at e; omega)).toBelow (R := fun _ => False) (fun _ e => e.elim) (Nat.le_refl _)⟩
  case stop =>
    rintro d D1 co pre W hd hpre h
    exact h.elim
end Go.Proofs.Ytghogabmkbadjaa

/- Lines, as plain mathematics: what is lined up, what is left, and when the next item may come. No program. -/
namespace Go.Proofs.Ytghogabmkbadjaa

/-- The first k items of the list. -/
def doneTo (ls : List Int) : Nat → Int
  | 0 => 0
  | k + 1 => orI (doneTo ls k) (powI (ls[k]?.getD 0))
/-- All items but the first k of the list. -/
def leftTo (n : Nat) (ls : List Int) : Nat → Int
  | 0 => powI n - 1
  | k + 1 => lessI (leftTo n ls k) (powI (ls[k]?.getD 0))
/-- The item k of the list is one, was not yet there, and all below it were. -/
def stepOk (zs ls : List Int) (k : Nat) : Bool :=
  inB (ls[k]?.getD 0) 0 ((zs.length : Int) - 1) && (!bitB (doneTo ls k) (ls[k]?.getD 0) && (lessI ((du zs)[(ls[k]?.getD 0).toNat]?.getD 0) (doneTo ls k) == 0))
def lineB (zs ls : List Int) : Bool := decide (ls.length = zs.length) && (List.range ls.length).all (stepOk zs ls)
def isLineR (zs ls : List Int) : Bool := vo zs && lineB zs ls

theorem lineB_yes {zs ls : List Int} {m : Nat} (hm : ls.length = m) (hl : m = zs.length) (h : ∀ k, k < m → stepOk zs ls k = true) : lineB zs ls = true := by
  unfold lineB
  rw [Bool.and_eq_true, List.all_eq_true]
  exact ⟨by simp; omega, fun k hk => h k (by rw [← hm]; exact List.mem_range.1 hk)⟩
theorem lineB_len {zs ls : List Int} {m : Nat} (hm : ls.length = m) (hl : m ≠ zs.length) : lineB zs ls = false := by
  unfold lineB
  rw [decide_eq_false (by omega)]
  rfl
theorem lineB_no {zs ls : List Int} {m k : Nat} (hm : ls.length = m) (hk : k < m) (h : stepOk zs ls k = false) : lineB zs ls = false := by
  cases e : lineB zs ls
  · rfl
  · unfold lineB at e
    rw [Bool.and_eq_true, List.all_eq_true] at e
    have := e.2 k (List.mem_range.2 (by omega))
    rw [h] at this
    cases this
theorem stepOk_in {zs ls : List Int} {k : Nat} (h : stepOk zs ls k = true) : 0 ≤ ls[k]?.getD 0 ∧ ls[k]?.getD 0 < zs.length := by
  unfold stepOk at h
  rw [Bool.and_eq_true] at h
  have : (0 : Int) ≤ ls[k]?.getD 0 ∧ ls[k]?.getD 0 ≤ (zs.length : Int) - 1 := by simpa [inB] using h.1
  omega
theorem stepOk_new {zs ls : List Int} {k : Nat} (h : stepOk zs ls k = true) : bitB (doneTo ls k) (ls[k]?.getD 0) = false := by
  unfold stepOk at h
  rw [Bool.and_eq_true, Bool.and_eq_true] at h
  simpa using h.2.1
theorem doneTo_bd {zs ls : List Int} : ∀ k : Nat, (∀ i, i < k → stepOk zs ls i = true) → 0 ≤ doneTo ls k ∧ doneTo ls k < powI zs.length
  | 0, _ => ⟨Int.le_refl _, powI_pos _⟩
  | k + 1, h => by
    have h1 := doneTo_bd k fun i hi => h i (by omega)
    have h2 := stepOk_in (h k (by omega))
    obtain ⟨a, ha⟩ := Int.eq_ofNat_of_zero_le h2.1
    have h3 : powI (a : Int) < powI (zs.length : Int) := powI_lt (by omega)
    have h4 := powI_pos (a : Int)
    unfold doneTo
    rw [ha]
    exact orI_bd h1.1 h1.2 (by omega) h3
theorem leftTo_bd {n : Nat} {ls : List Int} : ∀ k : Nat, 0 ≤ leftTo n ls k ∧ leftTo n ls k < powI n
  | 0 => by have := powI_pos (n : Int); unfold leftTo; omega
  | k + 1 => by
    have h1 := leftTo_bd (n := n) (ls := ls) k
    have h2 := lessI_bd (leftTo n ls k) (powI (ls[k]?.getD 0))
    unfold leftTo
    omega
theorem leftTo_bit {zs ls : List Int} (j : Nat) : ∀ k : Nat, (∀ i, i < k → stepOk zs ls i = true) → bitB (leftTo zs.length ls k) j = (decide (j < zs.length) && !bitB (doneTo ls k) j)
  | 0, _ => by unfold leftTo doneTo; rw [all_bits, bitB_zero]; simp
  | k + 1, h => by
    have ih := leftTo_bit (zs := zs) (ls := ls) j k fun i hi => h i (by omega)
    have h2 := stepOk_in (h k (by omega))
    obtain ⟨a, ha⟩ := Int.eq_ofNat_of_zero_le h2.1
    unfold leftTo doneTo
    rw [ha, bitB_less, bitB_or, bitB_pow, ih]
    cases decide (j < zs.length) <;> cases bitB (doneTo ls k) j <;> cases decide (a = j) <;> rfl
/-- As the program asks it: the item is a top, turned round, of what is left. -/
theorem step_tops {zs ls : List Int} (h : VoP zs) {k : Nat} (hk : ∀ i, i < k → stepOk zs ls i = true) {a : Nat} (ha : ls[k]?.getD 0 = (a : Int)) (hn : a < zs.length) :
    bitB (topsTo (du zs) (leftTo zs.length ls k) zs.length) a = stepOk zs ls k := by
  have hds := (du_sets h.sets).2 a (by rw [du_len]; exact hn)
  rw [du_len] at hds
  have hl := leftTo_bit (zs := zs) (ls := ls) a k hk
  have hin : inB (a : Int) 0 ((zs.length : Int) - 1) = true := by simp [inB]; omega
  have key : bitB (topsTo (du zs) (leftTo zs.length ls k) zs.length) a = true ↔ stepOk zs ls k = true := by
    rw [topsTo_bit]
    unfold stepOk
    rw [ha, hin, hl, Bool.true_and, Int.toNat_natCast]
    simp only [Bool.and_eq_true]
    have e2 : andI ((du zs)[a]?.getD 0) (leftTo zs.length ls k) = 0 ↔ (lessI ((du zs)[a]?.getD 0) (doneTo ls k) == 0) = true := by
      rw [beq_iff_eq, andI_zero]
      constructor
      · intro e
        refine bitB_ext (lessI_bd _ _).1 (Int.le_refl _) fun j => ?_
        rw [bitB_less, bitB_zero]
        cases e1 : bitB ((du zs)[a]?.getD 0) j
        · rfl
        · cases e3 : bitB (doneTo ls k) j
          · have hj := bitB_lt hds.2 e1
            have := e j (by rw [leftTo_bit (zs := zs) (ls := ls) j k hk, e3]; simp [hj])
            rw [e1] at this; cases this
          · rfl
      · intro e j hj
        rw [leftTo_bit (zs := zs) (ls := ls) j k hk, Bool.and_eq_true] at hj
        cases e1 : bitB ((du zs)[a]?.getD 0) j
        · rfl
        · have := bitB_less ((du zs)[a]?.getD 0) (doneTo ls k) j
          rw [e, bitB_zero, e1] at this
          simp at this hj
          rw [this] at hj
          simp at hj
    constructor
    · rintro ⟨_, h1, h2⟩
      exact ⟨h1.2, e2.1 h2⟩
    · rintro ⟨h1, h2⟩
      exact ⟨hn, ⟨by simpa using hn, h1⟩, e2.2 h2⟩
  cases e1 : bitB (topsTo (du zs) (leftTo zs.length ls k) zs.length) a <;> cases e2 : stepOk zs ls k <;> simp_all
end Go.Proofs.Ytghogabmkbadjaa

/- Rows of numbers under way, that grow by append: where they lie; what has been read of them; rows whose cells alone are told. -/
namespace Go.Proofs.Ytghogabmkbadjaa
open Go.RowKit

/-- A row of numbers under way, in a block that S names. -/
def OwnS (S : Nat → Prop) (w : World) (B : Nat) (e : TypeId) (v : Value) (xs : List Int) : Prop := (∀ k, v.ownBlock = some k → S k) ∧ w.ownsRow B e 1 v xs.length (xs.map (Value.int .i64))
section
variable {S R : Nat → Prop} {w w' : World} {B : Nat} {e : TypeId} {v : Value} {xs : List Int}
theorem OwnS.keep (h : OwnS S w B e v xs) (hu : Upd R w w') (hS : ∀ k, S k → ¬ R k) : OwnS S w' B e v xs := by
  obtain ⟨h0, h1⟩ := h
  refine ⟨h0, h1.1, ?_⟩
  rcases h1.2 with e | ⟨g, cap, cur, rfl, hg, hc, hrest⟩
  · exact .inl e
  · exact .inr ⟨g, cap, cur, rfl, hg, (hu.block g (Array.getElem?_eq_some_iff.1 hc).1 (hS g (h0 g rfl))).trans hc, hrest⟩
theorem OwnS.none (S : Nat → Prop) (w : World) (B : Nat) (e : TypeId) : OwnS S w B e (.slice none 0 0) [] := ⟨fun k hk => by simp [Value.ownBlock] at hk, rfl, .inl ⟨rfl, rfl⟩⟩
theorem own_lt' {base n : Nat} {ys : List Value} (h : w.ownsRow base e 1 v n ys) : ∀ g, v.ownBlock = some g → g < w.heap.size := fun g hg => by
  rcases h.2 with ⟨rfl, _⟩ | ⟨g', cap, cur, rfl, _, hc, _⟩
  · simp [Value.ownBlock] at hg
  · simp [Value.ownBlock] at hg; subst hg; exact (Array.getElem?_eq_some_iff.1 hc).1
theorem OwnS.step {S' : Nat → Prop} {x : Int} {o : Obj} {v' : Value} (h : OwnS S w B e v xs) (hown : w'.ownsRow B e 1 v' (xs.length + 1) (xs.map (Value.int .i64) ++ [.int .i64 x])) (hv : v'.ownBlock = v.ownBlock ∨ v'.ownBlock = some (w.alloc o).heap.size)
    (hS : ∀ k, S k → S' k) (hS1 : w.heap.size + 1 < w'.heap.size → S' (w.heap.size + 1)) : OwnS S' w' B e v' (xs ++ [x]) :=
  ⟨fun k hk => by
    rcases hv with e | e
    · exact hS k (h.1 k (e ▸ hk))
    · have hlt := own_lt' hown k hk
      rw [e] at hk; simp at hk; subst hk; exact hS1 hlt, by rw [List.length_append, List.map_append]; exact hown⟩
end

/-- A row whose cells are told, in a block from lo up to less than hi (empty ones may lie anywhere). -/
def RowC (w : World) (lo hi : Nat) (A : Option Addr) (n : Nat) (xs : List Int) : Prop :=
  xs.length = n ∧ (0 < n → ∃ b, A = some ⟨b, 0, none⟩ ∧ lo ≤ b ∧ b < hi ∧ ∀ j, j < n → w.cell? ⟨b, j, none⟩ = some (.int .i64 (xs[j]?.getD 0)))
section
variable {w w' : World} {lo hi n : Nat} {A : Option Addr} {xs : List Int} {R : Nat → Prop}
theorem RowC.len (h : RowC w lo hi A n xs) : xs.length = n := h.1
theorem RowC.nil (w : World) (lo hi : Nat) (A : Option Addr) : RowC w lo hi A 0 [] := ⟨rfl, fun h => absurd h (by omega)⟩
theorem RowC.ints (h : RowC w lo hi A n xs) {B : Nat} (hB : hi ≤ B) : Ints w B A n xs :=
  ⟨h.1, fun hn => by
    obtain ⟨b, e, _, hb, hc⟩ := h.2 hn
    exact ⟨b, 0, e, by omega, fun j hj => by rw [Nat.zero_add]; exact hc j hj⟩⟩
theorem RowC.upd (h : RowC w lo hi A n xs) (hu : Upd R w w') (hr : ∀ j, R j → j < lo ∨ hi ≤ j) : RowC w' lo hi A n xs :=
  ⟨h.1, fun hn => by
    obtain ⟨b, e, hl, hb, hc⟩ := h.2 hn
    exact ⟨b, e, hl, hb, fun j hj => hu.cell (hc j hj) (fun hr' => by have := hr b hr'; omega)⟩⟩
theorem RowC.below {B : Nat} (h : RowC w lo hi A n xs) (hu : Below B w w') (hB : hi ≤ B) : RowC w' lo hi A n xs := h.upd (Below.toUpd hu) (fun j hj => by omega)
theorem RowC.more {lo' hi' : Nat} (h : RowC w lo hi A n xs) (h1 : lo' ≤ lo) (h2 : hi ≤ hi') : RowC w lo' hi' A n xs :=
  ⟨h.1, fun hn => by
    obtain ⟨b, e, hl, hb, hc⟩ := h.2 hn
    exact ⟨b, e, by omega, by omega, hc⟩⟩
theorem Row.told (h : Row w lo hi A n xs) : RowC w lo hi A n xs :=
  ⟨h.1, fun hn => by
    obtain ⟨b, ys, e, hl, hb, hA⟩ := h.2 hn
    exact ⟨b, e, hl, hb, fun j hj => by
      have hl := h.1
      rw [hA.cell (by rw [List.length_append]; omega), List.getElem?_append_left (by omega)]⟩⟩
/-- A grown row's cells. -/
theorem rowC_of_own {base m : Nat} {e : TypeId} {v : Value} (h : w.ownsRow base e 1 v m (xs.map (Value.int .i64))) : ∃ A c, v = .slice A m c ∧ RowC w base w.heap.size A m xs := by
  obtain ⟨A, c, rfl, hI, hA⟩ := ints_of_own_at h
  refine ⟨A, c, rfl, hI.1, fun hn => ?_⟩
  rcases h.2 with ⟨e, _⟩ | ⟨g, cap, cur, e, hg, hgc, _⟩
  · cases e; omega
  · cases e
    refine ⟨g, rfl, hg, (Array.getElem?_eq_some_iff.1 hgc).1, fun j hj => ?_⟩
    obtain ⟨b, off, e1, hb, hc⟩ := hI.2 hn
    cases e1
    have := hc j hj
    rwa [Nat.zero_add] at this
end
/-- What a function that hands back a new row of numbers does: its cells told. -/
def GivesRowC (w : World) (xs : List Int) (e : Ending) (w' : World) : Prop := ∃ A n c, e = .returned (.slice A n c) ∧ RowC w' w.heap.size w'.heap.size A n xs ∧ Below w.heap.size w w'
end Go.Proofs.Ytghogabmkbadjaa

/- Orders beside each other, and one above the other: as both sides tell them. No program. -/
namespace Go.Proofs.Ytghogabmkbadjaa
open Go.RowKit

/-- The sets of items behind n other ones. -/
def shl (n : Nat) (ys : List Int) : List Int := ys.map fun y => y * powI n
theorem shl_len (n : Nat) (ys : List Int) : (shl n ys).length = ys.length := by simp [shl]
theorem shl_get (n : Nat) (ys : List Int) {k : Nat} (hk : k < ys.length) : (shl n ys)[k]?.getD 0 = (ys[k]?.getD 0) * powI n := by
  unfold shl
  rw [List.getElem?_map, List.getElem?_eq_getElem hk]; rfl
theorem take_snocJ (l : List Int) {k : Nat} (hk : k < l.length) : l.take (k + 1) = l.take k ++ [l[k]?.getD 0] := by
  rw [List.take_succ_eq_append_getElem hk, List.getElem?_eq_getElem hk]; rfl
theorem shl_snoc (n : Nat) (ys : List Int) {k : Nat} (hk : k < ys.length) : (shl n ys).take (k + 1) = (shl n ys).take k ++ [(ys[k]?.getD 0) * powI n] := by
  rw [take_snocJ _ (by rw [shl_len]; exact hk), shl_get n ys hk]
/-- All items of the second order, behind n. -/
def behI (n m : Nat) : Int := (powI m - 1) * powI n
def uqS (n m : Nat) (over : Bool) (z : Int) : Int := if over then orI z (behI n m) else z
def uqL (n m : Nat) (over : Bool) (zs : List Int) : List Int := zs.map (uqS n m over)
theorem uqL_len (n m : Nat) (over : Bool) (zs : List Int) : (uqL n m over zs).length = zs.length := by simp [uqL]
theorem uqL_get (n m : Nat) (over : Bool) (zs : List Int) {k : Nat} (hk : k < zs.length) : (uqL n m over zs)[k]?.getD 0 = uqS n m over (zs[k]?.getD 0) := by
  unfold uqL
  rw [List.getElem?_map, List.getElem?_eq_getElem hk]; rfl
theorem uqL_snoc (n m : Nat) (over : Bool) (zs : List Int) {k : Nat} (hk : k < zs.length) : (uqL n m over zs).take (k + 1) = (uqL n m over zs).take k ++ [uqS n m over (zs[k]?.getD 0)] := by
  rw [take_snocJ _ (by rw [uqL_len]; exact hk), uqL_get n m over zs hk]
theorem uqL_false (n m : Nat) (zs : List Int) : uqL n m false zs = zs := by
  unfold uqL
  have : uqS n m false = id := by funext z; rfl
  rw [this, List.map_id]
def bothL (zs ys : List Int) (over : Bool) : List Int := uqL zs.length ys.length over zs ++ shl zs.length ys
theorem bothL_len (zs ys : List Int) (over : Bool) : (bothL zs ys over).length = zs.length + ys.length := by unfold bothL; rw [List.length_append, uqL_len, shl_len]
def bothB (zs ys : List Int) : Bool := vo zs && (vo ys && decide (zs.length + ys.length ≤ 6))
def bothR (zs ys : List Int) (over : Bool) : List Int := if bothB zs ys then bothL zs ys over else []
theorem bothR_le (zs ys : List Int) (over : Bool) : (bothR zs ys over).length ≤ 1048576 := by
  unfold bothR
  split
  · rename_i h
    unfold bothB at h
    simp only [Bool.and_eq_true, decide_eq_true_eq] at h
    rw [bothL_len]; omega
  · simp
theorem bothB_parts {zs ys : List Int} (h : bothB zs ys = true) : VoP zs ∧ VoP ys ∧ zs.length + ys.length ≤ 6 := by
  unfold bothB at h
  simp only [Bool.and_eq_true, decide_eq_true_eq] at h
  exact ⟨by simpa [vo] using h.1, by simpa [vo] using h.2.1, h.2.2⟩
theorem powI_add6 : ∀ n : Fin 7, ∀ m : Fin 7, powI (n.val : Int) * powI (m.val : Int) = powI ((n.val + m.val : Nat) : Int) := by decide +kernel
theorem beh_fin : ∀ n : Fin 7, ∀ m : Fin 7, n.val + m.val ≤ 6 → 0 ≤ behI n.val m.val ∧ behI n.val m.val < 64 ∧ lessI (powI ((n.val + m.val : Nat) : Int) - 1) (powI (n.val : Int) - 1) = behI n.val m.val := by decide +kernel
theorem beh_bd {n m : Nat} (h : n + m ≤ 6) : 0 ≤ behI n m ∧ behI n m < 64 := ⟨(beh_fin ⟨n, by omega⟩ ⟨m, by omega⟩ h).1, (beh_fin ⟨n, by omega⟩ ⟨m, by omega⟩ h).2.1⟩
theorem beh_less {n m : Nat} (h : n + m ≤ 6) : lessI (powI ((n + m : Nat) : Int) - 1) (powI (n : Int) - 1) = behI n m := (beh_fin ⟨n, by omega⟩ ⟨m, by omega⟩ h).2.2
theorem shl_bd {n m : Nat} {z : Int} (h0 : 0 ≤ z) (h1 : z < powI m) (h : n + m ≤ 6) : 0 ≤ z * powI n ∧ z * powI n < 64 := by
  have hp := powI_pos (n : Int)
  have e := powI_add6 ⟨n, by omega⟩ ⟨m, by omega⟩
  have h64 := powI_le6 (n := ((n + m : Nat) : Int)) (by omega)
  simp only at e
  refine ⟨Int.mul_nonneg h0 (by omega), ?_⟩
  have h2 : (z + 1) * powI n ≤ powI m * powI n := Int.mul_le_mul_of_nonneg_right (by omega) (by omega)
  rw [Int.add_mul, Int.one_mul, Int.mul_comm (powI m), e] at h2
  omega
end Go.Proofs.Ytghogabmkbadjaa

/- Rows that grew by append: their block has spare cells behind; marking them. -/
namespace Go.Proofs.Ytghogabmkbadjaa
open Go.RowKit

/-- A row at the head of a block of numbers' cells, in a block from lo up to less than hi (empty ones may lie anywhere). -/
def RowV (w : World) (lo hi : Nat) (A : Option Addr) (n : Nat) (xs : List Int) : Prop :=
  xs.length = n ∧ (0 < n → ∃ b cur, A = some ⟨b, 0, none⟩ ∧ lo ≤ b ∧ b < hi ∧ w.heap[b]? = some (.cells cur 3 (0, 0)) ∧ cur.toList.take n = xs.map (Value.int .i64))
section
variable {w w' : World} {lo hi n : Nat} {A : Option Addr} {xs : List Int} {R : Nat → Prop}
theorem RowV.len (h : RowV w lo hi A n xs) : xs.length = n := h.1
theorem RowV.nil (w : World) (lo hi : Nat) (A : Option Addr) : RowV w lo hi A 0 [] := ⟨rfl, fun h => absurd h (by omega)⟩
theorem RowV.upd (h : RowV w lo hi A n xs) (hu : Upd R w w') (hr : ∀ j, R j → j < lo ∨ hi ≤ j) : RowV w' lo hi A n xs :=
  ⟨h.1, fun hn => by
    obtain ⟨b, cur, e, hl, hb, hc, ht⟩ := h.2 hn
    exact ⟨b, cur, e, hl, hb, (hu.block b (Array.getElem?_eq_some_iff.1 hc).1 (fun hr' => by have := hr b hr'; omega)).trans hc, ht⟩⟩
theorem RowV.below {B : Nat} (h : RowV w lo hi A n xs) (hu : Below B w w') (hB : hi ≤ B) : RowV w' lo hi A n xs := h.upd (Below.toUpd hu) (fun j hj => by omega)
theorem RowV.more {lo' hi' : Nat} (h : RowV w lo hi A n xs) (h1 : lo' ≤ lo) (h2 : hi ≤ hi') : RowV w lo' hi' A n xs :=
  ⟨h.1, fun hn => by
    obtain ⟨b, cur, e, hl, hb, hc⟩ := h.2 hn
    exact ⟨b, cur, e, by omega, by omega, hc⟩⟩
theorem take_at {cur : Array Value} {n j : Nat} {ys : List Value} (h : cur.toList.take n = ys) (hj : j < n) : cur[j]? = ys[j]? := by
  rw [← h, List.getElem?_take, if_pos hj, Array.getElem?_toList]
theorem RowV.told (h : RowV w lo hi A n xs) : RowC w lo hi A n xs :=
  ⟨h.1, fun hn => by
    obtain ⟨b, cur, e, hl, hb, hc, ht⟩ := h.2 hn
    refine ⟨b, e, hl, hb, fun j hj => ?_⟩
    have hj2 : j < xs.length := by rw [h.1]; exact hj
    rw [cell_of_row w b j _ _ (0, 0) hc, take_at ht hj, List.getElem?_map, List.getElem?_eq_getElem hj2]
    simp⟩
theorem RowV.ints (h : RowV w lo hi A n xs) {B : Nat} (hB : hi ≤ B) : Ints w B A n xs := h.told.ints hB
theorem rowV_of_own {base m : Nat} {v : Value} (h : w.ownsRow base 3 1 v m (xs.map (Value.int .i64))) : ∃ A c, v = .slice A m c ∧ RowV w base w.heap.size A m xs := by
  have hl : xs.length = m := by simpa using h.1
  rcases h.2 with ⟨rfl, rfl⟩ | ⟨g, cap, cur, rfl, hg, hc, _, _, _, ht⟩
  · obtain rfl : xs = [] := List.eq_nil_of_length_eq_zero hl
    exact ⟨none, 0, rfl, RowV.nil _ _ _ _⟩
  · exact ⟨_, cap, rfl, hl, fun _ => ⟨g, cur, rfl, hg, (Array.getElem?_eq_some_iff.1 hc).1, hc, by simpa using ht⟩⟩
end

set_option maxHeartbeats 1000000 in
theorem markIntS_cells (b n c : Nat) (zs : List Int) (cur : Array Value) (k : Int) (w : World) (hA : w.heap[b]? = some (.cells cur 3 (0, 0))) (ht : cur.toList.take n = zs.map (Value.int .i64)) (hn : zs.length = n) (hbig : n ≤ 1048576) (hk0 : 0 ≤ k) (hk1 : k ≤ 1152921504606846976) :
    Calls Try.prog 18 #[.slice (some ⟨b, 0, none⟩) n c, .int .i64 k] w fun e w' => e = .returned (.int .i64 (k + n)) ∧ (∃ cur' : Array Value, w'.heap[b]? = some (.cells cur' 3 (0, 0)) ∧ cur'.toList.take n = (counted k n).map (Value.int .i64)) ∧ w.grownBy w' (some b) := by
  have hlen := Lib.hid hn
  clear hn
  go_enter Try.func18, Try.ntmps18
  go_wp2
  go_loopw [1, 5] (fun v i wr => ∃ j : Nat, j ≤ n ∧ i = .int .i64 j ∧ v = .int .i64 (k + j) ∧ (∃ cur' : Array Value, wr.heap[b]? = some (.cells cur' 3 (0, 0)) ∧ cur'.toList.take n = (markedTo zs k j).map (Value.int .i64)) ∧ w.grownBy wr (some b)) (fun _ i _ => n - (intOf i).toNat)
  case atStart => exact ⟨0, by omega, rfl, by go_num, ⟨cur, hA, ht⟩, World.grownBy.refl w _⟩
  case round =>
    obtain ⟨j, hj, rfl, rfl, ⟨cur', hc, hm⟩, hG⟩ := hrel
    rename World => wx
    by_cases hlt : j < n
    · have hl2 := markedTo_len (zs := zs) (k := k) (i := j) (by rw [hlen.out]; exact hj)
      have hcs : wx.cell? ⟨b, j, none⟩ = some (.int .i64 ((markedTo zs k j)[j]?.getD 0)) := by
        rw [cell_of_row _ b j _ _ (0, 0) hc, take_at hm hlt, List.getElem?_map, List.getElem?_eq_getElem (by rw [hl2, hlen.out]; exact hlt)]
        simp
      have hfs := frozen_of_row _ b j _ _ hc
      have Hms := Lib.hid (markedTo_succ (zs := zs) (k := k) (i := j) (by rw [hlen.out]; exact hlt))
      have Hm := Lib.hid hm
      clear hl2 hm
      go_wp2
      go_roundw
      case rel =>
        refine ⟨j + 1, by omega, by go_num, by rw [Int.natCast_add, ← Int.add_assoc]; rfl, ⟨cur'.setIfInBounds j (.int .i64 (k + (j : Int))), by simp [World.setCell, Array.getElem?_modify, hc], ?_⟩, only_setCell hG (.inl rfl) _⟩
        rw [Array.toList_setIfInBounds, List.take_set, Hm.out, ← List.map_set, Hms.out]
      case measure => simp [intOf]; omega
    · obtain rfl : j = n := by omega
      go_wp2
      go_ret
      refine ⟨rfl, ⟨cur', hc, ?_⟩, hG⟩
      rw [hm, markedTo, List.drop_eq_nil_of_le (by rw [hlen.out]; exact Nat.le_refl _), List.append_nil]

theorem markIntS_rowV (A : Option Addr) (n c lo hi : Nat) (xs : List Int) (k : Int) (w : World) (h : RowV w lo hi A n xs) (hbig : n ≤ 1048576) (hk0 : 0 ≤ k) (hk1 : k ≤ 1152921504606846976) :
    Calls Try.prog 18 #[.slice A n c, .int .i64 k] w fun e w' => e = .returned (.int .i64 (k + n)) ∧ RowV w' lo hi A n (counted k n) ∧ Upd (fun j => lo ≤ j ∧ j < hi) w w' := by
  by_cases hn : 0 < n
  · obtain ⟨b, cur, rfl, hl, hb, hA, ht⟩ := h.2 hn
    refine (markIntS_cells b n c xs cur k w hA ht h.1 hbig hk0 hk1).mono ?_
    rintro e w' ⟨rfl, ⟨cur', hA', ht'⟩, hg⟩
    exact ⟨rfl, ⟨by simp [counted], fun _ => ⟨b, cur', rfl, hl, hb, hA', ht'⟩⟩, (Upd.refl _ _).grown hg (fun j e => by cases e; exact .inr ⟨hl, hb⟩)⟩
  · obtain rfl : n = 0 := by omega
    refine (markIntS_nil A c k w).mono ?_
    rintro e w' ⟨rfl, rfl⟩
    exact ⟨ret_int (by simp), by simpa [counted] using RowV.nil _ lo hi A, Upd.refl _ _⟩
/-- What a function that hands back a new row of numbers does. -/
def GivesRowV (w : World) (xs : List Int) (e : Ending) (w' : World) : Prop := ∃ A n c, e = .returned (.slice A n c) ∧ RowV w' w.heap.size w'.heap.size A n xs ∧ Below w.heap.size w w'
/-- What a function that hands back a new row and whether there is one does. -/
def GivesAtV (w : World) (xs : List Int) (t : Bool) (e : Ending) (w' : World) : Prop := ∃ A n c, e = .returned (.tuple #[.slice A n c, .bool t]) ∧ RowV w' w.heap.size w'.heap.size A n xs ∧ Below w.heap.size w w'
theorem RowV.set0 {w : World} {lo hi n : Nat} {A : Option Addr} {xs : List Int} (h : RowV w lo hi A n xs) {b : Nat} (hA : A = some ⟨b, 0, none⟩) (v : Int) : RowV (w.setCell ⟨b, 0, none⟩ (.int .i64 v)) lo hi A n (xs.set 0 v) :=
  ⟨by rw [List.length_set]; exact h.1, fun hn => by
    obtain ⟨b', cur, e, hl, hb, hc, ht⟩ := h.2 hn
    rw [hA] at e
    cases e
    exact ⟨b, cur.setIfInBounds 0 (.int .i64 v), hA, hl, hb, by simp [World.setCell, Array.getElem?_modify, hc], by rw [Array.toList_setIfInBounds, List.take_set, ht, ← List.map_set]⟩⟩
theorem RowV.cell {w : World} {lo hi n : Nat} {A : Option Addr} {xs : List Int} (h : RowV w lo hi A n xs) (hn : 0 < n) : ∃ b, A = some ⟨b, 0, none⟩ ∧ lo ≤ b ∧ b < hi ∧ (∀ j, w.frozen? ⟨b, j, none⟩ = false) ∧ ∀ j, j < n → w.cell? ⟨b, j, none⟩ = some (.int .i64 (xs[j]?.getD 0)) := by
  obtain ⟨b, cur, e, hl, hb, hc, ht⟩ := h.2 hn
  obtain ⟨b', e', _, _, hcell⟩ := h.told.2 hn
  rw [e] at e'
  cases e'
  exact ⟨b, e, hl, hb, fun j => frozen_of_row _ _ j _ _ hc, hcell⟩
end Go.Proofs.Ytghogabmkbadjaa

/- slices.Clone of an order; a row under way whose cells are stored into; what a list of sets tells, of two lists. -/
namespace Go.Proofs.Ytghogabmkbadjaa
open Go.RowKit Go.Shelf
attribute [local go_sem] Oper.semAt_some
attribute [local go_sem, local simp] wide_fn

section
variable {P : Program} (w : World)
theorem wpList_appendK {ops : Array Oper} {rest : List Oper} {o : Oper} {a : Act} {Q : Exit → Act → World → Prop} (hgd : o.guard = none) (s x : Operand) (t : TypeId)
    (ho : o.op = .call { callee := .builtin .append, args := #[s, x], argTypes := #[t, t] })
    (base : Nat) (e : TypeId) (i : TypeInfo) (z : Value) (bytes : Nat) (ht : P.underlying t = some (.slice e)) (hi : P.info? e = some i) (hz : i.zero = some z)
    (hsize : i.size = 1) (hby : i.bytes = bytes) (hzs : z.cells.size = 1)
    (v : Value) (n : Nat) (xs : List Value) (hs : a.eval s = v) (hown : w.ownsRow base e 1 v n xs)
    (ad : Addr) (m c : Nat) (news : List Value) (hx : a.eval x = .slice (some ad) m c) (hl : news.length = m) (hnews : ∀ j u, news[j]? = some u → w.cell? (ad.add j) = some u) (h1 : ∀ u ∈ news, u.oneCell' = true)
    (h63 : n + m ≤ maxLen) (hbytes : (n + m) * bytes ≤ 140737488355328) (hbase : base ≤ w.heap.size)
    (h : ∀ v' w', w'.ownsRow base e 1 v' (n + m) (xs ++ news) → w.grownBy w' v.ownBlock → wpList P ops Q rest (a.put o.dst v') w') : wpList P ops Q (o :: rest) a w := by
  obtain ⟨v', w', hrun, h2, h3, _, _⟩ := run_append_own_at (P := P) w base t o.type e i z 1 bytes ht hi hz hsize hby hzs (by omega) v n xs hown ad m c news (by omega) hnews h1 h63 hbytes hbase
  refine wpList_plain hgd fun K hK => ?_
  unfold Oper.wp execOp
  simp only [ho, resolve, invoke, builtin, Sem.run_bind, Sem.run_pure, Result.andThen_ok, List.map_toArray, List.map_cons, List.map_nil, hs, hx, hrun]
  exact hK _ _ (h v' w' h2 h3)
end
theorem addr_add3 (b k j : Nat) : (⟨b, k, none⟩ : Addr).add j = ⟨b, k + j, none⟩ := by unfold Addr.add; split <;> simp_all
theorem own_set {w : World} {base n g cap : Nat} {e : TypeId} {xs : List Value} (h : w.ownsRow base e 1 (.slice (some ⟨g, 0, none⟩) n cap) n xs) (k : Nat) (u : Value) :
    (w.setCell ⟨g, k, none⟩ u).ownsRow base e 1 (.slice (some ⟨g, 0, none⟩) n cap) n (xs.set k u) := by
  refine ⟨by rw [List.length_set]; exact h.1, ?_⟩
  rcases h.2 with ⟨e, _⟩ | ⟨g', cap', cur, e, hg, hc, h1, h2, h3, ht⟩
  · cases e
  · cases e
    refine .inr ⟨g, cap, cur.setIfInBounds k u, rfl, hg, by simp [World.setCell, Array.getElem?_modify, hc], h1, h2, by simpa using h3, ?_⟩
    rw [Array.toList_setIfInBounds, List.take_set, ht]
theorem own_cell {w : World} {base n g cap : Nat} {e : TypeId} {zs : List Int} (h : w.ownsRow base e 1 (.slice (some ⟨g, 0, none⟩) n cap) n (zs.map (Value.int .i64))) : (∀ j, j < n → w.cell? ⟨g, j, none⟩ = some (.int .i64 (zs[j]?.getD 0))) ∧ (∀ j, w.frozen? ⟨g, j, none⟩ = false) ∧ g < w.heap.size := by
  refine ⟨(own_cells h).2, fun j => ?_, own_lt' h g rfl⟩
  rcases h.2 with ⟨e, _⟩ | ⟨g', cap', cur, e, hg, hc, _⟩
  · cases e
  · cases e
    exact frozen_of_row _ _ j _ _ hc
theorem own_some {w : World} {base n : Nat} {e : TypeId} {v : Value} {xs : List Value} (h : w.ownsRow base e 1 v n xs) (hn : 0 < n) : ∃ g cap, v = .slice (some ⟨g, 0, none⟩) n cap := by
  rcases h.2 with ⟨_, e⟩ | ⟨g, cap, cur, e, _⟩
  · omega
  · exact ⟨g, cap, e⟩

set_option maxRecDepth 100000 in
set_option maxHeartbeats 2000000 in
theorem clone_own (b n c : Nat) (zs : List Int) (w : World) (hA : Arr w b 59 zs) (hlen : zs.length = n) (hn : n ≤ 6) :
    Calls Try.prog 81 #[.slice (some ⟨b, 0, none⟩) n c] w fun e w' => ∃ v, e = .returned v ∧ OwnS (fun k => w.heap.size ≤ k) w' w.heap.size 59 v zs ∧ Below w.heap.size w w' := by
  obtain ⟨i0, hi0, hz0, hz1, hz2⟩ := info_parts infoItems
  have hlt := hA.lt
  have hcell : ∀ j, j < n → w.cell? ⟨b, j, none⟩ = some (.int .i64 (zs[j]?.getD 0)) := fun j hj => hA.cell (by omega)
  have Hl := Lib.hid hlen
  clear hlen
  have hcmp : ∀ w : World, (binOp BinOp.eql 44 (Value.slice (some ⟨b, 0, none⟩) n c) (Value.slice none 0 0)).run Try.prog w = .ok (.bool false) w := fun w => by first | rfl | kernel_rfl | simp [binOp]
  go_enter Try.func81, Try.ntmps81
  have hown := own_new w 59
  have hU1 : Upd (fun _ => False) w (w.alloc (.cells #[] 59)) := (Upd.refl _ w).alloc _
  have hz1' : (w.alloc (.cells #[] 59)).heap.size = w.heap.size + 1 := by simp
  have hnews : ∀ j u, (zs.map (Value.int .i64))[j]? = some u → (w.alloc (.cells #[] 59)).cell? ((⟨b, 0, none⟩ : Addr).add j) = some u := news_at hcell (hU1.mono (S := fun k => w.heap.size ≤ k) (fun _ _ e => e.elim)) hlt (fun j hj => addr_add3 ..) (fun j hj => by rw [Nat.zero_add]) (by rw [Hl.out]; omega)
  go_wp2_with (at_builtin; refine wpList_appendK _ rfl (.tmp 5) (.tmp 6) _ rfl w.heap.size 59 i0 _ 8 Try.underlying44 hi0 hz0 hz1 hz2 rfl _ 0 [] rfl hown ⟨b, 0, none⟩ n c _ rfl (by rw [List.length_map]; exact Hl.out) hnews (fun u hu => by obtain ⟨z, _, rfl⟩ := List.mem_map.1 hu; rfl) (by simp [maxLen]; omega) (by omega) (by simp) ?_; intro v' w' hown' hg')
  go_ret
  rw [Nat.zero_add, List.nil_append] at hown'
  refine ⟨v', rfl, ⟨fun k hk => own_ge hown' k hk, by rw [Hl.out]; exact hown'⟩, ?_⟩
  exact ((hU1.mono (S := fun k => w.heap.size ≤ k) (fun _ _ e => e.elim)).grown hg' (fun k hk => by simp [Value.ownBlock, Act.eval] at hk; exact .inl (by omega))).toBelow (fun k e => e) (Nat.le_refl _)

/-- What reading two lists gives. -/
def Reads2 (zs ys : List Int) (n m : Nat) (w : World) (e : Ending) (w' : World) : Prop :=
  Below w.heap.size w w' ∧ ((vo zs = true ∧ vo ys = true ∧ ∃ b b', e = .returned (.tuple #[.slice (some ⟨b, 0, none⟩) n n, .slice (some ⟨b', 0, none⟩) m m, .bool true]) ∧ Arr w' b 59 zs ∧ Arr w' b' 59 ys) ∨
    ((vo zs && vo ys) = false ∧ ∃ A k A' k', e = .returned (.tuple #[.slice A k k, .slice A' k' k', .bool false])))
end Go.Proofs.Ytghogabmkbadjaa

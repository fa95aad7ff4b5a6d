/- Texts that several claims share, one behind the other. -/
import Derived.Test.YtghogabmkbadjaaGa
set_option linter.unusedVariables false
set_option linter.unusedSimpArgs false
/- Whether lists of lists are equal. -/
namespace Go.Proofs.Ytghogabmkbadjaa
open Go.RowKit
set_option maxHeartbeats 1000000 in
/-- Whether rows are equal. -/
theorem eqIntSS_any (A A' : Option Addr) (n c n' c' B B' : Nat) (xs ys : List (List Int)) (w : World) (hA : IntsS w B A n xs) (hA' : IntsS w B' A' n' ys) (hbig : n ≤ 1048576) (hbig' : n' ≤ 1048576)
    (hx : ∀ r ∈ xs, r.length ≤ 1048576) (hy : ∀ r ∈ ys, r.length ≤ 1048576) :
    Calls Try.prog 28 #[.slice A n c, .slice A' n' c'] w fun e w' => e = .returned (.bool (decide (xs = ys))) ∧ ∃ m, w' = w.drewN m := by
  have hlen := Lib.hid hA.len
  have hlen' := Lib.hid hA'.len
  have hrow : ∀ (zs : List (List Int)) (k : Nat), (∀ r ∈ zs, r.length ≤ 1048576) → (zs[k]?.getD []).length ≤ 1048576 := fun zs k hz => by
    cases h : zs[k]? with
    | none => simp
    | some r => exact hz r (List.mem_of_getElem? h)
  by_cases hnn : n = n'
  · subst hnn
    go_enter Try.func28, Try.ntmps28
    go_wp2
    go_loopw [5] (fun i wr => ∃ k m : Nat, k ≤ n ∧ i = .int .i64 k ∧ (∀ a, a < k → xs[a]?.getD [] = ys[a]?.getD []) ∧ wr = w.drewN m) (fun i _ => n - (intOf i).toNat)
    case atStart => exact ⟨0, 0, by omega, rfl, fun a ha => by omega, rfl⟩
    case round =>
      obtain ⟨k, m, hk, rfl, hok, rfl⟩ := hrel
      have Hok := Lib.hid hok
      clear hok
      by_cases hlt : k < n
      · obtain ⟨b, off, rfl, _, hc⟩ := hA.at_ hlt
        obtain ⟨b', off', rfl, _, hc'⟩ := hA'.at_ hlt
        obtain ⟨R1, c1, hck, hR1⟩ := hc k hlt
        obtain ⟨R2, c2, hck', hR2⟩ := hc' k hlt
        have Hc := Lib.hid hc
        have Hc' := Lib.hid hc'
        clear hc hc'
        have hx1 := hrow xs k hx
        have hy1 := hrow ys k hy
        cases hne : decide (xs[k]?.getD [] = ys[k]?.getD [])
        · have Hne := Lib.hid (show decide (xs = ys) = false by
            simp only [decide_eq_false_iff_not]; rintro rfl; simp at hne)
          have Hnk := Lib.hid hne
          clear hne
          go_wp2
          go_quiet ((go_at_call 17; exact quiet_any (eqIntS_any _ _ _ _ _ _ B B' _ _ _ (hR1.drewN _) (hR2.drewN _) (by omega) (by omega))))
          rw [Hnk.out]
          go_wp2
          go_ret
          exact ⟨ret_bool Hne.out.symm, by first | exact ⟨_, rfl⟩ | exact ⟨_, World.drewN_drewN ..⟩⟩
        · have Heq := Lib.hid (show xs[k]?.getD [] = ys[k]?.getD [] by simpa using hne)
          have Hnk := Lib.hid hne
          clear hne
          go_wp2
          go_quiet ((go_at_call 17; exact quiet_any (eqIntS_any _ _ _ _ _ _ B B' _ _ _ (hR1.drewN _) (hR2.drewN _) (by omega) (by omega))))
          rw [Hnk.out]
          go_wp2
          go_roundw
          case rel => exact ⟨k + 1, _, by omega, by go_num, all_snoc Hok.out Heq.out, rfl⟩
          case measure => simp [intOf]; omega
      · obtain rfl : k = n := by omega
        have Heq := Lib.hid (show decide (xs = ys) = true by
          simp only [decide_eq_true_eq]
          refine List.ext_getElem? fun i => ?_
          by_cases hi : i < xs.length
          · have h1 := Hok.out i (by rw [← hlen.out]; exact hi)
            have hi' : i < ys.length := by rw [hlen'.out, ← hlen.out]; exact hi
            rw [List.getElem?_eq_getElem hi, List.getElem?_eq_getElem hi'] at h1 ⊢
            simpa using h1
          · rw [List.getElem?_eq_none (by omega), List.getElem?_eq_none (by rw [hlen'.out, ← hlen.out]; omega)])
        go_wp2
        go_ret
        exact ⟨ret_bool Heq.out.symm, _, rfl⟩
  · have Hne := Lib.hid (show decide (xs = ys) = false by
      simp only [decide_eq_false_iff_not]; rintro rfl; exact hnn (hlen.out.symm.trans hlen'.out))
    have hnb : ((n : Int) != (n' : Int)) = true := by simp; omega
    go_enter Try.func28, Try.ntmps28
    go_wp2
    go_ret
    exact ⟨ret_bool Hne.out.symm, 0, rfl⟩
end Go.Proofs.Ytghogabmkbadjaa

/- Marks on rows of rows. -/
namespace Go.Proofs.Ytghogabmkbadjaa
open Go.RowKit

def tot : List (List Int) → Nat
  | [] => 0
  | r :: rs => r.length + tot rs
def countedR (k : Int) : List (List Int) → List (List Int)
  | [] => []
  | r :: rs => counted k r.length :: countedR (k + r.length) rs
theorem tot_snoc : ∀ (rs : List (List Int)) (r : List Int), tot (rs ++ [r]) = tot rs + r.length
  | [], r => by simp [tot]
  | x :: rs, r => by simp [tot, tot_snoc rs r]; omega
theorem countedR_len : ∀ (rs : List (List Int)) (k : Int), (countedR k rs).length = rs.length
  | [], _ => rfl
  | _ :: rs, k => by simp [countedR, countedR_len rs]
theorem countedR_snoc : ∀ (rs : List (List Int)) (r : List Int) (k : Int), countedR k (rs ++ [r]) = countedR k rs ++ [counted (k + tot rs) r.length]
  | [], r, k => by simp [countedR, tot]
  | x :: rs, r, k => by
    simp only [List.cons_append, countedR, countedR_snoc rs r, tot]
    congr 4
    omega
theorem tot_take_le : ∀ (rs : List (List Int)) (i : Nat), tot (rs.take i) ≤ tot rs
  | [], i => by simp
  | r :: rs, 0 => by simp [tot]
  | r :: rs, i + 1 => by have := tot_take_le rs i; simp [tot]; omega
/-- The rows when the first i are marked. -/
def marksTo (k : Int) (rs : List (List Int)) (i : Nat) : List (List Int) := countedR k (rs.take i) ++ rs.drop i
theorem marksTo_len (k : Int) {rs : List (List Int)} {i : Nat} (hi : i ≤ rs.length) : (marksTo k rs i).length = rs.length := by simp [marksTo, countedR_len]; omega
theorem marksTo_get (k : Int) {rs : List (List Int)} {i : Nat} (hi : i < rs.length) : (marksTo k rs i)[i]?.getD [] = rs[i]?.getD [] := by
  have hl : (countedR k (rs.take i)).length = i := by rw [countedR_len]; simp; omega
  rw [marksTo, List.getElem?_append_right (by omega), hl, Nat.sub_self, List.getElem?_drop, Nat.add_zero]
theorem marksTo_succ (k : Int) {rs : List (List Int)} {i : Nat} (hi : i < rs.length) : (marksTo k rs i).set i (counted (k + tot (rs.take i)) (rs[i]?.getD []).length) = marksTo k rs (i + 1) := by
  have hl : (countedR k (rs.take i)).length = i := by rw [countedR_len]; simp; omega
  rw [marksTo, List.set_append_right _ _ (by omega), hl, Nat.sub_self, List.drop_eq_getElem_cons hi, List.set_cons_zero, marksTo, List.take_succ_eq_append_getElem hi, countedR_snoc, List.append_assoc, List.getElem?_eq_getElem hi]
  rfl
theorem tot_take_succ {rs : List (List Int)} {i : Nat} (hi : i < rs.length) : tot (rs.take (i + 1)) = tot (rs.take i) + (rs[i]?.getD []).length := by
  rw [List.take_succ_eq_append_getElem hi, tot_snoc, List.getElem?_eq_getElem hi]; rfl
theorem tot_mem : ∀ {rs : List (List Int)} {r : List Int}, r ∈ rs → r.length ≤ tot rs
  | x :: rs, r, h => by
    rcases List.mem_cons.1 h with rfl | h
    · simp [tot]
    · have := tot_mem h; simp [tot]; omega
theorem getD_le {rs : List (List Int)} (i : Nat) : (rs[i]?.getD []).length ≤ tot rs := by
  cases h : rs[i]? with
  | none => simp
  | some r => exact tot_mem (List.mem_of_getElem? h)

set_option maxHeartbeats 1000000 in
theorem markIntSS_rows (A : Option Addr) (n c lo hi : Nat) (rs : List (List Int)) (k : Int) (w : World) (h : RowsR w lo hi A n rs) (hbig : n ≤ 1048576) (ht : tot rs ≤ 1048576) (hk0 : 0 ≤ k) (hk1 : k ≤ 1048576) :
    Calls Try.prog 29 #[.slice A n c, .int .i64 k] w fun e w' => e = .returned (.int .i64 (k + tot rs)) ∧ RowsR w' lo hi A n (countedR k rs) ∧ Upd (fun j => lo ≤ j ∧ j < hi) w w' := by
  have hlen := Lib.hid h.len
  by_cases hn : 0 < n
  · obtain ⟨g, vs, cs, rfl, hg1, hg2, hg3, hg4, hg5⟩ := h.2 hn
    have Hcs := Lib.hid hg4
    clear hg4
    go_enter Try.func29, Try.ntmps29
    go_wp2
    go_loopw [1, 5] (fun v i wr => ∃ j : Nat, j ≤ n ∧ i = .int .i64 j ∧ v = .int .i64 (k + tot (rs.take j)) ∧ RowsC wr lo hi vs (marksTo k rs j) ∧ wr.heap[g]? = some (.cells cs 22 (0, 0)) ∧ Upd (fun j => lo ≤ j ∧ j < hi) w wr) (fun _ i _ => n - (intOf i).toNat)
    case atStart => exact ⟨0, by omega, rfl, by simp [tot], hg5, hg3, Upd.refl _ _⟩
    case round =>
      obtain ⟨j, hj, rfl, rfl, hR, hG, hU⟩ := hrel
      by_cases hlt : j < n
      · have Hl := Lib.hid (show j < rs.length by rw [hlen.out]; exact hlt)
        have Hml := Lib.hid (marksTo_len k (Nat.le_of_lt Hl.out))
        obtain ⟨A', c', l, m, q1, q2, q3, q4, q5⟩ := hR.at_ j (by rw [Hml.out]; exact Hl.out)
        have Hget := Lib.hid (marksTo_get k Hl.out)
        rw [Hget.out] at q1 q4 q5
        have hcell : wr.cell? ⟨g, j, none⟩ = some (.slice A' (rs[j]?.getD []).length c') := by rw [cell_of_row wr g j _ _ (0, 0) hG]; exact Hcs.out j _ q1
        have hle := getD_le (rs := rs) j
        have htl := tot_take_le rs j
        have Hts := Lib.hid (tot_take_succ Hl.out)
        have Hms := Lib.hid (marksTo_succ k Hl.out)
        have Hg := Lib.hid hG
        have Hq := Lib.hid q5
        clear q1 q5 hG hR
        generalize hr : rs[j]?.getD [] = r at *
        clear hr
        go_wp2_with fail
        refine (markIntS_row' A' r.length c' l m r (k + tot (rs.take j)) wr q4 (by omega) (by omega) (by omega)).mono ?_
        rintro e w1 ⟨rfl, hr1, hu1⟩
        have hG1 : w1.heap[g]? = some (.cells cs 22 (0, 0)) := by
          refine (hu1.block g (Array.getElem?_eq_some_iff.1 Hg.out).1 (fun e => ?_)).trans Hg.out
          obtain ⟨cs', hcs'⟩ := e.2.2
          rw [Hg.out] at hcs'
          cases hcs'
        have HG1 := Lib.hid hG1
        have hR1 := Hq.out w1 (counted (k + tot (rs.take j)) r.length) (by simp [counted]) (hu1.mono fun _ _ e => ⟨e.1, e.2.1⟩) (by simpa [counted] using hr1)
        clear hG1
        go_wp2
        go_roundw
        case rel => exact ⟨j + 1, by omega, by go_num, congrArg (Value.int .i64) (by rw [Hts.out]; omega), by rw [← Hms.out]; exact hR1, HG1.out, hU.trans (hu1.mono fun i _ hi => ⟨by omega, by omega⟩)⟩
        case measure => simp [intOf]; omega
      · obtain rfl : j = n := by omega
        have Htk := Lib.hid (show rs.take j = rs by rw [List.take_of_length_le (by rw [hlen.out]; exact Nat.le_refl _)])
        have Hmk := Lib.hid (show marksTo k rs j = countedR k rs by rw [marksTo, Htk.out, List.drop_eq_nil_of_le (by rw [hlen.out]; exact Nat.le_refl _), List.append_nil])
        have Hg := Lib.hid hG
        clear hG
        go_wp2
        go_ret
        exact ⟨ret_int (by rw [Htk.out]), ⟨by rw [countedR_len]; exact hlen.out, fun _ => ⟨g, vs, cs, rfl, hg1, hg2, Hg.out, Hcs.out, by rw [← Hmk.out]; exact hR⟩⟩, hU⟩
  · obtain rfl : n = 0 := by omega
    obtain rfl : rs = [] := List.eq_nil_of_length_eq_zero h.1
    go_enter Try.func29, Try.ntmps29
    go_wp2
    go_loop [1, 5] (fun v i => i = .int .i64 0 ∧ v = .int .i64 k) (fun _ _ => 0)
    case atStart => exact ⟨rfl, rfl⟩
    case round =>
      obtain ⟨rfl, rfl⟩ := hrel
      go_wp2
      go_ret
      exact ⟨ret_int (by simp [tot]), RowsR.nil _ _ _ _, Upd.refl _ _⟩

theorem countedR_get : ∀ (rs : List (List Int)) (k : Int) (j : Nat), j < rs.length → (countedR k rs)[j]?.getD [] = counted (k + tot (rs.take j)) (rs[j]?.getD []).length
  | r :: rs, k, 0, _ => by simp [countedR, tot]
  | r :: rs, k, j + 1, h => by
    have ih := countedR_get rs (k + r.length) j (by simpa using h)
    simp only [countedR, List.getElem?_cons_succ, List.take_succ_cons, tot]
    rw [ih]
    congr 1
    omega

end Go.Proofs.Ytghogabmkbadjaa

/- The order of spans: as both sides tell it (mathematics). No program. -/
import Derived.Test.YtdcdddmjffgibaaGreatSpM
import Derived.Test.YtdcdddmjffgibaaGreatGa
set_option linter.unusedVariables false
set_option linter.unusedSimpArgs false
namespace Go.Proofs.YtdcdddmjffgibaaGreat
open Go.RowKit

def spanOk (r : List Int) : Bool := decide (r.length = 2) && (inB (r[0]?.getD 0) 0 (r[1]?.getD 0) && inB (r[1]?.getD 0) 0 1000)
def soB (rs : List (List Int)) : Bool := rs.all spanOk && decide (rs.length ≤ 6)
def sF (rs : List (List Int)) (i : Nat) : Int := (rs[i]?.getD [])[0]?.getD 0
def sL (rs : List (List Int)) (i : Nat) : Int := (rs[i]?.getD [])[1]?.getD 0
/-- The first k of those that the span i is below. -/
def soTo (rs : List (List Int)) (i : Nat) : Nat → Int
  | 0 => 0
  | k + 1 => if sL rs i < sF rs k then orI (soTo rs i k) (powI k) else soTo rs i k
theorem soTo_yes {rs : List (List Int)} {i k : Nat} (h : sL rs i < sF rs k) : soTo rs i (k + 1) = orI (soTo rs i k) (powI k) := by simp [soTo, h]
theorem soTo_no {rs : List (List Int)} {i k : Nat} (h : ¬ sL rs i < sF rs k) : soTo rs i (k + 1) = soTo rs i k := by simp [soTo, h]
theorem soTo_bd (rs : List (List Int)) (i : Nat) : ∀ k : Nat, 0 ≤ soTo rs i k ∧ soTo rs i k < powI k
  | 0 => by simp [soTo, powI]
  | k + 1 => by
    have ih := soTo_bd rs i k
    have h1 := powI_pos (k : Int)
    have h2 : powI ((k + 1 : Nat) : Int) = 2 * powI k := by rw [show ((k + 1 : Nat) : Int) = (k : Int) + 1 by omega]; exact powI_succ (by omega)
    unfold soTo
    split
    · exact orI_bd ih.1 (by omega) (by omega) (by omega)
    · omega
theorem soTo_bit (rs : List (List Int)) (i j : Nat) : ∀ k : Nat, bitB (soTo rs i k) j = true ↔ j < k ∧ sL rs i < sF rs j
  | 0 => by simp [soTo, bitB_zero]
  | k + 1 => by
    have ih := soTo_bit rs i j k
    by_cases h : sL rs i < sF rs k
    · rw [soTo_yes h, bitB_or, Bool.or_eq_true, ih, bitB_pow, decide_eq_true_eq]
      constructor
      · rintro (⟨h1, h2⟩ | rfl)
        · exact ⟨by omega, h2⟩
        · exact ⟨by omega, h⟩
      · rintro ⟨h1, h2⟩
        by_cases e : k = j
        · exact .inr e
        · exact .inl ⟨by omega, h2⟩
    · rw [soTo_no h, ih]
      constructor
      · rintro ⟨h1, h2⟩; exact ⟨by omega, h2⟩
      · rintro ⟨h1, h2⟩
        have : j ≠ k := fun e => by subst e; exact h h2
        exact ⟨by omega, h2⟩
def soL (rs : List (List Int)) : List Int := (List.range rs.length).map fun i => soTo rs i rs.length
def soR (rs : List (List Int)) : List Int := if soB rs then soL rs else []
theorem soL_len (rs : List (List Int)) : (soL rs).length = rs.length := by simp [soL]
theorem soL_get {rs : List (List Int)} {i : Nat} (hi : i < rs.length) : (soL rs)[i]?.getD 0 = soTo rs i rs.length := by simp [soL, hi]
theorem soL_snoc {rs : List (List Int)} {k : Nat} (hk : k < rs.length) : (soL rs).take (k + 1) = (soL rs).take k ++ [soTo rs k rs.length] := by
  rw [List.take_succ_eq_append_getElem (by rw [soL_len]; exact hk)]
  simp [soL]
theorem all_take_snoc {α : Type} {p : α → Bool} {l : List α} {k : Nat} (hk : k < l.length) (h : (l.take k).all p = true) (hx : p l[k] = true) : (l.take (k + 1)).all p = true := by
  rw [List.take_succ_eq_append_getElem hk, List.all_append, h]
  simp [hx]
theorem all_not {α : Type} {p : α → Bool} {l : List α} {k : Nat} (hk : k < l.length) (hx : p l[k] = false) : l.all p = false := by
  rw [List.all_eq_false]
  exact ⟨l[k], List.getElem_mem hk, by rw [hx]; decide⟩
theorem so_ok {rs : List (List Int)} (h : soB rs = true) {i : Nat} (hi : i < rs.length) : (rs[i]?.getD []).length = 2 ∧ 0 ≤ sF rs i ∧ sF rs i ≤ sL rs i ∧ sL rs i ≤ 1000 ∧ rs.length ≤ 6 := by
  unfold soB at h
  rw [Bool.and_eq_true, List.all_eq_true, decide_eq_true_eq] at h
  have h1 := h.1 rs[i] (List.getElem_mem hi)
  unfold spanOk inB at h1
  simp only [Bool.and_eq_true, decide_eq_true_eq] at h1
  unfold sF sL
  rw [List.getElem?_eq_getElem hi, Option.getD_some]
  exact ⟨h1.1, h1.2.1.1, h1.2.1.2, h1.2.2.2, h.2⟩
/-- The order of spans is one, and has no two pairs. -/
theorem so_bt {rs : List (List Int)} {i j : Nat} (hi : i < rs.length) : bt (soL rs) i j ↔ j < rs.length ∧ sL rs i < sF rs j := by
  unfold bt
  rw [soL_get hi, soTo_bit]
theorem so_vo {rs : List (List Int)} (h : soB rs = true) : VoP (soL rs) := by
  have h6 : rs.length ≤ 6 := by unfold soB at h; rw [Bool.and_eq_true, decide_eq_true_eq] at h; exact h.2
  refine ⟨by rw [soL_len]; exact h6, fun a ha => ?_, fun a ha b hb => ?_⟩
  · rw [soL_len] at ha
    have hb := soTo_bd rs a rs.length
    refine okA_yes ?_ ?_
    · rw [soL_get ha, soL_len]
      unfold inB
      simp; omega
    · cases e : bitB ((soL rs)[a]?.getD 0) a with
      | false => rfl
      | true =>
        have h1 := (so_bt ha).1 e
        have h2 := so_ok h ha
        omega
  · rw [soL_len] at ha hb
    unfold okP
    cases e : bitB ((soL rs)[a]?.getD 0) b with
    | false => rfl
    | true =>
      have h1 := (so_bt ha).1 e
      have h2 := so_ok h hb
      have h3 := so_ok h ha
      have h4 : lessI ((soL rs)[b]?.getD 0) ((soL rs)[a]?.getD 0) = 0 := sub_less fun j hj => by
        have h5 := (so_bt hb).1 hj
        exact (so_bt ha).2 ⟨h5.1, by omega⟩
      have h5 : bitB ((soL rs)[b]?.getD 0) a = false := by
        cases e2 : bitB ((soL rs)[b]?.getD 0) a with
        | false => rfl
        | true => have := (so_bt hb).1 e2; omega
      rw [h4, h5]; rfl
theorem so_two {rs : List (List Int)} (h : soB rs = true) : twoB (soL rs) = false := by
  cases e : twoB (soL rs) with
  | false => rfl
  | true =>
    unfold twoB at e
    obtain ⟨a, b, c, d, ha, hb, hc, hd, ht⟩ := any4_iff.1 e
    rw [soL_len] at ha hb hc hd
    simp only [tstTwo, Bool.and_eq_true, Bool.not_eq_true', beq_eq_false_iff_ne] at ht
    obtain ⟨h1, h2, h3, h4, h5, h6, h7, h8, h9, h10⟩ := ht
    have r8 : ¬ bt (soL rs) a d := fun e => by unfold relB at h8; rw [Bool.or_eq_false_iff] at h8; rw [bt, h8.1] at e; cases e
    have r9 : ¬ bt (soL rs) c b := fun e => by unfold relB at h9; rw [Bool.or_eq_false_iff] at h9; rw [bt, h9.2] at e; cases e
    have q1 := (so_bt ha).1 h1
    have q2 := (so_bt hc).1 h2
    have q3 := mt (so_bt ha).2 r8
    have q4 := mt (so_bt hc).2 r9
    omega
end Go.Proofs.YtdcdddmjffgibaaGreat

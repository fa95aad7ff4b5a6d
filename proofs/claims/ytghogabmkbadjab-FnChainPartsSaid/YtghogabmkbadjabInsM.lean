/- A list kept sorted by inserting: it is the sorted one; next ones as numbers (mathematics). -/
import Derived.Test.YtghogabmkbadjabInsF
import Derived.Test.YtghogabmkbadjabLkM
import Derived.Test.YtghogabmkbadjabDfM
set_option linter.unusedVariables false
set_option linter.unusedSimpArgs false
namespace Go.Proofs.Ytghogabmkbadjab

theorem insAt_len {ts : List Int} {p : Nat} (x : Int) (hp : p ≤ ts.length) : (insAt ts p x).length = ts.length + 1 := by
  unfold insAt
  simp
  omega
theorem insAt_perm (ts : List Int) (p : Nat) (x : Int) : (insAt ts p x).Perm (x :: ts) := by
  unfold insAt
  have h1 : (ts.take p ++ [x] ++ ts.drop p).Perm ([x] ++ ts.take p ++ ts.drop p) := List.Perm.append_right _ List.perm_append_comm
  refine h1.trans ?_
  rw [List.append_assoc, List.take_append_drop]
  exact List.Perm.refl _
theorem insAt_sorted {ts : List Int} {p : Nat} {x : Int} (hs : ts.Pairwise (· ≤ ·)) (hlo : ∀ i, i < p → ts[i]?.getD 0 < x) (hhi : p < ts.length → x ≤ ts[p]?.getD 0) : (insAt ts p x).Pairwise (· ≤ ·) := by
  unfold insAt
  have hlo' : ∀ y ∈ ts.take p, y ≤ x := fun y hy => by
    obtain ⟨i, hi, rfl⟩ := List.mem_iff_getElem.1 hy
    rw [List.length_take] at hi
    have := hlo i (by omega)
    rw [List.getElem?_eq_getElem (by omega), Option.getD_some] at this
    rw [List.getElem_take]
    omega
  have hhi' : ∀ y ∈ ts.drop p, x ≤ y := fun y hy => by
    obtain ⟨i, hi, rfl⟩ := List.mem_iff_getElem.1 hy
    rw [List.length_drop] at hi
    have h1 := hhi (by omega)
    rw [List.getElem?_eq_getElem (by omega), Option.getD_some] at h1
    rw [List.getElem_drop]
    rcases Nat.eq_zero_or_pos i with rfl | hpos
    · simpa using h1
    · have := List.pairwise_iff_getElem.1 hs p (p + i) (by omega) (by omega) (by omega)
      omega
  rw [List.pairwise_append, List.pairwise_append]
  refine ⟨⟨hs.sublist (List.take_sublist _ _), List.pairwise_singleton _ _, fun a ha b hb => by rw [List.mem_singleton.1 hb]; exact hlo' a ha⟩, hs.sublist (List.drop_sublist _ _), fun a ha b hb => ?_⟩
  have hxb := hhi' b hb
  rcases List.mem_append.1 ha with h | h
  · have := hlo' a h; omega
  · rw [List.mem_singleton.1 h]; exact hxb
theorem sorted_eq : ∀ {l1 l2 : List Int}, l1.Perm l2 → l1.Pairwise (· ≤ ·) → l2.Pairwise (· ≤ ·) → l1 = l2
  | [], _, h, _, _ => h.nil_eq
  | a :: l1, [], h, _, _ => by have := h.length_eq; simp at this
  | a :: l1, b :: l2, h, h1, h2 => by
    rw [List.pairwise_cons] at h1 h2
    have e : a = b := by
      have ha : a ∈ b :: l2 := h.mem_iff.1 (by simp)
      have hb : b ∈ a :: l1 := h.mem_iff.2 (by simp)
      have g1 : b ≤ a := by
        rcases List.mem_cons.1 ha with e | e
        · omega
        · exact h2.1 a e
      have g2 : a ≤ b := by
        rcases List.mem_cons.1 hb with e | e
        · omega
        · exact h1.1 b e
      omega
    subst e
    rw [sorted_eq (List.Perm.cons_inv h) h1.2 h2.2]
/-- Inserted one after the other: the sorted one. -/
theorem ins_step {out L : List Int} {p : Nat} {x : Int} (hs : out.Pairwise (· ≤ ·)) (hp : out.Perm L) (hlo : ∀ i, i < p → out[i]?.getD 0 < x) (hhi : p < out.length → x ≤ out[p]?.getD 0) : (insAt out p x).Pairwise (· ≤ ·) ∧ (insAt out p x).Perm (L ++ [x]) :=
  ⟨insAt_sorted hs hlo hhi, ((insAt_perm out p x).trans (hp.cons x)).trans (List.perm_append_comm (l₁ := [x]) (l₂ := L))⟩
theorem ins_end {out L : List Int} (hs : out.Pairwise (· ≤ ·)) (hp : out.Perm L) : out = sortL L := sorted_eq (hp.trans (sortL_perm L).symm) hs (sortL_sorted L)

/-- Whom each item is followed by, as the model keeps it: -1 for none. -/
def nxN : Option Nat → Int
  | none => -1
  | some j => (j : Int)
def nxL (n : Nat) (has : List Int) (k : Nat) : List Int := (List.range n).map fun i => nxN (nxT has i k)
theorem nxL_len (n : Nat) (has : List Int) (k : Nat) : (nxL n has k).length = n := by simp [nxL]
theorem nxL_get {n i : Nat} (has : List Int) (k : Nat) (hi : i < n) : (nxL n has k)[i]?.getD 0 = nxN (nxT has i k) := by simp [nxL, hi]
theorem nxL_zero (n : Nat) (has : List Int) : nxL n has 0 = List.replicate n (-1) := by
  unfold nxL
  refine List.ext_getElem (by simp) fun i h1 h2 => ?_
  simp [nxT, nxN]
theorem nxL_no {n k : Nat} {has : List Int} (h : has[k]?.getD 0 < 0) : nxL n has (k + 1) = nxL n has k := by
  unfold nxL
  refine List.map_congr_left fun i _ => ?_
  show nxN (if has[k]?.getD 0 = (i : Int) then some k else nxT has i k) = _
  rw [if_neg (by omega)]
theorem nxL_set {n k low : Nat} {has : List Int} (h : has[k]?.getD 0 = (low : Int)) : (nxL n has k).set low (k : Int) = nxL n has (k + 1) := by
  refine List.ext_getElem? fun i => ?_
  rw [List.getElem?_set]
  unfold nxL
  by_cases hi : i < n
  · rw [List.getElem?_map, List.getElem?_map, List.getElem?_range hi]
    simp only [Option.map_some, List.length_map, List.length_range]
    by_cases e : low = i
    · subst e
      rw [if_pos rfl, if_pos hi]
      show some (k : Int) = some (nxN (if has[k]?.getD 0 = (low : Int) then some k else nxT has low k))
      rw [if_pos h]; rfl
    · rw [if_neg e]
      show _ = some (nxN (if has[k]?.getD 0 = (i : Int) then some k else nxT has i k))
      rw [if_neg (by omega)]
  · rw [List.getElem?_eq_none (by simpa using hi : ((List.range n).map fun i => nxN (nxT has i k)).length ≤ i), List.getElem?_eq_none (by simpa using hi : ((List.range n).map fun i => nxN (nxT has i (k + 1))).length ≤ i)]
    split
    · rename_i e
      subst e
      rw [if_neg (by simpa using hi)]
    · rfl
end Go.Proofs.Ytghogabmkbadjab

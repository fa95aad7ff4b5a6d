/- Two lines that tell an order give it a side. No program. -/
import Derived.Test.YtipdmaggfbfnlaaPlN
import Derived.Test.YtipdmaggfbfnlaaGd
set_option linter.unusedVariables false
set_option linter.unusedSimpArgs false
namespace Go.Proofs.Ytipdmaggfbfnlaa

section
variable {n : Nat} {a b : List Int}
theorem me2_q (x y : Nat) (hx : x < n) (hy : y < n) : qB (meL n [a, b]) x y ↔ atI a (x : Int) < atI a (y : Int) ∧ atI b (x : Int) < atI b (y : Int) := by
  unfold qB
  rw [meL_get _ hx, setP_bit]
  unfold behB
  rw [decide_eq_true hy, Bool.true_and, Bool.and_eq_true]
  simp only [List.all_cons, List.all_nil, Bool.and_true, Bool.and_eq_true, decide_eq_true_eq]
  constructor
  · rintro ⟨_, e⟩; exact e
  · intro e
    refine ⟨?_, e⟩
    have : x ≠ y := fun e2 => by subst e2; omega
    simpa using this
theorem me_lt {x y : Nat} {rs : List (List Int)} (h : qB (meL n rs) x y) : x < n ∧ y < n := by
  have hx : x < n := by have := qB_lt (meL_len n rs) h; omega
  refine ⟨hx, ?_⟩
  unfold qB at h
  rw [meL_get _ hx, setP_bit, Bool.and_eq_true, decide_eq_true_eq] at h
  exact h.1
theorem me2_vo (hn : n ≤ 6) : VoP (meL n [a, b]) := by
  refine vo_mk (by rw [meL_len]; exact hn) (fun x hx => ?_) (fun x e => ?_) (fun x y z h1 h2 => ?_)
  · rw [meL_len] at hx ⊢; exact meL_bd _ _ _
  · obtain ⟨hx, _⟩ := me_lt e
    have := (me2_q x x hx hx).1 e; omega
  · obtain ⟨hx, hy⟩ := me_lt h1
    obtain ⟨_, hz⟩ := me_lt h2
    have e1 := (me2_q x y hx hy).1 h1
    have e2 := (me2_q y z hy hz).1 h2
    exact (me2_q x z hx hz).2 ⟨by omega, by omega⟩
theorem at_ne (hn : n ≤ 6) (h : lineB (zr n) a = true) {x y : Nat} (hx : x < n) (hy : y < n) (hxy : x ≠ y) : atI a (x : Int) ≠ atI a (y : Int) := by
  obtain ⟨k, _, e1, e2⟩ := at_of hn h hx
  obtain ⟨j, _, e3, e4⟩ := at_of hn h hy
  intro e
  have : k = j := by omega
  subst this
  exact hxy (e1.symm.trans e3)
theorem zr_back (hn : n ≤ 6) (h : lineB (zr n) a = true) : lineB (zr n) a.reverse = true := by
  have := line_back (zr_vo hn) h
  rwa [zr_du hn] at this
theorem at_back (hn : n ≤ 6) (h : lineB (zr n) a = true) {x : Nat} (hx : x < n) : atI a.reverse (x : Int) = (n : Int) - 1 - atI a (x : Int) := by
  obtain ⟨k, hk, e1, e2⟩ := at_of hn h hx
  have hr := zr_back hn h
  have hl := (zr_steps h).1
  have hj : n - 1 - k < n := by omega
  have e3 := back_at (zs := zr n) (ls := a) (by rw [zr_len]; exact hl) (k := n - 1 - k) (by rw [zr_len]; exact hj)
  rw [zr_len, show n - 1 - (n - 1 - k) = k by omega] at e3
  have f1 := (it_lt hr hj).1
  have f2 := (it_lt h hk).1
  have e4 : itN a.reverse (n - 1 - k) = x := by rw [f1, f2, e1] at e3; omega
  have e5 := at_it hr hj
  rw [e4] at e5
  rw [e5, e2]; omega
/-- An order that two lines tell has a side. -/
theorem side_of_two (hn : n ≤ 6) (ha : lineB (zr n) a = true) (hb : lineB (zr n) b = true) : SideOf (meL n [a, b]) (meL n [a, b.reverse]) := by
  refine ⟨me2_vo hn, by rw [meL_len, meL_len], fun x y hx hy => ?_⟩
  rw [meL_len] at hx hy
  unfold un
  rw [me2_q x y hx hy, me2_q y x hy hx, me2_q x y hx hy, me2_q y x hy hx, at_back hn hb hx, at_back hn hb hy]
  by_cases hxy : x = y
  · subst hxy; simp
  · have h1 := at_ne hn ha hx hy hxy
    have h2 := at_ne hn hb hx hy hxy
    simp only [ne_eq, hxy, not_false_eq_true, true_and]
    omega
/-- Two lines tell it just where it has a side. -/
theorem two_iff {zs : List Int} (h : VoP zs) : (∃ a b, lineB zs a = true ∧ lineB zs b = true ∧ meL zs.length [a, b] = zs) ↔ (sdF zs).isSome = true := by
  constructor
  · rintro ⟨a, b, ha, hb, e⟩
    have hs := side_of_two h.1 (line_zr h rfl ha) (line_zr h rfl hb)
    rw [e] at hs
    obtain ⟨S, hS⟩ := sdF_of h hs
    rw [hS]; rfl
  · intro hs
    obtain ⟨T, hT⟩ := Option.isSome_iff_exists.1 hs
    obtain ⟨_, h2, h3, h4⟩ := two_lines h (sdF_some h hT).1
    exact ⟨_, _, h3, h4, h2⟩
end
end Go.Proofs.Ytipdmaggfbfnlaa

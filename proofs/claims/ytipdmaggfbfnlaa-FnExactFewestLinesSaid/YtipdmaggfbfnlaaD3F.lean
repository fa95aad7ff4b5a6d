/- One line tells an order just where there is no other one. No program. -/
import Derived.Test.YtipdmaggfbfnlaaD3Q
import Derived.Test.YtipdmaggfbfnlaaPlO
set_option linter.unusedVariables false
set_option linter.unusedSimpArgs false
namespace Go.Proofs.Ytipdmaggfbfnlaa

section
variable {E a b : List Int} {n : Nat}
/-- Where each two items stand in order there is one line. -/
theorem tot_one (h : Tot E) (ha : lineB E a = true) (hb : lineB E b = true) : a = b := by
  have hn6 := h.vo.1
  have za := line_zr h.vo rfl ha
  have zb := line_zr h.vo rfl hb
  have l1 := (line_steps ha).1
  have l2 := (line_steps hb).1
  refine List.ext_getElem? fun k => ?_
  rcases Nat.lt_or_ge k E.length with hk | hk
  · have e1 := (it_lt za hk).1
    have e2 := (it_lt zb hk).1
    obtain ⟨j, hj, e3⟩ := it_all hn6 zb (it_lt za hk).2
    have p1 := tot_pop h rfl ha hk
    have p2 := tot_pop h rfl hb hj
    rw [e3, p1] at p2
    obtain rfl : j = k := by omega
    rw [List.getElem?_eq_getElem (by omega), Option.getD_some] at e1 e2
    rw [List.getElem?_eq_getElem (by omega), List.getElem?_eq_getElem (by omega), e1, e2, e3]
  · rw [List.getElem?_eq_none (by omega), List.getElem?_eq_none (by omega)]
theorem me1_q (x y : Nat) (hx : x < n) (hy : y < n) : qB (meL n [a]) x y ↔ atI a (x : Int) < atI a (y : Int) := by
  unfold qB
  rw [meL_get _ hx, setP_bit]
  unfold behB
  rw [decide_eq_true hy, Bool.true_and, Bool.and_eq_true]
  simp only [List.all_cons, List.all_nil, Bool.and_true, decide_eq_true_eq]
  constructor
  · rintro ⟨_, e⟩; exact e
  · intro e
    refine ⟨?_, e⟩
    have : x ≠ y := fun e2 => by subst e2; omega
    simpa using this
theorem told_tot (h : VoP E) (ha : lineB E a = true) (e : meL E.length [a] = E) : Tot E := by
  have za := line_zr h rfl ha
  refine ⟨h, fun x y hx hy hxy => ?_⟩
  have h1 := me1_q (a := a) x y hx hy
  have h2 := me1_q (a := a) y x hy hx
  rw [e] at h1 h2
  have := at_ne h.1 za hx hy hxy
  rw [h1, h2]; omega
theorem behB_same (a : List Int) (x y : Nat) : behB [a, a, a] x y = behB [a] x y := by simp [behB]
/-- One line tells an order just where there is no other one. -/
theorem one_iff (h : VoP E) (ha : lineB E a = true) : meL E.length [a] = E ↔ ∀ b, lineB E b = true → b = a := by
  constructor
  · intro e b hb
    exact tot_one (told_tot h ha e) hb ha
  · intro hall
    obtain ⟨x, y, z, hx, hy, hz, e⟩ := three_lines h
    rw [hall x hx, hall y hy, hall z hz] at e
    refine Eq.trans ?_ e
    unfold meL
    refine List.map_congr_left fun i _ => ?_
    exact setP_congr _ fun j _ => (behB_same a i j).symm
end
end Go.Proofs.Ytipdmaggfbfnlaa

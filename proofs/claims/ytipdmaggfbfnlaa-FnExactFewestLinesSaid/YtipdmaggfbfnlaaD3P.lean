/- Three lines tell each order of at most six items, and it is its lines that do. No program. -/
import Derived.Test.YtipdmaggfbfnlaaGd
import Derived.Test.YtipdmaggfbfnlaaPlN
set_option linter.unusedVariables false
set_option linter.unusedSimpArgs false
namespace Go.Proofs.Ytipdmaggfbfnlaa

section
def tN (j : Nat) : Nat := j * (j - 1) / 2
theorem tN_step : ∀ j : Fin 6, tN (j.val + 1) = tN j.val + j.val := by decide
theorem dnC_bit (c j i : Nat) : (dnC c j).testBit i = (decide (i < j) && c.testBit (tN j + i)) := by
  have : dnC c j = (c >>> tN j) % 2 ^ j := rfl
  rw [this, Nat.testBit_mod_two_pow, Nat.testBit_shiftRight]
theorem tN_le {j n : Nat} (hj : j < n) (hn : n ≤ 6) : tN j + j ≤ tN n := by
  induction n with
  | zero => omega
  | succ n ih =>
    have e := tN_step ⟨n, by omega⟩
    simp only at e
    rcases Nat.lt_or_ge j n with h | h
    · have := ih h (by omega); omega
    · obtain rfl : j = n := by omega
      omega
/-- The bits of a relation below n. -/
theorem bits_of (p : Nat → Bool) : ∀ n : Nat, ∃ d, d < 2 ^ n ∧ ∀ i, d.testBit i = (decide (i < n) && p i)
  | 0 => ⟨0, by simp, fun i => by simp⟩
  | n + 1 => by
    obtain ⟨d, h1, h2⟩ := bits_of p n
    cases hp : p n
    · refine ⟨d, by rw [Nat.pow_succ]; omega, fun i => ?_⟩
      rw [h2]
      rcases Nat.lt_trichotomy i n with h | h | h
      · rw [decide_eq_true h, decide_eq_true (by omega)]
      · subst h; rw [hp]; simp
      · rw [decide_eq_false (by omega), decide_eq_false (by omega)]
    · refine ⟨d ||| 2 ^ n, Nat.or_lt_two_pow (by rw [Nat.pow_succ]; omega) (Nat.pow_lt_pow_right (by omega) (by omega)), fun i => ?_⟩
      rw [Nat.testBit_or, h2, Nat.testBit_two_pow]
      rcases Nat.lt_trichotomy i n with h | h | h
      · rw [decide_eq_true h, decide_eq_true (show i < n + 1 by omega), decide_eq_false (by omega)]; simp
      · subst h; rw [hp]; simp
      · rw [decide_eq_false (by omega), decide_eq_false (show ¬ i < n + 1 by omega), decide_eq_false (by omega)]; simp
theorem code_of (P : Nat → Nat → Bool) : ∀ n : Nat, n ≤ 6 → ∃ c, c < 2 ^ tN n ∧ ∀ j, j < n → ∀ i, (dnC c j).testBit i = (decide (i < j) && P i j)
  | 0, _ => ⟨0, Nat.two_pow_pos _, fun j hj => absurd hj (by omega)⟩
  | n + 1, hn => by
    obtain ⟨c, h1, h2⟩ := code_of P n (by omega)
    obtain ⟨d, d1, d2⟩ := bits_of (fun i => P i n) n
    have e := tN_step ⟨n, by omega⟩
    simp only at e
    refine ⟨c ||| d <<< tN n, ?_, fun j hj i => ?_⟩
    · refine Nat.or_lt_two_pow (Nat.lt_of_lt_of_le h1 (Nat.pow_le_pow_right (by omega) (by omega))) ?_
      rw [e, Nat.shiftLeft_eq, Nat.pow_add, Nat.mul_comm]
      exact Nat.mul_lt_mul_of_pos_left d1 (Nat.two_pow_pos _)
    · rw [dnC_bit]
      rcases Nat.lt_or_ge i j with hij | hij
      · rw [decide_eq_true hij, Bool.true_and, Bool.true_and, Nat.testBit_or, Nat.testBit_shiftLeft]
        rcases Nat.lt_or_ge j n with h | h
        · have h3 := tN_le h (by omega)
          rw [decide_eq_false (show ¬ tN n ≤ tN j + i by omega), Bool.false_and, Bool.or_false]
          have := h2 j h i
          rw [dnC_bit, decide_eq_true hij, Bool.true_and, Bool.true_and] at this
          exact this
        · obtain rfl : j = n := by omega
          rw [Nat.testBit_lt_two_pow (Nat.lt_of_lt_of_le h1 (Nat.pow_le_pow_right (by omega) (by omega))), decide_eq_true (show tN j ≤ tN j + i by omega), Bool.false_or, Bool.true_and, Nat.add_sub_cancel_left, d2, decide_eq_true hij, Bool.true_and]
      · rw [decide_eq_false (by omega), Bool.false_and, Bool.false_and]
theorem in_of {c d : Nat} : ∀ i : Nat, (∀ k, k < i → d.testBit k = true → dnC c k &&& d = dnC c k) → inC c d i = true
  | 0, _ => rfl
  | i + 1, h => by
    have ih := in_of i fun k hk => h k (by omega)
    rw [inC]
    cases h1 : Nat.beq (Nat.land (Nat.shiftRight d i) 1) 0
    · have ht : d.testBit i = true := by
        unfold Nat.testBit
        rw [Nat.and_comm]
        have : ¬ ((d >>> i) &&& 1) = 0 := fun e => by
          rw [show Nat.beq (Nat.land (Nat.shiftRight d i) 1) 0 = Nat.beq ((d >>> i) &&& 1) 0 from rfl, e] at h1
          cases h1
        simpa using this
      have h2 := h i (by omega) ht
      have h3 : Nat.beq (Nat.land (dnC c i) d) (dnC c i) = true := by
        rw [show Nat.land (dnC c i) d = dnC c i &&& d from rfl, h2]; exact Nat.beq_refl _
      rw [h3]; exact ih
    · exact ih
theorem tr_of {c : Nat} : ∀ n : Nat, (∀ j, j < n → ∀ k, k < j → (dnC c j).testBit k = true → dnC c k &&& dnC c j = dnC c k) → trC c n = true
  | 0, _ => rfl
  | n + 1, h => by
    rw [trC, tr_of n fun j hj => h j (by omega)]
    exact in_of n (h n (by omega))
theorem mem_of {x : Nat} : ∀ {l : List Nat}, memC x l = true → x ∈ l
  | [], h => by cases h
  | y :: ys, h => by
    rw [memC] at h
    cases h1 : Nat.beq y x
    · rw [h1] at h; exact List.mem_cons_of_mem _ (mem_of h)
    · rw [Nat.eq_of_beq_eq_true h1]; exact List.mem_cons_self
theorem mem_to {x : Nat} : ∀ {l : List Nat}, x ∈ l → memC x l = true
  | [], h => by cases h
  | y :: ys, h => by
    rw [memC]
    cases h1 : Nat.beq y x
    · rcases List.mem_cons.1 h with e | e
      · subst e; rw [Nat.beq_refl] at h1; cases h1
      · exact mem_to e
    · rfl
theorem lt_of {n : Nat} : ∀ {l : List Nat}, ltC n l = true → ∀ x, x ∈ l → x < n
  | [], _, x, hx => by cases hx
  | y :: ys, h, x, hx => by
    rw [ltC] at h
    cases h1 : Nat.blt y n
    · rw [h1] at h; cases h
    · rw [h1] at h
      rcases List.mem_cons.1 hx with e | e
      · rw [e]; exact Nat.blt_eq ▸ h1
      · exact lt_of h x e
theorem nd_of : ∀ {l : List Nat}, ndC l = true → ∀ k, k < l.length → l.idxOf (l[k]?.getD 0) = k
  | [], _, k, hk => absurd hk (by simp)
  | y :: ys, h, k, hk => by
    rw [ndC] at h
    cases h1 : memC y ys
    · rw [h1] at h
      cases k with
      | zero => simp
      | succ k =>
        have hk' : k < ys.length := by simpa using hk
        have ih := nd_of (l := ys) h k hk'
        rw [List.getElem?_cons_succ, List.idxOf_cons]
        have hm : ys[k]?.getD 0 ∈ ys := by rw [List.getElem?_eq_getElem hk', Option.getD_some]; exact List.getElem_mem hk'
        have hne : (y == ys[k]?.getD 0) = false := by
          rw [beq_eq_false_iff_ne]
          intro e
          rw [e, mem_to hm] at h1; cases h1
        rw [hne, ih]; rfl
    · rw [h1] at h; cases h
theorem pm_of {n : Nat} {l : List Nat} (h : pmC n l = true) : l.length = n ∧ (∀ x, x < n → x ∈ l) ∧ (∀ x, x ∈ l → x < n) ∧ ∀ k, k < l.length → l.idxOf (l[k]?.getD 0) = k := by
  have key : ∀ m, mmC l m = true → ∀ x, x < m → x ∈ l := fun m => by
    induction m with
    | zero => intro _ x hx; omega
    | succ m ih =>
      intro h x hx
      rw [mmC] at h
      cases h1 : memC m l
      · rw [h1] at h; cases h
      · rw [h1] at h
        rcases Nat.lt_or_ge x m with hlt | hge
        · exact ih h x hlt
        · obtain rfl : x = m := by omega
          exact mem_of h1
  unfold pmC at h
  cases h1 : Nat.beq l.length n
  · rw [h1] at h; cases h
  · cases h2 : ltC n l
    · rw [h1, h2] at h; cases h
    · cases h3 : ndC l
      · rw [h1, h2, h3] at h; cases h
      · rw [h1, h2, h3] at h
        exact ⟨Nat.eq_of_beq_eq_true h1, key n h, lt_of h2, nd_of h3⟩
/-- What stands ahead of x, told by where it stands. -/
theorem bf_of {x y : Nat} : ∀ {l : List Nat}, x ∈ l → ((bfC x l).testBit y = true ↔ l.idxOf y < l.idxOf x)
  | [], h => by cases h
  | z :: l, h => by
    rw [bfC]
    cases h1 : Nat.beq z x
    · have hzx : z ≠ x := fun e => by subst e; rw [Nat.beq_refl] at h1; cases h1
      have hx : x ∈ l := by
        rcases List.mem_cons.1 h with e | e
        · exact absurd e.symm hzx
        · exact e
      have ih := bf_of (y := y) hx
      show (2 ^ z ||| bfC x l).testBit y = true ↔ _
      rw [Nat.testBit_or, Nat.testBit_two_pow, Bool.or_eq_true, ih, decide_eq_true_eq, List.idxOf_cons, List.idxOf_cons]
      have e1 : (z == x) = false := by simpa using hzx
      rw [e1]
      by_cases hzy : z = y
      · subst hzy; simp
      · have e2 : (z == y) = false := by simpa using hzy
        rw [e2]
        simp [hzy]
    · have hzx : z = x := Nat.eq_of_beq_eq_true h1
      subst hzx
      show (0 : Nat).testBit y = true ↔ _
      rw [List.idxOf_cons]
      simp
end
end Go.Proofs.Ytipdmaggfbfnlaa

/- In how many ways an order is lined up: counted from the first item on, and from the last one back, it is as many. No program. -/
import Derived.Test.YtipdmaggfbfnlaaLineM
set_option linter.unusedVariables false
set_option linter.unusedSimpArgs false
namespace Go.Proofs.Ytipdmaggfbfnlaa

/-! Sums over lists. -/
theorem sum_map_add {α : Type} (f g : α → Nat) : ∀ l : List α, (l.map fun x => f x + g x).sum = (l.map f).sum + (l.map g).sum
  | [] => rfl
  | x :: l => by
    have := sum_map_add f g l
    simp only [List.map_cons, List.sum_cons] at this ⊢
    omega
theorem sum_map_zero {α : Type} : ∀ l : List α, (l.map fun _ => 0).sum = 0
  | [] => rfl
  | _ :: l => by simpa using sum_map_zero l
theorem sum_swap {α β : Type} (f : α → β → Nat) (m : List β) : ∀ l : List α, (l.map fun x => (m.map (f x)).sum).sum = (m.map fun y => (l.map fun x => f x y).sum).sum
  | [] => by simpa using (sum_map_zero m).symm
  | x :: l => by
    rw [List.map_cons, List.sum_cons, sum_swap f m l, ← sum_map_add]
    rfl
theorem sum_mul {α : Type} (c : Nat) (f : α → Nat) : ∀ l : List α, (l.map fun x => c * f x).sum = c * (l.map f).sum
  | [] => rfl
  | x :: l => by rw [List.map_cons, List.sum_cons, List.map_cons, List.sum_cons, sum_mul c f l, Nat.mul_add]
theorem sum_if {α : Type} (p : α → Bool) (f : α → Nat) : ∀ l : List α, (l.map fun x => if p x then f x else 0).sum = ((l.filter p).map f).sum
  | [] => rfl
  | x :: l => by
    rw [List.map_cons, List.sum_cons, sum_if p f l, List.filter_cons]
    cases p x <;> simp
theorem sum_congr {α : Type} {f g : α → Nat} {l : List α} (h : ∀ x ∈ l, f x = g x) : (l.map f).sum = (l.map g).sum := by rw [List.map_congr_left h]

/-- The sets with the item a are those without it, and it. -/
theorem with_item : ∀ n : Fin 7, ∀ a : Fin 6, a.val < n.val → (List.range (2 ^ n.val)).filter (fun s : Nat => s.testBit a.val) = ((List.range (2 ^ n.val)).filter fun s : Nat => !s.testBit a.val).map fun s => s + 2 ^ a.val := by decide +kernel
/-- Edges: by the items s, the item a comes next. -/
def nextE (zs : List Int) (s a : Nat) : Bool := !s.testBit a && (lessI ((du zs)[a]?.getD 0) (s : Int) == 0)
def belowAny (zs : List Int) (s a : Nat) : Bool := (List.range zs.length).any fun b => s.testBit b && bitB ((du zs)[b]?.getD 0) a
/-- As the model asks it: a is one of s, with all below it there, and below none of s. -/
def eG (zs : List Int) (s a : Nat) : Bool := s.testBit a && ((lessI ((du zs)[a]?.getD 0) (s : Int) == 0) && !belowAny zs s a)
/-- As the program asks it: a is one of what is left, of which none is below it. -/
def eF (zs : List Int) (s a : Nat) : Bool := s.testBit a && (andI ((du zs)[a]?.getD 0) (s : Int) == 0)
theorem sub_lt {s a : Nat} (h : ¬ s = 0) : s - 2 ^ a < s := by have := Nat.two_pow_pos a; omega
/-- In how many ways the set s is lined up. -/
def cG (zs : List Int) (s : Nat) : Nat := if h : s = 0 then 1 else ((List.range zs.length).map fun a => if eG zs s a then cG zs (s - 2 ^ a) else 0).sum
termination_by s
decreasing_by exact sub_lt h
/-- In how many ways what is left is lined up. -/
def cF (zs : List Int) (s : Nat) : Nat := if h : s = 0 then 1 else ((List.range zs.length).map fun a => if eF zs s a then cF zs (s - 2 ^ a) else 0).sum
termination_by s
decreasing_by exact sub_lt h
theorem cG_zero (zs : List Int) : cG zs 0 = 1 := by rw [cG]; rfl
theorem cF_zero (zs : List Int) : cF zs 0 = 1 := by rw [cF]; rfl
theorem cG_pos {zs : List Int} {s : Nat} (h : s ≠ 0) : cG zs s = ((List.range zs.length).map fun a => if eG zs s a then cG zs (s - 2 ^ a) else 0).sum := by rw [cG, dif_neg h]
theorem cF_pos {zs : List Int} {s : Nat} (h : s ≠ 0) : cF zs s = ((List.range zs.length).map fun a => if eF zs s a then cF zs (s - 2 ^ a) else 0).sum := by rw [cF, dif_neg h]

/-- All below its items are there. -/
def Ideal (zs : List Int) (s : Nat) : Prop := ∀ a b : Nat, s.testBit b = true → bitB ((du zs)[b]?.getD 0) a = true → s.testBit a = true
theorem bit_cast (s j : Nat) : bitB (s : Int) (j : Int) = s.testBit j := by simp [bitB]
theorem less_zero {d : Int} {s : Nat} : lessI d (s : Int) = 0 ↔ ∀ j : Nat, bitB d j = true → s.testBit j = true := by
  constructor
  · intro e j hj
    have := bitB_less d (s : Int) j
    rw [e, bitB_zero, hj, bit_cast] at this
    simpa using this.symm
  · intro e
    refine bitB_ext (lessI_bd _ _).1 (Int.le_refl _) fun j => ?_
    rw [bitB_less, bitB_zero, bit_cast]
    cases h : bitB d j
    · rfl
    · rw [e j h]; rfl
theorem sub_bit_fin : ∀ s : Fin 64, ∀ a j : Fin 6, s.val.testBit a.val = true → (s.val - 2 ^ a.val).testBit j.val = (s.val.testBit j.val && !decide (a.val = j.val)) := by decide +kernel
theorem add_bit_fin : ∀ s : Fin 64, ∀ a j : Fin 6, s.val.testBit a.val = false → (s.val + 2 ^ a.val).testBit j.val = (s.val.testBit j.val || decide (a.val = j.val)) := by decide +kernel
theorem add_lt_fin : ∀ n : Fin 7, ∀ s : Fin 64, ∀ a : Fin 6, s.val < 2 ^ n.val → a.val < n.val → s.val.testBit a.val = false → s.val + 2 ^ a.val < 2 ^ n.val := by decide +kernel
theorem com_bit_fin : ∀ n : Fin 7, ∀ s : Fin 64, s.val < 2 ^ n.val → ∀ j : Fin 6, (2 ^ n.val - 1 - s.val).testBit j.val = (decide (j.val < n.val) && !s.val.testBit j.val) := by decide +kernel
theorem ge_bit_fin : ∀ s : Fin 64, ∀ a : Fin 6, s.val.testBit a.val = true → 2 ^ a.val ≤ s.val := by decide +kernel
theorem bit_lt {n s j : Nat} (hs : s < 2 ^ n) (h : s.testBit j = true) : j < n := by
  rcases Nat.lt_or_ge j n with h1 | h1
  · exact h1
  · rw [Nat.testBit_lt_two_pow (Nat.lt_of_lt_of_le hs (Nat.pow_le_pow_right (by decide) h1))] at h; cases h
theorem pow_le64 {n : Nat} (h : n ≤ 6) : 2 ^ n ≤ 64 := Nat.pow_le_pow_right (n := 2) (by decide) h
theorem sum_pick (f : Nat → Nat) (c : Nat) : ∀ N : Nat, c < N → ((List.range N).map f).sum = ((List.range N).map fun x => if x = c then 0 else f x).sum + f c
  | N + 1, hc => by
    rw [List.range_succ, List.map_append, List.sum_append, List.map_append, List.sum_append]
    by_cases h : c = N
    · subst h
      have : ((List.range c).map fun x => if x = c then 0 else f x).sum = ((List.range c).map f).sum := sum_congr fun x hx => by
        have := List.mem_range.1 hx
        rw [if_neg (by omega)]
      rw [this]
      simp
    · rw [sum_pick f c N (by omega)]
      have : ¬ N = c := fun e => h e.symm
      simp [this]
      omega
theorem du_small {zs : List Int} (h : VoP zs) {a j : Nat} (hb : bitB ((du zs)[a]?.getD 0) j = true) : j < zs.length ∧ a < zs.length := by
  rcases Nat.lt_or_ge a (du zs).length with h1 | h1
  · have := (du_sets h.sets).2 a h1
    rw [du_len] at this h1
    exact ⟨bitB_lt this.2 hb, h1⟩
  · rw [List.getElem?_eq_none h1, Option.getD_none, bitB_zero] at hb; cases hb
theorem du_irr {zs : List Int} (h : VoP zs) (a : Nat) : bitB ((du zs)[a]?.getD 0) a = false := by
  rw [du_bit h.sets]
  rcases Nat.lt_or_ge a zs.length with h1 | h1
  · exact h.irrB h1
  · rw [List.getElem?_eq_none h1, Option.getD_none, bitB_zero]
theorem sum_ne {α : Type} {f : α → Nat} : ∀ l : List α, (l.map f).sum ≠ 0 → ∃ x ∈ l, f x ≠ 0
  | [], h => absurd rfl h
  | x :: l, h => by
    by_cases hx : f x = 0
    · rw [List.map_cons, List.sum_cons, hx, Nat.zero_add] at h
      obtain ⟨y, hy, e⟩ := sum_ne l h
      exact ⟨y, by simp [hy], e⟩
    · exact ⟨x, by simp, hx⟩
theorem cG_ideal {zs : List Int} (h : VoP zs) : ∀ (k s : Nat), s ≤ k → s < 2 ^ zs.length → cG zs s ≠ 0 → Ideal zs s
  | 0, s, hk, _, _ => by
    obtain rfl : s = 0 := by omega
    intro a b hb _
    simp at hb
  | k + 1, s, hk, hN, hc => by
    by_cases h0 : s = 0
    · exact cG_ideal h k s (by omega) hN hc
    · have h6 := pow_le64 h.1
      rw [cG_pos h0] at hc
      obtain ⟨a, ha, hne⟩ := sum_ne _ hc
      have han := List.mem_range.1 ha
      have hn6 := h.1
      cases he : eG zs s a
      · simp only [he] at hne; exact absurd rfl hne
      · simp only [he, if_true] at hne
        unfold eG at he
        rw [Bool.and_eq_true, Bool.and_eq_true] at he
        obtain ⟨h1, h2, _⟩ := he
        have hge := ge_bit_fin ⟨s, by omega⟩ ⟨a, by omega⟩ h1
        simp only at hge
        have hp := Nat.two_pow_pos a
        have ih := cG_ideal h k (s - 2 ^ a) (by omega) (by omega) hne
        have hsub := less_zero.1 (show lessI ((du zs)[a]?.getD 0) (s : Int) = 0 by simpa using h2)
        have sb : ∀ j, j < 6 → (s - 2 ^ a).testBit j = (s.testBit j && !decide (a = j)) := fun j hj => sub_bit_fin ⟨s, by omega⟩ ⟨a, by omega⟩ ⟨j, hj⟩ h1
        intro x b hb hx
        have hb6 := bit_lt hN hb
        by_cases hba : a = b
        · subst hba; exact hsub x hx
        · have hx6 := (du_small h hx).1
          have := ih x b (by rw [sb b (by omega), hb]; simp [hba]) hx
          rw [sb x (by omega), Bool.and_eq_true] at this
          exact this.1
/-- From what is left back to what is there. -/
theorem cF_next {zs : List Int} (h : VoP zs) {s : Nat} (hN : s < 2 ^ zs.length) (hs : s ≠ 2 ^ zs.length - 1) :
    cF zs (2 ^ zs.length - 1 - s) = ((List.range zs.length).map fun a => if nextE zs s a then cF zs (2 ^ zs.length - 1 - (s + 2 ^ a)) else 0).sum := by
  have h6 := pow_le64 h.1
  have hn6 := h.1
  rw [cF_pos (by omega)]
  refine sum_congr fun a ha => ?_
  have han := List.mem_range.1 ha
  have cb : ∀ j, j < 6 → (2 ^ zs.length - 1 - s).testBit j = (decide (j < zs.length) && !s.testBit j) := fun j hj => com_bit_fin ⟨zs.length, by omega⟩ ⟨s, by omega⟩ hN ⟨j, hj⟩
  have e1 : eF zs (2 ^ zs.length - 1 - s) a = nextE zs s a := by
    unfold eF nextE
    rw [cb a (by omega), decide_eq_true han, Bool.true_and]
    congr 1
    have key : andI ((du zs)[a]?.getD 0) ((2 ^ zs.length - 1 - s : Nat) : Int) = 0 ↔ lessI ((du zs)[a]?.getD 0) (s : Int) = 0 := by
      rw [andI_zero, less_zero]
      constructor
      · intro e j hj
        have hjn := (du_small h hj).1
        cases hc : s.testBit j
        · have := e j (by rw [bit_cast, cb j (by omega), hc]; simp [hjn])
          rw [hj] at this; cases this
        · rfl
      · intro e j hj
        cases hd : bitB ((du zs)[a]?.getD 0) j
        · rfl
        · have hjn := (du_small h hd).1
          rw [bit_cast, cb j (by omega), e j hd] at hj
          simp at hj
    by_cases hk : lessI ((du zs)[a]?.getD 0) (s : Int) = 0
    · rw [hk, key.2 hk]
    · have hk' : ¬ andI ((du zs)[a]?.getD 0) ((2 ^ zs.length - 1 - s : Nat) : Int) = 0 := fun e => hk (key.1 e)
      rw [beq_eq_false_iff_ne.2 hk, beq_eq_false_iff_ne.2 hk']
  rw [e1, Nat.sub_sub]
theorem edge_same {zs : List Int} (h : VoP zs) {s a : Nat} (hN : s < 2 ^ zs.length) (han : a < zs.length) (hb : s.testBit a = false) (X : Nat) :
    (if nextE zs s a then cG zs s * X else 0) = if eG zs (s + 2 ^ a) a then cG zs s * X else 0 := by
  have h6 := pow_le64 h.1
  have hn6 := h.1
  have ab : ∀ j, j < 6 → (s + 2 ^ a).testBit j = (s.testBit j || decide (a = j)) := fun j hj => add_bit_fin ⟨s, by omega⟩ ⟨a, by omega⟩ ⟨j, hj⟩ hb
  by_cases hc : cG zs s = 0
  · rw [hc]; simp
  · have hid := cG_ideal h s s (Nat.le_refl _) hN hc
    have e1 : belowAny zs (s + 2 ^ a) a = false := by
      unfold belowAny
      rw [List.any_eq_false]
      intro b hbr
      have hbn := List.mem_range.1 hbr
      rw [ab b (by omega)]
      intro e
      rw [Bool.and_eq_true, Bool.or_eq_true] at e
      obtain ⟨e1 | e1, e2⟩ := e
      · have := hid a b e1 e2
        rw [hb] at this; cases this
      · have : a = b := by simpa using e1
        subst this
        rw [du_irr h] at e2; cases e2
    have e2 : lessI ((du zs)[a]?.getD 0) ((s + 2 ^ a : Nat) : Int) = 0 ↔ lessI ((du zs)[a]?.getD 0) (s : Int) = 0 := by
      rw [less_zero, less_zero]
      constructor
      · intro e j hj
        have hjn := (du_small h hj).1
        have := e j hj
        rw [ab j (by omega), Bool.or_eq_true] at this
        rcases this with h1 | h1
        · exact h1
        · have : a = j := by simpa using h1
          subst this
          rw [du_irr h] at hj; cases hj
      · intro e j hj
        have hjn := (du_small h hj).1
        rw [ab j (by omega), e j hj]
        rfl
    have e3 : nextE zs s a = eG zs (s + 2 ^ a) a := by
      unfold nextE eG
      rw [hb, ab a (by omega), hb, e1]
      by_cases hk : lessI ((du zs)[a]?.getD 0) (s : Int) = 0
      · rw [hk, e2.2 hk]; simp
      · have hk' : ¬ lessI ((du zs)[a]?.getD 0) ((s + 2 ^ a : Nat) : Int) = 0 := fun e => hk (e2.1 e)
        rw [beq_eq_false_iff_ne.2 hk, beq_eq_false_iff_ne.2 hk']; simp
    rw [e3]
/-- Counted both ways it is as many. -/
theorem count_both {zs : List Int} (h : VoP zs) : cG zs (2 ^ zs.length - 1) = cF zs (2 ^ zs.length - 1) := by
  have h6 := pow_le64 h.1
  have hn6 := h.1
  have hpos := Nat.two_pow_pos zs.length
  have P1 := sum_pick (fun s => cG zs s * cF zs (2 ^ zs.length - 1 - s)) (2 ^ zs.length - 1) (2 ^ zs.length) (by omega)
  have P2 := sum_pick (fun s => cG zs s * cF zs (2 ^ zs.length - 1 - s)) 0 (2 ^ zs.length) hpos
  have hA1 : cG zs (2 ^ zs.length - 1) * cF zs (2 ^ zs.length - 1 - (2 ^ zs.length - 1)) = cG zs (2 ^ zs.length - 1) := by rw [Nat.sub_self, cF_zero, Nat.mul_one]
  have hA2 : cG zs 0 * cF zs (2 ^ zs.length - 1 - 0) = cF zs (2 ^ zs.length - 1) := by rw [cG_zero, Nat.one_mul, Nat.sub_zero]
  rw [hA1] at P1
  rw [hA2] at P2
  have L : ((List.range (2 ^ zs.length)).map fun s => if s = 2 ^ zs.length - 1 then 0 else cG zs s * cF zs (2 ^ zs.length - 1 - s)).sum =
      ((List.range (2 ^ zs.length)).map fun s => ((List.range zs.length).map fun a => if nextE zs s a then cG zs s * cF zs (2 ^ zs.length - 1 - (s + 2 ^ a)) else 0).sum).sum := sum_congr fun s hs => by
    have hN := List.mem_range.1 hs
    by_cases he : s = 2 ^ zs.length - 1
    · rw [if_pos he]
      have : ((List.range zs.length).map fun a => if nextE zs s a then cG zs s * cF zs (2 ^ zs.length - 1 - (s + 2 ^ a)) else 0).sum = ((List.range zs.length).map fun _ => 0).sum := sum_congr fun a ha => by
        have han := List.mem_range.1 ha
        have : nextE zs s a = false := by
          unfold nextE
          rw [he, Nat.testBit_two_pow_sub_one, decide_eq_true han]
          rfl
        rw [this]; rfl
      rw [this, sum_map_zero]
    · rw [if_neg he, cF_next h hN he, ← sum_mul]
      refine sum_congr fun a _ => ?_
      cases nextE zs s a <;> simp
  have R : ((List.range (2 ^ zs.length)).map fun s => if s = 0 then 0 else cG zs s * cF zs (2 ^ zs.length - 1 - s)).sum =
      ((List.range (2 ^ zs.length)).map fun s => ((List.range zs.length).map fun a => if eG zs s a then cG zs (s - 2 ^ a) * cF zs (2 ^ zs.length - 1 - s) else 0).sum).sum := sum_congr fun s hs => by
    by_cases he : s = 0
    · rw [if_pos he]
      have : ((List.range zs.length).map fun a => if eG zs s a then cG zs (s - 2 ^ a) * cF zs (2 ^ zs.length - 1 - s) else 0).sum = ((List.range zs.length).map fun _ => 0).sum := sum_congr fun a _ => by
        have : eG zs s a = false := by unfold eG; rw [he]; simp
        rw [this]; rfl
      rw [this, sum_map_zero]
    · rw [if_neg he, cG_pos he, Nat.mul_comm, ← sum_mul]
      refine sum_congr fun a _ => ?_
      cases eG zs s a <;> simp [Nat.mul_comm]
  have M : ((List.range (2 ^ zs.length)).map fun s => ((List.range zs.length).map fun a => if nextE zs s a then cG zs s * cF zs (2 ^ zs.length - 1 - (s + 2 ^ a)) else 0).sum).sum =
      ((List.range (2 ^ zs.length)).map fun s => ((List.range zs.length).map fun a => if eG zs s a then cG zs (s - 2 ^ a) * cF zs (2 ^ zs.length - 1 - s) else 0).sum).sum := by
    refine (sum_swap _ _ _).trans (Eq.trans ?_ (sum_swap _ _ _).symm)
    refine sum_congr fun a ha => ?_
    have han := List.mem_range.1 ha
    have e1 : ((List.range (2 ^ zs.length)).map fun s => if nextE zs s a then cG zs s * cF zs (2 ^ zs.length - 1 - (s + 2 ^ a)) else 0).sum =
        (((List.range (2 ^ zs.length)).filter fun s : Nat => !s.testBit a).map fun s => if nextE zs s a then cG zs s * cF zs (2 ^ zs.length - 1 - (s + 2 ^ a)) else 0).sum := by
      rw [← sum_if]
      refine sum_congr fun s _ => ?_
      cases hb : s.testBit a
      · rfl
      · have : nextE zs s a = false := by unfold nextE; rw [hb]; rfl
        rw [this]; rfl
    have e2 : ((List.range (2 ^ zs.length)).map fun s => if eG zs s a then cG zs (s - 2 ^ a) * cF zs (2 ^ zs.length - 1 - s) else 0).sum =
        (((List.range (2 ^ zs.length)).filter fun s : Nat => s.testBit a).map fun s => if eG zs s a then cG zs (s - 2 ^ a) * cF zs (2 ^ zs.length - 1 - s) else 0).sum := by
      rw [← sum_if]
      refine sum_congr fun s _ => ?_
      cases hb : s.testBit a
      · have : eG zs s a = false := by unfold eG; rw [hb]; rfl
        rw [this]; rfl
      · rfl
    rw [e1, e2, with_item ⟨zs.length, by omega⟩ ⟨a, by omega⟩ han, List.map_map]
    refine sum_congr fun s hs => ?_
    rw [List.mem_filter] at hs
    have hN := List.mem_range.1 hs.1
    have hb : s.testBit a = false := by simpa using hs.2
    simp only [Function.comp, Nat.add_sub_cancel]
    exact edge_same h hN han hb _
  rw [L] at P1
  rw [R] at P2
  rw [P1, M] at P2
  omega
end Go.Proofs.Ytipdmaggfbfnlaa

/- Texts that several claims share, one behind the other. -/
import Derived.Test.YtogiooecjfnkcaaDoorGa
import Derived.Maps.Own
import Derived.Test.YtogiooecjfnkcaaDoorRows
import Derived.LaidHandle
import Derived.LaidLaws
import Derived.OrdersHeld
import Derived.Deep.RegionHeld3
import Derived.ProofKit
import Derived.OpenShut
import Derived.JoinedOf
import Derived.JoinedAt
import Derived.ChangeSlices
import Derived.ChangeSame
import Derived.JoinedCond
import Derived.ChangeKeysEq
/- Lines, as plain mathematics: what is lined up, what is left, and when the next item may come. No program. -/
namespace Go.Proofs.YtogiooecjfnkcaaDoor

/-- The first k items of the list. -/
def doneTo (ls : List Int) : Nat → Int
  | 0 => 0
  | k + 1 => orI (doneTo ls k) (powI (ls[k]?.getD 0))
/-- All items but the first k of the list. -/
def leftTo (n : Nat) (ls : List Int) : Nat → Int
  | 0 => powI n - 1
  | k + 1 => lessI (leftTo n ls k) (powI (ls[k]?.getD 0))
/-- The item k of the list is one, was not yet there, and all below it were. -/
def stepOk (zs ls : List Int) (k : Nat) : Bool :=
  inB (ls[k]?.getD 0) 0 ((zs.length : Int) - 1) && (!bitB (doneTo ls k) (ls[k]?.getD 0) && (lessI ((du zs)[(ls[k]?.getD 0).toNat]?.getD 0) (doneTo ls k) == 0))
def lineB (zs ls : List Int) : Bool := decide (ls.length = zs.length) && (List.range ls.length).all (stepOk zs ls)
def isLineR (zs ls : List Int) : Bool := vo zs && lineB zs ls

theorem lineB_yes {zs ls : List Int} {m : Nat} (hm : ls.length = m) (hl : m = zs.length) (h : ∀ k, k < m → stepOk zs ls k = true) : lineB zs ls = true := by
  unfold lineB
  rw [Bool.and_eq_true, List.all_eq_true]
  exact ⟨by simp; omega, fun k hk => h k (by rw [← hm]; exact List.mem_range.1 hk)⟩
theorem lineB_len {zs ls : List Int} {m : Nat} (hm : ls.length = m) (hl : m ≠ zs.length) : lineB zs ls = false := by
  unfold lineB
  rw [decide_eq_false (by omega)]
  rfl
theorem lineB_no {zs ls : List Int} {m k : Nat} (hm : ls.length = m) (hk : k < m) (h : stepOk zs ls k = false) : lineB zs ls = false := by
  cases e : lineB zs ls
  · rfl
  · unfold lineB at e
    rw [Bool.and_eq_true, List.all_eq_true] at e
    have := e.2 k (List.mem_range.2 (by omega))
    rw [h] at this
    cases this
theorem stepOk_in {zs ls : List Int} {k : Nat} (h : stepOk zs ls k = true) : 0 ≤ ls[k]?.getD 0 ∧ ls[k]?.getD 0 < zs.length := by
  unfold stepOk at h
  rw [Bool.and_eq_true] at h
  have : (0 : Int) ≤ ls[k]?.getD 0 ∧ ls[k]?.getD 0 ≤ (zs.length : Int) - 1 := by simpa [inB] using h.1
  omega
theorem stepOk_new {zs ls : List Int} {k : Nat} (h : stepOk zs ls k = true) : bitB (doneTo ls k) (ls[k]?.getD 0) = false := by
  unfold stepOk at h
  rw [Bool.and_eq_true, Bool.and_eq_true] at h
  simpa using h.2.1
theorem doneTo_bd {zs ls : List Int} : ∀ k : Nat, (∀ i, i < k → stepOk zs ls i = true) → 0 ≤ doneTo ls k ∧ doneTo ls k < powI zs.length
  | 0, _ => ⟨Int.le_refl _, powI_pos _⟩
  | k + 1, h => by
    have h1 := doneTo_bd k fun i hi => h i (by omega)
    have h2 := stepOk_in (h k (by omega))
    obtain ⟨a, ha⟩ := Int.eq_ofNat_of_zero_le h2.1
    have h3 : powI (a : Int) < powI (zs.length : Int) := powI_lt (by omega)
    have h4 := powI_pos (a : Int)
    unfold doneTo
    rw [ha]
    exact orI_bd h1.1 h1.2 (by omega) h3
theorem leftTo_bd {n : Nat} {ls : List Int} : ∀ k : Nat, 0 ≤ leftTo n ls k ∧ leftTo n ls k < powI n
  | 0 => by have := powI_pos (n : Int); unfold leftTo; omega
  | k + 1 => by
    have h1 := leftTo_bd (n := n) (ls := ls) k
    have h2 := lessI_bd (leftTo n ls k) (powI (ls[k]?.getD 0))
    unfold leftTo
    omega
theorem leftTo_bit {zs ls : List Int} (j : Nat) : ∀ k : Nat, (∀ i, i < k → stepOk zs ls i = true) → bitB (leftTo zs.length ls k) j = (decide (j < zs.length) && !bitB (doneTo ls k) j)
  | 0, _ => by unfold leftTo doneTo; rw [all_bits, bitB_zero]; simp
  | k + 1, h => by
    have ih := leftTo_bit (zs := zs) (ls := ls) j k fun i hi => h i (by omega)
    have h2 := stepOk_in (h k (by omega))
    obtain ⟨a, ha⟩ := Int.eq_ofNat_of_zero_le h2.1
    unfold leftTo doneTo
    rw [ha, bitB_less, bitB_or, bitB_pow, ih]
    cases decide (j < zs.length) <;> cases bitB (doneTo ls k) j <;> cases decide (a = j) <;> rfl
/-- As the program asks it: the item is a top, turned round, of what is left. -/
theorem step_tops {zs ls : List Int} (h : VoP zs) {k : Nat} (hk : ∀ i, i < k → stepOk zs ls i = true) {a : Nat} (ha : ls[k]?.getD 0 = (a : Int)) (hn : a < zs.length) :
    bitB (topsTo (du zs) (leftTo zs.length ls k) zs.length) a = stepOk zs ls k := by
  have hds := (du_sets h.sets).2 a (by rw [du_len]; exact hn)
  rw [du_len] at hds
  have hl := leftTo_bit (zs := zs) (ls := ls) a k hk
  have hin : inB (a : Int) 0 ((zs.length : Int) - 1) = true := by simp [inB]; omega
  have key : bitB (topsTo (du zs) (leftTo zs.length ls k) zs.length) a = true ↔ stepOk zs ls k = true := by
    rw [topsTo_bit]
    unfold stepOk
    rw [ha, hin, hl, Bool.true_and, Int.toNat_natCast]
    simp only [Bool.and_eq_true]
    have e2 : andI ((du zs)[a]?.getD 0) (leftTo zs.length ls k) = 0 ↔ (lessI ((du zs)[a]?.getD 0) (doneTo ls k) == 0) = true := by
      rw [beq_iff_eq, andI_zero]
      constructor
      · intro e
        refine bitB_ext (lessI_bd _ _).1 (Int.le_refl _) fun j => ?_
        rw [bitB_less, bitB_zero]
        cases e1 : bitB ((du zs)[a]?.getD 0) j
        · rfl
        · cases e3 : bitB (doneTo ls k) j
          · have hj := bitB_lt hds.2 e1
            have := e j (by rw [leftTo_bit (zs := zs) (ls := ls) j k hk, e3]; simp [hj])
            rw [e1] at this; cases this
          · rfl
      · intro e j hj
        rw [leftTo_bit (zs := zs) (ls := ls) j k hk, Bool.and_eq_true] at hj
        cases e1 : bitB ((du zs)[a]?.getD 0) j
        · rfl
        · have := bitB_less ((du zs)[a]?.getD 0) (doneTo ls k) j
          rw [e, bitB_zero, e1] at this
          simp at this hj
          rw [this] at hj
          simp at hj
    constructor
    · rintro ⟨_, h1, h2⟩
      exact ⟨h1.2, e2.1 h2⟩
    · rintro ⟨h1, h2⟩
      exact ⟨hn, ⟨by simpa using hn, h1⟩, e2.2 h2⟩
  cases e1 : bitB (topsTo (du zs) (leftTo zs.length ls k) zs.length) a <;> cases e2 : stepOk zs ls k <;> simp_all
end Go.Proofs.YtogiooecjfnkcaaDoor

/- In how many ways an order is lined up: counted from the first item on, and from the last one back, it is as many. No program. -/
namespace Go.Proofs.YtogiooecjfnkcaaDoor

/-! Sums over lists. -/
theorem sum_map_add {α : Type} (f g : α → Nat) : ∀ l : List α, (l.map fun x => f x + g x).sum = (l.map f).sum + (l.map g).sum
  | [] => rfl
  | x :: l => by
    have := sum_map_add f g l
    simp only [List.map_cons, List.sum_cons] at this ⊢
    omega
theorem sum_map_zero {α : Type} : ∀ l : List α, (l.map fun _ => 0).sum = 0
  | [] => rfl
  | _ :: l => by simpa using sum_map_zero l
theorem sum_swap {α β : Type} (f : α → β → Nat) (m : List β) : ∀ l : List α, (l.map fun x => (m.map (f x)).sum).sum = (m.map fun y => (l.map fun x => f x y).sum).sum
  | [] => by simpa using (sum_map_zero m).symm
  | x :: l => by
    rw [List.map_cons, List.sum_cons, sum_swap f m l, ← sum_map_add]
    rfl
theorem sum_mul {α : Type} (c : Nat) (f : α → Nat) : ∀ l : List α, (l.map fun x => c * f x).sum = c * (l.map f).sum
  | [] => rfl
  | x :: l => by rw [List.map_cons, List.sum_cons, List.map_cons, List.sum_cons, sum_mul c f l, Nat.mul_add]
theorem sum_if {α : Type} (p : α → Bool) (f : α → Nat) : ∀ l : List α, (l.map fun x => if p x then f x else 0).sum = ((l.filter p).map f).sum
  | [] => rfl
  | x :: l => by
    rw [List.map_cons, List.sum_cons, sum_if p f l, List.filter_cons]
    cases p x <;> simp
theorem sum_congr {α : Type} {f g : α → Nat} {l : List α} (h : ∀ x ∈ l, f x = g x) : (l.map f).sum = (l.map g).sum := by rw [List.map_congr_left h]

/-- The sets with the item a are those without it, and it. -/
theorem with_item : ∀ n : Fin 7, ∀ a : Fin 6, a.val < n.val → (List.range (2 ^ n.val)).filter (fun s : Nat => s.testBit a.val) = ((List.range (2 ^ n.val)).filter fun s : Nat => !s.testBit a.val).map fun s => s + 2 ^ a.val := by decide +kernel
/-- Edges: by the items s, the item a comes next. -/
def nextE (zs : List Int) (s a : Nat) : Bool := !s.testBit a && (lessI ((du zs)[a]?.getD 0) (s : Int) == 0)
def belowAny (zs : List Int) (s a : Nat) : Bool := (List.range zs.length).any fun b => s.testBit b && bitB ((du zs)[b]?.getD 0) a
/-- As the model asks it: a is one of s, with all below it there, and below none of s. -/
def eG (zs : List Int) (s a : Nat) : Bool := s.testBit a && ((lessI ((du zs)[a]?.getD 0) (s : Int) == 0) && !belowAny zs s a)
/-- As the program asks it: a is one of what is left, of which none is below it. -/
def eF (zs : List Int) (s a : Nat) : Bool := s.testBit a && (andI ((du zs)[a]?.getD 0) (s : Int) == 0)
theorem sub_lt {s a : Nat} (h : ¬ s = 0) : s - 2 ^ a < s := by have := Nat.two_pow_pos a; omega
/-- In how many ways the set s is lined up. -/
def cG (zs : List Int) (s : Nat) : Nat := if h : s = 0 then 1 else ((List.range zs.length).map fun a => if eG zs s a then cG zs (s - 2 ^ a) else 0).sum
termination_by s
decreasing_by exact sub_lt h
/-- In how many ways what is left is lined up. -/
def cF (zs : List Int) (s : Nat) : Nat := if h : s = 0 then 1 else ((List.range zs.length).map fun a => if eF zs s a then cF zs (s - 2 ^ a) else 0).sum
termination_by s
decreasing_by exact sub_lt h
theorem cG_zero (zs : List Int) : cG zs 0 = 1 := by rw [cG]; rfl
theorem cF_zero (zs : List Int) : cF zs 0 = 1 := by rw [cF]; rfl
theorem cG_pos {zs : List Int} {s : Nat} (h : s ≠ 0) : cG zs s = ((List.range zs.length).map fun a => if eG zs s a then cG zs (s - 2 ^ a) else 0).sum := by rw [cG, dif_neg h]
theorem cF_pos {zs : List Int} {s : Nat} (h : s ≠ 0) : cF zs s = ((List.range zs.length).map fun a => if eF zs s a then cF zs (s - 2 ^ a) else 0).sum := by rw [cF, dif_neg h]

/-- All below its items are there. -/
def Ideal (zs : List Int) (s : Nat) : Prop := ∀ a b : Nat, s.testBit b = true → bitB ((du zs)[b]?.getD 0) a = true → s.testBit a = true
theorem bit_cast (s j : Nat) : bitB (s : Int) (j : Int) = s.testBit j := by simp [bitB]
theorem less_zero {d : Int} {s : Nat} : lessI d (s : Int) = 0 ↔ ∀ j : Nat, bitB d j = true → s.testBit j = true := by
  constructor
  · intro e j hj
    have := bitB_less d (s : Int) j
    rw [e, bitB_zero, hj, bit_cast] at this
    simpa using this.symm
  · intro e
    refine bitB_ext (lessI_bd _ _).1 (Int.le_refl _) fun j => ?_
    rw [bitB_less, bitB_zero, bit_cast]
    cases h : bitB d j
    · rfl
    · rw [e j h]; rfl
theorem sub_bit_fin : ∀ s : Fin 64, ∀ a j : Fin 6, s.val.testBit a.val = true → (s.val - 2 ^ a.val).testBit j.val = (s.val.testBit j.val && !decide (a.val = j.val)) := by decide +kernel
theorem add_bit_fin : ∀ s : Fin 64, ∀ a j : Fin 6, s.val.testBit a.val = false → (s.val + 2 ^ a.val).testBit j.val = (s.val.testBit j.val || decide (a.val = j.val)) := by decide +kernel
theorem add_lt_fin : ∀ n : Fin 7, ∀ s : Fin 64, ∀ a : Fin 6, s.val < 2 ^ n.val → a.val < n.val → s.val.testBit a.val = false → s.val + 2 ^ a.val < 2 ^ n.val := by decide +kernel
theorem com_bit_fin : ∀ n : Fin 7, ∀ s : Fin 64, s.val < 2 ^ n.val → ∀ j : Fin 6, (2 ^ n.val - 1 - s.val).testBit j.val = (decide (j.val < n.val) && !s.val.testBit j.val) := by decide +kernel
theorem ge_bit_fin : ∀ s : Fin 64, ∀ a : Fin 6, s.val.testBit a.val = true → 2 ^ a.val ≤ s.val := by decide +kernel
theorem bit_lt {n s j : Nat} (hs : s < 2 ^ n) (h : s.testBit j = true) : j < n := by
  rcases Nat.lt_or_ge j n with h1 | h1
  · exact h1
  · rw [Nat.testBit_lt_two_pow (Nat.lt_of_lt_of_le hs (Nat.pow_le_pow_right (by decide) h1))] at h; cases h
theorem pow_le64 {n : Nat} (h : n ≤ 6) : 2 ^ n ≤ 64 := Nat.pow_le_pow_right (n := 2) (by decide) h
theorem sum_pick (f : Nat → Nat) (c : Nat) : ∀ N : Nat, c < N → ((List.range N).map f).sum = ((List.range N).map fun x => if x = c then 0 else f x).sum + f c
  | N + 1, hc => by
    rw [List.range_succ, List.map_append, List.sum_append, List.map_append, List.sum_append]
    by_cases h : c = N
    · subst h
      have : ((List.range c).map fun x => if x = c then 0 else f x).sum = ((List.range c).map f).sum := sum_congr fun x hx => by
        have := List.mem_range.1 hx
        rw [if_neg (by omega)]
      rw [this]
      simp
    · rw [sum_pick f c N (by omega)]
      have : ¬ N = c := fun e => h e.symm
      simp [this]
      omega
theorem du_small {zs : List Int} (h : VoP zs) {a j : Nat} (hb : bitB ((du zs)[a]?.getD 0) j = true) : j < zs.length ∧ a < zs.length := by
  rcases Nat.lt_or_ge a (du zs).length with h1 | h1
  · have := (du_sets h.sets).2 a h1
    rw [du_len] at this h1
    exact ⟨bitB_lt this.2 hb, h1⟩
  · rw [List.getElem?_eq_none h1, Option.getD_none, bitB_zero] at hb; cases hb
theorem du_irr {zs : List Int} (h : VoP zs) (a : Nat) : bitB ((du zs)[a]?.getD 0) a = false := by
  rw [du_bit h.sets]
  rcases Nat.lt_or_ge a zs.length with h1 | h1
  · exact h.irrB h1
  · rw [List.getElem?_eq_none h1, Option.getD_none, bitB_zero]
theorem sum_ne {α : Type} {f : α → Nat} : ∀ l : List α, (l.map f).sum ≠ 0 → ∃ x ∈ l, f x ≠ 0
  | [], h => absurd rfl h
  | x :: l, h => by
    by_cases hx : f x = 0
    · rw [List.map_cons, List.sum_cons, hx, Nat.zero_add] at h
      obtain ⟨y, hy, e⟩ := sum_ne l h
      exact ⟨y, by simp [hy], e⟩
    · exact ⟨x, by simp, hx⟩
theorem cG_ideal {zs : List Int} (h : VoP zs) : ∀ (k s : Nat), s ≤ k → s < 2 ^ zs.length → cG zs s ≠ 0 → Ideal zs s
  | 0, s, hk, _, _ => by
    obtain rfl : s = 0 := by omega
    intro a b hb _
    simp at hb
  | k + 1, s, hk, hN, hc => by
    by_cases h0 : s = 0
    · exact cG_ideal h k s (by omega) hN hc
    · have h6 := pow_le64 h.1
      rw [cG_pos h0] at hc
      obtain ⟨a, ha, hne⟩ := sum_ne _ hc
      have han := List.mem_range.1 ha
      have hn6 := h.1
      cases he : eG zs s a
      · simp only [he] at hne; exact absurd rfl hne
      · simp only [he, if_true] at hne
        unfold eG at he
        rw [Bool.and_eq_true, Bool.and_eq_true] at he
        obtain ⟨h1, h2, _⟩ := he
        have hge := ge_bit_fin ⟨s, by omega⟩ ⟨a, by omega⟩ h1
        simp only at hge
        have hp := Nat.two_pow_pos a
        have ih := cG_ideal h k (s - 2 ^ a) (by omega) (by omega) hne
        have hsub := less_zero.1 (show lessI ((du zs)[a]?.getD 0) (s : Int) = 0 by simpa using h2)
        have sb : ∀ j, j < 6 → (s - 2 ^ a).testBit j = (s.testBit j && !decide (a = j)) := fun j hj => sub_bit_fin ⟨s, by omega⟩ ⟨a, by omega⟩ ⟨j, hj⟩ h1
        intro x b hb hx
        have hb6 := bit_lt hN hb
        by_cases hba : a = b
        · subst hba; exact hsub x hx
        · have hx6 := (du_small h hx).1
          have := ih x b (by rw [sb b (by omega), hb]; simp [hba]) hx
          rw [sb x (by omega), Bool.and_eq_true] at this
          exact this.1
/-- From what is left back to what is there. -/
theorem cF_next {zs : List Int} (h : VoP zs) {s : Nat} (hN : s < 2 ^ zs.length) (hs : s ≠ 2 ^ zs.length - 1) :
    cF zs (2 ^ zs.length - 1 - s) = ((List.range zs.length).map fun a => if nextE zs s a then cF zs (2 ^ zs.length - 1 - (s + 2 ^ a)) else 0).sum := by
  have h6 := pow_le64 h.1
  have hn6 := h.1
  rw [cF_pos (by omega)]
  refine sum_congr fun a ha => ?_
  have han := List.mem_range.1 ha
  have cb : ∀ j, j < 6 → (2 ^ zs.length - 1 - s).testBit j = (decide (j < zs.length) && !s.testBit j) := fun j hj => com_bit_fin ⟨zs.length, by omega⟩ ⟨s, by omega⟩ hN ⟨j, hj⟩
  have e1 : eF zs (2 ^ zs.length - 1 - s) a = nextE zs s a := by
    unfold eF nextE
    rw [cb a (by omega), decide_eq_true han, Bool.true_and]
    congr 1
    have key : andI ((du zs)[a]?.getD 0) ((2 ^ zs.length - 1 - s : Nat) : Int) = 0 ↔ lessI ((du zs)[a]?.getD 0) (s : Int) = 0 := by
      rw [andI_zero, less_zero]
      constructor
      · intro e j hj
        have hjn := (du_small h hj).1
        cases hc : s.testBit j
        · have := e j (by rw [bit_cast, cb j (by omega), hc]; simp [hjn])
          rw [hj] at this; cases this
        · rfl
      · intro e j hj
        cases hd : bitB ((du zs)[a]?.getD 0) j
        · rfl
        · have hjn := (du_small h hd).1
          rw [bit_cast, cb j (by omega), e j hd] at hj
          simp at hj
    by_cases hk : lessI ((du zs)[a]?.getD 0) (s : Int) = 0
    · rw [hk, key.2 hk]
    · have hk' : ¬ andI ((du zs)[a]?.getD 0) ((2 ^ zs.length - 1 - s : Nat) : Int) = 0 := fun e => hk (key.1 e)
      rw [beq_eq_false_iff_ne.2 hk, beq_eq_false_iff_ne.2 hk']
  rw [e1, Nat.sub_sub]
theorem edge_same {zs : List Int} (h : VoP zs) {s a : Nat} (hN : s < 2 ^ zs.length) (han : a < zs.length) (hb : s.testBit a = false) (X : Nat) :
    (if nextE zs s a then cG zs s * X else 0) = if eG zs (s + 2 ^ a) a then cG zs s * X else 0 := by
  have h6 := pow_le64 h.1
  have hn6 := h.1
  have ab : ∀ j, j < 6 → (s + 2 ^ a).testBit j = (s.testBit j || decide (a = j)) := fun j hj => add_bit_fin ⟨s, by omega⟩ ⟨a, by omega⟩ ⟨j, hj⟩ hb
  by_cases hc : cG zs s = 0
  · rw [hc]; simp
  · have hid := cG_ideal h s s (Nat.le_refl _) hN hc
    have e1 : belowAny zs (s + 2 ^ a) a = false := by
      unfold belowAny
      rw [List.any_eq_false]
      intro b hbr
      have hbn := List.mem_range.1 hbr
      rw [ab b (by omega)]
      intro e
      rw [Bool.and_eq_true, Bool.or_eq_true] at e
      obtain ⟨e1 | e1, e2⟩ := e
      · have := hid a b e1 e2
        rw [hb] at this; cases this
      · have : a = b := by simpa using e1
        subst this
        rw [du_irr h] at e2; cases e2
    have e2 : lessI ((du zs)[a]?.getD 0) ((s + 2 ^ a : Nat) : Int) = 0 ↔ lessI ((du zs)[a]?.getD 0) (s : Int) = 0 := by
      rw [less_zero, less_zero]
      constructor
      · intro e j hj
        have hjn := (du_small h hj).1
        have := e j hj
        rw [ab j (by omega), Bool.or_eq_true] at this
        rcases this with h1 | h1
        · exact h1
        · have : a = j := by simpa using h1
          subst this
          rw [du_irr h] at hj; cases hj
      · intro e j hj
        have hjn := (du_small h hj).1
        rw [ab j (by omega), e j hj]
        rfl
    have e3 : nextE zs s a = eG zs (s + 2 ^ a) a := by
      unfold nextE eG
      rw [hb, ab a (by omega), hb, e1]
      by_cases hk : lessI ((du zs)[a]?.getD 0) (s : Int) = 0
      · rw [hk, e2.2 hk]; simp
      · have hk' : ¬ lessI ((du zs)[a]?.getD 0) ((s + 2 ^ a : Nat) : Int) = 0 := fun e => hk (e2.1 e)
        rw [beq_eq_false_iff_ne.2 hk, beq_eq_false_iff_ne.2 hk']; simp
    rw [e3]
/-- Counted both ways it is as many. -/
theorem count_both {zs : List Int} (h : VoP zs) : cG zs (2 ^ zs.length - 1) = cF zs (2 ^ zs.length - 1) := by
  have h6 := pow_le64 h.1
  have hn6 := h.1
  have hpos := Nat.two_pow_pos zs.length
  have P1 := sum_pick (fun s => cG zs s * cF zs (2 ^ zs.length - 1 - s)) (2 ^ zs.length - 1) (2 ^ zs.length) (by omega)
  have P2 := sum_pick (fun s => cG zs s * cF zs (2 ^ zs.length - 1 - s)) 0 (2 ^ zs.length) hpos
  have hA1 : cG zs (2 ^ zs.length - 1) * cF zs (2 ^ zs.length - 1 - (2 ^ zs.length - 1)) = cG zs (2 ^ zs.length - 1) := by rw [Nat.sub_self, cF_zero, Nat.mul_one]
  have hA2 : cG zs 0 * cF zs (2 ^ zs.length - 1 - 0) = cF zs (2 ^ zs.length - 1) := by rw [cG_zero, Nat.one_mul, Nat.sub_zero]
  rw [hA1] at P1
  rw [hA2] at P2
  have L : ((List.range (2 ^ zs.length)).map fun s => if s = 2 ^ zs.length - 1 then 0 else cG zs s * cF zs (2 ^ zs.length - 1 - s)).sum =
      ((List.range (2 ^ zs.length)).map fun s => ((List.range zs.length).map fun a => if nextE zs s a then cG zs s * cF zs (2 ^ zs.length - 1 - (s + 2 ^ a)) else 0).sum).sum := sum_congr fun s hs => by
    have hN := List.mem_range.1 hs
    by_cases he : s = 2 ^ zs.length - 1
    · rw [if_pos he]
      have : ((List.range zs.length).map fun a => if nextE zs s a then cG zs s * cF zs (2 ^ zs.length - 1 - (s + 2 ^ a)) else 0).sum = ((List.range zs.length).map fun _ => 0).sum := sum_congr fun a ha => by
        have han := List.mem_range.1 ha
        have : nextE zs s a = false := by
          unfold nextE
          rw [he, Nat.testBit_two_pow_sub_one, decide_eq_true han]
          rfl
        rw [this]; rfl
      rw [this, sum_map_zero]
    · rw [if_neg he, cF_next h hN he, ← sum_mul]
      refine sum_congr fun a _ => ?_
      cases nextE zs s a <;> simp
  have R : ((List.range (2 ^ zs.length)).map fun s => if s = 0 then 0 else cG zs s * cF zs (2 ^ zs.length - 1 - s)).sum =
      ((List.range (2 ^ zs.length)).map fun s => ((List.range zs.length).map fun a => if eG zs s a then cG zs (s - 2 ^ a) * cF zs (2 ^ zs.length - 1 - s) else 0).sum).sum := sum_congr fun s hs => by
    by_cases he : s = 0
    · rw [if_pos he]
      have : ((List.range zs.length).map fun a => if eG zs s a then cG zs (s - 2 ^ a) * cF zs (2 ^ zs.length - 1 - s) else 0).sum = ((List.range zs.length).map fun _ => 0).sum := sum_congr fun a _ => by
        have : eG zs s a = false := by unfold eG; rw [he]; simp
        rw [this]; rfl
      rw [this, sum_map_zero]
    · rw [if_neg he, cG_pos he, Nat.mul_comm, ← sum_mul]
      refine sum_congr fun a _ => ?_
      cases eG zs s a <;> simp [Nat.mul_comm]
  have M : ((List.range (2 ^ zs.length)).map fun s => ((List.range zs.length).map fun a => if nextE zs s a then cG zs s * cF zs (2 ^ zs.length - 1 - (s + 2 ^ a)) else 0).sum).sum =
      ((List.range (2 ^ zs.length)).map fun s => ((List.range zs.length).map fun a => if eG zs s a then cG zs (s - 2 ^ a) * cF zs (2 ^ zs.length - 1 - s) else 0).sum).sum := by
    refine (sum_swap _ _ _).trans (Eq.trans ?_ (sum_swap _ _ _).symm)
    refine sum_congr fun a ha => ?_
    have han := List.mem_range.1 ha
    have e1 : ((List.range (2 ^ zs.length)).map fun s => if nextE zs s a then cG zs s * cF zs (2 ^ zs.length - 1 - (s + 2 ^ a)) else 0).sum =
        (((List.range (2 ^ zs.length)).filter fun s : Nat => !s.testBit a).map fun s => if nextE zs s a then cG zs s * cF zs (2 ^ zs.length - 1 - (s + 2 ^ a)) else 0).sum := by
      rw [← sum_if]
      refine sum_congr fun s _ => ?_
      cases hb : s.testBit a
      · rfl
      · have : nextE zs s a = false := by unfold nextE; rw [hb]; rfl
        rw [this]; rfl
    have e2 : ((List.range (2 ^ zs.length)).map fun s => if eG zs s a then cG zs (s - 2 ^ a) * cF zs (2 ^ zs.length - 1 - s) else 0).sum =
        (((List.range (2 ^ zs.length)).filter fun s : Nat => s.testBit a).map fun s => if eG zs s a then cG zs (s - 2 ^ a) * cF zs (2 ^ zs.length - 1 - s) else 0).sum := by
      rw [← sum_if]
      refine sum_congr fun s _ => ?_
      cases hb : s.testBit a
      · have : eG zs s a = false := by unfold eG; rw [hb]; rfl
        rw [this]; rfl
      · rfl
    rw [e1, e2, with_item ⟨zs.length, by omega⟩ ⟨a, by omega⟩ han, List.map_map]
    refine sum_congr fun s hs => ?_
    rw [List.mem_filter] at hs
    have hN := List.mem_range.1 hs.1
    have hb : s.testBit a = false := by simpa using hs.2
    simp only [Function.comp, Nat.add_sub_cancel]
    exact edge_same h hN han hb _
  rw [L] at P1
  rw [R] at P2
  rw [P1, M] at P2
  omega
end Go.Proofs.YtogiooecjfnkcaaDoor

/- Lines counted: no number is great; the table as it fills. No program. -/
namespace Go.Proofs.YtogiooecjfnkcaaDoor

theorem sum_le {α : Type} {f : α → Nat} {c : Nat} : ∀ l : List α, (∀ x ∈ l, f x ≤ c) → (l.map f).sum ≤ l.length * c
  | [], _ => by simp
  | x :: l, h => by
    have h1 := h x (by simp)
    have h2 := sum_le l fun y hy => h y (by simp [hy])
    rw [List.map_cons, List.sum_cons, List.length_cons, Nat.add_mul]
    omega
theorem pop_sub_fin : ∀ s : Fin 64, ∀ a : Fin 6, s.val.testBit a.val = true → (popI ((s.val - 2 ^ a.val : Nat) : Int)).toNat + 1 = (popI (s.val : Int)).toNat := by decide +kernel
theorem pop_le_fin : ∀ s : Fin 64, (popI (s.val : Int)).toNat ≤ 6 := by decide +kernel
theorem cG_bd {zs : List Int} (h : VoP zs) : ∀ (k s : Nat), s ≤ k → s < 2 ^ zs.length → cG zs s ≤ 6 ^ (popI (s : Int)).toNat
  | 0, s, hk, _ => by
    obtain rfl : s = 0 := by omega
    rw [cG_zero]; decide
  | k + 1, s, hk, hN => by
    by_cases h0 : s = 0
    · exact cG_bd h k s (by omega) hN
    · have h6 := pow_le64 h.1
      have hn6 := h.1
      rw [cG_pos h0]
      obtain ⟨p, hp⟩ : ∃ p, (popI (s : Int)).toNat = p := ⟨_, rfl⟩
      have hle := sum_le (f := fun a => if eG zs s a then cG zs (s - 2 ^ a) else 0) (c := 6 ^ (p - 1)) (List.range zs.length) fun a ha => by
        have han := List.mem_range.1 ha
        cases he : eG zs s a
        · simp
        · have hb : s.testBit a = true := by unfold eG at he; rw [Bool.and_eq_true] at he; exact he.1
          have hge := ge_bit_fin ⟨s, by omega⟩ ⟨a, by omega⟩ hb
          simp only at hge
          have hpp := Nat.two_pow_pos a
          have ih := cG_bd h k (s - 2 ^ a) (by omega) (by omega)
          have hps := pop_sub_fin ⟨s, by omega⟩ ⟨a, by omega⟩ hb
          simp only at hps
          rw [hp] at hps
          simp only [if_true]
          rw [show p - 1 = (popI ((s - 2 ^ a : Nat) : Int)).toNat by omega]
          exact ih
      rw [List.length_range] at hle
      have hpos : 1 ≤ p := by
        rcases Nat.lt_or_ge 0 p with h1 | h1
        · exact h1
        · exfalso
          have : (popI (s : Int)).toNat = 0 := by omega
          have key : ∀ t : Fin 64, (popI (t.val : Int)).toNat = 0 → t.val = 0 := by decide +kernel
          exact h0 (key ⟨s, by omega⟩ this)
      rw [hp]
      have e : 6 ^ p = 6 * 6 ^ (p - 1) := by rw [← Nat.pow_succ']; congr 1; omega
      rw [e]
      exact Nat.le_trans hle (Nat.mul_le_mul_right _ hn6)
theorem cG_le {zs : List Int} (h : VoP zs) {s : Nat} (hN : s < 2 ^ zs.length) : cG zs s ≤ 46656 := by
  have h6 := pow_le64 h.1
  have h1 := cG_bd h s s (Nat.le_refl _) hN
  have h2 := pop_le_fin ⟨s, by omega⟩
  simp only at h2
  have h3 : 6 ^ (popI (s : Int)).toNat ≤ 6 ^ 6 := Nat.pow_le_pow_right (by decide) h2
  omega
/-- What is summed up of the items less than a. -/
def pg (zs : List Int) (s a : Nat) : Nat := ((List.range a).map fun b => if eG zs s b then cG zs (s - 2 ^ b) else 0).sum
theorem pg_succ (zs : List Int) (s a : Nat) : pg zs s (a + 1) = pg zs s a + (if eG zs s a then cG zs (s - 2 ^ a) else 0) := by
  unfold pg
  rw [List.range_succ, List.map_append, List.sum_append]
  simp
theorem pg_le (zs : List Int) (s : Nat) : ∀ d a : Nat, pg zs s a ≤ pg zs s (a + d)
  | 0, _ => Nat.le_refl _
  | d + 1, a => by
    have := pg_le zs s d a
    rw [show a + (d + 1) = a + d + 1 by omega, pg_succ]
    omega
theorem pg_all {zs : List Int} {s : Nat} (h : s ≠ 0) : pg zs s zs.length = cG zs s := (cG_pos h).symm
theorem pg_bd {zs : List Int} (h : VoP zs) {s a : Nat} (h0 : s ≠ 0) (hN : s < 2 ^ zs.length) (ha : a ≤ zs.length) : pg zs s a ≤ 46656 := by
  have h1 := pg_le zs s (zs.length - a) a
  rw [show a + (zs.length - a) = zs.length by omega, pg_all h0] at h1
  have := cG_le h hN
  omega
def tab (zs : List Int) (s p : Nat) : List Int := (List.range (2 ^ zs.length)).map fun i => if i < s then (cG zs i : Int) else if i = s then (p : Int) else 0
theorem tab_len (zs : List Int) (s p : Nat) : (tab zs s p).length = 2 ^ zs.length := by simp [tab]
theorem tab_get {zs : List Int} {s p i : Nat} (hi : i < 2 ^ zs.length) : (tab zs s p)[i]?.getD 0 = if i < s then (cG zs i : Int) else if i = s then (p : Int) else 0 := by simp [tab, hi]
theorem tab_set {zs : List Int} {s p q : Nat} : (tab zs s p).set s (q : Int) = tab zs s q := by
  refine List.ext_getElem (by simp [tab]) fun i h1 h2 => ?_
  rw [List.length_set, tab_len] at h1
  by_cases hi : s = i
  · subst hi
    rw [List.getElem_set_self]
    simp [tab]
  · rw [List.getElem_set_ne hi]
    have : ¬ i = s := fun e => hi e.symm
    simp [tab, this]
theorem tab_next (zs : List Int) (s : Nat) : tab zs s (cG zs s) = tab zs (s + 1) 0 := by
  unfold tab
  refine List.map_congr_left fun i _ => ?_
  by_cases h1 : i < s
  · rw [if_pos h1, if_pos (by omega)]
  · by_cases h2 : i = s
    · subst h2
      rw [if_neg h1, if_pos rfl, if_pos (by omega)]
    · rw [if_neg h1, if_neg h2, if_neg (by omega)]
      by_cases h3 : i = s + 1
      · rw [if_pos h3]; rfl
      · rw [if_neg h3]
theorem tab_start (zs : List Int) : (List.replicate (2 ^ zs.length) (0 : Int)).set 0 1 = tab zs 1 0 := by
  refine List.ext_getElem (by simp [tab]) fun i h1 h2 => ?_
  by_cases hi : 0 = i
  · subst hi
    rw [List.getElem_set_self]
    simp [tab, cG_zero]
  · rw [List.getElem_set_ne hi]
    simp [tab]
    intro h; omega
/-- In how many ways an order is lined up. -/
def linesR (zs : List Int) : Int := if vo zs then (cG zs (2 ^ zs.length - 1) : Int) else -1
end Go.Proofs.YtogiooecjfnkcaaDoor

/- Lines counted of what is left: the sum over the items that may come next; bounds. No program. -/
namespace Go.Proofs.YtogiooecjfnkcaaDoor

theorem cF_bd {zs : List Int} (h : VoP zs) : ∀ (k s : Nat), s ≤ k → s < 2 ^ zs.length → cF zs s ≤ 6 ^ (popI (s : Int)).toNat
  | k, s, hk, hN => by
    by_cases h0 : s = 0
    · subst h0
      rw [cF_zero]
      exact Nat.pos_of_ne_zero (by have := Nat.pow_pos (n := (popI ((0 : Nat) : Int)).toNat) (show 0 < 6 by omega); omega)
    · cases k with
      | zero => omega
      | succ k =>
        have h64 := Nat.lt_of_lt_of_le hN (pow_le64 h.1)
        have hn6 := h.1
        rw [cF_pos h0]
        have key : ∀ x ∈ List.range zs.length, (if eF zs s x then cF zs (s - 2 ^ x) else 0) ≤ 6 ^ ((popI (s : Int)).toNat - 1) := fun x hx => by
          have hxn : x < zs.length := by simpa using hx
          split
          · rename_i he
            unfold eF at he
            rw [Bool.and_eq_true] at he
            have hp := pop_sub_fin ⟨s, h64⟩ ⟨x, by omega⟩ he.1
            have hge := ge_bit_fin ⟨s, h64⟩ ⟨x, by omega⟩ he.1
            have hpos := Nat.two_pow_pos x
            have ih := cF_bd h k (s - 2 ^ x) (by simp only at hge; omega) (by omega)
            simp only at hp
            rw [show (popI (s : Int)).toNat - 1 = (popI ((s - 2 ^ x : Nat) : Int)).toNat by omega]
            exact ih
          · exact Nat.zero_le _
        have h1 := sum_le _ key
        have hpp : 1 ≤ (popI (s : Int)).toNat := by
          rcases Nat.lt_or_ge 0 (popI (s : Int)).toNat with h | h
          · exact h
          · exact absurd (pop_zero_fin ⟨s, h64⟩ (by simp only; omega)) h0
        rw [List.length_range] at h1
        have h2 : zs.length * 6 ^ ((popI (s : Int)).toNat - 1) ≤ 6 * 6 ^ ((popI (s : Int)).toNat - 1) := Nat.mul_le_mul_right _ h.1
        have h3 : 6 * 6 ^ ((popI (s : Int)).toNat - 1) = 6 ^ (popI (s : Int)).toNat := by
          rw [← Nat.pow_succ']; exact congrArg (6 ^ ·) (by omega)
        omega
where pop_zero_fin : ∀ s : Fin 64, (popI (s.val : Int)).toNat = 0 → s.val = 0 := by decide +kernel
theorem cF_le {zs : List Int} (h : VoP zs) {s : Nat} (hN : s < 2 ^ zs.length) : cF zs s ≤ 46656 := by
  have h64 := Nat.lt_of_lt_of_le hN (pow_le64 h.1)
  have h1 := cF_bd h s s (Nat.le_refl _) hN
  have h2 := pop_le_fin ⟨s, h64⟩
  exact Nat.le_trans h1 (Nat.pow_le_pow_right (n := 6) (by omega) h2)
/-- The items that may come next, and the sum over them. -/
def nextL (zs : List Int) (s : Nat) : List Nat := itemsL (topsTo (du zs) (s : Int) zs.length)
theorem nextL_is {zs : List Int} (h : VoP zs) (s : Nat) : nextL zs s = (List.range zs.length).filter (eF zs s) := by
  have hb := topsTo_bd (du zs) (s : Int) zs.length
  unfold nextL
  rw [← itemsTo_all hb.2 h.1]
  unfold itemsTo
  refine List.filter_congr fun a ha => ?_
  have han : a < zs.length := by simpa using ha
  rw [Bool.eq_iff_iff, topsTo_bit, bit_cast]
  unfold eF
  simp [han]
theorem nextL_mem {zs : List Int} (h : VoP zs) {s x : Nat} (hx : x ∈ nextL zs s) : x < zs.length ∧ s.testBit x = true := by
  rw [nextL_is h, List.mem_filter] at hx
  unfold eF at hx
  rw [Bool.and_eq_true] at hx
  exact ⟨by simpa using hx.1, hx.2.1⟩
/-- What has been counted when the items of a list are over. -/
def accF (zs : List Int) (s : Nat) (l : List Nat) : Nat := (l.map fun a => cF zs (s - 2 ^ a)).sum
theorem accF_snoc (zs : List Int) (s : Nat) (l : List Nat) (x : Nat) : accF zs s (l ++ [x]) = accF zs s l + cF zs (s - 2 ^ x) := by simp [accF]
theorem accF_all {zs : List Int} (h : VoP zs) {s : Nat} (h0 : s ≠ 0) : accF zs s (nextL zs s) = cF zs s := by
  rw [cF_pos h0, sum_if, nextL_is h]
  rfl
theorem accF_le {zs : List Int} (h : VoP zs) {s : Nat} (h0 : s ≠ 0) (hN : s < 2 ^ zs.length) {l : List Nat} (hl : l <+: nextL zs s) : accF zs s l ≤ 46656 := by
  obtain ⟨t, ht⟩ := hl
  have h1 := accF_all h h0
  have h2 := cF_le h hN
  rw [← ht] at h1
  unfold accF at h1 ⊢
  rw [List.map_append, List.sum_append] at h1
  omega
theorem nextL_len {zs : List Int} (h : VoP zs) (s : Nat) : (nextL zs s).length ≤ 6 := by
  rw [nextL_is h]
  have := List.length_filter_le (eF zs s) (List.range zs.length)
  have := h.1
  rw [List.length_range] at *
  omega
theorem without_fin : ∀ s : Fin 64, ∀ a : Fin 6, s.val.testBit a.val = true → lessI (s.val : Int) (powI (a.val : Int)) = ((s.val - 2 ^ a.val : Nat) : Int) := by decide +kernel
theorem without_is {s a : Nat} (hs : s < 64) (ha : a < 6) (hb : s.testBit a = true) : lessI (s : Int) (powI (a : Int)) = ((s - 2 ^ a : Nat) : Int) := without_fin ⟨s, hs⟩ ⟨a, ha⟩ hb
/-- How often the map is written at most. -/
def writes (s : Nat) : Nat := 7 ^ (popI (s : Int)).toNat
theorem writes_sub {s a : Nat} (hs : s < 64) (ha : a < 6) (hb : s.testBit a = true) : 7 * writes (s - 2 ^ a) = writes s := by
  have hp := pop_sub_fin ⟨s, hs⟩ ⟨a, ha⟩ hb
  simp only at hp
  unfold writes
  rw [← hp, Nat.pow_succ, Nat.mul_comm]
theorem writes_le {s : Nat} (hs : s < 64) : 1 ≤ writes s ∧ writes s ≤ 117649 := by
  have h := pop_le_fin ⟨s, hs⟩
  exact ⟨Nat.pow_pos (by omega), Nat.pow_le_pow_right (n := 7) (by omega) h⟩
end Go.Proofs.YtogiooecjfnkcaaDoor

/- Rows of rows under way: each row in a block of its own, their slices in a row that grows by append. -/
namespace Go.Proofs.YtogiooecjfnkcaaDoor
open Go.RowKit

theorem infoRow_parts : ∃ i : TypeInfo, Tryd.prog.info? 22 = some i ∧ i.zero = some (.slice none 0 0) ∧ i.size = 1 ∧ i.bytes = 24 := by
  have h := infoRow
  cases hi : Tryd.prog.info? 22 with
  | none => rw [hi] at h; cases h
  | some i =>
    rw [hi] at h
    simp only [Option.map_some, Option.some.injEq, Prod.mk.injEq] at h
    exact ⟨i, rfl, h.1, h.2.1, h.2.2⟩

section
variable {w w' : World} {lo hi : Nat}
/-- What turns one block of slices leaves the rows. -/
theorem RowsC.grown : ∀ {lo hi : Nat} {vs : List Value} {rs : List (List Int)}, RowsC w lo hi vs rs → hi ≤ w.heap.size → ∀ {row : Option Nat}, w.grownBy w' row →
    (∀ g, row = some g → ∃ cs, w.heap[g]? = some (.cells cs 22 (0, 0))) → RowsC w' lo hi vs rs
  | _, _, [], [], h, _, _, _, _ => h
  | _, _, _ :: _, _ :: _, ⟨A, c, mid, e, h1, hr, h2⟩, hh, row, hg, ht => by
    refine ⟨A, c, mid, e, h1, ⟨hr.1, fun hn => ?_⟩, h2.grown hh hg ht⟩
    obtain ⟨b, ys, eb, hl, hb, hA⟩ := hr.2 hn
    refine ⟨b, ys, eb, hl, hb, (hg.block b hA.lt (fun e => ?_)).trans hA⟩
    obtain ⟨cs, hcs⟩ := ht b e.symm
    unfold Arr at hA
    rw [hcs] at hA
    cases hA

theorem RowsC.sooner : ∀ {lo lo' hi : Nat} {vs : List Value} {rs : List (List Int)}, RowsC w lo hi vs rs → lo' ≤ lo → RowsC w lo' hi vs rs
  | _, _, _, [], [], h, h' => Nat.le_trans h' h
  | _, _, _, _ :: _, _ :: _, ⟨A, c, mid, e, h1, hr, h2⟩, h' => ⟨A, c, mid, e, Nat.le_trans h' h1, hr.more h' (Nat.le_refl _), h2⟩
theorem RowsR.sooner {lo lo' hi n : Nat} {A : Option Addr} {rs : List (List Int)} (h : RowsR w lo hi A n rs) (hl : lo' ≤ lo) : RowsR w lo' hi A n rs :=
  ⟨h.1, fun hn => by
    obtain ⟨g, vs, cs, e, h1, h2, h3, h4, h5⟩ := h.2 hn
    exact ⟨g, vs, cs, e, by omega, h2, h3, h4, h5.sooner hl⟩⟩

/-- The rows so far: v is their row, all in blocks from B on. -/
def Rowed (w : World) (B : Nat) (v : Value) (rs : List (List Int)) : Prop := ∃ vs, w.ownsRow B 22 1 v rs.length vs ∧ RowsC w B w.heap.size vs rs ∧ B ≤ w.heap.size
theorem Rowed.base {B : Nat} {v : Value} {rs : List (List Int)} (h : Rowed w B v rs) : ∀ k, v.ownBlock = some k → B ≤ k := by
  obtain ⟨vs, h1, _⟩ := h
  exact own_base h1
theorem Rowed.new (w : World) : Rowed (w.alloc (.cells #[] 22)) w.heap.size (.slice (some ⟨w.heap.size, 0, none⟩) 0 0) [] := ⟨[], own_new _ _, by simp [RowsC], by simp⟩
theorem own_block {base n : Nat} {e : TypeId} {v : Value} {xs : List Value} (h : w.ownsRow base e 1 v n xs) : ∀ g, v.ownBlock = some g → ∃ cs, w.heap[g]? = some (.cells cs e (0, 0)) := fun k hk => by
  rcases h.2 with ⟨rfl, _⟩ | ⟨g, cap, cur, rfl, hg, hc, _⟩
  · cases hk
  · cases hk; exact ⟨cur, hc⟩
theorem Rowed.keep {B : Nat} {v : Value} {rs : List (List Int)} {R : Nat → Prop} (h : Rowed w B v rs) (hu : Upd R w w') (hr : ∀ j, R j → j < B ∨ w.heap.size ≤ j) : Rowed w' B v rs := by
  obtain ⟨vs, h1, h2, h3⟩ := h
  refine ⟨vs, ?_, (h2.upd hu hr).more hu.size, Nat.le_trans h3 hu.size⟩
  refine ⟨h1.1, ?_⟩
  rcases h1.2 with e | ⟨g, cap, cur, rfl, hg, hc, hrest⟩
  · exact .inl e
  · exact .inr ⟨g, cap, cur, rfl, hg, (hu.block g (Array.getElem?_eq_some_iff.1 hc).1 (fun e => by have := hr g e; have := (Array.getElem?_eq_some_iff.1 hc).1; omega)).trans hc, hrest⟩
/-- A row of two, and its slice appended. -/
theorem Rowed.step {B n : Nat} {v v' : Value} {rs : List (List Int)} {vs : List Value} {a b : Int} (h1 : w.ownsRow B 22 1 v n vs) (hn : n = rs.length) (h2 : RowsC w B w.heap.size vs rs) (hB : B ≤ w.heap.size)
    (hown : w'.ownsRow B 22 1 v' (n + 1) (vs ++ [.slice (some ⟨w.heap.size, 0, none⟩) 2 2]))
    (hg : ((w.alloc (.cells #[.int .i64 a, .int .i64 b] 3)).alloc (.cells #[.slice (some ⟨w.heap.size, 0, none⟩) 2 2] 22)).grownBy w' v.ownBlock) : Rowed w' B v' (rs ++ [[a, b]]) := by
  have hu : Upd (fun _ => False) w ((w.alloc (.cells #[.int .i64 a, .int .i64 b] 3)).alloc (.cells #[.slice (some ⟨w.heap.size, 0, none⟩) 2 2] 22)) := ((Upd.refl _ w).alloc _).alloc _
  have h3 := h2.upd hu (fun j e => e.elim)
  have hA : Arr (w.alloc (.cells #[.int .i64 a, .int .i64 b] 3)) w.heap.size 3 [a, b] := heap_alloc_new w _
  have h4 := h3.snoc (hi' := w.heap.size + 1 + 1) (r := [a, b]) (c := 2) (Row.of (hA.alloc _) rfl (Nat.le_refl _) (by omega)) (by omega)
  have h5 := h4.grown (by simp) hg (own_block (h1.alloc _ |>.alloc _))
  refine ⟨_, by rw [List.length_append, ← hn]; exact hown, h5.more (by have := hg.size; simpa using this), by have := hg.size; simp at this; omega⟩
/-- At the end. -/
theorem Rowed.rows {B : Nat} {v : Value} {rs : List (List Int)} (h : Rowed w B v rs) : ∃ A c, v = .slice A rs.length c ∧ RowsR w B w.heap.size A rs.length rs := by
  obtain ⟨vs, h1, h2, h3⟩ := h
  rcases h1.2 with ⟨rfl, hn⟩ | ⟨g, cap, cur, rfl, hg, hc, _, _, _, ht⟩
  · obtain rfl : rs = [] := List.eq_nil_of_length_eq_zero hn
    exact ⟨none, 0, rfl, RowsR.nil _ _ _ _⟩
  · refine ⟨_, cap, rfl, rfl, fun _ => ⟨g, vs, cur, rfl, hg, (Array.getElem?_eq_some_iff.1 hc).1, hc, fun j u hj => ?_, h2⟩⟩
    rw [← ht, List.getElem?_take] at hj
    split at hj
    · simpa using hj
    · cases hj
end
end Go.Proofs.YtogiooecjfnkcaaDoor

/- CoversOf: the model's and the program's. -/
namespace Go.Proofs.YtogiooecjfnkcaaDoor
open Go.RowKit Go.Shelf
attribute [local go_sem] Oper.semAt_some
attribute [local go_sem, local simp] wide_fn

theorem coverTo_bit {zs : List Int} {a x : Nat} : ∀ b : Nat, bitB (coverTo zs a b) x = (bitB (zs[a]?.getD 0) x && (List.range b).all fun y => !(bitB (zs[a]?.getD 0) y && bitB (zs[y]?.getD 0) x))
  | 0 => by simp [coverTo]
  | b + 1 => by
    have ih := coverTo_bit (zs := zs) (a := a) (x := x) b
    rw [List.range_succ, List.all_append, List.all_cons, List.all_nil, Bool.and_true]
    cases h : bitB (zs[a]?.getD 0) b
    · rw [coverTo_no h, ih]; simp
    · rw [coverTo_yes h, bitB_less, ih, Bool.and_assoc]; simp
theorem coverTo_items {zs : List Int} (h : Sets zs) {a : Nat} (ha : a < zs.length) : itemsL (coverTo zs a zs.length) = (itemsL (zs[a]?.getD 0)).filter (nextB zs a) := by
  unfold itemsL itemsTo
  rw [List.filter_filter]
  refine List.filter_congr fun x hx => ?_
  rw [coverTo_bit, Bool.and_comm]
  congr 1
  unfold nextB
  rw [Bool.eq_iff_iff]
  simp only [List.all_eq_true, List.mem_range, Bool.not_eq_true', itemsL, mem_itemsTo, Bool.and_eq_false_iff]
  constructor
  · rintro h1 y ⟨_, hy⟩
    have hyn := bitB_lt (h.2 a ha).2 hy
    rcases h1 y hyn with h2 | h2
    · rw [hy] at h2; cases h2
    · exact h2
  · intro h1 y hy
    cases hb : bitB (zs[a]?.getD 0) y
    · exact .inl rfl
    · exact .inr (h1 y ⟨by have := h.1; omega, hb⟩)

def rowOf (p : Nat × Nat) : List Int := [(p.1 : Int), (p.2 : Int)]
def covTo (zs : List Int) (k : Nat) : List (Nat × Nat) := (List.range k).flatMap fun a => (itemsL (coverTo zs a zs.length)).map fun b => (a, b)
theorem covTo_succ (zs : List Int) (k : Nat) : covTo zs (k + 1) = covTo zs k ++ (itemsL (coverTo zs k zs.length)).map fun b => (k, b) := by simp [covTo, List.range_succ]
theorem covTo_len {zs : List Int} : ∀ k : Nat, (covTo zs k).length ≤ 6 * k
  | 0 => by simp [covTo]
  | k + 1 => by
    have ih := covTo_len (zs := zs) k
    have h1 : (itemsL (coverTo zs k zs.length)).length ≤ 6 := Nat.le_trans (List.length_filter_le _ _) (by simp)
    rw [covTo_succ]
    simp
    omega
def coverB (zs : List Int) (p : Nat × Nat) : Bool := nextB zs p.1 p.2
theorem cov_pairs {zs : List Int} (h : Sets zs) : covTo zs zs.length = (pairsL zs).filter (coverB zs) := by
  have key : ∀ k, k ≤ zs.length → covTo zs k = (pairsTo zs k).filter (coverB zs) := fun k => by
    induction k with
    | zero => intro _; rfl
    | succ k ih =>
      intro hk
      rw [covTo_succ, pairsTo_succ, List.filter_append, ih (by omega), coverTo_items h (by omega), List.filter_map]
      rfl
  exact key _ (Nat.le_refl _)
def coversR (zs : List Int) : List (List Int) := if vo zs then (covTo zs zs.length).map rowOf else []
theorem pairs_len {zs : List Int} (h : zs.length ≤ 6) : (pairsL zs).length ≤ 36 := by
  have key : ∀ k, (pairsTo zs k).length ≤ 6 * k := fun k => by
    induction k with
    | zero => simp [pairsTo]
    | succ k ih =>
      have h1 : (itemsL (zs[k]?.getD 0)).length ≤ 6 := Nat.le_trans (List.length_filter_le _ _) (by simp)
      rw [pairsTo_succ]
      simp
      omega
  have := key zs.length
  unfold pairsL
  omega
def covAt (zs : List Int) (n a j : Nat) : List (List Int) := (covTo zs a).map rowOf ++ ((itemsL (coverTo zs a n)).take j).map fun b => rowOf (a, b)
theorem covAt_zero (zs : List Int) (n a : Nat) : covAt zs n a 0 = (covTo zs a).map rowOf := by simp [covAt]
theorem covAt_all {zs : List Int} {n a : Nat} (h : zs.length = n) : covAt zs n a (itemsL (coverTo zs a n)).length = (covTo zs (a + 1)).map rowOf := by
  subst h
  simp [covAt, covTo_succ, Function.comp_def]
theorem covAt_succ {zs : List Int} {n a j : Nat} (hj : j < (itemsL (coverTo zs a n)).length) : covAt zs n a j ++ [[(a : Int), ((itemsL (coverTo zs a n)).map fun x : Nat => (x : Int))[j]?.getD 0]] = covAt zs n a (j + 1) := by
  rw [covAt, covAt, List.take_succ_eq_append_getElem hj, List.map_append, ← List.append_assoc]
  simp [rowOf, hj]
theorem covAt_len {zs : List Int} {n a j : Nat} (ha : a < 6) : (covAt zs n a j).length ≤ 36 := by
  have h1 := covTo_len (zs := zs) a
  have h2 : (itemsL (coverTo zs a n)).length ≤ 6 := Nat.le_trans (List.length_filter_le _ _) (by simp)
  have h3 : ((itemsL (coverTo zs a n)).take j).length ≤ 6 := by rw [List.length_take]; omega
  simp only [covAt, List.length_append, List.length_map]
  omega

theorem own_lt {w : World} {B : Nat} {v : Value} {rs : List (List Int)} (h : Rowed w B v rs) : ∀ k, v.ownBlock = some k → k < w.heap.size := fun k hk => by
  obtain ⟨vs, h1, _⟩ := h
  obtain ⟨cs, hcs⟩ := own_block h1 k hk
  exact (Array.getElem?_eq_some_iff.1 hcs).1
theorem cell_new2 (w : World) (o : Obj) (e : TypeId) (u : Value) : ((w.alloc o).alloc (.cells #[u] e)).cell? ⟨w.heap.size + 1, 0, none⟩ = some u := by
  have h := cell_new (w.alloc o) e u
  rwa [World.size_alloc] at h
end Go.Proofs.YtogiooecjfnkcaaDoor

/- Ideals, as plain mathematics: what is below a set, when a set is an ideal, and how both are found pair by pair. No program. -/
namespace Go.Proofs.YtogiooecjfnkcaaDoor

/-- The set with all that is below its items less than k. -/
def belTo (ds : List Int) (s : Int) : Nat → Int
  | 0 => s
  | k + 1 => if bitB s k then orI (belTo ds s k) (ds[k]?.getD 0) else belTo ds s k
theorem belTo_yes {ds : List Int} {s : Int} {k : Nat} (h : bitB s k = true) : belTo ds s (k + 1) = orI (belTo ds s k) (ds[k]?.getD 0) := by simp [belTo, h]
theorem belTo_no {ds : List Int} {s : Int} {k : Nat} (h : bitB s k = false) : belTo ds s (k + 1) = belTo ds s k := by simp [belTo, h]
theorem belTo_bd {ds : List Int} (h : Sets ds) {s : Int} (h0 : 0 ≤ s) (h1 : s < powI ds.length) : ∀ k : Nat, k ≤ ds.length → 0 ≤ belTo ds s k ∧ belTo ds s k < powI ds.length
  | 0, _ => ⟨h0, h1⟩
  | k + 1, hk => by
    have ih := belTo_bd h h0 h1 k (by omega)
    have hz := h.2 k (by omega)
    unfold belTo
    split
    · exact orI_bd ih.1 ih.2 hz.1 hz.2
    · exact ih
theorem belTo_bit (ds : List Int) (s : Int) (j : Nat) : ∀ k : Nat, bitB (belTo ds s k) j = true ↔ bitB s j = true ∨ ∃ b : Nat, b < k ∧ bitB s b = true ∧ bitB (ds[b]?.getD 0) j = true
  | 0 => by simp [belTo]
  | k + 1 => by
    have ih := belTo_bit ds s j k
    cases hb : bitB s k
    · rw [belTo_no hb, ih]
      constructor
      · rintro (h | ⟨b, h1, h2⟩)
        · exact .inl h
        · exact .inr ⟨b, by omega, h2⟩
      · rintro (h | ⟨b, h1, h2, h3⟩)
        · exact .inl h
        · have : b ≠ k := fun e => by rw [e, hb] at h2; cases h2
          exact .inr ⟨b, by omega, h2, h3⟩
    · rw [belTo_yes hb, bitB_or, Bool.or_eq_true, ih]
      constructor
      · rintro ((h | ⟨b, h1, h2⟩) | h)
        · exact .inl h
        · exact .inr ⟨b, by omega, h2⟩
        · exact .inr ⟨k, by omega, hb, h⟩
      · rintro (h | ⟨b, h1, h2, h3⟩)
        · exact .inl (.inl h)
        · by_cases e : b = k
          · rw [e] at h3; exact .inr h3
          · exact .inl (.inr ⟨b, by omega, h2, h3⟩)
/-- The set with all that is below its items. -/
def belI (zs : List Int) (s : Int) : Int := belTo (du zs) s zs.length
theorem belI_bd {zs : List Int} (h : Sets zs) {s : Int} (h0 : 0 ≤ s) (h1 : s < powI zs.length) : 0 ≤ belI zs s ∧ belI zs s < powI zs.length := by
  have := belTo_bd (du_sets h) (s := s) h0 (by rw [du_len]; exact h1) zs.length (by rw [du_len]; exact Nat.le_refl _)
  rwa [du_len] at this
theorem belI_bit {zs : List Int} (h : Sets zs) {s : Int} (h1 : s < powI zs.length) (j : Nat) : bitB (belI zs s) j = true ↔ bitB s j = true ∨ ∃ b : Nat, bitB s b = true ∧ bitB (zs[j]?.getD 0) b = true := by
  unfold belI
  rw [belTo_bit]
  constructor
  · rintro (e | ⟨b, _, h2, h3⟩)
    · exact .inl e
    · exact .inr ⟨b, h2, by rwa [du_bit h] at h3⟩
  · rintro (e | ⟨b, h2, h3⟩)
    · exact .inl e
    · exact .inr ⟨b, bitB_lt h1 h2, h2, by rwa [du_bit h]⟩
/-- Whether the set is an ideal. -/
def idB (zs : List Int) (s : Int) : Bool := belI zs s == s
theorem idB_iff {zs : List Int} (h : Sets zs) {s : Int} (h0 : 0 ≤ s) (h1 : s < powI zs.length) : idB zs s = true ↔ ∀ a b : Nat, bitB s b = true → bitB (zs[a]?.getD 0) b = true → bitB s a = true := by
  unfold idB
  rw [beq_iff_eq]
  constructor
  · intro e a b h2 h3
    rw [← e]
    exact (belI_bit h h1 a).2 (.inr ⟨b, h2, h3⟩)
  · intro e
    refine bitB_ext (belI_bd h h0 h1).1 h0 fun j => ?_
    rw [Bool.eq_iff_iff, belI_bit h h1]
    constructor
    · rintro (e1 | ⟨b, h2, h3⟩)
      · exact e1
      · exact e j b h2 h3
    · exact .inl
/-- The model's test: the items less than k have all below them. -/
def idTo (ds : List Int) (s : Int) (k : Nat) : Bool := (List.range k).all fun a : Nat => !bitB s a || lessI (ds[a]?.getD 0) s == 0
theorem lessI_none {a b : Int} : lessI a b = 0 ↔ ∀ j : Nat, bitB a j = true → bitB b j = true := by
  constructor
  · intro h j hj
    have : bitB (lessI a b) j = false := by rw [h, bitB_zero]
    rw [bitB_less, hj] at this
    simpa using this
  · intro h
    refine bitB_ext (lessI_bd _ _).1 (Int.le_refl _) fun j => ?_
    rw [bitB_less, bitB_zero]
    cases e : bitB a j
    · rfl
    · rw [h j e]; rfl
theorem idTo_all {zs : List Int} (h : Sets zs) {s : Int} (h0 : 0 ≤ s) (h1 : s < powI zs.length) : idTo (du zs) s zs.length = idB zs s := by
  rw [Bool.eq_iff_iff, idB_iff h h0 h1]
  unfold idTo
  rw [List.all_eq_true]
  constructor
  · intro e a b h2 h3
    have hb := bitB_lt h1 h2
    have := e b (by simpa using hb)
    rw [h2] at this
    simp only [Bool.not_true, Bool.false_or, beq_iff_eq] at this
    exact lessI_none.1 this a (by rwa [du_bit h])
  · intro e b _
    cases h2 : bitB s b
    · rfl
    · simp only [Bool.not_true, Bool.false_or, beq_iff_eq]
      exact lessI_none.2 fun j hj => e j b h2 (by rwa [du_bit h] at hj)
theorem idTo_no {ds : List Int} {s : Int} {k n : Nat} (hk : k < n) (h1 : bitB s k = true) (h2 : (lessI (ds[k]?.getD 0) s == 0) = false) : idTo ds s n = false := by
  cases e : idTo ds s n
  · rfl
  · have := List.all_eq_true.1 e k (by simpa using hk)
    rw [h1, h2] at this; cases this
theorem idTo_succ {ds : List Int} {s : Int} {k : Nat} (h : idTo ds s k = true) (h2 : bitB s k = false ∨ (lessI (ds[k]?.getD 0) s == 0) = true) : idTo ds s (k + 1) = true := by
  unfold idTo at h ⊢
  rw [List.range_succ, List.all_append, h]
  rcases h2 with h2 | h2 <;> simp [h2]

/-- What is marked when a list of pairs is over. -/
def mkP (s : Int) (ps : List (Nat × Nat)) : Int := ps.foldl (fun (m : Int) (p : Nat × Nat) => if bitB m p.2 then orI m (powI p.1) else m) s
theorem mkP_yes {s : Int} {ps : List (Nat × Nat)} {a b : Nat} (h : bitB (mkP s ps) b = true) : mkP s (ps ++ [(a, b)]) = orI (mkP s ps) (powI a) := by
  unfold mkP at *
  rw [List.foldl_append]
  simp only [List.foldl_cons, List.foldl_nil]
  rw [if_pos h]
theorem mkP_no {s : Int} {ps : List (Nat × Nat)} {a b : Nat} (h : bitB (mkP s ps) b = false) : mkP s (ps ++ [(a, b)]) = mkP s ps := by
  unfold mkP at *
  rw [List.foldl_append]
  simp only [List.foldl_cons, List.foldl_nil]
  rw [if_neg (by rw [h]; decide)]
theorem mkP_bd {n : Nat} : ∀ (ps : List (Nat × Nat)) {s : Int}, (∀ p ∈ ps, p.1 < n) → 0 ≤ s → s < powI n → 0 ≤ mkP s ps ∧ mkP s ps < powI n
  | [], s, _, h0, h1 => ⟨h0, h1⟩
  | p :: ps, s, h, h0, h1 => by
    have e : mkP s (p :: ps) = mkP (if bitB s p.2 then orI s (powI p.1) else s) ps := rfl
    rw [e]
    have hp := h p (by simp)
    split
    · have := orI_bd (a := s) (b := powI p.1) (n := n) h0 h1 (Int.le_of_lt (powI_pos _)) (powI_lt hp)
      exact mkP_bd ps (fun q hq => h q (by simp [hq])) this.1 this.2
    · exact mkP_bd ps (fun q hq => h q (by simp [hq])) h0 h1
theorem mkP_inv {zs : List Int} (h : VoP zs) {s : Int} : ∀ (ps : List (Nat × Nat)) (m : Int), (∀ p ∈ ps, lt zs p.1 p.2) → (∀ j : Nat, bitB s j = true → bitB m j = true) →
    (∀ j : Nat, bitB m j = true → bitB s j = true ∨ ∃ b : Nat, bitB s b = true ∧ bitB (zs[j]?.getD 0) b = true) →
    (∀ j : Nat, bitB m j = true → bitB (mkP m ps) j = true) ∧ (∀ j : Nat, bitB (mkP m ps) j = true → bitB s j = true ∨ ∃ b : Nat, bitB s b = true ∧ bitB (zs[j]?.getD 0) b = true) ∧ ∀ p ∈ ps, bitB s p.2 = true → bitB (mkP m ps) p.1 = true
  | [], m, _, _, h2 => ⟨fun _ e => e, h2, fun p hp => by cases hp⟩
  | p :: ps, m, hp, h1, h2 => by
    have e : mkP m (p :: ps) = mkP (if bitB m p.2 then orI m (powI p.1) else m) ps := rfl
    rw [e]
    have hlt := hp p (by simp)
    cases hb : bitB m p.2
    · rw [if_neg (by decide)]
      obtain ⟨g1, g2, g3⟩ := mkP_inv h ps m (fun q hq => hp q (by simp [hq])) h1 h2
      refine ⟨g1, g2, fun q hq hs => ?_⟩
      rcases List.mem_cons.1 hq with rfl | hq
      · rw [h1 _ hs] at hb; cases hb
      · exact g3 q hq hs
    · rw [if_pos rfl]
      have hs1 : ∀ j : Nat, bitB m j = true → bitB (orI m (powI p.1)) j = true := fun j hj => by rw [bitB_or, hj]; rfl
      obtain ⟨g1, g2, g3⟩ := mkP_inv h ps (orI m (powI p.1)) (fun q hq => hp q (by simp [hq])) (fun j hj => hs1 j (h1 j hj)) (fun j hj => by
        rw [bitB_or, bitB_pow, Bool.or_eq_true, decide_eq_true_eq] at hj
        rcases hj with hj | rfl
        · exact h2 j hj
        · rcases h2 _ hb with hs | ⟨b, hs, hz⟩
          · exact .inr ⟨p.2, hs, hlt.2⟩
          · refine .inr ⟨b, hs, (h.trans hlt ⟨?_, hz⟩).2⟩
            rcases Nat.lt_or_ge p.2 zs.length with h1 | h1
            · exact h1
            · rw [List.getElem?_eq_none (by omega), Option.getD_none, bitB_zero] at hz; cases hz)
      refine ⟨fun j hj => g1 j (hs1 j hj), g2, fun q hq hs => ?_⟩
      rcases List.mem_cons.1 hq with rfl | hq
      · exact g1 _ (by rw [bitB_or, bitB_pow]; simp)
      · exact g3 q hq hs
theorem mkP_all {zs : List Int} (h : VoP zs) {s : Int} (h0 : 0 ≤ s) (h1 : s < powI zs.length) : mkP s (pairsL zs) = belI zs s := by
  obtain ⟨g1, g2, g3⟩ := mkP_inv h (s := s) (pairsL zs) s (fun p hp => by
    obtain ⟨ha, _, hb⟩ := mem_pairsL.1 (show (p.1, p.2) ∈ pairsL zs from hp)
    exact ⟨ha, hb⟩) (fun _ e => e) (fun _ e => .inl e)
  refine bitB_ext (mkP_bd (n := zs.length) _ (fun p hp => (mem_pairsL.1 (show (p.1, p.2) ∈ pairsL zs from hp)).1) h0 h1).1 (belI_bd h.sets h0 h1).1 fun j => ?_
  rw [Bool.eq_iff_iff, belI_bit h.sets h1]
  constructor
  · exact g2 j
  · rintro (e | ⟨b, hs, hz⟩)
    · exact g1 j e
    · refine g3 (j, b) (mem_pairsL.2 ⟨?_, ?_, hz⟩) hs
      · rcases Nat.lt_or_ge j zs.length with h1 | h1
        · exact h1
        · rw [List.getElem?_eq_none (by omega), Option.getD_none, bitB_zero] at hz; cases hz
      · have := bitB_lt h1 hs; have := h.1; omega

/-! What the functions answer. -/
def isIdealR (zs : List Int) (s : Int) : Bool := (vo zs && inB s 0 (powI zs.length - 1)) && idB zs s
def belowR (zs : List Int) (s : Int) : Int := if vo zs && inB s 0 (powI zs.length - 1) then belI zs s else -1
def nextI (zs : List Int) (s : Int) : Int := belI zs (topsTo (du zs) (powI zs.length - 1 - s) zs.length)
def nextR (zs : List Int) (s : Int) : Int := if isIdealR zs s then nextI zs s else -1
/-- The sets less than k for which p holds, ascending. -/
def setsTo (p : Int → Bool) (k : Nat) : List Int := ((List.range k).filter fun j : Nat => p (j : Int)).map fun j : Nat => (j : Int)
theorem setsTo_yes {p : Int → Bool} {k : Nat} (h : p (k : Int) = true) : setsTo p (k + 1) = setsTo p k ++ [(k : Int)] := by
  simp [setsTo, List.range_succ, h]
theorem setsTo_no {p : Int → Bool} {k : Nat} (h : p (k : Int) = false) : setsTo p (k + 1) = setsTo p k := by
  simp [setsTo, List.range_succ, h]
theorem setsTo_len (p : Int → Bool) (k : Nat) : (setsTo p k).length ≤ k := by
  unfold setsTo
  rw [List.length_map]
  exact Nat.le_trans (List.length_filter_le _ _) (by simp)
def idealsR (zs : List Int) : List Int := if vo zs then setsTo (idB zs) (2 ^ zs.length) else []
def apartsR (zs : List Int) : List Int := if vo zs then setsTo (apB zs) (2 ^ zs.length) else []
end Go.Proofs.YtogiooecjfnkcaaDoor

/- The longest chain and the widest set apart: words, and the model's helper. -/
namespace Go.Proofs.YtogiooecjfnkcaaDoor
open Go.RowKit

theorem maxL_snoc (f : Nat → Int) (l : List Nat) (a : Nat) : maxL f (l ++ [a]) = max (maxL f l) (f a + 1) := by simp [maxL]
theorem maxL_range (f : Nat → Int) (k : Nat) : maxL f (List.range (k + 1)) = max (maxL f (List.range k)) (f k + 1) := by rw [List.range_succ, maxL_snoc]
theorem hgts_get {zs : List Int} {n k : Nat} (hk : k < n) : ((List.range n).map (hgt zs))[k]?.getD 0 = hgt zs k := by simp [hk]

def longR (zs : List Int) : Int := if vo zs then longI zs else -1
def wideR (zs : List Int) : Int := if vo zs then grTo (apB zs) (setsN zs) else -1
end Go.Proofs.YtogiooecjfnkcaaDoor

/- Chains and sets apart: what is left of them, and when a chain is apart. No program. -/
namespace Go.Proofs.YtogiooecjfnkcaaDoor

theorem isChain_is {zs : List Int} {s : Int} (h : VoP zs) (h0 : 0 ≤ s) (h1 : s < powI zs.length) : isChainR zs s = chB zs s := by
  unfold isChainR inB
  rw [vo_true h, decide_eq_true (show (0 : Int) ≤ s ∧ s ≤ powI zs.length - 1 by omega)]
  rfl
theorem isApart_is {zs : List Int} {s : Int} (h : VoP zs) (h0 : 0 ≤ s) (h1 : s < powI zs.length) : isApartR zs s = apB zs s := by
  unfold isApartR inB
  rw [vo_true h, decide_eq_true (show (0 : Int) ≤ s ∧ s ≤ powI zs.length - 1 by omega)]
  rfl
theorem isChain_parts {zs : List Int} {s : Int} (h : isChainR zs s = true) : VoP zs ∧ (0 ≤ s ∧ s < powI zs.length) ∧ chB zs s = true := by
  unfold isChainR at h
  rw [Bool.and_eq_true, Bool.and_eq_true] at h
  obtain ⟨⟨h1, h2⟩, h3⟩ := h
  have h2' : (0 : Int) ≤ s ∧ s ≤ powI zs.length - 1 := by simpa [inB] using h2
  exact ⟨by simpa [vo] using h1, ⟨h2'.1, by omega⟩, h3⟩
theorem isApart_parts {zs : List Int} {s : Int} (h : isApartR zs s = true) : VoP zs ∧ (0 ≤ s ∧ s < powI zs.length) ∧ apB zs s = true := by
  unfold isApartR at h
  rw [Bool.and_eq_true, Bool.and_eq_true] at h
  obtain ⟨⟨h1, h2⟩, h3⟩ := h
  have h2' : (0 : Int) ≤ s ∧ s ≤ powI zs.length - 1 := by simpa [inB] using h2
  exact ⟨by simpa [vo] using h1, ⟨h2'.1, by omega⟩, h3⟩
theorem chB_sub {zs : List Int} {s t : Int} (h1 : s < 64) (h2 : t < 64) (hs : ∀ j : Nat, bitB t j = true → bitB s j = true) (h : chB zs s = true) : chB zs t = true := by
  unfold chB at *
  rw [decide_eq_true_eq] at *
  rw [ChP_iff h2]
  intro a b ha hb hab
  exact (ChP_iff h1).1 h a b (hs a ha) (hs b hb) hab
theorem apB_sub {zs : List Int} {s t : Int} (h1 : s < 64) (h2 : t < 64) (hs : ∀ j : Nat, bitB t j = true → bitB s j = true) (h : apB zs s = true) : apB zs t = true :=
  (apB_iff h2).2 fun a b ha hb => (apB_iff h1).1 h a b (hs a ha) (hs b hb)
/-- The set without its least item, as the program's 's & (s-1)'. -/
theorem less_one {n : Nat} {s : Int} (h0 : 0 ≤ s) (h1 : s < powI n) (hn : n ≤ 6) : ∃ t, bits .and .i64 s (s - 1) = t ∧ 0 ≤ t ∧ t < powI n ∧ ∀ j : Nat, bitB t j = true → bitB s j = true := by
  have hp := powI_le6 (n := (n : Int)) (by omega)
  by_cases hs : s = 0
  · subst hs
    exact ⟨0, by decide, by omega, by omega, fun _ e => e⟩
  · have hb := andI_bd s (s - 1)
    exact ⟨andI s (s - 1), bits_and (by omega) (by omega) (by omega) (by omega), hb.1, by omega, fun j e => by rw [bitB_and, Bool.and_eq_true] at e; exact e.1⟩
theorem du_isChain {zs : List Int} {s : Int} (h : VoP zs) (h0 : 0 ≤ s) (h1 : s < powI zs.length) : isChainR (du zs) s = chB zs s := by
  rw [isChain_is (du_vo h) h0 (by rw [du_len]; exact h1), du_chB h.sets]
theorem du_isApart {zs : List Int} {s : Int} (h : VoP zs) (h0 : 0 ≤ s) (h1 : s < powI zs.length) : isApartR (du zs) s = apB zs s := by
  have hp := powI_le6 (n := (zs.length : Int)) (by have := h.1; omega)
  rw [isApart_is (du_vo h) h0 (by rw [du_len]; exact h1), du_apB h.sets (by omega)]
theorem chain_apart {zs : List Int} {s : Int} (h : VoP zs) (h0 : 0 ≤ s) (h1 : s < powI zs.length) (hc : chB zs s = true) : apB zs s = decide (popI s ≤ 1) := by
  have hp := powI_le6 (n := (zs.length : Int)) (by have := h.1; omega)
  have h64 : s < 64 := by omega
  rw [popI_items h0 h64]
  have hs := itemsL_sorted s
  have hm : ∀ j : Nat, j ∈ itemsL s ↔ bitB s j = true := fun j => mem_itemsL h64
  have hc' : ChP zs s := of_decide_eq_true hc
  unfold ChP at hc'
  clear hc
  match hl : itemsL s with
  | [] =>
    rw [hl] at hm
    have : apB zs s = true := (apB_iff h64).2 fun a b ha hb => by have := (hm a).2 ha; simp at this
    rw [this]; rfl
  | [x] =>
    rw [hl] at hm
    have : apB zs s = true := (apB_iff h64).2 fun a b ha hb => by
      have e1 := (hm a).2 ha
      have e2 := (hm b).2 hb
      simp only [List.mem_singleton] at e1 e2
      subst e1; subst e2
      exact h.irrB (bitB_lt h1 ha)
    rw [this]; rfl
  | x :: y :: l =>
    rw [hl] at hc' hs hm
    have hr : relB zs x y = true := (List.pairwise_cons.1 hc').1 y (by simp)
    have hx := (hm x).1 (by simp)
    have hy := (hm y).1 (by simp)
    have hno : apB zs s = false := by
      cases e : apB zs s
      · rfl
      · have ha := (apB_iff h64).1 e
        unfold relB at hr
        rw [ha x y hx hy, ha y x hy hx] at hr
        cases hr
    rw [hno, decide_eq_false]
    simp only [List.length_cons]
    omega
theorem apart_le {zs : List Int} {s : Int} (h : VoP zs) (h0 : 0 ≤ s) (h1 : s < powI zs.length) (ha : apB zs s = true) : popI s ≤ wideR zs := by
  unfold wideR
  rw [vo_true h]
  obtain ⟨j, rfl⟩ := Int.eq_ofNat_of_zero_le h0
  have hN := setsN_pow zs
  exact grTo_ge ha (setsN zs) (by omega)
end Go.Proofs.YtogiooecjfnkcaaDoor

/- The order of some items alone, numbered anew: it is an order, and is lined up in as many ways as they are. No program. -/
namespace Go.Proofs.YtogiooecjfnkcaaDoor

theorem inc_ext : ∀ (l m : List Nat), l.Pairwise (· < ·) → m.Pairwise (· < ·) → (∀ a, a ∈ l ↔ a ∈ m) → l = m
  | [], [], _, _, _ => rfl
  | [], b :: m, _, _, h => by have := (h b).2 (by simp); cases this
  | a :: l, [], _, _, h => by have := (h a).1 (by simp); cases this
  | a :: l, b :: m, hl, hm, h => by
    rw [List.pairwise_cons] at hl hm
    have hab : a = b := by
      rcases List.mem_cons.1 ((h a).1 (by simp)) with e | e
      · exact e
      · rcases List.mem_cons.1 ((h b).2 (by simp)) with e2 | e2
        · exact e2.symm
        · have := hm.1 a e; have := hl.1 b e2; omega
    subst hab
    rw [inc_ext l m hl.2 hm.2 fun x => ?_]
    have hx := h x
    rw [List.mem_cons, List.mem_cons] at hx
    constructor
    · intro e
      rcases hx.1 (.inr e) with e2 | e2
      · have := hl.1 x e; omega
      · exact e2
    · intro e
      rcases hx.2 (.inr e) with e2 | e2
      · have := hm.1 x e; omega
      · exact e2
theorem range_inc (n : Nat) : (List.range n).Pairwise (· < ·) := List.pairwise_lt_range
/-- The numbers of z that l lists, by their places in l, up to k. -/
def rowTo (z : Int) (l : List Nat) : Nat → Int
  | 0 => 0
  | k + 1 => orI (rowTo z l k) (bitI z (l[k]?.getD 0) * powI k)
theorem bitI_mul (z j : Int) (k : Nat) : bitI z j * powI k = if bitB z j then powI k else 0 := by
  unfold bitI; split <;> simp
theorem rowTo_bd (z : Int) (l : List Nat) : ∀ k : Nat, 0 ≤ rowTo z l k ∧ rowTo z l k < powI k
  | 0 => by simp [rowTo, powI]
  | k + 1 => by
    have h := rowTo_bd z l k
    have hp : powI (k : Int) < powI ((k + 1 : Nat) : Int) := powI_lt (by omega)
    have h0 := powI_pos (k : Int)
    have h1 := powI_pos ((k + 1 : Nat) : Int)
    unfold rowTo
    rw [bitI_mul]
    split
    · exact orI_bd h.1 (by omega) (Int.le_of_lt h0) hp
    · exact orI_bd h.1 (by omega) (Int.le_refl _) h1
theorem rowTo_bit (z : Int) (l : List Nat) (j : Nat) : ∀ k : Nat, bitB (rowTo z l k) j = true ↔ j < k ∧ bitB z ((l[j]?.getD 0 : Nat) : Int) = true
  | 0 => by simp [rowTo, bitB_zero]
  | k + 1 => by
    unfold rowTo
    rw [bitI_mul, bitB_or, Bool.or_eq_true, rowTo_bit z l j k]
    have h2 : bitB (if bitB z ((l[k]?.getD 0 : Nat) : Int) then powI (k : Int) else 0) j = true ↔ j = k ∧ bitB z ((l[j]?.getD 0 : Nat) : Int) = true := by
      split
      · rename_i hb
        rw [bitB_pow, decide_eq_true_eq]
        constructor
        · rintro rfl; exact ⟨rfl, hb⟩
        · rintro ⟨rfl, _⟩; rfl
      · rename_i hb
        rw [bitB_zero]
        constructor
        · intro e; cases e
        · rintro ⟨rfl, e⟩; exact absurd e hb
    rw [h2]
    constructor
    · rintro (⟨h, e⟩ | ⟨rfl, e⟩)
      · exact ⟨by omega, e⟩
      · exact ⟨by omega, e⟩
    · rintro ⟨h, e⟩
      by_cases hjk : j = k
      · exact .inr ⟨hjk, e⟩
      · exact .inl ⟨by omega, e⟩
/-- The order of the items of l alone. -/
def ind (zs : List Int) (l : List Nat) : List Int := l.map fun a => rowTo (zs[a]?.getD 0) l l.length
theorem ind_len (zs : List Int) (l : List Nat) : (ind zs l).length = l.length := by simp [ind]
theorem ind_bit {zs : List Int} {l : List Nat} {i j : Nat} (hi : i < l.length) : bitB ((ind zs l)[i]?.getD 0) j = true ↔ j < l.length ∧ bitB (zs[l[i]?.getD 0]?.getD 0) ((l[j]?.getD 0 : Nat) : Int) = true := by
  have e : (ind zs l)[i]?.getD 0 = rowTo (zs[l[i]?.getD 0]?.getD 0) l l.length := by
    unfold ind
    rw [List.getElem?_map, List.getElem?_eq_getElem hi]
    rfl
  rw [e, rowTo_bit]
/-- A list of items of the order, ascending. -/
structure Inc (zs : List Int) (l : List Nat) : Prop where
  inc : l.Pairwise (· < ·)
  lt : ∀ a ∈ l, a < zs.length
theorem Inc.at_lt {zs : List Int} {l : List Nat} (h : Inc zs l) {i : Nat} (hi : i < l.length) : l[i]?.getD 0 < zs.length := by
  rw [List.getElem?_eq_getElem hi]
  exact h.lt _ (List.getElem_mem hi)
theorem Inc.at_inc {zs : List Int} {l : List Nat} (h : Inc zs l) {i j : Nat} (hij : i < j) (hj : j < l.length) : l[i]?.getD 0 < l[j]?.getD 0 := by
  rw [List.getElem?_eq_getElem hj, List.getElem?_eq_getElem (by omega)]
  exact List.pairwise_iff_getElem.1 h.inc i j (by omega) hj hij
theorem Inc.at_inj {zs : List Int} {l : List Nat} (h : Inc zs l) {i j : Nat} (hi : i < l.length) (hj : j < l.length) (e : l[i]?.getD 0 = l[j]?.getD 0) : i = j := by
  rcases Nat.lt_trichotomy i j with h1 | h1 | h1
  · have := h.at_inc h1 hj; omega
  · exact h1
  · have := h.at_inc h1 hi; omega
theorem Inc.len_le {zs : List Int} {l : List Nat} (h : Inc zs l) : l.length ≤ zs.length := pigeon zs.length l (h.inc.imp fun h => by omega) h.lt
theorem ind_lt {zs : List Int} {l : List Nat} (h : Inc zs l) {i j : Nat} : lt (ind zs l) i j ↔ i < l.length ∧ j < l.length ∧ lt zs (l[i]?.getD 0) (l[j]?.getD 0) := by
  unfold lt
  rw [ind_len]
  constructor
  · rintro ⟨h1, h2⟩
    have := (ind_bit h1).1 h2
    exact ⟨h1, this.1, h.at_lt h1, this.2⟩
  · rintro ⟨h1, h2, _, h3⟩
    exact ⟨h1, (ind_bit h1).2 ⟨h2, h3⟩⟩
theorem ind_vo {zs : List Int} (h : VoP zs) {l : List Nat} (hl : Inc zs l) : VoP (ind zs l) := by
  have h6 := h.1
  have hle := hl.len_le
  refine ⟨by rw [ind_len]; omega, fun a ha => ?_, fun a ha b hb => ?_⟩
  · rw [ind_len] at ha ⊢
    have e : (ind zs l)[a]?.getD 0 = rowTo (zs[l[a]?.getD 0]?.getD 0) l l.length := by
      unfold ind; rw [List.getElem?_map, List.getElem?_eq_getElem ha]; rfl
    have hb := rowTo_bd (zs[l[a]?.getD 0]?.getD 0) l l.length
    have h2 : bitB ((ind zs l)[a]?.getD 0) a = false := by
      cases e2 : bitB ((ind zs l)[a]?.getD 0) a
      · rfl
      · have := (ind_lt hl).1 (⟨by rw [ind_len]; exact ha, e2⟩ : lt (ind zs l) a a)
        exact absurd this.2.2 h.irr
    unfold okA inB
    rw [h2, e]
    simp only [Bool.not_false, Bool.and_true, decide_eq_true_eq]
    omega
  · rw [ind_len] at ha hb
    unfold okP
    cases e : bitB ((ind zs l)[a]?.getD 0) b
    · rfl
    · have hab := (ind_lt hl).1 (⟨by rw [ind_len]; exact ha, e⟩ : lt (ind zs l) a b)
      have h1 : lessI ((ind zs l)[b]?.getD 0) ((ind zs l)[a]?.getD 0) = 0 := by
        refine bitB_ext (lessI_bd _ _).1 (Int.le_refl _) fun j => ?_
        rw [bitB_less, bitB_zero]
        cases e1 : bitB ((ind zs l)[b]?.getD 0) j
        · rfl
        · have hbj := (ind_lt hl).1 (⟨by rw [ind_len]; exact hb, e1⟩ : lt (ind zs l) b j)
          have := ((ind_lt hl).2 ⟨ha, hbj.2.1, h.trans hab.2.2 hbj.2.2⟩).2
          rw [this]; rfl
      have h2 : bitB ((ind zs l)[b]?.getD 0) a = false := by
        cases e2 : bitB ((ind zs l)[b]?.getD 0) a
        · rfl
        · have hba := (ind_lt hl).1 (⟨by rw [ind_len]; exact hb, e2⟩ : lt (ind zs l) b a)
          exact absurd (h.trans hab.2.2 hba.2.2) h.irr
      rw [h1, h2]; rfl

/-- The items of zs that a set of places of l tells. -/
def exTo (l : List Nat) (t : Nat) : Nat → Nat
  | 0 => 0
  | k + 1 => exTo l t k ||| (if t.testBit k then 2 ^ (l[k]?.getD 0) else 0)
theorem exTo_bit (l : List Nat) (t a : Nat) : ∀ k : Nat, (exTo l t k).testBit a = true ↔ ∃ i, i < k ∧ t.testBit i = true ∧ l[i]?.getD 0 = a
  | 0 => by simp [exTo]
  | k + 1 => by
    unfold exTo
    rw [Nat.testBit_or, Bool.or_eq_true, exTo_bit l t a k]
    have h2 : (if t.testBit k then 2 ^ (l[k]?.getD 0) else 0).testBit a = true ↔ t.testBit k = true ∧ l[k]?.getD 0 = a := by
      split
      · rename_i hb; rw [Nat.testBit_two_pow, decide_eq_true_eq]; simp [hb]
      · rename_i hb; simp [hb]
    rw [h2]
    constructor
    · rintro (⟨i, hi, e⟩ | e)
      · exact ⟨i, by omega, e⟩
      · exact ⟨k, by omega, e⟩
    · rintro ⟨i, hi, e⟩
      by_cases hik : i = k
      · subst hik; exact .inr e
      · exact .inl ⟨i, by omega, e⟩
def ex (l : List Nat) (t : Nat) : Nat := exTo l t l.length
theorem ex_lt {zs : List Int} {l : List Nat} (h : Inc zs l) (t : Nat) : ex l t < 2 ^ zs.length := Nat.lt_pow_two_of_testBit _ fun i hi => by
  cases e : (ex l t).testBit i
  · rfl
  · obtain ⟨k, hk, _, e2⟩ := (exTo_bit l t i l.length).1 e
    have := h.at_lt hk; omega
theorem ex_at {zs : List Int} {l : List Nat} (h : Inc zs l) {t k : Nat} (hk : k < l.length) : (ex l t).testBit (l[k]?.getD 0) = t.testBit k := by
  rw [Bool.eq_iff_iff]
  unfold ex
  rw [exTo_bit]
  constructor
  · rintro ⟨i, hi, e, e2⟩
    rw [← h.at_inj hi hk e2]; exact e
  · intro e; exact ⟨k, hk, e, rfl⟩
theorem sub_bits {s a j : Nat} (hs : s < 64) (ha : a < 6) (hb : s.testBit a = true) : (s - 2 ^ a).testBit j = (s.testBit j && !decide (a = j)) := by
  have hpa := Nat.two_pow_pos a
  rcases Nat.lt_or_ge j 6 with hj | hj
  · exact sub_bit_fin ⟨s, hs⟩ ⟨a, ha⟩ ⟨j, hj⟩ hb
  · have h1 : s.testBit j = false := Nat.testBit_lt_two_pow (Nat.lt_of_lt_of_le (show s < 2 ^ 6 by omega) (Nat.pow_le_pow_right (by decide) hj))
    have h2 : (s - 2 ^ a).testBit j = false := Nat.testBit_lt_two_pow (Nat.lt_of_lt_of_le (show s - 2 ^ a < 2 ^ 6 by omega) (Nat.pow_le_pow_right (by decide) hj))
    rw [h1, h2]; rfl
theorem ex_sub {zs : List Int} (h6 : zs.length ≤ 6) {l : List Nat} (h : Inc zs l) {t k : Nat} (ht : t < 64) (hk : k < l.length) (hb : t.testBit k = true) : ex l (t - 2 ^ k) = ex l t - 2 ^ (l[k]?.getD 0) := by
  have hle := h.len_le
  have hx : ex l t < 64 := Nat.lt_of_lt_of_le (ex_lt h t) (pow_le64 h6)
  have hlk := h.at_lt hk
  refine Nat.eq_of_testBit_eq fun a => ?_
  rw [sub_bits hx (show l[k]?.getD 0 < 6 by omega) (by rw [ex_at h hk]; exact hb), Bool.eq_iff_iff]
  unfold ex
  rw [exTo_bit, Bool.and_eq_true, exTo_bit, Bool.not_eq_true', decide_eq_false_iff_not]
  constructor
  · rintro ⟨i, hi, e, rfl⟩
    rw [sub_bits ht (by omega) hb, Bool.and_eq_true, Bool.not_eq_true', decide_eq_false_iff_not] at e
    exact ⟨⟨i, hi, e.1, rfl⟩, fun e2 => e.2 (h.at_inj hk hi e2)⟩
  · rintro ⟨⟨i, hi, e, rfl⟩, e2⟩
    refine ⟨i, hi, ?_, rfl⟩
    rw [sub_bits ht (by omega) hb, e]
    have hne : ¬ k = i := fun e3 => e2 (by rw [e3])
    simp [hne]
theorem ex_zero (l : List Nat) : ex l 0 = 0 := Nat.eq_of_testBit_eq fun a => by
  rw [Bool.eq_iff_iff]
  unfold ex
  rw [exTo_bit]
  simp
theorem eF_iff {zs : List Int} (h : VoP zs) {s a : Nat} : eF zs s a = true ↔ s.testBit a = true ∧ ∀ b, s.testBit b = true → bitB (zs[b]?.getD 0) a = false := by
  unfold eF
  rw [Bool.and_eq_true, beq_iff_eq, andI_zero]
  constructor
  · rintro ⟨h1, h2⟩
    exact ⟨h1, fun b hb => by have := h2 b (by rw [bit_cast]; exact hb); rwa [du_bit h.sets] at this⟩
  · rintro ⟨h1, h2⟩
    exact ⟨h1, fun b hb => by rw [du_bit h.sets]; exact h2 b (by rwa [bit_cast] at hb)⟩
theorem bit_none' {zs : List Int} {a b : Nat} (h : bitB (zs[a]?.getD 0) b = true) : a < zs.length := by
  rcases Nat.lt_or_ge a zs.length with h1 | h1
  · exact h1
  · rw [List.getElem?_eq_none (by omega), Option.getD_none, bitB_zero] at h; cases h
theorem next_ind {zs : List Int} (h : VoP zs) {l : List Nat} (hl : Inc zs l) (t : Nat) : nextL zs (ex l t) = (nextL (ind zs l) t).map fun k => l[k]?.getD 0 := by
  have hi := ind_vo h hl
  rw [nextL_is h, nextL_is hi, ind_len]
  refine inc_ext _ _ ((range_inc _).filter _) ?_ fun a => ?_
  · rw [List.pairwise_map]
    refine List.Pairwise.imp_of_mem ?_ ((range_inc _).filter _)
    intro x y hx hy hxy
    rw [List.mem_filter] at hy
    exact hl.at_inc hxy (by simpa using hy.1)
  · rw [List.mem_filter, List.mem_map, List.mem_range, eF_iff h]
    constructor
    · rintro ⟨ha, h1, h2⟩
      obtain ⟨k, hk, hb, e⟩ := (exTo_bit l t a l.length).1 h1
      refine ⟨k, ?_, e⟩
      rw [List.mem_filter, List.mem_range, eF_iff hi]
      refine ⟨hk, hb, fun j hj => ?_⟩
      cases e2 : bitB ((ind zs l)[j]?.getD 0) k
      · rfl
      · have hjl : j < l.length := by
          have := bit_none' e2; rwa [ind_len] at this
        have h3 := (ind_bit hjl).1 e2
        have := h2 (l[j]?.getD 0) (by rw [ex_at hl hjl]; exact hj)
        rw [← e] at this
        rw [this] at h3; cases h3.2
    · rintro ⟨k, hk, e⟩
      rw [List.mem_filter, List.mem_range, eF_iff hi] at hk
      obtain ⟨hk, hb, h2⟩ := hk
      refine ⟨by rw [← e]; exact hl.at_lt hk, by rw [← e, ex_at hl hk]; exact hb, fun b hb2 => ?_⟩
      obtain ⟨j, hj, hjt, e3⟩ := (exTo_bit l t b l.length).1 hb2
      have := h2 j hjt
      cases e4 : bitB (zs[b]?.getD 0) a
      · rfl
      · rw [(ind_bit hj).2 ⟨hk, by rw [e3, e]; exact e4⟩] at this; cases this
/-- The items alone are lined up in as many ways as they are. -/
theorem cF_ind {zs : List Int} (h : VoP zs) {l : List Nat} (hl : Inc zs l) : ∀ (N t : Nat), t ≤ N → t < 2 ^ l.length → cF (ind zs l) t = cF zs (ex l t)
  | N, t, hN, ht => by
    have hi := ind_vo h hl
    have hle := hl.len_le
    have h6 := h.1
    have ht64 : t < 64 := Nat.lt_of_lt_of_le ht (pow_le64 (by omega))
    by_cases h0 : t = 0
    · subst h0; rw [ex_zero, cF_zero, cF_zero]
    · have hx0 : ex l t ≠ 0 := fun e => h0 (Nat.eq_of_testBit_eq fun k => by
        rw [Nat.zero_testBit]
        cases e2 : t.testBit k
        · rfl
        · have hk := bit_lt ht e2
          have := ex_at hl (t := t) hk
          rw [e, e2, Nat.zero_testBit] at this; cases this)
      cases N with
      | zero => omega
      | succ N =>
        rw [← accF_all hi h0, ← accF_all h hx0, next_ind h hl]
        unfold accF
        rw [List.map_map]
        congr 1
        refine List.map_congr_left fun k hk => ?_
        obtain ⟨hkl, hkb⟩ := nextL_mem hi hk
        rw [ind_len] at hkl
        have hp := Nat.two_pow_pos k
        have hge := ge_bit_fin ⟨t, ht64⟩ ⟨k, by omega⟩ hkb
        simp only at hge
        rw [cF_ind h hl N (t - 2 ^ k) (by omega) (by omega), ex_sub h6 hl ht64 hkl hkb]
        rfl
/-- The items of a set, ascending. -/
def leftL (n s : Nat) : List Nat := (List.range n).filter fun j => s.testBit j
theorem leftL_inc (zs : List Int) (s : Nat) : Inc zs (leftL zs.length s) := ⟨(range_inc _).filter _, fun a ha => by
  unfold leftL at ha; rw [List.mem_filter] at ha; simpa using ha.1⟩
theorem ex_left {zs : List Int} {s : Nat} (hs : s < 2 ^ zs.length) : ex (leftL zs.length s) (2 ^ (leftL zs.length s).length - 1) = s := by
  refine Nat.eq_of_testBit_eq fun a => ?_
  rw [Bool.eq_iff_iff]
  unfold ex
  rw [exTo_bit]
  constructor
  · rintro ⟨i, hi, _, rfl⟩
    rw [List.getElem?_eq_getElem hi]
    have := List.getElem_mem hi
    unfold leftL at this
    rw [List.mem_filter] at this
    exact this.2
  · intro e
    have ha : a ∈ leftL zs.length s := by
      unfold leftL
      rw [List.mem_filter, List.mem_range]
      exact ⟨bit_lt hs e, e⟩
    obtain ⟨i, hi, e2⟩ := List.getElem_of_mem ha
    refine ⟨i, hi, ?_, by rw [List.getElem?_eq_getElem hi]; exact e2⟩
    rw [Nat.testBit_two_pow_sub_one]
    simpa using hi
/-- As the model counts what is left. -/
theorem rest_is {zs : List Int} (h : VoP zs) {s : Nat} (hs : s < 2 ^ zs.length) : cG (ind zs (leftL zs.length s)) (2 ^ (leftL zs.length s).length - 1) = cF zs s := by
  have hl := leftL_inc zs s
  have hi := ind_vo h hl
  have hp := Nat.two_pow_pos (leftL zs.length s).length
  have := count_both hi
  rw [ind_len] at this
  rw [this, cF_ind h hl _ _ (Nat.le_refl _) (by omega), ex_left hs]
end Go.Proofs.YtogiooecjfnkcaaDoor

/- Tops and ideals: tops stand for all below; what is below a set is an ideal; what an ideal leaves. No program. -/
namespace Go.Proofs.YtogiooecjfnkcaaDoor

theorem bit_none {zs : List Int} {a b : Nat} (h : bitB (zs[a]?.getD 0) b = true) : a < zs.length := by
  rcases Nat.lt_or_ge a zs.length with h1 | h1
  · exact h1
  · rw [List.getElem?_eq_none (by omega), Option.getD_none, bitB_zero] at h; cases h
theorem top_over {zs : List Int} (h : VoP zs) {s : Int} (h1 : s < powI zs.length) : ∀ (m a : Nat), zs.length - rank zs a ≤ m → bitB s a = true → ∃ t : Nat, bitB (topsTo zs s zs.length) t = true ∧ (a = t ∨ lt zs a t)
  | 0, a, hm, ha => by have := rank_bd h (bitB_lt h1 ha); omega
  | m + 1, a, hm, ha => by
    by_cases hz : andI (zs[a]?.getD 0) s = 0
    · exact ⟨a, (topsTo_bit a _).2 ⟨bitB_lt h1 ha, ha, hz⟩, .inl rfl⟩
    · have : ∃ b : Nat, bitB s b = true ∧ bitB (zs[a]?.getD 0) b = true := by
        refine Classical.byContradiction fun hn => hz (andI_zero.2 fun b hb => ?_)
        cases e : bitB (zs[a]?.getD 0) b
        · rfl
        · exact absurd ⟨b, hb, e⟩ hn
      obtain ⟨b, hb, hab⟩ := this
      have hl : lt zs a b := ⟨bit_none hab, hab⟩
      have hr := rank_lt h hl
      obtain ⟨t, ht, e⟩ := top_over h h1 m b (by omega) hb
      refine ⟨t, ht, .inr ?_⟩
      rcases e with rfl | e
      · exact hl
      · exact h.trans hl e
section
variable {zs : List Int} {s : Int}
theorem tops_in (zs : List Int) (s : Int) : lessI (topsTo zs s zs.length) s = 0 := lessI_none.2 fun _ hj => ((topsTo_bit _ _).1 hj).2.1
theorem tops_ap (h : VoP zs) : apB zs (topsTo zs s zs.length) = true := by
  have hb := topsTo_bd zs s zs.length
  have hp := powI_le6 (n := (zs.length : Int)) (by have := h.1; omega)
  refine (apB_iff (by omega)).2 fun a b ha hb => ?_
  exact andI_zero.1 ((topsTo_bit _ _).1 ha).2.2 b ((topsTo_bit _ _).1 hb).2.1
theorem tops_none (h : VoP zs) (h0 : 0 ≤ s) (h1 : s < powI zs.length) : (topsTo zs s zs.length == 0) = (s == 0) := by
  have hb := topsTo_bd zs s zs.length
  rw [Bool.eq_iff_iff, beq_iff_eq, beq_iff_eq]
  constructor
  · intro e
    refine bitB_ext h0 (Int.le_refl _) fun j => ?_
    rw [bitB_zero]
    cases hj : bitB s j
    · rfl
    · obtain ⟨t, ht, _⟩ := top_over h h1 _ j (Nat.le_refl _) hj
      rw [e, bitB_zero] at ht; cases ht
  · intro e
    refine bitB_ext hb.1 (Int.le_refl _) fun j => ?_
    rw [bitB_zero]
    cases hj : bitB (topsTo zs s zs.length) j
    · rfl
    · have := ((topsTo_bit _ _).1 hj).2.1
      rw [e, bitB_zero] at this; cases this
theorem in_bel (h : Sets zs) (h1 : s < powI zs.length) : lessI s (belI zs s) = 0 := lessI_none.2 fun j hj => (belI_bit h h1 j).2 (.inl hj)
theorem bel_ideal (h : VoP zs) (h0 : 0 ≤ s) (h1 : s < powI zs.length) : idB zs (belI zs s) = true := by
  have hb := belI_bd h.sets h0 h1
  refine (idB_iff h.sets hb.1 hb.2).2 fun a b hb hz => ?_
  rw [belI_bit h.sets h1] at hb ⊢
  rcases hb with hb | ⟨c, hc, hbc⟩
  · exact .inr ⟨b, hb, hz⟩
  · exact .inr ⟨c, hc, (h.trans (a := a) (b := b) (c := c) ⟨bit_none hz, hz⟩ ⟨bit_none hbc, hbc⟩).2⟩
theorem tops_bel (h : VoP zs) (_h0 : 0 ≤ s) (h1 : s < powI zs.length) : topsTo zs (belI zs s) zs.length = topsTo zs s zs.length := by
  refine bitB_ext (topsTo_bd _ _ _).1 (topsTo_bd _ _ _).1 fun j => ?_
  rw [Bool.eq_iff_iff, topsTo_bit, topsTo_bit]
  constructor
  · rintro ⟨hj, hb, hz⟩
    have hz' := andI_zero.1 hz
    refine ⟨hj, ?_, andI_zero.2 fun b hb => hz' b ((belI_bit h.sets h1 b).2 (.inl hb))⟩
    rcases (belI_bit h.sets h1 j).1 hb with e | ⟨c, hc, hjc⟩
    · exact e
    · rw [hz' c ((belI_bit h.sets h1 c).2 (.inl hc))] at hjc; cases hjc
  · rintro ⟨hj, hb, hz⟩
    have hz' := andI_zero.1 hz
    refine ⟨hj, (belI_bit h.sets h1 j).2 (.inl hb), andI_zero.2 fun b hb => ?_⟩
    rcases (belI_bit h.sets h1 b).1 hb with e | ⟨c, hc, hbc⟩
    · exact hz' b e
    · cases e : bitB (zs[j]?.getD 0) b
      · rfl
      · have := (h.trans (a := j) (b := b) (c := c) ⟨bit_none e, e⟩ ⟨bit_none hbc, hbc⟩).2
        rw [hz' c hc] at this; cases this
theorem bel_tops (h : VoP zs) (h0 : 0 ≤ s) (h1 : s < powI zs.length) : belI zs (topsTo zs s zs.length) = belI zs s := by
  have hb := topsTo_bd zs s zs.length
  refine bitB_ext (belI_bd h.sets hb.1 hb.2).1 (belI_bd h.sets h0 h1).1 fun j => ?_
  rw [Bool.eq_iff_iff, belI_bit h.sets hb.2, belI_bit h.sets h1]
  constructor
  · rintro (e | ⟨t, ht, hj⟩)
    · exact .inl ((topsTo_bit _ _).1 e).2.1
    · exact .inr ⟨t, ((topsTo_bit _ _).1 ht).2.1, hj⟩
  · rintro (e | ⟨b, hb, hj⟩)
    · obtain ⟨t, ht, e2⟩ := top_over h h1 _ j (Nat.le_refl _) e
      rcases e2 with rfl | e2
      · exact .inl ht
      · exact .inr ⟨t, ht, e2.2⟩
    · obtain ⟨t, ht, e2⟩ := top_over h h1 _ b (Nat.le_refl _) hb
      rcases e2 with rfl | e2
      · exact .inr ⟨b, ht, hj⟩
      · exact .inr ⟨t, ht, (h.trans (a := j) (b := b) (c := t) ⟨bit_none hj, hj⟩ e2).2⟩
theorem bel_self (h0 : idB zs s = true) : belI zs s = s := by simpa [idB] using h0
theorem all_bits' {n : Nat} : ∀ j : Nat, bitB (powI n - 1) j = decide (j < n) := fun j => by
  have e : (powI (n : Int) - 1).toNat = 2 ^ n - 1 := by
    have : powI (n : Int) = ((2 ^ n : Nat) : Int) := by simp [powI]
    omega
  simp [bitB, e, Nat.testBit_two_pow_sub_one]
theorem left_fin : ∀ n : Fin 7, ∀ k : Fin 64, (k.val : Int) < powI (n.val : Int) → lessI (powI (n.val : Int) - 1) (k.val : Int) = powI (n.val : Int) - 1 - (k.val : Int) := by decide +kernel
theorem left_is {n : Nat} {s : Int} (hn : n ≤ 6) (h0 : 0 ≤ s) (h1 : s < powI n) : lessI (powI n - 1) s = powI n - 1 - s := by
  have hpn := powI_le6 (n := (n : Int)) (by omega)
  obtain ⟨k, rfl⟩ := Int.eq_ofNat_of_zero_le h0
  exact left_fin ⟨n, by omega⟩ ⟨k, by omega⟩ h1
theorem left_ideal (h : VoP zs) (h0 : 0 ≤ s) (h1 : s < powI zs.length) (hi : idB zs s = true) : idB (du zs) (powI zs.length - 1 - s) = true := by
  have hp := powI_pos (zs.length : Int)
  refine (idB_iff (du_sets h.sets) (by omega) (by rw [du_len]; omega)).2 fun a b hb hz => ?_
  rw [← left_is h.1 h0 h1] at hb ⊢
  rw [bitB_less, all_bits', Bool.and_eq_true] at hb ⊢
  rw [du_bit h.sets] at hz
  have ha : a < zs.length := bitB_lt (h.sets.2 b (bit_none hz)).2 hz
  refine ⟨by simpa using ha, ?_⟩
  cases e : bitB s a
  · rfl
  · have := (idB_iff h.sets h0 h1).1 hi b a e hz
    rw [this] at hb; simp at hb
theorem tops_apart (h : VoP zs) (h0 : 0 ≤ s) (h1 : s < powI zs.length) (ha : apB zs s = true) : topsTo zs s zs.length = s := by
  have hp := powI_le6 (n := (zs.length : Int)) (by have := h.1; omega)
  refine bitB_ext (topsTo_bd zs s _).1 h0 fun j => ?_
  have key := topsTo_bit (zs := zs) (s := s) j zs.length
  cases e : bitB s j
  · cases e2 : bitB (topsTo zs s zs.length) j
    · rfl
    · have := (key.1 e2).2.1; rw [e] at this; cases this
  · exact key.2 ⟨bitB_lt h1 e, e, andI_zero.2 fun b hb => (apB_iff (by omega)).1 ha j b e hb⟩
/-- The tops of the next ideal are the lowest items that the one ahead lacks. -/
theorem next_tops (h : VoP zs) (_h0 : 0 ≤ s) (_h1 : s < powI zs.length) : topsTo zs (nextI zs s) zs.length = topsTo (du zs) (powI zs.length - 1 - s) zs.length := by
  have hp := powI_pos (zs.length : Int)
  have hp6 := powI_le6 (n := (zs.length : Int)) (by have := h.1; omega)
  have hb := topsTo_bd (du zs) (powI zs.length - 1 - s) zs.length
  have ha := tops_ap (s := powI zs.length - 1 - s) (du_vo h)
  rw [du_len, du_apB h.sets (by omega)] at ha
  unfold nextI
  rw [tops_bel h hb.1 hb.2, tops_apart h hb.1 hb.2 ha]
end
theorem in_set {zs : List Int} {s : Int} (_h : VoP zs) (h0 : 0 ≤ s) (h1 : s < powI zs.length) : inB s 0 (powI zs.length - 1) = true := by
  simp only [inB, decide_eq_true_eq]; omega
theorem set_parts {zs : List Int} {s : Int} (h : (vo zs && inB s 0 (powI zs.length - 1)) = true) : VoP zs ∧ 0 ≤ s ∧ s < powI zs.length := by
  rw [Bool.and_eq_true] at h
  refine ⟨by simpa [vo] using h.1, ?_⟩
  have := h.2
  simp only [inB, decide_eq_true_eq] at this
  omega
theorem topsR_in {zs : List Int} {s : Int} (h : VoP zs) (h0 : 0 ≤ s) (h1 : s < powI zs.length) : topsR zs s = topsTo zs s zs.length := by
  unfold topsR; rw [vo_true h, in_set h h0 h1]; rfl
theorem belowR_in {zs : List Int} {s : Int} (h : VoP zs) (h0 : 0 ≤ s) (h1 : s < powI zs.length) : belowR zs s = belI zs s := by
  unfold belowR; rw [vo_true h, in_set h h0 h1]; rfl
theorem isIdealR_in {zs : List Int} {s : Int} (h : VoP zs) (h0 : 0 ≤ s) (h1 : s < powI zs.length) : isIdealR zs s = idB zs s := by
  unfold isIdealR; rw [vo_true h, in_set h h0 h1]; rfl
end Go.Proofs.YtogiooecjfnkcaaDoor

/- Joins, what all of a set have above them, cuts, items with one next below, and orders of some items: as both sides tell them. No program. -/
namespace Go.Proofs.YtogiooecjfnkcaaDoor

/-- What is at or above an item. -/
def atUp (zs : List Int) (a : Nat) : Int := orI (zs[a]?.getD 0) (powI a)
theorem atUp_bd {zs : List Int} (h : Sets zs) {a : Nat} (ha : a < zs.length) : 0 ≤ atUp zs a ∧ atUp zs a < powI zs.length := by
  have hz := h.2 a ha
  exact orI_bd hz.1 hz.2 (Int.le_of_lt (powI_pos _)) (powI_lt ha)
theorem atUp_bit (zs : List Int) (a j : Nat) : bitB (atUp zs a) j = (bitB (zs[a]?.getD 0) j || decide (a = j)) := by unfold atUp; rw [bitB_or, bitB_pow]
/-- The items that are at or above all those of s less than k. -/
def comTo (zs : List Int) (s : Int) : Nat → Int
  | 0 => powI zs.length - 1
  | k + 1 => if bitB s k then andI (comTo zs s k) (atUp zs k) else comTo zs s k
theorem comTo_yes {zs : List Int} {s : Int} {k : Nat} (h : bitB s k = true) : comTo zs s (k + 1) = andI (comTo zs s k) (atUp zs k) := by simp [comTo, h]
theorem comTo_no {zs : List Int} {s : Int} {k : Nat} (h : bitB s k = false) : comTo zs s (k + 1) = comTo zs s k := by simp [comTo, h]
theorem comTo_bd (zs : List Int) (s : Int) : ∀ k : Nat, 0 ≤ comTo zs s k ∧ comTo zs s k < powI zs.length
  | 0 => by have := powI_pos (zs.length : Int); simp only [comTo]; omega
  | k + 1 => by
    have h := comTo_bd zs s k
    unfold comTo
    split
    · have := andI_bd (comTo zs s k) (atUp zs k); omega
    · exact h
theorem comTo_bit (zs : List Int) (s : Int) (j : Nat) : ∀ k : Nat, bitB (comTo zs s k) j = true ↔ j < zs.length ∧ ∀ a : Nat, a < k → bitB s a = true → bitB (atUp zs a) j = true
  | 0 => by
    unfold comTo
    rw [all_bits', decide_eq_true_eq]
    exact ⟨fun h => ⟨h, fun a ha => by omega⟩, fun h => h.1⟩
  | k + 1 => by
    cases hb : bitB s k
    · rw [comTo_no hb, comTo_bit zs s j k]
      refine ⟨fun h => ⟨h.1, fun a ha hs => ?_⟩, fun h => ⟨h.1, fun a ha hs => h.2 a (by omega) hs⟩⟩
      by_cases e : a = k
      · subst e; rw [hb] at hs; cases hs
      · exact h.2 a (by omega) hs
    · rw [comTo_yes hb, bitB_and, Bool.and_eq_true, comTo_bit zs s j k]
      refine ⟨fun h => ⟨h.1.1, fun a ha hs => ?_⟩, fun h => ⟨⟨h.1, fun a ha hs => h.2 a (by omega) hs⟩, h.2 k (by omega) hb⟩⟩
      by_cases e : a = k
      · subst e; exact h.2
      · exact h.1.2 a (by omega) hs
/-- The same, item by item of a list. -/
def comL (zs : List Int) (l : List Nat) : Int := l.foldl (fun (t : Int) (i : Nat) => andI t (atUp zs i)) (powI zs.length - 1)
theorem comL_snoc (zs : List Int) (l : List Nat) (i : Nat) : comL zs (l ++ [i]) = andI (comL zs l) (atUp zs i) := by simp [comL]
theorem comL_to (zs : List Int) (s : Int) : ∀ k : Nat, comL zs (itemsTo s k) = comTo zs s k
  | 0 => rfl
  | k + 1 => by
    have ih := comL_to zs s k
    cases hb : bitB s k
    · rw [itemsTo_no hb, comTo_no hb, ih]
    · rw [itemsTo_yes hb, comL_snoc, comTo_yes hb, ih]
theorem comTo_up {zs : List Int} {s : Int} {n : Nat} (h1 : s < powI n) : ∀ d : Nat, comTo zs s (n + d) = comTo zs s n
  | 0 => rfl
  | d + 1 => by
    have hb : bitB s ((n + d : Nat) : Int) = false := by
      cases h : bitB s ((n + d : Nat) : Int) with
      | false => rfl
      | true => have := bitB_lt h1 h; omega
    rw [← Nat.add_assoc, comTo_no hb, comTo_up h1 d]
theorem comL_all {zs : List Int} {s : Int} {n : Nat} (hn : n ≤ 6) (h1 : s < powI n) : comL zs (itemsL s) = comTo zs s n := by
  rw [itemsL, comL_to, show (6 : Nat) = n + (6 - n) from by omega, comTo_up h1]
/-- At or above both. -/
def upR (zs : List Int) (a b : Nat) : Int := andI (atUp zs a) (atUp zs b)
theorem upR_bd {zs : List Int} (h : Sets zs) {a b : Nat} (ha : a < zs.length) : 0 ≤ upR zs a b ∧ upR zs a b < powI zs.length := by
  have h1 := andI_bd (atUp zs a) (atUp zs b)
  have h2 := atUp_bd h ha
  unfold upR
  omega
/-- Two items as a set. -/
def twoS (a b : Nat) : Int := orI (orI 0 (powI a)) (powI b)
theorem twoS_bd {n a b : Nat} (ha : a < n) (hb : b < n) : 0 ≤ twoS a b ∧ twoS a b < powI n := by
  have h1 := orI_bd (a := 0) (b := powI a) (n := n) (Int.le_refl _) (powI_pos _) (Int.le_of_lt (powI_pos _)) (powI_lt ha)
  exact orI_bd h1.1 h1.2 (Int.le_of_lt (powI_pos _)) (powI_lt hb)
theorem twoS_bit (a b j : Nat) : bitB (twoS a b) j = (decide (a = j) || decide (b = j)) := by
  unfold twoS; rw [bitB_or, bitB_or, bitB_zero, bitB_pow, bitB_pow]; simp
theorem com_two {zs : List Int} (h : Sets zs) {a b : Nat} (ha : a < zs.length) (hb : b < zs.length) : comTo zs (twoS a b) zs.length = upR zs a b := by
  refine bitB_ext (comTo_bd _ _ _).1 (upR_bd h ha).1 fun j => ?_
  rw [Bool.eq_iff_iff, comTo_bit]
  unfold upR
  rw [bitB_and, Bool.and_eq_true]
  constructor
  · rintro ⟨hj, h2⟩
    exact ⟨h2 a ha (by rw [twoS_bit]; simp), h2 b hb (by rw [twoS_bit]; simp)⟩
  · rintro ⟨h1, h2⟩
    refine ⟨bitB_lt (atUp_bd h ha).2 h1, fun x _ hx => ?_⟩
    rw [twoS_bit, Bool.or_eq_true, decide_eq_true_eq, decide_eq_true_eq] at hx
    rcases hx with rfl | rfl
    · exact h1
    · exact h2
/-- An item of s that all of s are at or above. -/
def jnB (zs : List Int) (s : Int) (c : Nat) : Bool := bitB s c && lessI s (atUp zs c) == 0
theorem less_less (s p z : Int) : (lessI (lessI s p) z == 0) = (lessI s (orI z p) == 0) := by
  rw [Bool.eq_iff_iff, beq_iff_eq, beq_iff_eq, lessI_none, lessI_none]
  constructor
  · intro h j hj
    rw [bitB_or]
    cases hp : bitB p j
    · have := h j (by rw [bitB_less, hj, hp]; rfl)
      rw [this]; rfl
    · simp
  · intro h j hj
    rw [bitB_less, Bool.and_eq_true, Bool.not_eq_true'] at hj
    have := h j hj.1
    rw [bitB_or, hj.2, Bool.or_false] at this
    exact this
def jnI (zs : List Int) (s : Int) : Int := match (List.range zs.length).find? (jnB zs s) with | none => -1 | some c => (c : Int)
theorem jnI_at {zs : List Int} {s : Int} {c : Nat} (hc : c < zs.length) (hb : jnB zs s c = true) (hn : ∀ j, j < c → jnB zs s j = false) : jnI zs s = c := by
  have : (List.range zs.length).find? (jnB zs s) = some c := by
    rw [List.find?_range_eq_some]
    exact ⟨hb, by simpa using hc, fun j hj => by simpa using hn j hj⟩
  unfold jnI
  rw [this]
theorem jnI_none {zs : List Int} {s : Int} (hn : ∀ j, j < zs.length → jnB zs s j = false) : jnI zs s = -1 := by
  have : (List.range zs.length).find? (jnB zs s) = none := by
    rw [List.find?_eq_none]
    intro x hx
    rw [hn x (by simpa using hx)]
    simp
  unfold jnI
  rw [this]
theorem jnI_cases {zs : List Int} {s : Int} : (jnI zs s = -1 ∧ ∀ j, j < zs.length → jnB zs s j = false) ∨ ∃ c : Nat, jnI zs s = c ∧ c < zs.length ∧ jnB zs s c = true := by
  unfold jnI
  cases h : (List.range zs.length).find? (jnB zs s) with
  | none => exact .inl ⟨rfl, fun j hj => by
      have := List.find?_eq_none.1 h j (by simpa using hj)
      simpa using this⟩
  | some c => exact .inr ⟨c, rfl, by have := List.mem_of_find?_eq_some h; simpa using this, List.find?_some h⟩
theorem jnI_bd (zs : List Int) (s : Int) : -1 ≤ jnI zs s ∧ jnI zs s < zs.length := by
  rcases jnI_cases (zs := zs) (s := s) with h | ⟨c, h, hc, _⟩ <;> omega
/-- The join, -1 for none. -/
def joinI (zs : List Int) (a b : Nat) : Int := jnI zs (upR zs a b)
theorem joinI_bd (zs : List Int) (a b : Nat) : -1 ≤ joinI zs a b ∧ joinI zs a b < zs.length := jnI_bd _ _
def isIt (zs : List Int) (a : Int) : Bool := inB a 0 ((zs.length : Int) - 1)
def joinR (zs : List Int) (a b : Int) : Int := if vo zs && (isIt zs a && isIt zs b) then joinI zs a.toNat b.toNat else -1
def meetR (zs : List Int) (a b : Int) : Int := if vo zs && (isIt zs a && isIt zs b) then joinI (du zs) a.toNat b.toNat else -1

/-- The items with one item next below. -/
def snB (zs : List Int) (a : Nat) : Bool := popI (topsTo zs ((du zs)[a]?.getD 0) zs.length) == 1
def snTo (zs : List Int) : Nat → Int
  | 0 => 0
  | a + 1 => if snB zs a then orI (snTo zs a) (powI a) else snTo zs a
theorem snTo_yes {zs : List Int} {a : Nat} (h : snB zs a = true) : snTo zs (a + 1) = orI (snTo zs a) (powI a) := by simp [snTo, h]
theorem snTo_no {zs : List Int} {a : Nat} (h : snB zs a = false) : snTo zs (a + 1) = snTo zs a := by simp [snTo, h]
theorem snTo_bd (zs : List Int) : ∀ k : Nat, 0 ≤ snTo zs k ∧ snTo zs k < powI k
  | 0 => by simp [snTo, powI]
  | k + 1 => by
    have h := snTo_bd zs k
    have hp : powI (k : Int) < powI ((k + 1 : Nat) : Int) := powI_lt (by omega)
    unfold snTo
    split
    · exact orI_bd h.1 (by omega) (Int.le_of_lt (powI_pos _)) hp
    · omega
theorem snTo_bit (zs : List Int) (j : Nat) : ∀ k : Nat, bitB (snTo zs k) j = (decide (j < k) && snB zs j)
  | 0 => by simp [snTo, bitB_zero]
  | k + 1 => by
    have ih := snTo_bit zs j k
    cases hs : snB zs k
    · rw [snTo_no hs, ih]
      by_cases e : j = k
      · subst e; simp [hs]
      · have : (j < k + 1) ↔ (j < k) := by omega
        simp [this]
    · rw [snTo_yes hs, bitB_or, ih, bitB_pow]
      by_cases e : j = k
      · subst e; simp [hs]
      · have h1 : (j < k + 1) ↔ (j < k) := by omega
        have h2 : ¬ k = j := by omega
        simp [h1, h2]
def singlesR (zs : List Int) : Int := if vo zs then snTo zs zs.length else -1
/-- What is next below an item: as the model takes it, and the tops of all below it. -/
theorem next_below {zs : List Int} (h : VoP zs) {a : Nat} (ha : a < zs.length) : coverTo (du zs) a zs.length = topsTo zs ((du zs)[a]?.getD 0) zs.length := by
  have hd := du_sets h.sets
  have hb := coverTo_bd hd (a := a) (by rw [du_len]; exact ha) zs.length
  refine bitB_ext hb.1 (topsTo_bd _ _ _).1 fun j => ?_
  rw [Bool.eq_iff_iff, coverTo_bit, topsTo_bit, Bool.and_eq_true, List.all_eq_true, andI_zero]
  constructor
  · rintro ⟨h1, h2⟩
    refine ⟨by rw [du_bit h.sets] at h1; exact bit_none h1, h1, fun b hb => ?_⟩
    have hbn : b < zs.length := by rw [du_bit h.sets] at hb; exact bit_none hb
    have := h2 b (by simpa using hbn)
    rw [hb, du_bit h.sets] at this
    simpa using this
  · rintro ⟨h1, h2, h3⟩
    refine ⟨h2, fun y hy => ?_⟩
    cases hb : bitB ((du zs)[a]?.getD 0) y
    · rfl
    · have := h3 y hb
      rw [du_bit h.sets, this]
      rfl

/-- A set of just the items at or below all those at or above all of it. -/
def cutI (zs : List Int) (s : Int) : Int := comTo (du zs) (comTo zs s zs.length) zs.length
def cutB (zs : List Int) (s : Int) : Bool := cutI zs s == s
def cutsR (zs : List Int) : List Int := if vo zs then setsTo (cutB zs) (2 ^ zs.length) else []

/-- The place of an item of s. -/
def plN (s : Nat) (a : Nat) : Nat := (popI (andI (s : Int) (powI a - 1))).toNat
theorem plN_fin : ∀ s : Fin 64, ∀ a : Fin 7, (popI (andI (s.val : Int) (powI (a.val : Int) - 1))).toNat = ((List.range a.val).filter fun j => s.val.testBit j).length := by decide +kernel
theorem plN_is {s a : Nat} (hs : s < 64) (ha : a ≤ 6) : plN s a = (leftL a s).length := plN_fin ⟨s, hs⟩ ⟨a, by omega⟩
theorem leftL_split {n s a : Nat} (ha : a < n) (hb : s.testBit a = true) : ∃ t, leftL n s = leftL a s ++ a :: t := by
  refine ⟨((List.range (n - (a + 1))).map (fun x => a + 1 + x)).filter fun j => s.testBit j, ?_⟩
  unfold leftL
  have e : List.range n = List.range a ++ a :: (List.range (n - (a + 1))).map (fun x => a + 1 + x) := by
    have h1 : n = (a + 1) + (n - (a + 1)) := by omega
    conv => lhs; rw [h1, List.range_add, List.range_succ]
    simp
  rw [e, List.filter_append, List.filter_cons, if_pos hb]
theorem pl_at {n s a : Nat} (hs : s < 64) (hn : n ≤ 6) (ha : a < n) (hb : s.testBit a = true) : plN s a < (leftL n s).length ∧ (leftL n s)[plN s a]?.getD 0 = a := by
  obtain ⟨t, e⟩ := leftL_split ha hb
  rw [e, plN_is hs (by omega)]
  simp
theorem left_pop_fin : ∀ n : Fin 7, ∀ s : Fin 64, s.val < 2 ^ n.val → (popI (s.val : Int)).toNat = ((List.range n.val).filter fun j => s.val.testBit j).length := by decide +kernel
theorem left_pop {n s : Nat} (hn : n ≤ 6) (hs : s < 2 ^ n) : popI (s : Int) = (leftL n s).length := by
  have h64 := Nat.lt_of_lt_of_le hs (pow_le64 hn)
  have h1 := left_pop_fin ⟨n, by omega⟩ ⟨s, h64⟩ hs
  have h2 := (popI_bd (s := (s : Int)) (by omega) (by omega)).1
  simp only at h1
  unfold leftL
  omega
/-- The pairs of a list of which s has both. -/
def ptB (s : Int) (p : Nat × Nat) : Bool := bitB s p.1 && bitB s p.2
def ptP (s : Nat) (ps : List (Nat × Nat)) : List (Nat × Nat) := (ps.filter (ptB s)).map fun p => (plN s p.2, plN s p.1)
theorem ptP_yes {s : Nat} {ps : List (Nat × Nat)} {a b : Nat} (h1 : bitB s a = true) (h2 : bitB s b = true) : ptP s (ps ++ [(a, b)]) = ptP s ps ++ [(plN s b, plN s a)] := by
  simp [ptP, ptB, List.filter_append, h1, h2]
theorem ptP_no {s : Nat} {ps : List (Nat × Nat)} {a b : Nat} (h : bitB s a = false ∨ bitB s b = false) : ptP s (ps ++ [(a, b)]) = ptP s ps := by
  rcases h with h | h <;> simp [ptP, ptB, List.filter_append, h]
def partR (zs : List Int) (s : Int) : List Int := if vo zs && inB s 0 (powI zs.length - 1) then ind zs (leftL zs.length s.toNat) else []
theorem part_is {zs : List Int} (h : VoP zs) {s : Nat} (hs : s < 2 ^ zs.length) : downP (leftL zs.length s).length (ptP s (pairsL zs)) = ind zs (leftL zs.length s) := by
  have h6 := h.1
  have h64 := Nat.lt_of_lt_of_le hs (pow_le64 h6)
  have hi := leftL_inc zs s
  have hps : ∀ p ∈ ptP s (pairsL zs), p.1 < (leftL zs.length s).length ∧ p.2 < (leftL zs.length s).length := by
    intro p hp
    unfold ptP at hp
    rw [List.mem_map] at hp
    obtain ⟨⟨x, y⟩, hxy, rfl⟩ := hp
    rw [List.mem_filter] at hxy
    obtain ⟨h1, h2⟩ := hxy
    unfold ptB at h2
    rw [Bool.and_eq_true, bit_cast, bit_cast] at h2
    exact ⟨(pl_at h64 h6 (bit_lt hs h2.2) h2.2).1, (pl_at h64 h6 (bit_lt hs h2.1) h2.1).1⟩
  refine List.ext_getElem? fun i => ?_
  rcases Nat.lt_or_ge i (leftL zs.length s).length with hil | hil
  · have e1 : (downP (leftL zs.length s).length (ptP s (pairsL zs)))[i]? = some ((downP (leftL zs.length s).length (ptP s (pairsL zs)))[i]?.getD 0) := by
      rw [List.getElem?_eq_getElem (by rw [downP_len]; exact hil)]; rfl
    have e2 : (ind zs (leftL zs.length s))[i]? = some ((ind zs (leftL zs.length s))[i]?.getD 0) := by
      rw [List.getElem?_eq_getElem (by rw [ind_len]; exact hil)]; rfl
    rw [e1, e2]
    congr 1
    refine bitB_ext (downP_bd (fun p hp => (hps p hp).1) i).1 ?_ fun j => ?_
    · have := (ind_vo h hi).bd i (by rw [ind_len]; exact hil); exact this.1
    · rw [Bool.eq_iff_iff, downP_bit (fun p hp => (hps p hp).2), ind_bit hil]
      unfold ptP
      rw [List.mem_map]
      constructor
      · rintro ⟨⟨x, y⟩, hxy, e⟩
        rw [List.mem_filter] at hxy
        obtain ⟨h1, h2⟩ := hxy
        unfold ptB at h2
        rw [Bool.and_eq_true, bit_cast, bit_cast] at h2
        have hx := pl_at h64 h6 (bit_lt hs h2.1) h2.1
        have hy := pl_at h64 h6 (bit_lt hs h2.2) h2.2
        injection e with e3 e4
        rw [← e3, ← e4]
        exact ⟨hy.1, by rw [hx.2, hy.2]; exact (mem_pairsL.1 h1).2.2⟩
      · rintro ⟨hj, hb⟩
        have hx : s.testBit ((leftL zs.length s)[i]?.getD 0) = true ∧ (leftL zs.length s)[i]?.getD 0 < zs.length := by
          have := List.getElem_mem (l := leftL zs.length s) hil
          rw [List.getElem?_eq_getElem hil]
          unfold leftL at this ⊢
          rw [List.mem_filter] at this
          exact ⟨this.2, by simpa using this.1⟩
        have hy : s.testBit ((leftL zs.length s)[j]?.getD 0) = true ∧ (leftL zs.length s)[j]?.getD 0 < zs.length := by
          have := List.getElem_mem (l := leftL zs.length s) hj
          rw [List.getElem?_eq_getElem hj]
          unfold leftL at this ⊢
          rw [List.mem_filter] at this
          exact ⟨this.2, by simpa using this.1⟩
        refine ⟨((leftL zs.length s)[i]?.getD 0, (leftL zs.length s)[j]?.getD 0), ?_, ?_⟩
        · rw [List.mem_filter]
          refine ⟨mem_pairsL.2 ⟨hx.2, by omega, hb⟩, ?_⟩
          unfold ptB
          rw [Bool.and_eq_true, bit_cast, bit_cast]
          exact ⟨hx.1, hy.1⟩
        · have h1 := pl_at h64 h6 hx.2 hx.1
          have h2 := pl_at h64 h6 hy.2 hy.1
          have e1 := hi.at_inj h1.1 hil h1.2
          have e2 := hi.at_inj h2.1 hj h2.2
          simp only
          rw [e1, e2]
  · rw [List.getElem?_eq_none (by rw [downP_len]; exact hil), List.getElem?_eq_none (by rw [ind_len]; exact hil)]
end Go.Proofs.YtogiooecjfnkcaaDoor

/- The program's lineup: its making, what is free, all items; an item less. -/
namespace Go.Proofs.YtogiooecjfnkcaaDoor
open Go.RowKit Go.Shelf

/-- A lineup: the order turned round in block b, the map in block m. -/
def lineV (b m n : Nat) : Value := .agg #[.slice (some ⟨b, 0, none⟩) n n, .map (some m)]

theorem without_any (s j : Int) (w : World) (h0 : 0 ≤ s) (h1 : s < 64) (j0 : 0 ≤ j) (j1 : j ≤ 6) :
    Calls Tryd.prog 49 #[.int .i64 s, .int .i64 j] w fun e w' => e = .returned (.int .i64 (lessI s (powI j))) ∧ w = w' := by
  go_enter Tryd.func49, Tryd.ntmps49
  go_wp2
  go_ret
  have hp := powI_le6 j1
  have hq := powI_pos j
  exact ⟨ret_int (by
    have : wrap64 (2 ^ j.toNat) = powI j := IntWalk.wrap64_in _ ⟨by unfold powI at hq; omega, by unfold powI at hp; omega⟩
    rw [this]; exact bits_less h0 (by omega) (by omega) (by omega)), rfl⟩
theorem oall_any (A : Option Addr) (n c : Nat) (w : World) (h1 : n ≤ 6) :
    Calls Tryd.prog 58 #[.slice A n c] w fun e w' => e = .returned (.int .i64 (powI n - 1)) ∧ w = w' := by
  have hp := powI_le6 (n := (n : Int)) (by omega)
  have hq := powI_pos (n : Int)
  go_enter Tryd.func58, Tryd.ntmps58
  go_wp2
  go_ret
  exact ⟨ret_int (by
    have : wrap64 (2 ^ ((n : Int)).toNat) = powI n := IntWalk.wrap64_in _ ⟨by unfold powI at hq; omega, by unfold powI at hp; omega⟩
    simp only [Int.toNat_natCast] at this
    rw [this]; exact IntWalk.wrap64_in _ ⟨by omega, by omega⟩), rfl⟩
end Go.Proofs.YtogiooecjfnkcaaDoor

/- What all of a set have above them: the program's. -/
namespace Go.Proofs.YtogiooecjfnkcaaDoor
open Go.RowKit Go.Shelf
attribute [local go_sem] Oper.semAt_some
attribute [local go_sem, local simp] wide_fn

set_option maxRecDepth 100000 in
set_option maxHeartbeats 4000000 in
theorem atOrAbove_any (A : Option Addr) (n c : Nat) (zs : List Int) (s : Int) (hv : Sets zs) (w : World) (hA : Ints w w.heap.size A n zs) (h0 : 0 ≤ s) (h1 : s < powI n) :
    Calls Tryd.prog 46 #[.slice A n c, .int .i64 s] w fun e W' => e = .returned (.int .i64 (comTo zs s n)) ∧ Below w.heap.size w W' := by
  have hlen := Lib.hid hA.len
  have hn6 : n ≤ 6 := by have := hv.1; rw [hlen.out] at this; exact this
  have hpk : powI n ≤ 64 := powI_le6 (by omega)
  have hpp := powI_pos (n : Int)
  have H0 := Lib.hid (show powI n - 1 = comL zs [] by unfold comL; rw [hlen.out]; rfl)
  have H0b := Lib.hid (show (0 ≤ powI (n : Int) - 1 ∧ powI (n : Int) - 1 < 64) by omega)
  refine (callsIn_wide (n := 9)).1 ?_
  refine callsIn_of_wp_marks Tryd.func46 rfl trivial ?_ rfl
  simp only [Tryd.ntmps46, List.size_toArray, List.length_cons, List.length_nil, Nat.reduceAdd, Nat.reduceSub, Array.replicate_succ, Array.replicate_zero, List.push_toArray, List.append_toArray, List.nil_append, List.cons_append]
  gi_wp2_with (first
    | (gi_at_call 58; refine (callsIn_wide.2 (oall_any _ _ _ _ hn6)).mono ?_; rintro e w' ⟨rfl, rfl⟩)
    | (gi_at_call 48; refine (callsIn_wide.2 (each_any _ _)).mono ?_; rintro e w' ⟨rfl, rfl⟩))
  have bO := ((Boxed.new w 35 (.slice A n c)).alloc (.cells #[Value.int .i64 (powI n - 1)] 54)).alloc (.cells #[Value.int .i64 s] 54)
  have bT := (Boxed.new (w.alloc (.cells #[Value.slice A n c] 35)) 54 (.int .i64 (powI n - 1))).alloc (.cells #[Value.int .i64 s] 54)
  have bE := Boxed.new ((w.alloc (.cells #[Value.slice A n c] 35)).alloc (.cells #[Value.int .i64 (powI n - 1)] 54)) 54 (.int .i64 s)
  have hu0 : Upd (fun _ => False) w (((w.alloc (.cells #[Value.slice A n c] 35)).alloc (.cells #[Value.int .i64 (powI n - 1)] 54)).alloc (.cells #[Value.int .i64 s] 54)) := (((Upd.refl _ w).alloc _).alloc _).alloc _
  have hz0 : (((w.alloc (.cells #[Value.slice A n c] 35)).alloc (.cells #[Value.int .i64 (powI n - 1)] 54)).alloc (.cells #[Value.int .i64 s] 54)).heap.size = w.heap.size + 3 := by simp
  simp only [World.size_alloc] at bT bE
  obtain ⟨W0, hW0⟩ : ∃ W0, (((w.alloc (.cells #[Value.slice A n c] 35)).alloc (.cells #[Value.int .i64 (powI n - 1)] 54)).alloc (.cells #[Value.int .i64 s] 54)) = W0 := ⟨_, rfl⟩
  rw [hW0] at bO bT bE hu0 hz0 ⊢
  clear hW0
  have hA0 : Ints W0 w.heap.size A n zs := hA.below (hu0.toBelow (fun _ e => e.elim) (Nat.le_refl _))
  refine range_out (n := 9) (gf := 59) (lb := #[.pointer (some ⟨w.heap.size + 1 + 1, 0, none⟩)]) rfl (enters_of Tryd.func59 (by kernel_rfl) rfl) (encs := encI) (L := itemsL s)
    (fun k => k = w.heap.size + 1) (fun k e => by omega) (fun _ => rfl)
    (fun W1 l1 hu1 hl1 hl2 => each_iter s h0 (by omega) _ _ W1 (hu1.boxed bE (fun e => e)) (fun e => by omega))
    (fun pre D W => (0 ≤ comL zs pre ∧ comL zs pre < 64) ∧ Boxed W (w.heap.size + 1) 54 (.int .i64 (comL zs pre)) ∧ Upd (fun k => k = w.heap.size + 1) W0 W)
    (fun _ _ _ _ => False)
    (fun _ D X Y hs hu => ⟨hs.1, hu.boxed hs.2.1 (fun e => by omega), hs.2.2.trans' hu (fun i hi e => by omega)⟩)
    (fun _ _ _ _ _ hs _ => hs)
    ⟨by rw [← H0.out]; exact H0b.out, by rw [← H0.out]; exact bT, Upd.refl _ _⟩ ?owes ?done ?stop
  case owes =>
    rintro l1 pre x D1 W hl1 hl2 hDl hD1 - hpre K hK
    gi_wp2
    refine hK _ _ (Upd.refl _ _) ?_
    rintro Wb hWb - ⟨htb, bT1, hU⟩
    clear hK
    obtain ⟨hx6, hxb⟩ := mem_itemsTo.1 (hpre.subset (by simp : x ∈ pre ++ [x]))
    have hxn := bitB_lt h1 hxb
    have bO1 := hU.boxed bO (by omega)
    have hcO := bO1.cell
    obtain ⟨ab, off, rfl, hab, hc⟩ := hA0.at_ hxn
    have hcx := hU.cell (hc x hxn) (fun e => by simp at e; omega)
    have zx := hv.bd x (by rw [hlen.out]; exact hxn)
    have hua := atUp_bd hv (a := x) (by rw [hlen.out]; exact hxn)
    have hpz := powI_le6 (n := (zs.length : Int)) (by rw [hlen.out]; omega)
    have Hua := Lib.hid (show orI (zs[x]?.getD 0) (powI x) = atUp zs x from rfl)
    have hsb := hU.size
    have hcT := bT1.cell
    have hfT := bT1.frozen
    have hszb := hWb.size
    have Hn := Lib.hid (comL_snoc zs pre x)
    have hab2 := andI_bd (comL zs pre) (atUp zs x)
    have hwi : ∀ w, Calls Tryd.prog 47 #[.int .i64 (zs[x]?.getD 0), .int .i64 (x : Int)] w fun e w' => e = .returned (.int .i64 (atUp zs x)) ∧ w = w' := fun w => with_any _ _ _ (by omega) (by omega) (by omega) (by omega)
    have hand : bits .and .i64 (comL zs pre) (atUp zs x) = andI (comL zs pre) (atUp zs x) := bits_and (by omega) (by omega) (by omega) (by omega)
    clear hc
    generalize comL zs pre = cm at *
    generalize atUp zs x = ax at *
    gi_wp2
    refine region_tail_round 8 (by kernel_rfl) (by kernel_rfl) (by kernel_rfl) ?_
    simp only [List.take_succ_cons, List.take_zero, List.drop_succ_cons, List.drop_zero]
    repeat (gi_big_quiet_step ((first
      | (gi_at_call 47; exact quietIn_add (hwi _))
      | (gi_at_call 47; exact quietIn_left (hwi _)))))
    refine wpQuietIn_nil ?_
    intro _ hw'
    obtain ⟨nq, hw''⟩ := hw'
    subst hw''
    gi_wp2
    exact ⟨D1, ⟨by rw [Hn.out]; omega, by rw [Hn.out]; exact bT1.set _, (hU.drewN _).setCell (p := ⟨w.heap.size + 1, 0, none⟩) (.inr rfl) _⟩, ((Upd.refl _ _).drewN _).setCell (p := ⟨w.heap.size + 1, 0, none⟩) (.inr (.inl rfl)) _, fun k hk => .inl hk⟩
  case done =>
    rintro d D1 W hd ⟨htb, bT1, hU⟩ hD1 hKd
    have Ht := Lib.hid (comL_all (zs := zs) hn6 h1)
    have hcT := bT1.cell
    gi_wp2
    refine leaves_marks [d] _ ⟨by simp, fun b hb => ?_⟩ (fun W' hu' => ?_)
    · rw [List.mem_singleton.1 hb]
      exact hKd
    · exact ⟨.int .i64 (comL zs (itemsL s)), by simp [results, Tryd.f46, go_sem], ret_int Ht.out,
        (((hu0.mono fun _ _ e => e.elim).trans' hU (fun i hi e => by omega)).trans' hu' (fun i hi e => by simp at e; omega)).toBelow (R := fun _ => False) (fun _ e => e.elim) (Nat.le_refl _)⟩
  case stop =>
    rintro d D1 co pre W hd hpre h
    exact h.elim
end Go.Proofs.YtogiooecjfnkcaaDoor

/- What the row's condition gives a walk: the library's variable's cell. -/
namespace Go.Proofs.YtogiooecjfnkcaaDoor
open Go.RowKit

theorem etNamed : Tryd.prog.globalNamed "errors.errorType" = some 0 := by kernel_rfl
theorem etCut : (Tryd.prog.cutTypes.find? (·.1 == "internal/reflectlite.rtype")).map (·.2) = some 99 := by kernel_rfl
theorem etRow : ((List.range Tryd.prog.types.size).filter fun t => Tryd.prog.rowNamed t [101, 114, 114, 111, 114]) = [57] := by kernel_rfl
theorem etOfLaid {W : World} (h : laidMetH Tryd.prog [("errors.errorType", Rows.laid_errors_errorType)] W) : Et W := by
  have h' : laidMet Tryd.prog [] W ∧ handlesMet Tryd.prog [("errors.errorType", Rows.laid_errors_errorType)] W := h
  obtain ⟨name, u, ty, e1, e2, e3, e4, e5⟩ := h'.2 _ (List.mem_singleton.2 rfl)
  have en : name = [101, 114, 114, 111, 114] := (Option.some.inj e1).symm
  subst en
  obtain rfl := Option.some.inj (etCut.symm.trans e2)
  have hm : ty ∈ (List.range Tryd.prog.types.size).filter fun t => Tryd.prog.rowNamed t [101, 114, 114, 111, 114] := List.mem_filter.2 ⟨List.mem_range.2 e3, e4⟩
  rw [etRow] at hm
  obtain rfl := List.mem_singleton.1 hm
  have hh : typeHandle Tryd.prog 57 = .pointer (some ⟨1, 57, none⟩) := by kernel_rfl
  rw [hh] at e5
  have hc : W.cell? ⟨0, 0, none⟩ = some (.iface 99 (.agg #[.pointer (some ⟨1, 57, none⟩)])) := by simpa using World.var?_cell etNamed e5 0
  refine ⟨hc, ?_⟩
  rcases Nat.eq_zero_or_pos W.heap.size with h0 | h0
  · simp [World.cell?, h0] at hc
  · exact h0
end Go.Proofs.YtogiooecjfnkcaaDoor

/- A region that draws its order, in a round of a loop over a function, by the laws for plain machines: where nothing in it defers, and no round may outgrow. -/
namespace Go.Proofs.YtogiooecjfnkcaaDoor
open Go.RowKit

section
variable {n : Nat} {P : Program} {ops : Array Oper} {Q : Exit → Act → World → Prop} {md : Region.Mode} {S : World → Prop} {l₀ : Nat}
theorem rows_wide {row : String} {args : Array Value} {w : World} {R : Value → World → Prop} (h : Rows P row args w R) : RowsIn Fence.wide n P row args w R :=
  fun c cs _ => let ⟨v, w', r, s⟩ := h c cs; ⟨v, w', r, stepsIn_wide.2 s⟩
theorem oper_wide {o : Oper} {a : Act} {w : World} {K : Act → World → Prop} (h : o.wp P a w K Q) : o.wpIn Fence.wide n P a w K Q := by
  unfold Oper.wp at h
  refine ⟨fun _ _ => trivial, ?_⟩
  rw [show Fence.wide.round = none from rfl, Oper.semAt_none]
  generalize (execOp a.eval o).run P w = r at h ⊢
  have hd : Fence.wide.depth.isSome = true → 1 ≤ n := fun e => by cases e
  cases r with
  | ok x w' =>
    cases x with
    | value v => exact h
    | skip => exact h
    | defer d => exact h
    | enter f args => exact ⟨hd, callsIn_wide.2 h⟩
    | row row args => exact ⟨hd, rows_wide h⟩
    | _ => exact h.elim
  | halt x w' => cases x <;> exact h
theorem op_wide (hQ : ¬ LetsOut Q) {i : Nat} {a : Act} {w : World} {K K' : Act → World → Prop} (hK : ∀ a w, K a w → K' a w) (h : wpOp P ops Q i K a w) : wpOpIn Fence.wide n P ops Q i K' a w := by
  unfold wpOp at h
  unfold wpOpIn
  split
  · rename_i ho; simp only [ho] at h; exact hK _ _ h
  · rename_i o ho
    simp only [ho] at h
    split
    · rename_i hw
      simp only [hw, if_true] at h
      rcases h with h | h
      · exact Oper.wpIn_mono hK (oper_wide h)
      · exact absurd h.2 hQ
    · rename_i hw
      simp only [hw] at h
      exact ⟨fun _ _ => trivial, hK _ _ h⟩
theorem any_wide (hQ : ¬ LetsOut Q) : ∀ (fuel : Nat) (listed : Array Bool) (a : Act) (w : World), wpAny P md ops Q fuel listed a w → wpAnyIn Fence.wide n P md ops Q fuel listed a w
  | 0, _, _, _, h => h
  | fuel + 1, _, _, _, h => ⟨h.1, fun i hi => op_wide hQ (fun a w h' => any_wide hQ fuel _ a w h') (h.2 i hi)⟩
/-- The beginning, in a round: a condition S on the worlds met is shown of the world behind the draw, and handed on. -/
theorem region_held_round {id : Nat} {a : Act} {w : World} {l : List Oper} (hm : P.follows .mixedOrders = true) (hd : l.all noDefer = true) (hQ : ¬ LetsOut Q) (hS : S w.drew)
    (h : S w.drew → wpAnyH P .any l.toArray Q S l.toArray.size (Array.replicate l.toArray.size false) a w.drew) : (Code.region id l.toArray true).wpIn (Fence.wide.inRound l₀) n P Q a w :=
  wpIn_region_any hm (anyIn_round (fun _ o ho => noDefer_spec (List.all_eq_true.1 hd o (List.mem_of_getElem? (by simpa using ho)))) _ _ _ _ (any_wide hQ _ _ _ _ (wpAny_of_held _ _ _ _ (h hS))))
end

/-! A region whose last operation writes what an earlier one has read: the condition S is asked behind every operation but the last one, z, which waits for all. -/
section
variable {n : Nat} {P : Program} {ops : Array Oper} {Q : Exit → Act → World → Prop} {md : Region.Mode} {S : World → Prop} {z : Nat} {l₀ : Nat}
def anyT (P : Program) (md : Region.Mode) (ops : Array Oper) (Q : Exit → Act → World → Prop) (S : World → Prop) (z : Nat) : Nat → Array Bool → Act → World → Prop
  | 0, listed, a, w => Region.ready md ops listed = [] ∧ Q .normal a w
  | fuel + 1, listed, a, w => (Region.ready md ops listed = [] → Q .normal a w) ∧
    ∀ i ∈ Region.ready md ops listed, wpOp P ops Q i (fun a' w' => (i ≠ z → S w') ∧ anyT P md ops Q S z fuel (listed.setIfInBounds i true) a' w') a w
theorem any_of_T : ∀ (fuel : Nat) (listed : Array Bool) (a : Act) (w : World), anyT P md ops Q S z fuel listed a w → wpAny P md ops Q fuel listed a w
  | 0, _, _, _, h => h
  | fuel + 1, _, _, _, h => ⟨h.1, fun i hi => wpOp_mono (fun a' w' h' => any_of_T fuel _ a' w' h'.2) (h.2 i hi)⟩
/-- What may come up before the last one may be taken first, if it yields the same in every world met. -/
theorem anyT_first {i : Nat} {oi : Oper} {v : Value} (hi : ops[i]? = some oi) (hsel : ∀ (j : Nat) (o : Oper) cs b, ops[j]? = some o → o.op ≠ .select cs b)
    (hQ : ∀ c a w, Q (.panic c) (a.put oi.dst v) w → Q (.panic c) a w) (hs : Region.sinkB md ops z = true) (hc : Region.chainB md ops z = true) (hz : z < ops.size) (hiz : i < z) :
    ∀ (fuel : Nat) (listed : Array Bool) (a : Act) (w : World), HeadInv md ops z listed →
      (∀ j oj, ops[j]? = some oj → j ≠ i → listed.getD j true = false → (∀ e ∈ oj.after, Region.binds md e = true → e.on ≠ i) → oi.apart ops oj = true) →
      i ∈ Region.ready md ops listed → YieldsIf P ops S oi v a → S w →
      anyT P md ops Q S z fuel (listed.setIfInBounds i true) (a.put oi.dst v) w → anyT P md ops Q S z (fuel + 1) listed a w
  | fuel, listed, a, w, inv, hfree, hr, hy, hS, H => by
    have hun := (mem_ready.1 hr).1
    refine ⟨fun h => (by rw [h] at hr; cases hr), fun j hj => ?_⟩
    by_cases hji : j = i
    · rw [hji]; exact hy.wpOp hi hS ⟨fun _ => hS, H⟩
    · have hjz : j < z := by
        rcases Nat.lt_or_ge j z with h | h
        · exact h
        · exact absurd hj (tail_waits hs hc hz inv _ i rfl hiz hun j h)
      cases fuel with
      | zero =>
        have := ready_mono hj hji
        rw [H.1] at this
        cases this
      | succ fuel =>
        have h1 := H.2 j (ready_mono hj hji)
        obtain ⟨hjun, oj, hoj, hall⟩ := mem_ready.1 hj
        have hnot : ∀ e ∈ oj.after, Region.binds md e = true → e.on ≠ i := fun e he hb heq => by
          have h1 := hall e he hb
          rw [heq, getD_both hun] at h1
          cases h1
        have h2 := wpOp_putIf hoj (hfree j oj hoj hji hjun hnot) (fun cs b => hsel i oi cs b hi) (fun cs b => hsel j oj cs b hoj) hQ hy h1
        have hfree' : ∀ k ok, ops[k]? = some ok → k ≠ i → (listed.setIfInBounds j true).getD k true = false →
            (∀ e ∈ ok.after, Region.binds md e = true → e.on ≠ i) → oi.apart ops ok = true := fun k ok hk hki hkun hno => by
          refine hfree k ok hk hki ?_ hno
          by_cases hjk : j = k
          · rw [← hjk]; exact hjun
          · rw [getD_set_ne true hjk] at hkun; exact hkun
        refine wpOp_mono (fun a' w' h3 => ?_) h2
        have hS' := h3.2.1 (by omega)
        refine ⟨fun _ => hS', anyT_first hi hsel hQ hs hc hz hiz fuel (listed.setIfInBounds j true) a' w' (inv.set hj hjz) hfree' (ready_mono hr (Ne.symm hji)) h3.1 hS' ?_⟩
        rw [Array.setIfInBounds_comm _ _ hji]
        exact h3.2.2
/-- The state of a walk through the head, as a Bool. -/
def headB (md : Region.Mode) (ops : Array Oper) (z : Nat) (listed : Array Bool) : Bool :=
  listed.size == ops.size && ((List.range ops.size).all (fun j => !(listed.getD j false) || match ops[j]? with | some o => o.after.all (fun e => !(Region.binds md e) || listed.getD e.on false) | none => true) &&
    (List.range ops.size).all fun t => decide (t < z) || !(listed.getD t true))
theorem headB_inv {listed : Array Bool} (h : headB md ops z listed = true) : HeadInv md ops z listed := by
  unfold headB at h
  rw [Bool.and_eq_true, Bool.and_eq_true, List.all_eq_true, List.all_eq_true, beq_iff_eq] at h
  refine ⟨h.1, fun j oj hj hl e he hb => ?_, fun t ht htn => ?_⟩
  · have := h.2.1 j (by simpa using (Array.getElem?_eq_some_iff.1 hj).1)
    rw [hj, hl] at this
    simp only [Bool.not_true, Bool.false_or] at this
    rw [Array.all_eq_true_iff_forall_mem] at this
    have h2 := this e he
    rw [hb] at h2
    simpa using h2
  · have := h.2.2 t (by simpa using htn)
    have hlt : ¬ t < z := by omega
    simpa [hlt] using this
theorem anyT_take {i : Nat} {oi : Oper} {v : Value} {fuel : Nat} {listed : Array Bool} {a : Act} {w : World} (hi : ops[i]? = some oi)
    (hc : (Region.noSelect ops && Region.sinkB md ops z && Region.chainB md ops z && decide (z < ops.size) && decide (i < z) && headB md ops z listed && Region.free md ops listed i && (Region.ready md ops listed).contains i) = true)
    (hQ : ∀ c a w, Q (.panic c) (a.put oi.dst v) w → Q (.panic c) a w) (hy : YieldsIf P ops S oi v a) (hS : S w)
    (h : anyT P md ops Q S z fuel (listed.setIfInBounds i true) (a.put oi.dst v) w) : anyT P md ops Q S z (fuel + 1) listed a w := by
  simp only [Bool.and_eq_true, decide_eq_true_eq] at hc
  obtain ⟨⟨⟨⟨⟨⟨⟨h1, h2⟩, h3⟩, h4⟩, h5⟩, h6⟩, h7⟩, h8⟩ := hc
  exact anyT_first hi (Region.noSelect_spec h1) hQ h2 h3 h4 h5 fuel listed a w (headB_inv h6) (Region.free_spec hi h7) (by simpa using h8) hy hS h
/-- The only one that may come up: it is carried out. -/
theorem anyT_one {i : Nat} {o : Oper} {fuel : Nat} {listed : Array Bool} {a : Act} {w : World} (hr : Region.ready md ops listed = [i]) (ho : ops[i]? = some o)
    (h : ∀ K' : Act → World → Prop, Shut (∀ a w, (i ≠ z → S w) → anyT P md ops Q S z fuel (listed.setIfInBounds i true) a w → K' a w) → if Region.wanted o (yielded ops a.tmps) = true then Oper.wp P o a w K' Q else K' (a.put o.dst undef) w) :
    anyT P md ops Q S z (fuel + 1) listed a w :=
  ⟨fun h0 => (by rw [hr] at h0; cases h0), fun j hj => by
    rw [hr] at hj
    obtain rfl := List.mem_singleton.1 hj
    exact wpOp_step ho (fun K' hK => h K' (fun a w hS hW => hK a w ⟨hS, hW⟩))⟩
theorem anyT_done {listed : Array Bool} {a : Act} {w : World} (hr : Region.ready md ops listed = []) (h : Q .normal a w) : ∀ fuel, anyT P md ops Q S z fuel listed a w
  | 0 => ⟨hr, h⟩
  | _ + 1 => ⟨fun _ => h, by rw [hr]; simp⟩
theorem region_T_round {id : Nat} {a : Act} {w : World} {l : List Oper} (z : Nat) (hm : P.follows .mixedOrders = true) (hd : l.all noDefer = true) (hQ : ¬ LetsOut Q)
    (h : anyT P .any l.toArray Q S z l.toArray.size (Array.replicate l.toArray.size false) a w.drew) : (Code.region id l.toArray true).wpIn (Fence.wide.inRound l₀) n P Q a w :=
  wpIn_region_any hm (anyIn_round (fun _ o ho => noDefer_spec (List.all_eq_true.1 hd o (List.mem_of_getElem? (by simpa using ho)))) _ _ _ _ (any_wide hQ _ _ _ _ (any_of_T _ _ _ _ h)))
theorem region_T {id : Nat} {a : Act} {w : World} {l : List Oper} (z : Nat) (hm : P.follows .mixedOrders = true)
    (h : anyT P .any l.toArray Q S z l.toArray.size (Array.replicate l.toArray.size false) a w.drew) : (Code.region id l.toArray true).wp P Q a w :=
  wp_region_any hm (any_of_T _ _ _ _ h)
end
end Go.Proofs.YtogiooecjfnkcaaDoor

/- Fractions without a common factor: the model's and the program's. -/
namespace Go.Proofs.YtogiooecjfnkcaaDoor
open Go.RowKit Go.Shelf

theorem results_cell_row2 {P : Program} {fn : Func} {p q : Tmp} {ty : TypeId} (h : fn.results = #[.cell p ty, .tmp q]) (tmps : Array Value) (w : World) (g : Nat) (t : TypeId) (cs : Array Value) (fr : Nat × Nat) (d : TypeDesc) (v : Value)
    (hp : tmps.getD p undef = .pointer (some ⟨g, 0, none⟩)) (hq : tmps.getD q undef = v) (hg : w.heap[g]? = some (.cells cs t fr))
    (hu : P.underlying ty = some d) (hd : (match d with | .struct _ | .array _ _ => true | _ => false) = true) (hi : (P.info? ty).map (·.size) = some cs.size) :
    (results fn tmps).run P w = .ok (.tuple #[.agg cs, v]) w := by
  have hp' : tmps[p]?.getD undef = .pointer (some ⟨g, 0, none⟩) := by simpa using hp
  have hq' : tmps[q]?.getD undef = v := by simpa using hq
  simp [results, h, hp', hq', asAddr, run_loadVar_row w g t ty cs fr d hg hu hd hi]

theorem wrap_nat {x : Int} {k : Nat} (h : x = (k : Int)) (hk : k ≤ 1000000) : IntKind.i64.wrap x = x := by rw [IntKind.wrap_i64]; omega

/-- A fraction, as a struct. -/
def fracV (p q : Nat) : Value := .agg #[.int .i64 (p : Int), .int .i64 (q : Int)]

end Go.Proofs.YtogiooecjfnkcaaDoor

/- The arguments of the laws, opened and shut: lists of numbers. -/
namespace Go.Proofs.YtogiooecjfnkcaaDoor
open Go.ChangeShapes Go.WideShapes Go.ChangeAt Go.RowKit
set_option linter.unusedVariables false

section
variable {H : Type} {enc : TypeId × Value → H} {P : Program}
/-- The row's last step where the call leaves all that lay as it lay. -/
theorem post_of_below {f : Func} {s : ChangeSpec} {apart fresh handsOn again : Bool} {W W' : World} {args : Array Value} {v : Value} {ds gs : List (DataW H)} {before pa pv : List MemPlace}
    (hW : DataW.Whole enc P f.params.toList s.vars apart W args.toList ds gs before)
    (hres : ∀ (b : Nat) (sp : Nat → Bool) (hd : Bool), DataW.TrodAll enc P W' b sp hd f.resultTypes.toList (v.resultList f.resultTypes.size) (s.fn H (ds ++ gs)).results [])
    (hargs : ∀ sp : Nat → Bool, (∀ p ∈ before, sp p.block = true) → DataW.TrodAll enc P W' 0 sp true f.params.toList args.toList (s.fn H (ds ++ gs)).args pa)
    (hvars : ∀ sp : Nat → Bool, (∀ p ∈ before, sp p.block = true) → DataW.TrodVars enc P W' sp s.vars (s.fn H (ds ++ gs)).vars pv)
    (hps : before = pa ++ pv) (hb : Below W.heap.size W W')
    (hok : ∀ (j : Nat) (t : TypeId) (r : Value), f.resultTypes[j]? = some t → (v.resultList f.resultTypes.size)[j]? = some r → Value.okWide P W' .any 0 t r) :
    s.post enc P f apart fresh handsOn again W args v W' := by
  have hlt : ∀ p ∈ before, p.block < W.heap.size := fun p hp => hW.lt p hp
  have hold : ∀ p ∈ before, (fun b => decide (b < W.heap.size)) p.block = true := fun p hp => by simpa using hlt p hp
  refine ⟨ds, gs, before, [], pa, pv, hW, hres _ _ _, hargs _ hold, hvars _ hold, World.keptBut_mono (fun p hp => ⟨hp, ?_⟩) (hb.frame (· ∈ before)), fun _ => ?_⟩
  · rw [hps, List.mem_append] at hp
    exact Or.inr hp
  · obtain ⟨_, _, _, _, _, hz, hn⟩ := hW
    refine ⟨hok, _, _, ([] ++ pa) ++ pv, ⟨[] ++ pa, pv, trodAll_append (hargs _ (fun _ _ => rfl)) (hres _ _ _), hvars _ (fun _ _ => rfl), rfl, ?_, ?_⟩, ?_⟩
    · intro b off hp
      have hin : MemPlace.cell b off ∈ before := by rw [hps]; simpa using hp
      rw [hb.frozen (hlt _ hin)]
      exact hz b off hin
    · intro ha
      have := hn ha
      rw [hps] at this
      simpa using this
    · intro p hp _
      rw [hps]
      simpa using hp
end

theorem own : ownKnob Tryd.prog.godebug = none := by kernel_rfl
theorem cellsInt : Tryd.prog.cellsOf 3 = 1 := by kernel_rfl

theorem cell_lt {w : World} {a : Addr} {v : Value} (h : w.cell? a = some v) : a.block < w.heap.size := by
  obtain ⟨o, ho, _⟩ := cells_of_cell h
  exact (Array.getElem?_eq_some_iff.1 ho).1
theorem block_of_add (a : Addr) (n : Nat) : (a.add n).block = a.block := by unfold Addr.add; split <;> rfl

section
variable {H : Type} {enc : TypeId × Value → H}
set_option maxRecDepth 100000 in
/-- A list of numbers that comes in: it reads as numbers, and reads again so in whatever world that keeps what lay. -/
theorem arg_ints {W : World} {v : Value} {d : DataW H} {p : List MemPlace} {base : Nat} (hok : Value.okWide Tryd.prog W .any base 22 v)
    (h : DataW.Trod enc Tryd.prog W 0 (fun _ => true) true 22 v d p) :
    ∃ (A : Option Addr) (n c : Nat) (zs : List Int), v = .slice A n c ∧ Ints W W.heap.size A n zs ∧ (∀ x ∈ zs, (Lit.int .i64 x).wf = true) ∧
      ∀ (W' : World), Below W.heap.size W W' → ∀ sp : Nat → Bool, (∀ q ∈ p, sp q.block = true) → DataW.Trod enc Tryd.prog W' 0 sp true 22 v d p := by
  obtain ⟨a0, len, cap, rfl⟩ := okWide_slice Tryd.underlying22 hok
  obtain ⟨fuel, hf⟩ := h
  rcases open_ints Tryd.underlying22 Tryd.underlying3 cellsInt hf with ⟨hcs, hx⟩ | ⟨a, len', cap', zs, hcs, _, hl, hm, hz, hx, hcell, hwz⟩
  · simp [Value.cells] at hcs
    obtain ⟨rfl, rfl, rfl⟩ := hcs
    simp only [Prod.mk.injEq] at hx
    obtain ⟨rfl, rfl⟩ := hx
    exact ⟨none, 0, 0, [], rfl, Ints.nil _ _ _, (fun _ hx => by cases hx), fun W' hb sp _ => shut_slice_nil Tryd.underlying22⟩
  · simp [Value.cells] at hcs
    obtain ⟨rfl, rfl, rfl⟩ := hcs
    simp only [Prod.mk.injEq] at hx
    obtain ⟨rfl, rfl⟩ := hx
    simp only [if_true] at hz
    have hlt : ∀ j, j < zs.length → a.block < W.heap.size := fun j hj => by
      have := cell_lt (hcell j hj)
      rwa [block_of_add] at this
    refine ⟨some a, len, cap, zs.take len, rfl, ⟨by simp; omega, fun hn => ?_⟩, fun x hx => hwz x (List.mem_of_mem_take hx), fun W' hb sp hsp => ?_⟩
    · obtain ⟨b, off, spot⟩ := a
      have hspot : spot = none := by simpa [Addr.add] using World.cell?_spot (hcell 0 (by omega))
      subst hspot
      refine ⟨b, off, rfl, hlt 0 (by omega), fun j hj => ?_⟩
      rw [← add_plain, hcell j (by omega)]
      simp [hj]
    · by_cases hz0 : zs.length = 0
      · have hc0 : cap = 0 := by omega
        have hl0 : len = 0 := by omega
        subst hc0; subst hl0
        have t0 := shut_ints (enc := enc) (w := W') (base := 0) (spare := sp) (held := true) (a := a) (len := 0) (cap := 0) (zs := zs) 0 Tryd.underlying22 Tryd.underlying3 cellsInt (Nat.zero_le _) (Nat.le_refl _) hm (by simp [hz0]) (fun j hj => by omega) hwz
        exact ⟨2, by simpa [Value.cells] using t0⟩
      · have hspb : sp a.block = true := by
          have := hsp (.cell a.block a.off) (MemPlace.mem_row.2 ⟨0, by omega, by simp⟩)
          exact this
        have t0 := shut_ints (enc := enc) (w := W') (base := 0) (spare := sp) (held := true) (a := a) (len := len) (cap := cap) (zs := zs) 0 Tryd.underlying22 Tryd.underlying3 cellsInt (Nat.zero_le _) hl hm (by simp [hspb, hz]) (fun j hj => by
          rw [hb.cell (by rw [block_of_add]; exact hlt j hj)]; exact hcell j hj) hwz
        exact ⟨2, by simpa [Value.cells] using t0⟩
end
end Go.Proofs.YtogiooecjfnkcaaDoor

/- Joins and meets: the program's. -/
namespace Go.Proofs.YtogiooecjfnkcaaDoor
open Go.RowKit Go.Shelf
attribute [local go_sem] Oper.semAt_some
attribute [local go_sem, local simp] wide_fn

section
variable {n : Nat} {P : Program} {ops : Array Oper} {Q : Exit → Act → World → Prop} {S : World → Prop}
theorem region_T_wide {id : Nat} {a : Act} {w : World} {l : List Oper} (z : Nat) (hm : P.follows .mixedOrders = true) (hQ : ¬ LetsOut Q)
    (h : anyT P .any l.toArray Q S z l.toArray.size (Array.replicate l.toArray.size false) a w.drew) : (Code.region id l.toArray true).wpIn Fence.wide n P Q a w :=
  wpIn_region_any hm (any_wide hQ _ _ _ _ (any_of_T _ _ _ _ h))
variable {md : Region.Mode} {z : Nat}
/-- Two may come up: both ways. -/
theorem anyT_two {i j : Nat} {oi oj : Oper} {fuel : Nat} {listed : Array Bool} {a : Act} {w : World} (hr : Region.ready md ops listed = [i, j]) (hoi : ops[i]? = some oi) (hoj : ops[j]? = some oj)
    (h1 : ∀ K' : Act → World → Prop, Shut (∀ a w, (i ≠ z → S w) → anyT P md ops Q S z fuel (listed.setIfInBounds i true) a w → K' a w) → if Region.wanted oi (yielded ops a.tmps) = true then Oper.wp P oi a w K' Q else K' (a.put oi.dst undef) w)
    (h2 : ∀ K' : Act → World → Prop, Shut (∀ a w, (j ≠ z → S w) → anyT P md ops Q S z fuel (listed.setIfInBounds j true) a w → K' a w) → if Region.wanted oj (yielded ops a.tmps) = true then Oper.wp P oj a w K' Q else K' (a.put oj.dst undef) w) :
    anyT P md ops Q S z (fuel + 1) listed a w :=
  ⟨fun h0 => (by rw [hr] at h0; cases h0), fun k hk => by
    rw [hr] at hk
    rcases List.mem_cons.1 hk with rfl | hk
    · exact wpOp_step hoi (fun K' hK => h1 K' (fun a w hS hW => hK a w ⟨hS, hW⟩))
    · obtain rfl := List.mem_singleton.1 hk
      exact wpOp_step hoj (fun K' hK => h2 K' (fun a w hS hW => hK a w ⟨hS, hW⟩))⟩
end

/-- What join gives: the item, or the error that it lacks. -/
def joinV (zs : List Int) (a b : Nat) : Value := if joinI zs a b < 0 then .tuple #[.int .i64 0, .iface 67 (.agg #[.int .i64 (a : Int), .int .i64 (b : Int)])] else .tuple #[.int .i64 (joinI zs a b), .nilIface]

set_option maxRecDepth 100000 in
set_option maxHeartbeats 8000000 in
theorem ojoin_any (A : Option Addr) (n c : Nat) (zs : List Int) (a b : Nat) (hv : Sets zs) (w : World) (hA : Ints w w.heap.size A n zs) (ha : a < n) (hb : b < n) :
    Calls Tryd.prog 28 #[.slice A n c, .int .i64 (a : Int), .int .i64 (b : Int)] w fun e W' => e = .returned (joinV zs a b) ∧ Below w.heap.size w W' := by
  have hlen := Lib.hid hA.len
  have hn6 : n ≤ 6 := by have := hv.1; rw [hlen.out] at this; exact this
  have hpk : powI n ≤ 64 := powI_le6 (by omega)
  refine (callsIn_wide (n := 9)).1 ?_
  refine callsIn_of_wp_marks Tryd.func28 rfl trivial ?_ rfl
  simp only [Tryd.ntmps28, List.size_toArray, List.length_cons, List.length_nil, Nat.reduceAdd, Nat.reduceSub, Array.replicate_succ, Array.replicate_zero, List.push_toArray, List.append_toArray, List.nil_append, List.cons_append]
  have Ht2 := Lib.hid (com_two hv (a := a) (b := b) (by rw [hlen.out]; exact ha) (by rw [hlen.out]; exact hb))
  rw [hlen.out] at Ht2
  have hub := upR_bd hv (a := a) (b := b) (by rw [hlen.out]; exact ha)
  rw [hlen.out] at hub
  have h2b := twoS_bd ha hb
  have hpa := orI_bd (a := 0) (b := powI a) (n := n) (Int.le_refl _) (powI_pos _) (Int.le_of_lt (powI_pos _)) (powI_lt ha)
  have hw1 := fun w => with_any 0 (a : Int) w (by omega) (by omega) (by omega) (by omega)
  have hw2 : ∀ w, Calls Tryd.prog 47 #[.int .i64 (orI 0 (powI a)), .int .i64 (b : Int)] w fun e w' => e = .returned (.int .i64 (twoS a b)) ∧ w = w' := fun w => with_any _ _ w (by omega) (by omega) (by omega) (by omega)
  gi_wp2_with fail
  have bO := ((Boxed.new w 35 (.slice A n c)).alloc (.cells #[Value.int .i64 0] 3)).alloc (.cells #[Value.nilIface] 57)
  have bR := (Boxed.new (w.alloc (.cells #[Value.slice A n c] 35)) 3 (.int .i64 0)).alloc (.cells #[Value.nilIface] 57)
  have bX := Boxed.new ((w.alloc (.cells #[Value.slice A n c] 35)).alloc (.cells #[Value.int .i64 0] 3)) 57 .nilIface
  have hu0 : Upd (fun _ => False) w (((w.alloc (.cells #[Value.slice A n c] 35)).alloc (.cells #[Value.int .i64 0] 3)).alloc (.cells #[Value.nilIface] 57)) := (((Upd.refl _ w).alloc _).alloc _).alloc _
  have hz0' : (((w.alloc (.cells #[Value.slice A n c] 35)).alloc (.cells #[Value.int .i64 0] 3)).alloc (.cells #[Value.nilIface] 57)).heap.size = w.heap.size + 3 := by simp
  simp only [World.size_alloc] at bR bX
  obtain ⟨W0, hW0⟩ : ∃ W0, (((w.alloc (.cells #[Value.slice A n c] 35)).alloc (.cells #[Value.int .i64 0] 3)).alloc (.cells #[Value.nilIface] 57)) = W0 := ⟨_, rfl⟩
  rw [hW0] at bO bR bX hu0 hz0' ⊢
  clear hW0
  obtain ⟨hz0, hz0b⟩ : w.heap.size + 3 ≤ W0.heap.size ∧ W0.heap.size ≤ w.heap.size + 3 := by omega
  clear hz0'
  have hA0 : Ints W0 w.heap.size A n zs := hA.below (hu0.toBelow (fun _ e => e.elim) (Nat.le_refl _))
  rename_i Q' K hK
  have key : ∀ (t : Nat) (W1 : World), W0.heap.size ≤ t → t < W1.heap.size → Upd (fun _ => False) W0 W1 → Boxed W1 t 54 (.int .i64 (upR zs a b)) → K { tmps := #[.slice A n c, .int .i64 (a : Int), .int .i64 (b : Int), .pointer (some ⟨w.heap.size, 0, none⟩), undef, undef, .pointer (some ⟨w.heap.size + 1, 0, none⟩), .pointer (some ⟨w.heap.size + 1 + 1, 0, none⟩), .pointer (some ⟨t, 0, none⟩), undef, .slice A n c, .int .i64 (a : Int), .int .i64 (orI 0 (powI a)), .int .i64 (b : Int), .int .i64 (twoS a b), .int .i64 (upR zs a b), undef, undef, undef, undef, undef, undef, undef, undef, undef, undef, undef, undef, undef, undef, undef, undef], defers := [] } W1 := by
    intro t W1 ht1 ht2 hU1 bC
    refine hK _ _ ?_
    clear hK
    have bO1 := hU1.boxed bO (fun e => e)
    have bR1 := hU1.boxed bR (fun e => e)
    have bX1 := hU1.boxed bX (fun e => e)
    have z1 := hU1.size
    have hcC1 := bC.cell
    gi_wp2_with (gi_at_call 48; refine (callsIn_wide.2 (each_any _ _)).mono ?_; rintro e w' ⟨rfl, rfl⟩)
    clear hcC1
    have bO2 := bO1.alloc (.cells #[Value.int .i64 (upR zs a b)] 54)
    have bR2 := bR1.alloc (.cells #[Value.int .i64 (upR zs a b)] 54)
    have bX2 := bX1.alloc (.cells #[Value.int .i64 (upR zs a b)] 54)
    have bC2 := bC.alloc (.cells #[Value.int .i64 (upR zs a b)] 54)
    have bE := Boxed.new W1 54 (.int .i64 (upR zs a b))
    have hu1 : Upd (fun _ => False) W0 (W1.alloc (.cells #[Value.int .i64 (upR zs a b)] 54)) := hU1.alloc _
    have hz1' : (W1.alloc (.cells #[Value.int .i64 (upR zs a b)] 54)).heap.size = W1.heap.size + 1 := by simp
    obtain ⟨Y, hY⟩ : ∃ Y, W1.heap.size = Y := ⟨_, rfl⟩
    rw [hY] at z1 ht2 bE hz1' ⊢
    obtain ⟨V0, hV0⟩ : ∃ V0, (W1.alloc (.cells #[Value.int .i64 (upR zs a b)] 54)) = V0 := ⟨_, rfl⟩
    rw [hV0] at bO2 bR2 bX2 bC2 bE hu1 hz1' ⊢
    clear hV0 hY bO1 bR1 bX1 bC hU1
    obtain ⟨hz1, hz1b⟩ : Y + 1 ≤ V0.heap.size ∧ V0.heap.size ≤ Y + 1 := by omega
    clear hz1'
    have hA1 : Ints V0 w.heap.size A n zs := hA0.below (hu1.toBelow (fun _ e => e.elim) (Nat.le_refl _) |>.mono (by omega))
    refine range_out (n := 9) (gf := 59) (lb := #[.pointer (some ⟨Y, 0, none⟩)]) rfl (enters_of Tryd.func59 (by kernel_rfl) rfl) (encs := encI) (L := itemsL (upR zs a b))
      (fun k => k = w.heap.size + 1 ∨ k = w.heap.size + 1 + 1) (fun k e => by omega) (fun _ => rfl)
      (fun W1 l1 hu1 hl1 hl2 => each_iter _ hub.1 (by omega) _ _ W1 (hu1.boxed bE (fun e => e)) (fun e => by omega))
      (fun pre D W => (∀ x ∈ pre, lessI (upR zs a b) (atUp zs x) ≠ 0) ∧ Boxed W (w.heap.size + 1) 3 (.int .i64 0) ∧ Boxed W (w.heap.size + 1 + 1) 57 .nilIface ∧ Upd (fun k => k = w.heap.size + 1 ∨ k = w.heap.size + 1 + 1) V0 W)
      (fun co pre D W => co = .ret ∧ (∃ x : Nat, joinI zs a b = x ∧ Boxed W (w.heap.size + 1) 3 (.int .i64 (x : Int))) ∧ Boxed W (w.heap.size + 1 + 1) 57 .nilIface ∧ Upd (fun k => k = w.heap.size + 1 ∨ k = w.heap.size + 1 + 1) V0 W)
      (fun s D X Z hs hu => ⟨hs.1, hu.boxed hs.2.1 (fun e => by omega), hu.boxed hs.2.2.1 (fun e => by omega), hs.2.2.2.trans' hu (fun i hi e => by omega)⟩)
      (fun co s D X Z hs hu => ⟨hs.1, hs.2.1.imp (fun x hx => ⟨hx.1, hu.boxed hx.2 (fun e => by omega)⟩), hu.boxed hs.2.2.1 (fun e => by omega), hs.2.2.2.trans' hu (fun i hi e => by omega)⟩)
      ⟨(fun x hx => by cases hx), bR2, bX2, Upd.refl _ _⟩ ?owes ?done ?stop
    case owes =>
      rintro l1 pre x D1 W hl1 hl2 hDl hD1 - hpre K hK
      gi_wp2
      refine hK _ _ (Upd.refl _ _) ?_
      rintro Wb hWb - ⟨hall, bRb, bXb, hU⟩
      clear hK
      have hsz := hU.size
      obtain ⟨hx6, hxb⟩ := mem_itemsTo.1 (hpre.subset (by simp : x ∈ pre ++ [x]))
      have hxn := bitB_lt hub.2 hxb
      have hcO := (hU.boxed bO2 (by omega)).cell
      have hcC := (hU.boxed bC2 (by omega)).cell
      obtain ⟨ab, off, rfl, hab, hc⟩ := hA1.at_ hxn
      have hcx := hU.cell (hc x hxn) (fun e => by simp at e; omega)
      have zx := hv.bd x (by rw [hlen.out]; exact hxn)
      have hcR := bRb.cell
      have hfR := bRb.frozen
      have hcX := bXb.cell
      have hfX := bXb.frozen
      have hszb := hWb.size
      clear hc
      have hlb := lessI_bd (upR zs a b) (powI x)
      have hwo := fun w => without_any (upR zs a b) (x : Int) w (by omega) (by omega) (by omega) (by omega)
      have hwi := fun w => within_any (lessI (upR zs a b) (powI x)) (zs[x]?.getD 0) w (by omega) (by omega) (by omega) (by omega)
      have Hll := Lib.hid (less_less (upR zs a b) (powI x) (zs[x]?.getD 0))
      have Hat := Lib.hid (show orI (zs[x]?.getD 0) (powI x) = atUp zs x from rfl)
      cases hb : (lessI (lessI (upR zs a b) (powI x)) (zs[x]?.getD 0) == 0)
      · have HF := Lib.hid (show lessI (upR zs a b) (atUp zs x) ≠ 0 by
          intro e
          have := Hll.out
          rw [Hat.out, e, hb] at this
          cases this)
        rw [hb] at hwi
        gi_wp2
        refine region_quiet_round (by kernel_rfl) (by kernel_rfl) (by kernel_rfl) ?_
        repeat (gi_big_quiet_step ((first
          | (gi_at_call 49; exact quietIn_add (hwo _))
          | (gi_at_call 49; exact quietIn_left (hwo _))
          | (gi_at_call 50; exact quietIn_add (hwi _))
          | (gi_at_call 50; exact quietIn_left (hwi _)))))
        refine wpQuietIn_nil ?_
        intro _ hw'
        obtain ⟨nq, hw''⟩ := hw'
        subst hw''
        gi_wp2
        exact ⟨D1, ⟨fun y hy => by rcases List.mem_append.1 hy with hy | hy
                                   · exact hall y hy
                                   · rw [List.mem_singleton.1 hy]; exact HF.out, bRb, bXb, hU.drewN _⟩, (Upd.refl _ _).drewN _, fun k hk => .inl hk⟩
      · have HJ := Lib.hid (show joinI zs a b = x by
          have h2 := Hll.out
          rw [Hat.out, hb] at h2
          refine jnI_at (by rw [hlen.out]; exact hxn) (show jnB zs (upR zs a b) x = true by unfold jnB; rw [hxb, ← h2]; rfl) fun j hj => ?_
          cases e : jnB zs (upR zs a b) j
          · rfl
          · exfalso
            unfold jnB at e
            rw [Bool.and_eq_true, beq_iff_eq] at e
            refine hall j ?_ e.2
            have hjm := (mem_itemsL (by omega)).2 e.1
            obtain ⟨t', ht'⟩ := hpre
            rw [← ht', List.append_assoc] at hjm
            have hs := itemsL_sorted (upR zs a b)
            rw [← ht', List.append_assoc, List.pairwise_append] at hs
            rcases List.mem_append.1 hjm with hjm | hjm
            · exact hjm
            · simp only [List.singleton_append, List.mem_cons] at hjm
              have h5 := hs.2.1
              simp only [List.singleton_append, List.pairwise_cons] at h5
              rcases hjm with hjm | hjm
              · omega
              · have := h5.1 j hjm; omega)
        rw [hb] at hwi
        gi_wp2
        refine region_quiet_round (by kernel_rfl) (by kernel_rfl) (by kernel_rfl) ?_
        repeat (gi_big_quiet_step ((first
          | (gi_at_call 49; exact quietIn_add (hwo _))
          | (gi_at_call 49; exact quietIn_left (hwo _))
          | (gi_at_call 50; exact quietIn_add (hwi _))
          | (gi_at_call 50; exact quietIn_left (hwi _)))))
        refine wpQuietIn_nil ?_
        intro _ hw'
        obtain ⟨nq, hw''⟩ := hw'
        subst hw''
        gi_wp2
        have hs1 : Upd (fun k => k = w.heap.size + 1 ∨ k = w.heap.size + 1 + 1) V0 ((Wb.drewN nq).setCell ⟨w.heap.size + 1, 0, none⟩ (.int .i64 (x : Int))) := (hU.drewN nq).setCell (p := ⟨w.heap.size + 1, 0, none⟩) (.inr (.inl rfl)) _
        have hs1b : Upd (fun k => k = w.heap.size + 1) (Wb.drewN nq) ((Wb.drewN nq).setCell ⟨w.heap.size + 1, 0, none⟩ (.int .i64 (x : Int))) := (Upd.refl (fun k => k = w.heap.size + 1) _).setCell (p := ⟨w.heap.size + 1, 0, none⟩) (.inr rfl) _
        have bRn : Boxed (Wb.drewN nq) (w.heap.size + 1) 3 (.int .i64 0) := bRb
        have bXn : Boxed (Wb.drewN nq) (w.heap.size + 1 + 1) 57 .nilIface := bXb
        have bR3 := bRn.set (.int .i64 (x : Int))
        have bX3 := hs1b.boxed bXn (fun e => by omega)
        have hs2b : Upd (fun k => k = w.heap.size + 1 + 1) ((Wb.drewN nq).setCell ⟨w.heap.size + 1, 0, none⟩ (.int .i64 (x : Int))) (((Wb.drewN nq).setCell ⟨w.heap.size + 1, 0, none⟩ (.int .i64 (x : Int))).setCell ⟨w.heap.size + 1 + 1, 0, none⟩ .nilIface) := (Upd.refl (fun k => k = w.heap.size + 1 + 1) _).setCell (p := ⟨w.heap.size + 1 + 1, 0, none⟩) (.inr rfl) _
        refine ⟨D1, ⟨rfl, ⟨x, HJ.out, hs2b.boxed bR3 (fun e => by omega)⟩, bX3.set _, hs1.setCell (p := ⟨w.heap.size + 1 + 1, 0, none⟩) (.inr (.inr rfl)) _⟩, ?_, fun k hk => .inl hk⟩
        exact (((Upd.refl _ _).drewN _).setCell (p := ⟨w.heap.size + 1, 0, none⟩) (.inr (.inl (.inl rfl))) _).setCell (p := ⟨w.heap.size + 1 + 1, 0, none⟩) (.inr (.inl (.inr rfl))) _
    case done =>
      rintro d D1 W hd ⟨hall, bRb, bXb, hU⟩ hD1 hKd
      have HJ := Lib.hid (show joinI zs a b = -1 from jnI_none fun j hj => by
        cases e : jnB zs (upR zs a b) j
        · rfl
        · exfalso
          unfold jnB at e
          rw [Bool.and_eq_true, beq_iff_eq] at e
          exact hall j ((mem_itemsL (by omega)).2 e.1) e.2)
      have HV := Lib.hid (show joinV zs a b = .tuple #[.int .i64 0, .iface 67 (.agg #[.int .i64 (a : Int), .int .i64 (b : Int)])] by unfold joinV; rw [HJ.out]; rfl)
      have hsz := hU.size
      have hcR := bRb.cell
      have hfR := bRb.frozen
      have hcX := bXb.cell
      have hfX := bXb.frozen
      gi_wp2
      have hs1b : Upd (fun k => k = w.heap.size + 1) W (W.setCell ⟨w.heap.size + 1, 0, none⟩ (.int .i64 0)) := (Upd.refl (fun k => k = w.heap.size + 1) _).setCell (p := ⟨w.heap.size + 1, 0, none⟩) (.inr rfl) _
      have bR3 := bRb.set (.int .i64 0)
      have bX3 := hs1b.boxed bXb (fun e => by omega)
      have hs2b : Upd (fun k => k = w.heap.size + 1 + 1) (W.setCell ⟨w.heap.size + 1, 0, none⟩ (.int .i64 0)) ((W.setCell ⟨w.heap.size + 1, 0, none⟩ (.int .i64 0)).setCell ⟨w.heap.size + 1 + 1, 0, none⟩ (.iface 67 (.agg #[.int .i64 (a : Int), .int .i64 (b : Int)]))) := (Upd.refl (fun k => k = w.heap.size + 1 + 1) _).setCell (p := ⟨w.heap.size + 1 + 1, 0, none⟩) (.inr rfl) _
      have bR4 := hs2b.boxed bR3 (fun e => by omega)
      have bX4 := bX3.set (.iface 67 (.agg #[.int .i64 (a : Int), .int .i64 (b : Int)]))
      have hus : Upd (fun k => k = w.heap.size + 1 ∨ k = w.heap.size + 1 + 1) W ((W.setCell ⟨w.heap.size + 1, 0, none⟩ (.int .i64 0)).setCell ⟨w.heap.size + 1 + 1, 0, none⟩ (.iface 67 (.agg #[.int .i64 (a : Int), .int .i64 (b : Int)]))) := (hs1b.mono (fun k _ e => .inl e)).trans' (hs2b.mono (fun k _ e => .inr e)) (fun i _ e => e)
      refine leaves_marks [d] _ ⟨by simp, fun b hb => ?_⟩ (fun W' hu' => ?_)
      · rw [List.mem_singleton.1 hb]
        exact (hus.block d (Array.getElem?_eq_some_iff.1 hKd).1 (by omega)).trans hKd
      · have hc' := (hu'.boxed bR4 (by simp; omega)).cell
        have hd' := (hu'.boxed bX4 (by simp; omega)).cell
        exact ⟨_, by simp [results, Tryd.f28, go_sem, hc', hd']; rfl, by rw [HV.out],
          (((hu0.mono fun _ _ e => e.elim).trans' (((hu1.mono fun _ _ e => e.elim).trans' (hU.trans hus) (fun i hi e => e))) (fun i hi e => by omega)).trans' hu' (fun i hi e => by simp at e; omega)).toBelow (R := fun _ => False) (fun _ e => e.elim) (Nat.le_refl _)⟩
    case stop =>
      rintro d D1 co pre W hd hpre ⟨rfl, ⟨x, hx, bRb⟩, bXb, hU⟩ hD1 hKd
      have HV := Lib.hid (show joinV zs a b = .tuple #[.int .i64 (x : Int), .nilIface] by unfold joinV; rw [hx, if_neg (by omega)])
      have hsz := hU.size
      gi_wp2
      refine leaves_marks [d] _ ⟨by simp, fun b hb => ?_⟩ (fun W' hu' => ?_)
      · rw [List.mem_singleton.1 hb]
        exact hKd
      · have hc' := (hu'.boxed bRb (by simp; omega)).cell
        have hd' := (hu'.boxed bXb (by simp; omega)).cell
        exact ⟨_, by simp [results, Tryd.f28, go_sem, hc', hd']; rfl, by rw [HV.out],
          (((hu0.mono fun _ _ e => e.elim).trans' (((hu1.mono fun _ _ e => e.elim).trans' hU (fun i hi e => e))) (fun i hi e => by omega)).trans' hu' (fun i hi e => by simp at e; omega)).toBelow (R := fun _ => False) (fun _ e => e.elim) (Nat.le_refl _)⟩
  clear hK
  refine Code.wpIn_mono (Q := fun e a w => e = Exit.normal ∧ K a w) ?_ ?_
  · rintro e a w ⟨rfl, h⟩
    exact h
  refine region_T_wide (S := (fun w' => w'.cell? ⟨w.heap.size, 0, none⟩ = some (.slice A n c))) 7 (by kernel_rfl) (by rintro ⟨_, _, h, _⟩; cases h) ?_
  have bOd : Boxed W0.drew w.heap.size 35 (.slice A n c) := bO
  have hUd : Upd (fun _ => False) W0 W0.drew := (Upd.refl _ W0).drew
  have hAd : Ints W0.drew w.heap.size A n zs := hA0
  have hzd : W0.heap.size ≤ W0.drew.heap.size ∧ W0.drew.heap.size ≤ W0.heap.size := ⟨Nat.le_refl _, Nat.le_refl _⟩
  obtain ⟨Wd, hWd⟩ : ∃ Wd, W0.drew = Wd := ⟨_, rfl⟩
  rw [hWd] at bOd hUd hAd hzd ⊢
  clear hWd
  have hSd : (fun w' => w'.cell? ⟨w.heap.size, 0, none⟩ = some (.slice A n c)) Wd := bOd.cell
  refine anyT_take (i := 0) (oi := ?oi0a) (v := .slice A n c) ?hi0a (by kernel_rfl) ?hq0a ?hy0a (by assumption) ?rest0a
  case hi0a => (simp only [List.getElem?_toArray, List.getElem?_cons_zero]; first | done | rfl)
  case hq0a => first | exact fun _ _ _ h => h | exact fun _ _ _ h => (by cases h.1)
  case hy0a => (refine Or.inl ⟨by rfl, ?_⟩; intro wz hSw; go_simp; first | done | with_reducible rfl | simp | omega)
  try simp only [Act.put, List.setIfInBounds_toArray, List.set_cons_zero, List.set_cons_succ]
  refine anyT_take (i := 1) (oi := ?oi1a) (v := .int .i64 (a : Int)) ?hi1a (by kernel_rfl) ?hq1a ?hy1a (by assumption) ?rest1a
  case hi1a => (simp only [List.getElem?_toArray, List.getElem?_cons_succ, List.getElem?_cons_zero]; first | done | rfl)
  case hq1a => first | exact fun _ _ _ h => h | exact fun _ _ _ h => (by cases h.1)
  case hy1a => (refine Or.inl ⟨by rfl, ?_⟩; intro wz hSw; go_simp; first | done | with_reducible rfl | simp | omega)
  try simp only [Act.put, List.setIfInBounds_toArray, List.set_cons_zero, List.set_cons_succ]
  refine anyT_take (i := 3) (oi := ?oi3a) (v := .int .i64 (b : Int)) ?hi3a (by kernel_rfl) ?hq3a ?hy3a (by assumption) ?rest3a
  case hi3a => (simp only [List.getElem?_toArray, List.getElem?_cons_succ, List.getElem?_cons_zero]; first | done | rfl)
  case hq3a => first | exact fun _ _ _ h => h | exact fun _ _ _ h => (by cases h.1)
  case hy3a => (refine Or.inl ⟨by rfl, ?_⟩; intro wz hSw; go_simp; first | done | with_reducible rfl | simp | omega)
  try simp only [Act.put, List.setIfInBounds_toArray, List.set_cons_zero, List.set_cons_succ]
  refine anyT_two (i := 2) (j := 6) (by kernel_rfl) rfl rfl (fun K' hK => ?_) (fun K' hK => ?_)
  · go_simp
    refine (hw1 _).mono ?_
    rintro e w' ⟨rfl, rfl⟩
    refine hK.out _ _ (fun _ => hSd) ?_
    clear hK K'
    try simp only [Act.put, List.setIfInBounds_toArray, List.set_cons_zero, List.set_cons_succ]
    refine anyT_two (i := 4) (j := 6) (by kernel_rfl) rfl rfl (fun K' hK => ?_) (fun K' hK => ?_)
    · go_simp
      refine (hw2 _).mono ?_
      rintro e w' ⟨rfl, rfl⟩
      refine hK.out _ _ (fun _ => hSd) ?_
      clear hK K'
      try simp only [Act.put, List.setIfInBounds_toArray, List.set_cons_zero, List.set_cons_succ]
      refine anyT_two (i := 5) (j := 6) (by kernel_rfl) rfl rfl (fun K' hK => ?_) (fun K' hK => ?_)
      · go_simp
        refine (atOrAbove_any A n c zs (twoS a b) hv Wd (hAd.more (by omega)) h2b.1 h2b.2).mono ?_
        rw [Ht2.out]
        rintro e W2 ⟨rfl, hB2⟩
        have z2 := hB2.size
        have bO2 := (Below.toUpd hB2).boxed bOd (fun e => by omega)
        have hU2 : Upd (fun _ => False) W0 W2 := hUd.below hB2 (fun k h1 h2 => by omega)
        refine hK.out _ _ (fun _ => bO2.cell) ?_
        clear hK K'
        try simp only [Act.put, List.setIfInBounds_toArray, List.set_cons_zero, List.set_cons_succ]
        refine anyT_one (i := 6) (by kernel_rfl) rfl (fun K' hK => ?_)
        go_simp
        have bO3 := bO2.alloc (.cells #[Value.int .i64 0] 54)
        have bC3 := Boxed.new W2 54 (.int .i64 0)
        refine hK.out _ _ (fun _ => bO3.cell) ?_
        clear hK K'
        try simp only [Act.put, List.setIfInBounds_toArray, List.set_cons_zero, List.set_cons_succ]
        refine anyT_one (i := 7) (by kernel_rfl) rfl (fun K' hK => ?_)
        go_simp
        refine hK.out _ _ (fun h => absurd rfl h) ?_
        clear hK K'
        try simp only [Act.put, List.setIfInBounds_toArray, List.set_cons_zero, List.set_cons_succ]
        refine anyT_done (by kernel_rfl) ?_ _
        exact ⟨rfl, key W2.heap.size _ (by omega) (by simp) (hU2.alloc _) (Boxed.new W2 54 (.int .i64 (upR zs a b)))⟩
      · go_simp
        have hSa : (fun w' => w'.cell? ⟨w.heap.size, 0, none⟩ = some (.slice A n c)) (Wd.alloc (.cells #[Value.int .i64 0] 54)) := (bOd.alloc _).cell
        refine hK.out _ _ (fun _ => hSa) ?_
        clear hK K'
        try simp only [Act.put, List.setIfInBounds_toArray, List.set_cons_zero, List.set_cons_succ]
        refine anyT_one (i := 5) (by kernel_rfl) rfl (fun K' hK => ?_)
        go_simp
        have hAa : Ints (Wd.alloc (.cells #[Value.int .i64 0] 54)) w.heap.size A n zs := hAd.below (((Upd.refl (fun _ => False) Wd).alloc _).toBelow (fun _ e => e.elim) (by omega))
        have bCa := Boxed.new Wd 54 (.int .i64 0)
        have hUa : Upd (fun _ => False) W0 (Wd.alloc (.cells #[Value.int .i64 0] 54)) := hUd.alloc _
        have hza : Wd.heap.size < (Wd.alloc (.cells #[Value.int .i64 0] 54)).heap.size := by simp
        have bOa := bOd.alloc (.cells #[Value.int .i64 0] 54)
        generalize Wd.alloc (.cells #[Value.int .i64 0] 54) = Wa at *
        refine (atOrAbove_any A n c zs (twoS a b) hv Wa (hAa.more (by omega)) h2b.1 h2b.2).mono ?_
        rw [Ht2.out]
        rintro e W2 ⟨rfl, hB2⟩
        have z2 := hB2.size
        have bO2 := (Below.toUpd hB2).boxed bOa (fun e => by omega)
        have bC2 := (Below.toUpd hB2).boxed bCa (fun e => by omega)
        have hU2 : Upd (fun _ => False) W0 W2 := hUa.below hB2 (fun k h1 h2 => by omega)
        have hcC := bC2.cell
        have hfC := bC2.frozen
        refine hK.out _ _ (fun _ => bO2.cell) ?_
        clear hK K'
        try simp only [Act.put, List.setIfInBounds_toArray, List.set_cons_zero, List.set_cons_succ]
        refine anyT_one (i := 7) (by kernel_rfl) rfl (fun K' hK => ?_)
        go_simp
        refine hK.out _ _ (fun h => absurd rfl h) ?_
        clear hK K'
        try simp only [Act.put, List.setIfInBounds_toArray, List.set_cons_zero, List.set_cons_succ]
        refine anyT_done (by kernel_rfl) ?_ _
        exact ⟨rfl, key Wd.heap.size _ (by omega) (by simp; omega) (hU2.setCell (p := ⟨Wd.heap.size, 0, none⟩) (.inl (by show W0.heap.size ≤ Wd.heap.size; omega)) _) (bC2.set _)⟩
    · go_simp
      have hSa : (fun w' => w'.cell? ⟨w.heap.size, 0, none⟩ = some (.slice A n c)) (Wd.alloc (.cells #[Value.int .i64 0] 54)) := (bOd.alloc _).cell
      refine hK.out _ _ (fun _ => hSa) ?_
      clear hK K'
      try simp only [Act.put, List.setIfInBounds_toArray, List.set_cons_zero, List.set_cons_succ]
      refine anyT_one (i := 4) (by kernel_rfl) rfl (fun K' hK => ?_)
      go_simp
      refine (hw2 _).mono ?_
      rintro e w' ⟨rfl, rfl⟩
      refine hK.out _ _ (fun _ => hSa) ?_
      clear hK K'
      try simp only [Act.put, List.setIfInBounds_toArray, List.set_cons_zero, List.set_cons_succ]
      refine anyT_one (i := 5) (by kernel_rfl) rfl (fun K' hK => ?_)
      go_simp
      have hAa : Ints (Wd.alloc (.cells #[Value.int .i64 0] 54)) w.heap.size A n zs := hAd.below (((Upd.refl (fun _ => False) Wd).alloc _).toBelow (fun _ e => e.elim) (by omega))
      have bCa := Boxed.new Wd 54 (.int .i64 0)
      have hUa : Upd (fun _ => False) W0 (Wd.alloc (.cells #[Value.int .i64 0] 54)) := hUd.alloc _
      have hza : Wd.heap.size < (Wd.alloc (.cells #[Value.int .i64 0] 54)).heap.size := by simp
      have bOa := bOd.alloc (.cells #[Value.int .i64 0] 54)
      generalize Wd.alloc (.cells #[Value.int .i64 0] 54) = Wa at *
      refine (atOrAbove_any A n c zs (twoS a b) hv Wa (hAa.more (by omega)) h2b.1 h2b.2).mono ?_
      rw [Ht2.out]
      rintro e W2 ⟨rfl, hB2⟩
      have z2 := hB2.size
      have bO2 := (Below.toUpd hB2).boxed bOa (fun e => by omega)
      have bC2 := (Below.toUpd hB2).boxed bCa (fun e => by omega)
      have hU2 : Upd (fun _ => False) W0 W2 := hUa.below hB2 (fun k h1 h2 => by omega)
      have hcC := bC2.cell
      have hfC := bC2.frozen
      refine hK.out _ _ (fun _ => bO2.cell) ?_
      clear hK K'
      try simp only [Act.put, List.setIfInBounds_toArray, List.set_cons_zero, List.set_cons_succ]
      refine anyT_one (i := 7) (by kernel_rfl) rfl (fun K' hK => ?_)
      go_simp
      refine hK.out _ _ (fun h => absurd rfl h) ?_
      clear hK K'
      try simp only [Act.put, List.setIfInBounds_toArray, List.set_cons_zero, List.set_cons_succ]
      refine anyT_done (by kernel_rfl) ?_ _
      exact ⟨rfl, key Wd.heap.size _ (by omega) (by simp; omega) (hU2.setCell (p := ⟨Wd.heap.size, 0, none⟩) (.inl (by show W0.heap.size ≤ Wd.heap.size; omega)) _) (bC2.set _)⟩
  · go_simp
    have hSa : (fun w' => w'.cell? ⟨w.heap.size, 0, none⟩ = some (.slice A n c)) (Wd.alloc (.cells #[Value.int .i64 0] 54)) := (bOd.alloc _).cell
    refine hK.out _ _ (fun _ => hSa) ?_
    clear hK K'
    try simp only [Act.put, List.setIfInBounds_toArray, List.set_cons_zero, List.set_cons_succ]
    refine anyT_one (i := 2) (by kernel_rfl) rfl (fun K' hK => ?_)
    go_simp
    refine (hw1 _).mono ?_
    rintro e w' ⟨rfl, rfl⟩
    refine hK.out _ _ (fun _ => hSa) ?_
    clear hK K'
    try simp only [Act.put, List.setIfInBounds_toArray, List.set_cons_zero, List.set_cons_succ]
    refine anyT_one (i := 4) (by kernel_rfl) rfl (fun K' hK => ?_)
    go_simp
    refine (hw2 _).mono ?_
    rintro e w' ⟨rfl, rfl⟩
    refine hK.out _ _ (fun _ => hSa) ?_
    clear hK K'
    try simp only [Act.put, List.setIfInBounds_toArray, List.set_cons_zero, List.set_cons_succ]
    refine anyT_one (i := 5) (by kernel_rfl) rfl (fun K' hK => ?_)
    go_simp
    have hAa : Ints (Wd.alloc (.cells #[Value.int .i64 0] 54)) w.heap.size A n zs := hAd.below (((Upd.refl (fun _ => False) Wd).alloc _).toBelow (fun _ e => e.elim) (by omega))
    have bCa := Boxed.new Wd 54 (.int .i64 0)
    have hUa : Upd (fun _ => False) W0 (Wd.alloc (.cells #[Value.int .i64 0] 54)) := hUd.alloc _
    have hza : Wd.heap.size < (Wd.alloc (.cells #[Value.int .i64 0] 54)).heap.size := by simp
    have bOa := bOd.alloc (.cells #[Value.int .i64 0] 54)
    generalize Wd.alloc (.cells #[Value.int .i64 0] 54) = Wa at *
    refine (atOrAbove_any A n c zs (twoS a b) hv Wa (hAa.more (by omega)) h2b.1 h2b.2).mono ?_
    rw [Ht2.out]
    rintro e W2 ⟨rfl, hB2⟩
    have z2 := hB2.size
    have bO2 := (Below.toUpd hB2).boxed bOa (fun e => by omega)
    have bC2 := (Below.toUpd hB2).boxed bCa (fun e => by omega)
    have hU2 : Upd (fun _ => False) W0 W2 := hUa.below hB2 (fun k h1 h2 => by omega)
    have hcC := bC2.cell
    have hfC := bC2.frozen
    refine hK.out _ _ (fun _ => bO2.cell) ?_
    clear hK K'
    try simp only [Act.put, List.setIfInBounds_toArray, List.set_cons_zero, List.set_cons_succ]
    refine anyT_one (i := 7) (by kernel_rfl) rfl (fun K' hK => ?_)
    go_simp
    refine hK.out _ _ (fun h => absurd rfl h) ?_
    clear hK K'
    try simp only [Act.put, List.setIfInBounds_toArray, List.set_cons_zero, List.set_cons_succ]
    refine anyT_done (by kernel_rfl) ?_ _
    exact ⟨rfl, key Wd.heap.size _ (by omega) (by simp; omega) (hU2.setCell (p := ⟨Wd.heap.size, 0, none⟩) (.inl (by show W0.heap.size ≤ Wd.heap.size; omega)) _) (bC2.set _)⟩
end Go.Proofs.YtogiooecjfnkcaaDoor

/- Joins and meets: the model's. -/
namespace Go.Proofs.YtogiooecjfnkcaaDoor
open Go.RowKit Go.Shelf
attribute [local go_sem] Oper.semAt_some
attribute [local go_sem, local simp] wide_fn

theorem quiet_zero_left {P : Program} {f : FuncId} {args : Array Value} {w : World} {n : Nat} {v : Value}
    (h : Calls P f args (w.drewN n) fun e w' => e = .returned v ∧ w.drewN n = w') :
    Calls P f args (w.drewN n) fun e w'' => e = .returned v ∧ ∃ m, w'' = w.drewN m :=
  h.mono fun _ _ ⟨he, hm⟩ => ⟨he, n, hm.symm⟩

set_option maxRecDepth 100000 in
set_option maxHeartbeats 400000 in
theorem supper_any (A : Option Addr) (n c B : Nat) (zs : List Int) (a b : Nat) (w : World) (h : Ints w B A n zs) (hv : Sets zs) (ha : a < n) (hb : b < n) :
    Calls Tryd.prog 41 #[.slice A n c, .int .i64 (a : Int), .int .i64 (b : Int)] w fun e w' => e = .returned (.int .i64 (upR zs a b)) ∧ ∃ m, w' = w.drewN m := by
  have hlen := Lib.hid h.len
  have hn6 : n ≤ 6 := by have := hv.1; rw [hlen.out] at this; exact this
  obtain ⟨bl, off, rfl, _, hc⟩ := h.at_ ha
  have hca := hc a ha
  have hcb := hc b hb
  clear hc
  have hza := hv.bd a (by rw [hlen.out]; exact ha)
  have hzb := hv.bd b (by rw [hlen.out]; exact hb)
  have hua := atUp_bd hv (a := a) (by rw [hlen.out]; exact ha)
  have hub := atUp_bd hv (a := b) (by rw [hlen.out]; exact hb)
  have hpn := powI_le6 (n := (zs.length : Int)) (by rw [hlen.out]; omega)
  have hpa := powI_le6 (n := (a : Int)) (by omega)
  have hpb := powI_le6 (n := (b : Int)) (by omega)
  have hp0 := powI_pos (a : Int)
  have hp1 := powI_pos (b : Int)
  have ho1 : bits .or .i64 (zs[a]?.getD 0) (powI a) = atUp zs a := bits_or (by omega) (by omega) (by omega) (by omega)
  have ho2 : bits .or .i64 (zs[b]?.getD 0) (powI b) = atUp zs b := bits_or (by omega) (by omega) (by omega) (by omega)
  have hand : bits .and .i64 (atUp zs a) (atUp zs b) = upR zs a b := bits_and (by omega) (by omega) (by omega) (by omega)
  have hqa := fun w => power_any (a : Int) w (by omega) (by omega)
  have hqb := fun w => power_any (b : Int) w (by omega) (by omega)
  generalize upR zs a b = u at *
  generalize atUp zs a = ua at *
  generalize atUp zs b = ub at *
  generalize powI (a : Int) = pa at *
  generalize powI (b : Int) = pb at *
  generalize zs[a]?.getD 0 = za at *
  generalize zs[b]?.getD 0 = zb at *
  clear hpa hpb hp0 hp1 hua hub hza hzb hpn
  go_enter Tryd.func41, Tryd.ntmps41
  go_wp2
  go_quiet ((go_at_call 39; first | (with_reducible exact quiet_zero_left (hqa _)) | exact quiet_zero_left (hqb _)))
  go_wp2
  go_ret
  exact ⟨rfl, _, rfl⟩

set_option maxHeartbeats 1000000 in
theorem sjoin_any (A : Option Addr) (n c B : Nat) (zs : List Int) (a b : Nat) (w : World) (h : Ints w B A n zs) (hv : Sets zs) (ha : a < n) (hb : b < n) :
    Calls Tryd.prog 25 #[.slice A n c, .int .i64 (a : Int), .int .i64 (b : Int)] w fun e w' => e = .returned (.int .i64 (joinI zs a b)) ∧ ∃ m, w' = w.drewN m := by
  have hlen := Lib.hid h.len
  have hn6 : n ≤ 6 := by have := hv.1; rw [hlen.out] at this; exact this
  have hub := upR_bd hv (a := a) (b := b) (by rw [hlen.out]; exact ha)
  have hpn := powI_le6 (n := (zs.length : Int)) (by rw [hlen.out]; omega)
  have Hj := Lib.hid (show joinI zs a b = jnI zs (upR zs a b) from rfl)
  have hup := supper_any A n c B zs a b w h hv ha hb
  rw [Hj.out]
  generalize upR zs a b = u at *
  go_enter Tryd.func25, Tryd.ntmps25
  go_wp2_with (go_at_call 41; refine hup.mono ?_; rintro e w' ⟨rfl, m0, rfl⟩)
  go_loopw [8] (fun i wr => ∃ k q : Nat, k ≤ n ∧ i = .int .i64 k ∧ (∀ j, j < k → jnB zs u j = false) ∧ wr = w.drewN q) (fun i _ => n - (intOf i).toNat)
  case atStart => exact ⟨0, m0, by omega, rfl, fun j hj => by omega, rfl⟩
  case round =>
    obtain ⟨k, q, hk, rfl, hno, rfl⟩ := hrel
    have Hno := Lib.hid hno
    clear hno
    by_cases hlt : k < n
    · obtain ⟨bl, off, rfl, _, hc⟩ := h.at_ hlt
      have hck := hc k hlt
      clear hc
      have hz := hv.bd k (by rw [hlen.out]; exact hlt)
      have hbk := atUp_bd hv (a := k) (by rw [hlen.out]; exact hlt)
      have hpk := powI_le6 (n := (k : Int)) (by omega)
      have hp0 := powI_pos (k : Int)
      have hqt := fun w => bit_any u (k : Int) w (by omega) (by omega) (by omega) (by omega)
      have hqk := fun w => power_any (k : Int) w (by omega) (by omega)
      have ho : bits .or .i64 (zs[k]?.getD 0) (powI k) = atUp zs k := bits_or (by omega) (by omega) (by omega) (by omega)
      have hle : bits .andNot .i64 u (atUp zs k) = lessI u (atUp zs k) := bits_less (by omega) (by omega) (by omega) (by omega)
      cases hb : bitB u k
      · have hbi : (bitI u k == 1) = false := by rw [bitI_one, hb]
        have Hn := Lib.hid (show jnB zs u k = false by unfold jnB; rw [hb]; rfl)
        go_wp2
        go_quiet ((first | (go_at_call 40; exact quiet_add_left (hqt _)) | (go_at_call 39; exact quiet_add_left (hqk _))))
        go_wp2
        go_roundw
        case rel => exact ⟨k + 1, _, by omega, by go_num, all_snoc Hno.out Hn.out, rfl⟩
        case measure => simp [intOf]; omega
      · have hbi : (bitI u k == 1) = true := by rw [bitI_one, hb]
        cases hl : (lessI u (atUp zs k) == 0)
        · have Hn := Lib.hid (show jnB zs u k = false by unfold jnB; rw [hb, hl]; rfl)
          go_wp2
          go_quiet ((first | (go_at_call 40; exact quiet_add_left (hqt _)) | (go_at_call 39; exact quiet_add_left (hqk _))))
          go_wp2
          go_roundw
          case rel => exact ⟨k + 1, _, by omega, by go_num, all_snoc Hno.out Hn.out, rfl⟩
          case measure => simp [intOf]; omega
        · have Hn := Lib.hid (jnI_at (zs := zs) (s := u) (c := k) (by rw [hlen.out]; exact hlt) (show jnB zs u k = true by unfold jnB; rw [hb, hl]; rfl) Hno.out)
          go_wp2
          go_quiet ((first | (go_at_call 40; exact quiet_add_left (hqt _)) | (go_at_call 39; exact quiet_add_left (hqk _))))
          go_wp2
          go_ret
          exact ⟨ret_int Hn.out.symm, _, World.drewN_drewN ..⟩
    · obtain rfl : k = n := by omega
      have Hn := Lib.hid (jnI_none (zs := zs) (s := u) (by rw [hlen.out]; exact Hno.out))
      go_wp2
      go_ret
      exact ⟨ret_int Hn.out.symm, _, rfl⟩
end Go.Proofs.YtogiooecjfnkcaaDoor

/- JoinOf, MeetOf: the program's and the model's. -/
namespace Go.Proofs.YtogiooecjfnkcaaDoor
open Go.RowKit Go.Shelf
attribute [local go_sem] Oper.semAt_some
attribute [local go_sem, local simp] wide_fn

theorem omeet_any (A : Option Addr) (n c : Nat) (zs : List Int) (a b : Nat) (hv : Sets zs) (w : World) (hA : Ints w w.heap.size A n zs) (ha : a < n) (hb : b < n) :
    Calls Tryd.prog 30 #[.slice A n c, .int .i64 (a : Int), .int .i64 (b : Int)] w fun e W' => e = .returned (joinV (du zs) a b) ∧ Below w.heap.size w W' := by
  have hlen := Lib.hid hA.len
  have Hd := Lib.hid (show downP n (pairsL zs) = du zs by unfold du; rw [hlen.out])
  go_enter Tryd.func30, Tryd.ntmps30
  go_wp2_with fail
  refine (dual_any A n c zs hv w hA).mono ?_
  rintro e w2 ⟨rfl, hA2, hB2⟩
  rw [Hd.out] at hA2
  go_wp2_with fail
  refine (ojoin_any _ n _ (du zs) a b (du_sets hv) _ (hA2.ints' hA2.lt (by rw [du_len, hlen.out])) ha hb).mono ?_
  rintro e w3 ⟨rfl, hB3⟩
  have C := hB2.trans (hB3.mono hB2.size)
  by_cases hneg : joinI (du zs) a b < 0
  · have Hv := Lib.hid (show joinV (du zs) a b = .tuple #[.int .i64 0, .iface 67 (.agg #[.int .i64 (a : Int), .int .i64 (b : Int)])] by unfold joinV; rw [if_pos hneg])
    clear hneg
    rw [Hv.out]
    go_wp2_with fail
    go_ret2
    exact ⟨by rw [Hv.out]; rfl, C⟩
  · have Hv := Lib.hid (show joinV (du zs) a b = .tuple #[.int .i64 (joinI (du zs) a b), .nilIface] by unfold joinV; rw [if_neg hneg])
    clear hneg
    rw [Hv.out]
    go_wp2_with fail
    go_ret2
    exact ⟨by rw [Hv.out]; rfl, C⟩

/-- What is found for two numbers. -/
def findR (zs ds : List Int) (a b : Int) : Int := if isIt zs a && isIt zs b then joinI ds a.toNat b.toNat else -1

set_option maxHeartbeats 1000000 in
theorem find_join_any (A : Option Addr) (n c : Nat) (zs : List Int) (a b : Int) (hv : Sets zs) (w : World) (hA : Ints w w.heap.size A n zs) (hE : Et w) :
    Calls Tryd.prog 27 #[.slice A n c, .func (.func 28) #[.slice A n c] #[], .int .i64 a, .int .i64 b] w fun e W' => e = .returned (.int .i64 (findR zs zs a b)) ∧ Below w.heap.size w W' := by
  have hlen := Lib.hid hA.len
  have hn6 : n ≤ 6 := by have := hv.1; rw [hlen.out] at this; exact this
  have hi := fun k w => isItemOf_any (n : Int) k w
  cases ha : inB a 0 ((n : Int) - 1)
  · have Ht := Lib.hid (show findR zs zs a b = -1 by unfold findR isIt; rw [hlen.out, ha]; rfl)
    have hia := fun w => hi a w
    rw [ha] at hia
    go_enter Tryd.func27, Tryd.ntmps27
    go_wp2_with (go_at_call 44; refine (hia _).mono ?_; rintro e w' ⟨rfl, rfl⟩)
    go_ret
    exact ⟨ret_int Ht.out.symm, Below.refl _ _⟩
  · cases hb : inB b 0 ((n : Int) - 1)
    · have Ht := Lib.hid (show findR zs zs a b = -1 by unfold findR isIt; rw [hlen.out, ha, hb]; rfl)
      have hia := fun w => hi a w
      have hib := fun w => hi b w
      rw [ha] at hia
      rw [hb] at hib
      go_enter Tryd.func27, Tryd.ntmps27
      go_wp2_with fail
      refine (hia _).mono ?_
      rintro e w' ⟨rfl, rfl⟩
      go_wp2_with fail
      refine (hib _).mono ?_
      rintro e w' ⟨rfl, rfl⟩
      go_wp2_with fail
      go_ret
      exact ⟨ret_int Ht.out.symm, Below.refl _ _⟩
    · have Ht := Lib.hid (show findR zs zs a b = joinI zs a.toNat b.toNat by unfold findR isIt; rw [hlen.out, ha, hb]; rfl)
      have hia := fun w => hi a w
      have hib := fun w => hi b w
      rw [ha] at hia
      rw [hb] at hib
      simp only [inB, decide_eq_true_eq] at ha hb
      obtain ⟨x, rfl⟩ := Int.eq_ofNat_of_zero_le ha.1
      obtain ⟨y, rfl⟩ := Int.eq_ofNat_of_zero_le hb.1
      rw [Int.toNat_natCast, Int.toNat_natCast] at Ht
      have hx : x < n := by omega
      have hy : y < n := by omega
      clear hi ha hb
      go_enter Tryd.func27, Tryd.ntmps27
      go_wp2_with fail
      refine (hia _).mono ?_
      rintro e w' ⟨rfl, rfl⟩
      go_wp2_with fail
      refine (hib _).mono ?_
      rintro e w' ⟨rfl, rfl⟩
      go_wp2_with fail
      refine (ojoin_any A n c zs x y hv _ hA hx hy).mono ?_
      rintro e w2 ⟨rfl, hB2⟩
      have hE2 := hE.below hB2 hE.2
      have z2 := hB2.size
      unfold joinV
      have hjb := joinI_bd zs x y
      by_cases hneg : joinI zs x y < 0
      · have Hj := Lib.hid (show joinI zs x y = -1 by omega)
        rw [if_pos hneg]
        clear hneg hjb
        go_wp2_with fail
        refine (isLack_hit _ _ _ hE2).mono ?_
        rintro e w3 ⟨rfl, hB3⟩
        go_wp2_with fail
        go_ret
        exact ⟨ret_int (by rw [Ht.out, Hj.out]), hB2.trans (hB3.mono z2)⟩
      · rw [if_neg hneg]
        clear hneg hjb
        go_wp2_with fail
        refine (isLack_nil _).mono ?_
        rintro e w3 ⟨rfl, hB3⟩
        go_wp2_with fail
        go_ret
        exact ⟨ret_int Ht.out.symm, hB2.trans (hB3.mono z2)⟩

set_option maxHeartbeats 1000000 in
theorem find_meet_any (A : Option Addr) (n c : Nat) (zs : List Int) (a b : Int) (hv : Sets zs) (w : World) (hA : Ints w w.heap.size A n zs) (hE : Et w) :
    Calls Tryd.prog 27 #[.slice A n c, .func (.func 30) #[.slice A n c] #[], .int .i64 a, .int .i64 b] w fun e W' => e = .returned (.int .i64 (findR zs (du zs) a b)) ∧ Below w.heap.size w W' := by
  have hlen := Lib.hid hA.len
  have hn6 : n ≤ 6 := by have := hv.1; rw [hlen.out] at this; exact this
  have hi := fun k w => isItemOf_any (n : Int) k w
  cases ha : inB a 0 ((n : Int) - 1)
  · have Ht := Lib.hid (show findR zs (du zs) a b = -1 by unfold findR isIt; rw [hlen.out, ha]; rfl)
    have hia := fun w => hi a w
    rw [ha] at hia
    go_enter Tryd.func27, Tryd.ntmps27
    go_wp2_with (go_at_call 44; refine (hia _).mono ?_; rintro e w' ⟨rfl, rfl⟩)
    go_ret
    exact ⟨ret_int Ht.out.symm, Below.refl _ _⟩
  · cases hb : inB b 0 ((n : Int) - 1)
    · have Ht := Lib.hid (show findR zs (du zs) a b = -1 by unfold findR isIt; rw [hlen.out, ha, hb]; rfl)
      have hia := fun w => hi a w
      have hib := fun w => hi b w
      rw [ha] at hia
      rw [hb] at hib
      go_enter Tryd.func27, Tryd.ntmps27
      go_wp2_with fail
      refine (hia _).mono ?_
      rintro e w' ⟨rfl, rfl⟩
      go_wp2_with fail
      refine (hib _).mono ?_
      rintro e w' ⟨rfl, rfl⟩
      go_wp2_with fail
      go_ret
      exact ⟨ret_int Ht.out.symm, Below.refl _ _⟩
    · have Ht := Lib.hid (show findR zs (du zs) a b = joinI (du zs) a.toNat b.toNat by unfold findR isIt; rw [hlen.out, ha, hb]; rfl)
      have hia := fun w => hi a w
      have hib := fun w => hi b w
      rw [ha] at hia
      rw [hb] at hib
      simp only [inB, decide_eq_true_eq] at ha hb
      obtain ⟨x, rfl⟩ := Int.eq_ofNat_of_zero_le ha.1
      obtain ⟨y, rfl⟩ := Int.eq_ofNat_of_zero_le hb.1
      rw [Int.toNat_natCast, Int.toNat_natCast] at Ht
      have hx : x < n := by omega
      have hy : y < n := by omega
      clear hi ha hb
      go_enter Tryd.func27, Tryd.ntmps27
      go_wp2_with fail
      refine (hia _).mono ?_
      rintro e w' ⟨rfl, rfl⟩
      go_wp2_with fail
      refine (hib _).mono ?_
      rintro e w' ⟨rfl, rfl⟩
      go_wp2_with fail
      refine (omeet_any A n c zs x y hv _ hA hx hy).mono ?_
      rintro e w2 ⟨rfl, hB2⟩
      have hE2 := hE.below hB2 hE.2
      have z2 := hB2.size
      unfold joinV
      have hjb := joinI_bd (du zs) x y
      by_cases hneg : joinI (du zs) x y < 0
      · have Hj := Lib.hid (show joinI (du zs) x y = -1 by omega)
        rw [if_pos hneg]
        clear hneg hjb
        go_wp2_with fail
        refine (isLack_hit _ _ _ hE2).mono ?_
        rintro e w3 ⟨rfl, hB3⟩
        go_wp2_with fail
        go_ret
        exact ⟨ret_int (by rw [Ht.out, Hj.out]), hB2.trans (hB3.mono z2)⟩
      · rw [if_neg hneg]
        clear hneg hjb
        go_wp2_with fail
        refine (isLack_nil _).mono ?_
        rintro e w3 ⟨rfl, hB3⟩
        go_wp2_with fail
        go_ret
        exact ⟨ret_int Ht.out.symm, hB2.trans (hB3.mono z2)⟩

theorem JoinOf_any (A : Option Addr) (n c : Nat) (zs : List Int) (a b : Int) (w : World) (h : Ints w w.heap.size A n zs) (hbig : n ≤ 1152921504606846976) (hE : Et w) :
    Calls Tryd.prog 11 #[.slice A n c, .int .i64 a, .int .i64 b] w fun e w' => e = .returned (.int .i64 (joinR zs a b)) ∧ Below w.heap.size w w' := by
  have hlen := Lib.hid h.len
  cases hv : vo zs
  · have Ht := Lib.hid (show joinR zs a b = -1 by unfold joinR; rw [hv]; rfl)
    have Hv := Lib.hid hv
    clear hv
    go_enter Tryd.func11, Tryd.ntmps11
    go_wp2_with fail
    refine (readOrder_any _ _ _ zs _ h hbig).mono ?_
    rintro e w' ⟨hB, (⟨hv, b, rfl, _, _⟩ | ⟨_, rfl⟩)⟩
    · rw [Hv.out] at hv; cases hv
    · go_wp2_with fail
      go_ret
      exact ⟨ret_int Ht.out.symm, hB⟩
  · have hvo : VoP zs := by simpa [vo] using hv
    have Ht := Lib.hid (show joinR zs a b = findR zs zs a b by unfold joinR findR; rw [hv]; rfl)
    have Hv := Lib.hid hv
    clear hv
    go_enter Tryd.func11, Tryd.ntmps11
    go_wp2_with fail
    refine (readOrder_any _ _ _ zs _ h hbig).mono ?_
    rintro e w1 ⟨hB, (⟨_, bb, rfl, hb, hAr⟩ | ⟨hv, _⟩)⟩
    · have z1 := hB.size
      have hE1 := hE.below hB hE.2
      go_wp2_with fail
      refine (find_join_any _ n _ zs a b hvo.sets _ (hAr.ints' hAr.lt hlen.out) hE1).mono ?_
      rintro e w2 ⟨rfl, hB2⟩
      go_wp2_with fail
      go_ret
      exact ⟨ret_int Ht.out.symm, hB.trans (hB2.mono z1)⟩
    · rw [Hv.out] at hv; cases hv

theorem specJoinOfF_any (A : Option Addr) (n c : Nat) (zs : List Int) (a b : Int) (w : World) (h : Ints w w.heap.size A n zs) (hbig : n ≤ 1152921504606846976) :
    Calls Tryd.prog 9 #[.slice A n c, .int .i64 a, .int .i64 b] w fun e w' => e = .returned (.int .i64 (joinR zs a b)) ∧ Below w.heap.size w w' := by
  have hlen := Lib.hid h.len
  have hir := fun k w => inRange_any k 0 ((n : Int) - 1) w
  cases hv : vo zs
  · have Ht := Lib.hid (show joinR zs a b = -1 by unfold joinR; rw [hv]; rfl)
    have HV := Lib.hid hv
    clear hv
    go_enter Tryd.func9, Tryd.ntmps9
    go_wp2_with fail
    refine (validOrder_any _ _ _ _ zs _ h hbig).mono ?_
    rw [HV.out]
    rintro e w' ⟨rfl, m, rfl⟩
    go_wp2_with fail
    go_ret
    exact ⟨ret_int Ht.out.symm, below_drewN (Below.refl _ _) _⟩
  · have hvo : VoP zs := by simpa [vo] using hv
    have HV := Lib.hid hv
    clear hv
    cases ha : inB a 0 ((n : Int) - 1)
    · have Ht := Lib.hid (show joinR zs a b = -1 by unfold joinR isIt; rw [HV.out, hlen.out, ha]; rfl)
      have hia := fun w => hir a w
      rw [ha] at hia
      go_enter Tryd.func9, Tryd.ntmps9
      go_wp2_with fail
      refine (validOrder_any _ _ _ _ zs _ h hbig).mono ?_
      rw [HV.out]
      rintro e w' ⟨rfl, m, rfl⟩
      go_wp2_with fail
      refine (hia _).mono ?_
      rintro e w' ⟨rfl, rfl⟩
      go_wp2_with fail
      go_ret
      exact ⟨ret_int Ht.out.symm, below_drewN (Below.refl _ _) _⟩
    · cases hb : inB b 0 ((n : Int) - 1)
      · have Ht := Lib.hid (show joinR zs a b = -1 by unfold joinR isIt; rw [HV.out, hlen.out, ha, hb]; rfl)
        have hia := fun w => hir a w
        have hib := fun w => hir b w
        rw [ha] at hia
        rw [hb] at hib
        go_enter Tryd.func9, Tryd.ntmps9
        go_wp2_with fail
        refine (validOrder_any _ _ _ _ zs _ h hbig).mono ?_
        rw [HV.out]
        rintro e w' ⟨rfl, m, rfl⟩
        go_wp2_with fail
        refine (hia _).mono ?_
        rintro e w' ⟨rfl, rfl⟩
        go_wp2_with fail
        refine (hib _).mono ?_
        rintro e w' ⟨rfl, rfl⟩
        go_wp2_with fail
        go_ret
        exact ⟨ret_int Ht.out.symm, below_drewN (Below.refl _ _) _⟩
      · have Ht := Lib.hid (show joinR zs a b = joinI zs a.toNat b.toNat by unfold joinR isIt; rw [HV.out, hlen.out, ha, hb]; rfl)
        have hia := fun w => hir a w
        have hib := fun w => hir b w
        rw [ha] at hia
        rw [hb] at hib
        simp only [inB, decide_eq_true_eq] at ha hb
        obtain ⟨x, rfl⟩ := Int.eq_ofNat_of_zero_le ha.1
        obtain ⟨y, rfl⟩ := Int.eq_ofNat_of_zero_le hb.1
        rw [Int.toNat_natCast, Int.toNat_natCast] at Ht
        have hx : x < n := by omega
        have hy : y < n := by omega
        clear hir ha hb
        go_enter Tryd.func9, Tryd.ntmps9
        go_wp2_with fail
        refine (validOrder_any _ _ _ _ zs _ h hbig).mono ?_
        rw [HV.out]
        rintro e w' ⟨rfl, m, rfl⟩
        go_wp2_with fail
        refine (hia _).mono ?_
        rintro e w' ⟨rfl, rfl⟩
        go_wp2_with fail
        refine (hib _).mono ?_
        rintro e w' ⟨rfl, rfl⟩
        go_wp2_with fail
        refine (sjoin_any A n c _ zs x y _ (h.drewN m) hvo.sets hx hy).mono ?_
        rintro e w2 ⟨rfl, m2, rfl⟩
        go_wp2_with fail
        go_ret
        exact ⟨ret_int Ht.out.symm, below_drewN (Below.refl _ _) _⟩

theorem MeetOf_any (A : Option Addr) (n c : Nat) (zs : List Int) (a b : Int) (w : World) (h : Ints w w.heap.size A n zs) (hbig : n ≤ 1152921504606846976) (hE : Et w) :
    Calls Tryd.prog 14 #[.slice A n c, .int .i64 a, .int .i64 b] w fun e w' => e = .returned (.int .i64 (meetR zs a b)) ∧ Below w.heap.size w w' := by
  have hlen := Lib.hid h.len
  cases hv : vo zs
  · have Ht := Lib.hid (show meetR zs a b = -1 by unfold meetR; rw [hv]; rfl)
    have Hv := Lib.hid hv
    clear hv
    go_enter Tryd.func14, Tryd.ntmps14
    go_wp2_with fail
    refine (readOrder_any _ _ _ zs _ h hbig).mono ?_
    rintro e w' ⟨hB, (⟨hv, b, rfl, _, _⟩ | ⟨_, rfl⟩)⟩
    · rw [Hv.out] at hv; cases hv
    · go_wp2_with fail
      go_ret
      exact ⟨ret_int Ht.out.symm, hB⟩
  · have hvo : VoP zs := by simpa [vo] using hv
    have Ht := Lib.hid (show meetR zs a b = findR zs (du zs) a b by unfold meetR findR; rw [hv]; rfl)
    have Hv := Lib.hid hv
    clear hv
    go_enter Tryd.func14, Tryd.ntmps14
    go_wp2_with fail
    refine (readOrder_any _ _ _ zs _ h hbig).mono ?_
    rintro e w1 ⟨hB, (⟨_, bb, rfl, hb, hAr⟩ | ⟨hv, _⟩)⟩
    · have z1 := hB.size
      have hE1 := hE.below hB hE.2
      go_wp2_with fail
      refine (find_meet_any _ n _ zs a b hvo.sets _ (hAr.ints' hAr.lt hlen.out) hE1).mono ?_
      rintro e w2 ⟨rfl, hB2⟩
      go_wp2_with fail
      go_ret
      exact ⟨ret_int Ht.out.symm, hB.trans (hB2.mono z1)⟩
    · rw [Hv.out] at hv; cases hv

theorem specMeetOfF_any (A : Option Addr) (n c : Nat) (zs : List Int) (a b : Int) (w : World) (h : Ints w w.heap.size A n zs) (hbig : n ≤ 1152921504606846976) :
    Calls Tryd.prog 13 #[.slice A n c, .int .i64 a, .int .i64 b] w fun e w' => e = .returned (.int .i64 (meetR zs a b)) ∧ Below w.heap.size w w' := by
  have hlen := Lib.hid h.len
  have hir := fun k w => inRange_any k 0 ((n : Int) - 1) w
  cases hv : vo zs
  · have Ht := Lib.hid (show meetR zs a b = -1 by unfold meetR; rw [hv]; rfl)
    have HV := Lib.hid hv
    clear hv
    go_enter Tryd.func13, Tryd.ntmps13
    go_wp2_with fail
    refine (validOrder_any _ _ _ _ zs _ h hbig).mono ?_
    rw [HV.out]
    rintro e w' ⟨rfl, m, rfl⟩
    go_wp2_with fail
    go_ret
    exact ⟨ret_int Ht.out.symm, below_drewN (Below.refl _ _) _⟩
  · have hvo : VoP zs := by simpa [vo] using hv
    have HV := Lib.hid hv
    clear hv
    cases ha : inB a 0 ((n : Int) - 1)
    · have Ht := Lib.hid (show meetR zs a b = -1 by unfold meetR isIt; rw [HV.out, hlen.out, ha]; rfl)
      have hia := fun w => hir a w
      rw [ha] at hia
      go_enter Tryd.func13, Tryd.ntmps13
      go_wp2_with fail
      refine (validOrder_any _ _ _ _ zs _ h hbig).mono ?_
      rw [HV.out]
      rintro e w' ⟨rfl, m, rfl⟩
      go_wp2_with fail
      refine (hia _).mono ?_
      rintro e w' ⟨rfl, rfl⟩
      go_wp2_with fail
      go_ret
      exact ⟨ret_int Ht.out.symm, below_drewN (Below.refl _ _) _⟩
    · cases hb : inB b 0 ((n : Int) - 1)
      · have Ht := Lib.hid (show meetR zs a b = -1 by unfold meetR isIt; rw [HV.out, hlen.out, ha, hb]; rfl)
        have hia := fun w => hir a w
        have hib := fun w => hir b w
        rw [ha] at hia
        rw [hb] at hib
        go_enter Tryd.func13, Tryd.ntmps13
        go_wp2_with fail
        refine (validOrder_any _ _ _ _ zs _ h hbig).mono ?_
        rw [HV.out]
        rintro e w' ⟨rfl, m, rfl⟩
        go_wp2_with fail
        refine (hia _).mono ?_
        rintro e w' ⟨rfl, rfl⟩
        go_wp2_with fail
        refine (hib _).mono ?_
        rintro e w' ⟨rfl, rfl⟩
        go_wp2_with fail
        go_ret
        exact ⟨ret_int Ht.out.symm, below_drewN (Below.refl _ _) _⟩
      · have Ht := Lib.hid (show meetR zs a b = joinI (du zs) a.toNat b.toNat by unfold meetR isIt; rw [HV.out, hlen.out, ha, hb]; rfl)
        have hia := fun w => hir a w
        have hib := fun w => hir b w
        rw [ha] at hia
        rw [hb] at hib
        simp only [inB, decide_eq_true_eq] at ha hb
        obtain ⟨x, rfl⟩ := Int.eq_ofNat_of_zero_le ha.1
        obtain ⟨y, rfl⟩ := Int.eq_ofNat_of_zero_le hb.1
        rw [Int.toNat_natCast, Int.toNat_natCast] at Ht
        have hx : x < n := by omega
        have hy : y < n := by omega
        clear hir ha hb
        go_enter Tryd.func13, Tryd.ntmps13
        go_wp2_with fail
        refine (validOrder_any _ _ _ _ zs _ h hbig).mono ?_
        rw [HV.out]
        rintro e w' ⟨rfl, m, rfl⟩
        go_wp2_with fail
        refine (hia _).mono ?_
        rintro e w' ⟨rfl, rfl⟩
        go_wp2_with fail
        refine (hib _).mono ?_
        rintro e w' ⟨rfl, rfl⟩
        go_wp2_with fail
        refine (downOf_any A n c zs _ (h.drewN m) hvo.sets).mono ?_
        rintro e w2 ⟨rfl, hA2, hB2⟩
        have Hd := Lib.hid (show downP n (pairsL zs) = du zs by unfold du; rw [hlen.out])
        rw [Hd.out] at hA2
        go_wp2_with fail
        refine (sjoin_any _ n _ _ (du zs) x y _ (hA2.ints' hA2.lt (by rw [du_len, hlen.out])) (du_sets hvo.sets) hx hy).mono ?_
        rintro e w3 ⟨rfl, m3, rfl⟩
        go_wp2_with fail
        go_ret
        exact ⟨ret_int Ht.out.symm, below_drewN ((below_drewN (Below.refl _ _) _).trans hB2) _⟩
end Go.Proofs.YtogiooecjfnkcaaDoor

/- Joins: what their own laws ask. No program. -/
namespace Go.Proofs.YtogiooecjfnkcaaDoor

theorem up_swap (zs : List Int) (a b : Nat) : upR zs a b = upR zs b a := by
  unfold upR andI
  rw [Nat.and_comm]
theorem join_swap (zs : List Int) (a b : Nat) : joinI zs a b = joinI zs b a := by unfold joinI; rw [up_swap]
theorem join_bits {zs : List Int} {a b c : Nat} (h : joinI zs a b = c) : c < zs.length ∧ bitB (atUp zs a) c = true ∧ bitB (atUp zs b) c = true := by
  rcases jnI_cases (zs := zs) (s := upR zs a b) with ⟨e, _⟩ | ⟨d, e, hd, hb⟩
  · exfalso
    have : joinI zs a b = -1 := e
    omega
  · have : joinI zs a b = (d : Int) := e
    obtain rfl : d = c := by omega
    unfold jnB at hb
    rw [Bool.and_eq_true] at hb
    have h1 := hb.1
    unfold upR at h1
    rw [bitB_and, Bool.and_eq_true] at h1
    exact ⟨hd, h1⟩
theorem at_or {zs : List Int} {a c : Nat} (h : bitB (atUp zs a) c = true) (hne : c ≠ a) : bitB (zs[a]?.getD 0) c = true := by
  rw [atUp_bit, Bool.or_eq_true, decide_eq_true_eq] at h
  rcases h with h | h
  · exact h
  · exact absurd h.symm hne
/-- Where there is one, all stand in range. -/
theorem join_parts {zs ds : List Int} {a b J : Int} (hJ : (if vo zs && (isIt zs a && isIt zs b) then joinI ds a.toNat b.toNat else -1) = J) (h0 : 0 ≤ J) :
    VoP zs ∧ ∃ x y c : Nat, a = x ∧ b = y ∧ J = c ∧ x < zs.length ∧ y < zs.length ∧ joinI ds x y = c := by
  cases e : (vo zs && (isIt zs a && isIt zs b))
  · rw [e] at hJ
    simp only [Bool.false_eq_true, if_false] at hJ
    omega
  · rw [e, if_pos rfl] at hJ
    rw [Bool.and_eq_true, Bool.and_eq_true] at e
    obtain ⟨hv, ha, hb⟩ := e
    unfold isIt inB at ha hb
    rw [decide_eq_true_eq] at ha hb
    refine ⟨by simpa [vo] using hv, a.toNat, b.toNat, J.toNat, by omega, by omega, by omega, by omega, by omega, by omega⟩
theorem isIt_cast {zs : List Int} {x : Nat} (h : x < zs.length) : isIt zs (x : Int) = true := by unfold isIt inB; rw [decide_eq_true_eq]; omega
theorem joinR_cast {zs : List Int} (h : VoP zs) {x y : Nat} (hx : x < zs.length) (hy : y < zs.length) : joinR zs x y = joinI zs x y := by
  unfold joinR; rw [vo_true h, isIt_cast hx, isIt_cast hy]; rfl
theorem meetR_cast {zs : List Int} (h : VoP zs) {x y : Nat} (hx : x < zs.length) (hy : y < zs.length) : meetR zs x y = joinI (du zs) x y := by
  unfold meetR; rw [vo_true h, isIt_cast hx, isIt_cast hy]; rfl
end Go.Proofs.YtogiooecjfnkcaaDoor

/- Lattices: as both sides tell them. No program. -/
namespace Go.Proofs.YtogiooecjfnkcaaDoor

def JoinsOk (ds : List Int) : Prop := ∀ a, a < ds.length → ∀ b, b < ds.length → 0 ≤ joinI ds a b
instance (ds : List Int) : Decidable (JoinsOk ds) := by unfold JoinsOk; exact inferInstance
def latB (zs : List Int) : Bool := decide (0 < zs.length) && (decide (JoinsOk zs) && decide (JoinsOk (du zs)))
def latR (zs : List Int) : Bool := vo zs && latB zs
theorem join_self {ds : List Int} {a : Nat} (ha : a < ds.length) : 0 ≤ joinI ds a a := by
  rcases jnI_cases (zs := ds) (s := upR ds a a) with ⟨_, h⟩ | ⟨c, e, _⟩
  · exfalso
    have h1 := h a ha
    have h2 : jnB ds (upR ds a a) a = true := by
      unfold jnB
      have e1 : bitB (upR ds a a) a = true := by
        unfold upR
        rw [bitB_and, atUp_bit]
        simp
      have e2 : lessI (upR ds a a) (atUp ds a) = 0 := lessI_none.2 fun j hj => by
        unfold upR at hj
        rw [bitB_and, Bool.and_eq_true] at hj
        exact hj.1
      rw [e1, e2]
      rfl
    rw [h2] at h1
    cases h1
  · show 0 ≤ jnI ds (upR ds a a)
    omega
theorem joins_half {ds : List Int} (h : ∀ a, a < ds.length → ∀ b, b < a → 0 ≤ joinI ds a b) : JoinsOk ds := fun a ha b hb => by
  rcases Nat.lt_trichotomy b a with h1 | h1 | h1
  · exact h a ha b h1
  · subst h1; exact join_self hb
  · rw [join_swap]; exact h b hb a h1
theorem lattice_not {zs ds : List Int} {a b : Nat} (hd : ds = zs ∨ ds = du zs) (ha : a < zs.length) (hb : b < zs.length) (h : joinI ds a b < 0) : latB zs = false := by
  have hn : ¬ JoinsOk ds := fun hok => by
    have := hok a (by rcases hd with e | e <;> rw [e] <;> first | exact ha | (rw [du_len]; exact ha)) b (by rcases hd with e | e <;> rw [e] <;> first | exact hb | (rw [du_len]; exact hb))
    omega
  unfold latB
  rcases hd with e | e <;> subst e
  · rw [decide_eq_false hn]; simp
  · rw [decide_eq_false hn]; simp
theorem lattice_is {zs : List Int} (h1 : JoinsOk zs) (h2 : JoinsOk (du zs)) : latB zs = decide (0 < zs.length) := by
  unfold latB
  rw [decide_eq_true h1, decide_eq_true h2]
  simp
end Go.Proofs.YtogiooecjfnkcaaDoor

/- Rows of numbers under way, that grow by append: where they lie; what has been read of them; rows whose cells alone are told. -/
namespace Go.Proofs.YtogiooecjfnkcaaDoor
open Go.RowKit

/-- A row of numbers under way, in a block that S names. -/
def OwnS (S : Nat → Prop) (w : World) (B : Nat) (e : TypeId) (v : Value) (xs : List Int) : Prop := (∀ k, v.ownBlock = some k → S k) ∧ w.ownsRow B e 1 v xs.length (xs.map (Value.int .i64))
section
variable {S R : Nat → Prop} {w w' : World} {B : Nat} {e : TypeId} {v : Value} {xs : List Int}
theorem OwnS.keep (h : OwnS S w B e v xs) (hu : Upd R w w') (hS : ∀ k, S k → ¬ R k) : OwnS S w' B e v xs := by
  obtain ⟨h0, h1⟩ := h
  refine ⟨h0, h1.1, ?_⟩
  rcases h1.2 with e | ⟨g, cap, cur, rfl, hg, hc, hrest⟩
  · exact .inl e
  · exact .inr ⟨g, cap, cur, rfl, hg, (hu.block g (Array.getElem?_eq_some_iff.1 hc).1 (hS g (h0 g rfl))).trans hc, hrest⟩
theorem OwnS.none (S : Nat → Prop) (w : World) (B : Nat) (e : TypeId) : OwnS S w B e (.slice none 0 0) [] := ⟨fun k hk => by simp [Value.ownBlock] at hk, rfl, .inl ⟨rfl, rfl⟩⟩
theorem own_lt' {base n : Nat} {ys : List Value} (h : w.ownsRow base e 1 v n ys) : ∀ g, v.ownBlock = some g → g < w.heap.size := fun g hg => by
  rcases h.2 with ⟨rfl, _⟩ | ⟨g', cap, cur, rfl, _, hc, _⟩
  · simp [Value.ownBlock] at hg
  · simp [Value.ownBlock] at hg; subst hg; exact (Array.getElem?_eq_some_iff.1 hc).1
theorem OwnS.step {S' : Nat → Prop} {x : Int} {o : Obj} {v' : Value} (h : OwnS S w B e v xs) (hown : w'.ownsRow B e 1 v' (xs.length + 1) (xs.map (Value.int .i64) ++ [.int .i64 x])) (hv : v'.ownBlock = v.ownBlock ∨ v'.ownBlock = some (w.alloc o).heap.size)
    (hS : ∀ k, S k → S' k) (hS1 : w.heap.size + 1 < w'.heap.size → S' (w.heap.size + 1)) : OwnS S' w' B e v' (xs ++ [x]) :=
  ⟨fun k hk => by
    rcases hv with e | e
    · exact hS k (h.1 k (e ▸ hk))
    · have hlt := own_lt' hown k hk
      rw [e] at hk; simp at hk; subst hk; exact hS1 hlt, by rw [List.length_append, List.map_append]; exact hown⟩
end

/-- A row whose cells are told, in a block from lo up to less than hi (empty ones may lie anywhere). -/
def RowC (w : World) (lo hi : Nat) (A : Option Addr) (n : Nat) (xs : List Int) : Prop :=
  xs.length = n ∧ (0 < n → ∃ b, A = some ⟨b, 0, none⟩ ∧ lo ≤ b ∧ b < hi ∧ ∀ j, j < n → w.cell? ⟨b, j, none⟩ = some (.int .i64 (xs[j]?.getD 0)))
section
variable {w w' : World} {lo hi n : Nat} {A : Option Addr} {xs : List Int} {R : Nat → Prop}
theorem RowC.len (h : RowC w lo hi A n xs) : xs.length = n := h.1
theorem RowC.nil (w : World) (lo hi : Nat) (A : Option Addr) : RowC w lo hi A 0 [] := ⟨rfl, fun h => absurd h (by omega)⟩
theorem RowC.ints (h : RowC w lo hi A n xs) {B : Nat} (hB : hi ≤ B) : Ints w B A n xs :=
  ⟨h.1, fun hn => by
    obtain ⟨b, e, _, hb, hc⟩ := h.2 hn
    exact ⟨b, 0, e, by omega, fun j hj => by rw [Nat.zero_add]; exact hc j hj⟩⟩
theorem RowC.upd (h : RowC w lo hi A n xs) (hu : Upd R w w') (hr : ∀ j, R j → j < lo ∨ hi ≤ j) : RowC w' lo hi A n xs :=
  ⟨h.1, fun hn => by
    obtain ⟨b, e, hl, hb, hc⟩ := h.2 hn
    exact ⟨b, e, hl, hb, fun j hj => hu.cell (hc j hj) (fun hr' => by have := hr b hr'; omega)⟩⟩
theorem RowC.below {B : Nat} (h : RowC w lo hi A n xs) (hu : Below B w w') (hB : hi ≤ B) : RowC w' lo hi A n xs := h.upd (Below.toUpd hu) (fun j hj => by omega)
theorem RowC.more {lo' hi' : Nat} (h : RowC w lo hi A n xs) (h1 : lo' ≤ lo) (h2 : hi ≤ hi') : RowC w lo' hi' A n xs :=
  ⟨h.1, fun hn => by
    obtain ⟨b, e, hl, hb, hc⟩ := h.2 hn
    exact ⟨b, e, by omega, by omega, hc⟩⟩
theorem Row.told (h : Row w lo hi A n xs) : RowC w lo hi A n xs :=
  ⟨h.1, fun hn => by
    obtain ⟨b, ys, e, hl, hb, hA⟩ := h.2 hn
    exact ⟨b, e, hl, hb, fun j hj => by
      have hl := h.1
      rw [hA.cell (by rw [List.length_append]; omega), List.getElem?_append_left (by omega)]⟩⟩
/-- A grown row's cells. -/
theorem rowC_of_own {base m : Nat} {e : TypeId} {v : Value} (h : w.ownsRow base e 1 v m (xs.map (Value.int .i64))) : ∃ A c, v = .slice A m c ∧ RowC w base w.heap.size A m xs := by
  obtain ⟨A, c, rfl, hI, hA⟩ := ints_of_own_at h
  refine ⟨A, c, rfl, hI.1, fun hn => ?_⟩
  rcases h.2 with ⟨e, _⟩ | ⟨g, cap, cur, e, hg, hgc, _⟩
  · cases e; omega
  · cases e
    refine ⟨g, rfl, hg, (Array.getElem?_eq_some_iff.1 hgc).1, fun j hj => ?_⟩
    obtain ⟨b, off, e1, hb, hc⟩ := hI.2 hn
    cases e1
    have := hc j hj
    rwa [Nat.zero_add] at this
end
/-- What a function that hands back a new row of numbers does: its cells told. -/
def GivesRowC (w : World) (xs : List Int) (e : Ending) (w' : World) : Prop := ∃ A n c, e = .returned (.slice A n c) ∧ RowC w' w.heap.size w'.heap.size A n xs ∧ Below w.heap.size w w'
end Go.Proofs.YtogiooecjfnkcaaDoor

/- IsLattice: the program's. -/
namespace Go.Proofs.YtogiooecjfnkcaaDoor
open Go.RowKit Go.Shelf
attribute [local go_sem] Oper.semAt_some
attribute [local go_sem, local simp] wide_fn

theorem OwnS.keepLt {S R : Nat → Prop} {w w' : World} {B : Nat} {e : TypeId} {v : Value} {xs : List Int} (h : OwnS S w B e v xs) (hu : Upd R w w') (hS : ∀ k, S k → k < w.heap.size → ¬ R k) : OwnS S w' B e v xs := by
  obtain ⟨h0, h1⟩ := h
  refine ⟨h0, h1.1, ?_⟩
  rcases h1.2 with e | ⟨g, cap, cur, rfl, hg, hc, hrest⟩
  · exact .inl e
  · have hl := (Array.getElem?_eq_some_iff.1 hc).1
    exact .inr ⟨g, cap, cur, rfl, hg, (hu.block g hl (hS g (h0 g rfl) hl)).trans hc, hrest⟩
/-- A table under way: n rows, of which none from a on has begun. -/
def TabAt (w : World) (bt n a : Nat) : Prop := ∃ cs : Array Value, w.heap[bt]? = some (.cells cs 22 (0, 0)) ∧ cs.size = n ∧ ∀ i, a ≤ i → i < n → cs[i]? = some (.slice none 0 0)
theorem TabAt.keep {w w' : World} {bt n a : Nat} (h : TabAt w bt n a) (hk : w'.heap[bt]? = w.heap[bt]?) : TabAt w' bt n a := by
  obtain ⟨cs, h1, h2, h3⟩ := h
  exact ⟨cs, hk.trans h1, h2, h3⟩
theorem TabAt.lt {w : World} {bt n a : Nat} (h : TabAt w bt n a) : bt < w.heap.size := by
  obtain ⟨cs, h1, _⟩ := h
  exact (Array.getElem?_eq_some_iff.1 h1).1
theorem TabAt.more {w : World} {bt n a b : Nat} (h : TabAt w bt n a) (hab : a ≤ b) : TabAt w bt n b := by
  obtain ⟨cs, h1, h2, h3⟩ := h
  exact ⟨cs, h1, h2, fun i hi hn => h3 i (by omega) hn⟩
theorem TabAt.set {w : World} {bt n a : Nat} (h : TabAt w bt n (a + 1)) (v : Value) : TabAt (w.setCell ⟨bt, a, none⟩ v) bt n (a + 1) := by
  obtain ⟨cs, h1, h2, h3⟩ := h
  refine ⟨cs.setIfInBounds a v, by simp [World.setCell, Array.getElem?_modify, h1], by simpa using h2, fun i hi hn => ?_⟩
  have hne : ¬ a = i := by omega
  rw [Array.getElem?_setIfInBounds, if_neg hne]
  exact h3 i hi hn
theorem TabAt.cell {w : World} {bt n a : Nat} (h : TabAt w bt n a) {i : Nat} (hi : i < n) : ∃ u, w.cell? ⟨bt, i, none⟩ = some u := by
  obtain ⟨cs, h1, h2, _⟩ := h
  exact ⟨cs[i]'(by omega), by rw [cell_of_row _ _ _ _ _ _ h1, Array.getElem?_eq_getElem]⟩
theorem TabAt.cellNil {w : World} {bt n a : Nat} (h : TabAt w bt n a) {i : Nat} (ha : a ≤ i) (hi : i < n) : w.cell? ⟨bt, i, none⟩ = some (.slice none 0 0) := by
  obtain ⟨cs, h1, h2, h3⟩ := h
  rw [cell_of_row _ _ _ _ _ _ h1]
  exact h3 i ha hi
theorem TabAt.setAt {w : World} {bt n a : Nat} (h : TabAt w bt n (a + 1)) (ha : a < n) (v : Value) : (w.setCell ⟨bt, a, none⟩ v).cell? ⟨bt, a, none⟩ = some v := by
  obtain ⟨cs, h1, h2, _⟩ := h
  have h4 : (w.setCell ⟨bt, a, none⟩ v).heap[bt]? = some (.cells (cs.setIfInBounds a v) 22 (0, 0)) := by simp [World.setCell, Array.getElem?_modify, h1]
  rw [cell_of_row _ _ _ _ _ _ h4, Array.getElem?_setIfInBounds_self_of_lt (by omega)]
theorem TabAt.frozen {w : World} {bt n a : Nat} (h : TabAt w bt n a) (i : Nat) : w.frozen? ⟨bt, i, none⟩ = false := by
  obtain ⟨cs, h1, _⟩ := h
  simp [World.frozen?, h1]

/-- What the table of joins comes to: all, or the error. -/
def Tabbed_join (zs : List Int) (e : Ending) : Prop := (JoinsOk zs ∧ ∃ B m c, e = .returned (.tuple #[.slice B m c, .nilIface])) ∨ (¬ JoinsOk zs ∧ ∃ x y : Int, e = .returned (.tuple #[.slice none 0 0, .iface 67 (.agg #[.int .i64 x, .int .i64 y])]))
set_option maxRecDepth 100000 in
set_option maxHeartbeats 4000000 in
theorem otab_join_any (A : Option Addr) (n c : Nat) (zs : List Int) (hv : Sets zs) (w : World) (hA : Ints w w.heap.size A n zs) :
    Calls Tryd.prog 61 #[.slice A n c, .func (.func 28) #[.slice A n c] #[]] w fun e W' => Tabbed_join zs e ∧ Below w.heap.size w W' := by
  obtain ⟨i0, hi0, hz0, hz1, hz2⟩ := info_parts infoInt
  have hlen := Lib.hid hA.len
  have hn6 : n ≤ 6 := by have := hv.1; rw [hlen.out] at this; exact this
  have Hdl := Lib.hid (show zs.length = n by first | exact hlen.out | (rw [du_len]; exact hlen.out))
  have hmk := run_make_row' (P := Tryd.prog) 40 22 (.slice none 0 0) 24 Tryd.underlying40 infoRow rfl .i64 .i64 n (by omega) (by omega)
  go_enter Tryd.func61, Tryd.ntmps61
  go_wp2_with fail
  have hT0 : TabAt (w.alloc (.cells (madeCells #[Value.slice none 0 0] n) 22)) w.heap.size n 0 := ⟨_, heap_alloc_new w _, by simp [madeCells], fun i _ hi => by simp [madeCells, hi, Nat.mod_one]⟩
  have hB0 : Below w.heap.size w (w.alloc (.cells (madeCells #[Value.slice none 0 0] n) 22)) := (Below.refl _ _).alloc (Nat.le_refl _) _
  have hw0 : w.heap.size < (w.alloc (.cells (madeCells #[Value.slice none 0 0] n) 22)).heap.size := by simp
  obtain ⟨W0, hW0⟩ : ∃ W0, w.alloc (.cells (madeCells #[Value.slice none 0 0] n) 22) = W0 := ⟨_, rfl⟩
  rw [hW0] at hT0 hB0 hw0 ⊢
  clear hW0 hmk
  go_loopw [16] (fun i wr => ∃ a : Nat, a ≤ n ∧ i = .int .i64 a ∧ TabAt wr w.heap.size n a ∧ Below w.heap.size w wr ∧ w.heap.size < wr.heap.size ∧ (∀ x, x < a → ∀ y, y < n → 0 ≤ joinI zs x y)) (fun i _ => n - (intOf i).toNat)
  case atStart => exact ⟨0, by omega, rfl, hT0, hB0, hw0, fun x hx => by omega⟩
  case round =>
    clear hT0 hB0 hw0
    obtain ⟨a, ha, rfl, hT, hB, hw, hall⟩ := hrel
    have Hall := Lib.hid hall
    clear hall
    by_cases hlt : a < n
    · rename World => wa
      go_wp2
      go_loopw [21] (fun i wr => ∃ (b : Nat) (v : Value) (xs : List Int), b ≤ n ∧ i = .int .i64 b ∧ TabAt wr w.heap.size n (a + 1) ∧ wr.cell? ⟨w.heap.size, a, none⟩ = some v ∧ OwnS (fun k => wa.heap.size ≤ k) wr w.heap.size 3 v xs ∧ xs.length = b ∧ Upd (fun k => k = w.heap.size) wa wr ∧ (∀ y, y < b → 0 ≤ joinI zs a y)) (fun i _ => n - (intOf i).toNat)
      case atStart => exact ⟨0, .slice none 0 0, [], by omega, rfl, hT.more (by omega), hT.cellNil (Nat.le_refl _) hlt, OwnS.none _ _ _ _, rfl, Upd.refl _ _, fun y hy => by omega⟩
      case round =>
        obtain ⟨b, v, xs, hb, rfl, hTr, hcv, hO, hxl, hU, hrow⟩ := hrel
        have Hrow := Lib.hid hrow
        clear hrow
        rename World => wr
        have zr := hU.size
        by_cases hbn : b < n
        · have hBr : Below w.heap.size w wr := hB.trans (hU.toBelow (fun k e => by omega) (by omega))
          have hAr : Ints wr wr.heap.size A n zs := hA.to hBr (Nat.le_refl _) (by omega)
          have hjb := joinI_bd zs a b
          by_cases hneg : joinI zs a b < 0
          · have HV := Lib.hid (show joinV zs a b = .tuple #[.int .i64 0, .iface 67 (.agg #[.int .i64 (a : Int), .int .i64 (b : Int)])] by unfold joinV; rw [if_pos hneg])
            have HN := Lib.hid (show ¬ JoinsOk zs from fun hok => by have := hok a (by rw [Hdl.out]; exact hlt) b (by rw [Hdl.out]; exact hbn); omega)
            clear hneg hjb
            go_wp2_with fail
            refine (ojoin_any A n c zs a b hv wr hAr hlt hbn).mono ?_
            rw [HV.out]
            rintro e w2 ⟨rfl, hB2⟩
            go_wp2_with fail
            go_ret2
            exact ⟨.inr ⟨HN.out, _, _, rfl⟩, hBr.trans (hB2.mono (by omega))⟩
          · have HV := Lib.hid (show joinV zs a b = .tuple #[.int .i64 (joinI zs a b), .nilIface] by unfold joinV; rw [if_neg hneg])
            have HP := Lib.hid (show 0 ≤ joinI zs a b by omega)
            clear hneg hjb
            generalize hJ : joinI zs a b = J at *
            have HJ := Lib.hid hJ
            clear hJ
            go_wp2_with fail
            refine (ojoin_any A n c zs a b hv wr hAr hlt hbn).mono ?_
            rw [HV.out]
            rintro e w2 ⟨rfl, hB2⟩
            have z2 := hB2.size
            have hT2 : TabAt w2 w.heap.size n (a + 1) := hTr.keep (hB2.block _ (by omega))
            have hc2 : w2.cell? ⟨w.heap.size, a, none⟩ = some v := (hB2.cell (p := ⟨w.heap.size, a, none⟩) (by show w.heap.size < _; omega)).trans hcv
            have hO2 : OwnS (fun k => wa.heap.size ≤ k) w2 w.heap.size 3 v xs := OwnS.keepLt hO (Below.toUpd hB2) (fun k h1 h2 e => by omega)
            have hU2 : Upd (fun k => k = w.heap.size) wa w2 := hU.below hB2 (fun k h1 h2 => by omega)
            have hf2 := hT2.frozen a
            go_wp2_with (at_builtin; refine wpList_append1 _ rfl (.tmp 39) (.tmp 41) _ rfl w.heap.size 3 i0 _ 8 Tryd.underlying22 hi0 hz0 hz1 hz2 rfl _ xs.length _ rfl (hO2.2.alloc _) w2.heap.size 1 (.int .i64 J) rfl (cell_new _ _ _) rfl (by omega) (by omega) (by simp; omega) ?_; rintro v' w' hown' hg' hv'; obtain ⟨g', cap', rfl⟩ := ownsRow_succ hown'; have hgu : Upd (fun k => wa.heap.size ≤ k) w2 w' := ((Upd.refl (fun k => wa.heap.size ≤ k) w2).alloc _).grown hg' (fun k hk => .inr (hO2.1 k hk)); have hT3 : TabAt w' w.heap.size n (a + 1) := hT2.keep (hgu.block _ (by omega) (fun e => by omega)); have hc3 := hgu.cell hc2 (fun e => by simp at e; omega); have hf3 := hT3.frozen a)
            rename_i w'
            have hgu : Upd (fun k => wa.heap.size ≤ k) w2 w' := ((Upd.refl (fun k => wa.heap.size ≤ k) w2).alloc _).grown hg' (fun k hk => .inr (hO2.1 k hk))
            have hT3 : TabAt w' w.heap.size n (a + 1) := hT2.keep (hgu.block _ (by omega) (fun e => by omega))
            have zg := hg'.size
            simp at zg
            have hO3 := hO2.step (S' := fun k => wa.heap.size ≤ k) hown' hv' (fun k e => e) (fun _ => by omega)
            have hU3 : Upd (fun k => k = w.heap.size) wa w' := (hU2.alloc _).grown hg' (fun k hk => .inl (hO2.1 k hk))
            have hus : Upd (fun k => k = w.heap.size) w' (w'.setCell ⟨w.heap.size, a, none⟩ (.slice (some ⟨g', 0, none⟩) (xs.length + 1) cap')) := (Upd.refl (fun k => k = w.heap.size) w').setCell (p := ⟨w.heap.size, a, none⟩) (.inr rfl) _
            rw [hxl] at hO3 hus
            go_roundw
            case rel => exact ⟨b + 1, _, xs ++ [J], by omega, by go_num, hT3.set _, hT3.setAt hlt _, hO3.keepLt hus (fun k h1 h2 e => by omega), by simp [hxl], hU3.setCell (p := ⟨w.heap.size, a, none⟩) (.inr rfl) _, all_snoc Hrow.out (by rw [HJ.out]; exact HP.out)⟩
            case measure => simp [intOf]; omega
        · obtain rfl : b = n := by omega
          go_wp2
          go_roundw
          case rel => exact ⟨a + 1, by omega, by go_num, hTr, hB.trans (hU.toBelow (fun k e => by omega) (by omega)), by omega, all_snoc Hall.out Hrow.out⟩
          case measure => simp [intOf]; omega
    · obtain rfl : a = n := by omega
      go_wp2
      go_ret2
      exact ⟨.inl ⟨fun x hx y hy => Hall.out x (by rw [← Hdl.out]; exact hx) y (by rw [← Hdl.out]; exact hy), _, _, _, rfl⟩, hB⟩

/-- What the table of meets comes to: all, or the error. -/
def Tabbed_meet (zs : List Int) (e : Ending) : Prop := (JoinsOk (du zs) ∧ ∃ B m c, e = .returned (.tuple #[.slice B m c, .nilIface])) ∨ (¬ JoinsOk (du zs) ∧ ∃ x y : Int, e = .returned (.tuple #[.slice none 0 0, .iface 67 (.agg #[.int .i64 x, .int .i64 y])]))
set_option maxRecDepth 100000 in
set_option maxHeartbeats 4000000 in
theorem otab_meet_any (A : Option Addr) (n c : Nat) (zs : List Int) (hv : Sets zs) (w : World) (hA : Ints w w.heap.size A n zs) :
    Calls Tryd.prog 61 #[.slice A n c, .func (.func 30) #[.slice A n c] #[]] w fun e W' => Tabbed_meet zs e ∧ Below w.heap.size w W' := by
  obtain ⟨i0, hi0, hz0, hz1, hz2⟩ := info_parts infoInt
  have hlen := Lib.hid hA.len
  have hn6 : n ≤ 6 := by have := hv.1; rw [hlen.out] at this; exact this
  have Hdl := Lib.hid (show (du zs).length = n by first | exact hlen.out | (rw [du_len]; exact hlen.out))
  have hmk := run_make_row' (P := Tryd.prog) 40 22 (.slice none 0 0) 24 Tryd.underlying40 infoRow rfl .i64 .i64 n (by omega) (by omega)
  go_enter Tryd.func61, Tryd.ntmps61
  go_wp2_with fail
  have hT0 : TabAt (w.alloc (.cells (madeCells #[Value.slice none 0 0] n) 22)) w.heap.size n 0 := ⟨_, heap_alloc_new w _, by simp [madeCells], fun i _ hi => by simp [madeCells, hi, Nat.mod_one]⟩
  have hB0 : Below w.heap.size w (w.alloc (.cells (madeCells #[Value.slice none 0 0] n) 22)) := (Below.refl _ _).alloc (Nat.le_refl _) _
  have hw0 : w.heap.size < (w.alloc (.cells (madeCells #[Value.slice none 0 0] n) 22)).heap.size := by simp
  obtain ⟨W0, hW0⟩ : ∃ W0, w.alloc (.cells (madeCells #[Value.slice none 0 0] n) 22) = W0 := ⟨_, rfl⟩
  rw [hW0] at hT0 hB0 hw0 ⊢
  clear hW0 hmk
  go_loopw [16] (fun i wr => ∃ a : Nat, a ≤ n ∧ i = .int .i64 a ∧ TabAt wr w.heap.size n a ∧ Below w.heap.size w wr ∧ w.heap.size < wr.heap.size ∧ (∀ x, x < a → ∀ y, y < n → 0 ≤ joinI (du zs) x y)) (fun i _ => n - (intOf i).toNat)
  case atStart => exact ⟨0, by omega, rfl, hT0, hB0, hw0, fun x hx => by omega⟩
  case round =>
    clear hT0 hB0 hw0
    obtain ⟨a, ha, rfl, hT, hB, hw, hall⟩ := hrel
    have Hall := Lib.hid hall
    clear hall
    by_cases hlt : a < n
    · rename World => wa
      go_wp2
      go_loopw [21] (fun i wr => ∃ (b : Nat) (v : Value) (xs : List Int), b ≤ n ∧ i = .int .i64 b ∧ TabAt wr w.heap.size n (a + 1) ∧ wr.cell? ⟨w.heap.size, a, none⟩ = some v ∧ OwnS (fun k => wa.heap.size ≤ k) wr w.heap.size 3 v xs ∧ xs.length = b ∧ Upd (fun k => k = w.heap.size) wa wr ∧ (∀ y, y < b → 0 ≤ joinI (du zs) a y)) (fun i _ => n - (intOf i).toNat)
      case atStart => exact ⟨0, .slice none 0 0, [], by omega, rfl, hT.more (by omega), hT.cellNil (Nat.le_refl _) hlt, OwnS.none _ _ _ _, rfl, Upd.refl _ _, fun y hy => by omega⟩
      case round =>
        obtain ⟨b, v, xs, hb, rfl, hTr, hcv, hO, hxl, hU, hrow⟩ := hrel
        have Hrow := Lib.hid hrow
        clear hrow
        rename World => wr
        have zr := hU.size
        by_cases hbn : b < n
        · have hBr : Below w.heap.size w wr := hB.trans (hU.toBelow (fun k e => by omega) (by omega))
          have hAr : Ints wr wr.heap.size A n zs := hA.to hBr (Nat.le_refl _) (by omega)
          have hjb := joinI_bd (du zs) a b
          by_cases hneg : joinI (du zs) a b < 0
          · have HV := Lib.hid (show joinV (du zs) a b = .tuple #[.int .i64 0, .iface 67 (.agg #[.int .i64 (a : Int), .int .i64 (b : Int)])] by unfold joinV; rw [if_pos hneg])
            have HN := Lib.hid (show ¬ JoinsOk (du zs) from fun hok => by have := hok a (by rw [Hdl.out]; exact hlt) b (by rw [Hdl.out]; exact hbn); omega)
            clear hneg hjb
            go_wp2_with fail
            refine (omeet_any A n c zs a b hv wr hAr hlt hbn).mono ?_
            rw [HV.out]
            rintro e w2 ⟨rfl, hB2⟩
            go_wp2_with fail
            go_ret2
            exact ⟨.inr ⟨HN.out, _, _, rfl⟩, hBr.trans (hB2.mono (by omega))⟩
          · have HV := Lib.hid (show joinV (du zs) a b = .tuple #[.int .i64 (joinI (du zs) a b), .nilIface] by unfold joinV; rw [if_neg hneg])
            have HP := Lib.hid (show 0 ≤ joinI (du zs) a b by omega)
            clear hneg hjb
            generalize hJ : joinI (du zs) a b = J at *
            have HJ := Lib.hid hJ
            clear hJ
            go_wp2_with fail
            refine (omeet_any A n c zs a b hv wr hAr hlt hbn).mono ?_
            rw [HV.out]
            rintro e w2 ⟨rfl, hB2⟩
            have z2 := hB2.size
            have hT2 : TabAt w2 w.heap.size n (a + 1) := hTr.keep (hB2.block _ (by omega))
            have hc2 : w2.cell? ⟨w.heap.size, a, none⟩ = some v := (hB2.cell (p := ⟨w.heap.size, a, none⟩) (by show w.heap.size < _; omega)).trans hcv
            have hO2 : OwnS (fun k => wa.heap.size ≤ k) w2 w.heap.size 3 v xs := OwnS.keepLt hO (Below.toUpd hB2) (fun k h1 h2 e => by omega)
            have hU2 : Upd (fun k => k = w.heap.size) wa w2 := hU.below hB2 (fun k h1 h2 => by omega)
            have hf2 := hT2.frozen a
            go_wp2_with (at_builtin; refine wpList_append1 _ rfl (.tmp 39) (.tmp 41) _ rfl w.heap.size 3 i0 _ 8 Tryd.underlying22 hi0 hz0 hz1 hz2 rfl _ xs.length _ rfl (hO2.2.alloc _) w2.heap.size 1 (.int .i64 J) rfl (cell_new _ _ _) rfl (by omega) (by omega) (by simp; omega) ?_; rintro v' w' hown' hg' hv'; obtain ⟨g', cap', rfl⟩ := ownsRow_succ hown'; have hgu : Upd (fun k => wa.heap.size ≤ k) w2 w' := ((Upd.refl (fun k => wa.heap.size ≤ k) w2).alloc _).grown hg' (fun k hk => .inr (hO2.1 k hk)); have hT3 : TabAt w' w.heap.size n (a + 1) := hT2.keep (hgu.block _ (by omega) (fun e => by omega)); have hc3 := hgu.cell hc2 (fun e => by simp at e; omega); have hf3 := hT3.frozen a)
            rename_i w'
            have hgu : Upd (fun k => wa.heap.size ≤ k) w2 w' := ((Upd.refl (fun k => wa.heap.size ≤ k) w2).alloc _).grown hg' (fun k hk => .inr (hO2.1 k hk))
            have hT3 : TabAt w' w.heap.size n (a + 1) := hT2.keep (hgu.block _ (by omega) (fun e => by omega))
            have zg := hg'.size
            simp at zg
            have hO3 := hO2.step (S' := fun k => wa.heap.size ≤ k) hown' hv' (fun k e => e) (fun _ => by omega)
            have hU3 : Upd (fun k => k = w.heap.size) wa w' := (hU2.alloc _).grown hg' (fun k hk => .inl (hO2.1 k hk))
            have hus : Upd (fun k => k = w.heap.size) w' (w'.setCell ⟨w.heap.size, a, none⟩ (.slice (some ⟨g', 0, none⟩) (xs.length + 1) cap')) := (Upd.refl (fun k => k = w.heap.size) w').setCell (p := ⟨w.heap.size, a, none⟩) (.inr rfl) _
            rw [hxl] at hO3 hus
            go_roundw
            case rel => exact ⟨b + 1, _, xs ++ [J], by omega, by go_num, hT3.set _, hT3.setAt hlt _, hO3.keepLt hus (fun k h1 h2 e => by omega), by simp [hxl], hU3.setCell (p := ⟨w.heap.size, a, none⟩) (.inr rfl) _, all_snoc Hrow.out (by rw [HJ.out]; exact HP.out)⟩
            case measure => simp [intOf]; omega
        · obtain rfl : b = n := by omega
          go_wp2
          go_roundw
          case rel => exact ⟨a + 1, by omega, by go_num, hTr, hB.trans (hU.toBelow (fun k e => by omega) (by omega)), by omega, all_snoc Hall.out Hrow.out⟩
          case measure => simp [intOf]; omega
    · obtain rfl : a = n := by omega
      go_wp2
      go_ret2
      exact ⟨.inl ⟨fun x hx y hy => Hall.out x (by rw [← Hdl.out]; exact hx) y (by rw [← Hdl.out]; exact hy), _, _, _, rfl⟩, hB⟩
end Go.Proofs.YtogiooecjfnkcaaDoor

/- IsLattice: the model's. -/
namespace Go.Proofs.YtogiooecjfnkcaaDoor
open Go.RowKit Go.Shelf
attribute [local go_sem] Oper.semAt_some
attribute [local go_sem, local simp] wide_fn

set_option maxHeartbeats 2000000 in
theorem sisLat_any (A : Option Addr) (n c : Nat) (zs : List Int) (w : World) (h : Ints w w.heap.size A n zs) (hvo : VoP zs) :
    Calls Tryd.prog 31 #[.slice A n c] w fun e w' => e = .returned (.bool (latB zs)) ∧ Below w.heap.size w w' := by
  have hlen := Lib.hid h.len
  have hn6 : n ≤ 6 := by have := hvo.1; rw [hlen.out] at this; exact this
  have Hd := Lib.hid (show downP n (pairsL zs) = du zs by unfold du; rw [hlen.out])
  have hds := du_sets hvo.sets
  go_enter Tryd.func31, Tryd.ntmps31
  go_wp2_with fail
  refine (downOf_any _ _ _ zs _ h hvo.sets).mono ?_
  rintro e w2 ⟨rfl, hA2, hB2⟩
  rw [Hd.out] at hA2
  have hD : Ints w2 w2.heap.size (some ⟨w.heap.size, 0, none⟩) n (du zs) := hA2.ints' hA2.lt (by rw [du_len, hlen.out])
  have hU := h.to hB2 (Nat.le_refl _) hB2.size
  clear hA2
  go_wp2_with fail
  go_loopw [4] (fun i wr => ∃ k q : Nat, k ≤ n ∧ i = .int .i64 k ∧ (∀ a, a < k → ∀ b, b < a → 0 ≤ joinI zs a b ∧ 0 ≤ joinI (du zs) a b) ∧ wr = w2.drewN q) (fun i _ => n - (intOf i).toNat)
  case atStart => exact ⟨0, 0, by omega, rfl, fun a ha => by omega, rfl⟩
  case round =>
    obtain ⟨k, q, hk, rfl, hall, rfl⟩ := hrel
    have Hall := Lib.hid hall
    clear hall
    by_cases hlt : k < n
    · go_wp2
      go_loopw [5] (fun i wr => ∃ j q : Nat, j ≤ k ∧ i = .int .i64 j ∧ (∀ b, b < j → 0 ≤ joinI zs k b ∧ 0 ≤ joinI (du zs) k b) ∧ wr = w2.drewN q) (fun i _ => k - (intOf i).toNat)
      case atStart => exact ⟨0, q, by omega, rfl, fun a ha => by omega, rfl⟩
      case round =>
        obtain ⟨j, q, hj, rfl, hrow, rfl⟩ := hrel
        have Hrow := Lib.hid hrow
        clear hrow
        by_cases hjk : j < k
        · by_cases h1 : joinI zs k j < 0
          · have HF := Lib.hid (lattice_not (zs := zs) (ds := zs) (a := k) (b := j) (.inl rfl) (by rw [hlen.out]; exact hlt) (by rw [hlen.out]; omega) h1)
            have hd1 : decide (joinI zs k j < 0) = true := decide_eq_true h1
            clear h1
            go_wp2_with fail
            refine (sjoin_any A n c _ zs k j _ (hU.drewN q) hvo.sets (by omega) (by omega)).mono ?_
            rintro e w3 ⟨rfl, m3, rfl⟩
            go_wp2_with fail
            go_ret
            exact ⟨ret_bool HF.out.symm, below_drewN hB2 _⟩
          · have hd1 : decide (joinI zs k j < 0) = false := decide_eq_false h1
            by_cases h2 : joinI (du zs) k j < 0
            · have HF := Lib.hid (lattice_not (zs := zs) (ds := du zs) (a := k) (b := j) (.inr rfl) (by rw [hlen.out]; exact hlt) (by rw [hlen.out]; omega) h2)
              have hd2 : decide (joinI (du zs) k j < 0) = true := decide_eq_true h2
              clear h1 h2
              go_wp2_with fail
              refine (sjoin_any A n c _ zs k j _ (hU.drewN q) hvo.sets (by omega) (by omega)).mono ?_
              rintro e w3 ⟨rfl, m3, rfl⟩
              go_wp2_with fail
              refine (sjoin_any _ n _ _ (du zs) k j _ (hD.drewN _) hds (by omega) (by omega)).mono ?_
              rintro e w4 ⟨rfl, m4, rfl⟩
              go_wp2_with fail
              go_ret
              exact ⟨ret_bool HF.out.symm, below_drewN hB2 _⟩
            · have hd2 : decide (joinI (du zs) k j < 0) = false := decide_eq_false h2
              have Hn := Lib.hid (show 0 ≤ joinI zs k j ∧ 0 ≤ joinI (du zs) k j by omega)
              clear h1 h2
              go_wp2_with fail
              refine (sjoin_any A n c _ zs k j _ (hU.drewN q) hvo.sets (by omega) (by omega)).mono ?_
              rintro e w3 ⟨rfl, m3, rfl⟩
              go_wp2_with fail
              refine (sjoin_any _ n _ _ (du zs) k j _ (hD.drewN _) hds (by omega) (by omega)).mono ?_
              rintro e w4 ⟨rfl, m4, rfl⟩
              go_wp2_with fail
              go_roundw
              case rel => exact ⟨j + 1, _, by omega, by go_num, all_snoc Hrow.out Hn.out, rfl⟩
              case measure => simp [intOf]; omega
        · obtain rfl : j = k := by omega
          go_wp2
          go_roundw
          case rel => exact ⟨j + 1, q, by omega, by go_num, all_snoc Hall.out Hrow.out, rfl⟩
          case measure => simp [intOf]; omega
    · obtain rfl : k = n := by omega
      have HF := Lib.hid (lattice_is (zs := zs) (joins_half fun a ha b hb => (Hall.out a (by rw [← hlen.out]; exact ha) b hb).1) (joins_half fun a ha b hb => (Hall.out a (by rw [du_len, hlen.out] at ha; exact ha) b hb).2))
      rw [hlen.out] at HF
      go_wp2
      go_ret
      exact ⟨ret_bool (by rw [HF.out]), below_drewN hB2 _⟩

theorem specIsLatticeF_any (A : Option Addr) (n c : Nat) (zs : List Int) (w : World) (h : Ints w w.heap.size A n zs) (hbig : n ≤ 1152921504606846976) :
    Calls Tryd.prog 15 #[.slice A n c] w fun e w' => e = .returned (.bool (latR zs)) ∧ Below w.heap.size w w' := by
  have hlen := Lib.hid h.len
  cases hv : vo zs
  · have Ht := Lib.hid (show latR zs = false by unfold latR; rw [hv]; rfl)
    go_enter Tryd.func15, Tryd.ntmps15
    go_wp2_with fail
    refine (validOrder_any _ _ _ _ zs _ h hbig).mono ?_
    rw [hv]
    rintro e w' ⟨rfl, m, rfl⟩
    go_wp2_with fail
    go_ret
    exact ⟨ret_bool Ht.out.symm, below_drewN (Below.refl _ _) _⟩
  · have hvo : VoP zs := by simpa [vo] using hv
    have Ht := Lib.hid (show latR zs = latB zs by unfold latR; rw [hv]; rfl)
    go_enter Tryd.func15, Tryd.ntmps15
    go_wp2_with fail
    refine (validOrder_any _ _ _ _ zs _ h hbig).mono ?_
    rw [hv]
    rintro e w1 ⟨rfl, m, hm⟩
    have hB : Below w.heap.size w w1 := by rw [hm]; exact below_drewN (Below.refl _ _) _
    have hI := h.to hB (Nat.le_refl _) hB.size
    clear hm hv
    go_wp2_with fail
    refine (sisLat_any A n c zs w1 hI hvo).mono ?_
    rintro e w2 ⟨rfl, hB2⟩
    go_wp2_with fail
    go_ret
    exact ⟨ret_bool Ht.out.symm, hB.trans (hB2.mono hB.size)⟩
end Go.Proofs.YtogiooecjfnkcaaDoor

/- Marks: a set as six bools in an array; made, read, compared; what is below a set, and whether it is an ideal: the program's. -/
namespace Go.Proofs.YtogiooecjfnkcaaDoor
open Go.RowKit Go.Shelf
attribute [local go_sem] Oper.semAt_some
attribute [local go_sem, local simp] wide_fn

/-- The six marks of a set. -/
def mkV (s : Int) : Array Value := ((List.range 6).map fun j : Nat => Value.bool (bitB s j)).toArray
theorem mkV_size (s : Int) : (mkV s).size = 6 := by simp [mkV]
theorem mkV_get (s : Int) {j : Nat} (hj : j < 6) : (mkV s)[j]? = some (.bool (bitB s j)) := by
  simp [mkV, hj]
theorem mkV_one (s : Int) : (mkV s).all (·.oneCell') = true := by
  refine Array.all_eq_true.2 fun i hi => ?_
  simp [mkV, Value.oneCell']
theorem mkV_set (s : Int) {k : Nat} (_hk : k < 6) : (mkV s).setIfInBounds k (.bool true) = mkV (orI s (powI k)) := by
  refine Array.ext (by simp [mkV_size]) fun j h1 h2 => ?_
  rw [Array.getElem_setIfInBounds (by simpa using h1)]
  simp only [mkV, List.getElem_toArray, List.getElem_map, List.getElem_range, bitB_or, bitB_pow]
  by_cases h : k = j
  · simp [h]
  · simp [h]
theorem mkV_none : mkV 0 = #[.bool false, .bool false, .bool false, .bool false, .bool false, .bool false] := by
  simp [mkV, bitB_zero, List.range_succ]

section
variable {P : Program} (w : World)
theorem part_mkV {e : TypeId} (he : P.underlying e = some .bool) (s : Int) {i : Nat} (hi : i < 6) : (part e (mkV s) (i * 1)).run P w = .ok (.bool (bitB s i)) w := by
  have h := mkV_get s hi
  have h6 := mkV_size s
  rw [Array.getElem?_eq_getElem (by omega)] at h
  simp only [Option.some.injEq] at h
  simp [part, isAgg, run_underlying he, h6, hi, h]
theorem eqItems_mkV {e : TypeId} (he : P.underlying e = some .bool) (d : Nat) (s t : Int) : ∀ l : List Nat, (∀ i ∈ l, i < 6) →
    (Op.eqItems (d + 1) e 1 (mkV s) (mkV t) l).run P w = .ok (l.all fun i : Nat => bitB s i == bitB t i) w
  | [], _ => by simp [Op.eqItems]
  | i :: l, h => by
    have ih := eqItems_mkV he d s t l (fun j hj => h j (by simp [hj]))
    have hi := h i (by simp)
    simp only [Op.eqItems, Sem.run_bind, part_mkV w he s hi, part_mkV w he t hi, Result.andThen_ok, run_equalIn_bool' w d e _ _ he]
    cases hb : (bitB s i == bitB t i)
    · simp [hb]
    · simp [hb, ih]
theorem run_eql_mkV {t e : TypeId} (hu : P.underlying t = some (.array 6 e)) (he : P.underlying e = some .bool) (hi : (P.info? e).isSome = true) (hc : P.cellsOf e = 1) (x y : Int) (hx0 : 0 ≤ x) (hx : x < 64) (hy0 : 0 ≤ y) (hy : y < 64) :
    (binOp .eql t (.agg (mkV x)) (.agg (mkV y))).run P w = .ok (.bool (x == y)) w := by
  obtain ⟨i, hi⟩ := Option.isSome_iff_exists.1 hi
  rw [run_eql_struct, run_equalIn_array w 9999 _ _ hu hi, hc, eqItems_mkV w he 9998 x y _ (fun i hi => by simpa using hi)]
  have key : ((List.range 6).all fun i : Nat => bitB x i == bitB y i) = (x == y) := by
    rw [Bool.eq_iff_iff, List.all_eq_true, beq_iff_eq]
    constructor
    · intro h
      refine bitB_ext hx0 hy0 fun j => ?_
      rcases Nat.lt_or_ge j 6 with hj | hj
      · simpa using h j (by simpa using hj)
      · have e1 : bitB x j = false := by
          cases e : bitB x j
          · rfl
          · have := bitB_lt (n := 6) hx e; omega
        have e2 : bitB y j = false := by
          cases e : bitB y j
          · rfl
          · have := bitB_lt (n := 6) hy e; omega
        rw [e1, e2]
    · rintro rfl; simp
  rw [key]
  rfl
end

theorem Upd.setRow {R : Nat → Prop} {a w : World} (h : Upd R a w) {g : Nat} (hp : a.heap.size ≤ g ∨ R g) (cs : Array Value) : Upd R a (w.setRow g cs) :=
  ⟨h.os, h.tape, h.output, by simpa using h.size, fun i hi hr => (setRow_other w g i cs (by
    rintro rfl
    rcases hp with hp | hp
    · omega
    · exact hr hp)).trans (h.block i hi hr)⟩

section
variable {F : Fence} {m : Nat} {P : Program} {w : World}
theorem wpListIn_load_row {ops : Array Oper} {rest : List Oper} {o : Oper} {a : Act} {Q : Exit → Act → World → Prop} (hgd : o.guard = none) (ty : TypeId) (x : Operand) (ho : o.op = .load ty x)
    (g : Nat) (hx : a.eval x = .pointer (some ⟨g, 0, none⟩)) (t : TypeId) (cs : Array Value) (fr : Nat × Nat) (d : TypeDesc) (hg : w.heap[g]? = some (.cells cs t fr))
    (hu : P.underlying ty = some d) (hd : (match d with | .struct _ | .array _ _ => true | _ => false) = true) (hi : (P.info? ty).map (·.size) = some cs.size)
    (h : wpListIn F m P ops Q rest (a.put o.dst (.agg cs)) w) : wpListIn F m P ops Q (o :: rest) a w := by
  refine wpListIn_plain hgd fun K hK => ?_
  unfold Oper.wpIn
  refine ⟨?_, ?_⟩
  · simp [Oper.about, ho]
  · rw [Oper.semAt_plain F _ _ (by rw [ho]; intro c hc'; cases hc')]
    simp only [execOp, ho, hx, Instr.loadAt, Instr.sureAddr, Sem.run_bind, Sem.run_pure, Result.andThen_ok, run_loadVar_row w g t ty cs fr d hg hu hd hi]
    exact hK _ _ h
theorem wpListIn_store_row {ops : Array Oper} {rest : List Oper} {o : Oper} {a : Act} {Q : Exit → Act → World → Prop} (hgd : o.guard = none) (ty : TypeId) (x y : Operand) (ho : o.op = .store ty x y)
    (g : Nat) (cells : Array Value) (hx : a.eval x = .pointer (some ⟨g, 0, none⟩)) (hy : a.eval y = .agg cells)
    (t : TypeId) (old : Array Value) (hg : w.heap[g]? = some (.cells old t (0, 0))) (hi : (P.info? ty).map (·.size) = some cells.size)
    (hold : old.size = cells.size) (h1 : cells.all (·.oneCell') = true)
    (h : wpListIn F m P ops Q rest (a.put o.dst undef) (w.setRow g cells)) : wpListIn F m P ops Q (o :: rest) a w := by
  refine wpListIn_plain hgd fun K hK => ?_
  unfold Oper.wpIn
  refine ⟨?_, ?_⟩
  · simp [Oper.about, ho]
  · rw [Oper.semAt_plain F _ _ (by rw [ho]; intro c hc'; cases hc')]
    simp only [execOp, ho, hx, hy, Instr.storeAt, Instr.sureAddr, Sem.run_bind, Sem.run_pure, Result.andThen_ok, run_storeVar_row w g t ty old cells hg hi hold h1]
    exact hK _ _ h
end
/-- In a region that draws its order: a whole variable's load, whose block reads the same in every world met. -/
theorem yieldsIf_load_row {P : Program} {ops : Array Oper} {S : World → Prop} {op : Oper} {a : Act} (hw : Region.wanted op (yielded ops a.tmps) = true) (ty : TypeId) (x : Operand) (ho : op.op = .load ty x)
    (g : Nat) (hx : a.eval x = .pointer (some ⟨g, 0, none⟩)) (t : TypeId) (cs : Array Value) (d : TypeDesc) (hS : ∀ w, S w → w.heap[g]? = some (.cells cs t (0, 0)))
    (hu : P.underlying ty = some d) (hd : (match d with | .struct _ | .array _ _ => true | _ => false) = true) (hi : (P.info? ty).map (·.size) = some cs.size) : YieldsIf P ops S op (.agg cs) a :=
  .inl ⟨hw, fun w hw' => by
    unfold execOp
    simp only [ho, hx, Instr.loadAt, Instr.sureAddr, Sem.run_bind, Sem.run_pure, Result.andThen_ok, run_loadVar_row w g t ty cs (0, 0) d (hS w hw') hu hd hi]⟩
end Go.Proofs.YtogiooecjfnkcaaDoor

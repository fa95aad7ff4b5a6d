/- The order of some items alone, numbered anew: it is an order, and is lined up in as many ways as they are. No program. -/
import Derived.Test.YtghogabmkbadjaaGc
import Derived.Test.YtghogabmkbadjaaSetM
set_option linter.unusedVariables false
set_option linter.unusedSimpArgs false
namespace Go.Proofs.Ytghogabmkbadjaa

theorem inc_ext : ∀ (l m : List Nat), l.Pairwise (· < ·) → m.Pairwise (· < ·) → (∀ a, a ∈ l ↔ a ∈ m) → l = m
  | [], [], _, _, _ => rfl
  | [], b :: m, _, _, h => by have := (h b).2 (by simp); cases this
  | a :: l, [], _, _, h => by have := (h a).1 (by simp); cases this
  | a :: l, b :: m, hl, hm, h => by
    rw [List.pairwise_cons] at hl hm
    have hab : a = b := by
      rcases List.mem_cons.1 ((h a).1 (by simp)) with e | e
      · exact e
      · rcases List.mem_cons.1 ((h b).2 (by simp)) with e2 | e2
        · exact e2.symm
        · have := hm.1 a e; have := hl.1 b e2; omega
    subst hab
    rw [inc_ext l m hl.2 hm.2 fun x => ?_]
    have hx := h x
    rw [List.mem_cons, List.mem_cons] at hx
    constructor
    · intro e
      rcases hx.1 (.inr e) with e2 | e2
      · have := hl.1 x e; omega
      · exact e2
    · intro e
      rcases hx.2 (.inr e) with e2 | e2
      · have := hm.1 x e; omega
      · exact e2
theorem range_inc (n : Nat) : (List.range n).Pairwise (· < ·) := List.pairwise_lt_range
/-- The numbers of z that l lists, by their places in l, up to k. -/
def rowTo (z : Int) (l : List Nat) : Nat → Int
  | 0 => 0
  | k + 1 => orI (rowTo z l k) (bitI z (l[k]?.getD 0) * powI k)
theorem bitI_mul (z j : Int) (k : Nat) : bitI z j * powI k = if bitB z j then powI k else 0 := by
  unfold bitI; split <;> simp
theorem rowTo_bd (z : Int) (l : List Nat) : ∀ k : Nat, 0 ≤ rowTo z l k ∧ rowTo z l k < powI k
  | 0 => by simp [rowTo, powI]
  | k + 1 => by
    have h := rowTo_bd z l k
    have hp : powI (k : Int) < powI ((k + 1 : Nat) : Int) := powI_lt (by omega)
    have h0 := powI_pos (k : Int)
    have h1 := powI_pos ((k + 1 : Nat) : Int)
    unfold rowTo
    rw [bitI_mul]
    split
    · exact orI_bd h.1 (by omega) (Int.le_of_lt h0) hp
    · exact orI_bd h.1 (by omega) (Int.le_refl _) h1
theorem rowTo_bit (z : Int) (l : List Nat) (j : Nat) : ∀ k : Nat, bitB (rowTo z l k) j = true ↔ j < k ∧ bitB z ((l[j]?.getD 0 : Nat) : Int) = true
  | 0 => by simp [rowTo, bitB_zero]
  | k + 1 => by
    unfold rowTo
    rw [bitI_mul, bitB_or, Bool.or_eq_true, rowTo_bit z l j k]
    have h2 : bitB (if bitB z ((l[k]?.getD 0 : Nat) : Int) then powI (k : Int) else 0) j = true ↔ j = k ∧ bitB z ((l[j]?.getD 0 : Nat) : Int) = true := by
      split
      · rename_i hb
        rw [bitB_pow, decide_eq_true_eq]
        constructor
        · rintro rfl; exact ⟨rfl, hb⟩
        · rintro ⟨rfl, _⟩; rfl
      · rename_i hb
        rw [bitB_zero]
        constructor
        · intro e; cases e
        · rintro ⟨rfl, e⟩; exact absurd e hb
    rw [h2]
    constructor
    · rintro (⟨h, e⟩ | ⟨rfl, e⟩)
      · exact ⟨by omega, e⟩
      · exact ⟨by omega, e⟩
    · rintro ⟨h, e⟩
      by_cases hjk : j = k
      · exact .inr ⟨hjk, e⟩
      · exact .inl ⟨by omega, e⟩
/-- The order of the items of l alone. -/
def ind (zs : List Int) (l : List Nat) : List Int := l.map fun a => rowTo (zs[a]?.getD 0) l l.length
theorem ind_len (zs : List Int) (l : List Nat) : (ind zs l).length = l.length := by simp [ind]
theorem ind_bit {zs : List Int} {l : List Nat} {i j : Nat} (hi : i < l.length) : bitB ((ind zs l)[i]?.getD 0) j = true ↔ j < l.length ∧ bitB (zs[l[i]?.getD 0]?.getD 0) ((l[j]?.getD 0 : Nat) : Int) = true := by
  have e : (ind zs l)[i]?.getD 0 = rowTo (zs[l[i]?.getD 0]?.getD 0) l l.length := by
    unfold ind
    rw [List.getElem?_map, List.getElem?_eq_getElem hi]
    rfl
  rw [e, rowTo_bit]
/-- A list of items of the order, ascending. -/
structure Inc (zs : List Int) (l : List Nat) : Prop where
  inc : l.Pairwise (· < ·)
  lt : ∀ a ∈ l, a < zs.length
theorem Inc.at_lt {zs : List Int} {l : List Nat} (h : Inc zs l) {i : Nat} (hi : i < l.length) : l[i]?.getD 0 < zs.length := by
  rw [List.getElem?_eq_getElem hi]
  exact h.lt _ (List.getElem_mem hi)
theorem Inc.at_inc {zs : List Int} {l : List Nat} (h : Inc zs l) {i j : Nat} (hij : i < j) (hj : j < l.length) : l[i]?.getD 0 < l[j]?.getD 0 := by
  rw [List.getElem?_eq_getElem hj, List.getElem?_eq_getElem (by omega)]
  exact List.pairwise_iff_getElem.1 h.inc i j (by omega) hj hij
theorem Inc.at_inj {zs : List Int} {l : List Nat} (h : Inc zs l) {i j : Nat} (hi : i < l.length) (hj : j < l.length) (e : l[i]?.getD 0 = l[j]?.getD 0) : i = j := by
  rcases Nat.lt_trichotomy i j with h1 | h1 | h1
  · have := h.at_inc h1 hj; omega
  · exact h1
  · have := h.at_inc h1 hi; omega
theorem Inc.len_le {zs : List Int} {l : List Nat} (h : Inc zs l) : l.length ≤ zs.length := pigeon zs.length l (h.inc.imp fun h => by omega) h.lt
theorem ind_lt {zs : List Int} {l : List Nat} (h : Inc zs l) {i j : Nat} : lt (ind zs l) i j ↔ i < l.length ∧ j < l.length ∧ lt zs (l[i]?.getD 0) (l[j]?.getD 0) := by
  unfold lt
  rw [ind_len]
  constructor
  · rintro ⟨h1, h2⟩
    have := (ind_bit h1).1 h2
    exact ⟨h1, this.1, h.at_lt h1, this.2⟩
  · rintro ⟨h1, h2, _, h3⟩
    exact ⟨h1, (ind_bit h1).2 ⟨h2, h3⟩⟩
theorem ind_vo {zs : List Int} (h : VoP zs) {l : List Nat} (hl : Inc zs l) : VoP (ind zs l) := by
  have h6 := h.1
  have hle := hl.len_le
  refine ⟨by rw [ind_len]; omega, fun a ha => ?_, fun a ha b hb => ?_⟩
  · rw [ind_len] at ha ⊢
    have e : (ind zs l)[a]?.getD 0 = rowTo (zs[l[a]?.getD 0]?.getD 0) l l.length := by
      unfold ind; rw [List.getElem?_map, List.getElem?_eq_getElem ha]; rfl
    have hb := rowTo_bd (zs[l[a]?.getD 0]?.getD 0) l l.length
    have h2 : bitB ((ind zs l)[a]?.getD 0) a = false := by
      cases e2 : bitB ((ind zs l)[a]?.getD 0) a
      · rfl
      · have := (ind_lt hl).1 (⟨by rw [ind_len]; exact ha, e2⟩ : lt (ind zs l) a a)
        exact absurd this.2.2 h.irr
    unfold okA inB
    rw [h2, e]
    simp only [Bool.not_false, Bool.and_true, decide_eq_true_eq]
    omega
  · rw [ind_len] at ha hb
    unfold okP
    cases e : bitB ((ind zs l)[a]?.getD 0) b
    · rfl
    · have hab := (ind_lt hl).1 (⟨by rw [ind_len]; exact ha, e⟩ : lt (ind zs l) a b)
      have h1 : lessI ((ind zs l)[b]?.getD 0) ((ind zs l)[a]?.getD 0) = 0 := by
        refine bitB_ext (lessI_bd _ _).1 (Int.le_refl _) fun j => ?_
        rw [bitB_less, bitB_zero]
        cases e1 : bitB ((ind zs l)[b]?.getD 0) j
        · rfl
        · have hbj := (ind_lt hl).1 (⟨by rw [ind_len]; exact hb, e1⟩ : lt (ind zs l) b j)
          have := ((ind_lt hl).2 ⟨ha, hbj.2.1, h.trans hab.2.2 hbj.2.2⟩).2
          rw [this]; rfl
      have h2 : bitB ((ind zs l)[b]?.getD 0) a = false := by
        cases e2 : bitB ((ind zs l)[b]?.getD 0) a
        · rfl
        · have hba := (ind_lt hl).1 (⟨by rw [ind_len]; exact hb, e2⟩ : lt (ind zs l) b a)
          exact absurd (h.trans hab.2.2 hba.2.2) h.irr
      rw [h1, h2]; rfl

/-- The items of zs that a set of places of l tells. -/
def exTo (l : List Nat) (t : Nat) : Nat → Nat
  | 0 => 0
  | k + 1 => exTo l t k ||| (if t.testBit k then 2 ^ (l[k]?.getD 0) else 0)
theorem exTo_bit (l : List Nat) (t a : Nat) : ∀ k : Nat, (exTo l t k).testBit a = true ↔ ∃ i, i < k ∧ t.testBit i = true ∧ l[i]?.getD 0 = a
  | 0 => by simp [exTo]
  | k + 1 => by
    unfold exTo
    rw [Nat.testBit_or, Bool.or_eq_true, exTo_bit l t a k]
    have h2 : (if t.testBit k then 2 ^ (l[k]?.getD 0) else 0).testBit a = true ↔ t.testBit k = true ∧ l[k]?.getD 0 = a := by
      split
      · rename_i hb; rw [Nat.testBit_two_pow, decide_eq_true_eq]; simp [hb]
      · rename_i hb; simp [hb]
    rw [h2]
    constructor
    · rintro (⟨i, hi, e⟩ | e)
      · exact ⟨i, by omega, e⟩
      · exact ⟨k, by omega, e⟩
    · rintro ⟨i, hi, e⟩
      by_cases hik : i = k
      · subst hik; exact .inr e
      · exact .inl ⟨i, by omega, e⟩
def ex (l : List Nat) (t : Nat) : Nat := exTo l t l.length
theorem ex_lt {zs : List Int} {l : List Nat} (h : Inc zs l) (t : Nat) : ex l t < 2 ^ zs.length := Nat.lt_pow_two_of_testBit _ fun i hi => by
  cases e : (ex l t).testBit i
  · rfl
  · obtain ⟨k, hk, _, e2⟩ := (exTo_bit l t i l.length).1 e
    have := h.at_lt hk; omega
theorem ex_at {zs : List Int} {l : List Nat} (h : Inc zs l) {t k : Nat} (hk : k < l.length) : (ex l t).testBit (l[k]?.getD 0) = t.testBit k := by
  rw [Bool.eq_iff_iff]
  unfold ex
  rw [exTo_bit]
  constructor
  · rintro ⟨i, hi, e, e2⟩
    rw [← h.at_inj hi hk e2]; exact e
  · intro e; exact ⟨k, hk, e, rfl⟩
theorem sub_bits {s a j : Nat} (hs : s < 64) (ha : a < 6) (hb : s.testBit a = true) : (s - 2 ^ a).testBit j = (s.testBit j && !decide (a = j)) := by
  have hpa := Nat.two_pow_pos a
  rcases Nat.lt_or_ge j 6 with hj | hj
  · exact sub_bit_fin ⟨s, hs⟩ ⟨a, ha⟩ ⟨j, hj⟩ hb
  · have h1 : s.testBit j = false := Nat.testBit_lt_two_pow (Nat.lt_of_lt_of_le (show s < 2 ^ 6 by omega) (Nat.pow_le_pow_right (by decide) hj))
    have h2 : (s - 2 ^ a).testBit j = false := Nat.testBit_lt_two_pow (Nat.lt_of_lt_of_le (show s - 2 ^ a < 2 ^ 6 by omega) (Nat.pow_le_pow_right (by decide) hj))
    rw [h1, h2]; rfl
theorem ex_sub {zs : List Int} (h6 : zs.length ≤ 6) {l : List Nat} (h : Inc zs l) {t k : Nat} (ht : t < 64) (hk : k < l.length) (hb : t.testBit k = true) : ex l (t - 2 ^ k) = ex l t - 2 ^ (l[k]?.getD 0) := by
  have hle := h.len_le
  have hx : ex l t < 64 := Nat.lt_of_lt_of_le (ex_lt h t) (pow_le64 h6)
  have hlk := h.at_lt hk
  refine Nat.eq_of_testBit_eq fun a => ?_
  rw [sub_bits hx (show l[k]?.getD 0 < 6 by omega) (by rw [ex_at h hk]; exact hb), Bool.eq_iff_iff]
  unfold ex
  rw [exTo_bit, Bool.and_eq_true, exTo_bit, Bool.not_eq_true', decide_eq_false_iff_not]
  constructor
  · rintro ⟨i, hi, e, rfl⟩
    rw [sub_bits ht (by omega) hb, Bool.and_eq_true, Bool.not_eq_true', decide_eq_false_iff_not] at e
    exact ⟨⟨i, hi, e.1, rfl⟩, fun e2 => e.2 (h.at_inj hk hi e2)⟩
  · rintro ⟨⟨i, hi, e, rfl⟩, e2⟩
    refine ⟨i, hi, ?_, rfl⟩
    rw [sub_bits ht (by omega) hb, e]
    have hne : ¬ k = i := fun e3 => e2 (by rw [e3])
    simp [hne]
theorem ex_zero (l : List Nat) : ex l 0 = 0 := Nat.eq_of_testBit_eq fun a => by
  rw [Bool.eq_iff_iff]
  unfold ex
  rw [exTo_bit]
  simp
theorem eF_iff {zs : List Int} (h : VoP zs) {s a : Nat} : eF zs s a = true ↔ s.testBit a = true ∧ ∀ b, s.testBit b = true → bitB (zs[b]?.getD 0) a = false := by
  unfold eF
  rw [Bool.and_eq_true, beq_iff_eq, andI_zero]
  constructor
  · rintro ⟨h1, h2⟩
    exact ⟨h1, fun b hb => by have := h2 b (by rw [bit_cast]; exact hb); rwa [du_bit h.sets] at this⟩
  · rintro ⟨h1, h2⟩
    exact ⟨h1, fun b hb => by rw [du_bit h.sets]; exact h2 b (by rwa [bit_cast] at hb)⟩
theorem bit_none' {zs : List Int} {a b : Nat} (h : bitB (zs[a]?.getD 0) b = true) : a < zs.length := by
  rcases Nat.lt_or_ge a zs.length with h1 | h1
  · exact h1
  · rw [List.getElem?_eq_none (by omega), Option.getD_none, bitB_zero] at h; cases h
theorem next_ind {zs : List Int} (h : VoP zs) {l : List Nat} (hl : Inc zs l) (t : Nat) : nextL zs (ex l t) = (nextL (ind zs l) t).map fun k => l[k]?.getD 0 := by
  have hi := ind_vo h hl
  rw [nextL_is h, nextL_is hi, ind_len]
  refine inc_ext _ _ ((range_inc _).filter _) ?_ fun a => ?_
  · rw [List.pairwise_map]
    refine List.Pairwise.imp_of_mem ?_ ((range_inc _).filter _)
    intro x y hx hy hxy
    rw [List.mem_filter] at hy
    exact hl.at_inc hxy (by simpa using hy.1)
  · rw [List.mem_filter, List.mem_map, List.mem_range, eF_iff h]
    constructor
    · rintro ⟨ha, h1, h2⟩
      obtain ⟨k, hk, hb, e⟩ := (exTo_bit l t a l.length).1 h1
      refine ⟨k, ?_, e⟩
      rw [List.mem_filter, List.mem_range, eF_iff hi]
      refine ⟨hk, hb, fun j hj => ?_⟩
      cases e2 : bitB ((ind zs l)[j]?.getD 0) k
      · rfl
      · have hjl : j < l.length := by
          have := bit_none' e2; rwa [ind_len] at this
        have h3 := (ind_bit hjl).1 e2
        have := h2 (l[j]?.getD 0) (by rw [ex_at hl hjl]; exact hj)
        rw [← e] at this
        rw [this] at h3; cases h3.2
    · rintro ⟨k, hk, e⟩
      rw [List.mem_filter, List.mem_range, eF_iff hi] at hk
      obtain ⟨hk, hb, h2⟩ := hk
      refine ⟨by rw [← e]; exact hl.at_lt hk, by rw [← e, ex_at hl hk]; exact hb, fun b hb2 => ?_⟩
      obtain ⟨j, hj, hjt, e3⟩ := (exTo_bit l t b l.length).1 hb2
      have := h2 j hjt
      cases e4 : bitB (zs[b]?.getD 0) a
      · rfl
      · rw [(ind_bit hj).2 ⟨hk, by rw [e3, e]; exact e4⟩] at this; cases this
/-- The items alone are lined up in as many ways as they are. -/
theorem cF_ind {zs : List Int} (h : VoP zs) {l : List Nat} (hl : Inc zs l) : ∀ (N t : Nat), t ≤ N → t < 2 ^ l.length → cF (ind zs l) t = cF zs (ex l t)
  | N, t, hN, ht => by
    have hi := ind_vo h hl
    have hle := hl.len_le
    have h6 := h.1
    have ht64 : t < 64 := Nat.lt_of_lt_of_le ht (pow_le64 (by omega))
    by_cases h0 : t = 0
    · subst h0; rw [ex_zero, cF_zero, cF_zero]
    · have hx0 : ex l t ≠ 0 := fun e => h0 (Nat.eq_of_testBit_eq fun k => by
        rw [Nat.zero_testBit]
        cases e2 : t.testBit k
        · rfl
        · have hk := bit_lt ht e2
          have := ex_at hl (t := t) hk
          rw [e, e2, Nat.zero_testBit] at this; cases this)
      cases N with
      | zero => omega
      | succ N =>
        rw [← accF_all hi h0, ← accF_all h hx0, next_ind h hl]
        unfold accF
        rw [List.map_map]
        congr 1
        refine List.map_congr_left fun k hk => ?_
        obtain ⟨hkl, hkb⟩ := nextL_mem hi hk
        rw [ind_len] at hkl
        have hp := Nat.two_pow_pos k
        have hge := ge_bit_fin ⟨t, ht64⟩ ⟨k, by omega⟩ hkb
        simp only at hge
        rw [cF_ind h hl N (t - 2 ^ k) (by omega) (by omega), ex_sub h6 hl ht64 hkl hkb]
        rfl
/-- The items of a set, ascending. -/
def leftL (n s : Nat) : List Nat := (List.range n).filter fun j => s.testBit j
theorem leftL_inc (zs : List Int) (s : Nat) : Inc zs (leftL zs.length s) := ⟨(range_inc _).filter _, fun a ha => by
  unfold leftL at ha; rw [List.mem_filter] at ha; simpa using ha.1⟩
theorem ex_left {zs : List Int} {s : Nat} (hs : s < 2 ^ zs.length) : ex (leftL zs.length s) (2 ^ (leftL zs.length s).length - 1) = s := by
  refine Nat.eq_of_testBit_eq fun a => ?_
  rw [Bool.eq_iff_iff]
  unfold ex
  rw [exTo_bit]
  constructor
  · rintro ⟨i, hi, _, rfl⟩
    rw [List.getElem?_eq_getElem hi]
    have := List.getElem_mem hi
    unfold leftL at this
    rw [List.mem_filter] at this
    exact this.2
  · intro e
    have ha : a ∈ leftL zs.length s := by
      unfold leftL
      rw [List.mem_filter, List.mem_range]
      exact ⟨bit_lt hs e, e⟩
    obtain ⟨i, hi, e2⟩ := List.getElem_of_mem ha
    refine ⟨i, hi, ?_, by rw [List.getElem?_eq_getElem hi]; exact e2⟩
    rw [Nat.testBit_two_pow_sub_one]
    simpa using hi
/-- As the model counts what is left. -/
theorem rest_is {zs : List Int} (h : VoP zs) {s : Nat} (hs : s < 2 ^ zs.length) : cG (ind zs (leftL zs.length s)) (2 ^ (leftL zs.length s).length - 1) = cF zs s := by
  have hl := leftL_inc zs s
  have hi := ind_vo h hl
  have hp := Nat.two_pow_pos (leftL zs.length s).length
  have := count_both hi
  rw [ind_len] at this
  rw [this, cF_ind h hl _ _ (Nat.le_refl _) (by omega), ex_left hs]
end Go.Proofs.Ytghogabmkbadjaa

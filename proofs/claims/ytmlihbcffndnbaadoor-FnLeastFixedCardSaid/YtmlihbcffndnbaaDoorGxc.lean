/- Texts that several claims share, one behind the other. -/
import Derived.Test.YtmlihbcffndnbaaDoorGxb
import Derived.Test.YtmlihbcffndnbaaDoorCnt
import Derived.Test.YtmlihbcffndnbaaDoorGa
import Derived.Test.YtmlihbcffndnbaaDoorGb
set_option linter.unusedVariables false
set_option linter.unusedSimpArgs false
/- IsChain and IsApart: the model's and the program's. -/
namespace Go.Proofs.YtmlihbcffndnbaaDoor
open Go.RowKit

def isChainR (zs : List Int) (s : Int) : Bool := (vo zs && inB s 0 (powI zs.length - 1)) && chB zs s
def isApartR (zs : List Int) (s : Int) : Bool := (vo zs && inB s 0 (powI zs.length - 1)) && apB zs s

end Go.Proofs.YtmlihbcffndnbaaDoor

/- The longest chain and the widest set apart: words, and the model's helper. -/
namespace Go.Proofs.YtmlihbcffndnbaaDoor
open Go.RowKit

theorem maxL_snoc (f : Nat → Int) (l : List Nat) (a : Nat) : maxL f (l ++ [a]) = max (maxL f l) (f a + 1) := by simp [maxL]
theorem maxL_range (f : Nat → Int) (k : Nat) : maxL f (List.range (k + 1)) = max (maxL f (List.range k)) (f k + 1) := by rw [List.range_succ, maxL_snoc]
theorem hgts_get {zs : List Int} {n k : Nat} (hk : k < n) : ((List.range n).map (hgt zs))[k]?.getD 0 = hgt zs k := by simp [hk]

def longR (zs : List Int) : Int := if vo zs then longI zs else -1
def wideR (zs : List Int) : Int := if vo zs then grTo (apB zs) (setsN zs) else -1
end Go.Proofs.YtmlihbcffndnbaaDoor

/- Chains and sets apart: what is left of them, and when a chain is apart. No program. -/
namespace Go.Proofs.YtmlihbcffndnbaaDoor

theorem isChain_is {zs : List Int} {s : Int} (h : VoP zs) (h0 : 0 ≤ s) (h1 : s < powI zs.length) : isChainR zs s = chB zs s := by
  unfold isChainR inB
  rw [vo_true h, decide_eq_true (show (0 : Int) ≤ s ∧ s ≤ powI zs.length - 1 by omega)]
  rfl
theorem isApart_is {zs : List Int} {s : Int} (h : VoP zs) (h0 : 0 ≤ s) (h1 : s < powI zs.length) : isApartR zs s = apB zs s := by
  unfold isApartR inB
  rw [vo_true h, decide_eq_true (show (0 : Int) ≤ s ∧ s ≤ powI zs.length - 1 by omega)]
  rfl
theorem isChain_parts {zs : List Int} {s : Int} (h : isChainR zs s = true) : VoP zs ∧ (0 ≤ s ∧ s < powI zs.length) ∧ chB zs s = true := by
  unfold isChainR at h
  rw [Bool.and_eq_true, Bool.and_eq_true] at h
  obtain ⟨⟨h1, h2⟩, h3⟩ := h
  have h2' : (0 : Int) ≤ s ∧ s ≤ powI zs.length - 1 := by simpa [inB] using h2
  exact ⟨by simpa [vo] using h1, ⟨h2'.1, by omega⟩, h3⟩
theorem isApart_parts {zs : List Int} {s : Int} (h : isApartR zs s = true) : VoP zs ∧ (0 ≤ s ∧ s < powI zs.length) ∧ apB zs s = true := by
  unfold isApartR at h
  rw [Bool.and_eq_true, Bool.and_eq_true] at h
  obtain ⟨⟨h1, h2⟩, h3⟩ := h
  have h2' : (0 : Int) ≤ s ∧ s ≤ powI zs.length - 1 := by simpa [inB] using h2
  exact ⟨by simpa [vo] using h1, ⟨h2'.1, by omega⟩, h3⟩
theorem chB_sub {zs : List Int} {s t : Int} (h1 : s < 64) (h2 : t < 64) (hs : ∀ j : Nat, bitB t j = true → bitB s j = true) (h : chB zs s = true) : chB zs t = true := by
  unfold chB at *
  rw [decide_eq_true_eq] at *
  rw [ChP_iff h2]
  intro a b ha hb hab
  exact (ChP_iff h1).1 h a b (hs a ha) (hs b hb) hab
theorem apB_sub {zs : List Int} {s t : Int} (h1 : s < 64) (h2 : t < 64) (hs : ∀ j : Nat, bitB t j = true → bitB s j = true) (h : apB zs s = true) : apB zs t = true :=
  (apB_iff h2).2 fun a b ha hb => (apB_iff h1).1 h a b (hs a ha) (hs b hb)
/-- The set without its least item, as the program's 's & (s-1)'. -/
theorem less_one {n : Nat} {s : Int} (h0 : 0 ≤ s) (h1 : s < powI n) (hn : n ≤ 6) : ∃ t, bits .and .i64 s (s - 1) = t ∧ 0 ≤ t ∧ t < powI n ∧ ∀ j : Nat, bitB t j = true → bitB s j = true := by
  have hp := powI_le6 (n := (n : Int)) (by omega)
  by_cases hs : s = 0
  · subst hs
    exact ⟨0, by decide, by omega, by omega, fun _ e => e⟩
  · have hb := andI_bd s (s - 1)
    exact ⟨andI s (s - 1), bits_and (by omega) (by omega) (by omega) (by omega), hb.1, by omega, fun j e => by rw [bitB_and, Bool.and_eq_true] at e; exact e.1⟩
theorem du_isChain {zs : List Int} {s : Int} (h : VoP zs) (h0 : 0 ≤ s) (h1 : s < powI zs.length) : isChainR (du zs) s = chB zs s := by
  rw [isChain_is (du_vo h) h0 (by rw [du_len]; exact h1), du_chB h.sets]
theorem du_isApart {zs : List Int} {s : Int} (h : VoP zs) (h0 : 0 ≤ s) (h1 : s < powI zs.length) : isApartR (du zs) s = apB zs s := by
  have hp := powI_le6 (n := (zs.length : Int)) (by have := h.1; omega)
  rw [isApart_is (du_vo h) h0 (by rw [du_len]; exact h1), du_apB h.sets (by omega)]
theorem chain_apart {zs : List Int} {s : Int} (h : VoP zs) (h0 : 0 ≤ s) (h1 : s < powI zs.length) (hc : chB zs s = true) : apB zs s = decide (popI s ≤ 1) := by
  have hp := powI_le6 (n := (zs.length : Int)) (by have := h.1; omega)
  have h64 : s < 64 := by omega
  rw [popI_items h0 h64]
  have hs := itemsL_sorted s
  have hm : ∀ j : Nat, j ∈ itemsL s ↔ bitB s j = true := fun j => mem_itemsL h64
  have hc' : ChP zs s := of_decide_eq_true hc
  unfold ChP at hc'
  clear hc
  match hl : itemsL s with
  | [] =>
    rw [hl] at hm
    have : apB zs s = true := (apB_iff h64).2 fun a b ha hb => by have := (hm a).2 ha; simp at this
    rw [this]; rfl
  | [x] =>
    rw [hl] at hm
    have : apB zs s = true := (apB_iff h64).2 fun a b ha hb => by
      have e1 := (hm a).2 ha
      have e2 := (hm b).2 hb
      simp only [List.mem_singleton] at e1 e2
      subst e1; subst e2
      exact h.irrB (bitB_lt h1 ha)
    rw [this]; rfl
  | x :: y :: l =>
    rw [hl] at hc' hs hm
    have hr : relB zs x y = true := (List.pairwise_cons.1 hc').1 y (by simp)
    have hx := (hm x).1 (by simp)
    have hy := (hm y).1 (by simp)
    have hno : apB zs s = false := by
      cases e : apB zs s
      · rfl
      · have ha := (apB_iff h64).1 e
        unfold relB at hr
        rw [ha x y hx hy, ha y x hy hx] at hr
        cases hr
    rw [hno, decide_eq_false]
    simp only [List.length_cons]
    omega
theorem apart_le {zs : List Int} {s : Int} (h : VoP zs) (h0 : 0 ≤ s) (h1 : s < powI zs.length) (ha : apB zs s = true) : popI s ≤ wideR zs := by
  unfold wideR
  rw [vo_true h]
  obtain ⟨j, rfl⟩ := Int.eq_ofNat_of_zero_le h0
  have hN := setsN_pow zs
  exact grTo_ge ha (setsN zs) (by omega)
end Go.Proofs.YtmlihbcffndnbaaDoor

/- The order of some items alone, numbered anew: it is an order, and is lined up in as many ways as they are. No program. -/
namespace Go.Proofs.YtmlihbcffndnbaaDoor

theorem inc_ext : ∀ (l m : List Nat), l.Pairwise (· < ·) → m.Pairwise (· < ·) → (∀ a, a ∈ l ↔ a ∈ m) → l = m
  | [], [], _, _, _ => rfl
  | [], b :: m, _, _, h => by have := (h b).2 (by simp); cases this
  | a :: l, [], _, _, h => by have := (h a).1 (by simp); cases this
  | a :: l, b :: m, hl, hm, h => by
    rw [List.pairwise_cons] at hl hm
    have hab : a = b := by
      rcases List.mem_cons.1 ((h a).1 (by simp)) with e | e
      · exact e
      · rcases List.mem_cons.1 ((h b).2 (by simp)) with e2 | e2
        · exact e2.symm
        · have := hm.1 a e; have := hl.1 b e2; omega
    subst hab
    rw [inc_ext l m hl.2 hm.2 fun x => ?_]
    have hx := h x
    rw [List.mem_cons, List.mem_cons] at hx
    constructor
    · intro e
      rcases hx.1 (.inr e) with e2 | e2
      · have := hl.1 x e; omega
      · exact e2
    · intro e
      rcases hx.2 (.inr e) with e2 | e2
      · have := hm.1 x e; omega
      · exact e2
theorem range_inc (n : Nat) : (List.range n).Pairwise (· < ·) := List.pairwise_lt_range
/-- The numbers of z that l lists, by their places in l, up to k. -/
def rowTo (z : Int) (l : List Nat) : Nat → Int
  | 0 => 0
  | k + 1 => orI (rowTo z l k) (bitI z (l[k]?.getD 0) * powI k)
theorem bitI_mul (z j : Int) (k : Nat) : bitI z j * powI k = if bitB z j then powI k else 0 := by
  unfold bitI; split <;> simp
theorem rowTo_bd (z : Int) (l : List Nat) : ∀ k : Nat, 0 ≤ rowTo z l k ∧ rowTo z l k < powI k
  | 0 => by simp [rowTo, powI]
  | k + 1 => by
    have h := rowTo_bd z l k
    have hp : powI (k : Int) < powI ((k + 1 : Nat) : Int) := powI_lt (by omega)
    have h0 := powI_pos (k : Int)
    have h1 := powI_pos ((k + 1 : Nat) : Int)
    unfold rowTo
    rw [bitI_mul]
    split
    · exact orI_bd h.1 (by omega) (Int.le_of_lt h0) hp
    · exact orI_bd h.1 (by omega) (Int.le_refl _) h1
theorem rowTo_bit (z : Int) (l : List Nat) (j : Nat) : ∀ k : Nat, bitB (rowTo z l k) j = true ↔ j < k ∧ bitB z ((l[j]?.getD 0 : Nat) : Int) = true
  | 0 => by simp [rowTo, bitB_zero]
  | k + 1 => by
    unfold rowTo
    rw [bitI_mul, bitB_or, Bool.or_eq_true, rowTo_bit z l j k]
    have h2 : bitB (if bitB z ((l[k]?.getD 0 : Nat) : Int) then powI (k : Int) else 0) j = true ↔ j = k ∧ bitB z ((l[j]?.getD 0 : Nat) : Int) = true := by
      split
      · rename_i hb
        rw [bitB_pow, decide_eq_true_eq]
        constructor
        · rintro rfl; exact ⟨rfl, hb⟩
        · rintro ⟨rfl, _⟩; rfl
      · rename_i hb
        rw [bitB_zero]
        constructor
        · intro e; cases e
        · rintro ⟨rfl, e⟩; exact absurd e hb
    rw [h2]
    constructor
    · rintro (⟨h, e⟩ | ⟨rfl, e⟩)
      · exact ⟨by omega, e⟩
      · exact ⟨by omega, e⟩
    · rintro ⟨h, e⟩
      by_cases hjk : j = k
      · exact .inr ⟨hjk, e⟩
      · exact .inl ⟨by omega, e⟩
/-- The order of the items of l alone. -/
def ind (zs : List Int) (l : List Nat) : List Int := l.map fun a => rowTo (zs[a]?.getD 0) l l.length
theorem ind_len (zs : List Int) (l : List Nat) : (ind zs l).length = l.length := by simp [ind]
theorem ind_bit {zs : List Int} {l : List Nat} {i j : Nat} (hi : i < l.length) : bitB ((ind zs l)[i]?.getD 0) j = true ↔ j < l.length ∧ bitB (zs[l[i]?.getD 0]?.getD 0) ((l[j]?.getD 0 : Nat) : Int) = true := by
  have e : (ind zs l)[i]?.getD 0 = rowTo (zs[l[i]?.getD 0]?.getD 0) l l.length := by
    unfold ind
    rw [List.getElem?_map, List.getElem?_eq_getElem hi]
    rfl
  rw [e, rowTo_bit]
/-- A list of items of the order, ascending. -/
structure Inc (zs : List Int) (l : List Nat) : Prop where
  inc : l.Pairwise (· < ·)
  lt : ∀ a ∈ l, a < zs.length
theorem Inc.at_lt {zs : List Int} {l : List Nat} (h : Inc zs l) {i : Nat} (hi : i < l.length) : l[i]?.getD 0 < zs.length := by
  rw [List.getElem?_eq_getElem hi]
  exact h.lt _ (List.getElem_mem hi)
theorem Inc.at_inc {zs : List Int} {l : List Nat} (h : Inc zs l) {i j : Nat} (hij : i < j) (hj : j < l.length) : l[i]?.getD 0 < l[j]?.getD 0 := by
  rw [List.getElem?_eq_getElem hj, List.getElem?_eq_getElem (by omega)]
  exact List.pairwise_iff_getElem.1 h.inc i j (by omega) hj hij
theorem Inc.at_inj {zs : List Int} {l : List Nat} (h : Inc zs l) {i j : Nat} (hi : i < l.length) (hj : j < l.length) (e : l[i]?.getD 0 = l[j]?.getD 0) : i = j := by
  rcases Nat.lt_trichotomy i j with h1 | h1 | h1
  · have := h.at_inc h1 hj; omega
  · exact h1
  · have := h.at_inc h1 hi; omega
theorem Inc.len_le {zs : List Int} {l : List Nat} (h : Inc zs l) : l.length ≤ zs.length := pigeon zs.length l (h.inc.imp fun h => by omega) h.lt
theorem ind_lt {zs : List Int} {l : List Nat} (h : Inc zs l) {i j : Nat} : lt (ind zs l) i j ↔ i < l.length ∧ j < l.length ∧ lt zs (l[i]?.getD 0) (l[j]?.getD 0) := by
  unfold lt
  rw [ind_len]
  constructor
  · rintro ⟨h1, h2⟩
    have := (ind_bit h1).1 h2
    exact ⟨h1, this.1, h.at_lt h1, this.2⟩
  · rintro ⟨h1, h2, _, h3⟩
    exact ⟨h1, (ind_bit h1).2 ⟨h2, h3⟩⟩
theorem ind_vo {zs : List Int} (h : VoP zs) {l : List Nat} (hl : Inc zs l) : VoP (ind zs l) := by
  have h6 := h.1
  have hle := hl.len_le
  refine ⟨by rw [ind_len]; omega, fun a ha => ?_, fun a ha b hb => ?_⟩
  · rw [ind_len] at ha ⊢
    have e : (ind zs l)[a]?.getD 0 = rowTo (zs[l[a]?.getD 0]?.getD 0) l l.length := by
      unfold ind; rw [List.getElem?_map, List.getElem?_eq_getElem ha]; rfl
    have hb := rowTo_bd (zs[l[a]?.getD 0]?.getD 0) l l.length
    have h2 : bitB ((ind zs l)[a]?.getD 0) a = false := by
      cases e2 : bitB ((ind zs l)[a]?.getD 0) a
      · rfl
      · have := (ind_lt hl).1 (⟨by rw [ind_len]; exact ha, e2⟩ : lt (ind zs l) a a)
        exact absurd this.2.2 h.irr
    unfold okA inB
    rw [h2, e]
    simp only [Bool.not_false, Bool.and_true, decide_eq_true_eq]
    omega
  · rw [ind_len] at ha hb
    unfold okP
    cases e : bitB ((ind zs l)[a]?.getD 0) b
    · rfl
    · have hab := (ind_lt hl).1 (⟨by rw [ind_len]; exact ha, e⟩ : lt (ind zs l) a b)
      have h1 : lessI ((ind zs l)[b]?.getD 0) ((ind zs l)[a]?.getD 0) = 0 := by
        refine bitB_ext (lessI_bd _ _).1 (Int.le_refl _) fun j => ?_
        rw [bitB_less, bitB_zero]
        cases e1 : bitB ((ind zs l)[b]?.getD 0) j
        · rfl
        · have hbj := (ind_lt hl).1 (⟨by rw [ind_len]; exact hb, e1⟩ : lt (ind zs l) b j)
          have := ((ind_lt hl).2 ⟨ha, hbj.2.1, h.trans hab.2.2 hbj.2.2⟩).2
          rw [this]; rfl
      have h2 : bitB ((ind zs l)[b]?.getD 0) a = false := by
        cases e2 : bitB ((ind zs l)[b]?.getD 0) a
        · rfl
        · have hba := (ind_lt hl).1 (⟨by rw [ind_len]; exact hb, e2⟩ : lt (ind zs l) b a)
          exact absurd (h.trans hab.2.2 hba.2.2) h.irr
      rw [h1, h2]; rfl

/-- The items of zs that a set of places of l tells. -/
def exTo (l : List Nat) (t : Nat) : Nat → Nat
  | 0 => 0
  | k + 1 => exTo l t k ||| (if t.testBit k then 2 ^ (l[k]?.getD 0) else 0)
theorem exTo_bit (l : List Nat) (t a : Nat) : ∀ k : Nat, (exTo l t k).testBit a = true ↔ ∃ i, i < k ∧ t.testBit i = true ∧ l[i]?.getD 0 = a
  | 0 => by simp [exTo]
  | k + 1 => by
    unfold exTo
    rw [Nat.testBit_or, Bool.or_eq_true, exTo_bit l t a k]
    have h2 : (if t.testBit k then 2 ^ (l[k]?.getD 0) else 0).testBit a = true ↔ t.testBit k = true ∧ l[k]?.getD 0 = a := by
      split
      · rename_i hb; rw [Nat.testBit_two_pow, decide_eq_true_eq]; simp [hb]
      · rename_i hb; simp [hb]
    rw [h2]
    constructor
    · rintro (⟨i, hi, e⟩ | e)
      · exact ⟨i, by omega, e⟩
      · exact ⟨k, by omega, e⟩
    · rintro ⟨i, hi, e⟩
      by_cases hik : i = k
      · subst hik; exact .inr e
      · exact .inl ⟨i, by omega, e⟩
def ex (l : List Nat) (t : Nat) : Nat := exTo l t l.length
theorem ex_lt {zs : List Int} {l : List Nat} (h : Inc zs l) (t : Nat) : ex l t < 2 ^ zs.length := Nat.lt_pow_two_of_testBit _ fun i hi => by
  cases e : (ex l t).testBit i
  · rfl
  · obtain ⟨k, hk, _, e2⟩ := (exTo_bit l t i l.length).1 e
    have := h.at_lt hk; omega
theorem ex_at {zs : List Int} {l : List Nat} (h : Inc zs l) {t k : Nat} (hk : k < l.length) : (ex l t).testBit (l[k]?.getD 0) = t.testBit k := by
  rw [Bool.eq_iff_iff]
  unfold ex
  rw [exTo_bit]
  constructor
  · rintro ⟨i, hi, e, e2⟩
    rw [← h.at_inj hi hk e2]; exact e
  · intro e; exact ⟨k, hk, e, rfl⟩
theorem sub_bits {s a j : Nat} (hs : s < 64) (ha : a < 6) (hb : s.testBit a = true) : (s - 2 ^ a).testBit j = (s.testBit j && !decide (a = j)) := by
  have hpa := Nat.two_pow_pos a
  rcases Nat.lt_or_ge j 6 with hj | hj
  · exact sub_bit_fin ⟨s, hs⟩ ⟨a, ha⟩ ⟨j, hj⟩ hb
  · have h1 : s.testBit j = false := Nat.testBit_lt_two_pow (Nat.lt_of_lt_of_le (show s < 2 ^ 6 by omega) (Nat.pow_le_pow_right (by decide) hj))
    have h2 : (s - 2 ^ a).testBit j = false := Nat.testBit_lt_two_pow (Nat.lt_of_lt_of_le (show s - 2 ^ a < 2 ^ 6 by omega) (Nat.pow_le_pow_right (by decide) hj))
    rw [h1, h2]; rfl
theorem ex_sub {zs : List Int} (h6 : zs.length ≤ 6) {l : List Nat} (h : Inc zs l) {t k : Nat} (ht : t < 64) (hk : k < l.length) (hb : t.testBit k = true) : ex l (t - 2 ^ k) = ex l t - 2 ^ (l[k]?.getD 0) := by
  have hle := h.len_le
  have hx : ex l t < 64 := Nat.lt_of_lt_of_le (ex_lt h t) (pow_le64 h6)
  have hlk := h.at_lt hk
  refine Nat.eq_of_testBit_eq fun a => ?_
  rw [sub_bits hx (show l[k]?.getD 0 < 6 by omega) (by rw [ex_at h hk]; exact hb), Bool.eq_iff_iff]
  unfold ex
  rw [exTo_bit, Bool.and_eq_true, exTo_bit, Bool.not_eq_true', decide_eq_false_iff_not]
  constructor
  · rintro ⟨i, hi, e, rfl⟩
    rw [sub_bits ht (by omega) hb, Bool.and_eq_true, Bool.not_eq_true', decide_eq_false_iff_not] at e
    exact ⟨⟨i, hi, e.1, rfl⟩, fun e2 => e.2 (h.at_inj hk hi e2)⟩
  · rintro ⟨⟨i, hi, e, rfl⟩, e2⟩
    refine ⟨i, hi, ?_, rfl⟩
    rw [sub_bits ht (by omega) hb, e]
    have hne : ¬ k = i := fun e3 => e2 (by rw [e3])
    simp [hne]
theorem ex_zero (l : List Nat) : ex l 0 = 0 := Nat.eq_of_testBit_eq fun a => by
  rw [Bool.eq_iff_iff]
  unfold ex
  rw [exTo_bit]
  simp
theorem eF_iff {zs : List Int} (h : VoP zs) {s a : Nat} : eF zs s a = true ↔ s.testBit a = true ∧ ∀ b, s.testBit b = true → bitB (zs[b]?.getD 0) a = false := by
  unfold eF
  rw [Bool.and_eq_true, beq_iff_eq, andI_zero]
  constructor
  · rintro ⟨h1, h2⟩
    exact ⟨h1, fun b hb => by have := h2 b (by rw [bit_cast]; exact hb); rwa [du_bit h.sets] at this⟩
  · rintro ⟨h1, h2⟩
    exact ⟨h1, fun b hb => by rw [du_bit h.sets]; exact h2 b (by rwa [bit_cast] at hb)⟩
theorem bit_none' {zs : List Int} {a b : Nat} (h : bitB (zs[a]?.getD 0) b = true) : a < zs.length := by
  rcases Nat.lt_or_ge a zs.length with h1 | h1
  · exact h1
  · rw [List.getElem?_eq_none (by omega), Option.getD_none, bitB_zero] at h; cases h
theorem next_ind {zs : List Int} (h : VoP zs) {l : List Nat} (hl : Inc zs l) (t : Nat) : nextL zs (ex l t) = (nextL (ind zs l) t).map fun k => l[k]?.getD 0 := by
  have hi := ind_vo h hl
  rw [nextL_is h, nextL_is hi, ind_len]
  refine inc_ext _ _ ((range_inc _).filter _) ?_ fun a => ?_
  · rw [List.pairwise_map]
    refine List.Pairwise.imp_of_mem ?_ ((range_inc _).filter _)
    intro x y hx hy hxy
    rw [List.mem_filter] at hy
    exact hl.at_inc hxy (by simpa using hy.1)
  · rw [List.mem_filter, List.mem_map, List.mem_range, eF_iff h]
    constructor
    · rintro ⟨ha, h1, h2⟩
      obtain ⟨k, hk, hb, e⟩ := (exTo_bit l t a l.length).1 h1
      refine ⟨k, ?_, e⟩
      rw [List.mem_filter, List.mem_range, eF_iff hi]
      refine ⟨hk, hb, fun j hj => ?_⟩
      cases e2 : bitB ((ind zs l)[j]?.getD 0) k
      · rfl
      · have hjl : j < l.length := by
          have := bit_none' e2; rwa [ind_len] at this
        have h3 := (ind_bit hjl).1 e2
        have := h2 (l[j]?.getD 0) (by rw [ex_at hl hjl]; exact hj)
        rw [← e] at this
        rw [this] at h3; cases h3.2
    · rintro ⟨k, hk, e⟩
      rw [List.mem_filter, List.mem_range, eF_iff hi] at hk
      obtain ⟨hk, hb, h2⟩ := hk
      refine ⟨by rw [← e]; exact hl.at_lt hk, by rw [← e, ex_at hl hk]; exact hb, fun b hb2 => ?_⟩
      obtain ⟨j, hj, hjt, e3⟩ := (exTo_bit l t b l.length).1 hb2
      have := h2 j hjt
      cases e4 : bitB (zs[b]?.getD 0) a
      · rfl
      · rw [(ind_bit hj).2 ⟨hk, by rw [e3, e]; exact e4⟩] at this; cases this
/-- The items alone are lined up in as many ways as they are. -/
theorem cF_ind {zs : List Int} (h : VoP zs) {l : List Nat} (hl : Inc zs l) : ∀ (N t : Nat), t ≤ N → t < 2 ^ l.length → cF (ind zs l) t = cF zs (ex l t)
  | N, t, hN, ht => by
    have hi := ind_vo h hl
    have hle := hl.len_le
    have h6 := h.1
    have ht64 : t < 64 := Nat.lt_of_lt_of_le ht (pow_le64 (by omega))
    by_cases h0 : t = 0
    · subst h0; rw [ex_zero, cF_zero, cF_zero]
    · have hx0 : ex l t ≠ 0 := fun e => h0 (Nat.eq_of_testBit_eq fun k => by
        rw [Nat.zero_testBit]
        cases e2 : t.testBit k
        · rfl
        · have hk := bit_lt ht e2
          have := ex_at hl (t := t) hk
          rw [e, e2, Nat.zero_testBit] at this; cases this)
      cases N with
      | zero => omega
      | succ N =>
        rw [← accF_all hi h0, ← accF_all h hx0, next_ind h hl]
        unfold accF
        rw [List.map_map]
        congr 1
        refine List.map_congr_left fun k hk => ?_
        obtain ⟨hkl, hkb⟩ := nextL_mem hi hk
        rw [ind_len] at hkl
        have hp := Nat.two_pow_pos k
        have hge := ge_bit_fin ⟨t, ht64⟩ ⟨k, by omega⟩ hkb
        simp only at hge
        rw [cF_ind h hl N (t - 2 ^ k) (by omega) (by omega), ex_sub h6 hl ht64 hkl hkb]
        rfl
/-- The items of a set, ascending. -/
def leftL (n s : Nat) : List Nat := (List.range n).filter fun j => s.testBit j
theorem leftL_inc (zs : List Int) (s : Nat) : Inc zs (leftL zs.length s) := ⟨(range_inc _).filter _, fun a ha => by
  unfold leftL at ha; rw [List.mem_filter] at ha; simpa using ha.1⟩
theorem ex_left {zs : List Int} {s : Nat} (hs : s < 2 ^ zs.length) : ex (leftL zs.length s) (2 ^ (leftL zs.length s).length - 1) = s := by
  refine Nat.eq_of_testBit_eq fun a => ?_
  rw [Bool.eq_iff_iff]
  unfold ex
  rw [exTo_bit]
  constructor
  · rintro ⟨i, hi, _, rfl⟩
    rw [List.getElem?_eq_getElem hi]
    have := List.getElem_mem hi
    unfold leftL at this
    rw [List.mem_filter] at this
    exact this.2
  · intro e
    have ha : a ∈ leftL zs.length s := by
      unfold leftL
      rw [List.mem_filter, List.mem_range]
      exact ⟨bit_lt hs e, e⟩
    obtain ⟨i, hi, e2⟩ := List.getElem_of_mem ha
    refine ⟨i, hi, ?_, by rw [List.getElem?_eq_getElem hi]; exact e2⟩
    rw [Nat.testBit_two_pow_sub_one]
    simpa using hi
/-- As the model counts what is left. -/
theorem rest_is {zs : List Int} (h : VoP zs) {s : Nat} (hs : s < 2 ^ zs.length) : cG (ind zs (leftL zs.length s)) (2 ^ (leftL zs.length s).length - 1) = cF zs s := by
  have hl := leftL_inc zs s
  have hi := ind_vo h hl
  have hp := Nat.two_pow_pos (leftL zs.length s).length
  have := count_both hi
  rw [ind_len] at this
  rw [this, cF_ind h hl _ _ (Nat.le_refl _) (by omega), ex_left hs]
end Go.Proofs.YtmlihbcffndnbaaDoor

/- Tops and ideals: tops stand for all below; what is below a set is an ideal; what an ideal leaves. No program. -/
namespace Go.Proofs.YtmlihbcffndnbaaDoor

theorem bit_none {zs : List Int} {a b : Nat} (h : bitB (zs[a]?.getD 0) b = true) : a < zs.length := by
  rcases Nat.lt_or_ge a zs.length with h1 | h1
  · exact h1
  · rw [List.getElem?_eq_none (by omega), Option.getD_none, bitB_zero] at h; cases h
theorem top_over {zs : List Int} (h : VoP zs) {s : Int} (h1 : s < powI zs.length) : ∀ (m a : Nat), zs.length - rank zs a ≤ m → bitB s a = true → ∃ t : Nat, bitB (topsTo zs s zs.length) t = true ∧ (a = t ∨ lt zs a t)
  | 0, a, hm, ha => by have := rank_bd h (bitB_lt h1 ha); omega
  | m + 1, a, hm, ha => by
    by_cases hz : andI (zs[a]?.getD 0) s = 0
    · exact ⟨a, (topsTo_bit a _).2 ⟨bitB_lt h1 ha, ha, hz⟩, .inl rfl⟩
    · have : ∃ b : Nat, bitB s b = true ∧ bitB (zs[a]?.getD 0) b = true := by
        refine Classical.byContradiction fun hn => hz (andI_zero.2 fun b hb => ?_)
        cases e : bitB (zs[a]?.getD 0) b
        · rfl
        · exact absurd ⟨b, hb, e⟩ hn
      obtain ⟨b, hb, hab⟩ := this
      have hl : lt zs a b := ⟨bit_none hab, hab⟩
      have hr := rank_lt h hl
      obtain ⟨t, ht, e⟩ := top_over h h1 m b (by omega) hb
      refine ⟨t, ht, .inr ?_⟩
      rcases e with rfl | e
      · exact hl
      · exact h.trans hl e
section
variable {zs : List Int} {s : Int}
theorem tops_in (zs : List Int) (s : Int) : lessI (topsTo zs s zs.length) s = 0 := lessI_none.2 fun _ hj => ((topsTo_bit _ _).1 hj).2.1
theorem tops_ap (h : VoP zs) : apB zs (topsTo zs s zs.length) = true := by
  have hb := topsTo_bd zs s zs.length
  have hp := powI_le6 (n := (zs.length : Int)) (by have := h.1; omega)
  refine (apB_iff (by omega)).2 fun a b ha hb => ?_
  exact andI_zero.1 ((topsTo_bit _ _).1 ha).2.2 b ((topsTo_bit _ _).1 hb).2.1
theorem tops_none (h : VoP zs) (h0 : 0 ≤ s) (h1 : s < powI zs.length) : (topsTo zs s zs.length == 0) = (s == 0) := by
  have hb := topsTo_bd zs s zs.length
  rw [Bool.eq_iff_iff, beq_iff_eq, beq_iff_eq]
  constructor
  · intro e
    refine bitB_ext h0 (Int.le_refl _) fun j => ?_
    rw [bitB_zero]
    cases hj : bitB s j
    · rfl
    · obtain ⟨t, ht, _⟩ := top_over h h1 _ j (Nat.le_refl _) hj
      rw [e, bitB_zero] at ht; cases ht
  · intro e
    refine bitB_ext hb.1 (Int.le_refl _) fun j => ?_
    rw [bitB_zero]
    cases hj : bitB (topsTo zs s zs.length) j
    · rfl
    · have := ((topsTo_bit _ _).1 hj).2.1
      rw [e, bitB_zero] at this; cases this
theorem in_bel (h : Sets zs) (h1 : s < powI zs.length) : lessI s (belI zs s) = 0 := lessI_none.2 fun j hj => (belI_bit h h1 j).2 (.inl hj)
theorem bel_ideal (h : VoP zs) (h0 : 0 ≤ s) (h1 : s < powI zs.length) : idB zs (belI zs s) = true := by
  have hb := belI_bd h.sets h0 h1
  refine (idB_iff h.sets hb.1 hb.2).2 fun a b hb hz => ?_
  rw [belI_bit h.sets h1] at hb ⊢
  rcases hb with hb | ⟨c, hc, hbc⟩
  · exact .inr ⟨b, hb, hz⟩
  · exact .inr ⟨c, hc, (h.trans (a := a) (b := b) (c := c) ⟨bit_none hz, hz⟩ ⟨bit_none hbc, hbc⟩).2⟩
theorem tops_bel (h : VoP zs) (_h0 : 0 ≤ s) (h1 : s < powI zs.length) : topsTo zs (belI zs s) zs.length = topsTo zs s zs.length := by
  refine bitB_ext (topsTo_bd _ _ _).1 (topsTo_bd _ _ _).1 fun j => ?_
  rw [Bool.eq_iff_iff, topsTo_bit, topsTo_bit]
  constructor
  · rintro ⟨hj, hb, hz⟩
    have hz' := andI_zero.1 hz
    refine ⟨hj, ?_, andI_zero.2 fun b hb => hz' b ((belI_bit h.sets h1 b).2 (.inl hb))⟩
    rcases (belI_bit h.sets h1 j).1 hb with e | ⟨c, hc, hjc⟩
    · exact e
    · rw [hz' c ((belI_bit h.sets h1 c).2 (.inl hc))] at hjc; cases hjc
  · rintro ⟨hj, hb, hz⟩
    have hz' := andI_zero.1 hz
    refine ⟨hj, (belI_bit h.sets h1 j).2 (.inl hb), andI_zero.2 fun b hb => ?_⟩
    rcases (belI_bit h.sets h1 b).1 hb with e | ⟨c, hc, hbc⟩
    · exact hz' b e
    · cases e : bitB (zs[j]?.getD 0) b
      · rfl
      · have := (h.trans (a := j) (b := b) (c := c) ⟨bit_none e, e⟩ ⟨bit_none hbc, hbc⟩).2
        rw [hz' c hc] at this; cases this
theorem bel_tops (h : VoP zs) (h0 : 0 ≤ s) (h1 : s < powI zs.length) : belI zs (topsTo zs s zs.length) = belI zs s := by
  have hb := topsTo_bd zs s zs.length
  refine bitB_ext (belI_bd h.sets hb.1 hb.2).1 (belI_bd h.sets h0 h1).1 fun j => ?_
  rw [Bool.eq_iff_iff, belI_bit h.sets hb.2, belI_bit h.sets h1]
  constructor
  · rintro (e | ⟨t, ht, hj⟩)
    · exact .inl ((topsTo_bit _ _).1 e).2.1
    · exact .inr ⟨t, ((topsTo_bit _ _).1 ht).2.1, hj⟩
  · rintro (e | ⟨b, hb, hj⟩)
    · obtain ⟨t, ht, e2⟩ := top_over h h1 _ j (Nat.le_refl _) e
      rcases e2 with rfl | e2
      · exact .inl ht
      · exact .inr ⟨t, ht, e2.2⟩
    · obtain ⟨t, ht, e2⟩ := top_over h h1 _ b (Nat.le_refl _) hb
      rcases e2 with rfl | e2
      · exact .inr ⟨b, ht, hj⟩
      · exact .inr ⟨t, ht, (h.trans (a := j) (b := b) (c := t) ⟨bit_none hj, hj⟩ e2).2⟩
theorem bel_self (h0 : idB zs s = true) : belI zs s = s := by simpa [idB] using h0
theorem all_bits' {n : Nat} : ∀ j : Nat, bitB (powI n - 1) j = decide (j < n) := fun j => by
  have e : (powI (n : Int) - 1).toNat = 2 ^ n - 1 := by
    have : powI (n : Int) = ((2 ^ n : Nat) : Int) := by simp [powI]
    omega
  simp [bitB, e, Nat.testBit_two_pow_sub_one]
theorem left_fin : ∀ n : Fin 7, ∀ k : Fin 64, (k.val : Int) < powI (n.val : Int) → lessI (powI (n.val : Int) - 1) (k.val : Int) = powI (n.val : Int) - 1 - (k.val : Int) := by decide +kernel
theorem left_is {n : Nat} {s : Int} (hn : n ≤ 6) (h0 : 0 ≤ s) (h1 : s < powI n) : lessI (powI n - 1) s = powI n - 1 - s := by
  have hpn := powI_le6 (n := (n : Int)) (by omega)
  obtain ⟨k, rfl⟩ := Int.eq_ofNat_of_zero_le h0
  exact left_fin ⟨n, by omega⟩ ⟨k, by omega⟩ h1
theorem left_ideal (h : VoP zs) (h0 : 0 ≤ s) (h1 : s < powI zs.length) (hi : idB zs s = true) : idB (du zs) (powI zs.length - 1 - s) = true := by
  have hp := powI_pos (zs.length : Int)
  refine (idB_iff (du_sets h.sets) (by omega) (by rw [du_len]; omega)).2 fun a b hb hz => ?_
  rw [← left_is h.1 h0 h1] at hb ⊢
  rw [bitB_less, all_bits', Bool.and_eq_true] at hb ⊢
  rw [du_bit h.sets] at hz
  have ha : a < zs.length := bitB_lt (h.sets.2 b (bit_none hz)).2 hz
  refine ⟨by simpa using ha, ?_⟩
  cases e : bitB s a
  · rfl
  · have := (idB_iff h.sets h0 h1).1 hi b a e hz
    rw [this] at hb; simp at hb
theorem tops_apart (h : VoP zs) (h0 : 0 ≤ s) (h1 : s < powI zs.length) (ha : apB zs s = true) : topsTo zs s zs.length = s := by
  have hp := powI_le6 (n := (zs.length : Int)) (by have := h.1; omega)
  refine bitB_ext (topsTo_bd zs s _).1 h0 fun j => ?_
  have key := topsTo_bit (zs := zs) (s := s) j zs.length
  cases e : bitB s j
  · cases e2 : bitB (topsTo zs s zs.length) j
    · rfl
    · have := (key.1 e2).2.1; rw [e] at this; cases this
  · exact key.2 ⟨bitB_lt h1 e, e, andI_zero.2 fun b hb => (apB_iff (by omega)).1 ha j b e hb⟩
/-- The tops of the next ideal are the lowest items that the one ahead lacks. -/
theorem next_tops (h : VoP zs) (_h0 : 0 ≤ s) (_h1 : s < powI zs.length) : topsTo zs (nextI zs s) zs.length = topsTo (du zs) (powI zs.length - 1 - s) zs.length := by
  have hp := powI_pos (zs.length : Int)
  have hp6 := powI_le6 (n := (zs.length : Int)) (by have := h.1; omega)
  have hb := topsTo_bd (du zs) (powI zs.length - 1 - s) zs.length
  have ha := tops_ap (s := powI zs.length - 1 - s) (du_vo h)
  rw [du_len, du_apB h.sets (by omega)] at ha
  unfold nextI
  rw [tops_bel h hb.1 hb.2, tops_apart h hb.1 hb.2 ha]
end
theorem in_set {zs : List Int} {s : Int} (_h : VoP zs) (h0 : 0 ≤ s) (h1 : s < powI zs.length) : inB s 0 (powI zs.length - 1) = true := by
  simp only [inB, decide_eq_true_eq]; omega
theorem set_parts {zs : List Int} {s : Int} (h : (vo zs && inB s 0 (powI zs.length - 1)) = true) : VoP zs ∧ 0 ≤ s ∧ s < powI zs.length := by
  rw [Bool.and_eq_true] at h
  refine ⟨by simpa [vo] using h.1, ?_⟩
  have := h.2
  simp only [inB, decide_eq_true_eq] at this
  omega
theorem topsR_in {zs : List Int} {s : Int} (h : VoP zs) (h0 : 0 ≤ s) (h1 : s < powI zs.length) : topsR zs s = topsTo zs s zs.length := by
  unfold topsR; rw [vo_true h, in_set h h0 h1]; rfl
theorem belowR_in {zs : List Int} {s : Int} (h : VoP zs) (h0 : 0 ≤ s) (h1 : s < powI zs.length) : belowR zs s = belI zs s := by
  unfold belowR; rw [vo_true h, in_set h h0 h1]; rfl
theorem isIdealR_in {zs : List Int} {s : Int} (h : VoP zs) (h0 : 0 ≤ s) (h1 : s < powI zs.length) : isIdealR zs s = idB zs s := by
  unfold isIdealR; rw [vo_true h, in_set h h0 h1]; rfl
end Go.Proofs.YtmlihbcffndnbaaDoor

/- Joins, what all of a set have above them, cuts, items with one next below, and orders of some items: as both sides tell them. No program. -/
namespace Go.Proofs.YtmlihbcffndnbaaDoor

/-- What is at or above an item. -/
def atUp (zs : List Int) (a : Nat) : Int := orI (zs[a]?.getD 0) (powI a)
theorem atUp_bd {zs : List Int} (h : Sets zs) {a : Nat} (ha : a < zs.length) : 0 ≤ atUp zs a ∧ atUp zs a < powI zs.length := by
  have hz := h.2 a ha
  exact orI_bd hz.1 hz.2 (Int.le_of_lt (powI_pos _)) (powI_lt ha)
theorem atUp_bit (zs : List Int) (a j : Nat) : bitB (atUp zs a) j = (bitB (zs[a]?.getD 0) j || decide (a = j)) := by unfold atUp; rw [bitB_or, bitB_pow]
/-- The items that are at or above all those of s less than k. -/
def comTo (zs : List Int) (s : Int) : Nat → Int
  | 0 => powI zs.length - 1
  | k + 1 => if bitB s k then andI (comTo zs s k) (atUp zs k) else comTo zs s k
theorem comTo_yes {zs : List Int} {s : Int} {k : Nat} (h : bitB s k = true) : comTo zs s (k + 1) = andI (comTo zs s k) (atUp zs k) := by simp [comTo, h]
theorem comTo_no {zs : List Int} {s : Int} {k : Nat} (h : bitB s k = false) : comTo zs s (k + 1) = comTo zs s k := by simp [comTo, h]
theorem comTo_bd (zs : List Int) (s : Int) : ∀ k : Nat, 0 ≤ comTo zs s k ∧ comTo zs s k < powI zs.length
  | 0 => by have := powI_pos (zs.length : Int); simp only [comTo]; omega
  | k + 1 => by
    have h := comTo_bd zs s k
    unfold comTo
    split
    · have := andI_bd (comTo zs s k) (atUp zs k); omega
    · exact h
theorem comTo_bit (zs : List Int) (s : Int) (j : Nat) : ∀ k : Nat, bitB (comTo zs s k) j = true ↔ j < zs.length ∧ ∀ a : Nat, a < k → bitB s a = true → bitB (atUp zs a) j = true
  | 0 => by
    unfold comTo
    rw [all_bits', decide_eq_true_eq]
    exact ⟨fun h => ⟨h, fun a ha => by omega⟩, fun h => h.1⟩
  | k + 1 => by
    cases hb : bitB s k
    · rw [comTo_no hb, comTo_bit zs s j k]
      refine ⟨fun h => ⟨h.1, fun a ha hs => ?_⟩, fun h => ⟨h.1, fun a ha hs => h.2 a (by omega) hs⟩⟩
      by_cases e : a = k
      · subst e; rw [hb] at hs; cases hs
      · exact h.2 a (by omega) hs
    · rw [comTo_yes hb, bitB_and, Bool.and_eq_true, comTo_bit zs s j k]
      refine ⟨fun h => ⟨h.1.1, fun a ha hs => ?_⟩, fun h => ⟨⟨h.1, fun a ha hs => h.2 a (by omega) hs⟩, h.2 k (by omega) hb⟩⟩
      by_cases e : a = k
      · subst e; exact h.2
      · exact h.1.2 a (by omega) hs
/-- The same, item by item of a list. -/
def comL (zs : List Int) (l : List Nat) : Int := l.foldl (fun (t : Int) (i : Nat) => andI t (atUp zs i)) (powI zs.length - 1)
theorem comL_snoc (zs : List Int) (l : List Nat) (i : Nat) : comL zs (l ++ [i]) = andI (comL zs l) (atUp zs i) := by simp [comL]
theorem comL_to (zs : List Int) (s : Int) : ∀ k : Nat, comL zs (itemsTo s k) = comTo zs s k
  | 0 => rfl
  | k + 1 => by
    have ih := comL_to zs s k
    cases hb : bitB s k
    · rw [itemsTo_no hb, comTo_no hb, ih]
    · rw [itemsTo_yes hb, comL_snoc, comTo_yes hb, ih]
theorem comTo_up {zs : List Int} {s : Int} {n : Nat} (h1 : s < powI n) : ∀ d : Nat, comTo zs s (n + d) = comTo zs s n
  | 0 => rfl
  | d + 1 => by
    have hb : bitB s ((n + d : Nat) : Int) = false := by
      cases h : bitB s ((n + d : Nat) : Int) with
      | false => rfl
      | true => have := bitB_lt h1 h; omega
    rw [← Nat.add_assoc, comTo_no hb, comTo_up h1 d]
theorem comL_all {zs : List Int} {s : Int} {n : Nat} (hn : n ≤ 6) (h1 : s < powI n) : comL zs (itemsL s) = comTo zs s n := by
  rw [itemsL, comL_to, show (6 : Nat) = n + (6 - n) from by omega, comTo_up h1]
/-- At or above both. -/
def upR (zs : List Int) (a b : Nat) : Int := andI (atUp zs a) (atUp zs b)
theorem upR_bd {zs : List Int} (h : Sets zs) {a b : Nat} (ha : a < zs.length) : 0 ≤ upR zs a b ∧ upR zs a b < powI zs.length := by
  have h1 := andI_bd (atUp zs a) (atUp zs b)
  have h2 := atUp_bd h ha
  unfold upR
  omega
/-- Two items as a set. -/
def twoS (a b : Nat) : Int := orI (orI 0 (powI a)) (powI b)
theorem twoS_bd {n a b : Nat} (ha : a < n) (hb : b < n) : 0 ≤ twoS a b ∧ twoS a b < powI n := by
  have h1 := orI_bd (a := 0) (b := powI a) (n := n) (Int.le_refl _) (powI_pos _) (Int.le_of_lt (powI_pos _)) (powI_lt ha)
  exact orI_bd h1.1 h1.2 (Int.le_of_lt (powI_pos _)) (powI_lt hb)
theorem twoS_bit (a b j : Nat) : bitB (twoS a b) j = (decide (a = j) || decide (b = j)) := by
  unfold twoS; rw [bitB_or, bitB_or, bitB_zero, bitB_pow, bitB_pow]; simp
theorem com_two {zs : List Int} (h : Sets zs) {a b : Nat} (ha : a < zs.length) (hb : b < zs.length) : comTo zs (twoS a b) zs.length = upR zs a b := by
  refine bitB_ext (comTo_bd _ _ _).1 (upR_bd h ha).1 fun j => ?_
  rw [Bool.eq_iff_iff, comTo_bit]
  unfold upR
  rw [bitB_and, Bool.and_eq_true]
  constructor
  · rintro ⟨hj, h2⟩
    exact ⟨h2 a ha (by rw [twoS_bit]; simp), h2 b hb (by rw [twoS_bit]; simp)⟩
  · rintro ⟨h1, h2⟩
    refine ⟨bitB_lt (atUp_bd h ha).2 h1, fun x _ hx => ?_⟩
    rw [twoS_bit, Bool.or_eq_true, decide_eq_true_eq, decide_eq_true_eq] at hx
    rcases hx with rfl | rfl
    · exact h1
    · exact h2
/-- An item of s that all of s are at or above. -/
def jnB (zs : List Int) (s : Int) (c : Nat) : Bool := bitB s c && lessI s (atUp zs c) == 0
theorem less_less (s p z : Int) : (lessI (lessI s p) z == 0) = (lessI s (orI z p) == 0) := by
  rw [Bool.eq_iff_iff, beq_iff_eq, beq_iff_eq, lessI_none, lessI_none]
  constructor
  · intro h j hj
    rw [bitB_or]
    cases hp : bitB p j
    · have := h j (by rw [bitB_less, hj, hp]; rfl)
      rw [this]; rfl
    · simp
  · intro h j hj
    rw [bitB_less, Bool.and_eq_true, Bool.not_eq_true'] at hj
    have := h j hj.1
    rw [bitB_or, hj.2, Bool.or_false] at this
    exact this
def jnI (zs : List Int) (s : Int) : Int := match (List.range zs.length).find? (jnB zs s) with | none => -1 | some c => (c : Int)
theorem jnI_at {zs : List Int} {s : Int} {c : Nat} (hc : c < zs.length) (hb : jnB zs s c = true) (hn : ∀ j, j < c → jnB zs s j = false) : jnI zs s = c := by
  have : (List.range zs.length).find? (jnB zs s) = some c := by
    rw [List.find?_range_eq_some]
    exact ⟨hb, by simpa using hc, fun j hj => by simpa using hn j hj⟩
  unfold jnI
  rw [this]
theorem jnI_none {zs : List Int} {s : Int} (hn : ∀ j, j < zs.length → jnB zs s j = false) : jnI zs s = -1 := by
  have : (List.range zs.length).find? (jnB zs s) = none := by
    rw [List.find?_eq_none]
    intro x hx
    rw [hn x (by simpa using hx)]
    simp
  unfold jnI
  rw [this]
theorem jnI_cases {zs : List Int} {s : Int} : (jnI zs s = -1 ∧ ∀ j, j < zs.length → jnB zs s j = false) ∨ ∃ c : Nat, jnI zs s = c ∧ c < zs.length ∧ jnB zs s c = true := by
  unfold jnI
  cases h : (List.range zs.length).find? (jnB zs s) with
  | none => exact .inl ⟨rfl, fun j hj => by
      have := List.find?_eq_none.1 h j (by simpa using hj)
      simpa using this⟩
  | some c => exact .inr ⟨c, rfl, by have := List.mem_of_find?_eq_some h; simpa using this, List.find?_some h⟩
theorem jnI_bd (zs : List Int) (s : Int) : -1 ≤ jnI zs s ∧ jnI zs s < zs.length := by
  rcases jnI_cases (zs := zs) (s := s) with h | ⟨c, h, hc, _⟩ <;> omega
/-- The join, -1 for none. -/
def joinI (zs : List Int) (a b : Nat) : Int := jnI zs (upR zs a b)
theorem joinI_bd (zs : List Int) (a b : Nat) : -1 ≤ joinI zs a b ∧ joinI zs a b < zs.length := jnI_bd _ _
def isIt (zs : List Int) (a : Int) : Bool := inB a 0 ((zs.length : Int) - 1)
def joinR (zs : List Int) (a b : Int) : Int := if vo zs && (isIt zs a && isIt zs b) then joinI zs a.toNat b.toNat else -1
def meetR (zs : List Int) (a b : Int) : Int := if vo zs && (isIt zs a && isIt zs b) then joinI (du zs) a.toNat b.toNat else -1

/-- The items with one item next below. -/
def snB (zs : List Int) (a : Nat) : Bool := popI (topsTo zs ((du zs)[a]?.getD 0) zs.length) == 1
def snTo (zs : List Int) : Nat → Int
  | 0 => 0
  | a + 1 => if snB zs a then orI (snTo zs a) (powI a) else snTo zs a
theorem snTo_yes {zs : List Int} {a : Nat} (h : snB zs a = true) : snTo zs (a + 1) = orI (snTo zs a) (powI a) := by simp [snTo, h]
theorem snTo_no {zs : List Int} {a : Nat} (h : snB zs a = false) : snTo zs (a + 1) = snTo zs a := by simp [snTo, h]
theorem snTo_bd (zs : List Int) : ∀ k : Nat, 0 ≤ snTo zs k ∧ snTo zs k < powI k
  | 0 => by simp [snTo, powI]
  | k + 1 => by
    have h := snTo_bd zs k
    have hp : powI (k : Int) < powI ((k + 1 : Nat) : Int) := powI_lt (by omega)
    unfold snTo
    split
    · exact orI_bd h.1 (by omega) (Int.le_of_lt (powI_pos _)) hp
    · omega
theorem snTo_bit (zs : List Int) (j : Nat) : ∀ k : Nat, bitB (snTo zs k) j = (decide (j < k) && snB zs j)
  | 0 => by simp [snTo, bitB_zero]
  | k + 1 => by
    have ih := snTo_bit zs j k
    cases hs : snB zs k
    · rw [snTo_no hs, ih]
      by_cases e : j = k
      · subst e; simp [hs]
      · have : (j < k + 1) ↔ (j < k) := by omega
        simp [this]
    · rw [snTo_yes hs, bitB_or, ih, bitB_pow]
      by_cases e : j = k
      · subst e; simp [hs]
      · have h1 : (j < k + 1) ↔ (j < k) := by omega
        have h2 : ¬ k = j := by omega
        simp [h1, h2]
def singlesR (zs : List Int) : Int := if vo zs then snTo zs zs.length else -1
/-- What is next below an item: as the model takes it, and the tops of all below it. -/
theorem next_below {zs : List Int} (h : VoP zs) {a : Nat} (ha : a < zs.length) : coverTo (du zs) a zs.length = topsTo zs ((du zs)[a]?.getD 0) zs.length := by
  have hd := du_sets h.sets
  have hb := coverTo_bd hd (a := a) (by rw [du_len]; exact ha) zs.length
  refine bitB_ext hb.1 (topsTo_bd _ _ _).1 fun j => ?_
  rw [Bool.eq_iff_iff, coverTo_bit, topsTo_bit, Bool.and_eq_true, List.all_eq_true, andI_zero]
  constructor
  · rintro ⟨h1, h2⟩
    refine ⟨by rw [du_bit h.sets] at h1; exact bit_none h1, h1, fun b hb => ?_⟩
    have hbn : b < zs.length := by rw [du_bit h.sets] at hb; exact bit_none hb
    have := h2 b (by simpa using hbn)
    rw [hb, du_bit h.sets] at this
    simpa using this
  · rintro ⟨h1, h2, h3⟩
    refine ⟨h2, fun y hy => ?_⟩
    cases hb : bitB ((du zs)[a]?.getD 0) y
    · rfl
    · have := h3 y hb
      rw [du_bit h.sets, this]
      rfl

/-- A set of just the items at or below all those at or above all of it. -/
def cutI (zs : List Int) (s : Int) : Int := comTo (du zs) (comTo zs s zs.length) zs.length
def cutB (zs : List Int) (s : Int) : Bool := cutI zs s == s
def cutsR (zs : List Int) : List Int := if vo zs then setsTo (cutB zs) (2 ^ zs.length) else []

/-- The place of an item of s. -/
def plN (s : Nat) (a : Nat) : Nat := (popI (andI (s : Int) (powI a - 1))).toNat
theorem plN_fin : ∀ s : Fin 64, ∀ a : Fin 7, (popI (andI (s.val : Int) (powI (a.val : Int) - 1))).toNat = ((List.range a.val).filter fun j => s.val.testBit j).length := by decide +kernel
theorem plN_is {s a : Nat} (hs : s < 64) (ha : a ≤ 6) : plN s a = (leftL a s).length := plN_fin ⟨s, hs⟩ ⟨a, by omega⟩
theorem leftL_split {n s a : Nat} (ha : a < n) (hb : s.testBit a = true) : ∃ t, leftL n s = leftL a s ++ a :: t := by
  refine ⟨((List.range (n - (a + 1))).map (fun x => a + 1 + x)).filter fun j => s.testBit j, ?_⟩
  unfold leftL
  have e : List.range n = List.range a ++ a :: (List.range (n - (a + 1))).map (fun x => a + 1 + x) := by
    have h1 : n = (a + 1) + (n - (a + 1)) := by omega
    conv => lhs; rw [h1, List.range_add, List.range_succ]
    simp
  rw [e, List.filter_append, List.filter_cons, if_pos hb]
theorem pl_at {n s a : Nat} (hs : s < 64) (hn : n ≤ 6) (ha : a < n) (hb : s.testBit a = true) : plN s a < (leftL n s).length ∧ (leftL n s)[plN s a]?.getD 0 = a := by
  obtain ⟨t, e⟩ := leftL_split ha hb
  rw [e, plN_is hs (by omega)]
  simp
theorem left_pop_fin : ∀ n : Fin 7, ∀ s : Fin 64, s.val < 2 ^ n.val → (popI (s.val : Int)).toNat = ((List.range n.val).filter fun j => s.val.testBit j).length := by decide +kernel
theorem left_pop {n s : Nat} (hn : n ≤ 6) (hs : s < 2 ^ n) : popI (s : Int) = (leftL n s).length := by
  have h64 := Nat.lt_of_lt_of_le hs (pow_le64 hn)
  have h1 := left_pop_fin ⟨n, by omega⟩ ⟨s, h64⟩ hs
  have h2 := (popI_bd (s := (s : Int)) (by omega) (by omega)).1
  simp only at h1
  unfold leftL
  omega
/-- The pairs of a list of which s has both. -/
def ptB (s : Int) (p : Nat × Nat) : Bool := bitB s p.1 && bitB s p.2
def ptP (s : Nat) (ps : List (Nat × Nat)) : List (Nat × Nat) := (ps.filter (ptB s)).map fun p => (plN s p.2, plN s p.1)
theorem ptP_yes {s : Nat} {ps : List (Nat × Nat)} {a b : Nat} (h1 : bitB s a = true) (h2 : bitB s b = true) : ptP s (ps ++ [(a, b)]) = ptP s ps ++ [(plN s b, plN s a)] := by
  simp [ptP, ptB, List.filter_append, h1, h2]
theorem ptP_no {s : Nat} {ps : List (Nat × Nat)} {a b : Nat} (h : bitB s a = false ∨ bitB s b = false) : ptP s (ps ++ [(a, b)]) = ptP s ps := by
  rcases h with h | h <;> simp [ptP, ptB, List.filter_append, h]
def partR (zs : List Int) (s : Int) : List Int := if vo zs && inB s 0 (powI zs.length - 1) then ind zs (leftL zs.length s.toNat) else []
theorem part_is {zs : List Int} (h : VoP zs) {s : Nat} (hs : s < 2 ^ zs.length) : downP (leftL zs.length s).length (ptP s (pairsL zs)) = ind zs (leftL zs.length s) := by
  have h6 := h.1
  have h64 := Nat.lt_of_lt_of_le hs (pow_le64 h6)
  have hi := leftL_inc zs s
  have hps : ∀ p ∈ ptP s (pairsL zs), p.1 < (leftL zs.length s).length ∧ p.2 < (leftL zs.length s).length := by
    intro p hp
    unfold ptP at hp
    rw [List.mem_map] at hp
    obtain ⟨⟨x, y⟩, hxy, rfl⟩ := hp
    rw [List.mem_filter] at hxy
    obtain ⟨h1, h2⟩ := hxy
    unfold ptB at h2
    rw [Bool.and_eq_true, bit_cast, bit_cast] at h2
    exact ⟨(pl_at h64 h6 (bit_lt hs h2.2) h2.2).1, (pl_at h64 h6 (bit_lt hs h2.1) h2.1).1⟩
  refine List.ext_getElem? fun i => ?_
  rcases Nat.lt_or_ge i (leftL zs.length s).length with hil | hil
  · have e1 : (downP (leftL zs.length s).length (ptP s (pairsL zs)))[i]? = some ((downP (leftL zs.length s).length (ptP s (pairsL zs)))[i]?.getD 0) := by
      rw [List.getElem?_eq_getElem (by rw [downP_len]; exact hil)]; rfl
    have e2 : (ind zs (leftL zs.length s))[i]? = some ((ind zs (leftL zs.length s))[i]?.getD 0) := by
      rw [List.getElem?_eq_getElem (by rw [ind_len]; exact hil)]; rfl
    rw [e1, e2]
    congr 1
    refine bitB_ext (downP_bd (fun p hp => (hps p hp).1) i).1 ?_ fun j => ?_
    · have := (ind_vo h hi).bd i (by rw [ind_len]; exact hil); exact this.1
    · rw [Bool.eq_iff_iff, downP_bit (fun p hp => (hps p hp).2), ind_bit hil]
      unfold ptP
      rw [List.mem_map]
      constructor
      · rintro ⟨⟨x, y⟩, hxy, e⟩
        rw [List.mem_filter] at hxy
        obtain ⟨h1, h2⟩ := hxy
        unfold ptB at h2
        rw [Bool.and_eq_true, bit_cast, bit_cast] at h2
        have hx := pl_at h64 h6 (bit_lt hs h2.1) h2.1
        have hy := pl_at h64 h6 (bit_lt hs h2.2) h2.2
        injection e with e3 e4
        rw [← e3, ← e4]
        exact ⟨hy.1, by rw [hx.2, hy.2]; exact (mem_pairsL.1 h1).2.2⟩
      · rintro ⟨hj, hb⟩
        have hx : s.testBit ((leftL zs.length s)[i]?.getD 0) = true ∧ (leftL zs.length s)[i]?.getD 0 < zs.length := by
          have := List.getElem_mem (l := leftL zs.length s) hil
          rw [List.getElem?_eq_getElem hil]
          unfold leftL at this ⊢
          rw [List.mem_filter] at this
          exact ⟨this.2, by simpa using this.1⟩
        have hy : s.testBit ((leftL zs.length s)[j]?.getD 0) = true ∧ (leftL zs.length s)[j]?.getD 0 < zs.length := by
          have := List.getElem_mem (l := leftL zs.length s) hj
          rw [List.getElem?_eq_getElem hj]
          unfold leftL at this ⊢
          rw [List.mem_filter] at this
          exact ⟨this.2, by simpa using this.1⟩
        refine ⟨((leftL zs.length s)[i]?.getD 0, (leftL zs.length s)[j]?.getD 0), ?_, ?_⟩
        · rw [List.mem_filter]
          refine ⟨mem_pairsL.2 ⟨hx.2, by omega, hb⟩, ?_⟩
          unfold ptB
          rw [Bool.and_eq_true, bit_cast, bit_cast]
          exact ⟨hx.1, hy.1⟩
        · have h1 := pl_at h64 h6 hx.2 hx.1
          have h2 := pl_at h64 h6 hy.2 hy.1
          have e1 := hi.at_inj h1.1 hil h1.2
          have e2 := hi.at_inj h2.1 hj h2.2
          simp only
          rw [e1, e2]
  · rw [List.getElem?_eq_none (by rw [downP_len]; exact hil), List.getElem?_eq_none (by rw [ind_len]; exact hil)]
end Go.Proofs.YtmlihbcffndnbaaDoor

/- Joins: what their own laws ask. No program. -/
namespace Go.Proofs.YtmlihbcffndnbaaDoor

theorem up_swap (zs : List Int) (a b : Nat) : upR zs a b = upR zs b a := by
  unfold upR andI
  rw [Nat.and_comm]
theorem join_swap (zs : List Int) (a b : Nat) : joinI zs a b = joinI zs b a := by unfold joinI; rw [up_swap]
theorem join_bits {zs : List Int} {a b c : Nat} (h : joinI zs a b = c) : c < zs.length ∧ bitB (atUp zs a) c = true ∧ bitB (atUp zs b) c = true := by
  rcases jnI_cases (zs := zs) (s := upR zs a b) with ⟨e, _⟩ | ⟨d, e, hd, hb⟩
  · exfalso
    have : joinI zs a b = -1 := e
    omega
  · have : joinI zs a b = (d : Int) := e
    obtain rfl : d = c := by omega
    unfold jnB at hb
    rw [Bool.and_eq_true] at hb
    have h1 := hb.1
    unfold upR at h1
    rw [bitB_and, Bool.and_eq_true] at h1
    exact ⟨hd, h1⟩
theorem at_or {zs : List Int} {a c : Nat} (h : bitB (atUp zs a) c = true) (hne : c ≠ a) : bitB (zs[a]?.getD 0) c = true := by
  rw [atUp_bit, Bool.or_eq_true, decide_eq_true_eq] at h
  rcases h with h | h
  · exact h
  · exact absurd h.symm hne
/-- Where there is one, all stand in range. -/
theorem join_parts {zs ds : List Int} {a b J : Int} (hJ : (if vo zs && (isIt zs a && isIt zs b) then joinI ds a.toNat b.toNat else -1) = J) (h0 : 0 ≤ J) :
    VoP zs ∧ ∃ x y c : Nat, a = x ∧ b = y ∧ J = c ∧ x < zs.length ∧ y < zs.length ∧ joinI ds x y = c := by
  cases e : (vo zs && (isIt zs a && isIt zs b))
  · rw [e] at hJ
    simp only [Bool.false_eq_true, if_false] at hJ
    omega
  · rw [e, if_pos rfl] at hJ
    rw [Bool.and_eq_true, Bool.and_eq_true] at e
    obtain ⟨hv, ha, hb⟩ := e
    unfold isIt inB at ha hb
    rw [decide_eq_true_eq] at ha hb
    refine ⟨by simpa [vo] using hv, a.toNat, b.toNat, J.toNat, by omega, by omega, by omega, by omega, by omega, by omega⟩
theorem isIt_cast {zs : List Int} {x : Nat} (h : x < zs.length) : isIt zs (x : Int) = true := by unfold isIt inB; rw [decide_eq_true_eq]; omega
theorem joinR_cast {zs : List Int} (h : VoP zs) {x y : Nat} (hx : x < zs.length) (hy : y < zs.length) : joinR zs x y = joinI zs x y := by
  unfold joinR; rw [vo_true h, isIt_cast hx, isIt_cast hy]; rfl
theorem meetR_cast {zs : List Int} (h : VoP zs) {x y : Nat} (hx : x < zs.length) (hy : y < zs.length) : meetR zs x y = joinI (du zs) x y := by
  unfold meetR; rw [vo_true h, isIt_cast hx, isIt_cast hy]; rfl
end Go.Proofs.YtmlihbcffndnbaaDoor

/- Cuts: ideals, closed under meeting, ascending, as many as those of the order turned round, at least as many as items. No program. -/
namespace Go.Proofs.YtmlihbcffndnbaaDoor

theorem inj_len {α β : Type} [DecidableEq β] (f : α → β) : ∀ (l : List α) (m : List β), l.Nodup → (∀ x ∈ l, f x ∈ m) → (∀ x ∈ l, ∀ y ∈ l, f x = f y → x = y) → l.length ≤ m.length
  | [], _, _, _, _ => Nat.zero_le _
  | a :: t, m, hn, hm, hi => by
    have ha := hm a (by simp)
    rw [List.nodup_cons] at hn
    have := inj_len f t (m.erase (f a)) hn.2 (fun x hx => by
      refine (List.mem_erase_of_ne fun e => ?_).2 (hm x (by simp [hx]))
      have := hi x (by simp [hx]) a (by simp) e
      subst this
      exact hn.1 hx) (fun x hx y hy => hi x (by simp [hx]) y (by simp [hy]))
    rw [List.length_erase_of_mem ha] at this
    have := List.length_pos_of_mem ha
    simp only [List.length_cons]
    omega
theorem setsTo_mem {p : Int → Bool} {k : Nat} {x : Int} : x ∈ setsTo p k ↔ ∃ j : Nat, j < k ∧ p (j : Int) = true ∧ (j : Int) = x := by
  simp [setsTo, and_assoc]
theorem setsTo_asc (p : Int → Bool) (k : Nat) : (setsTo p k).Pairwise (· < ·) := by
  unfold setsTo
  rw [List.pairwise_map]
  refine (List.pairwise_lt_range.filter _).imp fun h => by omega
theorem setsTo_nodup (p : Int → Bool) (k : Nat) : (setsTo p k).Nodup := (setsTo_asc p k).imp fun h => by omega
theorem setsTo_at {p : Int → Bool} {k i : Nat} (hi : i < (setsTo p k).length) : ∃ j : Nat, j < k ∧ p (j : Int) = true ∧ (setsTo p k)[i]?.getD 0 = (j : Int) := by
  obtain ⟨j, h1, h2, h3⟩ := setsTo_mem.1 (List.getElem_mem hi)
  exact ⟨j, h1, h2, by rw [List.getElem?_eq_getElem hi]; exact h3.symm⟩
theorem setsTo_less {p : Int → Bool} {k i : Nat} (h0 : 0 < i) (hi : i < (setsTo p k).length) : (setsTo p k)[i - 1]?.getD 0 < (setsTo p k)[i]?.getD 0 := by
  rw [List.getElem?_eq_getElem hi, List.getElem?_eq_getElem (by omega)]
  exact List.pairwise_iff_getElem.1 (setsTo_asc p k) (i - 1) i (by omega) hi (by omega)
/-- At or above. -/
theorem at_du {zs : List Int} (h : Sets zs) (a b : Nat) : bitB (atUp (du zs) a) b = bitB (atUp zs b) a := by
  rw [atUp_bit, atUp_bit, du_bit h]
  congr 1
  exact decide_eq_decide.2 ⟨Eq.symm, Eq.symm⟩
theorem at_self (zs : List Int) (a : Nat) : bitB (atUp zs a) a = true := by rw [atUp_bit]; simp
theorem at_trans {zs : List Int} (h : VoP zs) {a b c : Nat} (h1 : bitB (atUp zs a) b = true) (h2 : bitB (atUp zs b) c = true) : bitB (atUp zs a) c = true := by
  rw [atUp_bit, Bool.or_eq_true, decide_eq_true_eq] at h1 h2
  rcases h1 with h1 | rfl
  · rcases h2 with h2 | rfl
    · rw [atUp_bit, (h.trans ⟨bit_none h1, h1⟩ ⟨bit_none h2, h2⟩).2]; rfl
    · rw [atUp_bit, h1]; rfl
  · rw [atUp_bit, Bool.or_eq_true, decide_eq_true_eq]; exact h2
theorem at_asym {zs : List Int} (h : VoP zs) {a b : Nat} (h1 : bitB (atUp zs a) b = true) (h2 : bitB (atUp zs b) a = true) : a = b := by
  rw [atUp_bit, Bool.or_eq_true, decide_eq_true_eq] at h1 h2
  rcases h1 with h1 | h1
  · rcases h2 with h2 | h2
    · rw [h.asym (bit_none h1) h1] at h2; cases h2
    · exact h2.symm
  · exact h1
/-- The cut of a set: what is at or below all that is at or above all of it. -/
theorem cut_bit {zs : List Int} (h : Sets zs) (s : Int) (i : Nat) : bitB (cutI zs s) i = true ↔ i < zs.length ∧ ∀ j : Nat, j < zs.length → (∀ a : Nat, a < zs.length → bitB s a = true → bitB (atUp zs a) j = true) → bitB (atUp zs i) j = true := by
  unfold cutI
  rw [comTo_bit, du_len]
  refine and_congr_right fun _ => ⟨fun g j hj ha => ?_, fun g j hj hb => ?_⟩
  · rw [← at_du h]; exact g j hj ((comTo_bit _ _ _ _).2 ⟨hj, ha⟩)
  · rw [at_du h]; exact g j hj ((comTo_bit _ _ _ _).1 hb).2
theorem cut_bd (zs : List Int) (s : Int) : 0 ≤ cutI zs s ∧ cutI zs s < powI zs.length := by
  have := comTo_bd (du zs) (comTo zs s zs.length) zs.length
  rwa [du_len] at this
theorem cut_in {zs : List Int} (h : Sets zs) {s : Int} (h1 : s < powI zs.length) {i : Nat} (hb : bitB s i = true) : bitB (cutI zs s) i = true :=
  (cut_bit h s i).2 ⟨bitB_lt h1 hb, fun _ _ ha => ha i (bitB_lt h1 hb) hb⟩
theorem cut_mono {zs : List Int} (h : Sets zs) {s t : Int} (hst : ∀ i : Nat, bitB s i = true → bitB t i = true) {i : Nat} (hb : bitB (cutI zs s) i = true) : bitB (cutI zs t) i = true := by
  rw [cut_bit h] at hb ⊢
  exact ⟨hb.1, fun j hj ha => hb.2 j hj fun a ha1 hs => ha a ha1 (hst a hs)⟩
theorem cutB_iff {zs : List Int} (h : Sets zs) {s : Int} (h0 : 0 ≤ s) (h1 : s < powI zs.length) : cutB zs s = true ↔ ∀ i : Nat, bitB (cutI zs s) i = true → bitB s i = true := by
  unfold cutB
  rw [beq_iff_eq]
  refine ⟨fun e i hb => by rwa [e] at hb, fun g => bitB_ext (cut_bd zs s).1 h0 fun i => ?_⟩
  rw [Bool.eq_iff_iff]
  exact ⟨g i, cut_in h h1⟩
theorem cut_inter {zs : List Int} (h : Sets zs) {s t : Int} (s0 : 0 ≤ s) (s1 : s < powI zs.length) (_t0 : 0 ≤ t) (t1 : t < powI zs.length) (hs : cutB zs s = true) (ht : cutB zs t = true) :
    0 ≤ andI s t ∧ andI s t < powI zs.length ∧ cutB zs (andI s t) = true := by
  have h0 : 0 ≤ andI s t := by unfold andI; omega
  have hle : andI s t < powI zs.length := by
    have := andI_bd s t
    omega
  refine ⟨h0, hle, (cutB_iff h h0 hle).2 fun i hb => ?_⟩
  rw [bitB_and, Bool.and_eq_true]
  exact ⟨(cutB_iff h s0 s1).1 hs i (cut_mono h (fun j hj => by rw [bitB_and, Bool.and_eq_true] at hj; exact hj.1) hb),
    (cutB_iff h _t0 t1).1 ht i (cut_mono h (fun j hj => by rw [bitB_and, Bool.and_eq_true] at hj; exact hj.2) hb)⟩
theorem cut_ideal {zs : List Int} (h : VoP zs) {s : Int} (h0 : 0 ≤ s) (h1 : s < powI zs.length) (hs : cutB zs s = true) : idB zs s = true := by
  refine (idB_iff h.sets h0 h1).2 fun a b hb hz => (cutB_iff h.sets h0 h1).1 hs a ?_
  have hc := cut_in h.sets h1 hb
  rw [cut_bit h.sets] at hc ⊢
  refine ⟨bit_none hz, fun j hj ha => at_trans h (b := b) ?_ (hc.2 j hj ha)⟩
  rw [atUp_bit, hz]; rfl
theorem cut_all {zs : List Int} (h : Sets zs) : cutB zs (powI zs.length - 1) = true := by
  have hp := powI_pos (zs.length : Int)
  refine (cutB_iff h (by omega) (by omega)).2 fun i hb => ?_
  rw [all_bits', decide_eq_true_eq]
  exact ((cut_bit h _ i).1 hb).1
/-- What is at or below an item is a cut. -/
theorem cut_one {zs : List Int} (h : VoP zs) {a : Nat} (ha : a < zs.length) : 0 ≤ atUp (du zs) a ∧ atUp (du zs) a < powI zs.length ∧ cutB zs (atUp (du zs) a) = true := by
  have hb := atUp_bd (du_sets h.sets) (a := a) (by rw [du_len]; exact ha)
  rw [du_len] at hb
  refine ⟨hb.1, hb.2, (cutB_iff h.sets hb.1 hb.2).2 fun i hi => ?_⟩
  rw [at_du h.sets]
  refine ((cut_bit h.sets _ i).1 hi).2 a ha fun c _ hc => ?_
  rwa [at_du h.sets] at hc
theorem pow_cast (n : Nat) : powI (n : Int) = ((2 ^ n : Nat) : Int) := by simp [powI]
theorem mem_cuts {zs : List Int} (h : VoP zs) {x : Int} : x ∈ cutsR zs ↔ 0 ≤ x ∧ x < powI zs.length ∧ cutB zs x = true := by
  unfold cutsR
  rw [vo_true h, if_pos rfl, setsTo_mem, pow_cast]
  refine ⟨?_, fun ⟨h0, h1, h2⟩ => ⟨x.toNat, by omega, by rwa [Int.toNat_of_nonneg h0], Int.toNat_of_nonneg h0⟩⟩
  rintro ⟨j, h1, h2, rfl⟩
  exact ⟨by omega, by omega, h2⟩
theorem cuts_nodup (zs : List Int) : (cutsR zs).Nodup := by
  unfold cutsR
  split
  · exact setsTo_nodup _ _
  · exact List.nodup_nil
theorem cuts_many {zs : List Int} (h : VoP zs) : zs.length ≤ (cutsR zs).length := by
  have := inj_len (fun a : Nat => atUp (du zs) a) (List.range zs.length) (cutsR zs) List.nodup_range (fun a ha => (mem_cuts h).2 (cut_one h (by simpa using ha)))
    (fun a _ b _ e => at_asym h (by rw [← at_du h.sets, ← (show atUp (du zs) a = atUp (du zs) b from e)]; exact at_self _ _) (by rw [← at_du h.sets, (show atUp (du zs) a = atUp (du zs) b from e)]; exact at_self _ _))
  simpa using this
theorem cuts_du_le {zs : List Int} (h : VoP zs) : (cutsR zs).length ≤ (cutsR (du zs)).length := by
  refine inj_len (fun s => comTo zs s zs.length) _ _ (cuts_nodup zs) (fun s hs => ?_) (fun s hs t ht e => ?_)
  · obtain ⟨h0, h1, h2⟩ := (mem_cuts h).1 hs
    have hb := comTo_bd zs s zs.length
    refine (mem_cuts (du_vo h)).2 ⟨hb.1, by rw [du_len]; exact hb.2, ?_⟩
    unfold cutB at h2 ⊢
    rw [beq_iff_eq] at h2 ⊢
    unfold cutI at h2 ⊢
    rw [du_len, du_du h, h2]
  · have h2 := ((mem_cuts h).1 hs).2.2
    have h3 := ((mem_cuts h).1 ht).2.2
    unfold cutB at h2 h3
    rw [beq_iff_eq] at h2 h3
    rw [← h2, ← h3]
    unfold cutI
    rw [show comTo zs s zs.length = comTo zs t zs.length from e]
theorem cuts_du {zs : List Int} (h : VoP zs) : (cutsR (du zs)).length = (cutsR zs).length := by
  have h1 := cuts_du_le h
  have h2 := cuts_du_le (du_vo h)
  rw [du_du h] at h2
  omega
theorem cuts_last {zs : List Int} (h : VoP zs) {m : Nat} (hm : (cutsR zs).length = m + 1) : (cutsR zs)[m]?.getD 0 = powI zs.length - 1 := by
  have hp := powI_pos (zs.length : Int)
  have hin := (mem_cuts h).2 ⟨by omega, by omega, cut_all h.sets⟩
  obtain ⟨i, hi, e⟩ := List.getElem_of_mem hin
  have hl := (mem_cuts h).1 (List.getElem_mem (l := cutsR zs) (n := m) (by omega))
  rw [List.getElem?_eq_getElem (by omega), Option.getD_some]
  by_cases him : i = m
  · subst him; exact e
  · have hp : (cutsR zs).Pairwise (· < ·) := by
      unfold cutsR
      split
      · exact setsTo_asc _ _
      · exact List.Pairwise.nil
    have := List.pairwise_iff_getElem.1 hp i m hi (by omega) (by omega)
    omega
theorem cuts_pos {zs : List Int} (h : VoP zs) : 0 < (cutsR zs).length := by
  have hp := powI_pos (zs.length : Int)
  exact List.length_pos_of_mem ((mem_cuts h).2 ⟨by omega, by omega, cut_all h.sets⟩)
/-- What the cuts' own law asks of each. -/
theorem cuts_each {zs : List Int} (h : VoP zs) {i j : Nat} (hi : i < (cutsR zs).length) (hj : j < (cutsR zs).length) :
    isIdealR zs ((cutsR zs)[i]?.getD 0) = true ∧ andI ((cutsR zs)[i]?.getD 0) ((cutsR zs)[j]?.getD 0) ∈ cutsR zs := by
  rw [List.getElem?_eq_getElem hi, List.getElem?_eq_getElem hj, Option.getD_some, Option.getD_some]
  obtain ⟨a0, a1, a2⟩ := (mem_cuts h).1 (List.getElem_mem hi)
  obtain ⟨b0, b1, b2⟩ := (mem_cuts h).1 (List.getElem_mem hj)
  exact ⟨by rw [isIdealR_in h a0 a1]; exact cut_ideal h a0 a1 a2, (mem_cuts h).2 (cut_inter h.sets a0 a1 b0 b1 a2 b2)⟩
theorem cuts_asc (zs : List Int) {i : Nat} (h0 : 0 < i) (hi : i < (cutsR zs).length) : (cutsR zs)[i - 1]?.getD 0 < (cutsR zs)[i]?.getD 0 := by
  have hp : (cutsR zs).Pairwise (· < ·) := by
    unfold cutsR
    split
    · exact setsTo_asc _ _
    · exact List.Pairwise.nil
  rw [List.getElem?_eq_getElem hi, List.getElem?_eq_getElem (by omega)]
  exact List.pairwise_iff_getElem.1 hp (i - 1) i (by omega) hi (by omega)
end Go.Proofs.YtmlihbcffndnbaaDoor

/- Lattices: as both sides tell them. No program. -/
namespace Go.Proofs.YtmlihbcffndnbaaDoor

def JoinsOk (ds : List Int) : Prop := ∀ a, a < ds.length → ∀ b, b < ds.length → 0 ≤ joinI ds a b
instance (ds : List Int) : Decidable (JoinsOk ds) := by unfold JoinsOk; exact inferInstance
def latB (zs : List Int) : Bool := decide (0 < zs.length) && (decide (JoinsOk zs) && decide (JoinsOk (du zs)))
def latR (zs : List Int) : Bool := vo zs && latB zs
theorem join_self {ds : List Int} {a : Nat} (ha : a < ds.length) : 0 ≤ joinI ds a a := by
  rcases jnI_cases (zs := ds) (s := upR ds a a) with ⟨_, h⟩ | ⟨c, e, _⟩
  · exfalso
    have h1 := h a ha
    have h2 : jnB ds (upR ds a a) a = true := by
      unfold jnB
      have e1 : bitB (upR ds a a) a = true := by
        unfold upR
        rw [bitB_and, atUp_bit]
        simp
      have e2 : lessI (upR ds a a) (atUp ds a) = 0 := lessI_none.2 fun j hj => by
        unfold upR at hj
        rw [bitB_and, Bool.and_eq_true] at hj
        exact hj.1
      rw [e1, e2]
      rfl
    rw [h2] at h1
    cases h1
  · show 0 ≤ jnI ds (upR ds a a)
    omega
theorem joins_half {ds : List Int} (h : ∀ a, a < ds.length → ∀ b, b < a → 0 ≤ joinI ds a b) : JoinsOk ds := fun a ha b hb => by
  rcases Nat.lt_trichotomy b a with h1 | h1 | h1
  · exact h a ha b h1
  · subst h1; exact join_self hb
  · rw [join_swap]; exact h b hb a h1
theorem lattice_not {zs ds : List Int} {a b : Nat} (hd : ds = zs ∨ ds = du zs) (ha : a < zs.length) (hb : b < zs.length) (h : joinI ds a b < 0) : latB zs = false := by
  have hn : ¬ JoinsOk ds := fun hok => by
    have := hok a (by rcases hd with e | e <;> rw [e] <;> first | exact ha | (rw [du_len]; exact ha)) b (by rcases hd with e | e <;> rw [e] <;> first | exact hb | (rw [du_len]; exact hb))
    omega
  unfold latB
  rcases hd with e | e <;> subst e
  · rw [decide_eq_false hn]; simp
  · rw [decide_eq_false hn]; simp
theorem lattice_is {zs : List Int} (h1 : JoinsOk zs) (h2 : JoinsOk (du zs)) : latB zs = decide (0 < zs.length) := by
  unfold latB
  rw [decide_eq_true h1, decide_eq_true h2]
  simp
end Go.Proofs.YtmlihbcffndnbaaDoor

/- Cuts of a lattice: they are as many as items. No program. -/
namespace Go.Proofs.YtmlihbcffndnbaaDoor

/-- The join of two items, as what is at or above both. -/
theorem join_char {ds : List Int} (h : VoP ds) (hj : JoinsOk ds) {a b : Nat} (ha : a < ds.length) (hb : b < ds.length) :
    ∃ c : Nat, c < ds.length ∧ ∀ i : Nat, (bitB (atUp ds a) i = true ∧ bitB (atUp ds b) i = true) ↔ bitB (atUp ds c) i = true := by
  have h0 := hj a ha b hb
  rcases jnI_cases (zs := ds) (s := upR ds a b) with ⟨e, _⟩ | ⟨c, e, hc, hb2⟩
  · exfalso
    have : joinI ds a b = -1 := e
    omega
  · unfold jnB at hb2
    rw [Bool.and_eq_true, beq_iff_eq] at hb2
    refine ⟨c, hc, fun i => ⟨fun hi => ?_, fun hi => ?_⟩⟩
    · refine lessI_none.1 hb2.2 i ?_
      unfold upR
      rw [bitB_and, Bool.and_eq_true]
      exact hi
    · have h1 := hb2.1
      unfold upR at h1
      rw [bitB_and, Bool.and_eq_true] at h1
      exact ⟨at_trans h h1.1 hi, at_trans h h1.2 hi⟩
/-- What is at or above all of a set is what is at or above one item, if the set is not empty. -/
theorem joins_char {ds : List Int} (h : VoP ds) (hj : JoinsOk ds) (t : Int) : ∀ k : Nat, k ≤ ds.length → (∀ a : Nat, a < k → bitB t a = false) ∨
    ∃ c : Nat, c < ds.length ∧ ∀ i : Nat, (∀ a : Nat, a < k → bitB t a = true → bitB (atUp ds a) i = true) ↔ bitB (atUp ds c) i = true
  | 0, _ => .inl fun a ha => by omega
  | k + 1, hk => by
    have ih := joins_char h hj t k (by omega)
    cases hb : bitB t (k : Int)
    · rcases ih with ih | ⟨c, hc, ih⟩
      · refine .inl fun a ha => ?_
        by_cases e : a = k
        · subst e; exact hb
        · exact ih a (by omega)
      · refine .inr ⟨c, hc, fun i => ?_⟩
        rw [← ih i]
        refine ⟨fun g a ha hs => g a (by omega) hs, fun g a ha hs => ?_⟩
        by_cases e : a = k
        · subst e; rw [hb] at hs; cases hs
        · exact g a (by omega) hs
    · rcases ih with ih | ⟨c, hc, ih⟩
      · refine .inr ⟨k, by omega, fun i => ⟨fun g => g k (by omega) hb, fun g a ha hs => ?_⟩⟩
        by_cases e : a = k
        · subst e; exact g
        · rw [ih a (by omega)] at hs; cases hs
      · obtain ⟨d, hd, hdc⟩ := join_char h hj hc (show k < ds.length by omega)
        refine .inr ⟨d, hd, fun i => ?_⟩
        rw [← hdc i, ← ih i]
        refine ⟨fun g => ⟨fun a ha hs => g a (by omega) hs, g k (by omega) hb⟩, fun g a ha hs => ?_⟩
        by_cases e : a = k
        · subst e; exact g.2
        · exact g.1 a (by omega) hs
/-- One item at or above all. -/
theorem lat_top {ds : List Int} (h : VoP ds) (hn : 0 < ds.length) (hj : JoinsOk ds) : ∃ c : Nat, c < ds.length ∧ ∀ a : Nat, a < ds.length → bitB (atUp ds a) c = true := by
  rcases joins_char h hj (powI ds.length - 1) ds.length (Nat.le_refl _) with g | ⟨c, hc, g⟩
  · have := g 0 hn
    rw [all_bits', decide_eq_false_iff_not] at this
    exact absurd hn this
  · exact ⟨c, hc, fun a ha => (g c).2 (at_self _ _) a ha (by rw [all_bits', decide_eq_true_eq]; exact ha)⟩
theorem latB_parts {zs : List Int} (h : latB zs = true) : 0 < zs.length ∧ JoinsOk zs ∧ JoinsOk (du zs) := by
  unfold latB at h
  rw [Bool.and_eq_true, Bool.and_eq_true, decide_eq_true_eq, decide_eq_true_eq, decide_eq_true_eq] at h
  exact h
theorem lat_du {zs : List Int} (h : VoP zs) (hl : latB zs = true) : latR (du zs) = true := by
  obtain ⟨h1, h2, h3⟩ := latB_parts hl
  unfold latR
  rw [vo_true (du_vo h), lattice_is h3 (by rw [du_du h]; exact h2), du_len, decide_eq_true h1]
  rfl
/-- Each cut of a lattice is what is at or below an item. -/
theorem cut_lat {zs : List Int} (h : VoP zs) (hl : latB zs = true) {s : Int} (hs : s ∈ cutsR zs) : ∃ c : Nat, c < zs.length ∧ s = atUp (du zs) c := by
  obtain ⟨h1, h2, h3⟩ := latB_parts hl
  obtain ⟨s0, s1, hc⟩ := (mem_cuts h).1 hs
  have hsb : ∀ i : Nat, bitB s i = true ↔ i < zs.length ∧ ∀ a : Nat, a < zs.length → bitB (comTo zs s zs.length) a = true → bitB (atUp (du zs) a) i = true := fun i => by
    unfold cutB at hc
    rw [beq_iff_eq] at hc
    have e : comTo (du zs) (comTo zs s zs.length) zs.length = s := hc
    have g := comTo_bit (du zs) (comTo zs s zs.length) i zs.length
    rw [e, du_len] at g
    exact g
  rcases joins_char (du_vo h) h3 (comTo zs s zs.length) zs.length (by rw [du_len]; exact Nat.le_refl _) with g | ⟨c, hc2, g⟩
  · exfalso
    obtain ⟨c, hc3, ht⟩ := lat_top h h1 h2
    have := g c hc3
    rw [Bool.eq_false_iff] at this
    exact this ((comTo_bit _ _ _ _).2 ⟨hc3, fun a ha _ => ht a ha⟩)
  · rw [du_len] at hc2
    have hb := atUp_bd (du_sets h.sets) (a := c) (by rw [du_len]; exact hc2)
    refine ⟨c, hc2, bitB_ext s0 hb.1 fun i => ?_⟩
    rw [Bool.eq_iff_iff, hsb i]
    refine ⟨fun k => (g i).1 k.2, fun k => ⟨?_, (g i).2 k⟩⟩
    rw [at_du h.sets, atUp_bit, Bool.or_eq_true, decide_eq_true_eq] at k
    rcases k with k | k
    · exact bit_none k
    · omega
theorem cuts_lat {zs : List Int} (h : VoP zs) (hl : latB zs = true) : (cutsR zs).length = zs.length := by
  have h1 := cuts_many h
  have h2 := inj_len (fun s : Int => s) (cutsR zs) ((List.range zs.length).map fun c => atUp (du zs) c) (cuts_nodup zs) (fun s hs => by
    obtain ⟨c, hc, e⟩ := cut_lat h hl hs
    exact List.mem_map.2 ⟨c, by simpa using hc, e.symm⟩) (fun s _ t _ e => e)
  rw [List.length_map, List.length_range] at h2
  omega
end Go.Proofs.YtmlihbcffndnbaaDoor

/- Ranks of lines, as plain mathematics: counted item by item, from what is done and from what is left. No program. -/
namespace Go.Proofs.YtmlihbcffndnbaaDoor

theorem or_fin : ∀ s : Fin 64, ∀ a : Fin 6, s.val.testBit a.val = false → orI (s.val : Int) (powI (a.val : Int)) = ((s.val + 2 ^ a.val : Nat) : Int) := by decide +kernel
theorem or_is {s a : Nat} (hs : s < 64) (ha : a < 6) (hb : s.testBit a = false) : orI (s : Int) (powI (a : Int)) = ((s + 2 ^ a : Nat) : Int) := or_fin ⟨s, hs⟩ ⟨a, ha⟩ hb
theorem com_bit {n s j : Nat} (hn : n ≤ 6) (hs : s < 2 ^ n) (hj : j < 6) : (2 ^ n - 1 - s).testBit j = (decide (j < n) && !s.testBit j) :=
  com_bit_fin ⟨n, by omega⟩ ⟨s, Nat.lt_of_lt_of_le hs (pow_le64 hn)⟩ hs ⟨j, hj⟩
theorem add_lt {n s a : Nat} (hn : n ≤ 6) (hs : s < 2 ^ n) (ha : a < n) (hb : s.testBit a = false) : s + 2 ^ a < 2 ^ n :=
  add_lt_fin ⟨n, by omega⟩ ⟨s, Nat.lt_of_lt_of_le hs (pow_le64 hn)⟩ ⟨a, by omega⟩ hs ha hb
theorem nextE_eF {zs : List Int} (h : VoP zs) {D a : Nat} (hD : D < 2 ^ zs.length) (ha : a < zs.length) : nextE zs D a = eF zs (2 ^ zs.length - 1 - D) a := by
  have hn6 := h.1
  rw [Bool.eq_iff_iff, eF_iff h]
  unfold nextE
  rw [Bool.and_eq_true, beq_iff_eq, less_zero, com_bit hn6 hD (by omega)]
  simp only [ha, decide_true, Bool.true_and]
  constructor
  · rintro ⟨h1, h2⟩
    refine ⟨h1, fun b hb => ?_⟩
    have hbn : b < zs.length := bit_lt (n := zs.length) (by omega) hb
    rw [com_bit hn6 hD (by omega), Bool.and_eq_true] at hb
    cases e : bitB (zs[b]?.getD 0) a
    · rfl
    · have := h2 b (by rw [du_bit h.sets]; exact e)
      rw [this] at hb; simp at hb
  · rintro ⟨h1, h2⟩
    refine ⟨h1, fun j hj => ?_⟩
    rw [du_bit h.sets] at hj
    have hjn := bit_none' hj
    cases e : D.testBit j
    · have := h2 j (by rw [com_bit hn6 hD (by omega), e]; simp [hjn])
      rw [hj] at this; cases this
    · rfl
/-- The lines that go on with a lesser item than 'item', with D done. -/
def rkIn (zs : List Int) (D item : Nat) : Nat := ((List.range item).map fun a => if nextE zs D a then cF zs (2 ^ zs.length - 1 - (D + 2 ^ a)) else 0).sum
theorem rkIn_succ (zs : List Int) (D a : Nat) : rkIn zs D (a + 1) = rkIn zs D a + (if nextE zs D a then cF zs (2 ^ zs.length - 1 - (D + 2 ^ a)) else 0) := by
  unfold rkIn
  rw [List.range_succ, List.map_append, List.sum_append]
  simp
theorem rkIn_le {zs : List Int} (h : VoP zs) (D : Nat) : ∀ a : Nat, rkIn zs D a ≤ a * 46656
  | 0 => by simp [rkIn]
  | a + 1 => by
    have ih := rkIn_le h D a
    have hp := Nat.two_pow_pos zs.length
    have h1 := cF_le h (s := 2 ^ zs.length - 1 - (D + 2 ^ a)) (Nat.lt_of_le_of_lt (Nat.sub_le _ _) (by omega))
    have h2 : (if nextE zs D a then cF zs (2 ^ zs.length - 1 - (D + 2 ^ a)) else 0) ≤ 46656 := by
      cases nextE zs D a
      · exact Nat.zero_le _
      · exact h1
    rw [rkIn_succ, Nat.add_mul]
    exact Nat.add_le_add ih (by rw [Nat.one_mul]; exact h2)
/-- As the program adds: over the items that may come next. -/
def accR (zs : List Int) (S item : Nat) (pre : List Nat) : Nat := ((pre.filter fun a => decide (a < item)).map fun a => cF zs (S - 2 ^ a)).sum
theorem accR_yes {zs : List Int} {S item x : Nat} {pre : List Nat} (h : x < item) : accR zs S item (pre ++ [x]) = accR zs S item pre + cF zs (S - 2 ^ x) := by
  unfold accR; rw [List.filter_append]; simp [h]
theorem accR_no {zs : List Int} {S item x : Nat} {pre : List Nat} (h : ¬ x < item) : accR zs S item (pre ++ [x]) = accR zs S item pre := by
  unfold accR; rw [List.filter_append]; simp [h]
theorem accR_all {zs : List Int} (h : VoP zs) {D item : Nat} (hD : D < 2 ^ zs.length) (hi : item ≤ zs.length) : accR zs (2 ^ zs.length - 1 - D) item (nextL zs (2 ^ zs.length - 1 - D)) = rkIn zs D item := by
  have e : (nextL zs (2 ^ zs.length - 1 - D)).filter (fun a => decide (a < item)) = (List.range item).filter (nextE zs D) := by
    rw [nextL_is h]
    refine inc_ext _ _ (((range_inc _).filter _).filter _) ((range_inc _).filter _) fun a => ?_
    rw [List.mem_filter, List.mem_filter, List.mem_filter, List.mem_range, List.mem_range, decide_eq_true_eq]
    constructor
    · rintro ⟨⟨h1, h2⟩, h3⟩
      exact ⟨h3, by rw [nextE_eF h hD h1]; exact h2⟩
    · rintro ⟨h1, h2⟩
      exact ⟨⟨by omega, by rw [← nextE_eF h hD (by omega)]; exact h2⟩, h1⟩
  unfold accR rkIn
  rw [e, sum_if]
  refine congrArg List.sum (List.map_congr_left fun a ha => ?_)
  rw [Nat.sub_sub]
theorem accR_le {zs : List Int} (h : VoP zs) {S item : Nat} (hS : S < 2 ^ zs.length) : ∀ pre : List Nat, accR zs S item pre ≤ pre.length * 46656 := fun pre => by
  have h1 : ∀ x ∈ pre.filter (fun a => decide (a < item)), cF zs (S - 2 ^ x) ≤ 46656 := fun x _ => cF_le h (Nat.lt_of_le_of_lt (Nat.sub_le _ _) hS)
  have h2 := sum_le _ h1
  have h3 := List.length_filter_le (fun a => decide (a < item)) pre
  unfold accR
  exact Nat.le_trans h2 (Nat.mul_le_mul_right _ h3)
/-- The count under way. -/
def midR (zs : List Int) (S item R : Nat) (pre : List Nat) : Nat := R + accR zs S item pre
/-- What is done, and the item at a place, as numbers that are none less than 0. -/
def dN (ls : List Int) (k : Nat) : Nat := (doneTo ls k).toNat
def itN (ls : List Int) (k : Nat) : Nat := (ls[k]?.getD 0).toNat
def rkUp (zs ls : List Int) : Nat → Nat
  | 0 => 0
  | k + 1 => rkUp zs ls k + rkIn zs (dN ls k) (itN ls k)
theorem line_steps {zs ls : List Int} (h : lineB zs ls = true) : ls.length = zs.length ∧ ∀ k, k < zs.length → stepOk zs ls k = true := by
  unfold lineB at h
  rw [Bool.and_eq_true, decide_eq_true_eq, List.all_eq_true] at h
  exact ⟨h.1, fun k hk => h.2 k (by rw [List.mem_range]; omega)⟩
section
variable {zs ls : List Int}
theorem it_is {k : Nat} (h : stepOk zs ls k = true) : ls[k]?.getD 0 = (itN ls k : Int) ∧ itN ls k < zs.length := by
  have := stepOk_in h
  unfold itN; omega
theorem d_is {k : Nat} (h : ∀ i, i < k → stepOk zs ls i = true) : doneTo ls k = (dN ls k : Int) ∧ dN ls k < 2 ^ zs.length := by
  have := doneTo_bd k h
  have e : powI (zs.length : Int) = ((2 ^ zs.length : Nat) : Int) := by simp [powI]
  unfold dN; omega
theorem d_new {k : Nat} (hk : ∀ i, i < k → stepOk zs ls i = true) (h : stepOk zs ls k = true) : (dN ls k).testBit (itN ls k) = false := by
  have := stepOk_new h
  rw [(it_is h).1, (d_is hk).1, bit_cast] at this
  exact this
theorem d_succ (hv : VoP zs) {k : Nat} (hk : ∀ i, i < k → stepOk zs ls i = true) (h : stepOk zs ls k = true) : dN ls (k + 1) = dN ls k + 2 ^ itN ls k := by
  have hn6 := hv.1
  have h1 := d_is hk
  have h2 := it_is h
  have h3 : doneTo ls (k + 1) = orI (doneTo ls k) (powI (ls[k]?.getD 0)) := rfl
  rw [h1.1, h2.1, or_is (Nat.lt_of_lt_of_le h1.2 (pow_le64 hn6)) (by omega) (d_new hk h)] at h3
  unfold dN at h3 ⊢
  rw [h3]; rfl
theorem left_com (hv : VoP zs) : ∀ k : Nat, (∀ i, i < k → stepOk zs ls i = true) → leftTo zs.length ls k = ((2 ^ zs.length - 1 - dN ls k : Nat) : Int) := fun k hk => by
  have hn6 := hv.1
  have h1 := d_is hk
  have hp := Nat.two_pow_pos zs.length
  have hb := leftTo_bd (n := zs.length) (ls := ls) k
  refine bitB_ext hb.1 (by omega) fun j => ?_
  rw [leftTo_bit j k hk, bit_cast, h1.1, bit_cast]
  rcases Nat.lt_or_ge j 6 with hj | hj
  · rw [com_bit hn6 h1.2 hj]
  · have h64 := pow_le64 hn6
    have e : (2 ^ zs.length - 1 - dN ls k).testBit j = false := Nat.testBit_lt_two_pow (Nat.lt_of_lt_of_le (show 2 ^ zs.length - 1 - dN ls k < 2 ^ 6 by omega) (Nat.pow_le_pow_right (by decide) hj))
    rw [e, decide_eq_false (by omega)]; rfl
theorem rkUp_le (hv : VoP zs) : ∀ k : Nat, (∀ i, i < k → stepOk zs ls i = true) → rkUp zs ls k ≤ k * 279936
  | 0, _ => by simp [rkUp]
  | k + 1, h => by
    have ih := rkUp_le hv k fun i hi => h i (by omega)
    have h1 := rkIn_le hv (dN ls k) (itN ls k)
    have h2 := (it_is (h k (by omega))).2
    have h3 := hv.1
    unfold rkUp
    omega
end
def rankR (zs ls : List Int) : Int := if isLineR zs ls then (rkUp zs ls ls.length : Int) else -1
end Go.Proofs.YtmlihbcffndnbaaDoor

/- Lists that take items of an order to items of an order: as both sides tell them. No program. -/
namespace Go.Proofs.YtmlihbcffndnbaaDoor
open Go.RowKit Go.Shelf

/-- Whether an item is another one, or below it. -/
def amB (ys : List Int) (a b : Nat) : Bool := a == b || bitB (ys[a]?.getD 0) b
theorem amB_up (ys : List Int) (a b : Nat) : bitB (atUp ys a) b = amB ys a b := by
  rw [atUp_bit]; unfold amB; rw [Bool.or_comm]; rfl
/-- Whether each number is an item. -/
def endsB (m : Nat) (fs : List Int) : Bool := fs.all fun y => inB y 0 ((m : Int) - 1)
def mpB (zs ys fs : List Int) : Bool := vo zs && (vo ys && (fs.length == zs.length && endsB ys.length fs))
/-- Whether a list, or its head, keeps the order. -/
def mpOk (ys fs : List Int) (p : Nat × Nat) : Bool := !decide (max p.1 p.2 < fs.length) || amB ys (itN fs p.1) (itN fs p.2)
def riB (zs ys fs : List Int) : Bool := (pairsL zs).all (mpOk ys fs)
def risB (zs ys fs : List Int) : Bool := mpB zs ys fs && riB zs ys fs
theorem ends_it {m : Nat} {fs : List Int} (h : endsB m fs = true) {k : Nat} (hk : k < fs.length) : fs[k]?.getD 0 = (itN fs k : Int) ∧ itN fs k < m := by
  have h1 := List.all_eq_true.1 h (fs[k]) (List.getElem_mem hk)
  have e : fs[k]?.getD 0 = fs[k] := by rw [List.getElem?_eq_getElem hk]; rfl
  simp only [inB, decide_eq_true_eq] at h1
  unfold itN
  rw [e]
  omega
theorem riB_iff {zs ys fs : List Int} (hv : Sets zs) : riB zs ys fs = true ↔ ∀ x y, x < zs.length → y < zs.length → bitB (zs[x]?.getD 0) y = true → x < fs.length → y < fs.length → amB ys (itN fs x) (itN fs y) = true := by
  unfold riB
  rw [List.all_eq_true]
  constructor
  · intro h x y hx hy hb h1 h2
    have := h (x, y) (mem_pairsL.2 ⟨hx, by have := hv.1; omega, hb⟩)
    unfold mpOk at this
    simp only [Bool.or_eq_true, Bool.not_eq_true', decide_eq_false_iff_not] at this
    rcases this with h3 | h3
    · omega
    · exact h3
  · rintro h ⟨x, y⟩ hp
    obtain ⟨h1, h2, h3⟩ := hv.pair hp
    unfold mpOk
    simp only [Bool.or_eq_true, Bool.not_eq_true', decide_eq_false_iff_not]
    by_cases hm : max x y < fs.length
    · exact .inr (h x y h1 h2 h3 (by omega) (by omega))
    · exact .inl hm
theorem mp_parts {zs ys fs : List Int} (h : mpB zs ys fs = true) : VoP zs ∧ VoP ys ∧ fs.length = zs.length ∧ endsB ys.length fs = true := by
  unfold mpB at h
  rw [Bool.and_eq_true, Bool.and_eq_true, Bool.and_eq_true] at h
  exact ⟨by simpa [vo] using h.1, by simpa [vo] using h.2.1, by simpa using h.2.2.1, h.2.2.2⟩
theorem mp_no1 {zs ys fs : List Int} (h : (vo zs && vo ys) = false) : mpB zs ys fs = false := by
  unfold mpB; rw [← Bool.and_assoc, h]; rfl
theorem mp_no2 {zs ys fs : List Int} (h : fs.length ≠ zs.length) : mpB zs ys fs = false := by
  unfold mpB; simp [h]
theorem mp_no3 {zs ys fs : List Int} (h : endsB ys.length fs = false) : mpB zs ys fs = false := by
  unfold mpB; rw [h]; simp
theorem mp_yes {zs ys fs : List Int} (h : vo zs = true) (h' : vo ys = true) (hl : fs.length = zs.length) (he : endsB ys.length fs = true) : mpB zs ys fs = true := by
  unfold mpB; rw [h, h', he]; simp [hl]
theorem ri_no {zs ys fs : List Int} {x y : Nat} (hv : Sets zs) (hx : x < zs.length) (hy : y < zs.length) (hb : bitB (zs[x]?.getD 0) y = true) (h1 : x < fs.length) (h2 : y < fs.length) (h : amB ys (itN fs x) (itN fs y) = false) : riB zs ys fs = false := by
  cases e : riB zs ys fs
  · rfl
  · rw [(riB_iff hv).1 e x y hx hy hb h1 h2] at h; cases h
/-- The items that a list leaves as they are. -/
def fixTo (fs : List Int) : Nat → Int
  | 0 => 0
  | k + 1 => if itN fs k == k then orI (fixTo fs k) (powI k) else fixTo fs k
theorem fixTo_bd (fs : List Int) : ∀ k : Nat, 0 ≤ fixTo fs k ∧ fixTo fs k < powI k := by
  intro k
  induction k with
  | zero => exact ⟨Int.le_refl _, powI_pos _⟩
  | succ k ih =>
    have hp := powI_lt (show k < k + 1 by omega)
    have hp0 := powI_pos (k : Int)
    unfold fixTo
    cases itN fs k == k
    · simp only [Bool.false_eq_true, if_false]
      exact ⟨ih.1, Int.lt_trans ih.2 hp⟩
    · simp only [if_true]
      exact orI_bd (n := ((k + 1 : Nat) : Int)) ih.1 (Int.lt_trans ih.2 hp) (Int.le_of_lt hp0) hp
theorem fixTo_bit (fs : List Int) (j : Nat) : ∀ k : Nat, bitB (fixTo fs k) j = (decide (j < k) && itN fs j == j) := by
  intro k
  induction k with
  | zero => simp [fixTo, bitB_zero]
  | succ k ih =>
    unfold fixTo
    cases h : itN fs k == k
    · simp only [Bool.false_eq_true, if_false]
      rw [ih]
      by_cases e : j = k
      · subst e; simp [h]
      · have : (j < k + 1) = (j < k) := by simp; omega
        simp only [this]
    · simp only [if_true]
      rw [bitB_or, ih, bitB_pow]
      by_cases e : j = k
      · subst e; simp [h]
      · have : (j < k + 1) = (j < k) := by simp; omega
        have h2 : ¬ k = j := fun e2 => e e2.symm
        simp [this, h2]
def fixedR (zs fs : List Int) : Int := if risB zs zs fs then fixTo fs zs.length else -1
end Go.Proofs.YtmlihbcffndnbaaDoor

/- Pairings: as both sides tell them. No program. -/
namespace Go.Proofs.YtmlihbcffndnbaaDoor
open Go.RowKit Go.Shelf
/-- Whether two lists tell each other. -/
def prB (zs ys fs gs : List Int) : Bool := (List.range fs.length).all fun x => (List.range gs.length).all fun y => amB ys (itN fs x) y == amB zs x (itN gs y)
theorem prB_iff {zs ys fs gs : List Int} : prB zs ys fs gs = true ↔ ∀ x y, x < fs.length → y < gs.length → amB ys (itN fs x) y = amB zs x (itN gs y) := by
  unfold prB
  simp only [List.all_eq_true, List.mem_range, beq_iff_eq]
  exact ⟨fun h x y hx hy => h x hx y hy, fun h x hx y hy => h x y hx hy⟩
theorem prB_no {zs ys fs gs : List Int} {x y : Nat} (hx : x < fs.length) (hy : y < gs.length) (h : amB ys (itN fs x) y ≠ amB zs x (itN gs y)) : prB zs ys fs gs = false := by
  cases e : prB zs ys fs gs
  · rfl
  · exact absurd (prB_iff.1 e x y hx hy) h
def pairB (zs ys fs gs : List Int) : Bool := mpB zs ys fs && (mpB ys zs gs && prB zs ys fs gs)
/-- The items that are taken to an end, or to one below it. -/
def enTo (ys fs : List Int) (y : Nat) : Nat → Int
  | 0 => 0
  | k + 1 => if amB ys (itN fs k) y then orI (enTo ys fs y k) (powI k) else enTo ys fs y k
theorem enTo_yes {ys fs : List Int} {y k : Nat} (h : amB ys (itN fs k) y = true) : enTo ys fs y (k + 1) = orI (enTo ys fs y k) (powI k) := by rw [enTo]; simp [h]
theorem enTo_no {ys fs : List Int} {y k : Nat} (h : amB ys (itN fs k) y = false) : enTo ys fs y (k + 1) = enTo ys fs y k := by rw [enTo]; simp [h]
theorem enTo_bd (ys fs : List Int) (y : Nat) : ∀ k : Nat, 0 ≤ enTo ys fs y k ∧ enTo ys fs y k < powI k := by
  intro k
  induction k with
  | zero => exact ⟨Int.le_refl _, powI_pos _⟩
  | succ k ih =>
    have hp := powI_lt (show k < k + 1 by omega)
    have hp0 := powI_pos (k : Int)
    cases h : amB ys (itN fs k) y
    · rw [enTo_no h]
      exact ⟨ih.1, Int.lt_trans ih.2 hp⟩
    · rw [enTo_yes h]
      exact orI_bd (n := ((k + 1 : Nat) : Int)) ih.1 (Int.lt_trans ih.2 hp) (Int.le_of_lt hp0) hp
theorem enTo_bit (ys fs : List Int) (y j : Nat) : ∀ k : Nat, bitB (enTo ys fs y k) j = (decide (j < k) && amB ys (itN fs j) y) := by
  intro k
  induction k with
  | zero => simp [enTo, bitB_zero]
  | succ k ih =>
    cases h : amB ys (itN fs k) y
    · rw [enTo_no h, ih]
      by_cases e : j = k
      · subst e; simp [h]
      · have : (j < k + 1) = (j < k) := by simp; omega
        simp only [this]
    · rw [enTo_yes h, bitB_or, ih, bitB_pow]
      by_cases e : j = k
      · subst e; simp [h]
      · have : (j < k + 1) = (j < k) := by simp; omega
        have h2 : ¬ k = j := fun e2 => e e2.symm
        simp [this, h2]
end Go.Proofs.YtmlihbcffndnbaaDoor

/- The list that makes a pairing: as both sides tell it. No program. -/
namespace Go.Proofs.YtmlihbcffndnbaaDoor
open Go.RowKit Go.Shelf
theorem am_iff {zs : List Int} {a b : Nat} (ha : a < zs.length) : amB zs a b = true ↔ a = b ∨ lt zs a b := by
  unfold amB lt
  rw [Bool.or_eq_true, beq_iff_eq]
  exact ⟨fun h => h.imp id fun h => ⟨ha, h⟩, fun h => h.imp id fun h => h.2⟩
theorem am_refl (zs : List Int) (a : Nat) : amB zs a a = true := by unfold amB; simp
theorem am_trans {zs : List Int} (hv : VoP zs) {a b c : Nat} (ha : a < zs.length) (hb : b < zs.length) (h1 : amB zs a b = true) (h2 : amB zs b c = true) : amB zs a c = true := by
  rw [am_iff ha] at h1 ⊢
  rw [am_iff hb] at h2
  rcases h1 with rfl | h1
  · exact h2
  · rcases h2 with rfl | h2
    · exact .inr h1
    · exact .inr (hv.trans h1 h2)
theorem am_anti {zs : List Int} (hv : VoP zs) {a b : Nat} (ha : a < zs.length) (hb : b < zs.length) (h1 : amB zs a b = true) (h2 : amB zs b a = true) : a = b := by
  rw [am_iff ha] at h1
  rw [am_iff hb] at h2
  rcases h1 with h1 | h1
  · exact h1
  · rcases h2 with h2 | h2
    · exact h2.symm
    · exact absurd (hv.trans h1 h2) hv.irr
theorem jn_du {zs : List Int} (hv : Sets zs) {s : Int} {g : Nat} : jnB (du zs) s g = true ↔ bitB s g = true ∧ ∀ j : Nat, bitB s j = true → amB zs j g = true := by
  unfold jnB
  rw [Bool.and_eq_true, beq_iff_eq, lessI_none]
  refine and_congr_right fun _ => forall_congr' fun j => imp_congr_right fun _ => ?_
  rw [atUp_bit, du_bit hv]
  unfold amB
  rw [Bool.or_comm, show decide (g = j) = (j == g) by
    by_cases e : g = j
    · subst e; simp
    · have e2 : ¬ j = g := fun x => e x.symm
      simp [e, e2]]
theorem jn_one {zs : List Int} (hv : VoP zs) {s : Int} {g g' : Nat} (hs : ∀ j : Nat, bitB s j = true → j < zs.length) (h : jnB (du zs) s g = true) (h' : jnB (du zs) s g' = true) : g = g' := by
  rw [jn_du hv.sets] at h h'
  exact am_anti hv (hs g h.1) (hs g' h'.1) (h'.2 g h.1) (h.2 g' h'.1)
/-- The item for an end, -1 for none. -/
def gI (zs ys fs : List Int) (y : Nat) : Int := jnI (du zs) (enTo ys fs y zs.length)
def gsTo (zs ys fs : List Int) (k : Nat) : List Int := (List.range k).map (gI zs ys fs)
def gAll (zs ys fs : List Int) : Bool := (List.range ys.length).all fun y => decide (0 ≤ gI zs ys fs y)
def poB (zs ys fs : List Int) : Bool := mpB zs ys fs && (riB zs ys fs && gAll zs ys fs)
def poR (zs ys fs : List Int) : List Int := if poB zs ys fs then gsTo zs ys fs ys.length else []
theorem gsTo_len (zs ys fs : List Int) (k : Nat) : (gsTo zs ys fs k).length = k := by simp [gsTo]
theorem gsTo_get (zs ys fs : List Int) {k y : Nat} (h : y < k) : (gsTo zs ys fs k)[y]?.getD 0 = gI zs ys fs y := by simp [gsTo, h]
theorem gsTo_succ (zs ys fs : List Int) (k : Nat) : gsTo zs ys fs (k + 1) = gsTo zs ys fs k ++ [gI zs ys fs k] := by simp [gsTo, List.range_succ]
theorem gAll_iff {zs ys fs : List Int} : gAll zs ys fs = true ↔ ∀ y, y < ys.length → 0 ≤ gI zs ys fs y := by
  unfold gAll; simp [List.all_eq_true]
theorem gAll_no {zs ys fs : List Int} {y : Nat} (hy : y < ys.length) (h : gI zs ys fs y < 0) : gAll zs ys fs = false := by
  cases e : gAll zs ys fs
  · rfl
  · have := gAll_iff.1 e y hy; omega
theorem gI_bd (zs ys fs : List Int) (y : Nat) : -1 ≤ gI zs ys fs y ∧ gI zs ys fs y < zs.length := by
  have := jnI_bd (du zs) (enTo ys fs y zs.length)
  rw [du_len] at this
  exact this
theorem gs_ends {zs ys fs : List Int} {k : Nat} (h : ∀ y, y < k → 0 ≤ gI zs ys fs y) : endsB zs.length (gsTo zs ys fs k) = true := by
  unfold endsB gsTo
  rw [List.all_eq_true]
  intro x hx
  obtain ⟨y, hy, rfl⟩ := List.mem_map.1 hx
  have := gI_bd zs ys fs y
  have := h y (List.mem_range.1 hy)
  unfold inB
  simp; omega
/-- What the item for an end is. -/
theorem gI_is {zs ys fs : List Int} (hv : VoP zs) {y : Nat} (h : 0 ≤ gI zs ys fs y) : (gI zs ys fs y).toNat < zs.length ∧ amB ys (itN fs (gI zs ys fs y).toNat) y = true ∧ ∀ x, x < zs.length → amB ys (itN fs x) y = true → amB zs x (gI zs ys fs y).toNat = true := by
  unfold gI at h ⊢
  rcases jnI_cases (zs := du zs) (s := enTo ys fs y zs.length) with ⟨e, _⟩ | ⟨c, e, hc, hb⟩
  · omega
  · rw [e]
    rw [du_len] at hc
    rw [jn_du hv.sets] at hb
    have h1 := hb.1
    rw [enTo_bit, Bool.and_eq_true] at h1
    refine ⟨by simpa using hc, by simpa using h1.2, fun x hx ha => ?_⟩
    have := hb.2 x (by rw [enTo_bit, ha]; simp [hx])
    simpa using this
theorem po_pr {zs ys fs : List Int} (hm : mpB zs ys fs = true) (hg : gAll zs ys fs = true) : prB zs ys fs (gsTo zs ys fs ys.length) = riB zs ys fs := by
  obtain ⟨hv, hvy, hl, he⟩ := mp_parts hm
  have hg' := gAll_iff.1 hg
  have hit : ∀ y, y < ys.length → itN (gsTo zs ys fs ys.length) y = (gI zs ys fs y).toNat := fun y hy => by unfold itN; rw [gsTo_get _ _ _ hy]
  rw [Bool.eq_iff_iff, prB_iff, riB_iff hv.sets, gsTo_len]
  constructor
  · intro h x x' hx hx' hb _ h2
    have hy := (ends_it he h2).2
    have h3 := gI_is (ys := ys) (fs := fs) (y := itN fs x') hv (hg' _ hy)
    have h4 := h3.2.2 x' hx' (am_refl _ _)
    rw [h x (itN fs x') (by omega) hy, hit _ hy]
    exact am_trans hv hx hx' (by unfold amB; rw [hb]; simp) h4
  · intro h x y hx hy
    rw [hit y hy, Bool.eq_iff_iff]
    have h3 := gI_is (ys := ys) (fs := fs) (y := y) hv (hg' y hy)
    constructor
    · exact h3.2.2 x (by omega)
    · intro h4
      rw [am_iff (by omega)] at h4
      rcases h4 with h4 | h4
      · rw [h4]; exact h3.2.1
      · have h5 := h x (gI zs ys fs y).toNat (by omega) h3.1 h4.2 hx (by omega)
        exact am_trans hvy (ends_it he hx).2 (ends_it he (show (gI zs ys fs y).toNat < fs.length by omega)).2 h5 h3.2.1
end Go.Proofs.YtmlihbcffndnbaaDoor

/- The least item that a rising list leaves as it is: as both sides tell it. No program. -/
namespace Go.Proofs.YtmlihbcffndnbaaDoor
open Go.RowKit Go.Shelf
/-- The item below all others. -/
def botI (zs : List Int) : Int := jnI zs (powI zs.length - 1)
def fxI (fs : List Int) : Nat → Nat → Nat
  | 0, a => a
  | k + 1, a => if itN fs a == a then a else fxI fs k (itN fs a)
def lfB (zs fs : List Int) : Bool := latR zs && risB zs zs fs
def lfR (zs fs : List Int) : Int := if lfB zs fs then (fxI fs 6 (botI zs).toNat : Int) else -1
theorem bot_is {zs : List Int} (h : latR zs = true) : VoP zs ∧ 0 < zs.length ∧ ∃ c : Nat, botI zs = c ∧ c < zs.length ∧ ∀ a, a < zs.length → amB zs c a = true := by
  unfold latR at h
  rw [Bool.and_eq_true] at h
  have hv : VoP zs := by simpa [vo] using h.1
  obtain ⟨hn, _, h2⟩ := latB_parts h.2
  refine ⟨hv, hn, ?_⟩
  obtain ⟨c, hc, ht⟩ := lat_top (du_vo hv) (by rw [du_len]; exact hn) h2
  rw [du_len] at hc
  have hb : ∀ a, a < zs.length → amB zs c a = true := fun a ha => by
    have := ht a (by rw [du_len]; exact ha)
    rw [amB_up] at this
    unfold amB at this ⊢
    rw [du_bit hv.sets] at this
    rw [Bool.or_eq_true, beq_iff_eq] at this ⊢
    exact this.imp Eq.symm id
  have hj : ∀ x, x < zs.length → jnB zs (powI zs.length - 1) x = true → x = c := fun x hx h => by
    unfold jnB at h
    rw [Bool.and_eq_true, beq_iff_eq, lessI_none] at h
    have := h.2 c (by rw [all_bits', decide_eq_true_eq]; exact hc)
    rw [amB_up] at this
    exact am_anti hv hx hc this (hb x hx)
  have hjc : jnB zs (powI zs.length - 1) c = true := by
    unfold jnB
    rw [Bool.and_eq_true, beq_iff_eq, lessI_none]
    refine ⟨by rw [all_bits', decide_eq_true_eq]; exact hc, fun j hj => ?_⟩
    rw [all_bits', decide_eq_true_eq] at hj
    rw [amB_up]
    exact hb j hj
  refine ⟨c, ?_, hc, hb⟩
  unfold botI
  refine jnI_at hc hjc fun j hj2 => ?_
  cases e : jnB zs (powI zs.length - 1) j
  · rfl
  · have := hj j (by omega) e
    omega
theorem pop_bot_fin : ∀ n : Fin 7, ∀ s : Fin 64, ∀ c : Fin 6, s.val < 2 ^ n.val → c.val < n.val → s.val.testBit c.val = false → (∀ j : Fin 6, j.val < n.val → j ≠ c → s.val.testBit j.val = true) → popI (s.val : Int) + 1 = (n.val : Int) := by decide +kernel
theorem pop_two_fin2 : ∀ n : Fin 7, ∀ s : Fin 64, ∀ a c : Fin 6, s.val < 2 ^ n.val → a.val < n.val → c.val < n.val → a ≠ c → s.val.testBit a.val = false → s.val.testBit c.val = false → popI (s.val : Int) + 2 ≤ (n.val : Int) := by decide +kernel
theorem set_nat {zs : List Int} (hv : VoP zs) {a : Nat} (ha : a < zs.length) : ∃ s : Nat, zs[a]?.getD 0 = (s : Int) ∧ s < 64 ∧ s < 2 ^ zs.length ∧ ∀ j : Nat, s.testBit j = bitB (zs[a]?.getD 0) j := by
  have h1 := hv.sets.2 a ha
  have h2 := hv.sets.bd a ha
  refine ⟨(zs[a]?.getD 0).toNat, by omega, by omega, ?_, fun j => ?_⟩
  · have e : powI (zs.length : Int) = ((2 ^ zs.length : Nat) : Int) := by simp [powI]
    rw [e] at h1; omega
  · rw [← bit_cast]; congr 1; omega
/-- Just the item below all others has all others above it. -/
theorem pop_bot {zs : List Int} (h : latR zs = true) {a : Nat} (ha : a < zs.length) : (popI (zs[a]?.getD 0) < (zs.length : Int) - 1) ↔ (a : Int) ≠ botI zs := by
  obtain ⟨hv, hn, c, hc, hcl, hb⟩ := bot_is h
  have h6 := hv.1
  obtain ⟨s, hs, hs64, hsn, hbit⟩ := set_nat hv ha
  have hirr := hv.irrB ha
  rw [hs, hc]
  by_cases hac : a = c
  · subst hac
    have := pop_bot_fin ⟨zs.length, by omega⟩ ⟨s, hs64⟩ ⟨a, by omega⟩ hsn hcl (by rw [hbit]; exact hirr) (fun j hj hne => by
      rw [hbit]
      have h2 := hb j.val hj
      unfold amB at h2
      rw [Bool.or_eq_true, beq_iff_eq] at h2
      rcases h2 with h2 | h2
      · exact absurd (Fin.ext h2.symm) hne
      · exact h2)
    simp only at this
    constructor
    · intro h; omega
    · intro h; exact absurd rfl h
  · have hcb : bitB (zs[a]?.getD 0) c = false := by
      cases e : bitB (zs[a]?.getD 0) c
      · rfl
      · have := am_anti hv ha hcl (by unfold amB; rw [e]; simp) (hb a ha)
        exact absurd this hac
    have := pop_two_fin2 ⟨zs.length, by omega⟩ ⟨s, hs64⟩ ⟨a, by omega⟩ ⟨c, by omega⟩ hsn ha hcl (fun e => hac (by simpa using congrArg Fin.val e)) (by rw [hbit]; exact hirr) (by rw [hbit]; exact hcb)
    simp only at this
    constructor
    · intro _ e; exact hac (by omega)
    · intro _; omega
/-- Where the way up stands. -/
def LfOk (zs fs : List Int) (R a : Nat) : Prop := a < zs.length ∧ amB zs a (itN fs a) = true ∧ ∃ k, fxI fs k a = R ∧ 6 ≤ hgt zs a + (k : Int)
theorem lf_start {zs fs : List Int} (h : lfB zs fs = true) : ∃ c : Nat, botI zs = c ∧ LfOk zs fs (fxI fs 6 (botI zs).toNat) c := by
  unfold lfB at h
  rw [Bool.and_eq_true] at h
  obtain ⟨hv, hn, c, hc, hcl, hb⟩ := bot_is h.1
  have hm := h.2
  unfold risB at hm
  rw [Bool.and_eq_true] at hm
  obtain ⟨-, -, hl, he⟩ := mp_parts hm.1
  have := hgt_nn zs c
  refine ⟨c, hc, hcl, hb _ (ends_it he (by omega)).2, 6, by rw [hc]; rfl, by omega⟩
theorem lf_next {zs fs : List Int} (h : lfB zs fs = true) {R a : Nat} (hk : LfOk zs fs R a) (hne : itN fs a ≠ a) : LfOk zs fs R (itN fs a) ∧ hgt zs a < hgt zs (itN fs a) := by
  unfold lfB at h
  rw [Bool.and_eq_true] at h
  obtain ⟨hv, hn, -⟩ := bot_is h.1
  have hm := h.2
  unfold risB at hm
  rw [Bool.and_eq_true] at hm
  obtain ⟨-, -, hl, he⟩ := mp_parts hm.1
  obtain ⟨ha, ham, k, hf, h6⟩ := hk
  have hi := (ends_it he (k := a) (by omega)).2
  have hlt : lt zs a (itN fs a) := ((am_iff ha).1 ham).resolve_left (fun e => hne e.symm)
  have hg := hgt_up hv hlt
  have hb := hgt_bd hv ha
  have := hv.1
  refine ⟨⟨hi, (riB_iff hv.sets).1 hm.2 a (itN fs a) ha hi hlt.2 (by omega) (by omega), ?_⟩, by omega⟩
  cases k with
  | zero => omega
  | succ k =>
    refine ⟨k, ?_, by omega⟩
    have : (itN fs a == a) = false := by simpa using hne
    rw [fxI, this] at hf
    simpa using hf
theorem lf_done {zs fs : List Int} {R a : Nat} (hk : LfOk zs fs R a) (he : itN fs a = a) : R = a := by
  obtain ⟨_, _, k, hf, _⟩ := hk
  cases k with
  | zero => exact hf.symm
  | succ k =>
    rw [fxI] at hf
    simp [he] at hf
    exact hf.symm
theorem lf_bd {zs fs : List Int} (h : lfB zs fs = true) {R a : Nat} (hk : LfOk zs fs R a) : 0 ≤ hgt zs a ∧ hgt zs a < 6 := by
  unfold lfB at h
  rw [Bool.and_eq_true] at h
  obtain ⟨hv, -⟩ := bot_is h.1
  have h1 := hgt_nn zs a
  have h2 := hgt_bd hv hk.1
  have := hv.1
  omega
end Go.Proofs.YtmlihbcffndnbaaDoor

/- Joins and meets: the model's. -/
namespace Go.Proofs.YtmlihbcffndnbaaDoor
open Go.RowKit Go.Shelf
attribute [local go_sem] Oper.semAt_some
attribute [local go_sem, local simp] wide_fn

theorem quiet_zero_left {P : Program} {f : FuncId} {args : Array Value} {w : World} {n : Nat} {v : Value}
    (h : Calls P f args (w.drewN n) fun e w' => e = .returned v ∧ w.drewN n = w') :
    Calls P f args (w.drewN n) fun e w'' => e = .returned v ∧ ∃ m, w'' = w.drewN m :=
  h.mono fun _ _ ⟨he, hm⟩ => ⟨he, n, hm.symm⟩

set_option maxRecDepth 100000 in
set_option maxHeartbeats 400000 in
theorem supper_any (A : Option Addr) (n c B : Nat) (zs : List Int) (a b : Nat) (w : World) (h : Ints w B A n zs) (hv : Sets zs) (ha : a < n) (hb : b < n) :
    Calls Tryd.prog 73 #[.slice A n c, .int .i64 (a : Int), .int .i64 (b : Int)] w fun e w' => e = .returned (.int .i64 (upR zs a b)) ∧ ∃ m, w' = w.drewN m := by
  have hlen := Lib.hid h.len
  have hn6 : n ≤ 6 := by have := hv.1; rw [hlen.out] at this; exact this
  obtain ⟨bl, off, rfl, _, hc⟩ := h.at_ ha
  have hca := hc a ha
  have hcb := hc b hb
  clear hc
  have hza := hv.bd a (by rw [hlen.out]; exact ha)
  have hzb := hv.bd b (by rw [hlen.out]; exact hb)
  have hua := atUp_bd hv (a := a) (by rw [hlen.out]; exact ha)
  have hub := atUp_bd hv (a := b) (by rw [hlen.out]; exact hb)
  have hpn := powI_le6 (n := (zs.length : Int)) (by rw [hlen.out]; omega)
  have hpa := powI_le6 (n := (a : Int)) (by omega)
  have hpb := powI_le6 (n := (b : Int)) (by omega)
  have hp0 := powI_pos (a : Int)
  have hp1 := powI_pos (b : Int)
  have ho1 : bits .or .i64 (zs[a]?.getD 0) (powI a) = atUp zs a := bits_or (by omega) (by omega) (by omega) (by omega)
  have ho2 : bits .or .i64 (zs[b]?.getD 0) (powI b) = atUp zs b := bits_or (by omega) (by omega) (by omega) (by omega)
  have hand : bits .and .i64 (atUp zs a) (atUp zs b) = upR zs a b := bits_and (by omega) (by omega) (by omega) (by omega)
  have hqa := fun w => power_any (a : Int) w (by omega) (by omega)
  have hqb := fun w => power_any (b : Int) w (by omega) (by omega)
  generalize upR zs a b = u at *
  generalize atUp zs a = ua at *
  generalize atUp zs b = ub at *
  generalize powI (a : Int) = pa at *
  generalize powI (b : Int) = pb at *
  generalize zs[a]?.getD 0 = za at *
  generalize zs[b]?.getD 0 = zb at *
  clear hpa hpb hp0 hp1 hua hub hza hzb hpn
  go_enter Tryd.func73, Tryd.ntmps73
  go_wp2
  go_quiet ((go_at_call 56; first | (with_reducible exact quiet_zero_left (hqa _)) | exact quiet_zero_left (hqb _)))
  go_wp2
  go_ret
  exact ⟨rfl, _, rfl⟩

set_option maxHeartbeats 1000000 in
theorem sjoin_any (A : Option Addr) (n c B : Nat) (zs : List Int) (a b : Nat) (w : World) (h : Ints w B A n zs) (hv : Sets zs) (ha : a < n) (hb : b < n) :
    Calls Tryd.prog 46 #[.slice A n c, .int .i64 (a : Int), .int .i64 (b : Int)] w fun e w' => e = .returned (.int .i64 (joinI zs a b)) ∧ ∃ m, w' = w.drewN m := by
  have hlen := Lib.hid h.len
  have hn6 : n ≤ 6 := by have := hv.1; rw [hlen.out] at this; exact this
  have hub := upR_bd hv (a := a) (b := b) (by rw [hlen.out]; exact ha)
  have hpn := powI_le6 (n := (zs.length : Int)) (by rw [hlen.out]; omega)
  have Hj := Lib.hid (show joinI zs a b = jnI zs (upR zs a b) from rfl)
  have hup := supper_any A n c B zs a b w h hv ha hb
  rw [Hj.out]
  generalize upR zs a b = u at *
  go_enter Tryd.func46, Tryd.ntmps46
  go_wp2_with (go_at_call 73; refine hup.mono ?_; rintro e w' ⟨rfl, m0, rfl⟩)
  go_loopw [8] (fun i wr => ∃ k q : Nat, k ≤ n ∧ i = .int .i64 k ∧ (∀ j, j < k → jnB zs u j = false) ∧ wr = w.drewN q) (fun i _ => n - (intOf i).toNat)
  case atStart => exact ⟨0, m0, by omega, rfl, fun j hj => by omega, rfl⟩
  case round =>
    obtain ⟨k, q, hk, rfl, hno, rfl⟩ := hrel
    have Hno := Lib.hid hno
    clear hno
    by_cases hlt : k < n
    · obtain ⟨bl, off, rfl, _, hc⟩ := h.at_ hlt
      have hck := hc k hlt
      clear hc
      have hz := hv.bd k (by rw [hlen.out]; exact hlt)
      have hbk := atUp_bd hv (a := k) (by rw [hlen.out]; exact hlt)
      have hpk := powI_le6 (n := (k : Int)) (by omega)
      have hp0 := powI_pos (k : Int)
      have hqt := fun w => bit_any u (k : Int) w (by omega) (by omega) (by omega) (by omega)
      have hqk := fun w => power_any (k : Int) w (by omega) (by omega)
      have ho : bits .or .i64 (zs[k]?.getD 0) (powI k) = atUp zs k := bits_or (by omega) (by omega) (by omega) (by omega)
      have hle : bits .andNot .i64 u (atUp zs k) = lessI u (atUp zs k) := bits_less (by omega) (by omega) (by omega) (by omega)
      cases hb : bitB u k
      · have hbi : (bitI u k == 1) = false := by rw [bitI_one, hb]
        have Hn := Lib.hid (show jnB zs u k = false by unfold jnB; rw [hb]; rfl)
        go_wp2
        go_quiet ((first | (go_at_call 47; exact quiet_add_left (hqt _)) | (go_at_call 56; exact quiet_add_left (hqk _))))
        go_wp2
        go_roundw
        case rel => exact ⟨k + 1, _, by omega, by go_num, all_snoc Hno.out Hn.out, rfl⟩
        case measure => simp [intOf]; omega
      · have hbi : (bitI u k == 1) = true := by rw [bitI_one, hb]
        cases hl : (lessI u (atUp zs k) == 0)
        · have Hn := Lib.hid (show jnB zs u k = false by unfold jnB; rw [hb, hl]; rfl)
          go_wp2
          go_quiet ((first | (go_at_call 47; exact quiet_add_left (hqt _)) | (go_at_call 56; exact quiet_add_left (hqk _))))
          go_wp2
          go_roundw
          case rel => exact ⟨k + 1, _, by omega, by go_num, all_snoc Hno.out Hn.out, rfl⟩
          case measure => simp [intOf]; omega
        · have Hn := Lib.hid (jnI_at (zs := zs) (s := u) (c := k) (by rw [hlen.out]; exact hlt) (show jnB zs u k = true by unfold jnB; rw [hb, hl]; rfl) Hno.out)
          go_wp2
          go_quiet ((first | (go_at_call 47; exact quiet_add_left (hqt _)) | (go_at_call 56; exact quiet_add_left (hqk _))))
          go_wp2
          go_ret
          exact ⟨ret_int Hn.out.symm, _, World.drewN_drewN ..⟩
    · obtain rfl : k = n := by omega
      have Hn := Lib.hid (jnI_none (zs := zs) (s := u) (by rw [hlen.out]; exact Hno.out))
      go_wp2
      go_ret
      exact ⟨ret_int Hn.out.symm, _, rfl⟩
end Go.Proofs.YtmlihbcffndnbaaDoor

/- IsLattice: the model's. -/
namespace Go.Proofs.YtmlihbcffndnbaaDoor
open Go.RowKit Go.Shelf
attribute [local go_sem] Oper.semAt_some
attribute [local go_sem, local simp] wide_fn

set_option maxHeartbeats 2000000 in
theorem sisLat_any (A : Option Addr) (n c : Nat) (zs : List Int) (w : World) (h : Ints w w.heap.size A n zs) (hvo : VoP zs) :
    Calls Tryd.prog 21 #[.slice A n c] w fun e w' => e = .returned (.bool (latB zs)) ∧ Below w.heap.size w w' := by
  have hlen := Lib.hid h.len
  have hn6 : n ≤ 6 := by have := hvo.1; rw [hlen.out] at this; exact this
  have Hd := Lib.hid (show downP n (pairsL zs) = du zs by unfold du; rw [hlen.out])
  have hds := du_sets hvo.sets
  go_enter Tryd.func21, Tryd.ntmps21
  go_wp2_with fail
  refine (downOf_any _ _ _ zs _ h hvo.sets).mono ?_
  rintro e w2 ⟨rfl, hA2, hB2⟩
  rw [Hd.out] at hA2
  have hD : Ints w2 w2.heap.size (some ⟨w.heap.size, 0, none⟩) n (du zs) := hA2.ints' hA2.lt (by rw [du_len, hlen.out])
  have hU := h.to hB2 (Nat.le_refl _) hB2.size
  clear hA2
  go_wp2_with fail
  go_loopw [4] (fun i wr => ∃ k q : Nat, k ≤ n ∧ i = .int .i64 k ∧ (∀ a, a < k → ∀ b, b < a → 0 ≤ joinI zs a b ∧ 0 ≤ joinI (du zs) a b) ∧ wr = w2.drewN q) (fun i _ => n - (intOf i).toNat)
  case atStart => exact ⟨0, 0, by omega, rfl, fun a ha => by omega, rfl⟩
  case round =>
    obtain ⟨k, q, hk, rfl, hall, rfl⟩ := hrel
    have Hall := Lib.hid hall
    clear hall
    by_cases hlt : k < n
    · go_wp2
      go_loopw [5] (fun i wr => ∃ j q : Nat, j ≤ k ∧ i = .int .i64 j ∧ (∀ b, b < j → 0 ≤ joinI zs k b ∧ 0 ≤ joinI (du zs) k b) ∧ wr = w2.drewN q) (fun i _ => k - (intOf i).toNat)
      case atStart => exact ⟨0, q, by omega, rfl, fun a ha => by omega, rfl⟩
      case round =>
        obtain ⟨j, q, hj, rfl, hrow, rfl⟩ := hrel
        have Hrow := Lib.hid hrow
        clear hrow
        by_cases hjk : j < k
        · by_cases h1 : joinI zs k j < 0
          · have HF := Lib.hid (lattice_not (zs := zs) (ds := zs) (a := k) (b := j) (.inl rfl) (by rw [hlen.out]; exact hlt) (by rw [hlen.out]; omega) h1)
            have hd1 : decide (joinI zs k j < 0) = true := decide_eq_true h1
            clear h1
            go_wp2_with fail
            refine (sjoin_any A n c _ zs k j _ (hU.drewN q) hvo.sets (by omega) (by omega)).mono ?_
            rintro e w3 ⟨rfl, m3, rfl⟩
            go_wp2_with fail
            go_ret
            exact ⟨ret_bool HF.out.symm, below_drewN hB2 _⟩
          · have hd1 : decide (joinI zs k j < 0) = false := decide_eq_false h1
            by_cases h2 : joinI (du zs) k j < 0
            · have HF := Lib.hid (lattice_not (zs := zs) (ds := du zs) (a := k) (b := j) (.inr rfl) (by rw [hlen.out]; exact hlt) (by rw [hlen.out]; omega) h2)
              have hd2 : decide (joinI (du zs) k j < 0) = true := decide_eq_true h2
              clear h1 h2
              go_wp2_with fail
              refine (sjoin_any A n c _ zs k j _ (hU.drewN q) hvo.sets (by omega) (by omega)).mono ?_
              rintro e w3 ⟨rfl, m3, rfl⟩
              go_wp2_with fail
              refine (sjoin_any _ n _ _ (du zs) k j _ (hD.drewN _) hds (by omega) (by omega)).mono ?_
              rintro e w4 ⟨rfl, m4, rfl⟩
              go_wp2_with fail
              go_ret
              exact ⟨ret_bool HF.out.symm, below_drewN hB2 _⟩
            · have hd2 : decide (joinI (du zs) k j < 0) = false := decide_eq_false h2
              have Hn := Lib.hid (show 0 ≤ joinI zs k j ∧ 0 ≤ joinI (du zs) k j by omega)
              clear h1 h2
              go_wp2_with fail
              refine (sjoin_any A n c _ zs k j _ (hU.drewN q) hvo.sets (by omega) (by omega)).mono ?_
              rintro e w3 ⟨rfl, m3, rfl⟩
              go_wp2_with fail
              refine (sjoin_any _ n _ _ (du zs) k j _ (hD.drewN _) hds (by omega) (by omega)).mono ?_
              rintro e w4 ⟨rfl, m4, rfl⟩
              go_wp2_with fail
              go_roundw
              case rel => exact ⟨j + 1, _, by omega, by go_num, all_snoc Hrow.out Hn.out, rfl⟩
              case measure => simp [intOf]; omega
        · obtain rfl : j = k := by omega
          go_wp2
          go_roundw
          case rel => exact ⟨j + 1, q, by omega, by go_num, all_snoc Hall.out Hrow.out, rfl⟩
          case measure => simp [intOf]; omega
    · obtain rfl : k = n := by omega
      have HF := Lib.hid (lattice_is (zs := zs) (joins_half fun a ha b hb => (Hall.out a (by rw [← hlen.out]; exact ha) b hb).1) (joins_half fun a ha b hb => (Hall.out a (by rw [du_len, hlen.out] at ha; exact ha) b hb).2))
      rw [hlen.out] at HF
      go_wp2
      go_ret
      exact ⟨ret_bool (by rw [HF.out]), below_drewN hB2 _⟩

end Go.Proofs.YtmlihbcffndnbaaDoor

/- Lists that take items of an order to items of an order: the model's. -/
namespace Go.Proofs.YtmlihbcffndnbaaDoor
open Go.RowKit Go.Shelf
attribute [local go_sem] Oper.semAt_some
attribute [local go_sem, local simp] wide_fn

set_option maxRecDepth 100000 in
theorem satMost_any (A : Option Addr) (n c B : Nat) (zs : List Int) (a b : Nat) (w : World) (h : Ints w B A n zs) (hv : Sets zs) (ha : a < n) (hb : b < n) :
    Calls Tryd.prog 48 #[.slice A n c, .int .i64 (a : Int), .int .i64 (b : Int)] w fun e w' => e = .returned (.bool (amB zs a b)) ∧ w = w' := by
  have hlen := Lib.hid h.len
  have hn6 : n ≤ 6 := by have := hv.1; rw [hlen.out] at this; exact this
  obtain ⟨bl, off, rfl, _, hc⟩ := h.at_ ha
  have hca := hc a ha
  clear hc
  have hza := hv.bd a (by rw [hlen.out]; exact ha)
  have hpn := powI_le6 (n := (zs.length : Int)) (by rw [hlen.out]; omega)
  have hqb := fun w => bit_any (zs[a]?.getD 0) (b : Int) w (by omega) (by omega) (by omega) (by omega)
  have Hb1 := Lib.hid (bitI_one (zs[a]?.getD 0) b)
  go_enter Tryd.func48, Tryd.ntmps48
  by_cases hab : a = b
  · subst hab
    have Hv := Lib.hid (show amB zs a a = true by unfold amB; simp)
    go_wp2
    go_ret
    exact ⟨ret_bool (by rw [Hv.out]), rfl⟩
  · have hne : ¬ (a : Int) = (b : Int) := by omega
    have Hv := Lib.hid (show amB zs a b = bitB (zs[a]?.getD 0) b by unfold amB; simp [hab])
    go_wp2_with (go_at_call 47; refine (hqb _).mono ?_; rintro e w' ⟨rfl, rfl⟩)
    go_ret
    exact ⟨ret_bool (by rw [Hv.out, ← Hb1.out]; simp [hne]), rfl⟩

set_option maxRecDepth 100000 in
set_option maxHeartbeats 1000000 in
theorem svalidMap_any (A : Option Addr) (n c : Nat) (zs : List Int) (A' : Option Addr) (m c' : Nat) (ys : List Int) (F : Option Addr) (k cf : Nat) (fs : List Int) (w : World) (h : Ints w w.heap.size A n zs) (h' : Ints w w.heap.size A' m ys) (hf : Ints w w.heap.size F k fs)
    (hbig : n ≤ 1152921504606846976) (hbig' : m ≤ 1152921504606846976) (hbigf : k ≤ 1152921504606846976) :
    Calls Tryd.prog 20 #[.slice A n c, .slice A' m c', .slice F k cf] w fun e w' => e = .returned (.bool (mpB zs ys fs)) ∧ ∃ q, w' = w.drewN q := by
  have hlen := Lib.hid h.len
  have hlen' := Lib.hid h'.len
  have hlenf := Lib.hid hf.len
  go_enter Tryd.func20, Tryd.ntmps20
  go_wp2
  go_loopw [7] (fun i wr => ∃ j : Nat, j ≤ k ∧ i = .int .i64 j ∧ (∀ x, x < j → inB (fs[x]?.getD 0) 0 ((m : Int) - 1) = true) ∧ wr = w) (fun i _ => k - (intOf i).toNat)
  case atStart => exact ⟨0, by omega, rfl, fun x hx => by omega, rfl⟩
  case round =>
    obtain ⟨j, hj, rfl, hall, rfl⟩ := hrel
    have Hall := Lib.hid hall
    clear hall
    by_cases hlt : j < k
    · obtain ⟨bl, off, rfl, _, hc⟩ := hf.at_ hlt
      have hcj := hc j hlt
      clear hc
      have hr := fun y w => inRange_any y 0 ((m : Int) - 1) w
      have hwm : IntKind.i64.wrap ((m : Int) - 1) = (m : Int) - 1 := by rw [IntKind.wrap_i64]; omega
      cases hb : inB (fs[j]?.getD 0) 0 ((m : Int) - 1)
      · have Hn := Lib.hid (show mpB zs ys fs = false from mp_no3 (by
          cases e : endsB ys.length fs
          · rfl
          · have h1 := List.all_eq_true.1 e (fs[j]?.getD 0) (by rw [List.getElem?_eq_getElem (by rw [hlenf.out]; exact hlt)]; exact List.getElem_mem _)
            rw [hlen'.out, hb] at h1; cases h1))
        have Hb := Lib.hid hb
        clear hb
        go_wp2_with (go_at_call 44; refine (hr _ _).mono ?_; rw [Hb.out]; rintro e w' ⟨rfl, rfl⟩)
        go_ret
        exact ⟨ret_bool Hn.out.symm, 0, rfl⟩
      · have Hb := Lib.hid hb
        clear hb
        go_wp2_with (go_at_call 44; refine (hr _ _).mono ?_; rw [Hb.out]; rintro e w' ⟨rfl, rfl⟩)
        go_roundw
        case rel => exact ⟨j + 1, by omega, by go_num, all_snoc Hall.out Hb.out, trivial⟩
        case measure => simp [intOf]; omega
    · obtain rfl : j = k := by omega
      have He := Lib.hid (show endsB ys.length fs = true from List.all_eq_true.2 (fun y hy => by
        obtain ⟨x, hx, rfl⟩ := List.getElem_of_mem hy
        have := Hall.out x (by rw [← hlenf.out]; exact hx)
        rw [List.getElem?_eq_getElem hx] at this
        rw [hlen'.out]
        exact this))
      clear hlt hj
      cases hv : vo zs
      · have Hn := Lib.hid (show mpB zs ys fs = false from mp_no1 (by rw [hv]; rfl))
        go_wp2_with fail
        refine (validOrder_any _ _ _ _ zs _ h hbig).mono ?_
        rw [hv]
        rintro e w' ⟨rfl, q, rfl⟩
        go_wp2_with fail
        go_ret
        exact ⟨ret_bool Hn.out.symm, q, rfl⟩
      · have Hv := Lib.hid hv
        clear hv
        go_wp2_with fail
        refine (validOrder_any _ _ _ _ zs _ h hbig).mono ?_
        rw [Hv.out]
        rintro e w' ⟨rfl, q, rfl⟩
        cases hv : vo ys
        · have Hn := Lib.hid (show mpB zs ys fs = false from mp_no1 (by rw [hv, Hv.out]; rfl))
          go_wp2_with fail
          refine (validOrder_any _ _ _ _ ys _ (h'.drewN q) hbig').mono ?_
          rw [hv]
          rintro e w' ⟨rfl, q2, rfl⟩
          go_wp2_with fail
          go_ret
          exact ⟨ret_bool Hn.out.symm, _, rfl⟩
        · have Hv2 := Lib.hid hv
          clear hv
          go_wp2_with fail
          refine (validOrder_any _ _ _ _ ys _ (h'.drewN q) hbig').mono ?_
          rw [Hv2.out]
          rintro e w' ⟨rfl, q2, rfl⟩
          by_cases hkn : j = n
          · have Hn := Lib.hid (show mpB zs ys fs = true from mp_yes Hv.out Hv2.out (by rw [hlen.out, hlenf.out]; exact hkn) He.out)
            have hkn2 : (j : Int) = (n : Int) := by omega
            clear hkn
            go_wp2_with fail
            go_ret
            exact ⟨ret_bool (by first | (rw [Hn.out]; done) | simp [Hn.out, hkn2]), _, rfl⟩
          · have Hn := Lib.hid (show mpB zs ys fs = false from mp_no2 (by rw [hlen.out, hlenf.out]; exact hkn))
            have hkn2 : ¬ (j : Int) = (n : Int) := by omega
            clear hkn
            go_wp2_with fail
            go_ret
            exact ⟨ret_bool (by first | (rw [Hn.out]; done) | simp [Hn.out, hkn2]), _, rfl⟩

set_option maxRecDepth 100000 in
set_option maxHeartbeats 1000000 in
theorem sisRising_any (A : Option Addr) (n c : Nat) (zs : List Int) (A' : Option Addr) (m c' : Nat) (ys : List Int) (F : Option Addr) (cf B : Nat) (fs : List Int) (w : World) (h : Ints w B A n zs) (h' : Ints w B A' m ys) (hf : Ints w B F n fs)
    (hv : Sets zs) (hv' : Sets ys) (he : endsB m fs = true) :
    Calls Tryd.prog 22 #[.slice A n c, .slice A' m c', .slice F n cf] w fun e w' => e = .returned (.bool (riB zs ys fs)) ∧ ∃ q, w' = w.drewN q := by
  have hlen := Lib.hid h.len
  have hlen' := Lib.hid h'.len
  have hlenf := Lib.hid hf.len
  have hn6 : n ≤ 6 := by have := hv.1; rw [hlen.out] at this; exact this
  have hm6 : m ≤ 6 := by have := hv'.1; rw [hlen'.out] at this; exact this
  have hpn := powI_le6 (n := (zs.length : Int)) (by rw [hlen.out]; omega)
  go_enter Tryd.func22, Tryd.ntmps22
  go_wp2
  go_loopw [7, 8] (fun i _ wr => ∃ a q : Nat, a ≤ n ∧ i = .int .i64 a ∧ (∀ x, x < a → ∀ y, y < n → bitB (zs[x]?.getD 0) y = true → amB ys (itN fs x) (itN fs y) = true) ∧ wr = w.drewN q) (fun i _ _ => n - (intOf i).toNat)
  case atStart => exact ⟨0, 0, by omega, rfl, fun x hx => by omega, rfl⟩
  case round =>
    obtain ⟨a, q, ha, rfl, hall, rfl⟩ := hrel
    have Hall := Lib.hid hall
    clear hall
    by_cases hlt : a < n
    · go_wp2
      go_loopw [8] (fun i wr => ∃ b q : Nat, b ≤ n ∧ i = .int .i64 b ∧ (∀ y, y < b → bitB (zs[a]?.getD 0) y = true → amB ys (itN fs a) (itN fs y) = true) ∧ wr = w.drewN q) (fun i _ => n - (intOf i).toNat)
      case atStart => exact ⟨0, q, by omega, rfl, fun x hx => by omega, rfl⟩
      case round =>
        obtain ⟨b, q, hb, rfl, hall, rfl⟩ := hrel
        have Hin := Lib.hid hall
        clear hall
        by_cases hbn : b < n
        · obtain ⟨bl, off, rfl, _, hc⟩ := h.at_ hlt
          have hca := hc a hlt
          obtain ⟨bf, off', rfl, _, hcf⟩ := hf.at_ hlt
          have hfa := hcf a hlt
          have hfb := hcf b hbn
          have hz := hv.bd a (by rw [hlen.out]; exact hlt)
          obtain ⟨e1, l1⟩ := ends_it he (k := a) (by rw [hlenf.out]; exact hlt)
          obtain ⟨e2, l2⟩ := ends_it he (k := b) (by rw [hlenf.out]; exact hbn)
          rw [e1] at hfa
          rw [e2] at hfb
          clear hc hcf e1 e2
          have hqt := fun w => bit_any (zs[a]?.getD 0) (b : Int) w (by omega) (by omega) (by omega) (by omega)
          have hqm := fun q => satMost_any A' m c' B ys (itN fs a) (itN fs b) (w.drewN q) (h'.drewN q) hv' l1 l2
          cases hbt : bitB (zs[a]?.getD 0) b
          · have hbi : (bitI (zs[a]?.getD 0) b == 1) = false := by rw [bitI_one, hbt]
            have Hn := Lib.hid (show bitB (zs[a]?.getD 0) b = true → amB ys (itN fs a) (itN fs b) = true from fun e => by rw [hbt] at e; cases e)
            go_wp2
            go_quiet ((first | (go_at_call 47; exact quiet_add_left (hqt _)) | (go_at_call 48; exact quiet_add_left (hqm _))))
            go_wp2
            go_roundw
            case rel => exact ⟨b + 1, _, by omega, by go_num, all_snoc Hin.out Hn.out, rfl⟩
            case measure => simp [intOf]; omega
          · have hbi : (bitI (zs[a]?.getD 0) b == 1) = true := by rw [bitI_one, hbt]
            cases ham : amB ys (itN fs a) (itN fs b)
            · have Hn := Lib.hid (ri_no hv (by rw [hlen.out]; exact hlt) (by rw [hlen.out]; exact hbn) hbt (by rw [hlenf.out]; exact hlt) (by rw [hlenf.out]; exact hbn) ham)
              rw [ham] at hqm
              go_wp2
              go_quiet ((first | (go_at_call 47; exact quiet_add_left (hqt _)) | (go_at_call 48; exact quiet_add_left (hqm _))))
              go_wp2
              go_ret
              exact ⟨ret_bool Hn.out.symm, _, World.drewN_drewN ..⟩
            · have Hn := Lib.hid (show bitB (zs[a]?.getD 0) b = true → amB ys (itN fs a) (itN fs b) = true from fun _ => ham)
              rw [ham] at hqm
              go_wp2
              go_quiet ((first | (go_at_call 47; exact quiet_add_left (hqt _)) | (go_at_call 48; exact quiet_add_left (hqm _))))
              go_wp2
              go_roundw
              case rel => exact ⟨b + 1, _, by omega, by go_num, all_snoc Hin.out Hn.out, rfl⟩
              case measure => simp [intOf]; omega
        · obtain rfl : b = n := by omega
          go_wp2
          go_roundw
          case rel => exact ⟨a + 1, q, by omega, by go_num, all_snoc Hall.out Hin.out, rfl⟩
          case measure => simp [intOf]; omega
    · obtain rfl : a = n := by omega
      have Hn := Lib.hid (show riB zs ys fs = true from (riB_iff hv).2 fun x y hx hy hb _ _ => Hall.out x (by rw [← hlen.out]; exact hx) y (by rw [← hlen.out]; exact hy) hb)
      go_wp2
      go_ret
      exact ⟨ret_bool Hn.out.symm, q, rfl⟩
end Go.Proofs.YtmlihbcffndnbaaDoor

/- LeastFixed: the model's, whole. -/
namespace Go.Proofs.YtmlihbcffndnbaaDoor
open Go.RowKit Go.Shelf
attribute [local go_sem] Oper.semAt_some
attribute [local go_sem, local simp] wide_fn

set_option maxRecDepth 100000 in
set_option maxHeartbeats 2000000 in
theorem specLeastFixedF_any (A : Option Addr) (n c : Nat) (zs : List Int) (F : Option Addr) (k cf : Nat) (fs : List Int) (w : World) (h : Ints w w.heap.size A n zs) (hf : Ints w w.heap.size F k fs)
    (hbig : n ≤ 1152921504606846976) (hbigf : k ≤ 1152921504606846976) :
    Calls Tryd.prog 6 #[.slice A n c, .slice F k cf] w fun e w' => e = .returned (.int .i64 (lfR zs fs)) ∧ Below w.heap.size w w' := by
  have hlen := Lib.hid h.len
  have hlenf := Lib.hid hf.len
  go_enter Tryd.func6, Tryd.ntmps6
  cases hm : mpB zs zs fs
  · have Hn := Lib.hid (show lfR zs fs = -1 by unfold lfR lfB risB; rw [hm]; simp)
    go_wp2_with fail
    refine (svalidMap_any A n c zs A n c zs F k cf fs w h h hf hbig hbig hbigf).mono ?_
    rw [hm]
    rintro e w' ⟨rfl, q, rfl⟩
    clear hm
    go_wp2_with fail
    go_ret
    exact ⟨ret_int Hn.out.symm, below_drewN (Below.refl _ _) q⟩
  · obtain ⟨hvo, -, hln, hen⟩ := mp_parts hm
    rw [hlen.out, hlenf.out] at hln
    subst hln
    rw [hlen.out] at hen
    have hk6 : k ≤ 6 := by have := hvo.1; rw [hlen.out] at this; exact this
    have Hm := Lib.hid hm
    clear hm
    have Hvo := Lib.hid (show vo zs = true by unfold vo; simpa using hvo)
    cases hl : latB zs
    · have Hn := Lib.hid (show lfR zs fs = -1 by unfold lfR lfB latR; rw [hl]; simp)
      go_wp2_with fail
      refine (svalidMap_any A k c zs A k c zs F k cf fs w h h hf hbig hbig hbigf).mono ?_
      rw [Hm.out]
      rintro e w' ⟨rfl, q, rfl⟩
      go_wp2_with fail
      refine (sisLat_any A k c zs _ (h.drewN q) hvo).mono ?_
      rw [hl]
      rintro e w2 ⟨rfl, hB2⟩
      clear hl
      go_wp2_with fail
      go_ret
      exact ⟨ret_int Hn.out.symm, (below_drewN (Below.refl _ _) q).trans (hB2.mono (Nat.le_refl _))⟩
    · have Hl := Lib.hid (show latR zs = true by unfold latR; rw [Hvo.out, hl]; rfl)
      have Hl2 := Lib.hid hl
      clear hl
      have Hr := Lib.hid (fun w (h1 : Ints w w.heap.size A k zs) (h3 : Ints w w.heap.size F k fs) => sisRising_any A k c zs A k c zs F cf w.heap.size fs w h1 h1 h3 hvo.sets hvo.sets hen)
      cases hr : riB zs zs fs
      · have Hn := Lib.hid (show lfR zs fs = -1 by unfold lfR lfB risB; rw [hr]; simp)
        rw [hr] at Hr
        clear hr
        go_wp2_with fail
        refine (svalidMap_any A k c zs A k c zs F k cf fs w h h hf hbig hbig hbigf).mono ?_
        rw [Hm.out]
        rintro e w' ⟨rfl, q, rfl⟩
        have kB1 : Below w.heap.size w (w.drewN q) := below_drewN (Below.refl _ _) q
        go_wp2_with fail
        refine (sisLat_any A k c zs _ (h.drewN q) hvo).mono ?_
        rw [Hl2.out]
        rintro e w2 ⟨rfl, hB2⟩
        have kB2 := kB1.trans (hB2.mono (Nat.le_refl _))
        have h2 := h.to kB2 (Nat.le_refl _) kB2.size
        have f2 := hf.to kB2 (Nat.le_refl _) kB2.size
        go_wp2_with fail
        refine (Hr.out w2 h2 f2).mono ?_
        rintro e w' ⟨rfl, q2, rfl⟩
        go_wp2_with fail
        go_ret
        exact ⟨ret_int Hn.out.symm, below_drewN kB2 q2⟩
      · have HB := Lib.hid (show lfB zs fs = true by unfold lfB risB; rw [hr, Hl.out, Hm.out]; rfl)
        have Hn := Lib.hid (show lfR zs fs = (fxI fs 6 (botI zs).toNat : Int) by unfold lfR; rw [HB.out]; rfl)
        rw [hr] at Hr
        clear hr
        go_wp2_with fail
        refine (svalidMap_any A k c zs A k c zs F k cf fs w h h hf hbig hbig hbigf).mono ?_
        rw [Hm.out]
        rintro e w' ⟨rfl, q, rfl⟩
        have kB1 : Below w.heap.size w (w.drewN q) := below_drewN (Below.refl _ _) q
        go_wp2_with fail
        refine (sisLat_any A k c zs _ (h.drewN q) hvo).mono ?_
        rw [Hl2.out]
        rintro e w2 ⟨rfl, hB2⟩
        have kB2 := kB1.trans (hB2.mono (Nat.le_refl _))
        have h2 := h.to kB2 (Nat.le_refl _) kB2.size
        have f2 := hf.to kB2 (Nat.le_refl _) kB2.size
        go_wp2_with fail
        refine (Hr.out w2 h2 f2).mono ?_
        rintro e w' ⟨rfl, q2, rfl⟩
        clear Hr h2 f2 hB2 kB1
        go_wp2_with fail
        have kB3 := below_drewN kB2 q2
        have h3 := h.to kB3 (Nat.le_refl _) kB3.size
        have f3 := hf.to kB3 (Nat.le_refl _) kB3.size
        generalize w2.drewN q2 = w3 at *
        obtain ⟨b0, hb0, hst⟩ := lf_start HB.out
        have Hst := Lib.hid hst
        have Hpb := Lib.hid (fun a ha => pop_bot Hl.out (a := a) ha)
        rw [hlen.out, hb0] at Hpb
        have hbk : b0 < k := by have := hst.1; rw [hlen.out] at this; exact this
        have Hgb := Lib.hid (fun a (ha : a < k) => hvo.sets.bd a (by rw [hlen.out]; exact ha))
        clear hst
        generalize fxI fs 6 (botI zs).toNat = R at *
        have HR := Lib.hid Hn.out
        clear hb0
        go_loop [5] (fun i => ∃ a : Nat, a ≤ b0 ∧ i = .int .i64 a) (fun i => b0 - (intOf i).toNat)
        case atStart => exact ⟨0, by omega, rfl⟩
        case round =>
          obtain ⟨a, ha, rfl⟩ := hrel
          obtain ⟨bl, off, hAe, _, hc⟩ := h3.at_ (show a < k by omega)
          subst hAe
          have hca := hc a (by omega)
          clear hc
          have hz := Hgb.out a (by omega)
          have hb := fun w => bits_any (zs[a]?.getD 0) w hz.1 hz.2
          have hpi := Hpb.out a (by omega)
          have hpb := popI_bd hz.1 hz.2
          generalize popI (zs[a]?.getD 0) = p at *
          by_cases hab : a = b0
          · have hp : ¬ p < (k : Int) - 1 := by rw [hpi]; omega
            subst hab
            clear hpi
            go_wp2_with (go_at_call 23; refine (hb _).mono ?_; rintro e w' ⟨rfl, rfl⟩)
            clear hp hb hz hca
            go_loop [5] (fun i => ∃ x : Nat, i = .int .i64 x ∧ Hid (LfOk zs fs R x)) (fun i => (6 - (hgt zs (intOf i).toNat)).toNat)
            case atStart => exact ⟨a, rfl, Hst⟩
            case round =>
              obtain ⟨x, rfl, hx⟩ := hrel
              have hxk : x < k := by have := hx.out.1; rw [hlen.out] at this; exact this
              obtain ⟨bf, off', hFe, _, hcf⟩ := f3.at_ hxk
              subst hFe
              have hcx := hcf x hxk
              clear hcf
              obtain ⟨e1, l1⟩ := ends_it hen (k := x) (by rw [hlenf.out]; exact hxk)
              rw [e1] at hcx
              clear e1
              by_cases hfx : itN fs x = x
              · have Hd := Lib.hid (lf_done hx.out hfx)
                have hq : ((itN fs x : Int) != (x : Int)) = false := by simp; omega
                have Hfx := Lib.hid hfx
                clear hfx
                generalize itN fs x = y at *
                go_wp2
                go_ret
                exact ⟨ret_int (by rw [HR.out, Hd.out]), kB3⟩
              · obtain ⟨hn1, hn2⟩ := lf_next HB.out hx.out hfx
                have hbx := lf_bd HB.out hx.out
                have Hn1 := Lib.hid hn1
                have Hm1 := Lib.hid hn2
                have Hb1 := Lib.hid hbx
                have hq : ((itN fs x : Int) != (x : Int)) = true := by simp; omega
                clear hfx hn1 hn2 hbx
                generalize itN fs x = y at *
                go_wp2
                go_round
                case rel => exact ⟨y, by go_num, Hn1⟩
                case measure =>
                  have e1 := Hm1.out
                  have e2 := Hb1.out
                  simp [intOf]; omega
          · have hp : p < (k : Int) - 1 := by rw [hpi]; omega
            clear hpi
            go_wp2_with (go_at_call 23; refine (hb _).mono ?_; rintro e w' ⟨rfl, rfl⟩)
            go_round
            case rel => exact ⟨a + 1, by omega, by go_num⟩
            case measure => simp [intOf]; omega
end Go.Proofs.YtmlihbcffndnbaaDoor

/- Texts that several claims share, one behind the other. -/
import Derived.Test.YtmlihbcffndnbabDoorGc
import Derived.Test.YtmlihbcffndnbabDoorCnt
import Derived.Test.YtmlihbcffndnbabDoorGxb
import Derived.Test.YtmlihbcffndnbabDoorTops
import Derived.Test.YtmlihbcffndnbabDoorGa
set_option linter.unusedVariables false
set_option linter.unusedSimpArgs false
/- IsChain and IsApart: the model's and the program's. -/
namespace Go.Proofs.YtmlihbcffndnbabDoor
open Go.RowKit

def isChainR (zs : List Int) (s : Int) : Bool := (vo zs && inB s 0 (powI zs.length - 1)) && chB zs s
def isApartR (zs : List Int) (s : Int) : Bool := (vo zs && inB s 0 (powI zs.length - 1)) && apB zs s

end Go.Proofs.YtmlihbcffndnbabDoor

/- The longest chain and the widest set apart: words, and the model's helper. -/
namespace Go.Proofs.YtmlihbcffndnbabDoor
open Go.RowKit

theorem maxL_snoc (f : Nat → Int) (l : List Nat) (a : Nat) : maxL f (l ++ [a]) = max (maxL f l) (f a + 1) := by simp [maxL]
theorem maxL_range (f : Nat → Int) (k : Nat) : maxL f (List.range (k + 1)) = max (maxL f (List.range k)) (f k + 1) := by rw [List.range_succ, maxL_snoc]
theorem hgts_get {zs : List Int} {n k : Nat} (hk : k < n) : ((List.range n).map (hgt zs))[k]?.getD 0 = hgt zs k := by simp [hk]

def longR (zs : List Int) : Int := if vo zs then longI zs else -1
def wideR (zs : List Int) : Int := if vo zs then grTo (apB zs) (setsN zs) else -1
end Go.Proofs.YtmlihbcffndnbabDoor

/- Chains and sets apart: what is left of them, and when a chain is apart. No program. -/
namespace Go.Proofs.YtmlihbcffndnbabDoor

theorem isChain_is {zs : List Int} {s : Int} (h : VoP zs) (h0 : 0 ≤ s) (h1 : s < powI zs.length) : isChainR zs s = chB zs s := by
  unfold isChainR inB
  rw [vo_true h, decide_eq_true (show (0 : Int) ≤ s ∧ s ≤ powI zs.length - 1 by omega)]
  rfl
theorem isApart_is {zs : List Int} {s : Int} (h : VoP zs) (h0 : 0 ≤ s) (h1 : s < powI zs.length) : isApartR zs s = apB zs s := by
  unfold isApartR inB
  rw [vo_true h, decide_eq_true (show (0 : Int) ≤ s ∧ s ≤ powI zs.length - 1 by omega)]
  rfl
theorem isChain_parts {zs : List Int} {s : Int} (h : isChainR zs s = true) : VoP zs ∧ (0 ≤ s ∧ s < powI zs.length) ∧ chB zs s = true := by
  unfold isChainR at h
  rw [Bool.and_eq_true, Bool.and_eq_true] at h
  obtain ⟨⟨h1, h2⟩, h3⟩ := h
  have h2' : (0 : Int) ≤ s ∧ s ≤ powI zs.length - 1 := by simpa [inB] using h2
  exact ⟨by simpa [vo] using h1, ⟨h2'.1, by omega⟩, h3⟩
theorem isApart_parts {zs : List Int} {s : Int} (h : isApartR zs s = true) : VoP zs ∧ (0 ≤ s ∧ s < powI zs.length) ∧ apB zs s = true := by
  unfold isApartR at h
  rw [Bool.and_eq_true, Bool.and_eq_true] at h
  obtain ⟨⟨h1, h2⟩, h3⟩ := h
  have h2' : (0 : Int) ≤ s ∧ s ≤ powI zs.length - 1 := by simpa [inB] using h2
  exact ⟨by simpa [vo] using h1, ⟨h2'.1, by omega⟩, h3⟩
theorem chB_sub {zs : List Int} {s t : Int} (h1 : s < 64) (h2 : t < 64) (hs : ∀ j : Nat, bitB t j = true → bitB s j = true) (h : chB zs s = true) : chB zs t = true := by
  unfold chB at *
  rw [decide_eq_true_eq] at *
  rw [ChP_iff h2]
  intro a b ha hb hab
  exact (ChP_iff h1).1 h a b (hs a ha) (hs b hb) hab
theorem apB_sub {zs : List Int} {s t : Int} (h1 : s < 64) (h2 : t < 64) (hs : ∀ j : Nat, bitB t j = true → bitB s j = true) (h : apB zs s = true) : apB zs t = true :=
  (apB_iff h2).2 fun a b ha hb => (apB_iff h1).1 h a b (hs a ha) (hs b hb)
/-- The set without its least item, as the program's 's & (s-1)'. -/
theorem less_one {n : Nat} {s : Int} (h0 : 0 ≤ s) (h1 : s < powI n) (hn : n ≤ 6) : ∃ t, bits .and .i64 s (s - 1) = t ∧ 0 ≤ t ∧ t < powI n ∧ ∀ j : Nat, bitB t j = true → bitB s j = true := by
  have hp := powI_le6 (n := (n : Int)) (by omega)
  by_cases hs : s = 0
  · subst hs
    exact ⟨0, by decide, by omega, by omega, fun _ e => e⟩
  · have hb := andI_bd s (s - 1)
    exact ⟨andI s (s - 1), bits_and (by omega) (by omega) (by omega) (by omega), hb.1, by omega, fun j e => by rw [bitB_and, Bool.and_eq_true] at e; exact e.1⟩
theorem du_isChain {zs : List Int} {s : Int} (h : VoP zs) (h0 : 0 ≤ s) (h1 : s < powI zs.length) : isChainR (du zs) s = chB zs s := by
  rw [isChain_is (du_vo h) h0 (by rw [du_len]; exact h1), du_chB h.sets]
theorem du_isApart {zs : List Int} {s : Int} (h : VoP zs) (h0 : 0 ≤ s) (h1 : s < powI zs.length) : isApartR (du zs) s = apB zs s := by
  have hp := powI_le6 (n := (zs.length : Int)) (by have := h.1; omega)
  rw [isApart_is (du_vo h) h0 (by rw [du_len]; exact h1), du_apB h.sets (by omega)]
theorem chain_apart {zs : List Int} {s : Int} (h : VoP zs) (h0 : 0 ≤ s) (h1 : s < powI zs.length) (hc : chB zs s = true) : apB zs s = decide (popI s ≤ 1) := by
  have hp := powI_le6 (n := (zs.length : Int)) (by have := h.1; omega)
  have h64 : s < 64 := by omega
  rw [popI_items h0 h64]
  have hs := itemsL_sorted s
  have hm : ∀ j : Nat, j ∈ itemsL s ↔ bitB s j = true := fun j => mem_itemsL h64
  have hc' : ChP zs s := of_decide_eq_true hc
  unfold ChP at hc'
  clear hc
  match hl : itemsL s with
  | [] =>
    rw [hl] at hm
    have : apB zs s = true := (apB_iff h64).2 fun a b ha hb => by have := (hm a).2 ha; simp at this
    rw [this]; rfl
  | [x] =>
    rw [hl] at hm
    have : apB zs s = true := (apB_iff h64).2 fun a b ha hb => by
      have e1 := (hm a).2 ha
      have e2 := (hm b).2 hb
      simp only [List.mem_singleton] at e1 e2
      subst e1; subst e2
      exact h.irrB (bitB_lt h1 ha)
    rw [this]; rfl
  | x :: y :: l =>
    rw [hl] at hc' hs hm
    have hr : relB zs x y = true := (List.pairwise_cons.1 hc').1 y (by simp)
    have hx := (hm x).1 (by simp)
    have hy := (hm y).1 (by simp)
    have hno : apB zs s = false := by
      cases e : apB zs s
      · rfl
      · have ha := (apB_iff h64).1 e
        unfold relB at hr
        rw [ha x y hx hy, ha y x hy hx] at hr
        cases hr
    rw [hno, decide_eq_false]
    simp only [List.length_cons]
    omega
theorem apart_le {zs : List Int} {s : Int} (h : VoP zs) (h0 : 0 ≤ s) (h1 : s < powI zs.length) (ha : apB zs s = true) : popI s ≤ wideR zs := by
  unfold wideR
  rw [vo_true h]
  obtain ⟨j, rfl⟩ := Int.eq_ofNat_of_zero_le h0
  have hN := setsN_pow zs
  exact grTo_ge ha (setsN zs) (by omega)
end Go.Proofs.YtmlihbcffndnbabDoor

/- The order of some items alone, numbered anew: it is an order, and is lined up in as many ways as they are. No program. -/
namespace Go.Proofs.YtmlihbcffndnbabDoor

theorem inc_ext : ∀ (l m : List Nat), l.Pairwise (· < ·) → m.Pairwise (· < ·) → (∀ a, a ∈ l ↔ a ∈ m) → l = m
  | [], [], _, _, _ => rfl
  | [], b :: m, _, _, h => by have := (h b).2 (by simp); cases this
  | a :: l, [], _, _, h => by have := (h a).1 (by simp); cases this
  | a :: l, b :: m, hl, hm, h => by
    rw [List.pairwise_cons] at hl hm
    have hab : a = b := by
      rcases List.mem_cons.1 ((h a).1 (by simp)) with e | e
      · exact e
      · rcases List.mem_cons.1 ((h b).2 (by simp)) with e2 | e2
        · exact e2.symm
        · have := hm.1 a e; have := hl.1 b e2; omega
    subst hab
    rw [inc_ext l m hl.2 hm.2 fun x => ?_]
    have hx := h x
    rw [List.mem_cons, List.mem_cons] at hx
    constructor
    · intro e
      rcases hx.1 (.inr e) with e2 | e2
      · have := hl.1 x e; omega
      · exact e2
    · intro e
      rcases hx.2 (.inr e) with e2 | e2
      · have := hm.1 x e; omega
      · exact e2
theorem range_inc (n : Nat) : (List.range n).Pairwise (· < ·) := List.pairwise_lt_range
/-- The numbers of z that l lists, by their places in l, up to k. -/
def rowTo (z : Int) (l : List Nat) : Nat → Int
  | 0 => 0
  | k + 1 => orI (rowTo z l k) (bitI z (l[k]?.getD 0) * powI k)
theorem bitI_mul (z j : Int) (k : Nat) : bitI z j * powI k = if bitB z j then powI k else 0 := by
  unfold bitI; split <;> simp
theorem rowTo_bd (z : Int) (l : List Nat) : ∀ k : Nat, 0 ≤ rowTo z l k ∧ rowTo z l k < powI k
  | 0 => by simp [rowTo, powI]
  | k + 1 => by
    have h := rowTo_bd z l k
    have hp : powI (k : Int) < powI ((k + 1 : Nat) : Int) := powI_lt (by omega)
    have h0 := powI_pos (k : Int)
    have h1 := powI_pos ((k + 1 : Nat) : Int)
    unfold rowTo
    rw [bitI_mul]
    split
    · exact orI_bd h.1 (by omega) (Int.le_of_lt h0) hp
    · exact orI_bd h.1 (by omega) (Int.le_refl _) h1
theorem rowTo_bit (z : Int) (l : List Nat) (j : Nat) : ∀ k : Nat, bitB (rowTo z l k) j = true ↔ j < k ∧ bitB z ((l[j]?.getD 0 : Nat) : Int) = true
  | 0 => by simp [rowTo, bitB_zero]
  | k + 1 => by
    unfold rowTo
    rw [bitI_mul, bitB_or, Bool.or_eq_true, rowTo_bit z l j k]
    have h2 : bitB (if bitB z ((l[k]?.getD 0 : Nat) : Int) then powI (k : Int) else 0) j = true ↔ j = k ∧ bitB z ((l[j]?.getD 0 : Nat) : Int) = true := by
      split
      · rename_i hb
        rw [bitB_pow, decide_eq_true_eq]
        constructor
        · rintro rfl; exact ⟨rfl, hb⟩
        · rintro ⟨rfl, _⟩; rfl
      · rename_i hb
        rw [bitB_zero]
        constructor
        · intro e; cases e
        · rintro ⟨rfl, e⟩; exact absurd e hb
    rw [h2]
    constructor
    · rintro (⟨h, e⟩ | ⟨rfl, e⟩)
      · exact ⟨by omega, e⟩
      · exact ⟨by omega, e⟩
    · rintro ⟨h, e⟩
      by_cases hjk : j = k
      · exact .inr ⟨hjk, e⟩
      · exact .inl ⟨by omega, e⟩
/-- The order of the items of l alone. -/
def ind (zs : List Int) (l : List Nat) : List Int := l.map fun a => rowTo (zs[a]?.getD 0) l l.length
theorem ind_len (zs : List Int) (l : List Nat) : (ind zs l).length = l.length := by simp [ind]
theorem ind_bit {zs : List Int} {l : List Nat} {i j : Nat} (hi : i < l.length) : bitB ((ind zs l)[i]?.getD 0) j = true ↔ j < l.length ∧ bitB (zs[l[i]?.getD 0]?.getD 0) ((l[j]?.getD 0 : Nat) : Int) = true := by
  have e : (ind zs l)[i]?.getD 0 = rowTo (zs[l[i]?.getD 0]?.getD 0) l l.length := by
    unfold ind
    rw [List.getElem?_map, List.getElem?_eq_getElem hi]
    rfl
  rw [e, rowTo_bit]
/-- A list of items of the order, ascending. -/
structure Inc (zs : List Int) (l : List Nat) : Prop where
  inc : l.Pairwise (· < ·)
  lt : ∀ a ∈ l, a < zs.length
theorem Inc.at_lt {zs : List Int} {l : List Nat} (h : Inc zs l) {i : Nat} (hi : i < l.length) : l[i]?.getD 0 < zs.length := by
  rw [List.getElem?_eq_getElem hi]
  exact h.lt _ (List.getElem_mem hi)
theorem Inc.at_inc {zs : List Int} {l : List Nat} (h : Inc zs l) {i j : Nat} (hij : i < j) (hj : j < l.length) : l[i]?.getD 0 < l[j]?.getD 0 := by
  rw [List.getElem?_eq_getElem hj, List.getElem?_eq_getElem (by omega)]
  exact List.pairwise_iff_getElem.1 h.inc i j (by omega) hj hij
theorem Inc.at_inj {zs : List Int} {l : List Nat} (h : Inc zs l) {i j : Nat} (hi : i < l.length) (hj : j < l.length) (e : l[i]?.getD 0 = l[j]?.getD 0) : i = j := by
  rcases Nat.lt_trichotomy i j with h1 | h1 | h1
  · have := h.at_inc h1 hj; omega
  · exact h1
  · have := h.at_inc h1 hi; omega
theorem Inc.len_le {zs : List Int} {l : List Nat} (h : Inc zs l) : l.length ≤ zs.length := pigeon zs.length l (h.inc.imp fun h => by omega) h.lt
theorem ind_lt {zs : List Int} {l : List Nat} (h : Inc zs l) {i j : Nat} : lt (ind zs l) i j ↔ i < l.length ∧ j < l.length ∧ lt zs (l[i]?.getD 0) (l[j]?.getD 0) := by
  unfold lt
  rw [ind_len]
  constructor
  · rintro ⟨h1, h2⟩
    have := (ind_bit h1).1 h2
    exact ⟨h1, this.1, h.at_lt h1, this.2⟩
  · rintro ⟨h1, h2, _, h3⟩
    exact ⟨h1, (ind_bit h1).2 ⟨h2, h3⟩⟩
theorem ind_vo {zs : List Int} (h : VoP zs) {l : List Nat} (hl : Inc zs l) : VoP (ind zs l) := by
  have h6 := h.1
  have hle := hl.len_le
  refine ⟨by rw [ind_len]; omega, fun a ha => ?_, fun a ha b hb => ?_⟩
  · rw [ind_len] at ha ⊢
    have e : (ind zs l)[a]?.getD 0 = rowTo (zs[l[a]?.getD 0]?.getD 0) l l.length := by
      unfold ind; rw [List.getElem?_map, List.getElem?_eq_getElem ha]; rfl
    have hb := rowTo_bd (zs[l[a]?.getD 0]?.getD 0) l l.length
    have h2 : bitB ((ind zs l)[a]?.getD 0) a = false := by
      cases e2 : bitB ((ind zs l)[a]?.getD 0) a
      · rfl
      · have := (ind_lt hl).1 (⟨by rw [ind_len]; exact ha, e2⟩ : lt (ind zs l) a a)
        exact absurd this.2.2 h.irr
    unfold okA inB
    rw [h2, e]
    simp only [Bool.not_false, Bool.and_true, decide_eq_true_eq]
    omega
  · rw [ind_len] at ha hb
    unfold okP
    cases e : bitB ((ind zs l)[a]?.getD 0) b
    · rfl
    · have hab := (ind_lt hl).1 (⟨by rw [ind_len]; exact ha, e⟩ : lt (ind zs l) a b)
      have h1 : lessI ((ind zs l)[b]?.getD 0) ((ind zs l)[a]?.getD 0) = 0 := by
        refine bitB_ext (lessI_bd _ _).1 (Int.le_refl _) fun j => ?_
        rw [bitB_less, bitB_zero]
        cases e1 : bitB ((ind zs l)[b]?.getD 0) j
        · rfl
        · have hbj := (ind_lt hl).1 (⟨by rw [ind_len]; exact hb, e1⟩ : lt (ind zs l) b j)
          have := ((ind_lt hl).2 ⟨ha, hbj.2.1, h.trans hab.2.2 hbj.2.2⟩).2
          rw [this]; rfl
      have h2 : bitB ((ind zs l)[b]?.getD 0) a = false := by
        cases e2 : bitB ((ind zs l)[b]?.getD 0) a
        · rfl
        · have hba := (ind_lt hl).1 (⟨by rw [ind_len]; exact hb, e2⟩ : lt (ind zs l) b a)
          exact absurd (h.trans hab.2.2 hba.2.2) h.irr
      rw [h1, h2]; rfl

/-- The items of zs that a set of places of l tells. -/
def exTo (l : List Nat) (t : Nat) : Nat → Nat
  | 0 => 0
  | k + 1 => exTo l t k ||| (if t.testBit k then 2 ^ (l[k]?.getD 0) else 0)
theorem exTo_bit (l : List Nat) (t a : Nat) : ∀ k : Nat, (exTo l t k).testBit a = true ↔ ∃ i, i < k ∧ t.testBit i = true ∧ l[i]?.getD 0 = a
  | 0 => by simp [exTo]
  | k + 1 => by
    unfold exTo
    rw [Nat.testBit_or, Bool.or_eq_true, exTo_bit l t a k]
    have h2 : (if t.testBit k then 2 ^ (l[k]?.getD 0) else 0).testBit a = true ↔ t.testBit k = true ∧ l[k]?.getD 0 = a := by
      split
      · rename_i hb; rw [Nat.testBit_two_pow, decide_eq_true_eq]; simp [hb]
      · rename_i hb; simp [hb]
    rw [h2]
    constructor
    · rintro (⟨i, hi, e⟩ | e)
      · exact ⟨i, by omega, e⟩
      · exact ⟨k, by omega, e⟩
    · rintro ⟨i, hi, e⟩
      by_cases hik : i = k
      · subst hik; exact .inr e
      · exact .inl ⟨i, by omega, e⟩
def ex (l : List Nat) (t : Nat) : Nat := exTo l t l.length
theorem ex_lt {zs : List Int} {l : List Nat} (h : Inc zs l) (t : Nat) : ex l t < 2 ^ zs.length := Nat.lt_pow_two_of_testBit _ fun i hi => by
  cases e : (ex l t).testBit i
  · rfl
  · obtain ⟨k, hk, _, e2⟩ := (exTo_bit l t i l.length).1 e
    have := h.at_lt hk; omega
theorem ex_at {zs : List Int} {l : List Nat} (h : Inc zs l) {t k : Nat} (hk : k < l.length) : (ex l t).testBit (l[k]?.getD 0) = t.testBit k := by
  rw [Bool.eq_iff_iff]
  unfold ex
  rw [exTo_bit]
  constructor
  · rintro ⟨i, hi, e, e2⟩
    rw [← h.at_inj hi hk e2]; exact e
  · intro e; exact ⟨k, hk, e, rfl⟩
theorem sub_bits {s a j : Nat} (hs : s < 64) (ha : a < 6) (hb : s.testBit a = true) : (s - 2 ^ a).testBit j = (s.testBit j && !decide (a = j)) := by
  have hpa := Nat.two_pow_pos a
  rcases Nat.lt_or_ge j 6 with hj | hj
  · exact sub_bit_fin ⟨s, hs⟩ ⟨a, ha⟩ ⟨j, hj⟩ hb
  · have h1 : s.testBit j = false := Nat.testBit_lt_two_pow (Nat.lt_of_lt_of_le (show s < 2 ^ 6 by omega) (Nat.pow_le_pow_right (by decide) hj))
    have h2 : (s - 2 ^ a).testBit j = false := Nat.testBit_lt_two_pow (Nat.lt_of_lt_of_le (show s - 2 ^ a < 2 ^ 6 by omega) (Nat.pow_le_pow_right (by decide) hj))
    rw [h1, h2]; rfl
theorem ex_sub {zs : List Int} (h6 : zs.length ≤ 6) {l : List Nat} (h : Inc zs l) {t k : Nat} (ht : t < 64) (hk : k < l.length) (hb : t.testBit k = true) : ex l (t - 2 ^ k) = ex l t - 2 ^ (l[k]?.getD 0) := by
  have hle := h.len_le
  have hx : ex l t < 64 := Nat.lt_of_lt_of_le (ex_lt h t) (pow_le64 h6)
  have hlk := h.at_lt hk
  refine Nat.eq_of_testBit_eq fun a => ?_
  rw [sub_bits hx (show l[k]?.getD 0 < 6 by omega) (by rw [ex_at h hk]; exact hb), Bool.eq_iff_iff]
  unfold ex
  rw [exTo_bit, Bool.and_eq_true, exTo_bit, Bool.not_eq_true', decide_eq_false_iff_not]
  constructor
  · rintro ⟨i, hi, e, rfl⟩
    rw [sub_bits ht (by omega) hb, Bool.and_eq_true, Bool.not_eq_true', decide_eq_false_iff_not] at e
    exact ⟨⟨i, hi, e.1, rfl⟩, fun e2 => e.2 (h.at_inj hk hi e2)⟩
  · rintro ⟨⟨i, hi, e, rfl⟩, e2⟩
    refine ⟨i, hi, ?_, rfl⟩
    rw [sub_bits ht (by omega) hb, e]
    have hne : ¬ k = i := fun e3 => e2 (by rw [e3])
    simp [hne]
theorem ex_zero (l : List Nat) : ex l 0 = 0 := Nat.eq_of_testBit_eq fun a => by
  rw [Bool.eq_iff_iff]
  unfold ex
  rw [exTo_bit]
  simp
theorem eF_iff {zs : List Int} (h : VoP zs) {s a : Nat} : eF zs s a = true ↔ s.testBit a = true ∧ ∀ b, s.testBit b = true → bitB (zs[b]?.getD 0) a = false := by
  unfold eF
  rw [Bool.and_eq_true, beq_iff_eq, andI_zero]
  constructor
  · rintro ⟨h1, h2⟩
    exact ⟨h1, fun b hb => by have := h2 b (by rw [bit_cast]; exact hb); rwa [du_bit h.sets] at this⟩
  · rintro ⟨h1, h2⟩
    exact ⟨h1, fun b hb => by rw [du_bit h.sets]; exact h2 b (by rwa [bit_cast] at hb)⟩
theorem bit_none' {zs : List Int} {a b : Nat} (h : bitB (zs[a]?.getD 0) b = true) : a < zs.length := by
  rcases Nat.lt_or_ge a zs.length with h1 | h1
  · exact h1
  · rw [List.getElem?_eq_none (by omega), Option.getD_none, bitB_zero] at h; cases h
theorem next_ind {zs : List Int} (h : VoP zs) {l : List Nat} (hl : Inc zs l) (t : Nat) : nextL zs (ex l t) = (nextL (ind zs l) t).map fun k => l[k]?.getD 0 := by
  have hi := ind_vo h hl
  rw [nextL_is h, nextL_is hi, ind_len]
  refine inc_ext _ _ ((range_inc _).filter _) ?_ fun a => ?_
  · rw [List.pairwise_map]
    refine List.Pairwise.imp_of_mem ?_ ((range_inc _).filter _)
    intro x y hx hy hxy
    rw [List.mem_filter] at hy
    exact hl.at_inc hxy (by simpa using hy.1)
  · rw [List.mem_filter, List.mem_map, List.mem_range, eF_iff h]
    constructor
    · rintro ⟨ha, h1, h2⟩
      obtain ⟨k, hk, hb, e⟩ := (exTo_bit l t a l.length).1 h1
      refine ⟨k, ?_, e⟩
      rw [List.mem_filter, List.mem_range, eF_iff hi]
      refine ⟨hk, hb, fun j hj => ?_⟩
      cases e2 : bitB ((ind zs l)[j]?.getD 0) k
      · rfl
      · have hjl : j < l.length := by
          have := bit_none' e2; rwa [ind_len] at this
        have h3 := (ind_bit hjl).1 e2
        have := h2 (l[j]?.getD 0) (by rw [ex_at hl hjl]; exact hj)
        rw [← e] at this
        rw [this] at h3; cases h3.2
    · rintro ⟨k, hk, e⟩
      rw [List.mem_filter, List.mem_range, eF_iff hi] at hk
      obtain ⟨hk, hb, h2⟩ := hk
      refine ⟨by rw [← e]; exact hl.at_lt hk, by rw [← e, ex_at hl hk]; exact hb, fun b hb2 => ?_⟩
      obtain ⟨j, hj, hjt, e3⟩ := (exTo_bit l t b l.length).1 hb2
      have := h2 j hjt
      cases e4 : bitB (zs[b]?.getD 0) a
      · rfl
      · rw [(ind_bit hj).2 ⟨hk, by rw [e3, e]; exact e4⟩] at this; cases this
/-- The items alone are lined up in as many ways as they are. -/
theorem cF_ind {zs : List Int} (h : VoP zs) {l : List Nat} (hl : Inc zs l) : ∀ (N t : Nat), t ≤ N → t < 2 ^ l.length → cF (ind zs l) t = cF zs (ex l t)
  | N, t, hN, ht => by
    have hi := ind_vo h hl
    have hle := hl.len_le
    have h6 := h.1
    have ht64 : t < 64 := Nat.lt_of_lt_of_le ht (pow_le64 (by omega))
    by_cases h0 : t = 0
    · subst h0; rw [ex_zero, cF_zero, cF_zero]
    · have hx0 : ex l t ≠ 0 := fun e => h0 (Nat.eq_of_testBit_eq fun k => by
        rw [Nat.zero_testBit]
        cases e2 : t.testBit k
        · rfl
        · have hk := bit_lt ht e2
          have := ex_at hl (t := t) hk
          rw [e, e2, Nat.zero_testBit] at this; cases this)
      cases N with
      | zero => omega
      | succ N =>
        rw [← accF_all hi h0, ← accF_all h hx0, next_ind h hl]
        unfold accF
        rw [List.map_map]
        congr 1
        refine List.map_congr_left fun k hk => ?_
        obtain ⟨hkl, hkb⟩ := nextL_mem hi hk
        rw [ind_len] at hkl
        have hp := Nat.two_pow_pos k
        have hge := ge_bit_fin ⟨t, ht64⟩ ⟨k, by omega⟩ hkb
        simp only at hge
        rw [cF_ind h hl N (t - 2 ^ k) (by omega) (by omega), ex_sub h6 hl ht64 hkl hkb]
        rfl
/-- The items of a set, ascending. -/
def leftL (n s : Nat) : List Nat := (List.range n).filter fun j => s.testBit j
theorem leftL_inc (zs : List Int) (s : Nat) : Inc zs (leftL zs.length s) := ⟨(range_inc _).filter _, fun a ha => by
  unfold leftL at ha; rw [List.mem_filter] at ha; simpa using ha.1⟩
theorem ex_left {zs : List Int} {s : Nat} (hs : s < 2 ^ zs.length) : ex (leftL zs.length s) (2 ^ (leftL zs.length s).length - 1) = s := by
  refine Nat.eq_of_testBit_eq fun a => ?_
  rw [Bool.eq_iff_iff]
  unfold ex
  rw [exTo_bit]
  constructor
  · rintro ⟨i, hi, _, rfl⟩
    rw [List.getElem?_eq_getElem hi]
    have := List.getElem_mem hi
    unfold leftL at this
    rw [List.mem_filter] at this
    exact this.2
  · intro e
    have ha : a ∈ leftL zs.length s := by
      unfold leftL
      rw [List.mem_filter, List.mem_range]
      exact ⟨bit_lt hs e, e⟩
    obtain ⟨i, hi, e2⟩ := List.getElem_of_mem ha
    refine ⟨i, hi, ?_, by rw [List.getElem?_eq_getElem hi]; exact e2⟩
    rw [Nat.testBit_two_pow_sub_one]
    simpa using hi
/-- As the model counts what is left. -/
theorem rest_is {zs : List Int} (h : VoP zs) {s : Nat} (hs : s < 2 ^ zs.length) : cG (ind zs (leftL zs.length s)) (2 ^ (leftL zs.length s).length - 1) = cF zs s := by
  have hl := leftL_inc zs s
  have hi := ind_vo h hl
  have hp := Nat.two_pow_pos (leftL zs.length s).length
  have := count_both hi
  rw [ind_len] at this
  rw [this, cF_ind h hl _ _ (Nat.le_refl _) (by omega), ex_left hs]
end Go.Proofs.YtmlihbcffndnbabDoor

/- Tops and ideals: tops stand for all below; what is below a set is an ideal; what an ideal leaves. No program. -/
namespace Go.Proofs.YtmlihbcffndnbabDoor

theorem bit_none {zs : List Int} {a b : Nat} (h : bitB (zs[a]?.getD 0) b = true) : a < zs.length := by
  rcases Nat.lt_or_ge a zs.length with h1 | h1
  · exact h1
  · rw [List.getElem?_eq_none (by omega), Option.getD_none, bitB_zero] at h; cases h
theorem top_over {zs : List Int} (h : VoP zs) {s : Int} (h1 : s < powI zs.length) : ∀ (m a : Nat), zs.length - rank zs a ≤ m → bitB s a = true → ∃ t : Nat, bitB (topsTo zs s zs.length) t = true ∧ (a = t ∨ lt zs a t)
  | 0, a, hm, ha => by have := rank_bd h (bitB_lt h1 ha); omega
  | m + 1, a, hm, ha => by
    by_cases hz : andI (zs[a]?.getD 0) s = 0
    · exact ⟨a, (topsTo_bit a _).2 ⟨bitB_lt h1 ha, ha, hz⟩, .inl rfl⟩
    · have : ∃ b : Nat, bitB s b = true ∧ bitB (zs[a]?.getD 0) b = true := by
        refine Classical.byContradiction fun hn => hz (andI_zero.2 fun b hb => ?_)
        cases e : bitB (zs[a]?.getD 0) b
        · rfl
        · exact absurd ⟨b, hb, e⟩ hn
      obtain ⟨b, hb, hab⟩ := this
      have hl : lt zs a b := ⟨bit_none hab, hab⟩
      have hr := rank_lt h hl
      obtain ⟨t, ht, e⟩ := top_over h h1 m b (by omega) hb
      refine ⟨t, ht, .inr ?_⟩
      rcases e with rfl | e
      · exact hl
      · exact h.trans hl e
section
variable {zs : List Int} {s : Int}
theorem tops_in (zs : List Int) (s : Int) : lessI (topsTo zs s zs.length) s = 0 := lessI_none.2 fun _ hj => ((topsTo_bit _ _).1 hj).2.1
theorem tops_ap (h : VoP zs) : apB zs (topsTo zs s zs.length) = true := by
  have hb := topsTo_bd zs s zs.length
  have hp := powI_le6 (n := (zs.length : Int)) (by have := h.1; omega)
  refine (apB_iff (by omega)).2 fun a b ha hb => ?_
  exact andI_zero.1 ((topsTo_bit _ _).1 ha).2.2 b ((topsTo_bit _ _).1 hb).2.1
theorem tops_none (h : VoP zs) (h0 : 0 ≤ s) (h1 : s < powI zs.length) : (topsTo zs s zs.length == 0) = (s == 0) := by
  have hb := topsTo_bd zs s zs.length
  rw [Bool.eq_iff_iff, beq_iff_eq, beq_iff_eq]
  constructor
  · intro e
    refine bitB_ext h0 (Int.le_refl _) fun j => ?_
    rw [bitB_zero]
    cases hj : bitB s j
    · rfl
    · obtain ⟨t, ht, _⟩ := top_over h h1 _ j (Nat.le_refl _) hj
      rw [e, bitB_zero] at ht; cases ht
  · intro e
    refine bitB_ext hb.1 (Int.le_refl _) fun j => ?_
    rw [bitB_zero]
    cases hj : bitB (topsTo zs s zs.length) j
    · rfl
    · have := ((topsTo_bit _ _).1 hj).2.1
      rw [e, bitB_zero] at this; cases this
theorem in_bel (h : Sets zs) (h1 : s < powI zs.length) : lessI s (belI zs s) = 0 := lessI_none.2 fun j hj => (belI_bit h h1 j).2 (.inl hj)
theorem bel_ideal (h : VoP zs) (h0 : 0 ≤ s) (h1 : s < powI zs.length) : idB zs (belI zs s) = true := by
  have hb := belI_bd h.sets h0 h1
  refine (idB_iff h.sets hb.1 hb.2).2 fun a b hb hz => ?_
  rw [belI_bit h.sets h1] at hb ⊢
  rcases hb with hb | ⟨c, hc, hbc⟩
  · exact .inr ⟨b, hb, hz⟩
  · exact .inr ⟨c, hc, (h.trans (a := a) (b := b) (c := c) ⟨bit_none hz, hz⟩ ⟨bit_none hbc, hbc⟩).2⟩
theorem tops_bel (h : VoP zs) (_h0 : 0 ≤ s) (h1 : s < powI zs.length) : topsTo zs (belI zs s) zs.length = topsTo zs s zs.length := by
  refine bitB_ext (topsTo_bd _ _ _).1 (topsTo_bd _ _ _).1 fun j => ?_
  rw [Bool.eq_iff_iff, topsTo_bit, topsTo_bit]
  constructor
  · rintro ⟨hj, hb, hz⟩
    have hz' := andI_zero.1 hz
    refine ⟨hj, ?_, andI_zero.2 fun b hb => hz' b ((belI_bit h.sets h1 b).2 (.inl hb))⟩
    rcases (belI_bit h.sets h1 j).1 hb with e | ⟨c, hc, hjc⟩
    · exact e
    · rw [hz' c ((belI_bit h.sets h1 c).2 (.inl hc))] at hjc; cases hjc
  · rintro ⟨hj, hb, hz⟩
    have hz' := andI_zero.1 hz
    refine ⟨hj, (belI_bit h.sets h1 j).2 (.inl hb), andI_zero.2 fun b hb => ?_⟩
    rcases (belI_bit h.sets h1 b).1 hb with e | ⟨c, hc, hbc⟩
    · exact hz' b e
    · cases e : bitB (zs[j]?.getD 0) b
      · rfl
      · have := (h.trans (a := j) (b := b) (c := c) ⟨bit_none e, e⟩ ⟨bit_none hbc, hbc⟩).2
        rw [hz' c hc] at this; cases this
theorem bel_tops (h : VoP zs) (h0 : 0 ≤ s) (h1 : s < powI zs.length) : belI zs (topsTo zs s zs.length) = belI zs s := by
  have hb := topsTo_bd zs s zs.length
  refine bitB_ext (belI_bd h.sets hb.1 hb.2).1 (belI_bd h.sets h0 h1).1 fun j => ?_
  rw [Bool.eq_iff_iff, belI_bit h.sets hb.2, belI_bit h.sets h1]
  constructor
  · rintro (e | ⟨t, ht, hj⟩)
    · exact .inl ((topsTo_bit _ _).1 e).2.1
    · exact .inr ⟨t, ((topsTo_bit _ _).1 ht).2.1, hj⟩
  · rintro (e | ⟨b, hb, hj⟩)
    · obtain ⟨t, ht, e2⟩ := top_over h h1 _ j (Nat.le_refl _) e
      rcases e2 with rfl | e2
      · exact .inl ht
      · exact .inr ⟨t, ht, e2.2⟩
    · obtain ⟨t, ht, e2⟩ := top_over h h1 _ b (Nat.le_refl _) hb
      rcases e2 with rfl | e2
      · exact .inr ⟨b, ht, hj⟩
      · exact .inr ⟨t, ht, (h.trans (a := j) (b := b) (c := t) ⟨bit_none hj, hj⟩ e2).2⟩
theorem bel_self (h0 : idB zs s = true) : belI zs s = s := by simpa [idB] using h0
theorem all_bits' {n : Nat} : ∀ j : Nat, bitB (powI n - 1) j = decide (j < n) := fun j => by
  have e : (powI (n : Int) - 1).toNat = 2 ^ n - 1 := by
    have : powI (n : Int) = ((2 ^ n : Nat) : Int) := by simp [powI]
    omega
  simp [bitB, e, Nat.testBit_two_pow_sub_one]
theorem left_fin : ∀ n : Fin 7, ∀ k : Fin 64, (k.val : Int) < powI (n.val : Int) → lessI (powI (n.val : Int) - 1) (k.val : Int) = powI (n.val : Int) - 1 - (k.val : Int) := by decide +kernel
theorem left_is {n : Nat} {s : Int} (hn : n ≤ 6) (h0 : 0 ≤ s) (h1 : s < powI n) : lessI (powI n - 1) s = powI n - 1 - s := by
  have hpn := powI_le6 (n := (n : Int)) (by omega)
  obtain ⟨k, rfl⟩ := Int.eq_ofNat_of_zero_le h0
  exact left_fin ⟨n, by omega⟩ ⟨k, by omega⟩ h1
theorem left_ideal (h : VoP zs) (h0 : 0 ≤ s) (h1 : s < powI zs.length) (hi : idB zs s = true) : idB (du zs) (powI zs.length - 1 - s) = true := by
  have hp := powI_pos (zs.length : Int)
  refine (idB_iff (du_sets h.sets) (by omega) (by rw [du_len]; omega)).2 fun a b hb hz => ?_
  rw [← left_is h.1 h0 h1] at hb ⊢
  rw [bitB_less, all_bits', Bool.and_eq_true] at hb ⊢
  rw [du_bit h.sets] at hz
  have ha : a < zs.length := bitB_lt (h.sets.2 b (bit_none hz)).2 hz
  refine ⟨by simpa using ha, ?_⟩
  cases e : bitB s a
  · rfl
  · have := (idB_iff h.sets h0 h1).1 hi b a e hz
    rw [this] at hb; simp at hb
theorem tops_apart (h : VoP zs) (h0 : 0 ≤ s) (h1 : s < powI zs.length) (ha : apB zs s = true) : topsTo zs s zs.length = s := by
  have hp := powI_le6 (n := (zs.length : Int)) (by have := h.1; omega)
  refine bitB_ext (topsTo_bd zs s _).1 h0 fun j => ?_
  have key := topsTo_bit (zs := zs) (s := s) j zs.length
  cases e : bitB s j
  · cases e2 : bitB (topsTo zs s zs.length) j
    · rfl
    · have := (key.1 e2).2.1; rw [e] at this; cases this
  · exact key.2 ⟨bitB_lt h1 e, e, andI_zero.2 fun b hb => (apB_iff (by omega)).1 ha j b e hb⟩
/-- The tops of the next ideal are the lowest items that the one ahead lacks. -/
theorem next_tops (h : VoP zs) (_h0 : 0 ≤ s) (_h1 : s < powI zs.length) : topsTo zs (nextI zs s) zs.length = topsTo (du zs) (powI zs.length - 1 - s) zs.length := by
  have hp := powI_pos (zs.length : Int)
  have hp6 := powI_le6 (n := (zs.length : Int)) (by have := h.1; omega)
  have hb := topsTo_bd (du zs) (powI zs.length - 1 - s) zs.length
  have ha := tops_ap (s := powI zs.length - 1 - s) (du_vo h)
  rw [du_len, du_apB h.sets (by omega)] at ha
  unfold nextI
  rw [tops_bel h hb.1 hb.2, tops_apart h hb.1 hb.2 ha]
end
theorem in_set {zs : List Int} {s : Int} (_h : VoP zs) (h0 : 0 ≤ s) (h1 : s < powI zs.length) : inB s 0 (powI zs.length - 1) = true := by
  simp only [inB, decide_eq_true_eq]; omega
theorem set_parts {zs : List Int} {s : Int} (h : (vo zs && inB s 0 (powI zs.length - 1)) = true) : VoP zs ∧ 0 ≤ s ∧ s < powI zs.length := by
  rw [Bool.and_eq_true] at h
  refine ⟨by simpa [vo] using h.1, ?_⟩
  have := h.2
  simp only [inB, decide_eq_true_eq] at this
  omega
theorem topsR_in {zs : List Int} {s : Int} (h : VoP zs) (h0 : 0 ≤ s) (h1 : s < powI zs.length) : topsR zs s = topsTo zs s zs.length := by
  unfold topsR; rw [vo_true h, in_set h h0 h1]; rfl
theorem belowR_in {zs : List Int} {s : Int} (h : VoP zs) (h0 : 0 ≤ s) (h1 : s < powI zs.length) : belowR zs s = belI zs s := by
  unfold belowR; rw [vo_true h, in_set h h0 h1]; rfl
theorem isIdealR_in {zs : List Int} {s : Int} (h : VoP zs) (h0 : 0 ≤ s) (h1 : s < powI zs.length) : isIdealR zs s = idB zs s := by
  unfold isIdealR; rw [vo_true h, in_set h h0 h1]; rfl
end Go.Proofs.YtmlihbcffndnbabDoor

/- Joins, what all of a set have above them, cuts, items with one next below, and orders of some items: as both sides tell them. No program. -/
namespace Go.Proofs.YtmlihbcffndnbabDoor

/-- What is at or above an item. -/
def atUp (zs : List Int) (a : Nat) : Int := orI (zs[a]?.getD 0) (powI a)
theorem atUp_bd {zs : List Int} (h : Sets zs) {a : Nat} (ha : a < zs.length) : 0 ≤ atUp zs a ∧ atUp zs a < powI zs.length := by
  have hz := h.2 a ha
  exact orI_bd hz.1 hz.2 (Int.le_of_lt (powI_pos _)) (powI_lt ha)
theorem atUp_bit (zs : List Int) (a j : Nat) : bitB (atUp zs a) j = (bitB (zs[a]?.getD 0) j || decide (a = j)) := by unfold atUp; rw [bitB_or, bitB_pow]
/-- The items that are at or above all those of s less than k. -/
def comTo (zs : List Int) (s : Int) : Nat → Int
  | 0 => powI zs.length - 1
  | k + 1 => if bitB s k then andI (comTo zs s k) (atUp zs k) else comTo zs s k
theorem comTo_yes {zs : List Int} {s : Int} {k : Nat} (h : bitB s k = true) : comTo zs s (k + 1) = andI (comTo zs s k) (atUp zs k) := by simp [comTo, h]
theorem comTo_no {zs : List Int} {s : Int} {k : Nat} (h : bitB s k = false) : comTo zs s (k + 1) = comTo zs s k := by simp [comTo, h]
theorem comTo_bd (zs : List Int) (s : Int) : ∀ k : Nat, 0 ≤ comTo zs s k ∧ comTo zs s k < powI zs.length
  | 0 => by have := powI_pos (zs.length : Int); simp only [comTo]; omega
  | k + 1 => by
    have h := comTo_bd zs s k
    unfold comTo
    split
    · have := andI_bd (comTo zs s k) (atUp zs k); omega
    · exact h
theorem comTo_bit (zs : List Int) (s : Int) (j : Nat) : ∀ k : Nat, bitB (comTo zs s k) j = true ↔ j < zs.length ∧ ∀ a : Nat, a < k → bitB s a = true → bitB (atUp zs a) j = true
  | 0 => by
    unfold comTo
    rw [all_bits', decide_eq_true_eq]
    exact ⟨fun h => ⟨h, fun a ha => by omega⟩, fun h => h.1⟩
  | k + 1 => by
    cases hb : bitB s k
    · rw [comTo_no hb, comTo_bit zs s j k]
      refine ⟨fun h => ⟨h.1, fun a ha hs => ?_⟩, fun h => ⟨h.1, fun a ha hs => h.2 a (by omega) hs⟩⟩
      by_cases e : a = k
      · subst e; rw [hb] at hs; cases hs
      · exact h.2 a (by omega) hs
    · rw [comTo_yes hb, bitB_and, Bool.and_eq_true, comTo_bit zs s j k]
      refine ⟨fun h => ⟨h.1.1, fun a ha hs => ?_⟩, fun h => ⟨⟨h.1, fun a ha hs => h.2 a (by omega) hs⟩, h.2 k (by omega) hb⟩⟩
      by_cases e : a = k
      · subst e; exact h.2
      · exact h.1.2 a (by omega) hs
/-- The same, item by item of a list. -/
def comL (zs : List Int) (l : List Nat) : Int := l.foldl (fun (t : Int) (i : Nat) => andI t (atUp zs i)) (powI zs.length - 1)
theorem comL_snoc (zs : List Int) (l : List Nat) (i : Nat) : comL zs (l ++ [i]) = andI (comL zs l) (atUp zs i) := by simp [comL]
theorem comL_to (zs : List Int) (s : Int) : ∀ k : Nat, comL zs (itemsTo s k) = comTo zs s k
  | 0 => rfl
  | k + 1 => by
    have ih := comL_to zs s k
    cases hb : bitB s k
    · rw [itemsTo_no hb, comTo_no hb, ih]
    · rw [itemsTo_yes hb, comL_snoc, comTo_yes hb, ih]
theorem comTo_up {zs : List Int} {s : Int} {n : Nat} (h1 : s < powI n) : ∀ d : Nat, comTo zs s (n + d) = comTo zs s n
  | 0 => rfl
  | d + 1 => by
    have hb : bitB s ((n + d : Nat) : Int) = false := by
      cases h : bitB s ((n + d : Nat) : Int) with
      | false => rfl
      | true => have := bitB_lt h1 h; omega
    rw [← Nat.add_assoc, comTo_no hb, comTo_up h1 d]
theorem comL_all {zs : List Int} {s : Int} {n : Nat} (hn : n ≤ 6) (h1 : s < powI n) : comL zs (itemsL s) = comTo zs s n := by
  rw [itemsL, comL_to, show (6 : Nat) = n + (6 - n) from by omega, comTo_up h1]
/-- At or above both. -/
def upR (zs : List Int) (a b : Nat) : Int := andI (atUp zs a) (atUp zs b)
theorem upR_bd {zs : List Int} (h : Sets zs) {a b : Nat} (ha : a < zs.length) : 0 ≤ upR zs a b ∧ upR zs a b < powI zs.length := by
  have h1 := andI_bd (atUp zs a) (atUp zs b)
  have h2 := atUp_bd h ha
  unfold upR
  omega
/-- Two items as a set. -/
def twoS (a b : Nat) : Int := orI (orI 0 (powI a)) (powI b)
theorem twoS_bd {n a b : Nat} (ha : a < n) (hb : b < n) : 0 ≤ twoS a b ∧ twoS a b < powI n := by
  have h1 := orI_bd (a := 0) (b := powI a) (n := n) (Int.le_refl _) (powI_pos _) (Int.le_of_lt (powI_pos _)) (powI_lt ha)
  exact orI_bd h1.1 h1.2 (Int.le_of_lt (powI_pos _)) (powI_lt hb)
theorem twoS_bit (a b j : Nat) : bitB (twoS a b) j = (decide (a = j) || decide (b = j)) := by
  unfold twoS; rw [bitB_or, bitB_or, bitB_zero, bitB_pow, bitB_pow]; simp
theorem com_two {zs : List Int} (h : Sets zs) {a b : Nat} (ha : a < zs.length) (hb : b < zs.length) : comTo zs (twoS a b) zs.length = upR zs a b := by
  refine bitB_ext (comTo_bd _ _ _).1 (upR_bd h ha).1 fun j => ?_
  rw [Bool.eq_iff_iff, comTo_bit]
  unfold upR
  rw [bitB_and, Bool.and_eq_true]
  constructor
  · rintro ⟨hj, h2⟩
    exact ⟨h2 a ha (by rw [twoS_bit]; simp), h2 b hb (by rw [twoS_bit]; simp)⟩
  · rintro ⟨h1, h2⟩
    refine ⟨bitB_lt (atUp_bd h ha).2 h1, fun x _ hx => ?_⟩
    rw [twoS_bit, Bool.or_eq_true, decide_eq_true_eq, decide_eq_true_eq] at hx
    rcases hx with rfl | rfl
    · exact h1
    · exact h2
/-- An item of s that all of s are at or above. -/
def jnB (zs : List Int) (s : Int) (c : Nat) : Bool := bitB s c && lessI s (atUp zs c) == 0
theorem less_less (s p z : Int) : (lessI (lessI s p) z == 0) = (lessI s (orI z p) == 0) := by
  rw [Bool.eq_iff_iff, beq_iff_eq, beq_iff_eq, lessI_none, lessI_none]
  constructor
  · intro h j hj
    rw [bitB_or]
    cases hp : bitB p j
    · have := h j (by rw [bitB_less, hj, hp]; rfl)
      rw [this]; rfl
    · simp
  · intro h j hj
    rw [bitB_less, Bool.and_eq_true, Bool.not_eq_true'] at hj
    have := h j hj.1
    rw [bitB_or, hj.2, Bool.or_false] at this
    exact this
def jnI (zs : List Int) (s : Int) : Int := match (List.range zs.length).find? (jnB zs s) with | none => -1 | some c => (c : Int)
theorem jnI_at {zs : List Int} {s : Int} {c : Nat} (hc : c < zs.length) (hb : jnB zs s c = true) (hn : ∀ j, j < c → jnB zs s j = false) : jnI zs s = c := by
  have : (List.range zs.length).find? (jnB zs s) = some c := by
    rw [List.find?_range_eq_some]
    exact ⟨hb, by simpa using hc, fun j hj => by simpa using hn j hj⟩
  unfold jnI
  rw [this]
theorem jnI_none {zs : List Int} {s : Int} (hn : ∀ j, j < zs.length → jnB zs s j = false) : jnI zs s = -1 := by
  have : (List.range zs.length).find? (jnB zs s) = none := by
    rw [List.find?_eq_none]
    intro x hx
    rw [hn x (by simpa using hx)]
    simp
  unfold jnI
  rw [this]
theorem jnI_cases {zs : List Int} {s : Int} : (jnI zs s = -1 ∧ ∀ j, j < zs.length → jnB zs s j = false) ∨ ∃ c : Nat, jnI zs s = c ∧ c < zs.length ∧ jnB zs s c = true := by
  unfold jnI
  cases h : (List.range zs.length).find? (jnB zs s) with
  | none => exact .inl ⟨rfl, fun j hj => by
      have := List.find?_eq_none.1 h j (by simpa using hj)
      simpa using this⟩
  | some c => exact .inr ⟨c, rfl, by have := List.mem_of_find?_eq_some h; simpa using this, List.find?_some h⟩
theorem jnI_bd (zs : List Int) (s : Int) : -1 ≤ jnI zs s ∧ jnI zs s < zs.length := by
  rcases jnI_cases (zs := zs) (s := s) with h | ⟨c, h, hc, _⟩ <;> omega
/-- The join, -1 for none. -/
def joinI (zs : List Int) (a b : Nat) : Int := jnI zs (upR zs a b)
theorem joinI_bd (zs : List Int) (a b : Nat) : -1 ≤ joinI zs a b ∧ joinI zs a b < zs.length := jnI_bd _ _
def isIt (zs : List Int) (a : Int) : Bool := inB a 0 ((zs.length : Int) - 1)
def joinR (zs : List Int) (a b : Int) : Int := if vo zs && (isIt zs a && isIt zs b) then joinI zs a.toNat b.toNat else -1
def meetR (zs : List Int) (a b : Int) : Int := if vo zs && (isIt zs a && isIt zs b) then joinI (du zs) a.toNat b.toNat else -1

/-- The items with one item next below. -/
def snB (zs : List Int) (a : Nat) : Bool := popI (topsTo zs ((du zs)[a]?.getD 0) zs.length) == 1
def snTo (zs : List Int) : Nat → Int
  | 0 => 0
  | a + 1 => if snB zs a then orI (snTo zs a) (powI a) else snTo zs a
theorem snTo_yes {zs : List Int} {a : Nat} (h : snB zs a = true) : snTo zs (a + 1) = orI (snTo zs a) (powI a) := by simp [snTo, h]
theorem snTo_no {zs : List Int} {a : Nat} (h : snB zs a = false) : snTo zs (a + 1) = snTo zs a := by simp [snTo, h]
theorem snTo_bd (zs : List Int) : ∀ k : Nat, 0 ≤ snTo zs k ∧ snTo zs k < powI k
  | 0 => by simp [snTo, powI]
  | k + 1 => by
    have h := snTo_bd zs k
    have hp : powI (k : Int) < powI ((k + 1 : Nat) : Int) := powI_lt (by omega)
    unfold snTo
    split
    · exact orI_bd h.1 (by omega) (Int.le_of_lt (powI_pos _)) hp
    · omega
theorem snTo_bit (zs : List Int) (j : Nat) : ∀ k : Nat, bitB (snTo zs k) j = (decide (j < k) && snB zs j)
  | 0 => by simp [snTo, bitB_zero]
  | k + 1 => by
    have ih := snTo_bit zs j k
    cases hs : snB zs k
    · rw [snTo_no hs, ih]
      by_cases e : j = k
      · subst e; simp [hs]
      · have : (j < k + 1) ↔ (j < k) := by omega
        simp [this]
    · rw [snTo_yes hs, bitB_or, ih, bitB_pow]
      by_cases e : j = k
      · subst e; simp [hs]
      · have h1 : (j < k + 1) ↔ (j < k) := by omega
        have h2 : ¬ k = j := by omega
        simp [h1, h2]
def singlesR (zs : List Int) : Int := if vo zs then snTo zs zs.length else -1
/-- What is next below an item: as the model takes it, and the tops of all below it. -/
theorem next_below {zs : List Int} (h : VoP zs) {a : Nat} (ha : a < zs.length) : coverTo (du zs) a zs.length = topsTo zs ((du zs)[a]?.getD 0) zs.length := by
  have hd := du_sets h.sets
  have hb := coverTo_bd hd (a := a) (by rw [du_len]; exact ha) zs.length
  refine bitB_ext hb.1 (topsTo_bd _ _ _).1 fun j => ?_
  rw [Bool.eq_iff_iff, coverTo_bit, topsTo_bit, Bool.and_eq_true, List.all_eq_true, andI_zero]
  constructor
  · rintro ⟨h1, h2⟩
    refine ⟨by rw [du_bit h.sets] at h1; exact bit_none h1, h1, fun b hb => ?_⟩
    have hbn : b < zs.length := by rw [du_bit h.sets] at hb; exact bit_none hb
    have := h2 b (by simpa using hbn)
    rw [hb, du_bit h.sets] at this
    simpa using this
  · rintro ⟨h1, h2, h3⟩
    refine ⟨h2, fun y hy => ?_⟩
    cases hb : bitB ((du zs)[a]?.getD 0) y
    · rfl
    · have := h3 y hb
      rw [du_bit h.sets, this]
      rfl

/-- A set of just the items at or below all those at or above all of it. -/
def cutI (zs : List Int) (s : Int) : Int := comTo (du zs) (comTo zs s zs.length) zs.length
def cutB (zs : List Int) (s : Int) : Bool := cutI zs s == s
def cutsR (zs : List Int) : List Int := if vo zs then setsTo (cutB zs) (2 ^ zs.length) else []

/-- The place of an item of s. -/
def plN (s : Nat) (a : Nat) : Nat := (popI (andI (s : Int) (powI a - 1))).toNat
theorem plN_fin : ∀ s : Fin 64, ∀ a : Fin 7, (popI (andI (s.val : Int) (powI (a.val : Int) - 1))).toNat = ((List.range a.val).filter fun j => s.val.testBit j).length := by decide +kernel
theorem plN_is {s a : Nat} (hs : s < 64) (ha : a ≤ 6) : plN s a = (leftL a s).length := plN_fin ⟨s, hs⟩ ⟨a, by omega⟩
theorem leftL_split {n s a : Nat} (ha : a < n) (hb : s.testBit a = true) : ∃ t, leftL n s = leftL a s ++ a :: t := by
  refine ⟨((List.range (n - (a + 1))).map (fun x => a + 1 + x)).filter fun j => s.testBit j, ?_⟩
  unfold leftL
  have e : List.range n = List.range a ++ a :: (List.range (n - (a + 1))).map (fun x => a + 1 + x) := by
    have h1 : n = (a + 1) + (n - (a + 1)) := by omega
    conv => lhs; rw [h1, List.range_add, List.range_succ]
    simp
  rw [e, List.filter_append, List.filter_cons, if_pos hb]
theorem pl_at {n s a : Nat} (hs : s < 64) (hn : n ≤ 6) (ha : a < n) (hb : s.testBit a = true) : plN s a < (leftL n s).length ∧ (leftL n s)[plN s a]?.getD 0 = a := by
  obtain ⟨t, e⟩ := leftL_split ha hb
  rw [e, plN_is hs (by omega)]
  simp
theorem left_pop_fin : ∀ n : Fin 7, ∀ s : Fin 64, s.val < 2 ^ n.val → (popI (s.val : Int)).toNat = ((List.range n.val).filter fun j => s.val.testBit j).length := by decide +kernel
theorem left_pop {n s : Nat} (hn : n ≤ 6) (hs : s < 2 ^ n) : popI (s : Int) = (leftL n s).length := by
  have h64 := Nat.lt_of_lt_of_le hs (pow_le64 hn)
  have h1 := left_pop_fin ⟨n, by omega⟩ ⟨s, h64⟩ hs
  have h2 := (popI_bd (s := (s : Int)) (by omega) (by omega)).1
  simp only at h1
  unfold leftL
  omega
/-- The pairs of a list of which s has both. -/
def ptB (s : Int) (p : Nat × Nat) : Bool := bitB s p.1 && bitB s p.2
def ptP (s : Nat) (ps : List (Nat × Nat)) : List (Nat × Nat) := (ps.filter (ptB s)).map fun p => (plN s p.2, plN s p.1)
theorem ptP_yes {s : Nat} {ps : List (Nat × Nat)} {a b : Nat} (h1 : bitB s a = true) (h2 : bitB s b = true) : ptP s (ps ++ [(a, b)]) = ptP s ps ++ [(plN s b, plN s a)] := by
  simp [ptP, ptB, List.filter_append, h1, h2]
theorem ptP_no {s : Nat} {ps : List (Nat × Nat)} {a b : Nat} (h : bitB s a = false ∨ bitB s b = false) : ptP s (ps ++ [(a, b)]) = ptP s ps := by
  rcases h with h | h <;> simp [ptP, ptB, List.filter_append, h]
def partR (zs : List Int) (s : Int) : List Int := if vo zs && inB s 0 (powI zs.length - 1) then ind zs (leftL zs.length s.toNat) else []
theorem part_is {zs : List Int} (h : VoP zs) {s : Nat} (hs : s < 2 ^ zs.length) : downP (leftL zs.length s).length (ptP s (pairsL zs)) = ind zs (leftL zs.length s) := by
  have h6 := h.1
  have h64 := Nat.lt_of_lt_of_le hs (pow_le64 h6)
  have hi := leftL_inc zs s
  have hps : ∀ p ∈ ptP s (pairsL zs), p.1 < (leftL zs.length s).length ∧ p.2 < (leftL zs.length s).length := by
    intro p hp
    unfold ptP at hp
    rw [List.mem_map] at hp
    obtain ⟨⟨x, y⟩, hxy, rfl⟩ := hp
    rw [List.mem_filter] at hxy
    obtain ⟨h1, h2⟩ := hxy
    unfold ptB at h2
    rw [Bool.and_eq_true, bit_cast, bit_cast] at h2
    exact ⟨(pl_at h64 h6 (bit_lt hs h2.2) h2.2).1, (pl_at h64 h6 (bit_lt hs h2.1) h2.1).1⟩
  refine List.ext_getElem? fun i => ?_
  rcases Nat.lt_or_ge i (leftL zs.length s).length with hil | hil
  · have e1 : (downP (leftL zs.length s).length (ptP s (pairsL zs)))[i]? = some ((downP (leftL zs.length s).length (ptP s (pairsL zs)))[i]?.getD 0) := by
      rw [List.getElem?_eq_getElem (by rw [downP_len]; exact hil)]; rfl
    have e2 : (ind zs (leftL zs.length s))[i]? = some ((ind zs (leftL zs.length s))[i]?.getD 0) := by
      rw [List.getElem?_eq_getElem (by rw [ind_len]; exact hil)]; rfl
    rw [e1, e2]
    congr 1
    refine bitB_ext (downP_bd (fun p hp => (hps p hp).1) i).1 ?_ fun j => ?_
    · have := (ind_vo h hi).bd i (by rw [ind_len]; exact hil); exact this.1
    · rw [Bool.eq_iff_iff, downP_bit (fun p hp => (hps p hp).2), ind_bit hil]
      unfold ptP
      rw [List.mem_map]
      constructor
      · rintro ⟨⟨x, y⟩, hxy, e⟩
        rw [List.mem_filter] at hxy
        obtain ⟨h1, h2⟩ := hxy
        unfold ptB at h2
        rw [Bool.and_eq_true, bit_cast, bit_cast] at h2
        have hx := pl_at h64 h6 (bit_lt hs h2.1) h2.1
        have hy := pl_at h64 h6 (bit_lt hs h2.2) h2.2
        injection e with e3 e4
        rw [← e3, ← e4]
        exact ⟨hy.1, by rw [hx.2, hy.2]; exact (mem_pairsL.1 h1).2.2⟩
      · rintro ⟨hj, hb⟩
        have hx : s.testBit ((leftL zs.length s)[i]?.getD 0) = true ∧ (leftL zs.length s)[i]?.getD 0 < zs.length := by
          have := List.getElem_mem (l := leftL zs.length s) hil
          rw [List.getElem?_eq_getElem hil]
          unfold leftL at this ⊢
          rw [List.mem_filter] at this
          exact ⟨this.2, by simpa using this.1⟩
        have hy : s.testBit ((leftL zs.length s)[j]?.getD 0) = true ∧ (leftL zs.length s)[j]?.getD 0 < zs.length := by
          have := List.getElem_mem (l := leftL zs.length s) hj
          rw [List.getElem?_eq_getElem hj]
          unfold leftL at this ⊢
          rw [List.mem_filter] at this
          exact ⟨this.2, by simpa using this.1⟩
        refine ⟨((leftL zs.length s)[i]?.getD 0, (leftL zs.length s)[j]?.getD 0), ?_, ?_⟩
        · rw [List.mem_filter]
          refine ⟨mem_pairsL.2 ⟨hx.2, by omega, hb⟩, ?_⟩
          unfold ptB
          rw [Bool.and_eq_true, bit_cast, bit_cast]
          exact ⟨hx.1, hy.1⟩
        · have h1 := pl_at h64 h6 hx.2 hx.1
          have h2 := pl_at h64 h6 hy.2 hy.1
          have e1 := hi.at_inj h1.1 hil h1.2
          have e2 := hi.at_inj h2.1 hj h2.2
          simp only
          rw [e1, e2]
  · rw [List.getElem?_eq_none (by rw [downP_len]; exact hil), List.getElem?_eq_none (by rw [ind_len]; exact hil)]
end Go.Proofs.YtmlihbcffndnbabDoor

/- Joins: what their own laws ask. No program. -/
namespace Go.Proofs.YtmlihbcffndnbabDoor

theorem up_swap (zs : List Int) (a b : Nat) : upR zs a b = upR zs b a := by
  unfold upR andI
  rw [Nat.and_comm]
theorem join_swap (zs : List Int) (a b : Nat) : joinI zs a b = joinI zs b a := by unfold joinI; rw [up_swap]
theorem join_bits {zs : List Int} {a b c : Nat} (h : joinI zs a b = c) : c < zs.length ∧ bitB (atUp zs a) c = true ∧ bitB (atUp zs b) c = true := by
  rcases jnI_cases (zs := zs) (s := upR zs a b) with ⟨e, _⟩ | ⟨d, e, hd, hb⟩
  · exfalso
    have : joinI zs a b = -1 := e
    omega
  · have : joinI zs a b = (d : Int) := e
    obtain rfl : d = c := by omega
    unfold jnB at hb
    rw [Bool.and_eq_true] at hb
    have h1 := hb.1
    unfold upR at h1
    rw [bitB_and, Bool.and_eq_true] at h1
    exact ⟨hd, h1⟩
theorem at_or {zs : List Int} {a c : Nat} (h : bitB (atUp zs a) c = true) (hne : c ≠ a) : bitB (zs[a]?.getD 0) c = true := by
  rw [atUp_bit, Bool.or_eq_true, decide_eq_true_eq] at h
  rcases h with h | h
  · exact h
  · exact absurd h.symm hne
/-- Where there is one, all stand in range. -/
theorem join_parts {zs ds : List Int} {a b J : Int} (hJ : (if vo zs && (isIt zs a && isIt zs b) then joinI ds a.toNat b.toNat else -1) = J) (h0 : 0 ≤ J) :
    VoP zs ∧ ∃ x y c : Nat, a = x ∧ b = y ∧ J = c ∧ x < zs.length ∧ y < zs.length ∧ joinI ds x y = c := by
  cases e : (vo zs && (isIt zs a && isIt zs b))
  · rw [e] at hJ
    simp only [Bool.false_eq_true, if_false] at hJ
    omega
  · rw [e, if_pos rfl] at hJ
    rw [Bool.and_eq_true, Bool.and_eq_true] at e
    obtain ⟨hv, ha, hb⟩ := e
    unfold isIt inB at ha hb
    rw [decide_eq_true_eq] at ha hb
    refine ⟨by simpa [vo] using hv, a.toNat, b.toNat, J.toNat, by omega, by omega, by omega, by omega, by omega, by omega⟩
theorem isIt_cast {zs : List Int} {x : Nat} (h : x < zs.length) : isIt zs (x : Int) = true := by unfold isIt inB; rw [decide_eq_true_eq]; omega
theorem joinR_cast {zs : List Int} (h : VoP zs) {x y : Nat} (hx : x < zs.length) (hy : y < zs.length) : joinR zs x y = joinI zs x y := by
  unfold joinR; rw [vo_true h, isIt_cast hx, isIt_cast hy]; rfl
theorem meetR_cast {zs : List Int} (h : VoP zs) {x y : Nat} (hx : x < zs.length) (hy : y < zs.length) : meetR zs x y = joinI (du zs) x y := by
  unfold meetR; rw [vo_true h, isIt_cast hx, isIt_cast hy]; rfl
end Go.Proofs.YtmlihbcffndnbabDoor

/- Cuts: ideals, closed under meeting, ascending, as many as those of the order turned round, at least as many as items. No program. -/
namespace Go.Proofs.YtmlihbcffndnbabDoor

theorem inj_len {α β : Type} [DecidableEq β] (f : α → β) : ∀ (l : List α) (m : List β), l.Nodup → (∀ x ∈ l, f x ∈ m) → (∀ x ∈ l, ∀ y ∈ l, f x = f y → x = y) → l.length ≤ m.length
  | [], _, _, _, _ => Nat.zero_le _
  | a :: t, m, hn, hm, hi => by
    have ha := hm a (by simp)
    rw [List.nodup_cons] at hn
    have := inj_len f t (m.erase (f a)) hn.2 (fun x hx => by
      refine (List.mem_erase_of_ne fun e => ?_).2 (hm x (by simp [hx]))
      have := hi x (by simp [hx]) a (by simp) e
      subst this
      exact hn.1 hx) (fun x hx y hy => hi x (by simp [hx]) y (by simp [hy]))
    rw [List.length_erase_of_mem ha] at this
    have := List.length_pos_of_mem ha
    simp only [List.length_cons]
    omega
theorem setsTo_mem {p : Int → Bool} {k : Nat} {x : Int} : x ∈ setsTo p k ↔ ∃ j : Nat, j < k ∧ p (j : Int) = true ∧ (j : Int) = x := by
  simp [setsTo, and_assoc]
theorem setsTo_asc (p : Int → Bool) (k : Nat) : (setsTo p k).Pairwise (· < ·) := by
  unfold setsTo
  rw [List.pairwise_map]
  refine (List.pairwise_lt_range.filter _).imp fun h => by omega
theorem setsTo_nodup (p : Int → Bool) (k : Nat) : (setsTo p k).Nodup := (setsTo_asc p k).imp fun h => by omega
theorem setsTo_at {p : Int → Bool} {k i : Nat} (hi : i < (setsTo p k).length) : ∃ j : Nat, j < k ∧ p (j : Int) = true ∧ (setsTo p k)[i]?.getD 0 = (j : Int) := by
  obtain ⟨j, h1, h2, h3⟩ := setsTo_mem.1 (List.getElem_mem hi)
  exact ⟨j, h1, h2, by rw [List.getElem?_eq_getElem hi]; exact h3.symm⟩
theorem setsTo_less {p : Int → Bool} {k i : Nat} (h0 : 0 < i) (hi : i < (setsTo p k).length) : (setsTo p k)[i - 1]?.getD 0 < (setsTo p k)[i]?.getD 0 := by
  rw [List.getElem?_eq_getElem hi, List.getElem?_eq_getElem (by omega)]
  exact List.pairwise_iff_getElem.1 (setsTo_asc p k) (i - 1) i (by omega) hi (by omega)
/-- At or above. -/
theorem at_du {zs : List Int} (h : Sets zs) (a b : Nat) : bitB (atUp (du zs) a) b = bitB (atUp zs b) a := by
  rw [atUp_bit, atUp_bit, du_bit h]
  congr 1
  exact decide_eq_decide.2 ⟨Eq.symm, Eq.symm⟩
theorem at_self (zs : List Int) (a : Nat) : bitB (atUp zs a) a = true := by rw [atUp_bit]; simp
theorem at_trans {zs : List Int} (h : VoP zs) {a b c : Nat} (h1 : bitB (atUp zs a) b = true) (h2 : bitB (atUp zs b) c = true) : bitB (atUp zs a) c = true := by
  rw [atUp_bit, Bool.or_eq_true, decide_eq_true_eq] at h1 h2
  rcases h1 with h1 | rfl
  · rcases h2 with h2 | rfl
    · rw [atUp_bit, (h.trans ⟨bit_none h1, h1⟩ ⟨bit_none h2, h2⟩).2]; rfl
    · rw [atUp_bit, h1]; rfl
  · rw [atUp_bit, Bool.or_eq_true, decide_eq_true_eq]; exact h2
theorem at_asym {zs : List Int} (h : VoP zs) {a b : Nat} (h1 : bitB (atUp zs a) b = true) (h2 : bitB (atUp zs b) a = true) : a = b := by
  rw [atUp_bit, Bool.or_eq_true, decide_eq_true_eq] at h1 h2
  rcases h1 with h1 | h1
  · rcases h2 with h2 | h2
    · rw [h.asym (bit_none h1) h1] at h2; cases h2
    · exact h2.symm
  · exact h1
/-- The cut of a set: what is at or below all that is at or above all of it. -/
theorem cut_bit {zs : List Int} (h : Sets zs) (s : Int) (i : Nat) : bitB (cutI zs s) i = true ↔ i < zs.length ∧ ∀ j : Nat, j < zs.length → (∀ a : Nat, a < zs.length → bitB s a = true → bitB (atUp zs a) j = true) → bitB (atUp zs i) j = true := by
  unfold cutI
  rw [comTo_bit, du_len]
  refine and_congr_right fun _ => ⟨fun g j hj ha => ?_, fun g j hj hb => ?_⟩
  · rw [← at_du h]; exact g j hj ((comTo_bit _ _ _ _).2 ⟨hj, ha⟩)
  · rw [at_du h]; exact g j hj ((comTo_bit _ _ _ _).1 hb).2
theorem cut_bd (zs : List Int) (s : Int) : 0 ≤ cutI zs s ∧ cutI zs s < powI zs.length := by
  have := comTo_bd (du zs) (comTo zs s zs.length) zs.length
  rwa [du_len] at this
theorem cut_in {zs : List Int} (h : Sets zs) {s : Int} (h1 : s < powI zs.length) {i : Nat} (hb : bitB s i = true) : bitB (cutI zs s) i = true :=
  (cut_bit h s i).2 ⟨bitB_lt h1 hb, fun _ _ ha => ha i (bitB_lt h1 hb) hb⟩
theorem cut_mono {zs : List Int} (h : Sets zs) {s t : Int} (hst : ∀ i : Nat, bitB s i = true → bitB t i = true) {i : Nat} (hb : bitB (cutI zs s) i = true) : bitB (cutI zs t) i = true := by
  rw [cut_bit h] at hb ⊢
  exact ⟨hb.1, fun j hj ha => hb.2 j hj fun a ha1 hs => ha a ha1 (hst a hs)⟩
theorem cutB_iff {zs : List Int} (h : Sets zs) {s : Int} (h0 : 0 ≤ s) (h1 : s < powI zs.length) : cutB zs s = true ↔ ∀ i : Nat, bitB (cutI zs s) i = true → bitB s i = true := by
  unfold cutB
  rw [beq_iff_eq]
  refine ⟨fun e i hb => by rwa [e] at hb, fun g => bitB_ext (cut_bd zs s).1 h0 fun i => ?_⟩
  rw [Bool.eq_iff_iff]
  exact ⟨g i, cut_in h h1⟩
theorem cut_inter {zs : List Int} (h : Sets zs) {s t : Int} (s0 : 0 ≤ s) (s1 : s < powI zs.length) (_t0 : 0 ≤ t) (t1 : t < powI zs.length) (hs : cutB zs s = true) (ht : cutB zs t = true) :
    0 ≤ andI s t ∧ andI s t < powI zs.length ∧ cutB zs (andI s t) = true := by
  have h0 : 0 ≤ andI s t := by unfold andI; omega
  have hle : andI s t < powI zs.length := by
    have := andI_bd s t
    omega
  refine ⟨h0, hle, (cutB_iff h h0 hle).2 fun i hb => ?_⟩
  rw [bitB_and, Bool.and_eq_true]
  exact ⟨(cutB_iff h s0 s1).1 hs i (cut_mono h (fun j hj => by rw [bitB_and, Bool.and_eq_true] at hj; exact hj.1) hb),
    (cutB_iff h _t0 t1).1 ht i (cut_mono h (fun j hj => by rw [bitB_and, Bool.and_eq_true] at hj; exact hj.2) hb)⟩
theorem cut_ideal {zs : List Int} (h : VoP zs) {s : Int} (h0 : 0 ≤ s) (h1 : s < powI zs.length) (hs : cutB zs s = true) : idB zs s = true := by
  refine (idB_iff h.sets h0 h1).2 fun a b hb hz => (cutB_iff h.sets h0 h1).1 hs a ?_
  have hc := cut_in h.sets h1 hb
  rw [cut_bit h.sets] at hc ⊢
  refine ⟨bit_none hz, fun j hj ha => at_trans h (b := b) ?_ (hc.2 j hj ha)⟩
  rw [atUp_bit, hz]; rfl
theorem cut_all {zs : List Int} (h : Sets zs) : cutB zs (powI zs.length - 1) = true := by
  have hp := powI_pos (zs.length : Int)
  refine (cutB_iff h (by omega) (by omega)).2 fun i hb => ?_
  rw [all_bits', decide_eq_true_eq]
  exact ((cut_bit h _ i).1 hb).1
/-- What is at or below an item is a cut. -/
theorem cut_one {zs : List Int} (h : VoP zs) {a : Nat} (ha : a < zs.length) : 0 ≤ atUp (du zs) a ∧ atUp (du zs) a < powI zs.length ∧ cutB zs (atUp (du zs) a) = true := by
  have hb := atUp_bd (du_sets h.sets) (a := a) (by rw [du_len]; exact ha)
  rw [du_len] at hb
  refine ⟨hb.1, hb.2, (cutB_iff h.sets hb.1 hb.2).2 fun i hi => ?_⟩
  rw [at_du h.sets]
  refine ((cut_bit h.sets _ i).1 hi).2 a ha fun c _ hc => ?_
  rwa [at_du h.sets] at hc
theorem pow_cast (n : Nat) : powI (n : Int) = ((2 ^ n : Nat) : Int) := by simp [powI]
theorem mem_cuts {zs : List Int} (h : VoP zs) {x : Int} : x ∈ cutsR zs ↔ 0 ≤ x ∧ x < powI zs.length ∧ cutB zs x = true := by
  unfold cutsR
  rw [vo_true h, if_pos rfl, setsTo_mem, pow_cast]
  refine ⟨?_, fun ⟨h0, h1, h2⟩ => ⟨x.toNat, by omega, by rwa [Int.toNat_of_nonneg h0], Int.toNat_of_nonneg h0⟩⟩
  rintro ⟨j, h1, h2, rfl⟩
  exact ⟨by omega, by omega, h2⟩
theorem cuts_nodup (zs : List Int) : (cutsR zs).Nodup := by
  unfold cutsR
  split
  · exact setsTo_nodup _ _
  · exact List.nodup_nil
theorem cuts_many {zs : List Int} (h : VoP zs) : zs.length ≤ (cutsR zs).length := by
  have := inj_len (fun a : Nat => atUp (du zs) a) (List.range zs.length) (cutsR zs) List.nodup_range (fun a ha => (mem_cuts h).2 (cut_one h (by simpa using ha)))
    (fun a _ b _ e => at_asym h (by rw [← at_du h.sets, ← (show atUp (du zs) a = atUp (du zs) b from e)]; exact at_self _ _) (by rw [← at_du h.sets, (show atUp (du zs) a = atUp (du zs) b from e)]; exact at_self _ _))
  simpa using this
theorem cuts_du_le {zs : List Int} (h : VoP zs) : (cutsR zs).length ≤ (cutsR (du zs)).length := by
  refine inj_len (fun s => comTo zs s zs.length) _ _ (cuts_nodup zs) (fun s hs => ?_) (fun s hs t ht e => ?_)
  · obtain ⟨h0, h1, h2⟩ := (mem_cuts h).1 hs
    have hb := comTo_bd zs s zs.length
    refine (mem_cuts (du_vo h)).2 ⟨hb.1, by rw [du_len]; exact hb.2, ?_⟩
    unfold cutB at h2 ⊢
    rw [beq_iff_eq] at h2 ⊢
    unfold cutI at h2 ⊢
    rw [du_len, du_du h, h2]
  · have h2 := ((mem_cuts h).1 hs).2.2
    have h3 := ((mem_cuts h).1 ht).2.2
    unfold cutB at h2 h3
    rw [beq_iff_eq] at h2 h3
    rw [← h2, ← h3]
    unfold cutI
    rw [show comTo zs s zs.length = comTo zs t zs.length from e]
theorem cuts_du {zs : List Int} (h : VoP zs) : (cutsR (du zs)).length = (cutsR zs).length := by
  have h1 := cuts_du_le h
  have h2 := cuts_du_le (du_vo h)
  rw [du_du h] at h2
  omega
theorem cuts_last {zs : List Int} (h : VoP zs) {m : Nat} (hm : (cutsR zs).length = m + 1) : (cutsR zs)[m]?.getD 0 = powI zs.length - 1 := by
  have hp := powI_pos (zs.length : Int)
  have hin := (mem_cuts h).2 ⟨by omega, by omega, cut_all h.sets⟩
  obtain ⟨i, hi, e⟩ := List.getElem_of_mem hin
  have hl := (mem_cuts h).1 (List.getElem_mem (l := cutsR zs) (n := m) (by omega))
  rw [List.getElem?_eq_getElem (by omega), Option.getD_some]
  by_cases him : i = m
  · subst him; exact e
  · have hp : (cutsR zs).Pairwise (· < ·) := by
      unfold cutsR
      split
      · exact setsTo_asc _ _
      · exact List.Pairwise.nil
    have := List.pairwise_iff_getElem.1 hp i m hi (by omega) (by omega)
    omega
theorem cuts_pos {zs : List Int} (h : VoP zs) : 0 < (cutsR zs).length := by
  have hp := powI_pos (zs.length : Int)
  exact List.length_pos_of_mem ((mem_cuts h).2 ⟨by omega, by omega, cut_all h.sets⟩)
/-- What the cuts' own law asks of each. -/
theorem cuts_each {zs : List Int} (h : VoP zs) {i j : Nat} (hi : i < (cutsR zs).length) (hj : j < (cutsR zs).length) :
    isIdealR zs ((cutsR zs)[i]?.getD 0) = true ∧ andI ((cutsR zs)[i]?.getD 0) ((cutsR zs)[j]?.getD 0) ∈ cutsR zs := by
  rw [List.getElem?_eq_getElem hi, List.getElem?_eq_getElem hj, Option.getD_some, Option.getD_some]
  obtain ⟨a0, a1, a2⟩ := (mem_cuts h).1 (List.getElem_mem hi)
  obtain ⟨b0, b1, b2⟩ := (mem_cuts h).1 (List.getElem_mem hj)
  exact ⟨by rw [isIdealR_in h a0 a1]; exact cut_ideal h a0 a1 a2, (mem_cuts h).2 (cut_inter h.sets a0 a1 b0 b1 a2 b2)⟩
theorem cuts_asc (zs : List Int) {i : Nat} (h0 : 0 < i) (hi : i < (cutsR zs).length) : (cutsR zs)[i - 1]?.getD 0 < (cutsR zs)[i]?.getD 0 := by
  have hp : (cutsR zs).Pairwise (· < ·) := by
    unfold cutsR
    split
    · exact setsTo_asc _ _
    · exact List.Pairwise.nil
  rw [List.getElem?_eq_getElem hi, List.getElem?_eq_getElem (by omega)]
  exact List.pairwise_iff_getElem.1 hp (i - 1) i (by omega) hi (by omega)
end Go.Proofs.YtmlihbcffndnbabDoor

/- Lattices: as both sides tell them. No program. -/
namespace Go.Proofs.YtmlihbcffndnbabDoor

def JoinsOk (ds : List Int) : Prop := ∀ a, a < ds.length → ∀ b, b < ds.length → 0 ≤ joinI ds a b
instance (ds : List Int) : Decidable (JoinsOk ds) := by unfold JoinsOk; exact inferInstance
def latB (zs : List Int) : Bool := decide (0 < zs.length) && (decide (JoinsOk zs) && decide (JoinsOk (du zs)))
def latR (zs : List Int) : Bool := vo zs && latB zs
theorem join_self {ds : List Int} {a : Nat} (ha : a < ds.length) : 0 ≤ joinI ds a a := by
  rcases jnI_cases (zs := ds) (s := upR ds a a) with ⟨_, h⟩ | ⟨c, e, _⟩
  · exfalso
    have h1 := h a ha
    have h2 : jnB ds (upR ds a a) a = true := by
      unfold jnB
      have e1 : bitB (upR ds a a) a = true := by
        unfold upR
        rw [bitB_and, atUp_bit]
        simp
      have e2 : lessI (upR ds a a) (atUp ds a) = 0 := lessI_none.2 fun j hj => by
        unfold upR at hj
        rw [bitB_and, Bool.and_eq_true] at hj
        exact hj.1
      rw [e1, e2]
      rfl
    rw [h2] at h1
    cases h1
  · show 0 ≤ jnI ds (upR ds a a)
    omega
theorem joins_half {ds : List Int} (h : ∀ a, a < ds.length → ∀ b, b < a → 0 ≤ joinI ds a b) : JoinsOk ds := fun a ha b hb => by
  rcases Nat.lt_trichotomy b a with h1 | h1 | h1
  · exact h a ha b h1
  · subst h1; exact join_self hb
  · rw [join_swap]; exact h b hb a h1
theorem lattice_not {zs ds : List Int} {a b : Nat} (hd : ds = zs ∨ ds = du zs) (ha : a < zs.length) (hb : b < zs.length) (h : joinI ds a b < 0) : latB zs = false := by
  have hn : ¬ JoinsOk ds := fun hok => by
    have := hok a (by rcases hd with e | e <;> rw [e] <;> first | exact ha | (rw [du_len]; exact ha)) b (by rcases hd with e | e <;> rw [e] <;> first | exact hb | (rw [du_len]; exact hb))
    omega
  unfold latB
  rcases hd with e | e <;> subst e
  · rw [decide_eq_false hn]; simp
  · rw [decide_eq_false hn]; simp
theorem lattice_is {zs : List Int} (h1 : JoinsOk zs) (h2 : JoinsOk (du zs)) : latB zs = decide (0 < zs.length) := by
  unfold latB
  rw [decide_eq_true h1, decide_eq_true h2]
  simp
end Go.Proofs.YtmlihbcffndnbabDoor

/- Cuts of a lattice: they are as many as items. No program. -/
namespace Go.Proofs.YtmlihbcffndnbabDoor

/-- The join of two items, as what is at or above both. -/
theorem join_char {ds : List Int} (h : VoP ds) (hj : JoinsOk ds) {a b : Nat} (ha : a < ds.length) (hb : b < ds.length) :
    ∃ c : Nat, c < ds.length ∧ ∀ i : Nat, (bitB (atUp ds a) i = true ∧ bitB (atUp ds b) i = true) ↔ bitB (atUp ds c) i = true := by
  have h0 := hj a ha b hb
  rcases jnI_cases (zs := ds) (s := upR ds a b) with ⟨e, _⟩ | ⟨c, e, hc, hb2⟩
  · exfalso
    have : joinI ds a b = -1 := e
    omega
  · unfold jnB at hb2
    rw [Bool.and_eq_true, beq_iff_eq] at hb2
    refine ⟨c, hc, fun i => ⟨fun hi => ?_, fun hi => ?_⟩⟩
    · refine lessI_none.1 hb2.2 i ?_
      unfold upR
      rw [bitB_and, Bool.and_eq_true]
      exact hi
    · have h1 := hb2.1
      unfold upR at h1
      rw [bitB_and, Bool.and_eq_true] at h1
      exact ⟨at_trans h h1.1 hi, at_trans h h1.2 hi⟩
/-- What is at or above all of a set is what is at or above one item, if the set is not empty. -/
theorem joins_char {ds : List Int} (h : VoP ds) (hj : JoinsOk ds) (t : Int) : ∀ k : Nat, k ≤ ds.length → (∀ a : Nat, a < k → bitB t a = false) ∨
    ∃ c : Nat, c < ds.length ∧ ∀ i : Nat, (∀ a : Nat, a < k → bitB t a = true → bitB (atUp ds a) i = true) ↔ bitB (atUp ds c) i = true
  | 0, _ => .inl fun a ha => by omega
  | k + 1, hk => by
    have ih := joins_char h hj t k (by omega)
    cases hb : bitB t (k : Int)
    · rcases ih with ih | ⟨c, hc, ih⟩
      · refine .inl fun a ha => ?_
        by_cases e : a = k
        · subst e; exact hb
        · exact ih a (by omega)
      · refine .inr ⟨c, hc, fun i => ?_⟩
        rw [← ih i]
        refine ⟨fun g a ha hs => g a (by omega) hs, fun g a ha hs => ?_⟩
        by_cases e : a = k
        · subst e; rw [hb] at hs; cases hs
        · exact g a (by omega) hs
    · rcases ih with ih | ⟨c, hc, ih⟩
      · refine .inr ⟨k, by omega, fun i => ⟨fun g => g k (by omega) hb, fun g a ha hs => ?_⟩⟩
        by_cases e : a = k
        · subst e; exact g
        · rw [ih a (by omega)] at hs; cases hs
      · obtain ⟨d, hd, hdc⟩ := join_char h hj hc (show k < ds.length by omega)
        refine .inr ⟨d, hd, fun i => ?_⟩
        rw [← hdc i, ← ih i]
        refine ⟨fun g => ⟨fun a ha hs => g a (by omega) hs, g k (by omega) hb⟩, fun g a ha hs => ?_⟩
        by_cases e : a = k
        · subst e; exact g.2
        · exact g.1 a (by omega) hs
/-- One item at or above all. -/
theorem lat_top {ds : List Int} (h : VoP ds) (hn : 0 < ds.length) (hj : JoinsOk ds) : ∃ c : Nat, c < ds.length ∧ ∀ a : Nat, a < ds.length → bitB (atUp ds a) c = true := by
  rcases joins_char h hj (powI ds.length - 1) ds.length (Nat.le_refl _) with g | ⟨c, hc, g⟩
  · have := g 0 hn
    rw [all_bits', decide_eq_false_iff_not] at this
    exact absurd hn this
  · exact ⟨c, hc, fun a ha => (g c).2 (at_self _ _) a ha (by rw [all_bits', decide_eq_true_eq]; exact ha)⟩
theorem latB_parts {zs : List Int} (h : latB zs = true) : 0 < zs.length ∧ JoinsOk zs ∧ JoinsOk (du zs) := by
  unfold latB at h
  rw [Bool.and_eq_true, Bool.and_eq_true, decide_eq_true_eq, decide_eq_true_eq, decide_eq_true_eq] at h
  exact h
theorem lat_du {zs : List Int} (h : VoP zs) (hl : latB zs = true) : latR (du zs) = true := by
  obtain ⟨h1, h2, h3⟩ := latB_parts hl
  unfold latR
  rw [vo_true (du_vo h), lattice_is h3 (by rw [du_du h]; exact h2), du_len, decide_eq_true h1]
  rfl
/-- Each cut of a lattice is what is at or below an item. -/
theorem cut_lat {zs : List Int} (h : VoP zs) (hl : latB zs = true) {s : Int} (hs : s ∈ cutsR zs) : ∃ c : Nat, c < zs.length ∧ s = atUp (du zs) c := by
  obtain ⟨h1, h2, h3⟩ := latB_parts hl
  obtain ⟨s0, s1, hc⟩ := (mem_cuts h).1 hs
  have hsb : ∀ i : Nat, bitB s i = true ↔ i < zs.length ∧ ∀ a : Nat, a < zs.length → bitB (comTo zs s zs.length) a = true → bitB (atUp (du zs) a) i = true := fun i => by
    unfold cutB at hc
    rw [beq_iff_eq] at hc
    have e : comTo (du zs) (comTo zs s zs.length) zs.length = s := hc
    have g := comTo_bit (du zs) (comTo zs s zs.length) i zs.length
    rw [e, du_len] at g
    exact g
  rcases joins_char (du_vo h) h3 (comTo zs s zs.length) zs.length (by rw [du_len]; exact Nat.le_refl _) with g | ⟨c, hc2, g⟩
  · exfalso
    obtain ⟨c, hc3, ht⟩ := lat_top h h1 h2
    have := g c hc3
    rw [Bool.eq_false_iff] at this
    exact this ((comTo_bit _ _ _ _).2 ⟨hc3, fun a ha _ => ht a ha⟩)
  · rw [du_len] at hc2
    have hb := atUp_bd (du_sets h.sets) (a := c) (by rw [du_len]; exact hc2)
    refine ⟨c, hc2, bitB_ext s0 hb.1 fun i => ?_⟩
    rw [Bool.eq_iff_iff, hsb i]
    refine ⟨fun k => (g i).1 k.2, fun k => ⟨?_, (g i).2 k⟩⟩
    rw [at_du h.sets, atUp_bit, Bool.or_eq_true, decide_eq_true_eq] at k
    rcases k with k | k
    · exact bit_none k
    · omega
theorem cuts_lat {zs : List Int} (h : VoP zs) (hl : latB zs = true) : (cutsR zs).length = zs.length := by
  have h1 := cuts_many h
  have h2 := inj_len (fun s : Int => s) (cutsR zs) ((List.range zs.length).map fun c => atUp (du zs) c) (cuts_nodup zs) (fun s hs => by
    obtain ⟨c, hc, e⟩ := cut_lat h hl hs
    exact List.mem_map.2 ⟨c, by simpa using hc, e.symm⟩) (fun s _ t _ e => e)
  rw [List.length_map, List.length_range] at h2
  omega
end Go.Proofs.YtmlihbcffndnbabDoor

/- Even lattices: as both sides tell them. No program. -/
namespace Go.Proofs.YtmlihbcffndnbabDoor

def goesOver (zs : List Int) (a b c : Nat) : Bool := joinI (du zs) a (joinI zs b c).toNat == joinI zs (joinI (du zs) a b).toNat (joinI (du zs) a c).toNat
def EvenAll (zs : List Int) : Prop := ∀ a, a < zs.length → ∀ b, b < zs.length → ∀ c, c < zs.length → goesOver zs a b c = true
instance (zs : List Int) : Decidable (EvenAll zs) := by unfold EvenAll; exact inferInstance
def evenR (zs : List Int) : Bool := latR zs && decide (EvenAll zs)
theorem joins_at {ds : List Int} {n : Nat} (h : JoinsOk ds) (hl : ds.length = n) {a b : Nat} (ha : a < n) (hb : b < n) : ∃ j : Nat, joinI ds a b = j ∧ j < n := by
  have h1 := h a (by omega) b (by omega)
  have h2 := joinI_bd ds a b
  exact ⟨(joinI ds a b).toNat, by omega, by omega⟩
theorem lat_parts {zs : List Int} (h : latR zs = true) : VoP zs ∧ 0 < zs.length ∧ JoinsOk zs ∧ JoinsOk (du zs) := by
  unfold latR latB at h
  rw [Bool.and_eq_true, Bool.and_eq_true, Bool.and_eq_true, decide_eq_true_eq, decide_eq_true_eq, decide_eq_true_eq] at h
  exact ⟨by simpa [vo] using h.1, h.2.1, h.2.2.1, h.2.2.2⟩
end Go.Proofs.YtmlihbcffndnbabDoor

/- Ideals within a set are as many as ciN tells. No program. -/
namespace Go.Proofs.YtmlihbcffndnbabDoor

theorem bit_nat {x : Int} (_hx : 0 ≤ x) (j : Nat) : bitB x (j : Int) = x.toNat.testBit j := by simp [bitB]
theorem lessN_bit (s : Nat) (z : Int) (j : Nat) : (lessN s z).testBit j = ((s.testBit j && !decide (low s = j)) && !bitB z j) := by
  unfold lessN
  rw [← bit_nat (lessI_bd _ _).1, bitB_less, bitB_less, bitB_pow, bit_cast]
/-- An ideal within a set. -/
def IdP (zs : List Int) (s t : Nat) : Prop := (∀ j, t.testBit j = true → s.testBit j = true) ∧ ∀ a b : Nat, t.testBit b = true → s.testBit a = true → bitB (zs[a]?.getD 0) b = true → t.testBit a = true
open Classical in
noncomputable def ids (zs : List Int) (s : Nat) : List Nat := (List.range 64).filter fun t => decide (IdP zs s t)
theorem mem_ids {zs : List Int} {s t : Nat} : t ∈ ids zs s ↔ t < 64 ∧ IdP zs s t := by simp [ids]
theorem ids_nodup (zs : List Int) (s : Nat) : (ids zs s).Nodup := List.nodup_range.filter _
theorem idP_lt {zs : List Int} {s t : Nat} (h : IdP zs s t) (hs : s < 64) : t < 64 := Nat.lt_pow_two_of_testBit (n := 6) _ fun i hi => by
  cases e : t.testBit i
  · rfl
  · have := bit_lt (n := 6) hs (h.1 i e); omega
theorem ids_zero (zs : List Int) : (ids zs 0).length = 1 := by
  have h1 := inj_len (fun t : Nat => t) (ids zs 0) [0] (ids_nodup _ _) (fun t ht => by
    have := (mem_ids.1 ht).2.1
    have : t = 0 := Nat.eq_of_testBit_eq fun j => by
      cases e : t.testBit j
      · simp
      · have := this j e; simp at this
    simp [this]) (fun _ _ _ _ e => e)
  have h2 := inj_len (fun t : Nat => t) [0] (ids zs 0) (by simp) (fun t ht => by
    obtain rfl : t = 0 := by simpa using ht
    exact mem_ids.2 ⟨by omega, fun j hj => hj, fun a b hb => by simp at hb⟩) (fun _ _ _ _ e => e)
  simp at h1 h2
  omega
theorem ids_split {zs : List Int} (h : VoP zs) {s a u d : Nat} (hs : s < 64) (hb : s.testBit a = true)
    (hu : ∀ j, u.testBit j = ((s.testBit j && !decide (a = j)) && !bitB (zs[a]?.getD 0) j)) (hd : ∀ j, d.testBit j = ((s.testBit j && !decide (a = j)) && !bitB (zs[j]?.getD 0) a)) :
    (ids zs s).length = (ids zs u).length + (ids zs d).length := by
  have hu1 : ∀ j, u.testBit j = true ↔ s.testBit j = true ∧ a ≠ j ∧ bitB (zs[a]?.getD 0) j = false := fun j => by rw [hu]; simp [and_assoc]
  have hd1 : ∀ j, d.testBit j = true ↔ s.testBit j = true ∧ a ≠ j ∧ bitB (zs[j]?.getD 0) a = false := fun j => by rw [hd]; simp [and_assoc]
  have hlen : ((ids zs u).map (Sum.inl (β := Nat)) ++ (ids zs d).map (Sum.inr (α := Nat))).length = (ids zs u).length + (ids zs d).length := by simp
  have tr : ∀ {x y z : Nat}, bitB (zs[x]?.getD 0) y = true → bitB (zs[y]?.getD 0) z = true → bitB (zs[x]?.getD 0) z = true := fun h1 h2 => (h.trans ⟨bit_none h1, h1⟩ ⟨bit_none h2, h2⟩).2
  have hin : ∀ t, IdP zs s t → t.testBit a = true → ∀ j, t.testBit j = true ↔ ((t &&& d).testBit j = true ∨ (s.testBit j = true ∧ d.testBit j = false)) := fun t ht ha j => by
    rw [Nat.testBit_and, Bool.and_eq_true]
    constructor
    · intro e
      cases e2 : d.testBit j
      · exact .inr ⟨ht.1 j e, rfl⟩
      · exact .inl ⟨e, rfl⟩
    · rintro (e | ⟨e1, e2⟩)
      · exact e.1
      · rw [hd, e1, Bool.true_and] at e2
        by_cases e3 : a = j
        · subst e3; exact ha
        · cases e4 : bitB (zs[j]?.getD 0) a
          · rw [e4] at e2; simp [e3] at e2
          · exact ht.2 j a ha e1 e4
  have h1 := inj_len (fun t : Nat => if t.testBit a then (Sum.inr (t &&& d) : Nat ⊕ Nat) else Sum.inl t) (ids zs s) ((ids zs u).map (Sum.inl (β := Nat)) ++ (ids zs d).map (Sum.inr (α := Nat))) (ids_nodup _ _) (fun t ht => by
    obtain ⟨t6, ht⟩ := mem_ids.1 ht
    rw [List.mem_append]
    cases e : t.testBit a
    · refine .inl ?_
      simp only [Bool.false_eq_true, if_false]
      refine List.mem_map_of_mem (mem_ids.2 ⟨t6, fun j hj => (hu1 j).2 ⟨ht.1 j hj, fun e2 => (by subst e2; rw [e] at hj; cases hj), ?_⟩, fun x y hy hx hz => ht.2 x y hy ((hu1 x).1 hx).1 hz⟩)
      cases e2 : bitB (zs[a]?.getD 0) j
      · rfl
      · rw [ht.2 a j hj hb e2] at e; cases e
    · refine .inr ?_
      simp only [if_true]
      refine List.mem_map_of_mem (mem_ids.2 ⟨Nat.lt_of_le_of_lt Nat.and_le_left t6, fun j hj => ?_, fun x y hy hx hz => ?_⟩)
      · rw [Nat.testBit_and, Bool.and_eq_true] at hj; exact hj.2
      · rw [Nat.testBit_and, Bool.and_eq_true] at hy ⊢
        exact ⟨ht.2 x y hy.1 ((hd1 x).1 hx).1 hz, hx⟩) (fun t ht t2 ht2 e => by
    obtain ⟨-, ht⟩ := mem_ids.1 ht
    obtain ⟨-, ht2⟩ := mem_ids.1 ht2
    cases e1 : t.testBit a <;> cases e2 : t2.testBit a <;> simp [e1, e2] at e
    · exact e
    · refine Nat.eq_of_testBit_eq fun j => ?_
      rw [Bool.eq_iff_iff, hin t ht e1 j, hin t2 ht2 e2 j, e])
  have h2 := inj_len (fun x : Nat ⊕ Nat => match x with | .inl t => t | .inr t => t ||| (s ^^^ d)) ((ids zs u).map (Sum.inl (β := Nat)) ++ (ids zs d).map (Sum.inr (α := Nat))) (ids zs s) (by
      rw [List.nodup_append]
      refine ⟨?_, ?_, ?_⟩
      · exact List.Pairwise.map _ (fun x y hxy e => hxy (Sum.inl.inj e)) (ids_nodup zs u)
      · exact List.Pairwise.map _ (fun x y hxy e => hxy (Sum.inr.inj e)) (ids_nodup zs d)
      · intro x hx y hy e
        obtain ⟨t, -, rfl⟩ := List.mem_map.1 hx
        obtain ⟨t2, -, rfl⟩ := List.mem_map.1 hy
        cases e) (fun x hx => by
    rw [List.mem_append] at hx
    rcases hx with hx | hx
    · obtain ⟨t, ht, rfl⟩ := List.mem_map.1 hx
      obtain ⟨t6, ht⟩ := mem_ids.1 ht
      refine mem_ids.2 ⟨t6, fun j hj => ((hu1 j).1 (ht.1 j hj)).1, fun x y hy hx hz => ht.2 x y hy ((hu1 x).2 ⟨hx, fun e => ?_, ?_⟩) hz⟩
      · subst e
        have := ((hu1 y).1 (ht.1 y hy)).2.2
        rw [hz] at this; cases this
      · cases e : bitB (zs[a]?.getD 0) x
        · rfl
        · have := ((hu1 y).1 (ht.1 y hy)).2.2
          rw [tr e hz] at this; cases this
    · obtain ⟨t, ht, rfl⟩ := List.mem_map.1 hx
      obtain ⟨t6, ht⟩ := mem_ids.1 ht
      have hg : ∀ j, (t ||| (s ^^^ d)).testBit j = true ↔ t.testBit j = true ∨ (s.testBit j = true ∧ d.testBit j = false) := fun j => by
        rw [Nat.testBit_or, Nat.testBit_xor, Bool.or_eq_true]
        have := hd1 j
        cases e1 : s.testBit j <;> cases e2 : d.testBit j <;> simp_all
      have hp : IdP zs s (t ||| (s ^^^ d)) := by
        refine ⟨fun j hj => ?_, fun x y hy hx hz => ?_⟩
        · rcases (hg j).1 hj with e | e
          · exact ((hd1 j).1 (ht.1 j e)).1
          · exact e.1
        · refine (hg x).2 ?_
          cases e : d.testBit x
          · exact .inr ⟨hx, rfl⟩
          · refine .inl ?_
            rcases (hg y).1 hy with e2 | ⟨e2, e3⟩
            · exact ht.2 x y e2 e hz
            · exfalso
              have hx1 := (hd1 x).1 e
              rw [hd, e2, Bool.true_and] at e3
              by_cases e4 : a = y
              · subst e4; rw [hx1.2.2] at hz; cases hz
              · cases e5 : bitB (zs[y]?.getD 0) a
                · rw [e5] at e3; simp [e4] at e3
                · rw [tr hz e5] at hx1; cases hx1.2.2
      exact mem_ids.2 ⟨idP_lt hp hs, hp⟩) (fun x hx y hy e => by
    rw [List.mem_append] at hx hy
    have hg : ∀ t j, (t ||| (s ^^^ d)).testBit j = true ↔ t.testBit j = true ∨ (s.testBit j = true ∧ d.testBit j = false) := fun t j => by
      rw [Nat.testBit_or, Nat.testBit_xor, Bool.or_eq_true]
      have := hd1 j
      cases e1 : s.testBit j <;> cases e2 : d.testBit j <;> simp_all
    have hda : d.testBit a = false := by rw [hd]; simp
    rcases hx with hx | hx
    · obtain ⟨t, ht, rfl⟩ := List.mem_map.1 hx
      rcases hy with hy | hy
      · obtain ⟨t2, ht2, rfl⟩ := List.mem_map.1 hy
        exact congrArg _ e
      · exfalso
        obtain ⟨t2, ht2, rfl⟩ := List.mem_map.1 hy
        have e : t = t2 ||| (s ^^^ d) := e
        have h3 := (hg t2 a).2 (.inr ⟨hb, hda⟩)
        rw [← e] at h3
        exact ((hu1 a).1 ((mem_ids.1 ht).2.1 a h3)).2.1 rfl
    · obtain ⟨t, ht, rfl⟩ := List.mem_map.1 hx
      rcases hy with hy | hy
      · exfalso
        obtain ⟨t2, ht2, rfl⟩ := List.mem_map.1 hy
        have e : t ||| (s ^^^ d) = t2 := e
        have h3 := (hg t a).2 (.inr ⟨hb, hda⟩)
        rw [e] at h3
        exact ((hu1 a).1 ((mem_ids.1 ht2).2.1 a h3)).2.1 rfl
      · obtain ⟨t2, ht2, rfl⟩ := List.mem_map.1 hy
        have e : t ||| (s ^^^ d) = t2 ||| (s ^^^ d) := e
        refine congrArg _ (Nat.eq_of_testBit_eq fun j => ?_)
        rw [Bool.eq_iff_iff]
        have k1 := hg t j
        have k2 := hg t2 j
        rw [e] at k1
        constructor
        · intro e1
          rcases k2.1 (k1.2 (.inl e1)) with e3 | e3
          · exact e3
          · rw [(mem_ids.1 ht).2.1 j e1] at e3; cases e3.2
        · intro e1
          rcases k1.1 (k2.2 (.inl e1)) with e3 | e3
          · exact e3
          · rw [(mem_ids.1 ht2).2.1 j e1] at e3; cases e3.2)
  omega
theorem ciN_ids {zs : List Int} (h : VoP zs) : ∀ (k s : Nat), s ≤ k → s < 64 → ciN zs s = (ids zs s).length
  | 0, s, hk, _ => by
    obtain rfl : s = 0 := by omega
    rw [ciN_zero, ids_zero]
  | k + 1, s, hk, h1 => by
    by_cases h0 : s = 0
    · subst h0; rw [ciN_zero, ids_zero]
    · have hu := lessN_lt (zs[low s]?.getD 0) h0 h1
      have hd := lessN_lt ((du zs)[low s]?.getD 0) h0 h1
      rw [ciN_pos h0 h1, ciN_ids h k _ (by omega) (by omega), ciN_ids h k _ (by omega) (by omega)]
      refine (ids_split h h1 (low_fin ⟨s, h1⟩ h0).2 (fun j => lessN_bit s _ j) (fun j => ?_)).symm
      rw [lessN_bit, du_bit h.sets]
/-- All ideals of an order are as many as the program and the model count. -/
theorem ideals_ci {zs : List Int} (h : VoP zs) : (idealsR zs).length = ciN zs (2 ^ zs.length - 1) := by
  have h64 : (2 : Nat) ^ zs.length ≤ 64 := Nat.pow_le_pow_right (n := 2) (by decide) h.1
  rw [ciN_ids h 64 _ (by omega) (by omega)]
  have hm : ∀ t : Nat, t ∈ ids zs (2 ^ zs.length - 1) ↔ (t : Int) ∈ idealsR zs := fun t => by
    rw [mem_ids]
    unfold idealsR
    rw [vo_true h, if_pos rfl, setsTo_mem]
    constructor
    · rintro ⟨-, h1, h2⟩
      have hlt : t < 2 ^ zs.length := Nat.lt_pow_two_of_testBit _ fun i hi => by
        cases e : t.testBit i
        · rfl
        · have := h1 i e
          rw [Nat.testBit_two_pow_sub_one, decide_eq_true_eq] at this; omega
      refine ⟨t, hlt, (idB_iff h.sets (by omega) (by rw [pow_cast]; omega)).2 fun a b hb hz => ?_, rfl⟩
      rw [bit_cast] at hb ⊢
      exact h2 a b hb (by rw [Nat.testBit_two_pow_sub_one, decide_eq_true_eq]; exact bit_none hz) hz
    · rintro ⟨j, hj, hi, e⟩
      obtain rfl : j = t := by omega
      refine ⟨by omega, fun i hi2 => ?_, fun a b hb _ hz => ?_⟩
      · rw [Nat.testBit_two_pow_sub_one, decide_eq_true_eq]; exact bit_lt hj hi2
      · have := (idB_iff h.sets (by omega) (by rw [pow_cast]; omega)).1 hi a b (by rw [bit_cast]; exact hb) hz
        rwa [bit_cast] at this
  have hnd : (idealsR zs).Nodup := by
    unfold idealsR
    split
    · exact setsTo_nodup _ _
    · exact List.nodup_nil
  have h1 := inj_len (fun t : Nat => (t : Int)) (ids zs (2 ^ zs.length - 1)) (idealsR zs) (ids_nodup _ _) (fun t ht => (hm t).1 ht) (fun _ _ _ _ e => by omega)
  have h2 := inj_len (fun t : Int => t.toNat) (idealsR zs) (ids zs (2 ^ zs.length - 1)) hnd (fun t ht => by
    refine (hm t.toNat).2 ?_
    have h0 : 0 ≤ t := by
      unfold idealsR at ht
      rw [vo_true h, if_pos rfl, setsTo_mem] at ht
      obtain ⟨j, -, -, e⟩ := ht; omega
    rwa [Int.toNat_of_nonneg h0]) (fun x hx y hy e => by
    unfold idealsR at hx hy
    rw [vo_true h, if_pos rfl, setsTo_mem] at hx hy
    obtain ⟨j, -, -, e1⟩ := hx
    obtain ⟨j2, -, -, e2⟩ := hy
    omega)
  omega
end Go.Proofs.YtmlihbcffndnbabDoor

/- Even lattices are the ideals of their singles (mathematics). No program. -/
namespace Go.Proofs.YtmlihbcffndnbabDoor
set_option linter.unusedSectionVars false

theorem pop_one_fin : ∀ s : Fin 64, popI (s.val : Int) = 1 → ∀ a b : Fin 6, s.val.testBit a.val = true → s.val.testBit b.val = true → a = b := by decide +kernel
theorem pop_one {s : Int} (h0 : 0 ≤ s) (h1 : s < 64) (hp : popI s = 1) {a b : Nat} (ha : bitB s a = true) (hb : bitB s b = true) : a = b := by
  obtain ⟨s, rfl⟩ := Int.eq_ofNat_of_zero_le h0
  rw [bit_cast] at ha hb
  have h6 : s < 2 ^ 6 := by omega
  have := pop_one_fin ⟨s, h6⟩ hp ⟨a, bit_lt h6 ha⟩ ⟨b, bit_lt h6 hb⟩ ha hb
  exact congrArg Fin.val this
theorem pop_two_fin : ∀ s : Fin 64, popI (s.val : Int) ≠ 1 → s.val = 0 ∨ ∃ a b : Fin 6, a ≠ b ∧ s.val.testBit a.val = true ∧ s.val.testBit b.val = true := by decide +kernel
theorem pop_two {s : Int} (h0 : 0 ≤ s) (h1 : s < 64) (hp : popI s ≠ 1) : s = 0 ∨ ∃ a b : Nat, a ≠ b ∧ bitB s a = true ∧ bitB s b = true := by
  obtain ⟨s, rfl⟩ := Int.eq_ofNat_of_zero_le h0
  have h6 : s < 2 ^ 6 := by omega
  rcases pop_two_fin ⟨s, h6⟩ hp with e | ⟨a, b, hab, ha, hb⟩
  · left; exact congrArg _ e
  · refine .inr ⟨a.val, b.val, fun e => hab (Fin.ext e), ?_, ?_⟩
    · rw [bit_cast]; exact ha
    · rw [bit_cast]; exact hb
section
variable {zs : List Int} (h : VoP zs)
include h
theorem lt_at {a b : Nat} (hl : bitB (zs[a]?.getD 0) b = true) : bitB (atUp zs a) b = true := by rw [atUp_bit, hl]; rfl
theorem tops_small (a : Nat) : 0 ≤ topsTo zs ((du zs)[a]?.getD 0) zs.length ∧ topsTo zs ((du zs)[a]?.getD 0) zs.length < 64 := by
  have h1 := topsTo_bd zs ((du zs)[a]?.getD 0) zs.length
  have h2 := powI_le6 (n := (zs.length : Int)) (by have := h.1; omega)
  omega
/-- All below a single are at or below one item, which is below it. -/
theorem single_low {j : Nat} (hj : j < zs.length) (hs : snB zs j = true) : ∃ c : Nat, bitB (zs[c]?.getD 0) j = true ∧ ∀ x : Nat, bitB (zs[x]?.getD 0) j = true → bitB (atUp zs x) c = true := by
  unfold snB at hs
  rw [beq_iff_eq] at hs
  have hb := tops_small h j
  have hd1 : (du zs)[j]?.getD 0 < powI zs.length := by
    have := ((du_sets h.sets).2 j (by rw [du_len]; exact hj)).2
    rwa [du_len] at this
  have hex : ∃ c : Nat, bitB (topsTo zs ((du zs)[j]?.getD 0) zs.length) c = true := by
    refine Classical.byContradiction fun hn => ?_
    have : topsTo zs ((du zs)[j]?.getD 0) zs.length = 0 := bitB_ext hb.1 (by omega) fun i => by
      rw [bitB_zero]
      cases e : bitB (topsTo zs ((du zs)[j]?.getD 0) zs.length) i
      · rfl
      · exact absurd ⟨i, e⟩ hn
    rw [this] at hs
    exact absurd hs (by decide)
  obtain ⟨c, hc⟩ := hex
  refine ⟨c, by have := ((topsTo_bit c _).1 hc).2.1; rwa [du_bit h.sets] at this, fun x hx => ?_⟩
  obtain ⟨t, ht, e⟩ := top_over h hd1 _ x (Nat.le_refl _) (by rw [du_bit h.sets]; exact hx)
  obtain rfl := pop_one hb.1 hb.2 hs hc ht
  rcases e with rfl | e
  · exact at_self _ _
  · exact lt_at h e.2
/-- An item is told by the singles at or below it. -/
theorem singles_le (hn : 0 < zs.length) (h2 : JoinsOk zs) (h3 : JoinsOk (du zs)) : ∀ (m a b : Nat), rank zs a ≤ m → a < zs.length → b < zs.length →
    (∀ j : Nat, j < zs.length → snB zs j = true → bitB (atUp zs j) a = true → bitB (atUp zs j) b = true) → bitB (atUp zs a) b = true := fun m => by
  induction m using Nat.strongRecOn with
  | ind m ih =>
    intro a b hm ha hb hsub
    cases hs : snB zs a
    · have hbd := tops_small h a
      have hd1 : (du zs)[a]?.getD 0 < powI zs.length := by
        have := ((du_sets h.sets).2 a (by rw [du_len]; exact ha)).2
        rwa [du_len] at this
      have hlow : ∀ c : Nat, bitB (zs[c]?.getD 0) a = true → bitB (atUp zs c) b = true := fun c hc => by
        have hr := rank_lt h ⟨bit_none hc, hc⟩
        exact ih (rank zs c) (by omega) c b (Nat.le_refl _) (bit_none hc) hb fun j hj hsj hjc => hsub j hj hsj (at_trans h hjc (lt_at h hc))
      rcases pop_two hbd.1 hbd.2 (by unfold snB at hs; rw [beq_eq_false_iff_ne] at hs; exact hs) with e | ⟨c1, c2, hne, hc1, hc2⟩
      · obtain ⟨c, hc, hbot⟩ := lat_top (du_vo h) (by rw [du_len]; exact hn) h3
        rw [du_len] at hc hbot
        have hca := hbot a ha
        rw [at_du h.sets] at hca
        by_cases hca2 : c = a
        · subst hca2
          have := hbot b hb
          rwa [at_du h.sets] at this
        · exfalso
          have hlt := at_or hca (fun e => hca2 e.symm)
          obtain ⟨t, ht, -⟩ := top_over h hd1 _ c (Nat.le_refl _) (by rw [du_bit h.sets]; exact hlt)
          rw [e, bitB_zero] at ht
          cases ht
      · have t1 := (topsTo_bit c1 _).1 hc1
        have t2 := (topsTo_bit c2 _).1 hc2
        have l1 := t1.2.1
        have l2 := t2.2.1
        rw [du_bit h.sets] at l1 l2
        obtain ⟨v, hv, hch⟩ := join_char h h2 t1.1 t2.1
        have hva := (hch a).1 ⟨lt_at h l1, lt_at h l2⟩
        have hvb := (hch b).1 ⟨hlow c1 l1, hlow c2 l2⟩
        have hvv := (hch v).2 (at_self _ _)
        by_cases e : a = v
        · rw [e]; exact hvb
        · exfalso
          have hlt := at_or hva e
          have key : ∀ c : Nat, bitB (topsTo zs ((du zs)[a]?.getD 0) zs.length) c = true → bitB (atUp zs c) v = true → v = c := fun c hc hcv => by
            refine Classical.byContradiction fun hne2 => ?_
            have := andI_zero.1 ((topsTo_bit c _).1 hc).2.2 v (by rw [du_bit h.sets]; exact hlt)
            rw [at_or hcv hne2] at this
            cases this
          exact hne ((key c1 hc1 hvv.1).symm.trans (key c2 hc2 hvv.2))
    · exact hsub a ha hs (at_self _ _)
omit h in
/-- The join with its value. -/
theorem join_val {ds : List Int} (hd : VoP ds) (hj : JoinsOk ds) {a b : Nat} (ha : a < ds.length) (hb : b < ds.length) :
    ∃ c : Nat, joinI ds a b = (c : Int) ∧ c < ds.length ∧ ∀ i : Nat, (bitB (atUp ds a) i = true ∧ bitB (atUp ds b) i = true) ↔ bitB (atUp ds c) i = true := by
  have h0 := hj a ha b hb
  rcases jnI_cases (zs := ds) (s := upR ds a b) with ⟨e, _⟩ | ⟨c, e, hc, hb2⟩
  · exfalso
    have : joinI ds a b = -1 := e
    omega
  · unfold jnB at hb2
    rw [Bool.and_eq_true, beq_iff_eq] at hb2
    refine ⟨c, e, hc, fun i => ⟨fun hi => ?_, fun hi => ?_⟩⟩
    · refine lessI_none.1 hb2.2 i ?_
      unfold upR
      rw [bitB_and, Bool.and_eq_true]
      exact hi
    · have h1 := hb2.1
      unfold upR at h1
      rw [bitB_and, Bool.and_eq_true] at h1
      exact ⟨at_trans hd h1.1 hi, at_trans hd h1.2 hi⟩
/-- A single below a join is below one of the two. -/
theorem single_prime (h2 : JoinsOk zs) (h3 : JoinsOk (du zs)) (he : EvenAll zs) {j x y v : Nat} (hj : j < zs.length) (hs : snB zs j = true) (hx : x < zs.length) (hy : y < zs.length)
    (hv : joinI zs x y = (v : Int)) (hvn : v < zs.length) (hjv : bitB (atUp zs j) v = true) : bitB (atUp zs j) x = true ∨ bitB (atUp zs j) y = true := by
  have hl : (du zs).length = zs.length := du_len zs
  obtain ⟨p, ep, hp, cp⟩ := join_val (du_vo h) h3 (show j < (du zs).length by omega) (show x < (du zs).length by omega)
  obtain ⟨q, eq, hq, cq⟩ := join_val (du_vo h) h3 (show j < (du zs).length by omega) (show y < (du zs).length by omega)
  obtain ⟨m, em, hm, cm⟩ := join_val (du_vo h) h3 (show j < (du zs).length by omega) (show v < (du zs).length by omega)
  obtain ⟨r, er, hr, cr⟩ := join_val h h2 (show p < zs.length by omega) (show q < zs.length by omega)
  simp only [at_du h.sets] at cp cq cm
  have hg := he j hj x hx y hy
  unfold goesOver at hg
  rw [beq_iff_eq, hv, ep, eq, Int.toNat_natCast, Int.toNat_natCast, Int.toNat_natCast, em, er] at hg
  obtain rfl : m = r := by omega
  have hjm : j = m := at_asym h ((cm j).1 ⟨at_self _ _, hjv⟩) ((cm m).2 (at_self _ _)).1
  subst hjm
  refine Classical.byContradiction fun hn => ?_
  rw [not_or] at hn
  have p1 := (cp p).2 (at_self _ _)
  have q1 := (cq q).2 (at_self _ _)
  obtain ⟨c, hc, hall⟩ := single_low h hj hs
  have pj : j ≠ p := fun e => hn.1 (by have := p1.2; rwa [← e] at this)
  have qj : j ≠ q := fun e => hn.2 (by have := q1.2; rwa [← e] at this)
  have hjc := (cr c).1 ⟨hall p (at_or p1.1 pj), hall q (at_or q1.1 qj)⟩
  have := at_asym h hjc (lt_at h hc)
  subst this
  exact h.irr ⟨hj, hc⟩
theorem joins_prime (h2 : JoinsOk zs) (h3 : JoinsOk (du zs)) (he : EvenAll zs) (t : Nat) : ∀ k : Nat, k ≤ zs.length → (∀ a : Nat, a < k → t.testBit a = false) ∨
    ∃ c : Nat, c < zs.length ∧ (∀ a : Nat, a < k → t.testBit a = true → bitB (atUp zs a) c = true) ∧ ∀ j : Nat, j < zs.length → snB zs j = true → bitB (atUp zs j) c = true → ∃ a : Nat, a < k ∧ t.testBit a = true ∧ bitB (atUp zs j) a = true
  | 0, _ => .inl fun a ha => by omega
  | k + 1, hk => by
    have ih := joins_prime h2 h3 he t k (by omega)
    cases hb : t.testBit k
    · rcases ih with ih | ⟨c, hc, i1, i2⟩
      · refine .inl fun a ha => ?_
        by_cases e : a = k
        · subst e; exact hb
        · exact ih a (by omega)
      · refine .inr ⟨c, hc, fun a ha hs => ?_, fun j hj hs hjc => ?_⟩
        · by_cases e : a = k
          · subst e; rw [hb] at hs; cases hs
          · exact i1 a (by omega) hs
        · obtain ⟨a, ha, h5⟩ := i2 j hj hs hjc
          exact ⟨a, by omega, h5⟩
    · rcases ih with ih | ⟨c, hc, i1, i2⟩
      · refine .inr ⟨k, by omega, fun a ha hs => ?_, fun j hj hs hjc => ⟨k, by omega, hb, hjc⟩⟩
        by_cases e : a = k
        · subst e; exact at_self _ _
        · rw [ih a (by omega)] at hs; cases hs
      · obtain ⟨d, ed, hd, cd⟩ := join_val h h2 hc (show k < zs.length by omega)
        have hdd := (cd d).2 (at_self _ _)
        refine .inr ⟨d, hd, fun a ha hs => ?_, fun j hj hs hjd => ?_⟩
        · by_cases e : a = k
          · subst e; exact hdd.2
          · exact at_trans h (i1 a (by omega) hs) hdd.1
        · rcases single_prime h h2 h3 he hj hs hc (by omega) ed hd hjd with e | e
          · obtain ⟨a, ha, h5⟩ := i2 j hj hs e
            exact ⟨a, by omega, h5⟩
          · exact ⟨k, by omega, hb, e⟩
/-- The singles at or below an item. -/
def dnN (zs : List Int) (c : Nat) : Nat := (andI (snTo zs zs.length) (atUp (du zs) c)).toNat
def snN (zs : List Int) : Nat := (snTo zs zs.length).toNat
theorem snN_bit (j : Nat) : (snN zs).testBit j = (decide (j < zs.length) && snB zs j) := by
  unfold snN
  rw [← bit_nat (snTo_bd zs _).1, snTo_bit]
theorem dnN_bit (c j : Nat) : (dnN zs c).testBit j = ((decide (j < zs.length) && snB zs j) && bitB (atUp zs j) c) := by
  unfold dnN
  rw [← bit_nat (by unfold andI; omega), bitB_and, snTo_bit, at_du h.sets]
/-- Ideals of singles are as many as items. -/
theorem birk (hl : latB zs = true) (he : EvenAll zs) : (ids zs (snN zs)).length = zs.length := by
  obtain ⟨hn, h2, h3⟩ := latB_parts hl
  have hs64 : snN zs < 64 := by
    have h1 := snTo_bd zs zs.length
    have h2 := powI_le6 (n := (zs.length : Int)) (by have := h.1; omega)
    unfold snN
    omega
  have hid : ∀ c : Nat, IdP zs (snN zs) (dnN zs c) := fun c => ⟨fun j hj => by
    rw [dnN_bit h, Bool.and_eq_true] at hj
    rw [snN_bit h]; exact hj.1, fun a b hb ha hz => by
    rw [dnN_bit h, Bool.and_eq_true] at hb ⊢
    rw [snN_bit h] at ha
    exact ⟨ha, at_trans h (lt_at h hz) hb.2⟩⟩
  have k1 := inj_len (dnN zs) (List.range zs.length) (ids zs (snN zs)) List.nodup_range (fun c _ => mem_ids.2 ⟨idP_lt (hid c) hs64, hid c⟩) (fun a ha b hb e => by
    have ha' : a < zs.length := by simpa using ha
    have hb' : b < zs.length := by simpa using hb
    have key : ∀ x y : Nat, dnN zs x = dnN zs y → ∀ j : Nat, j < zs.length → snB zs j = true → bitB (atUp zs j) x = true → bitB (atUp zs j) y = true := fun x y e j hj hsj hjx => by
      have e1 := dnN_bit h x j
      have e2 := dnN_bit h y j
      rw [e, e2, decide_eq_true hj, hsj, hjx] at e1
      simpa using e1
    exact at_asym h (singles_le h hn h2 h3 _ a b (Nat.le_refl _) ha' hb' (key a b e)) (singles_le h hn h2 h3 _ b a (Nat.le_refl _) hb' ha' (key b a e.symm)))
  have k2 := inj_len (fun t : Nat => t) (ids zs (snN zs)) ((List.range zs.length).map (dnN zs)) (ids_nodup _ _) (fun t ht => by
    obtain ⟨-, ht⟩ := mem_ids.1 ht
    have hsn : ∀ j, t.testBit j = true → j < zs.length ∧ snB zs j = true := fun j hj => by
      have := ht.1 j hj
      rw [snN_bit h, Bool.and_eq_true, decide_eq_true_eq] at this
      exact this
    rw [List.mem_map]
    rcases joins_prime h h2 h3 he t zs.length (Nat.le_refl _) with g | ⟨c, hc, g1, g2⟩
    · obtain ⟨c, hc, hbot⟩ := lat_top (du_vo h) (by rw [du_len]; exact hn) h3
      rw [du_len] at hc hbot
      refine ⟨c, by simpa using hc, Nat.eq_of_testBit_eq fun j => ?_⟩
      have hf : t.testBit j = false := by
        cases e : t.testBit j
        · rfl
        · rw [g j (hsn j e).1] at e; cases e
      rw [hf, Bool.eq_false_iff]
      intro e
      rw [dnN_bit h, Bool.and_eq_true, Bool.and_eq_true, decide_eq_true_eq] at e
      obtain ⟨x, hx, -⟩ := single_low h e.1.1 e.1.2
      have hcj := hbot j e.1.1
      rw [at_du h.sets] at hcj
      have := at_asym h e.2 hcj
      subst this
      have hcx := hbot x (bit_none hx)
      rw [at_du h.sets] at hcx
      have := at_asym h hcx (lt_at h hx)
      subst this
      exact h.irr ⟨e.1.1, hx⟩
    · refine ⟨c, by simpa using hc, Nat.eq_of_testBit_eq fun j => ?_⟩
      rw [Bool.eq_iff_iff, dnN_bit h, Bool.and_eq_true, Bool.and_eq_true, decide_eq_true_eq]
      constructor
      · rintro ⟨⟨hj, hsj⟩, hjc⟩
        obtain ⟨a, ha, hta, hja⟩ := g2 j hj hsj hjc
        by_cases e : j = a
        · subst e; exact hta
        · exact ht.2 j a hta (by rw [snN_bit h, hsj, decide_eq_true hj]; rfl) (at_or hja (fun e2 => e e2.symm))
      · intro e
        exact ⟨hsn j e, g1 j (hsn j e).1 e⟩) (fun _ _ _ _ e => e)
  rw [List.length_map, List.length_range] at k2
  rw [List.length_range] at k1
  omega
end
end Go.Proofs.YtmlihbcffndnbabDoor

/- Parts of an order: what PartOf's and ValidOrder's own laws ask. No program. -/
namespace Go.Proofs.YtmlihbcffndnbabDoor

theorem left_all (n : Nat) : leftL n (2 ^ n - 1) = List.range n := by
  unfold leftL
  rw [List.filter_eq_self]
  intro a ha
  rw [Nat.testBit_two_pow_sub_one]
  simpa using ha
theorem ext_bits {xs ys : List Int} {n : Nat} (hx : xs.length = n) (hy : ys.length = n) (x0 : ∀ i, i < n → 0 ≤ xs[i]?.getD 0) (y0 : ∀ i, i < n → 0 ≤ ys[i]?.getD 0)
    (h : ∀ i j : Nat, i < n → bitB (xs[i]?.getD 0) j = bitB (ys[i]?.getD 0) j) : xs = ys := by
  refine List.ext_getElem? fun i => ?_
  rcases Nat.lt_or_ge i n with hi | hi
  · have e1 : xs[i]? = some (xs[i]?.getD 0) := by rw [List.getElem?_eq_getElem (by omega)]; rfl
    have e2 : ys[i]? = some (ys[i]?.getD 0) := by rw [List.getElem?_eq_getElem (by omega)]; rfl
    rw [e1, e2, bitB_ext (x0 i hi) (y0 i hi) (fun j => h i j hi)]
  · rw [List.getElem?_eq_none (by omega), List.getElem?_eq_none (by omega)]
theorem range_get {n i : Nat} (hi : i < n) : (List.range n)[i]?.getD 0 = i := by simp [hi]
theorem range_Inc (zs : List Int) : Inc zs (List.range zs.length) := ⟨range_inc _, fun a ha => by simpa using ha⟩
theorem ind_all {zs : List Int} (h : VoP zs) : ind zs (List.range zs.length) = zs := by
  have hi := range_Inc zs
  refine ext_bits (n := zs.length) (by rw [ind_len, List.length_range]) rfl (fun i hi' => ((ind_vo h hi).bd i (by rw [ind_len, List.length_range]; exact hi')).1) (fun i hi' => (h.bd i hi').1) fun i j hi' => ?_
  rw [Bool.eq_iff_iff, ind_bit (by rw [List.length_range]; exact hi'), List.length_range, range_get hi']
  constructor
  · rintro ⟨hj, e⟩; rwa [range_get hj] at e
  · intro e
    have hj : j < zs.length := bitB_lt (h.sets.2 i hi').2 e
    exact ⟨hj, by rw [range_get hj]; exact e⟩
theorem part_whole {zs : List Int} (h : VoP zs) : partR zs (powI zs.length - 1) = zs := by
  have hp := powI_pos (zs.length : Int)
  have e : (powI zs.length - 1).toNat = 2 ^ zs.length - 1 := by
    have : powI (zs.length : Int) = ((2 ^ zs.length : Nat) : Int) := by simp [powI]
    omega
  unfold partR
  rw [vo_true h, in_set h (by omega) (by omega), Bool.and_true, if_pos rfl, e, left_all, ind_all h]
theorem part_in {zs : List Int} {s : Int} (h : VoP zs) (h0 : 0 ≤ s) (h1 : s < powI zs.length) : partR zs s = ind zs (leftL zs.length s.toNat) := by
  unfold partR
  rw [vo_true h, in_set h h0 h1, Bool.and_true, if_pos rfl]
theorem part_vo {zs : List Int} {s : Int} (h : VoP zs) (h0 : 0 ≤ s) (h1 : s < powI zs.length) : VoP (partR zs s) := by
  rw [part_in h h0 h1]
  exact ind_vo h (leftL_inc zs _)
theorem vo_nil : VoP [] := ⟨by simp, fun a ha => by simp at ha, fun a ha => by simp at ha⟩
theorem part_vo' {zs : List Int} (h : VoP zs) (s : Int) : VoP (partR zs s) := by
  unfold partR
  split
  · exact ind_vo h (leftL_inc zs _)
  · exact vo_nil
theorem part_len {zs : List Int} {s : Int} (h : VoP zs) (h0 : 0 ≤ s) (h1 : s < powI zs.length) : ((partR zs s).length : Int) = popI s := by
  rw [part_in h h0 h1, ind_len]
  obtain ⟨k, rfl⟩ := Int.eq_ofNat_of_zero_le h0
  have hk : k < 2 ^ zs.length := by unfold powI at h1; simp at h1; exact_mod_cast h1
  rw [Int.toNat_natCast, left_pop h.1 hk]
theorem du_ind {zs : List Int} (h : VoP zs) {l : List Nat} (hl : Inc zs l) : ind (du zs) l = du (ind zs l) := by
  have hi := ind_vo h hl
  have hl2 : Inc (du zs) l := ⟨hl.inc, fun a ha => by rw [du_len]; exact hl.lt a ha⟩
  have hi2 := ind_vo (du_vo h) hl2
  have hd := du_vo hi
  refine ext_bits (n := l.length) (ind_len _ _) (by rw [du_len, ind_len]) (fun i hi' => (hi2.bd i (by rw [ind_len]; exact hi')).1) (fun i hi' => (hd.bd i (by rw [du_len, ind_len]; exact hi')).1) fun i j hi' => ?_
  rw [Bool.eq_iff_iff, ind_bit hi', du_bit h.sets, du_bit hi.sets]
  constructor
  · rintro ⟨hj, e⟩; exact (ind_bit hj).2 ⟨hi', e⟩
  · intro e
    have hj : j < l.length := by have := bit_none e; rwa [ind_len] at this
    exact ⟨hj, ((ind_bit hj).1 e).2⟩
theorem part_du {zs : List Int} {s : Int} (h : VoP zs) (h0 : 0 ≤ s) (h1 : s < powI zs.length) : partR (du zs) s = du (partR zs s) := by
  rw [part_in h h0 h1, part_in (du_vo h) h0 (by rw [du_len]; exact h1), du_len, du_ind h (leftL_inc zs _)]
/-! As many pairs at most. -/
theorem sum_sub {f g : Nat → Nat} : ∀ {l m : List Nat}, l.Sublist m → (∀ a ∈ l, f a ≤ g a) → (l.map f).sum ≤ (m.map g).sum
  | _, _, .slnil, _ => Nat.le_refl _
  | l, b :: m, .cons _ hs, hf => by
    have := sum_sub hs hf
    rw [List.map_cons, List.sum_cons]
    omega
  | a :: l, _ :: m, .cons_cons _ hs, hf => by
    have h1 := sum_sub hs (fun x hx => hf x (List.mem_cons_of_mem _ hx))
    have h2 := hf a (by simp)
    rw [List.map_cons, List.sum_cons, List.map_cons, List.sum_cons]
    omega
theorem cl_sub {r : Nat → Nat → Bool} {l m : List Nat} (h : l.Sublist m) : cl r l l ≤ cl r m m :=
  sum_sub h fun a _ => (h.filter (r a)).length_le
theorem get_range (l : List Nat) : (List.range l.length).map (fun i => l[i]?.getD 0) = l := by
  refine List.ext_getElem? fun i => ?_
  rcases Nat.lt_or_ge i l.length with hi | hi
  · rw [List.getElem?_map, List.getElem?_range hi, List.getElem?_eq_getElem hi, Option.map_some, List.getElem?_eq_getElem hi]; rfl
  · rw [List.getElem?_eq_none (by simpa using hi), List.getElem?_eq_none hi]
theorem map_at (l : List Nat) (f : Nat → Nat) : (List.range l.length).map (fun i => f (l[i]?.getD 0)) = l.map f := by
  conv => rhs; rw [← get_range l]
  rw [List.map_map]
  rfl
theorem filter_at (l : List Nat) (p : Nat → Bool) : ((List.range l.length).filter fun i => p (l[i]?.getD 0)).length = (l.filter p).length := by
  conv => rhs; rw [← get_range l]
  rw [List.filter_map, List.length_map]
  rfl
theorem prs_ind {zs : List Int} {l : List Nat} : prs (ind zs l) = cl (upB zs) l l := by
  unfold prs cl
  rw [ind_len, ← map_at l]
  congr 1
  refine List.map_congr_left fun i hi => ?_
  have hil : i < l.length := by simpa using hi
  rw [← filter_at l]
  congr 1
  refine List.filter_congr fun j hj => ?_
  have hjl : j < l.length := by simpa using hj
  unfold upB
  rw [Bool.eq_iff_iff, ind_bit hil]
  exact ⟨fun h => h.2, fun h => ⟨hjl, h⟩⟩
theorem part_pairs {zs : List Int} {s : Int} (h : VoP zs) (h0 : 0 ≤ s) (h1 : s < powI zs.length) : countR (partR zs s) ≤ countR zs := by
  have hv := part_vo h h0 h1
  unfold countR
  rw [vo_true h, vo_true hv]
  simp only [if_true]
  rw [popTo_prs h.sets, popTo_prs hv.sets, part_in h h0 h1, prs_ind]
  have : cl (upB zs) (leftL zs.length s.toNat) (leftL zs.length s.toNat) ≤ prs zs := cl_sub (List.filter_sublist ..)
  exact_mod_cast this
end Go.Proofs.YtmlihbcffndnbabDoor

/- Even lattices: turned round they are even; ideals of a part are ideals within its set. No program. -/
namespace Go.Proofs.YtmlihbcffndnbabDoor

theorem even_du {zs : List Int} (h : VoP zs) (hl : latB zs = true) (he : EvenAll zs) : EvenAll (du zs) := by
  obtain ⟨hn, h2, h3⟩ := latB_parts hl
  have hdl : (du zs).length = zs.length := du_len zs
  intro a ha b hb c hc
  rw [hdl] at ha hb hc
  unfold goesOver
  rw [du_du h]
  obtain ⟨m, em, hm, cm⟩ := join_val (du_vo h) h3 (show b < (du zs).length by omega) (show c < (du zs).length by omega)
  obtain ⟨x, ex, hx, cx⟩ := join_val h h2 ha hb
  obtain ⟨y, ey, hy, cy⟩ := join_val h h2 ha hc
  obtain ⟨w, ew, hw, cw⟩ := join_val h h2 ha (show m < zs.length by omega)
  obtain ⟨v, ev, hv, cv⟩ := join_val (du_vo h) h3 (show x < (du zs).length by omega) (show y < (du zs).length by omega)
  simp only [at_du h.sets] at cm cv
  rw [em, Int.toNat_natCast, ex, ey, Int.toNat_natCast, Int.toNat_natCast, ew, ev, beq_iff_eq]
  have xx := (cx x).2 (at_self _ _)
  have yy := (cy y).2 (at_self _ _)
  have ww := (cw w).2 (at_self _ _)
  have mm := (cm m).2 (at_self _ _)
  have h1 : bitB (atUp zs w) v = true := (cw v).1 ⟨(cv a).1 ⟨xx.1, yy.1⟩, (cv m).1 ⟨at_trans h mm.1 xx.2, at_trans h mm.2 yy.2⟩⟩
  have vv := (cv v).2 (at_self _ _)
  have h4 : bitB (atUp zs v) w = true := singles_le h hn h2 h3 _ v w (Nat.le_refl _) (by omega) hw fun j hj hs hjv => by
    rcases single_prime h h2 h3 he hj hs ha hb ex hx (at_trans h hjv vv.1) with k1 | k1
    · exact at_trans h k1 ww.1
    · rcases single_prime h h2 h3 he hj hs ha hc ey hy (at_trans h hjv vv.2) with k2 | k2
      · exact at_trans h k2 ww.1
      · exact at_trans h ((cm j).1 ⟨k1, k2⟩) ww.2
  exact congrArg _ (at_asym h h1 h4)
/-- A number of given bits. -/
def mkN (p : Nat → Bool) : Nat → Nat
  | 0 => 0
  | k + 1 => if p k then mkN p k ||| 2 ^ k else mkN p k
theorem mkN_bit (p : Nat → Bool) (j : Nat) : ∀ k : Nat, (mkN p k).testBit j = (decide (j < k) && p j)
  | 0 => by simp [mkN]
  | k + 1 => by
    have ih := mkN_bit p j k
    by_cases e : j = k
    · subst e
      cases hp : p j
      · simp [mkN, hp, ih]
      · simp [mkN, hp, ih, Nat.testBit_or]
    · have h1 : (j < k + 1) ↔ (j < k) := by omega
      have h2 : ¬ k = j := fun e2 => e e2.symm
      cases hp : p k
      · simp [mkN, hp, ih, h1]
      · simp [mkN, hp, ih, h1, Nat.testBit_or, h2]
theorem mem_left {n s a : Nat} : a ∈ leftL n s ↔ a < n ∧ s.testBit a = true := by simp [leftL]
theorem left_at {n s a : Nat} (h1 : a < n) (h2 : s.testBit a = true) : ∃ k : Nat, k < (leftL n s).length ∧ (leftL n s)[k]?.getD 0 = a := by
  obtain ⟨k, hk, e⟩ := List.getElem_of_mem (mem_left.2 ⟨h1, h2⟩)
  exact ⟨k, hk, by rw [List.getElem?_eq_getElem hk]; exact e⟩
theorem left_get {n s k : Nat} (hk : k < (leftL n s).length) : (leftL n s)[k]?.getD 0 < n ∧ s.testBit ((leftL n s)[k]?.getD 0) = true := by
  rw [List.getElem?_eq_getElem hk]
  exact mem_left.1 (List.getElem_mem hk)
theorem ids_ind {zs : List Int} (h : VoP zs) {s : Nat} (hs : s < 2 ^ zs.length) : (ids (ind zs (leftL zs.length s)) (2 ^ (leftL zs.length s).length - 1)).length = (ids zs s).length := by
  have h64 : (2 : Nat) ^ zs.length ≤ 64 := Nat.pow_le_pow_right (n := 2) (by decide) h.1
  have hi := leftL_inc zs s
  have hat : ∀ k, k < (leftL zs.length s).length → (leftL zs.length s)[k]?.getD 0 < zs.length ∧ s.testBit ((leftL zs.length s)[k]?.getD 0) = true := fun k hk => left_get hk
  have hof : ∀ a, s.testBit a = true → ∃ k : Nat, k < (leftL zs.length s).length ∧ (leftL zs.length s)[k]?.getD 0 = a := fun a ha => left_at (bit_lt hs ha) ha
  have hll := hi.len_le
  generalize leftL zs.length s = l at *
  have hl6 : l.length ≤ 6 := Nat.le_trans hll h.1
  have hm64 : (2 : Nat) ^ l.length ≤ 64 := Nat.pow_le_pow_right (n := 2) (by decide) hl6
  have hfull : ∀ j, (2 ^ l.length - 1).testBit j = true ↔ j < l.length := fun j => by rw [Nat.testBit_two_pow_sub_one, decide_eq_true_eq]
  have hex : ∀ t a, (ex l t).testBit a = true ↔ ∃ i, i < l.length ∧ t.testBit i = true ∧ l[i]?.getD 0 = a := fun t a => exTo_bit l t a l.length
  have k1 := inj_len (ex l) (ids (ind zs l) (2 ^ l.length - 1)) (ids zs s) (ids_nodup _ _) (fun t ht => by
    obtain ⟨-, ht⟩ := mem_ids.1 ht
    have hp : IdP zs s (ex l t) := by
      refine ⟨fun j hj => ?_, fun a b hb ha hz => ?_⟩
      · obtain ⟨i, hi1, -, e⟩ := (hex t j).1 hj
        rw [← e]; exact (hat i hi1).2
      · obtain ⟨i, hi1, hti, e⟩ := (hex t b).1 hb
        obtain ⟨k, hk, e2⟩ := hof a ha
        refine (hex t a).2 ⟨k, hk, ht.2 k i hti ((hfull k).2 hk) ((ind_bit hk).2 ⟨hi1, ?_⟩), e2⟩
        rw [e, e2]; exact hz
    exact mem_ids.2 ⟨idP_lt hp (by omega), hp⟩) (fun t ht t2 ht2 e => by
    obtain ⟨-, ht⟩ := mem_ids.1 ht
    obtain ⟨-, ht2⟩ := mem_ids.1 ht2
    refine Nat.eq_of_testBit_eq fun k => ?_
    by_cases hk : k < l.length
    · rw [← ex_at hi hk, ← ex_at hi hk, e]
    · have f : ∀ t, IdP (ind zs l) (2 ^ l.length - 1) t → t.testBit k = false := fun t ht => by
        cases e2 : t.testBit k
        · rfl
        · exact absurd ((hfull k).1 (ht.1 k e2)) hk
      rw [f t ht, f t2 ht2])
  have k2 := inj_len (fun u : Nat => mkN (fun k => u.testBit (l[k]?.getD 0)) l.length) (ids zs s) (ids (ind zs l) (2 ^ l.length - 1)) (ids_nodup _ _) (fun u hu => by
    obtain ⟨-, hu⟩ := mem_ids.1 hu
    have hp : IdP (ind zs l) (2 ^ l.length - 1) (mkN (fun k => u.testBit (l[k]?.getD 0)) l.length) := by
      refine ⟨fun j hj => ?_, fun a b hb ha hz => ?_⟩
      · rw [mkN_bit, Bool.and_eq_true, decide_eq_true_eq] at hj
        exact (hfull j).2 hj.1
      · rw [mkN_bit, Bool.and_eq_true, decide_eq_true_eq] at hb ⊢
        have hal := (hfull a).1 ha
        exact ⟨hal, hu.2 _ _ hb.2 (hat a hal).2 ((ind_bit hal).1 hz).2⟩
    exact mem_ids.2 ⟨idP_lt hp (by omega), hp⟩) (fun u hu u2 hu2 e => by
    obtain ⟨-, hu⟩ := mem_ids.1 hu
    obtain ⟨-, hu2⟩ := mem_ids.1 hu2
    have e : mkN (fun k => u.testBit (l[k]?.getD 0)) l.length = mkN (fun k => u2.testBit (l[k]?.getD 0)) l.length := e
    have key : ∀ k, k < l.length → u.testBit (l[k]?.getD 0) = u2.testBit (l[k]?.getD 0) := fun k hk => by
      have e1 := mkN_bit (fun k => u.testBit (l[k]?.getD 0)) k l.length
      have e2 := mkN_bit (fun k => u2.testBit (l[k]?.getD 0)) k l.length
      rw [e, e2, decide_eq_true hk] at e1
      simpa using e1.symm
    refine Nat.eq_of_testBit_eq fun a => ?_
    cases ha : s.testBit a
    · have f : ∀ u, IdP zs s u → u.testBit a = false := fun u hu => by
        cases e2 : u.testBit a
        · rfl
        · rw [hu.1 a e2] at ha; cases ha
      rw [f u hu, f u2 hu2]
    · obtain ⟨k, hk, rfl⟩ := hof a ha
      exact key k hk)
  omega
/-- The main theorem: as many ideals of the part of the singles as items. -/
theorem even_ideals {zs : List Int} (h : VoP zs) (hl : latB zs = true) (he : EvenAll zs) : countIdealsR (partR zs (snTo zs zs.length)) = zs.length := by
  have hb := snTo_bd zs zs.length
  have hpv := part_vo h hb.1 hb.2
  have hs : snN zs < 2 ^ zs.length := by
    have := pow_cast zs.length
    unfold snN
    omega
  have h64 : (2 : Nat) ^ (partR zs (snTo zs zs.length)).length ≤ 64 := Nat.pow_le_pow_right (n := 2) (by decide) hpv.1
  unfold countIdealsR
  rw [vo_true hpv, if_pos rfl, ciN_ids hpv 64 _ (by omega) (by omega), part_in h hb.1 hb.2, ind_len, ids_ind h (show (snTo zs zs.length).toNat < 2 ^ zs.length from hs)]
  exact congrArg _ (birk h hl he)
end Go.Proofs.YtmlihbcffndnbabDoor

/- Joins and meets: the model's. -/
namespace Go.Proofs.YtmlihbcffndnbabDoor
open Go.RowKit Go.Shelf
attribute [local go_sem] Oper.semAt_some
attribute [local go_sem, local simp] wide_fn

theorem quiet_zero_left {P : Program} {f : FuncId} {args : Array Value} {w : World} {n : Nat} {v : Value}
    (h : Calls P f args (w.drewN n) fun e w' => e = .returned v ∧ w.drewN n = w') :
    Calls P f args (w.drewN n) fun e w'' => e = .returned v ∧ ∃ m, w'' = w.drewN m :=
  h.mono fun _ _ ⟨he, hm⟩ => ⟨he, n, hm.symm⟩

set_option maxRecDepth 100000 in
set_option maxHeartbeats 400000 in
theorem supper_any (A : Option Addr) (n c B : Nat) (zs : List Int) (a b : Nat) (w : World) (h : Ints w B A n zs) (hv : Sets zs) (ha : a < n) (hb : b < n) :
    Calls Tryd.prog 55 #[.slice A n c, .int .i64 (a : Int), .int .i64 (b : Int)] w fun e w' => e = .returned (.int .i64 (upR zs a b)) ∧ ∃ m, w' = w.drewN m := by
  have hlen := Lib.hid h.len
  have hn6 : n ≤ 6 := by have := hv.1; rw [hlen.out] at this; exact this
  obtain ⟨bl, off, rfl, _, hc⟩ := h.at_ ha
  have hca := hc a ha
  have hcb := hc b hb
  clear hc
  have hza := hv.bd a (by rw [hlen.out]; exact ha)
  have hzb := hv.bd b (by rw [hlen.out]; exact hb)
  have hua := atUp_bd hv (a := a) (by rw [hlen.out]; exact ha)
  have hub := atUp_bd hv (a := b) (by rw [hlen.out]; exact hb)
  have hpn := powI_le6 (n := (zs.length : Int)) (by rw [hlen.out]; omega)
  have hpa := powI_le6 (n := (a : Int)) (by omega)
  have hpb := powI_le6 (n := (b : Int)) (by omega)
  have hp0 := powI_pos (a : Int)
  have hp1 := powI_pos (b : Int)
  have ho1 : bits .or .i64 (zs[a]?.getD 0) (powI a) = atUp zs a := bits_or (by omega) (by omega) (by omega) (by omega)
  have ho2 : bits .or .i64 (zs[b]?.getD 0) (powI b) = atUp zs b := bits_or (by omega) (by omega) (by omega) (by omega)
  have hand : bits .and .i64 (atUp zs a) (atUp zs b) = upR zs a b := bits_and (by omega) (by omega) (by omega) (by omega)
  have hqa := fun w => power_any (a : Int) w (by omega) (by omega)
  have hqb := fun w => power_any (b : Int) w (by omega) (by omega)
  generalize upR zs a b = u at *
  generalize atUp zs a = ua at *
  generalize atUp zs b = ub at *
  generalize powI (a : Int) = pa at *
  generalize powI (b : Int) = pb at *
  generalize zs[a]?.getD 0 = za at *
  generalize zs[b]?.getD 0 = zb at *
  clear hpa hpb hp0 hp1 hua hub hza hzb hpn
  go_enter Tryd.func55, Tryd.ntmps55
  go_wp2
  go_quiet ((go_at_call 53; first | (with_reducible exact quiet_zero_left (hqa _)) | exact quiet_zero_left (hqb _)))
  go_wp2
  go_ret
  exact ⟨rfl, _, rfl⟩

set_option maxHeartbeats 1000000 in
theorem sjoin_any (A : Option Addr) (n c B : Nat) (zs : List Int) (a b : Nat) (w : World) (h : Ints w B A n zs) (hv : Sets zs) (ha : a < n) (hb : b < n) :
    Calls Tryd.prog 33 #[.slice A n c, .int .i64 (a : Int), .int .i64 (b : Int)] w fun e w' => e = .returned (.int .i64 (joinI zs a b)) ∧ ∃ m, w' = w.drewN m := by
  have hlen := Lib.hid h.len
  have hn6 : n ≤ 6 := by have := hv.1; rw [hlen.out] at this; exact this
  have hub := upR_bd hv (a := a) (b := b) (by rw [hlen.out]; exact ha)
  have hpn := powI_le6 (n := (zs.length : Int)) (by rw [hlen.out]; omega)
  have Hj := Lib.hid (show joinI zs a b = jnI zs (upR zs a b) from rfl)
  have hup := supper_any A n c B zs a b w h hv ha hb
  rw [Hj.out]
  generalize upR zs a b = u at *
  go_enter Tryd.func33, Tryd.ntmps33
  go_wp2_with (go_at_call 55; refine hup.mono ?_; rintro e w' ⟨rfl, m0, rfl⟩)
  go_loopw [8] (fun i wr => ∃ k q : Nat, k ≤ n ∧ i = .int .i64 k ∧ (∀ j, j < k → jnB zs u j = false) ∧ wr = w.drewN q) (fun i _ => n - (intOf i).toNat)
  case atStart => exact ⟨0, m0, by omega, rfl, fun j hj => by omega, rfl⟩
  case round =>
    obtain ⟨k, q, hk, rfl, hno, rfl⟩ := hrel
    have Hno := Lib.hid hno
    clear hno
    by_cases hlt : k < n
    · obtain ⟨bl, off, rfl, _, hc⟩ := h.at_ hlt
      have hck := hc k hlt
      clear hc
      have hz := hv.bd k (by rw [hlen.out]; exact hlt)
      have hbk := atUp_bd hv (a := k) (by rw [hlen.out]; exact hlt)
      have hpk := powI_le6 (n := (k : Int)) (by omega)
      have hp0 := powI_pos (k : Int)
      have hqt := fun w => bit_any u (k : Int) w (by omega) (by omega) (by omega) (by omega)
      have hqk := fun w => power_any (k : Int) w (by omega) (by omega)
      have ho : bits .or .i64 (zs[k]?.getD 0) (powI k) = atUp zs k := bits_or (by omega) (by omega) (by omega) (by omega)
      have hle : bits .andNot .i64 u (atUp zs k) = lessI u (atUp zs k) := bits_less (by omega) (by omega) (by omega) (by omega)
      cases hb : bitB u k
      · have hbi : (bitI u k == 1) = false := by rw [bitI_one, hb]
        have Hn := Lib.hid (show jnB zs u k = false by unfold jnB; rw [hb]; rfl)
        go_wp2
        go_quiet ((first | (go_at_call 54; exact quiet_add_left (hqt _)) | (go_at_call 53; exact quiet_add_left (hqk _))))
        go_wp2
        go_roundw
        case rel => exact ⟨k + 1, _, by omega, by go_num, all_snoc Hno.out Hn.out, rfl⟩
        case measure => simp [intOf]; omega
      · have hbi : (bitI u k == 1) = true := by rw [bitI_one, hb]
        cases hl : (lessI u (atUp zs k) == 0)
        · have Hn := Lib.hid (show jnB zs u k = false by unfold jnB; rw [hb, hl]; rfl)
          go_wp2
          go_quiet ((first | (go_at_call 54; exact quiet_add_left (hqt _)) | (go_at_call 53; exact quiet_add_left (hqk _))))
          go_wp2
          go_roundw
          case rel => exact ⟨k + 1, _, by omega, by go_num, all_snoc Hno.out Hn.out, rfl⟩
          case measure => simp [intOf]; omega
        · have Hn := Lib.hid (jnI_at (zs := zs) (s := u) (c := k) (by rw [hlen.out]; exact hlt) (show jnB zs u k = true by unfold jnB; rw [hb, hl]; rfl) Hno.out)
          go_wp2
          go_quiet ((first | (go_at_call 54; exact quiet_add_left (hqt _)) | (go_at_call 53; exact quiet_add_left (hqk _))))
          go_wp2
          go_ret
          exact ⟨ret_int Hn.out.symm, _, World.drewN_drewN ..⟩
    · obtain rfl : k = n := by omega
      have Hn := Lib.hid (jnI_none (zs := zs) (s := u) (by rw [hlen.out]; exact Hno.out))
      go_wp2
      go_ret
      exact ⟨ret_int Hn.out.symm, _, rfl⟩
end Go.Proofs.YtmlihbcffndnbabDoor

/- IsLattice: the model's. -/
namespace Go.Proofs.YtmlihbcffndnbabDoor
open Go.RowKit Go.Shelf
attribute [local go_sem] Oper.semAt_some
attribute [local go_sem, local simp] wide_fn

set_option maxHeartbeats 2000000 in
theorem sisLat_any (A : Option Addr) (n c : Nat) (zs : List Int) (w : World) (h : Ints w w.heap.size A n zs) (hvo : VoP zs) :
    Calls Tryd.prog 39 #[.slice A n c] w fun e w' => e = .returned (.bool (latB zs)) ∧ Below w.heap.size w w' := by
  have hlen := Lib.hid h.len
  have hn6 : n ≤ 6 := by have := hvo.1; rw [hlen.out] at this; exact this
  have Hd := Lib.hid (show downP n (pairsL zs) = du zs by unfold du; rw [hlen.out])
  have hds := du_sets hvo.sets
  go_enter Tryd.func39, Tryd.ntmps39
  go_wp2_with fail
  refine (downOf_any _ _ _ zs _ h hvo.sets).mono ?_
  rintro e w2 ⟨rfl, hA2, hB2⟩
  rw [Hd.out] at hA2
  have hD : Ints w2 w2.heap.size (some ⟨w.heap.size, 0, none⟩) n (du zs) := hA2.ints' hA2.lt (by rw [du_len, hlen.out])
  have hU := h.to hB2 (Nat.le_refl _) hB2.size
  clear hA2
  go_wp2_with fail
  go_loopw [4] (fun i wr => ∃ k q : Nat, k ≤ n ∧ i = .int .i64 k ∧ (∀ a, a < k → ∀ b, b < a → 0 ≤ joinI zs a b ∧ 0 ≤ joinI (du zs) a b) ∧ wr = w2.drewN q) (fun i _ => n - (intOf i).toNat)
  case atStart => exact ⟨0, 0, by omega, rfl, fun a ha => by omega, rfl⟩
  case round =>
    obtain ⟨k, q, hk, rfl, hall, rfl⟩ := hrel
    have Hall := Lib.hid hall
    clear hall
    by_cases hlt : k < n
    · go_wp2
      go_loopw [5] (fun i wr => ∃ j q : Nat, j ≤ k ∧ i = .int .i64 j ∧ (∀ b, b < j → 0 ≤ joinI zs k b ∧ 0 ≤ joinI (du zs) k b) ∧ wr = w2.drewN q) (fun i _ => k - (intOf i).toNat)
      case atStart => exact ⟨0, q, by omega, rfl, fun a ha => by omega, rfl⟩
      case round =>
        obtain ⟨j, q, hj, rfl, hrow, rfl⟩ := hrel
        have Hrow := Lib.hid hrow
        clear hrow
        by_cases hjk : j < k
        · by_cases h1 : joinI zs k j < 0
          · have HF := Lib.hid (lattice_not (zs := zs) (ds := zs) (a := k) (b := j) (.inl rfl) (by rw [hlen.out]; exact hlt) (by rw [hlen.out]; omega) h1)
            have hd1 : decide (joinI zs k j < 0) = true := decide_eq_true h1
            clear h1
            go_wp2_with fail
            refine (sjoin_any A n c _ zs k j _ (hU.drewN q) hvo.sets (by omega) (by omega)).mono ?_
            rintro e w3 ⟨rfl, m3, rfl⟩
            go_wp2_with fail
            go_ret
            exact ⟨ret_bool HF.out.symm, below_drewN hB2 _⟩
          · have hd1 : decide (joinI zs k j < 0) = false := decide_eq_false h1
            by_cases h2 : joinI (du zs) k j < 0
            · have HF := Lib.hid (lattice_not (zs := zs) (ds := du zs) (a := k) (b := j) (.inr rfl) (by rw [hlen.out]; exact hlt) (by rw [hlen.out]; omega) h2)
              have hd2 : decide (joinI (du zs) k j < 0) = true := decide_eq_true h2
              clear h1 h2
              go_wp2_with fail
              refine (sjoin_any A n c _ zs k j _ (hU.drewN q) hvo.sets (by omega) (by omega)).mono ?_
              rintro e w3 ⟨rfl, m3, rfl⟩
              go_wp2_with fail
              refine (sjoin_any _ n _ _ (du zs) k j _ (hD.drewN _) hds (by omega) (by omega)).mono ?_
              rintro e w4 ⟨rfl, m4, rfl⟩
              go_wp2_with fail
              go_ret
              exact ⟨ret_bool HF.out.symm, below_drewN hB2 _⟩
            · have hd2 : decide (joinI (du zs) k j < 0) = false := decide_eq_false h2
              have Hn := Lib.hid (show 0 ≤ joinI zs k j ∧ 0 ≤ joinI (du zs) k j by omega)
              clear h1 h2
              go_wp2_with fail
              refine (sjoin_any A n c _ zs k j _ (hU.drewN q) hvo.sets (by omega) (by omega)).mono ?_
              rintro e w3 ⟨rfl, m3, rfl⟩
              go_wp2_with fail
              refine (sjoin_any _ n _ _ (du zs) k j _ (hD.drewN _) hds (by omega) (by omega)).mono ?_
              rintro e w4 ⟨rfl, m4, rfl⟩
              go_wp2_with fail
              go_roundw
              case rel => exact ⟨j + 1, _, by omega, by go_num, all_snoc Hrow.out Hn.out, rfl⟩
              case measure => simp [intOf]; omega
        · obtain rfl : j = k := by omega
          go_wp2
          go_roundw
          case rel => exact ⟨j + 1, q, by omega, by go_num, all_snoc Hall.out Hrow.out, rfl⟩
          case measure => simp [intOf]; omega
    · obtain rfl : k = n := by omega
      have HF := Lib.hid (lattice_is (zs := zs) (joins_half fun a ha b hb => (Hall.out a (by rw [← hlen.out]; exact ha) b hb).1) (joins_half fun a ha b hb => (Hall.out a (by rw [du_len, hlen.out] at ha; exact ha) b hb).2))
      rw [hlen.out] at HF
      go_wp2
      go_ret
      exact ⟨ret_bool (by rw [HF.out]), below_drewN hB2 _⟩

theorem specIsLatticeF_any (A : Option Addr) (n c : Nat) (zs : List Int) (w : World) (h : Ints w w.heap.size A n zs) (hbig : n ≤ 1152921504606846976) :
    Calls Tryd.prog 17 #[.slice A n c] w fun e w' => e = .returned (.bool (latR zs)) ∧ Below w.heap.size w w' := by
  have hlen := Lib.hid h.len
  cases hv : vo zs
  · have Ht := Lib.hid (show latR zs = false by unfold latR; rw [hv]; rfl)
    go_enter Tryd.func17, Tryd.ntmps17
    go_wp2_with fail
    refine (validOrder_any _ _ _ _ zs _ h hbig).mono ?_
    rw [hv]
    rintro e w' ⟨rfl, m, rfl⟩
    go_wp2_with fail
    go_ret
    exact ⟨ret_bool Ht.out.symm, below_drewN (Below.refl _ _) _⟩
  · have hvo : VoP zs := by simpa [vo] using hv
    have Ht := Lib.hid (show latR zs = latB zs by unfold latR; rw [hv]; rfl)
    go_enter Tryd.func17, Tryd.ntmps17
    go_wp2_with fail
    refine (validOrder_any _ _ _ _ zs _ h hbig).mono ?_
    rw [hv]
    rintro e w1 ⟨rfl, m, hm⟩
    have hB : Below w.heap.size w w1 := by rw [hm]; exact below_drewN (Below.refl _ _) _
    have hI := h.to hB (Nat.le_refl _) hB.size
    clear hm hv
    go_wp2_with fail
    refine (sisLat_any A n c zs w1 hI hvo).mono ?_
    rintro e w2 ⟨rfl, hB2⟩
    go_wp2_with fail
    go_ret
    exact ⟨ret_bool Ht.out.symm, hB.trans (hB2.mono hB.size)⟩
end Go.Proofs.YtmlihbcffndnbabDoor

/- IsEven: the model's. -/
namespace Go.Proofs.YtmlihbcffndnbabDoor
open Go.RowKit Go.Shelf
attribute [local go_sem] Oper.semAt_some
attribute [local go_sem, local simp] wide_fn

set_option maxRecDepth 100000 in
set_option maxHeartbeats 4000000 in
theorem specIsEvenF_any (A : Option Addr) (n c0 : Nat) (zs : List Int) (w : World) (h : Ints w w.heap.size A n zs) (hbig : n ≤ 1152921504606846976) :
    Calls Tryd.prog 19 #[.slice A n c0] w fun e w' => e = .returned (.bool (evenR zs)) ∧ Below w.heap.size w w' := by
  have hlen := Lib.hid h.len
  cases hv : vo zs
  · have Ht := Lib.hid (show evenR zs = false by unfold evenR latR; rw [hv]; rfl)
    go_enter Tryd.func19, Tryd.ntmps19
    go_wp2_with fail
    refine (validOrder_any _ _ _ _ zs _ h hbig).mono ?_
    rw [hv]
    rintro e w' ⟨rfl, m, rfl⟩
    go_wp2_with fail
    go_ret
    exact ⟨ret_bool Ht.out.symm, below_drewN (Below.refl _ _) _⟩
  · have hvo : VoP zs := by simpa [vo] using hv
    have hn6 : n ≤ 6 := by have := hvo.1; rw [hlen.out] at this; exact this
    have Hv := Lib.hid hv
    cases hl : latB zs
    · have Ht := Lib.hid (show evenR zs = false by unfold evenR latR; rw [hv, hl]; rfl)
      have Hl := Lib.hid hl
      clear hv hl
      go_enter Tryd.func19, Tryd.ntmps19
      go_wp2_with fail
      refine (validOrder_any _ _ _ _ zs _ h hbig).mono ?_
      rw [Hv.out]
      rintro e w1 ⟨rfl, m, hm⟩
      have hB : Below w.heap.size w w1 := by rw [hm]; exact below_drewN (Below.refl _ _) _
      have hI := h.to hB (Nat.le_refl _) hB.size
      clear hm
      go_wp2_with fail
      refine (sisLat_any A n c0 zs w1 hI hvo).mono ?_
      rw [Hl.out]
      rintro e w2 ⟨rfl, hB2⟩
      go_wp2_with fail
      go_ret
      exact ⟨ret_bool Ht.out.symm, hB.trans (hB2.mono hB.size)⟩
    · have hlt : latR zs = true := by unfold latR; rw [hv, hl]; rfl
      obtain ⟨_, hn0, hj1, hj2⟩ := lat_parts hlt
      have Ht := Lib.hid (show evenR zs = decide (EvenAll zs) by unfold evenR; rw [hlt]; rfl)
      have Hl := Lib.hid hl
      have Hd := Lib.hid (show downP n (pairsL zs) = du zs by unfold du; rw [hlen.out])
      have hds := du_sets hvo.sets
      have Hj1 := Lib.hid hj1
      have Hj2 := Lib.hid hj2
      have Hdl := Lib.hid (show (du zs).length = n by rw [du_len, hlen.out])
      clear hv hl hlt hj1 hj2
      go_enter Tryd.func19, Tryd.ntmps19
      go_wp2_with fail
      refine (validOrder_any _ _ _ _ zs _ h hbig).mono ?_
      rw [Hv.out]
      rintro e w1 ⟨rfl, m, hm⟩
      have hB : Below w.heap.size w w1 := by rw [hm]; exact below_drewN (Below.refl _ _) _
      have hI := h.to hB (Nat.le_refl _) hB.size
      clear hm
      go_wp2_with fail
      refine (sisLat_any A n c0 zs w1 hI hvo).mono ?_
      rw [Hl.out]
      rintro e w2 ⟨rfl, hB2⟩
      have z2 := hB2.size
      have C2 := hB.trans (hB2.mono hB.size)
      have hI2 := hI.to hB2 (Nat.le_refl _) z2
      clear hB hB2 hI
      go_wp2_with fail
      refine (downOf_any _ _ _ zs _ hI2 hvo.sets).mono ?_
      rintro e w3 ⟨rfl, hA3, hB3⟩
      rw [Hd.out] at hA3
      have hD : Ints w3 w3.heap.size (some ⟨w2.heap.size, 0, none⟩) n (du zs) := hA3.ints' hA3.lt Hdl.out
      have hU := hI2.to hB3 (Nat.le_refl _) hB3.size
      have C3 := C2.trans (hB3.mono C2.size)
      clear hA3 hB3 hI2 C2
      go_wp2_with fail
      go_loopw [4] (fun i wr => ∃ k q : Nat, k ≤ n ∧ i = .int .i64 k ∧ (∀ a, a < k → ∀ b, b < n → ∀ c, c < n → goesOver zs a b c = true) ∧ wr = w3.drewN q) (fun i _ => n - (intOf i).toNat)
      case atStart => exact ⟨0, 0, by omega, rfl, fun a ha => by omega, rfl⟩
      case round =>
        obtain ⟨a, q, ha, rfl, hall, rfl⟩ := hrel
        have Hall := Lib.hid hall
        clear hall
        by_cases han : a < n
        · go_wp2
          go_loopw [5] (fun i wr => ∃ k q : Nat, k ≤ n ∧ i = .int .i64 k ∧ (∀ b, b < k → ∀ c, c < n → goesOver zs a b c = true) ∧ wr = w3.drewN q) (fun i _ => n - (intOf i).toNat)
          case atStart => exact ⟨0, q, by omega, rfl, fun a ha => by omega, rfl⟩
          case round =>
            obtain ⟨b, q, hb, rfl, hall2, rfl⟩ := hrel
            have Hall2 := Lib.hid hall2
            clear hall2
            by_cases hbn : b < n
            · obtain ⟨m1, hm1, hm1n⟩ := joins_at Hj2.out Hdl.out han hbn
              have Hm1 := Lib.hid hm1
              clear hm1
              go_wp2
              go_loopw [6] (fun i wr => ∃ k q : Nat, k ≤ n ∧ i = .int .i64 k ∧ (∀ c, c < k → goesOver zs a b c = true) ∧ wr = w3.drewN q) (fun i _ => n - (intOf i).toNat)
              case atStart => exact ⟨0, q, by omega, rfl, fun a ha => by omega, rfl⟩
              case round =>
                obtain ⟨c, q, hc, rfl, hall3, rfl⟩ := hrel
                have Hall3 := Lib.hid hall3
                clear hall3
                by_cases hcn : c < n
                · obtain ⟨j, hj, hjn⟩ := joins_at Hj1.out hlen.out hbn hcn
                  obtain ⟨m2, hm2, hm2n⟩ := joins_at Hj2.out Hdl.out han hcn
                  have Hj := Lib.hid hj
                  have Hm2 := Lib.hid hm2
                  clear hj hm2
                  obtain ⟨x, hx⟩ : ∃ x, joinI (du zs) a j = x := ⟨_, rfl⟩
                  obtain ⟨y, hy⟩ : ∃ y, joinI zs m1 m2 = y := ⟨_, rfl⟩
                  have Hx := Lib.hid hx
                  have Hy := Lib.hid hy
                  have Hg := Lib.hid (show goesOver zs a b c = (x == y) by unfold goesOver; rw [Hj.out, Hm1.out, Hm2.out, Int.toNat_natCast, Int.toNat_natCast, Int.toNat_natCast, hx, hy])
                  clear hx hy
                  cases hxy : (x == y)
                  · have hne : (x != y) = true := by rw [bne, hxy]; rfl
                    have HF := Lib.hid (show evenR zs = false by rw [Ht.out]; exact decide_eq_false (fun hev => by have := hev a (by rw [hlen.out]; exact han) b (by rw [hlen.out]; exact hbn) c (by rw [hlen.out]; exact hcn); rw [Hg.out, hxy] at this; cases this))
                    clear hxy
                    go_wp2_with fail
                    refine (sjoin_any A n c0 _ zs b c _ (hU.drewN _) hvo.sets (by omega) (by omega)).mono ?_
                    rw [Hj.out]
                    rintro e u0 ⟨rfl, p0, rfl⟩
                    go_wp2_with fail
                    refine (sjoin_any _ n _ _ (du zs) a j _ (hD.drewN _) hds (by omega) (by omega)).mono ?_
                    rw [Hx.out]
                    rintro e u1 ⟨rfl, p1, rfl⟩
                    go_wp2_with fail
                    refine (sjoin_any _ n _ _ (du zs) a b _ (hD.drewN _) hds (by omega) (by omega)).mono ?_
                    rw [Hm1.out]
                    rintro e u2 ⟨rfl, p2, rfl⟩
                    go_wp2_with fail
                    refine (sjoin_any _ n _ _ (du zs) a c _ (hD.drewN _) hds (by omega) (by omega)).mono ?_
                    rw [Hm2.out]
                    rintro e u3 ⟨rfl, p3, rfl⟩
                    go_wp2_with fail
                    refine (sjoin_any A n c0 _ zs m1 m2 _ (hU.drewN _) hvo.sets (by omega) (by omega)).mono ?_
                    rw [Hy.out]
                    rintro e u4 ⟨rfl, p4, rfl⟩
                    go_wp2_with fail
                    go_ret
                    exact ⟨ret_bool HF.out.symm, below_drewN C3 _⟩
                  · have hne : (x != y) = false := by rw [bne, hxy]; rfl
                    have Hn := Lib.hid (show goesOver zs a b c = true by rw [Hg.out, hxy])
                    clear hxy
                    go_wp2_with fail
                    refine (sjoin_any A n c0 _ zs b c _ (hU.drewN _) hvo.sets (by omega) (by omega)).mono ?_
                    rw [Hj.out]
                    rintro e u0 ⟨rfl, p0, rfl⟩
                    go_wp2_with fail
                    refine (sjoin_any _ n _ _ (du zs) a j _ (hD.drewN _) hds (by omega) (by omega)).mono ?_
                    rw [Hx.out]
                    rintro e u1 ⟨rfl, p1, rfl⟩
                    go_wp2_with fail
                    refine (sjoin_any _ n _ _ (du zs) a b _ (hD.drewN _) hds (by omega) (by omega)).mono ?_
                    rw [Hm1.out]
                    rintro e u2 ⟨rfl, p2, rfl⟩
                    go_wp2_with fail
                    refine (sjoin_any _ n _ _ (du zs) a c _ (hD.drewN _) hds (by omega) (by omega)).mono ?_
                    rw [Hm2.out]
                    rintro e u3 ⟨rfl, p3, rfl⟩
                    go_wp2_with fail
                    refine (sjoin_any A n c0 _ zs m1 m2 _ (hU.drewN _) hvo.sets (by omega) (by omega)).mono ?_
                    rw [Hy.out]
                    rintro e u4 ⟨rfl, p4, rfl⟩
                    go_wp2_with fail
                    go_roundw
                    case rel => exact ⟨c + 1, _, by omega, by go_num, all_snoc Hall3.out Hn.out, rfl⟩
                    case measure => simp [intOf]; omega
                · obtain rfl : c = n := by omega
                  go_wp2
                  go_roundw
                  case rel => exact ⟨b + 1, q, by omega, by go_num, all_snoc Hall2.out Hall3.out, rfl⟩
                  case measure => simp [intOf]; omega
            · obtain rfl : b = n := by omega
              go_wp2
              go_roundw
              case rel => exact ⟨a + 1, q, by omega, by go_num, all_snoc Hall.out Hall2.out, rfl⟩
              case measure => simp [intOf]; omega
        · obtain rfl : a = n := by omega
          have HF := Lib.hid (show evenR zs = true by rw [Ht.out]; exact decide_eq_true (by unfold EvenAll; rw [hlen.out]; exact Hall.out))
          go_wp2
          go_ret
          exact ⟨ret_bool HF.out.symm, below_drewN C3 _⟩
end Go.Proofs.YtmlihbcffndnbabDoor

/- SinglesOf: the model's and the program's. -/
namespace Go.Proofs.YtmlihbcffndnbabDoor
open Go.RowKit Go.Shelf
attribute [local go_sem] Oper.semAt_some
attribute [local go_sem, local simp] wide_fn

set_option maxHeartbeats 1000000 in
theorem osingles_any (A : Option Addr) (n c : Nat) (zs : List Int) (hvo : VoP zs) (w : World) (h : Ints w w.heap.size A n zs) :
    Calls Tryd.prog 52 #[.slice A n c] w fun e w' => e = .returned (.int .i64 (snTo zs n)) ∧ Below w.heap.size w w' := by
  have hlen := Lib.hid h.len
  have hn6 : n ≤ 6 := by have := hvo.1; rw [hlen.out] at this; exact this
  have Hd := Lib.hid (show downP n (pairsL zs) = du zs by unfold du; rw [hlen.out])
  have hds := du_sets hvo.sets
  have Hdl := Lib.hid (show (du zs).length = n by rw [du_len, hlen.out])
  go_enter Tryd.func52, Tryd.ntmps52
  go_wp2_with fail
  refine (dual_any A n c zs hvo.sets w h).mono ?_
  rintro e w2 ⟨rfl, hA2, hB2⟩
  rw [Hd.out] at hA2
  go_wp2_with fail
  go_loopw [3, 9] (fun t i wr => ∃ k : Nat, k ≤ n ∧ i = .int .i64 k ∧ t = .int .i64 (snTo zs k) ∧ Below w2.heap.size w2 wr) (fun _ i _ => n - (intOf i).toNat)
  case atStart => exact ⟨0, by omega, rfl, rfl, Below.refl _ _⟩
  case round =>
    obtain ⟨k, hk, rfl, rfl, hBr⟩ := hrel
    have zr := hBr.size
    have z2 := hB2.size
    by_cases hlt : k < n
    · have hAr := hA2.below hBr hA2.lt
      have hck := hAr.cell (k := k) (by rw [Hdl.out]; exact hlt)
      have hz := hds.2 k (by rw [Hdl.out]; exact hlt)
      rw [Hdl.out] at hz
      have hI : Ints wr wr.heap.size A n zs := h.to (hB2.trans (hBr.mono z2)) (Nat.le_refl _) (by omega)
      have htb := topsTo_bd zs ((du zs)[k]?.getD 0) n
      have hpn := powI_le6 (n := (n : Int)) (by omega)
      have hsb := snTo_bd zs k
      have hpk := powI_le6 (n := (k : Int)) (by omega)
      have Hs := Lib.hid (show snB zs k = (popI (topsTo zs ((du zs)[k]?.getD 0) n) == 1) by unfold snB; rw [hlen.out])
      cases hs : snB zs k
      · have Hn := Lib.hid (snTo_no hs)
        have hbe : (popI (topsTo zs ((du zs)[k]?.getD 0) n) == 1) = false := by rw [← Hs.out, hs]
        go_wp2_with fail
        refine (tops_any A n c zs _ hvo.sets _ hI hz.1 hz.2).mono ?_
        rintro e w3 ⟨rfl, hB3⟩
        go_wp2_with fail
        refine (size_any _ _ (by omega) (by omega)).mono ?_
        rintro e w4 ⟨rfl, rfl⟩
        go_wp2_with fail
        go_roundw
        case rel => exact ⟨k + 1, by omega, by go_num, by rw [Hn.out], hBr.trans (hB3.mono zr)⟩
        case measure => simp [intOf]; omega
      · have Hn := Lib.hid (snTo_yes hs)
        have hbe : (popI (topsTo zs ((du zs)[k]?.getD 0) n) == 1) = true := by rw [← Hs.out, hs]
        go_wp2_with fail
        refine (tops_any A n c zs _ hvo.sets _ hI hz.1 hz.2).mono ?_
        rintro e w3 ⟨rfl, hB3⟩
        go_wp2_with fail
        refine (size_any _ _ (by omega) (by omega)).mono ?_
        rintro e w4 ⟨rfl, rfl⟩
        go_wp2_with fail
        refine (with_any _ _ _ hsb.1 (by omega) (by omega) (by omega)).mono ?_
        rintro e w5 ⟨rfl, rfl⟩
        go_wp2_with fail
        go_roundw
        case rel => exact ⟨k + 1, by omega, by go_num, by rw [Hn.out], hBr.trans (hB3.mono zr)⟩
        case measure => simp [intOf]; omega
    · obtain rfl : k = n := by omega
      go_wp2
      go_ret
      exact ⟨rfl, hB2.trans (hBr.mono z2)⟩

theorem SinglesOf_any (A : Option Addr) (n c : Nat) (zs : List Int) (w : World) (h : Ints w w.heap.size A n zs) (hbig : n ≤ 1152921504606846976) :
    Calls Tryd.prog 30 #[.slice A n c] w fun e w' => e = .returned (.int .i64 (singlesR zs)) ∧ Below w.heap.size w w' := by
  have hlen := Lib.hid h.len
  cases hv : vo zs
  · have Ht := Lib.hid (show singlesR zs = -1 by unfold singlesR; rw [hv]; rfl)
    have Hv := Lib.hid hv
    clear hv
    go_enter Tryd.func30, Tryd.ntmps30
    go_wp2_with fail
    refine (readOrder_any _ _ _ zs _ h hbig).mono ?_
    rintro e w' ⟨hB, (⟨hv, b, rfl, _, _⟩ | ⟨_, rfl⟩)⟩
    · rw [Hv.out] at hv; cases hv
    · go_wp2_with fail
      go_ret
      exact ⟨ret_int Ht.out.symm, hB⟩
  · have hvo : VoP zs := by simpa [vo] using hv
    have Ht := Lib.hid (show singlesR zs = snTo zs n by unfold singlesR; rw [hv, hlen.out]; rfl)
    have Hv := Lib.hid hv
    clear hv
    go_enter Tryd.func30, Tryd.ntmps30
    go_wp2_with fail
    refine (readOrder_any _ _ _ zs _ h hbig).mono ?_
    rintro e w1 ⟨hB, (⟨_, b, rfl, hb, hAr⟩ | ⟨hv, _⟩)⟩
    · have z1 := hB.size
      go_wp2_with fail
      refine (osingles_any _ _ _ zs hvo _ (hAr.ints' hAr.lt hlen.out)).mono ?_
      rintro e w2 ⟨rfl, hB2⟩
      go_wp2_with fail
      go_ret
      exact ⟨ret_int Ht.out.symm, hB.trans (hB2.mono z1)⟩
    · rw [Hv.out] at hv; cases hv
end Go.Proofs.YtmlihbcffndnbabDoor

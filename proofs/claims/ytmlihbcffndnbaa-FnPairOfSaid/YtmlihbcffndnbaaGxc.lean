/- Texts that several claims share, one behind the other. -/
import Derived.Test.YtmlihbcffndnbaaGxa
import Derived.Test.YtmlihbcffndnbaaCnt
import Derived.Test.YtmlihbcffndnbaaGa
import Derived.Test.YtmlihbcffndnbaaGb
set_option linter.unusedVariables false
set_option linter.unusedSimpArgs false
/- IsChain and IsApart: the model's and the program's. -/
namespace Go.Proofs.Ytmlihbcffndnbaa
open Go.RowKit

def isChainR (zs : List Int) (s : Int) : Bool := (vo zs && inB s 0 (powI zs.length - 1)) && chB zs s
def isApartR (zs : List Int) (s : Int) : Bool := (vo zs && inB s 0 (powI zs.length - 1)) && apB zs s

end Go.Proofs.Ytmlihbcffndnbaa

/- The longest chain and the widest set apart: words, and the model's helper. -/
namespace Go.Proofs.Ytmlihbcffndnbaa
open Go.RowKit

theorem maxL_snoc (f : Nat → Int) (l : List Nat) (a : Nat) : maxL f (l ++ [a]) = max (maxL f l) (f a + 1) := by simp [maxL]
theorem maxL_range (f : Nat → Int) (k : Nat) : maxL f (List.range (k + 1)) = max (maxL f (List.range k)) (f k + 1) := by rw [List.range_succ, maxL_snoc]
theorem hgts_get {zs : List Int} {n k : Nat} (hk : k < n) : ((List.range n).map (hgt zs))[k]?.getD 0 = hgt zs k := by simp [hk]

def longR (zs : List Int) : Int := if vo zs then longI zs else -1
def wideR (zs : List Int) : Int := if vo zs then grTo (apB zs) (setsN zs) else -1
end Go.Proofs.Ytmlihbcffndnbaa

/- Chains and sets apart: what is left of them, and when a chain is apart. No program. -/
namespace Go.Proofs.Ytmlihbcffndnbaa

theorem isChain_is {zs : List Int} {s : Int} (h : VoP zs) (h0 : 0 ≤ s) (h1 : s < powI zs.length) : isChainR zs s = chB zs s := by
  unfold isChainR inB
  rw [vo_true h, decide_eq_true (show (0 : Int) ≤ s ∧ s ≤ powI zs.length - 1 by omega)]
  rfl
theorem isApart_is {zs : List Int} {s : Int} (h : VoP zs) (h0 : 0 ≤ s) (h1 : s < powI zs.length) : isApartR zs s = apB zs s := by
  unfold isApartR inB
  rw [vo_true h, decide_eq_true (show (0 : Int) ≤ s ∧ s ≤ powI zs.length - 1 by omega)]
  rfl
theorem isChain_parts {zs : List Int} {s : Int} (h : isChainR zs s = true) : VoP zs ∧ (0 ≤ s ∧ s < powI zs.length) ∧ chB zs s = true := by
  unfold isChainR at h
  rw [Bool.and_eq_true, Bool.and_eq_true] at h
  obtain ⟨⟨h1, h2⟩, h3⟩ := h
  have h2' : (0 : Int) ≤ s ∧ s ≤ powI zs.length - 1 := by simpa [inB] using h2
  exact ⟨by simpa [vo] using h1, ⟨h2'.1, by omega⟩, h3⟩
theorem isApart_parts {zs : List Int} {s : Int} (h : isApartR zs s = true) : VoP zs ∧ (0 ≤ s ∧ s < powI zs.length) ∧ apB zs s = true := by
  unfold isApartR at h
  rw [Bool.and_eq_true, Bool.and_eq_true] at h
  obtain ⟨⟨h1, h2⟩, h3⟩ := h
  have h2' : (0 : Int) ≤ s ∧ s ≤ powI zs.length - 1 := by simpa [inB] using h2
  exact ⟨by simpa [vo] using h1, ⟨h2'.1, by omega⟩, h3⟩
theorem chB_sub {zs : List Int} {s t : Int} (h1 : s < 64) (h2 : t < 64) (hs : ∀ j : Nat, bitB t j = true → bitB s j = true) (h : chB zs s = true) : chB zs t = true := by
  unfold chB at *
  rw [decide_eq_true_eq] at *
  rw [ChP_iff h2]
  intro a b ha hb hab
  exact (ChP_iff h1).1 h a b (hs a ha) (hs b hb) hab
theorem apB_sub {zs : List Int} {s t : Int} (h1 : s < 64) (h2 : t < 64) (hs : ∀ j : Nat, bitB t j = true → bitB s j = true) (h : apB zs s = true) : apB zs t = true :=
  (apB_iff h2).2 fun a b ha hb => (apB_iff h1).1 h a b (hs a ha) (hs b hb)
/-- The set without its least item, as the program's 's & (s-1)'. -/
theorem less_one {n : Nat} {s : Int} (h0 : 0 ≤ s) (h1 : s < powI n) (hn : n ≤ 6) : ∃ t, bits .and .i64 s (s - 1) = t ∧ 0 ≤ t ∧ t < powI n ∧ ∀ j : Nat, bitB t j = true → bitB s j = true := by
  have hp := powI_le6 (n := (n : Int)) (by omega)
  by_cases hs : s = 0
  · subst hs
    exact ⟨0, by decide, by omega, by omega, fun _ e => e⟩
  · have hb := andI_bd s (s - 1)
    exact ⟨andI s (s - 1), bits_and (by omega) (by omega) (by omega) (by omega), hb.1, by omega, fun j e => by rw [bitB_and, Bool.and_eq_true] at e; exact e.1⟩
theorem du_isChain {zs : List Int} {s : Int} (h : VoP zs) (h0 : 0 ≤ s) (h1 : s < powI zs.length) : isChainR (du zs) s = chB zs s := by
  rw [isChain_is (du_vo h) h0 (by rw [du_len]; exact h1), du_chB h.sets]
theorem du_isApart {zs : List Int} {s : Int} (h : VoP zs) (h0 : 0 ≤ s) (h1 : s < powI zs.length) : isApartR (du zs) s = apB zs s := by
  have hp := powI_le6 (n := (zs.length : Int)) (by have := h.1; omega)
  rw [isApart_is (du_vo h) h0 (by rw [du_len]; exact h1), du_apB h.sets (by omega)]
theorem chain_apart {zs : List Int} {s : Int} (h : VoP zs) (h0 : 0 ≤ s) (h1 : s < powI zs.length) (hc : chB zs s = true) : apB zs s = decide (popI s ≤ 1) := by
  have hp := powI_le6 (n := (zs.length : Int)) (by have := h.1; omega)
  have h64 : s < 64 := by omega
  rw [popI_items h0 h64]
  have hs := itemsL_sorted s
  have hm : ∀ j : Nat, j ∈ itemsL s ↔ bitB s j = true := fun j => mem_itemsL h64
  have hc' : ChP zs s := of_decide_eq_true hc
  unfold ChP at hc'
  clear hc
  match hl : itemsL s with
  | [] =>
    rw [hl] at hm
    have : apB zs s = true := (apB_iff h64).2 fun a b ha hb => by have := (hm a).2 ha; simp at this
    rw [this]; rfl
  | [x] =>
    rw [hl] at hm
    have : apB zs s = true := (apB_iff h64).2 fun a b ha hb => by
      have e1 := (hm a).2 ha
      have e2 := (hm b).2 hb
      simp only [List.mem_singleton] at e1 e2
      subst e1; subst e2
      exact h.irrB (bitB_lt h1 ha)
    rw [this]; rfl
  | x :: y :: l =>
    rw [hl] at hc' hs hm
    have hr : relB zs x y = true := (List.pairwise_cons.1 hc').1 y (by simp)
    have hx := (hm x).1 (by simp)
    have hy := (hm y).1 (by simp)
    have hno : apB zs s = false := by
      cases e : apB zs s
      · rfl
      · have ha := (apB_iff h64).1 e
        unfold relB at hr
        rw [ha x y hx hy, ha y x hy hx] at hr
        cases hr
    rw [hno, decide_eq_false]
    simp only [List.length_cons]
    omega
theorem apart_le {zs : List Int} {s : Int} (h : VoP zs) (h0 : 0 ≤ s) (h1 : s < powI zs.length) (ha : apB zs s = true) : popI s ≤ wideR zs := by
  unfold wideR
  rw [vo_true h]
  obtain ⟨j, rfl⟩ := Int.eq_ofNat_of_zero_le h0
  have hN := setsN_pow zs
  exact grTo_ge ha (setsN zs) (by omega)
end Go.Proofs.Ytmlihbcffndnbaa

/- The order of some items alone, numbered anew: it is an order, and is lined up in as many ways as they are. No program. -/
namespace Go.Proofs.Ytmlihbcffndnbaa

theorem inc_ext : ∀ (l m : List Nat), l.Pairwise (· < ·) → m.Pairwise (· < ·) → (∀ a, a ∈ l ↔ a ∈ m) → l = m
  | [], [], _, _, _ => rfl
  | [], b :: m, _, _, h => by have := (h b).2 (by simp); cases this
  | a :: l, [], _, _, h => by have := (h a).1 (by simp); cases this
  | a :: l, b :: m, hl, hm, h => by
    rw [List.pairwise_cons] at hl hm
    have hab : a = b := by
      rcases List.mem_cons.1 ((h a).1 (by simp)) with e | e
      · exact e
      · rcases List.mem_cons.1 ((h b).2 (by simp)) with e2 | e2
        · exact e2.symm
        · have := hm.1 a e; have := hl.1 b e2; omega
    subst hab
    rw [inc_ext l m hl.2 hm.2 fun x => ?_]
    have hx := h x
    rw [List.mem_cons, List.mem_cons] at hx
    constructor
    · intro e
      rcases hx.1 (.inr e) with e2 | e2
      · have := hl.1 x e; omega
      · exact e2
    · intro e
      rcases hx.2 (.inr e) with e2 | e2
      · have := hm.1 x e; omega
      · exact e2
theorem range_inc (n : Nat) : (List.range n).Pairwise (· < ·) := List.pairwise_lt_range
/-- The numbers of z that l lists, by their places in l, up to k. -/
def rowTo (z : Int) (l : List Nat) : Nat → Int
  | 0 => 0
  | k + 1 => orI (rowTo z l k) (bitI z (l[k]?.getD 0) * powI k)
theorem bitI_mul (z j : Int) (k : Nat) : bitI z j * powI k = if bitB z j then powI k else 0 := by
  unfold bitI; split <;> simp
theorem rowTo_bd (z : Int) (l : List Nat) : ∀ k : Nat, 0 ≤ rowTo z l k ∧ rowTo z l k < powI k
  | 0 => by simp [rowTo, powI]
  | k + 1 => by
    have h := rowTo_bd z l k
    have hp : powI (k : Int) < powI ((k + 1 : Nat) : Int) := powI_lt (by omega)
    have h0 := powI_pos (k : Int)
    have h1 := powI_pos ((k + 1 : Nat) : Int)
    unfold rowTo
    rw [bitI_mul]
    split
    · exact orI_bd h.1 (by omega) (Int.le_of_lt h0) hp
    · exact orI_bd h.1 (by omega) (Int.le_refl _) h1
theorem rowTo_bit (z : Int) (l : List Nat) (j : Nat) : ∀ k : Nat, bitB (rowTo z l k) j = true ↔ j < k ∧ bitB z ((l[j]?.getD 0 : Nat) : Int) = true
  | 0 => by simp [rowTo, bitB_zero]
  | k + 1 => by
    unfold rowTo
    rw [bitI_mul, bitB_or, Bool.or_eq_true, rowTo_bit z l j k]
    have h2 : bitB (if bitB z ((l[k]?.getD 0 : Nat) : Int) then powI (k : Int) else 0) j = true ↔ j = k ∧ bitB z ((l[j]?.getD 0 : Nat) : Int) = true := by
      split
      · rename_i hb
        rw [bitB_pow, decide_eq_true_eq]
        constructor
        · rintro rfl; exact ⟨rfl, hb⟩
        · rintro ⟨rfl, _⟩; rfl
      · rename_i hb
        rw [bitB_zero]
        constructor
        · intro e; cases e
        · rintro ⟨rfl, e⟩; exact absurd e hb
    rw [h2]
    constructor
    · rintro (⟨h, e⟩ | ⟨rfl, e⟩)
      · exact ⟨by omega, e⟩
      · exact ⟨by omega, e⟩
    · rintro ⟨h, e⟩
      by_cases hjk : j = k
      · exact .inr ⟨hjk, e⟩
      · exact .inl ⟨by omega, e⟩
/-- The order of the items of l alone. -/
def ind (zs : List Int) (l : List Nat) : List Int := l.map fun a => rowTo (zs[a]?.getD 0) l l.length
theorem ind_len (zs : List Int) (l : List Nat) : (ind zs l).length = l.length := by simp [ind]
theorem ind_bit {zs : List Int} {l : List Nat} {i j : Nat} (hi : i < l.length) : bitB ((ind zs l)[i]?.getD 0) j = true ↔ j < l.length ∧ bitB (zs[l[i]?.getD 0]?.getD 0) ((l[j]?.getD 0 : Nat) : Int) = true := by
  have e : (ind zs l)[i]?.getD 0 = rowTo (zs[l[i]?.getD 0]?.getD 0) l l.length := by
    unfold ind
    rw [List.getElem?_map, List.getElem?_eq_getElem hi]
    rfl
  rw [e, rowTo_bit]
/-- A list of items of the order, ascending. -/
structure Inc (zs : List Int) (l : List Nat) : Prop where
  inc : l.Pairwise (· < ·)
  lt : ∀ a ∈ l, a < zs.length
theorem Inc.at_lt {zs : List Int} {l : List Nat} (h : Inc zs l) {i : Nat} (hi : i < l.length) : l[i]?.getD 0 < zs.length := by
  rw [List.getElem?_eq_getElem hi]
  exact h.lt _ (List.getElem_mem hi)
theorem Inc.at_inc {zs : List Int} {l : List Nat} (h : Inc zs l) {i j : Nat} (hij : i < j) (hj : j < l.length) : l[i]?.getD 0 < l[j]?.getD 0 := by
  rw [List.getElem?_eq_getElem hj, List.getElem?_eq_getElem (by omega)]
  exact List.pairwise_iff_getElem.1 h.inc i j (by omega) hj hij
theorem Inc.at_inj {zs : List Int} {l : List Nat} (h : Inc zs l) {i j : Nat} (hi : i < l.length) (hj : j < l.length) (e : l[i]?.getD 0 = l[j]?.getD 0) : i = j := by
  rcases Nat.lt_trichotomy i j with h1 | h1 | h1
  · have := h.at_inc h1 hj; omega
  · exact h1
  · have := h.at_inc h1 hi; omega
theorem Inc.len_le {zs : List Int} {l : List Nat} (h : Inc zs l) : l.length ≤ zs.length := pigeon zs.length l (h.inc.imp fun h => by omega) h.lt
theorem ind_lt {zs : List Int} {l : List Nat} (h : Inc zs l) {i j : Nat} : lt (ind zs l) i j ↔ i < l.length ∧ j < l.length ∧ lt zs (l[i]?.getD 0) (l[j]?.getD 0) := by
  unfold lt
  rw [ind_len]
  constructor
  · rintro ⟨h1, h2⟩
    have := (ind_bit h1).1 h2
    exact ⟨h1, this.1, h.at_lt h1, this.2⟩
  · rintro ⟨h1, h2, _, h3⟩
    exact ⟨h1, (ind_bit h1).2 ⟨h2, h3⟩⟩
theorem ind_vo {zs : List Int} (h : VoP zs) {l : List Nat} (hl : Inc zs l) : VoP (ind zs l) := by
  have h6 := h.1
  have hle := hl.len_le
  refine ⟨by rw [ind_len]; omega, fun a ha => ?_, fun a ha b hb => ?_⟩
  · rw [ind_len] at ha ⊢
    have e : (ind zs l)[a]?.getD 0 = rowTo (zs[l[a]?.getD 0]?.getD 0) l l.length := by
      unfold ind; rw [List.getElem?_map, List.getElem?_eq_getElem ha]; rfl
    have hb := rowTo_bd (zs[l[a]?.getD 0]?.getD 0) l l.length
    have h2 : bitB ((ind zs l)[a]?.getD 0) a = false := by
      cases e2 : bitB ((ind zs l)[a]?.getD 0) a
      · rfl
      · have := (ind_lt hl).1 (⟨by rw [ind_len]; exact ha, e2⟩ : lt (ind zs l) a a)
        exact absurd this.2.2 h.irr
    unfold okA inB
    rw [h2, e]
    simp only [Bool.not_false, Bool.and_true, decide_eq_true_eq]
    omega
  · rw [ind_len] at ha hb
    unfold okP
    cases e : bitB ((ind zs l)[a]?.getD 0) b
    · rfl
    · have hab := (ind_lt hl).1 (⟨by rw [ind_len]; exact ha, e⟩ : lt (ind zs l) a b)
      have h1 : lessI ((ind zs l)[b]?.getD 0) ((ind zs l)[a]?.getD 0) = 0 := by
        refine bitB_ext (lessI_bd _ _).1 (Int.le_refl _) fun j => ?_
        rw [bitB_less, bitB_zero]
        cases e1 : bitB ((ind zs l)[b]?.getD 0) j
        · rfl
        · have hbj := (ind_lt hl).1 (⟨by rw [ind_len]; exact hb, e1⟩ : lt (ind zs l) b j)
          have := ((ind_lt hl).2 ⟨ha, hbj.2.1, h.trans hab.2.2 hbj.2.2⟩).2
          rw [this]; rfl
      have h2 : bitB ((ind zs l)[b]?.getD 0) a = false := by
        cases e2 : bitB ((ind zs l)[b]?.getD 0) a
        · rfl
        · have hba := (ind_lt hl).1 (⟨by rw [ind_len]; exact hb, e2⟩ : lt (ind zs l) b a)
          exact absurd (h.trans hab.2.2 hba.2.2) h.irr
      rw [h1, h2]; rfl

/-- The items of zs that a set of places of l tells. -/
def exTo (l : List Nat) (t : Nat) : Nat → Nat
  | 0 => 0
  | k + 1 => exTo l t k ||| (if t.testBit k then 2 ^ (l[k]?.getD 0) else 0)
theorem exTo_bit (l : List Nat) (t a : Nat) : ∀ k : Nat, (exTo l t k).testBit a = true ↔ ∃ i, i < k ∧ t.testBit i = true ∧ l[i]?.getD 0 = a
  | 0 => by simp [exTo]
  | k + 1 => by
    unfold exTo
    rw [Nat.testBit_or, Bool.or_eq_true, exTo_bit l t a k]
    have h2 : (if t.testBit k then 2 ^ (l[k]?.getD 0) else 0).testBit a = true ↔ t.testBit k = true ∧ l[k]?.getD 0 = a := by
      split
      · rename_i hb; rw [Nat.testBit_two_pow, decide_eq_true_eq]; simp [hb]
      · rename_i hb; simp [hb]
    rw [h2]
    constructor
    · rintro (⟨i, hi, e⟩ | e)
      · exact ⟨i, by omega, e⟩
      · exact ⟨k, by omega, e⟩
    · rintro ⟨i, hi, e⟩
      by_cases hik : i = k
      · subst hik; exact .inr e
      · exact .inl ⟨i, by omega, e⟩
def ex (l : List Nat) (t : Nat) : Nat := exTo l t l.length
theorem ex_lt {zs : List Int} {l : List Nat} (h : Inc zs l) (t : Nat) : ex l t < 2 ^ zs.length := Nat.lt_pow_two_of_testBit _ fun i hi => by
  cases e : (ex l t).testBit i
  · rfl
  · obtain ⟨k, hk, _, e2⟩ := (exTo_bit l t i l.length).1 e
    have := h.at_lt hk; omega
theorem ex_at {zs : List Int} {l : List Nat} (h : Inc zs l) {t k : Nat} (hk : k < l.length) : (ex l t).testBit (l[k]?.getD 0) = t.testBit k := by
  rw [Bool.eq_iff_iff]
  unfold ex
  rw [exTo_bit]
  constructor
  · rintro ⟨i, hi, e, e2⟩
    rw [← h.at_inj hi hk e2]; exact e
  · intro e; exact ⟨k, hk, e, rfl⟩
theorem sub_bits {s a j : Nat} (hs : s < 64) (ha : a < 6) (hb : s.testBit a = true) : (s - 2 ^ a).testBit j = (s.testBit j && !decide (a = j)) := by
  have hpa := Nat.two_pow_pos a
  rcases Nat.lt_or_ge j 6 with hj | hj
  · exact sub_bit_fin ⟨s, hs⟩ ⟨a, ha⟩ ⟨j, hj⟩ hb
  · have h1 : s.testBit j = false := Nat.testBit_lt_two_pow (Nat.lt_of_lt_of_le (show s < 2 ^ 6 by omega) (Nat.pow_le_pow_right (by decide) hj))
    have h2 : (s - 2 ^ a).testBit j = false := Nat.testBit_lt_two_pow (Nat.lt_of_lt_of_le (show s - 2 ^ a < 2 ^ 6 by omega) (Nat.pow_le_pow_right (by decide) hj))
    rw [h1, h2]; rfl
theorem ex_sub {zs : List Int} (h6 : zs.length ≤ 6) {l : List Nat} (h : Inc zs l) {t k : Nat} (ht : t < 64) (hk : k < l.length) (hb : t.testBit k = true) : ex l (t - 2 ^ k) = ex l t - 2 ^ (l[k]?.getD 0) := by
  have hle := h.len_le
  have hx : ex l t < 64 := Nat.lt_of_lt_of_le (ex_lt h t) (pow_le64 h6)
  have hlk := h.at_lt hk
  refine Nat.eq_of_testBit_eq fun a => ?_
  rw [sub_bits hx (show l[k]?.getD 0 < 6 by omega) (by rw [ex_at h hk]; exact hb), Bool.eq_iff_iff]
  unfold ex
  rw [exTo_bit, Bool.and_eq_true, exTo_bit, Bool.not_eq_true', decide_eq_false_iff_not]
  constructor
  · rintro ⟨i, hi, e, rfl⟩
    rw [sub_bits ht (by omega) hb, Bool.and_eq_true, Bool.not_eq_true', decide_eq_false_iff_not] at e
    exact ⟨⟨i, hi, e.1, rfl⟩, fun e2 => e.2 (h.at_inj hk hi e2)⟩
  · rintro ⟨⟨i, hi, e, rfl⟩, e2⟩
    refine ⟨i, hi, ?_, rfl⟩
    rw [sub_bits ht (by omega) hb, e]
    have hne : ¬ k = i := fun e3 => e2 (by rw [e3])
    simp [hne]
theorem ex_zero (l : List Nat) : ex l 0 = 0 := Nat.eq_of_testBit_eq fun a => by
  rw [Bool.eq_iff_iff]
  unfold ex
  rw [exTo_bit]
  simp
theorem eF_iff {zs : List Int} (h : VoP zs) {s a : Nat} : eF zs s a = true ↔ s.testBit a = true ∧ ∀ b, s.testBit b = true → bitB (zs[b]?.getD 0) a = false := by
  unfold eF
  rw [Bool.and_eq_true, beq_iff_eq, andI_zero]
  constructor
  · rintro ⟨h1, h2⟩
    exact ⟨h1, fun b hb => by have := h2 b (by rw [bit_cast]; exact hb); rwa [du_bit h.sets] at this⟩
  · rintro ⟨h1, h2⟩
    exact ⟨h1, fun b hb => by rw [du_bit h.sets]; exact h2 b (by rwa [bit_cast] at hb)⟩
theorem bit_none' {zs : List Int} {a b : Nat} (h : bitB (zs[a]?.getD 0) b = true) : a < zs.length := by
  rcases Nat.lt_or_ge a zs.length with h1 | h1
  · exact h1
  · rw [List.getElem?_eq_none (by omega), Option.getD_none, bitB_zero] at h; cases h
theorem next_ind {zs : List Int} (h : VoP zs) {l : List Nat} (hl : Inc zs l) (t : Nat) : nextL zs (ex l t) = (nextL (ind zs l) t).map fun k => l[k]?.getD 0 := by
  have hi := ind_vo h hl
  rw [nextL_is h, nextL_is hi, ind_len]
  refine inc_ext _ _ ((range_inc _).filter _) ?_ fun a => ?_
  · rw [List.pairwise_map]
    refine List.Pairwise.imp_of_mem ?_ ((range_inc _).filter _)
    intro x y hx hy hxy
    rw [List.mem_filter] at hy
    exact hl.at_inc hxy (by simpa using hy.1)
  · rw [List.mem_filter, List.mem_map, List.mem_range, eF_iff h]
    constructor
    · rintro ⟨ha, h1, h2⟩
      obtain ⟨k, hk, hb, e⟩ := (exTo_bit l t a l.length).1 h1
      refine ⟨k, ?_, e⟩
      rw [List.mem_filter, List.mem_range, eF_iff hi]
      refine ⟨hk, hb, fun j hj => ?_⟩
      cases e2 : bitB ((ind zs l)[j]?.getD 0) k
      · rfl
      · have hjl : j < l.length := by
          have := bit_none' e2; rwa [ind_len] at this
        have h3 := (ind_bit hjl).1 e2
        have := h2 (l[j]?.getD 0) (by rw [ex_at hl hjl]; exact hj)
        rw [← e] at this
        rw [this] at h3; cases h3.2
    · rintro ⟨k, hk, e⟩
      rw [List.mem_filter, List.mem_range, eF_iff hi] at hk
      obtain ⟨hk, hb, h2⟩ := hk
      refine ⟨by rw [← e]; exact hl.at_lt hk, by rw [← e, ex_at hl hk]; exact hb, fun b hb2 => ?_⟩
      obtain ⟨j, hj, hjt, e3⟩ := (exTo_bit l t b l.length).1 hb2
      have := h2 j hjt
      cases e4 : bitB (zs[b]?.getD 0) a
      · rfl
      · rw [(ind_bit hj).2 ⟨hk, by rw [e3, e]; exact e4⟩] at this; cases this
/-- The items alone are lined up in as many ways as they are. -/
theorem cF_ind {zs : List Int} (h : VoP zs) {l : List Nat} (hl : Inc zs l) : ∀ (N t : Nat), t ≤ N → t < 2 ^ l.length → cF (ind zs l) t = cF zs (ex l t)
  | N, t, hN, ht => by
    have hi := ind_vo h hl
    have hle := hl.len_le
    have h6 := h.1
    have ht64 : t < 64 := Nat.lt_of_lt_of_le ht (pow_le64 (by omega))
    by_cases h0 : t = 0
    · subst h0; rw [ex_zero, cF_zero, cF_zero]
    · have hx0 : ex l t ≠ 0 := fun e => h0 (Nat.eq_of_testBit_eq fun k => by
        rw [Nat.zero_testBit]
        cases e2 : t.testBit k
        · rfl
        · have hk := bit_lt ht e2
          have := ex_at hl (t := t) hk
          rw [e, e2, Nat.zero_testBit] at this; cases this)
      cases N with
      | zero => omega
      | succ N =>
        rw [← accF_all hi h0, ← accF_all h hx0, next_ind h hl]
        unfold accF
        rw [List.map_map]
        congr 1
        refine List.map_congr_left fun k hk => ?_
        obtain ⟨hkl, hkb⟩ := nextL_mem hi hk
        rw [ind_len] at hkl
        have hp := Nat.two_pow_pos k
        have hge := ge_bit_fin ⟨t, ht64⟩ ⟨k, by omega⟩ hkb
        simp only at hge
        rw [cF_ind h hl N (t - 2 ^ k) (by omega) (by omega), ex_sub h6 hl ht64 hkl hkb]
        rfl
/-- The items of a set, ascending. -/
def leftL (n s : Nat) : List Nat := (List.range n).filter fun j => s.testBit j
theorem leftL_inc (zs : List Int) (s : Nat) : Inc zs (leftL zs.length s) := ⟨(range_inc _).filter _, fun a ha => by
  unfold leftL at ha; rw [List.mem_filter] at ha; simpa using ha.1⟩
theorem ex_left {zs : List Int} {s : Nat} (hs : s < 2 ^ zs.length) : ex (leftL zs.length s) (2 ^ (leftL zs.length s).length - 1) = s := by
  refine Nat.eq_of_testBit_eq fun a => ?_
  rw [Bool.eq_iff_iff]
  unfold ex
  rw [exTo_bit]
  constructor
  · rintro ⟨i, hi, _, rfl⟩
    rw [List.getElem?_eq_getElem hi]
    have := List.getElem_mem hi
    unfold leftL at this
    rw [List.mem_filter] at this
    exact this.2
  · intro e
    have ha : a ∈ leftL zs.length s := by
      unfold leftL
      rw [List.mem_filter, List.mem_range]
      exact ⟨bit_lt hs e, e⟩
    obtain ⟨i, hi, e2⟩ := List.getElem_of_mem ha
    refine ⟨i, hi, ?_, by rw [List.getElem?_eq_getElem hi]; exact e2⟩
    rw [Nat.testBit_two_pow_sub_one]
    simpa using hi
/-- As the model counts what is left. -/
theorem rest_is {zs : List Int} (h : VoP zs) {s : Nat} (hs : s < 2 ^ zs.length) : cG (ind zs (leftL zs.length s)) (2 ^ (leftL zs.length s).length - 1) = cF zs s := by
  have hl := leftL_inc zs s
  have hi := ind_vo h hl
  have hp := Nat.two_pow_pos (leftL zs.length s).length
  have := count_both hi
  rw [ind_len] at this
  rw [this, cF_ind h hl _ _ (Nat.le_refl _) (by omega), ex_left hs]
end Go.Proofs.Ytmlihbcffndnbaa

/- Tops and ideals: tops stand for all below; what is below a set is an ideal; what an ideal leaves. No program. -/
namespace Go.Proofs.Ytmlihbcffndnbaa

theorem bit_none {zs : List Int} {a b : Nat} (h : bitB (zs[a]?.getD 0) b = true) : a < zs.length := by
  rcases Nat.lt_or_ge a zs.length with h1 | h1
  · exact h1
  · rw [List.getElem?_eq_none (by omega), Option.getD_none, bitB_zero] at h; cases h
theorem top_over {zs : List Int} (h : VoP zs) {s : Int} (h1 : s < powI zs.length) : ∀ (m a : Nat), zs.length - rank zs a ≤ m → bitB s a = true → ∃ t : Nat, bitB (topsTo zs s zs.length) t = true ∧ (a = t ∨ lt zs a t)
  | 0, a, hm, ha => by have := rank_bd h (bitB_lt h1 ha); omega
  | m + 1, a, hm, ha => by
    by_cases hz : andI (zs[a]?.getD 0) s = 0
    · exact ⟨a, (topsTo_bit a _).2 ⟨bitB_lt h1 ha, ha, hz⟩, .inl rfl⟩
    · have : ∃ b : Nat, bitB s b = true ∧ bitB (zs[a]?.getD 0) b = true := by
        refine Classical.byContradiction fun hn => hz (andI_zero.2 fun b hb => ?_)
        cases e : bitB (zs[a]?.getD 0) b
        · rfl
        · exact absurd ⟨b, hb, e⟩ hn
      obtain ⟨b, hb, hab⟩ := this
      have hl : lt zs a b := ⟨bit_none hab, hab⟩
      have hr := rank_lt h hl
      obtain ⟨t, ht, e⟩ := top_over h h1 m b (by omega) hb
      refine ⟨t, ht, .inr ?_⟩
      rcases e with rfl | e
      · exact hl
      · exact h.trans hl e
section
variable {zs : List Int} {s : Int}
theorem tops_in (zs : List Int) (s : Int) : lessI (topsTo zs s zs.length) s = 0 := lessI_none.2 fun _ hj => ((topsTo_bit _ _).1 hj).2.1
theorem tops_ap (h : VoP zs) : apB zs (topsTo zs s zs.length) = true := by
  have hb := topsTo_bd zs s zs.length
  have hp := powI_le6 (n := (zs.length : Int)) (by have := h.1; omega)
  refine (apB_iff (by omega)).2 fun a b ha hb => ?_
  exact andI_zero.1 ((topsTo_bit _ _).1 ha).2.2 b ((topsTo_bit _ _).1 hb).2.1
theorem tops_none (h : VoP zs) (h0 : 0 ≤ s) (h1 : s < powI zs.length) : (topsTo zs s zs.length == 0) = (s == 0) := by
  have hb := topsTo_bd zs s zs.length
  rw [Bool.eq_iff_iff, beq_iff_eq, beq_iff_eq]
  constructor
  · intro e
    refine bitB_ext h0 (Int.le_refl _) fun j => ?_
    rw [bitB_zero]
    cases hj : bitB s j
    · rfl
    · obtain ⟨t, ht, _⟩ := top_over h h1 _ j (Nat.le_refl _) hj
      rw [e, bitB_zero] at ht; cases ht
  · intro e
    refine bitB_ext hb.1 (Int.le_refl _) fun j => ?_
    rw [bitB_zero]
    cases hj : bitB (topsTo zs s zs.length) j
    · rfl
    · have := ((topsTo_bit _ _).1 hj).2.1
      rw [e, bitB_zero] at this; cases this
theorem in_bel (h : Sets zs) (h1 : s < powI zs.length) : lessI s (belI zs s) = 0 := lessI_none.2 fun j hj => (belI_bit h h1 j).2 (.inl hj)
theorem bel_ideal (h : VoP zs) (h0 : 0 ≤ s) (h1 : s < powI zs.length) : idB zs (belI zs s) = true := by
  have hb := belI_bd h.sets h0 h1
  refine (idB_iff h.sets hb.1 hb.2).2 fun a b hb hz => ?_
  rw [belI_bit h.sets h1] at hb ⊢
  rcases hb with hb | ⟨c, hc, hbc⟩
  · exact .inr ⟨b, hb, hz⟩
  · exact .inr ⟨c, hc, (h.trans (a := a) (b := b) (c := c) ⟨bit_none hz, hz⟩ ⟨bit_none hbc, hbc⟩).2⟩
theorem tops_bel (h : VoP zs) (_h0 : 0 ≤ s) (h1 : s < powI zs.length) : topsTo zs (belI zs s) zs.length = topsTo zs s zs.length := by
  refine bitB_ext (topsTo_bd _ _ _).1 (topsTo_bd _ _ _).1 fun j => ?_
  rw [Bool.eq_iff_iff, topsTo_bit, topsTo_bit]
  constructor
  · rintro ⟨hj, hb, hz⟩
    have hz' := andI_zero.1 hz
    refine ⟨hj, ?_, andI_zero.2 fun b hb => hz' b ((belI_bit h.sets h1 b).2 (.inl hb))⟩
    rcases (belI_bit h.sets h1 j).1 hb with e | ⟨c, hc, hjc⟩
    · exact e
    · rw [hz' c ((belI_bit h.sets h1 c).2 (.inl hc))] at hjc; cases hjc
  · rintro ⟨hj, hb, hz⟩
    have hz' := andI_zero.1 hz
    refine ⟨hj, (belI_bit h.sets h1 j).2 (.inl hb), andI_zero.2 fun b hb => ?_⟩
    rcases (belI_bit h.sets h1 b).1 hb with e | ⟨c, hc, hbc⟩
    · exact hz' b e
    · cases e : bitB (zs[j]?.getD 0) b
      · rfl
      · have := (h.trans (a := j) (b := b) (c := c) ⟨bit_none e, e⟩ ⟨bit_none hbc, hbc⟩).2
        rw [hz' c hc] at this; cases this
theorem bel_tops (h : VoP zs) (h0 : 0 ≤ s) (h1 : s < powI zs.length) : belI zs (topsTo zs s zs.length) = belI zs s := by
  have hb := topsTo_bd zs s zs.length
  refine bitB_ext (belI_bd h.sets hb.1 hb.2).1 (belI_bd h.sets h0 h1).1 fun j => ?_
  rw [Bool.eq_iff_iff, belI_bit h.sets hb.2, belI_bit h.sets h1]
  constructor
  · rintro (e | ⟨t, ht, hj⟩)
    · exact .inl ((topsTo_bit _ _).1 e).2.1
    · exact .inr ⟨t, ((topsTo_bit _ _).1 ht).2.1, hj⟩
  · rintro (e | ⟨b, hb, hj⟩)
    · obtain ⟨t, ht, e2⟩ := top_over h h1 _ j (Nat.le_refl _) e
      rcases e2 with rfl | e2
      · exact .inl ht
      · exact .inr ⟨t, ht, e2.2⟩
    · obtain ⟨t, ht, e2⟩ := top_over h h1 _ b (Nat.le_refl _) hb
      rcases e2 with rfl | e2
      · exact .inr ⟨b, ht, hj⟩
      · exact .inr ⟨t, ht, (h.trans (a := j) (b := b) (c := t) ⟨bit_none hj, hj⟩ e2).2⟩
theorem bel_self (h0 : idB zs s = true) : belI zs s = s := by simpa [idB] using h0
theorem all_bits' {n : Nat} : ∀ j : Nat, bitB (powI n - 1) j = decide (j < n) := fun j => by
  have e : (powI (n : Int) - 1).toNat = 2 ^ n - 1 := by
    have : powI (n : Int) = ((2 ^ n : Nat) : Int) := by simp [powI]
    omega
  simp [bitB, e, Nat.testBit_two_pow_sub_one]
theorem left_fin : ∀ n : Fin 7, ∀ k : Fin 64, (k.val : Int) < powI (n.val : Int) → lessI (powI (n.val : Int) - 1) (k.val : Int) = powI (n.val : Int) - 1 - (k.val : Int) := by decide +kernel
theorem left_is {n : Nat} {s : Int} (hn : n ≤ 6) (h0 : 0 ≤ s) (h1 : s < powI n) : lessI (powI n - 1) s = powI n - 1 - s := by
  have hpn := powI_le6 (n := (n : Int)) (by omega)
  obtain ⟨k, rfl⟩ := Int.eq_ofNat_of_zero_le h0
  exact left_fin ⟨n, by omega⟩ ⟨k, by omega⟩ h1
theorem left_ideal (h : VoP zs) (h0 : 0 ≤ s) (h1 : s < powI zs.length) (hi : idB zs s = true) : idB (du zs) (powI zs.length - 1 - s) = true := by
  have hp := powI_pos (zs.length : Int)
  refine (idB_iff (du_sets h.sets) (by omega) (by rw [du_len]; omega)).2 fun a b hb hz => ?_
  rw [← left_is h.1 h0 h1] at hb ⊢
  rw [bitB_less, all_bits', Bool.and_eq_true] at hb ⊢
  rw [du_bit h.sets] at hz
  have ha : a < zs.length := bitB_lt (h.sets.2 b (bit_none hz)).2 hz
  refine ⟨by simpa using ha, ?_⟩
  cases e : bitB s a
  · rfl
  · have := (idB_iff h.sets h0 h1).1 hi b a e hz
    rw [this] at hb; simp at hb
theorem tops_apart (h : VoP zs) (h0 : 0 ≤ s) (h1 : s < powI zs.length) (ha : apB zs s = true) : topsTo zs s zs.length = s := by
  have hp := powI_le6 (n := (zs.length : Int)) (by have := h.1; omega)
  refine bitB_ext (topsTo_bd zs s _).1 h0 fun j => ?_
  have key := topsTo_bit (zs := zs) (s := s) j zs.length
  cases e : bitB s j
  · cases e2 : bitB (topsTo zs s zs.length) j
    · rfl
    · have := (key.1 e2).2.1; rw [e] at this; cases this
  · exact key.2 ⟨bitB_lt h1 e, e, andI_zero.2 fun b hb => (apB_iff (by omega)).1 ha j b e hb⟩
/-- The tops of the next ideal are the lowest items that the one ahead lacks. -/
theorem next_tops (h : VoP zs) (_h0 : 0 ≤ s) (_h1 : s < powI zs.length) : topsTo zs (nextI zs s) zs.length = topsTo (du zs) (powI zs.length - 1 - s) zs.length := by
  have hp := powI_pos (zs.length : Int)
  have hp6 := powI_le6 (n := (zs.length : Int)) (by have := h.1; omega)
  have hb := topsTo_bd (du zs) (powI zs.length - 1 - s) zs.length
  have ha := tops_ap (s := powI zs.length - 1 - s) (du_vo h)
  rw [du_len, du_apB h.sets (by omega)] at ha
  unfold nextI
  rw [tops_bel h hb.1 hb.2, tops_apart h hb.1 hb.2 ha]
end
theorem in_set {zs : List Int} {s : Int} (_h : VoP zs) (h0 : 0 ≤ s) (h1 : s < powI zs.length) : inB s 0 (powI zs.length - 1) = true := by
  simp only [inB, decide_eq_true_eq]; omega
theorem set_parts {zs : List Int} {s : Int} (h : (vo zs && inB s 0 (powI zs.length - 1)) = true) : VoP zs ∧ 0 ≤ s ∧ s < powI zs.length := by
  rw [Bool.and_eq_true] at h
  refine ⟨by simpa [vo] using h.1, ?_⟩
  have := h.2
  simp only [inB, decide_eq_true_eq] at this
  omega
theorem topsR_in {zs : List Int} {s : Int} (h : VoP zs) (h0 : 0 ≤ s) (h1 : s < powI zs.length) : topsR zs s = topsTo zs s zs.length := by
  unfold topsR; rw [vo_true h, in_set h h0 h1]; rfl
theorem belowR_in {zs : List Int} {s : Int} (h : VoP zs) (h0 : 0 ≤ s) (h1 : s < powI zs.length) : belowR zs s = belI zs s := by
  unfold belowR; rw [vo_true h, in_set h h0 h1]; rfl
theorem isIdealR_in {zs : List Int} {s : Int} (h : VoP zs) (h0 : 0 ≤ s) (h1 : s < powI zs.length) : isIdealR zs s = idB zs s := by
  unfold isIdealR; rw [vo_true h, in_set h h0 h1]; rfl
end Go.Proofs.Ytmlihbcffndnbaa

/- Joins, what all of a set have above them, cuts, items with one next below, and orders of some items: as both sides tell them. No program. -/
namespace Go.Proofs.Ytmlihbcffndnbaa

/-- What is at or above an item. -/
def atUp (zs : List Int) (a : Nat) : Int := orI (zs[a]?.getD 0) (powI a)
theorem atUp_bd {zs : List Int} (h : Sets zs) {a : Nat} (ha : a < zs.length) : 0 ≤ atUp zs a ∧ atUp zs a < powI zs.length := by
  have hz := h.2 a ha
  exact orI_bd hz.1 hz.2 (Int.le_of_lt (powI_pos _)) (powI_lt ha)
theorem atUp_bit (zs : List Int) (a j : Nat) : bitB (atUp zs a) j = (bitB (zs[a]?.getD 0) j || decide (a = j)) := by unfold atUp; rw [bitB_or, bitB_pow]
/-- The items that are at or above all those of s less than k. -/
def comTo (zs : List Int) (s : Int) : Nat → Int
  | 0 => powI zs.length - 1
  | k + 1 => if bitB s k then andI (comTo zs s k) (atUp zs k) else comTo zs s k
theorem comTo_yes {zs : List Int} {s : Int} {k : Nat} (h : bitB s k = true) : comTo zs s (k + 1) = andI (comTo zs s k) (atUp zs k) := by simp [comTo, h]
theorem comTo_no {zs : List Int} {s : Int} {k : Nat} (h : bitB s k = false) : comTo zs s (k + 1) = comTo zs s k := by simp [comTo, h]
theorem comTo_bd (zs : List Int) (s : Int) : ∀ k : Nat, 0 ≤ comTo zs s k ∧ comTo zs s k < powI zs.length
  | 0 => by have := powI_pos (zs.length : Int); simp only [comTo]; omega
  | k + 1 => by
    have h := comTo_bd zs s k
    unfold comTo
    split
    · have := andI_bd (comTo zs s k) (atUp zs k); omega
    · exact h
theorem comTo_bit (zs : List Int) (s : Int) (j : Nat) : ∀ k : Nat, bitB (comTo zs s k) j = true ↔ j < zs.length ∧ ∀ a : Nat, a < k → bitB s a = true → bitB (atUp zs a) j = true
  | 0 => by
    unfold comTo
    rw [all_bits', decide_eq_true_eq]
    exact ⟨fun h => ⟨h, fun a ha => by omega⟩, fun h => h.1⟩
  | k + 1 => by
    cases hb : bitB s k
    · rw [comTo_no hb, comTo_bit zs s j k]
      refine ⟨fun h => ⟨h.1, fun a ha hs => ?_⟩, fun h => ⟨h.1, fun a ha hs => h.2 a (by omega) hs⟩⟩
      by_cases e : a = k
      · subst e; rw [hb] at hs; cases hs
      · exact h.2 a (by omega) hs
    · rw [comTo_yes hb, bitB_and, Bool.and_eq_true, comTo_bit zs s j k]
      refine ⟨fun h => ⟨h.1.1, fun a ha hs => ?_⟩, fun h => ⟨⟨h.1, fun a ha hs => h.2 a (by omega) hs⟩, h.2 k (by omega) hb⟩⟩
      by_cases e : a = k
      · subst e; exact h.2
      · exact h.1.2 a (by omega) hs
/-- The same, item by item of a list. -/
def comL (zs : List Int) (l : List Nat) : Int := l.foldl (fun (t : Int) (i : Nat) => andI t (atUp zs i)) (powI zs.length - 1)
theorem comL_snoc (zs : List Int) (l : List Nat) (i : Nat) : comL zs (l ++ [i]) = andI (comL zs l) (atUp zs i) := by simp [comL]
theorem comL_to (zs : List Int) (s : Int) : ∀ k : Nat, comL zs (itemsTo s k) = comTo zs s k
  | 0 => rfl
  | k + 1 => by
    have ih := comL_to zs s k
    cases hb : bitB s k
    · rw [itemsTo_no hb, comTo_no hb, ih]
    · rw [itemsTo_yes hb, comL_snoc, comTo_yes hb, ih]
theorem comTo_up {zs : List Int} {s : Int} {n : Nat} (h1 : s < powI n) : ∀ d : Nat, comTo zs s (n + d) = comTo zs s n
  | 0 => rfl
  | d + 1 => by
    have hb : bitB s ((n + d : Nat) : Int) = false := by
      cases h : bitB s ((n + d : Nat) : Int) with
      | false => rfl
      | true => have := bitB_lt h1 h; omega
    rw [← Nat.add_assoc, comTo_no hb, comTo_up h1 d]
theorem comL_all {zs : List Int} {s : Int} {n : Nat} (hn : n ≤ 6) (h1 : s < powI n) : comL zs (itemsL s) = comTo zs s n := by
  rw [itemsL, comL_to, show (6 : Nat) = n + (6 - n) from by omega, comTo_up h1]
/-- At or above both. -/
def upR (zs : List Int) (a b : Nat) : Int := andI (atUp zs a) (atUp zs b)
theorem upR_bd {zs : List Int} (h : Sets zs) {a b : Nat} (ha : a < zs.length) : 0 ≤ upR zs a b ∧ upR zs a b < powI zs.length := by
  have h1 := andI_bd (atUp zs a) (atUp zs b)
  have h2 := atUp_bd h ha
  unfold upR
  omega
/-- Two items as a set. -/
def twoS (a b : Nat) : Int := orI (orI 0 (powI a)) (powI b)
theorem twoS_bd {n a b : Nat} (ha : a < n) (hb : b < n) : 0 ≤ twoS a b ∧ twoS a b < powI n := by
  have h1 := orI_bd (a := 0) (b := powI a) (n := n) (Int.le_refl _) (powI_pos _) (Int.le_of_lt (powI_pos _)) (powI_lt ha)
  exact orI_bd h1.1 h1.2 (Int.le_of_lt (powI_pos _)) (powI_lt hb)
theorem twoS_bit (a b j : Nat) : bitB (twoS a b) j = (decide (a = j) || decide (b = j)) := by
  unfold twoS; rw [bitB_or, bitB_or, bitB_zero, bitB_pow, bitB_pow]; simp
theorem com_two {zs : List Int} (h : Sets zs) {a b : Nat} (ha : a < zs.length) (hb : b < zs.length) : comTo zs (twoS a b) zs.length = upR zs a b := by
  refine bitB_ext (comTo_bd _ _ _).1 (upR_bd h ha).1 fun j => ?_
  rw [Bool.eq_iff_iff, comTo_bit]
  unfold upR
  rw [bitB_and, Bool.and_eq_true]
  constructor
  · rintro ⟨hj, h2⟩
    exact ⟨h2 a ha (by rw [twoS_bit]; simp), h2 b hb (by rw [twoS_bit]; simp)⟩
  · rintro ⟨h1, h2⟩
    refine ⟨bitB_lt (atUp_bd h ha).2 h1, fun x _ hx => ?_⟩
    rw [twoS_bit, Bool.or_eq_true, decide_eq_true_eq, decide_eq_true_eq] at hx
    rcases hx with rfl | rfl
    · exact h1
    · exact h2
/-- An item of s that all of s are at or above. -/
def jnB (zs : List Int) (s : Int) (c : Nat) : Bool := bitB s c && lessI s (atUp zs c) == 0
theorem less_less (s p z : Int) : (lessI (lessI s p) z == 0) = (lessI s (orI z p) == 0) := by
  rw [Bool.eq_iff_iff, beq_iff_eq, beq_iff_eq, lessI_none, lessI_none]
  constructor
  · intro h j hj
    rw [bitB_or]
    cases hp : bitB p j
    · have := h j (by rw [bitB_less, hj, hp]; rfl)
      rw [this]; rfl
    · simp
  · intro h j hj
    rw [bitB_less, Bool.and_eq_true, Bool.not_eq_true'] at hj
    have := h j hj.1
    rw [bitB_or, hj.2, Bool.or_false] at this
    exact this
def jnI (zs : List Int) (s : Int) : Int := match (List.range zs.length).find? (jnB zs s) with | none => -1 | some c => (c : Int)
theorem jnI_at {zs : List Int} {s : Int} {c : Nat} (hc : c < zs.length) (hb : jnB zs s c = true) (hn : ∀ j, j < c → jnB zs s j = false) : jnI zs s = c := by
  have : (List.range zs.length).find? (jnB zs s) = some c := by
    rw [List.find?_range_eq_some]
    exact ⟨hb, by simpa using hc, fun j hj => by simpa using hn j hj⟩
  unfold jnI
  rw [this]
theorem jnI_none {zs : List Int} {s : Int} (hn : ∀ j, j < zs.length → jnB zs s j = false) : jnI zs s = -1 := by
  have : (List.range zs.length).find? (jnB zs s) = none := by
    rw [List.find?_eq_none]
    intro x hx
    rw [hn x (by simpa using hx)]
    simp
  unfold jnI
  rw [this]
theorem jnI_cases {zs : List Int} {s : Int} : (jnI zs s = -1 ∧ ∀ j, j < zs.length → jnB zs s j = false) ∨ ∃ c : Nat, jnI zs s = c ∧ c < zs.length ∧ jnB zs s c = true := by
  unfold jnI
  cases h : (List.range zs.length).find? (jnB zs s) with
  | none => exact .inl ⟨rfl, fun j hj => by
      have := List.find?_eq_none.1 h j (by simpa using hj)
      simpa using this⟩
  | some c => exact .inr ⟨c, rfl, by have := List.mem_of_find?_eq_some h; simpa using this, List.find?_some h⟩
theorem jnI_bd (zs : List Int) (s : Int) : -1 ≤ jnI zs s ∧ jnI zs s < zs.length := by
  rcases jnI_cases (zs := zs) (s := s) with h | ⟨c, h, hc, _⟩ <;> omega
/-- The join, -1 for none. -/
def joinI (zs : List Int) (a b : Nat) : Int := jnI zs (upR zs a b)
theorem joinI_bd (zs : List Int) (a b : Nat) : -1 ≤ joinI zs a b ∧ joinI zs a b < zs.length := jnI_bd _ _
def isIt (zs : List Int) (a : Int) : Bool := inB a 0 ((zs.length : Int) - 1)
def joinR (zs : List Int) (a b : Int) : Int := if vo zs && (isIt zs a && isIt zs b) then joinI zs a.toNat b.toNat else -1
def meetR (zs : List Int) (a b : Int) : Int := if vo zs && (isIt zs a && isIt zs b) then joinI (du zs) a.toNat b.toNat else -1

/-- The items with one item next below. -/
def snB (zs : List Int) (a : Nat) : Bool := popI (topsTo zs ((du zs)[a]?.getD 0) zs.length) == 1
def snTo (zs : List Int) : Nat → Int
  | 0 => 0
  | a + 1 => if snB zs a then orI (snTo zs a) (powI a) else snTo zs a
theorem snTo_yes {zs : List Int} {a : Nat} (h : snB zs a = true) : snTo zs (a + 1) = orI (snTo zs a) (powI a) := by simp [snTo, h]
theorem snTo_no {zs : List Int} {a : Nat} (h : snB zs a = false) : snTo zs (a + 1) = snTo zs a := by simp [snTo, h]
theorem snTo_bd (zs : List Int) : ∀ k : Nat, 0 ≤ snTo zs k ∧ snTo zs k < powI k
  | 0 => by simp [snTo, powI]
  | k + 1 => by
    have h := snTo_bd zs k
    have hp : powI (k : Int) < powI ((k + 1 : Nat) : Int) := powI_lt (by omega)
    unfold snTo
    split
    · exact orI_bd h.1 (by omega) (Int.le_of_lt (powI_pos _)) hp
    · omega
theorem snTo_bit (zs : List Int) (j : Nat) : ∀ k : Nat, bitB (snTo zs k) j = (decide (j < k) && snB zs j)
  | 0 => by simp [snTo, bitB_zero]
  | k + 1 => by
    have ih := snTo_bit zs j k
    cases hs : snB zs k
    · rw [snTo_no hs, ih]
      by_cases e : j = k
      · subst e; simp [hs]
      · have : (j < k + 1) ↔ (j < k) := by omega
        simp [this]
    · rw [snTo_yes hs, bitB_or, ih, bitB_pow]
      by_cases e : j = k
      · subst e; simp [hs]
      · have h1 : (j < k + 1) ↔ (j < k) := by omega
        have h2 : ¬ k = j := by omega
        simp [h1, h2]
def singlesR (zs : List Int) : Int := if vo zs then snTo zs zs.length else -1
/-- What is next below an item: as the model takes it, and the tops of all below it. -/
theorem next_below {zs : List Int} (h : VoP zs) {a : Nat} (ha : a < zs.length) : coverTo (du zs) a zs.length = topsTo zs ((du zs)[a]?.getD 0) zs.length := by
  have hd := du_sets h.sets
  have hb := coverTo_bd hd (a := a) (by rw [du_len]; exact ha) zs.length
  refine bitB_ext hb.1 (topsTo_bd _ _ _).1 fun j => ?_
  rw [Bool.eq_iff_iff, coverTo_bit, topsTo_bit, Bool.and_eq_true, List.all_eq_true, andI_zero]
  constructor
  · rintro ⟨h1, h2⟩
    refine ⟨by rw [du_bit h.sets] at h1; exact bit_none h1, h1, fun b hb => ?_⟩
    have hbn : b < zs.length := by rw [du_bit h.sets] at hb; exact bit_none hb
    have := h2 b (by simpa using hbn)
    rw [hb, du_bit h.sets] at this
    simpa using this
  · rintro ⟨h1, h2, h3⟩
    refine ⟨h2, fun y hy => ?_⟩
    cases hb : bitB ((du zs)[a]?.getD 0) y
    · rfl
    · have := h3 y hb
      rw [du_bit h.sets, this]
      rfl

/-- A set of just the items at or below all those at or above all of it. -/
def cutI (zs : List Int) (s : Int) : Int := comTo (du zs) (comTo zs s zs.length) zs.length
def cutB (zs : List Int) (s : Int) : Bool := cutI zs s == s
def cutsR (zs : List Int) : List Int := if vo zs then setsTo (cutB zs) (2 ^ zs.length) else []

/-- The place of an item of s. -/
def plN (s : Nat) (a : Nat) : Nat := (popI (andI (s : Int) (powI a - 1))).toNat
theorem plN_fin : ∀ s : Fin 64, ∀ a : Fin 7, (popI (andI (s.val : Int) (powI (a.val : Int) - 1))).toNat = ((List.range a.val).filter fun j => s.val.testBit j).length := by decide +kernel
theorem plN_is {s a : Nat} (hs : s < 64) (ha : a ≤ 6) : plN s a = (leftL a s).length := plN_fin ⟨s, hs⟩ ⟨a, by omega⟩
theorem leftL_split {n s a : Nat} (ha : a < n) (hb : s.testBit a = true) : ∃ t, leftL n s = leftL a s ++ a :: t := by
  refine ⟨((List.range (n - (a + 1))).map (fun x => a + 1 + x)).filter fun j => s.testBit j, ?_⟩
  unfold leftL
  have e : List.range n = List.range a ++ a :: (List.range (n - (a + 1))).map (fun x => a + 1 + x) := by
    have h1 : n = (a + 1) + (n - (a + 1)) := by omega
    conv => lhs; rw [h1, List.range_add, List.range_succ]
    simp
  rw [e, List.filter_append, List.filter_cons, if_pos hb]
theorem pl_at {n s a : Nat} (hs : s < 64) (hn : n ≤ 6) (ha : a < n) (hb : s.testBit a = true) : plN s a < (leftL n s).length ∧ (leftL n s)[plN s a]?.getD 0 = a := by
  obtain ⟨t, e⟩ := leftL_split ha hb
  rw [e, plN_is hs (by omega)]
  simp
theorem left_pop_fin : ∀ n : Fin 7, ∀ s : Fin 64, s.val < 2 ^ n.val → (popI (s.val : Int)).toNat = ((List.range n.val).filter fun j => s.val.testBit j).length := by decide +kernel
theorem left_pop {n s : Nat} (hn : n ≤ 6) (hs : s < 2 ^ n) : popI (s : Int) = (leftL n s).length := by
  have h64 := Nat.lt_of_lt_of_le hs (pow_le64 hn)
  have h1 := left_pop_fin ⟨n, by omega⟩ ⟨s, h64⟩ hs
  have h2 := (popI_bd (s := (s : Int)) (by omega) (by omega)).1
  simp only at h1
  unfold leftL
  omega
/-- The pairs of a list of which s has both. -/
def ptB (s : Int) (p : Nat × Nat) : Bool := bitB s p.1 && bitB s p.2
def ptP (s : Nat) (ps : List (Nat × Nat)) : List (Nat × Nat) := (ps.filter (ptB s)).map fun p => (plN s p.2, plN s p.1)
theorem ptP_yes {s : Nat} {ps : List (Nat × Nat)} {a b : Nat} (h1 : bitB s a = true) (h2 : bitB s b = true) : ptP s (ps ++ [(a, b)]) = ptP s ps ++ [(plN s b, plN s a)] := by
  simp [ptP, ptB, List.filter_append, h1, h2]
theorem ptP_no {s : Nat} {ps : List (Nat × Nat)} {a b : Nat} (h : bitB s a = false ∨ bitB s b = false) : ptP s (ps ++ [(a, b)]) = ptP s ps := by
  rcases h with h | h <;> simp [ptP, ptB, List.filter_append, h]
def partR (zs : List Int) (s : Int) : List Int := if vo zs && inB s 0 (powI zs.length - 1) then ind zs (leftL zs.length s.toNat) else []
theorem part_is {zs : List Int} (h : VoP zs) {s : Nat} (hs : s < 2 ^ zs.length) : downP (leftL zs.length s).length (ptP s (pairsL zs)) = ind zs (leftL zs.length s) := by
  have h6 := h.1
  have h64 := Nat.lt_of_lt_of_le hs (pow_le64 h6)
  have hi := leftL_inc zs s
  have hps : ∀ p ∈ ptP s (pairsL zs), p.1 < (leftL zs.length s).length ∧ p.2 < (leftL zs.length s).length := by
    intro p hp
    unfold ptP at hp
    rw [List.mem_map] at hp
    obtain ⟨⟨x, y⟩, hxy, rfl⟩ := hp
    rw [List.mem_filter] at hxy
    obtain ⟨h1, h2⟩ := hxy
    unfold ptB at h2
    rw [Bool.and_eq_true, bit_cast, bit_cast] at h2
    exact ⟨(pl_at h64 h6 (bit_lt hs h2.2) h2.2).1, (pl_at h64 h6 (bit_lt hs h2.1) h2.1).1⟩
  refine List.ext_getElem? fun i => ?_
  rcases Nat.lt_or_ge i (leftL zs.length s).length with hil | hil
  · have e1 : (downP (leftL zs.length s).length (ptP s (pairsL zs)))[i]? = some ((downP (leftL zs.length s).length (ptP s (pairsL zs)))[i]?.getD 0) := by
      rw [List.getElem?_eq_getElem (by rw [downP_len]; exact hil)]; rfl
    have e2 : (ind zs (leftL zs.length s))[i]? = some ((ind zs (leftL zs.length s))[i]?.getD 0) := by
      rw [List.getElem?_eq_getElem (by rw [ind_len]; exact hil)]; rfl
    rw [e1, e2]
    congr 1
    refine bitB_ext (downP_bd (fun p hp => (hps p hp).1) i).1 ?_ fun j => ?_
    · have := (ind_vo h hi).bd i (by rw [ind_len]; exact hil); exact this.1
    · rw [Bool.eq_iff_iff, downP_bit (fun p hp => (hps p hp).2), ind_bit hil]
      unfold ptP
      rw [List.mem_map]
      constructor
      · rintro ⟨⟨x, y⟩, hxy, e⟩
        rw [List.mem_filter] at hxy
        obtain ⟨h1, h2⟩ := hxy
        unfold ptB at h2
        rw [Bool.and_eq_true, bit_cast, bit_cast] at h2
        have hx := pl_at h64 h6 (bit_lt hs h2.1) h2.1
        have hy := pl_at h64 h6 (bit_lt hs h2.2) h2.2
        injection e with e3 e4
        rw [← e3, ← e4]
        exact ⟨hy.1, by rw [hx.2, hy.2]; exact (mem_pairsL.1 h1).2.2⟩
      · rintro ⟨hj, hb⟩
        have hx : s.testBit ((leftL zs.length s)[i]?.getD 0) = true ∧ (leftL zs.length s)[i]?.getD 0 < zs.length := by
          have := List.getElem_mem (l := leftL zs.length s) hil
          rw [List.getElem?_eq_getElem hil]
          unfold leftL at this ⊢
          rw [List.mem_filter] at this
          exact ⟨this.2, by simpa using this.1⟩
        have hy : s.testBit ((leftL zs.length s)[j]?.getD 0) = true ∧ (leftL zs.length s)[j]?.getD 0 < zs.length := by
          have := List.getElem_mem (l := leftL zs.length s) hj
          rw [List.getElem?_eq_getElem hj]
          unfold leftL at this ⊢
          rw [List.mem_filter] at this
          exact ⟨this.2, by simpa using this.1⟩
        refine ⟨((leftL zs.length s)[i]?.getD 0, (leftL zs.length s)[j]?.getD 0), ?_, ?_⟩
        · rw [List.mem_filter]
          refine ⟨mem_pairsL.2 ⟨hx.2, by omega, hb⟩, ?_⟩
          unfold ptB
          rw [Bool.and_eq_true, bit_cast, bit_cast]
          exact ⟨hx.1, hy.1⟩
        · have h1 := pl_at h64 h6 hx.2 hx.1
          have h2 := pl_at h64 h6 hy.2 hy.1
          have e1 := hi.at_inj h1.1 hil h1.2
          have e2 := hi.at_inj h2.1 hj h2.2
          simp only
          rw [e1, e2]
  · rw [List.getElem?_eq_none (by rw [downP_len]; exact hil), List.getElem?_eq_none (by rw [ind_len]; exact hil)]
end Go.Proofs.Ytmlihbcffndnbaa

/- Ranks of lines, as plain mathematics: counted item by item, from what is done and from what is left. No program. -/
namespace Go.Proofs.Ytmlihbcffndnbaa

theorem or_fin : ∀ s : Fin 64, ∀ a : Fin 6, s.val.testBit a.val = false → orI (s.val : Int) (powI (a.val : Int)) = ((s.val + 2 ^ a.val : Nat) : Int) := by decide +kernel
theorem or_is {s a : Nat} (hs : s < 64) (ha : a < 6) (hb : s.testBit a = false) : orI (s : Int) (powI (a : Int)) = ((s + 2 ^ a : Nat) : Int) := or_fin ⟨s, hs⟩ ⟨a, ha⟩ hb
theorem com_bit {n s j : Nat} (hn : n ≤ 6) (hs : s < 2 ^ n) (hj : j < 6) : (2 ^ n - 1 - s).testBit j = (decide (j < n) && !s.testBit j) :=
  com_bit_fin ⟨n, by omega⟩ ⟨s, Nat.lt_of_lt_of_le hs (pow_le64 hn)⟩ hs ⟨j, hj⟩
theorem add_lt {n s a : Nat} (hn : n ≤ 6) (hs : s < 2 ^ n) (ha : a < n) (hb : s.testBit a = false) : s + 2 ^ a < 2 ^ n :=
  add_lt_fin ⟨n, by omega⟩ ⟨s, Nat.lt_of_lt_of_le hs (pow_le64 hn)⟩ ⟨a, by omega⟩ hs ha hb
theorem nextE_eF {zs : List Int} (h : VoP zs) {D a : Nat} (hD : D < 2 ^ zs.length) (ha : a < zs.length) : nextE zs D a = eF zs (2 ^ zs.length - 1 - D) a := by
  have hn6 := h.1
  rw [Bool.eq_iff_iff, eF_iff h]
  unfold nextE
  rw [Bool.and_eq_true, beq_iff_eq, less_zero, com_bit hn6 hD (by omega)]
  simp only [ha, decide_true, Bool.true_and]
  constructor
  · rintro ⟨h1, h2⟩
    refine ⟨h1, fun b hb => ?_⟩
    have hbn : b < zs.length := bit_lt (n := zs.length) (by omega) hb
    rw [com_bit hn6 hD (by omega), Bool.and_eq_true] at hb
    cases e : bitB (zs[b]?.getD 0) a
    · rfl
    · have := h2 b (by rw [du_bit h.sets]; exact e)
      rw [this] at hb; simp at hb
  · rintro ⟨h1, h2⟩
    refine ⟨h1, fun j hj => ?_⟩
    rw [du_bit h.sets] at hj
    have hjn := bit_none' hj
    cases e : D.testBit j
    · have := h2 j (by rw [com_bit hn6 hD (by omega), e]; simp [hjn])
      rw [hj] at this; cases this
    · rfl
/-- The lines that go on with a lesser item than 'item', with D done. -/
def rkIn (zs : List Int) (D item : Nat) : Nat := ((List.range item).map fun a => if nextE zs D a then cF zs (2 ^ zs.length - 1 - (D + 2 ^ a)) else 0).sum
theorem rkIn_succ (zs : List Int) (D a : Nat) : rkIn zs D (a + 1) = rkIn zs D a + (if nextE zs D a then cF zs (2 ^ zs.length - 1 - (D + 2 ^ a)) else 0) := by
  unfold rkIn
  rw [List.range_succ, List.map_append, List.sum_append]
  simp
theorem rkIn_le {zs : List Int} (h : VoP zs) (D : Nat) : ∀ a : Nat, rkIn zs D a ≤ a * 46656
  | 0 => by simp [rkIn]
  | a + 1 => by
    have ih := rkIn_le h D a
    have hp := Nat.two_pow_pos zs.length
    have h1 := cF_le h (s := 2 ^ zs.length - 1 - (D + 2 ^ a)) (Nat.lt_of_le_of_lt (Nat.sub_le _ _) (by omega))
    have h2 : (if nextE zs D a then cF zs (2 ^ zs.length - 1 - (D + 2 ^ a)) else 0) ≤ 46656 := by
      cases nextE zs D a
      · exact Nat.zero_le _
      · exact h1
    rw [rkIn_succ, Nat.add_mul]
    exact Nat.add_le_add ih (by rw [Nat.one_mul]; exact h2)
/-- As the program adds: over the items that may come next. -/
def accR (zs : List Int) (S item : Nat) (pre : List Nat) : Nat := ((pre.filter fun a => decide (a < item)).map fun a => cF zs (S - 2 ^ a)).sum
theorem accR_yes {zs : List Int} {S item x : Nat} {pre : List Nat} (h : x < item) : accR zs S item (pre ++ [x]) = accR zs S item pre + cF zs (S - 2 ^ x) := by
  unfold accR; rw [List.filter_append]; simp [h]
theorem accR_no {zs : List Int} {S item x : Nat} {pre : List Nat} (h : ¬ x < item) : accR zs S item (pre ++ [x]) = accR zs S item pre := by
  unfold accR; rw [List.filter_append]; simp [h]
theorem accR_all {zs : List Int} (h : VoP zs) {D item : Nat} (hD : D < 2 ^ zs.length) (hi : item ≤ zs.length) : accR zs (2 ^ zs.length - 1 - D) item (nextL zs (2 ^ zs.length - 1 - D)) = rkIn zs D item := by
  have e : (nextL zs (2 ^ zs.length - 1 - D)).filter (fun a => decide (a < item)) = (List.range item).filter (nextE zs D) := by
    rw [nextL_is h]
    refine inc_ext _ _ (((range_inc _).filter _).filter _) ((range_inc _).filter _) fun a => ?_
    rw [List.mem_filter, List.mem_filter, List.mem_filter, List.mem_range, List.mem_range, decide_eq_true_eq]
    constructor
    · rintro ⟨⟨h1, h2⟩, h3⟩
      exact ⟨h3, by rw [nextE_eF h hD h1]; exact h2⟩
    · rintro ⟨h1, h2⟩
      exact ⟨⟨by omega, by rw [← nextE_eF h hD (by omega)]; exact h2⟩, h1⟩
  unfold accR rkIn
  rw [e, sum_if]
  refine congrArg List.sum (List.map_congr_left fun a ha => ?_)
  rw [Nat.sub_sub]
theorem accR_le {zs : List Int} (h : VoP zs) {S item : Nat} (hS : S < 2 ^ zs.length) : ∀ pre : List Nat, accR zs S item pre ≤ pre.length * 46656 := fun pre => by
  have h1 : ∀ x ∈ pre.filter (fun a => decide (a < item)), cF zs (S - 2 ^ x) ≤ 46656 := fun x _ => cF_le h (Nat.lt_of_le_of_lt (Nat.sub_le _ _) hS)
  have h2 := sum_le _ h1
  have h3 := List.length_filter_le (fun a => decide (a < item)) pre
  unfold accR
  exact Nat.le_trans h2 (Nat.mul_le_mul_right _ h3)
/-- The count under way. -/
def midR (zs : List Int) (S item R : Nat) (pre : List Nat) : Nat := R + accR zs S item pre
/-- What is done, and the item at a place, as numbers that are none less than 0. -/
def dN (ls : List Int) (k : Nat) : Nat := (doneTo ls k).toNat
def itN (ls : List Int) (k : Nat) : Nat := (ls[k]?.getD 0).toNat
def rkUp (zs ls : List Int) : Nat → Nat
  | 0 => 0
  | k + 1 => rkUp zs ls k + rkIn zs (dN ls k) (itN ls k)
theorem line_steps {zs ls : List Int} (h : lineB zs ls = true) : ls.length = zs.length ∧ ∀ k, k < zs.length → stepOk zs ls k = true := by
  unfold lineB at h
  rw [Bool.and_eq_true, decide_eq_true_eq, List.all_eq_true] at h
  exact ⟨h.1, fun k hk => h.2 k (by rw [List.mem_range]; omega)⟩
section
variable {zs ls : List Int}
theorem it_is {k : Nat} (h : stepOk zs ls k = true) : ls[k]?.getD 0 = (itN ls k : Int) ∧ itN ls k < zs.length := by
  have := stepOk_in h
  unfold itN; omega
theorem d_is {k : Nat} (h : ∀ i, i < k → stepOk zs ls i = true) : doneTo ls k = (dN ls k : Int) ∧ dN ls k < 2 ^ zs.length := by
  have := doneTo_bd k h
  have e : powI (zs.length : Int) = ((2 ^ zs.length : Nat) : Int) := by simp [powI]
  unfold dN; omega
theorem d_new {k : Nat} (hk : ∀ i, i < k → stepOk zs ls i = true) (h : stepOk zs ls k = true) : (dN ls k).testBit (itN ls k) = false := by
  have := stepOk_new h
  rw [(it_is h).1, (d_is hk).1, bit_cast] at this
  exact this
theorem d_succ (hv : VoP zs) {k : Nat} (hk : ∀ i, i < k → stepOk zs ls i = true) (h : stepOk zs ls k = true) : dN ls (k + 1) = dN ls k + 2 ^ itN ls k := by
  have hn6 := hv.1
  have h1 := d_is hk
  have h2 := it_is h
  have h3 : doneTo ls (k + 1) = orI (doneTo ls k) (powI (ls[k]?.getD 0)) := rfl
  rw [h1.1, h2.1, or_is (Nat.lt_of_lt_of_le h1.2 (pow_le64 hn6)) (by omega) (d_new hk h)] at h3
  unfold dN at h3 ⊢
  rw [h3]; rfl
theorem left_com (hv : VoP zs) : ∀ k : Nat, (∀ i, i < k → stepOk zs ls i = true) → leftTo zs.length ls k = ((2 ^ zs.length - 1 - dN ls k : Nat) : Int) := fun k hk => by
  have hn6 := hv.1
  have h1 := d_is hk
  have hp := Nat.two_pow_pos zs.length
  have hb := leftTo_bd (n := zs.length) (ls := ls) k
  refine bitB_ext hb.1 (by omega) fun j => ?_
  rw [leftTo_bit j k hk, bit_cast, h1.1, bit_cast]
  rcases Nat.lt_or_ge j 6 with hj | hj
  · rw [com_bit hn6 h1.2 hj]
  · have h64 := pow_le64 hn6
    have e : (2 ^ zs.length - 1 - dN ls k).testBit j = false := Nat.testBit_lt_two_pow (Nat.lt_of_lt_of_le (show 2 ^ zs.length - 1 - dN ls k < 2 ^ 6 by omega) (Nat.pow_le_pow_right (by decide) hj))
    rw [e, decide_eq_false (by omega)]; rfl
theorem rkUp_le (hv : VoP zs) : ∀ k : Nat, (∀ i, i < k → stepOk zs ls i = true) → rkUp zs ls k ≤ k * 279936
  | 0, _ => by simp [rkUp]
  | k + 1, h => by
    have ih := rkUp_le hv k fun i hi => h i (by omega)
    have h1 := rkIn_le hv (dN ls k) (itN ls k)
    have h2 := (it_is (h k (by omega))).2
    have h3 := hv.1
    unfold rkUp
    omega
end
def rankR (zs ls : List Int) : Int := if isLineR zs ls then (rkUp zs ls ls.length : Int) else -1
end Go.Proofs.Ytmlihbcffndnbaa

/- Lists that take items of an order to items of an order: as both sides tell them. No program. -/
namespace Go.Proofs.Ytmlihbcffndnbaa
open Go.RowKit Go.Shelf

/-- Whether an item is another one, or below it. -/
def amB (ys : List Int) (a b : Nat) : Bool := a == b || bitB (ys[a]?.getD 0) b
theorem amB_up (ys : List Int) (a b : Nat) : bitB (atUp ys a) b = amB ys a b := by
  rw [atUp_bit]; unfold amB; rw [Bool.or_comm]; rfl
/-- Whether each number is an item. -/
def endsB (m : Nat) (fs : List Int) : Bool := fs.all fun y => inB y 0 ((m : Int) - 1)
def mpB (zs ys fs : List Int) : Bool := vo zs && (vo ys && (fs.length == zs.length && endsB ys.length fs))
/-- Whether a list, or its head, keeps the order. -/
def mpOk (ys fs : List Int) (p : Nat × Nat) : Bool := !decide (max p.1 p.2 < fs.length) || amB ys (itN fs p.1) (itN fs p.2)
def riB (zs ys fs : List Int) : Bool := (pairsL zs).all (mpOk ys fs)
def risB (zs ys fs : List Int) : Bool := mpB zs ys fs && riB zs ys fs
theorem ends_it {m : Nat} {fs : List Int} (h : endsB m fs = true) {k : Nat} (hk : k < fs.length) : fs[k]?.getD 0 = (itN fs k : Int) ∧ itN fs k < m := by
  have h1 := List.all_eq_true.1 h (fs[k]) (List.getElem_mem hk)
  have e : fs[k]?.getD 0 = fs[k] := by rw [List.getElem?_eq_getElem hk]; rfl
  simp only [inB, decide_eq_true_eq] at h1
  unfold itN
  rw [e]
  omega
theorem riB_iff {zs ys fs : List Int} (hv : Sets zs) : riB zs ys fs = true ↔ ∀ x y, x < zs.length → y < zs.length → bitB (zs[x]?.getD 0) y = true → x < fs.length → y < fs.length → amB ys (itN fs x) (itN fs y) = true := by
  unfold riB
  rw [List.all_eq_true]
  constructor
  · intro h x y hx hy hb h1 h2
    have := h (x, y) (mem_pairsL.2 ⟨hx, by have := hv.1; omega, hb⟩)
    unfold mpOk at this
    simp only [Bool.or_eq_true, Bool.not_eq_true', decide_eq_false_iff_not] at this
    rcases this with h3 | h3
    · omega
    · exact h3
  · rintro h ⟨x, y⟩ hp
    obtain ⟨h1, h2, h3⟩ := hv.pair hp
    unfold mpOk
    simp only [Bool.or_eq_true, Bool.not_eq_true', decide_eq_false_iff_not]
    by_cases hm : max x y < fs.length
    · exact .inr (h x y h1 h2 h3 (by omega) (by omega))
    · exact .inl hm
theorem mp_parts {zs ys fs : List Int} (h : mpB zs ys fs = true) : VoP zs ∧ VoP ys ∧ fs.length = zs.length ∧ endsB ys.length fs = true := by
  unfold mpB at h
  rw [Bool.and_eq_true, Bool.and_eq_true, Bool.and_eq_true] at h
  exact ⟨by simpa [vo] using h.1, by simpa [vo] using h.2.1, by simpa using h.2.2.1, h.2.2.2⟩
theorem mp_no1 {zs ys fs : List Int} (h : (vo zs && vo ys) = false) : mpB zs ys fs = false := by
  unfold mpB; rw [← Bool.and_assoc, h]; rfl
theorem mp_no2 {zs ys fs : List Int} (h : fs.length ≠ zs.length) : mpB zs ys fs = false := by
  unfold mpB; simp [h]
theorem mp_no3 {zs ys fs : List Int} (h : endsB ys.length fs = false) : mpB zs ys fs = false := by
  unfold mpB; rw [h]; simp
theorem mp_yes {zs ys fs : List Int} (h : vo zs = true) (h' : vo ys = true) (hl : fs.length = zs.length) (he : endsB ys.length fs = true) : mpB zs ys fs = true := by
  unfold mpB; rw [h, h', he]; simp [hl]
theorem ri_no {zs ys fs : List Int} {x y : Nat} (hv : Sets zs) (hx : x < zs.length) (hy : y < zs.length) (hb : bitB (zs[x]?.getD 0) y = true) (h1 : x < fs.length) (h2 : y < fs.length) (h : amB ys (itN fs x) (itN fs y) = false) : riB zs ys fs = false := by
  cases e : riB zs ys fs
  · rfl
  · rw [(riB_iff hv).1 e x y hx hy hb h1 h2] at h; cases h
/-- The items that a list leaves as they are. -/
def fixTo (fs : List Int) : Nat → Int
  | 0 => 0
  | k + 1 => if itN fs k == k then orI (fixTo fs k) (powI k) else fixTo fs k
theorem fixTo_bd (fs : List Int) : ∀ k : Nat, 0 ≤ fixTo fs k ∧ fixTo fs k < powI k := by
  intro k
  induction k with
  | zero => exact ⟨Int.le_refl _, powI_pos _⟩
  | succ k ih =>
    have hp := powI_lt (show k < k + 1 by omega)
    have hp0 := powI_pos (k : Int)
    unfold fixTo
    cases itN fs k == k
    · simp only [Bool.false_eq_true, if_false]
      exact ⟨ih.1, Int.lt_trans ih.2 hp⟩
    · simp only [if_true]
      exact orI_bd (n := ((k + 1 : Nat) : Int)) ih.1 (Int.lt_trans ih.2 hp) (Int.le_of_lt hp0) hp
theorem fixTo_bit (fs : List Int) (j : Nat) : ∀ k : Nat, bitB (fixTo fs k) j = (decide (j < k) && itN fs j == j) := by
  intro k
  induction k with
  | zero => simp [fixTo, bitB_zero]
  | succ k ih =>
    unfold fixTo
    cases h : itN fs k == k
    · simp only [Bool.false_eq_true, if_false]
      rw [ih]
      by_cases e : j = k
      · subst e; simp [h]
      · have : (j < k + 1) = (j < k) := by simp; omega
        simp only [this]
    · simp only [if_true]
      rw [bitB_or, ih, bitB_pow]
      by_cases e : j = k
      · subst e; simp [h]
      · have : (j < k + 1) = (j < k) := by simp; omega
        have h2 : ¬ k = j := fun e2 => e e2.symm
        simp [this, h2]
def fixedR (zs fs : List Int) : Int := if risB zs zs fs then fixTo fs zs.length else -1
end Go.Proofs.Ytmlihbcffndnbaa

/- Pairings: as both sides tell them. No program. -/
namespace Go.Proofs.Ytmlihbcffndnbaa
open Go.RowKit Go.Shelf
/-- Whether two lists tell each other. -/
def prB (zs ys fs gs : List Int) : Bool := (List.range fs.length).all fun x => (List.range gs.length).all fun y => amB ys (itN fs x) y == amB zs x (itN gs y)
theorem prB_iff {zs ys fs gs : List Int} : prB zs ys fs gs = true ↔ ∀ x y, x < fs.length → y < gs.length → amB ys (itN fs x) y = amB zs x (itN gs y) := by
  unfold prB
  simp only [List.all_eq_true, List.mem_range, beq_iff_eq]
  exact ⟨fun h x y hx hy => h x hx y hy, fun h x hx y hy => h x y hx hy⟩
theorem prB_no {zs ys fs gs : List Int} {x y : Nat} (hx : x < fs.length) (hy : y < gs.length) (h : amB ys (itN fs x) y ≠ amB zs x (itN gs y)) : prB zs ys fs gs = false := by
  cases e : prB zs ys fs gs
  · rfl
  · exact absurd (prB_iff.1 e x y hx hy) h
def pairB (zs ys fs gs : List Int) : Bool := mpB zs ys fs && (mpB ys zs gs && prB zs ys fs gs)
/-- The items that are taken to an end, or to one below it. -/
def enTo (ys fs : List Int) (y : Nat) : Nat → Int
  | 0 => 0
  | k + 1 => if amB ys (itN fs k) y then orI (enTo ys fs y k) (powI k) else enTo ys fs y k
theorem enTo_yes {ys fs : List Int} {y k : Nat} (h : amB ys (itN fs k) y = true) : enTo ys fs y (k + 1) = orI (enTo ys fs y k) (powI k) := by rw [enTo]; simp [h]
theorem enTo_no {ys fs : List Int} {y k : Nat} (h : amB ys (itN fs k) y = false) : enTo ys fs y (k + 1) = enTo ys fs y k := by rw [enTo]; simp [h]
theorem enTo_bd (ys fs : List Int) (y : Nat) : ∀ k : Nat, 0 ≤ enTo ys fs y k ∧ enTo ys fs y k < powI k := by
  intro k
  induction k with
  | zero => exact ⟨Int.le_refl _, powI_pos _⟩
  | succ k ih =>
    have hp := powI_lt (show k < k + 1 by omega)
    have hp0 := powI_pos (k : Int)
    cases h : amB ys (itN fs k) y
    · rw [enTo_no h]
      exact ⟨ih.1, Int.lt_trans ih.2 hp⟩
    · rw [enTo_yes h]
      exact orI_bd (n := ((k + 1 : Nat) : Int)) ih.1 (Int.lt_trans ih.2 hp) (Int.le_of_lt hp0) hp
theorem enTo_bit (ys fs : List Int) (y j : Nat) : ∀ k : Nat, bitB (enTo ys fs y k) j = (decide (j < k) && amB ys (itN fs j) y) := by
  intro k
  induction k with
  | zero => simp [enTo, bitB_zero]
  | succ k ih =>
    cases h : amB ys (itN fs k) y
    · rw [enTo_no h, ih]
      by_cases e : j = k
      · subst e; simp [h]
      · have : (j < k + 1) = (j < k) := by simp; omega
        simp only [this]
    · rw [enTo_yes h, bitB_or, ih, bitB_pow]
      by_cases e : j = k
      · subst e; simp [h]
      · have : (j < k + 1) = (j < k) := by simp; omega
        have h2 : ¬ k = j := fun e2 => e e2.symm
        simp [this, h2]
end Go.Proofs.Ytmlihbcffndnbaa

/- The list that makes a pairing: as both sides tell it. No program. -/
namespace Go.Proofs.Ytmlihbcffndnbaa
open Go.RowKit Go.Shelf
theorem am_iff {zs : List Int} {a b : Nat} (ha : a < zs.length) : amB zs a b = true ↔ a = b ∨ lt zs a b := by
  unfold amB lt
  rw [Bool.or_eq_true, beq_iff_eq]
  exact ⟨fun h => h.imp id fun h => ⟨ha, h⟩, fun h => h.imp id fun h => h.2⟩
theorem am_refl (zs : List Int) (a : Nat) : amB zs a a = true := by unfold amB; simp
theorem am_trans {zs : List Int} (hv : VoP zs) {a b c : Nat} (ha : a < zs.length) (hb : b < zs.length) (h1 : amB zs a b = true) (h2 : amB zs b c = true) : amB zs a c = true := by
  rw [am_iff ha] at h1 ⊢
  rw [am_iff hb] at h2
  rcases h1 with rfl | h1
  · exact h2
  · rcases h2 with rfl | h2
    · exact .inr h1
    · exact .inr (hv.trans h1 h2)
theorem am_anti {zs : List Int} (hv : VoP zs) {a b : Nat} (ha : a < zs.length) (hb : b < zs.length) (h1 : amB zs a b = true) (h2 : amB zs b a = true) : a = b := by
  rw [am_iff ha] at h1
  rw [am_iff hb] at h2
  rcases h1 with h1 | h1
  · exact h1
  · rcases h2 with h2 | h2
    · exact h2.symm
    · exact absurd (hv.trans h1 h2) hv.irr
theorem jn_du {zs : List Int} (hv : Sets zs) {s : Int} {g : Nat} : jnB (du zs) s g = true ↔ bitB s g = true ∧ ∀ j : Nat, bitB s j = true → amB zs j g = true := by
  unfold jnB
  rw [Bool.and_eq_true, beq_iff_eq, lessI_none]
  refine and_congr_right fun _ => forall_congr' fun j => imp_congr_right fun _ => ?_
  rw [atUp_bit, du_bit hv]
  unfold amB
  rw [Bool.or_comm, show decide (g = j) = (j == g) by
    by_cases e : g = j
    · subst e; simp
    · have e2 : ¬ j = g := fun x => e x.symm
      simp [e, e2]]
theorem jn_one {zs : List Int} (hv : VoP zs) {s : Int} {g g' : Nat} (hs : ∀ j : Nat, bitB s j = true → j < zs.length) (h : jnB (du zs) s g = true) (h' : jnB (du zs) s g' = true) : g = g' := by
  rw [jn_du hv.sets] at h h'
  exact am_anti hv (hs g h.1) (hs g' h'.1) (h'.2 g h.1) (h.2 g' h'.1)
/-- The item for an end, -1 for none. -/
def gI (zs ys fs : List Int) (y : Nat) : Int := jnI (du zs) (enTo ys fs y zs.length)
def gsTo (zs ys fs : List Int) (k : Nat) : List Int := (List.range k).map (gI zs ys fs)
def gAll (zs ys fs : List Int) : Bool := (List.range ys.length).all fun y => decide (0 ≤ gI zs ys fs y)
def poB (zs ys fs : List Int) : Bool := mpB zs ys fs && (riB zs ys fs && gAll zs ys fs)
def poR (zs ys fs : List Int) : List Int := if poB zs ys fs then gsTo zs ys fs ys.length else []
theorem gsTo_len (zs ys fs : List Int) (k : Nat) : (gsTo zs ys fs k).length = k := by simp [gsTo]
theorem gsTo_get (zs ys fs : List Int) {k y : Nat} (h : y < k) : (gsTo zs ys fs k)[y]?.getD 0 = gI zs ys fs y := by simp [gsTo, h]
theorem gsTo_succ (zs ys fs : List Int) (k : Nat) : gsTo zs ys fs (k + 1) = gsTo zs ys fs k ++ [gI zs ys fs k] := by simp [gsTo, List.range_succ]
theorem gAll_iff {zs ys fs : List Int} : gAll zs ys fs = true ↔ ∀ y, y < ys.length → 0 ≤ gI zs ys fs y := by
  unfold gAll; simp [List.all_eq_true]
theorem gAll_no {zs ys fs : List Int} {y : Nat} (hy : y < ys.length) (h : gI zs ys fs y < 0) : gAll zs ys fs = false := by
  cases e : gAll zs ys fs
  · rfl
  · have := gAll_iff.1 e y hy; omega
theorem gI_bd (zs ys fs : List Int) (y : Nat) : -1 ≤ gI zs ys fs y ∧ gI zs ys fs y < zs.length := by
  have := jnI_bd (du zs) (enTo ys fs y zs.length)
  rw [du_len] at this
  exact this
theorem gs_ends {zs ys fs : List Int} {k : Nat} (h : ∀ y, y < k → 0 ≤ gI zs ys fs y) : endsB zs.length (gsTo zs ys fs k) = true := by
  unfold endsB gsTo
  rw [List.all_eq_true]
  intro x hx
  obtain ⟨y, hy, rfl⟩ := List.mem_map.1 hx
  have := gI_bd zs ys fs y
  have := h y (List.mem_range.1 hy)
  unfold inB
  simp; omega
/-- What the item for an end is. -/
theorem gI_is {zs ys fs : List Int} (hv : VoP zs) {y : Nat} (h : 0 ≤ gI zs ys fs y) : (gI zs ys fs y).toNat < zs.length ∧ amB ys (itN fs (gI zs ys fs y).toNat) y = true ∧ ∀ x, x < zs.length → amB ys (itN fs x) y = true → amB zs x (gI zs ys fs y).toNat = true := by
  unfold gI at h ⊢
  rcases jnI_cases (zs := du zs) (s := enTo ys fs y zs.length) with ⟨e, _⟩ | ⟨c, e, hc, hb⟩
  · omega
  · rw [e]
    rw [du_len] at hc
    rw [jn_du hv.sets] at hb
    have h1 := hb.1
    rw [enTo_bit, Bool.and_eq_true] at h1
    refine ⟨by simpa using hc, by simpa using h1.2, fun x hx ha => ?_⟩
    have := hb.2 x (by rw [enTo_bit, ha]; simp [hx])
    simpa using this
theorem po_pr {zs ys fs : List Int} (hm : mpB zs ys fs = true) (hg : gAll zs ys fs = true) : prB zs ys fs (gsTo zs ys fs ys.length) = riB zs ys fs := by
  obtain ⟨hv, hvy, hl, he⟩ := mp_parts hm
  have hg' := gAll_iff.1 hg
  have hit : ∀ y, y < ys.length → itN (gsTo zs ys fs ys.length) y = (gI zs ys fs y).toNat := fun y hy => by unfold itN; rw [gsTo_get _ _ _ hy]
  rw [Bool.eq_iff_iff, prB_iff, riB_iff hv.sets, gsTo_len]
  constructor
  · intro h x x' hx hx' hb _ h2
    have hy := (ends_it he h2).2
    have h3 := gI_is (ys := ys) (fs := fs) (y := itN fs x') hv (hg' _ hy)
    have h4 := h3.2.2 x' hx' (am_refl _ _)
    rw [h x (itN fs x') (by omega) hy, hit _ hy]
    exact am_trans hv hx hx' (by unfold amB; rw [hb]; simp) h4
  · intro h x y hx hy
    rw [hit y hy, Bool.eq_iff_iff]
    have h3 := gI_is (ys := ys) (fs := fs) (y := y) hv (hg' y hy)
    constructor
    · exact h3.2.2 x (by omega)
    · intro h4
      rw [am_iff (by omega)] at h4
      rcases h4 with h4 | h4
      · rw [h4]; exact h3.2.1
      · have h5 := h x (gI zs ys fs y).toNat (by omega) h3.1 h4.2 hx (by omega)
        exact am_trans hvy (ends_it he hx).2 (ends_it he (show (gI zs ys fs y).toNat < fs.length by omega)).2 h5 h3.2.1
end Go.Proofs.Ytmlihbcffndnbaa

/- Lists that take items of an order to items of an order: the model's. -/
namespace Go.Proofs.Ytmlihbcffndnbaa
open Go.RowKit Go.Shelf
attribute [local go_sem] Oper.semAt_some
attribute [local go_sem, local simp] wide_fn

set_option maxRecDepth 100000 in
theorem satMost_any (A : Option Addr) (n c B : Nat) (zs : List Int) (a b : Nat) (w : World) (h : Ints w B A n zs) (hv : Sets zs) (ha : a < n) (hb : b < n) :
    Calls Try.prog 43 #[.slice A n c, .int .i64 (a : Int), .int .i64 (b : Int)] w fun e w' => e = .returned (.bool (amB zs a b)) ∧ w = w' := by
  have hlen := Lib.hid h.len
  have hn6 : n ≤ 6 := by have := hv.1; rw [hlen.out] at this; exact this
  obtain ⟨bl, off, rfl, _, hc⟩ := h.at_ ha
  have hca := hc a ha
  clear hc
  have hza := hv.bd a (by rw [hlen.out]; exact ha)
  have hpn := powI_le6 (n := (zs.length : Int)) (by rw [hlen.out]; omega)
  have hqb := fun w => bit_any (zs[a]?.getD 0) (b : Int) w (by omega) (by omega) (by omega) (by omega)
  have Hb1 := Lib.hid (bitI_one (zs[a]?.getD 0) b)
  go_enter Try.func43, Try.ntmps43
  by_cases hab : a = b
  · subst hab
    have Hv := Lib.hid (show amB zs a a = true by unfold amB; simp)
    go_wp2
    go_ret
    exact ⟨ret_bool (by rw [Hv.out]), rfl⟩
  · have hne : ¬ (a : Int) = (b : Int) := by omega
    have Hv := Lib.hid (show amB zs a b = bitB (zs[a]?.getD 0) b by unfold amB; simp [hab])
    go_wp2_with (go_at_call 46; refine (hqb _).mono ?_; rintro e w' ⟨rfl, rfl⟩)
    go_ret
    exact ⟨ret_bool (by rw [Hv.out, ← Hb1.out]; simp [hne]), rfl⟩

set_option maxRecDepth 100000 in
set_option maxHeartbeats 1000000 in
theorem svalidMap_any (A : Option Addr) (n c : Nat) (zs : List Int) (A' : Option Addr) (m c' : Nat) (ys : List Int) (F : Option Addr) (k cf : Nat) (fs : List Int) (w : World) (h : Ints w w.heap.size A n zs) (h' : Ints w w.heap.size A' m ys) (hf : Ints w w.heap.size F k fs)
    (hbig : n ≤ 1152921504606846976) (hbig' : m ≤ 1152921504606846976) (hbigf : k ≤ 1152921504606846976) :
    Calls Try.prog 34 #[.slice A n c, .slice A' m c', .slice F k cf] w fun e w' => e = .returned (.bool (mpB zs ys fs)) ∧ ∃ q, w' = w.drewN q := by
  have hlen := Lib.hid h.len
  have hlen' := Lib.hid h'.len
  have hlenf := Lib.hid hf.len
  go_enter Try.func34, Try.ntmps34
  go_wp2
  go_loopw [7] (fun i wr => ∃ j : Nat, j ≤ k ∧ i = .int .i64 j ∧ (∀ x, x < j → inB (fs[x]?.getD 0) 0 ((m : Int) - 1) = true) ∧ wr = w) (fun i _ => k - (intOf i).toNat)
  case atStart => exact ⟨0, by omega, rfl, fun x hx => by omega, rfl⟩
  case round =>
    obtain ⟨j, hj, rfl, hall, rfl⟩ := hrel
    have Hall := Lib.hid hall
    clear hall
    by_cases hlt : j < k
    · obtain ⟨bl, off, rfl, _, hc⟩ := hf.at_ hlt
      have hcj := hc j hlt
      clear hc
      have hr := fun y w => inRange_any y 0 ((m : Int) - 1) w
      have hwm : IntKind.i64.wrap ((m : Int) - 1) = (m : Int) - 1 := by rw [IntKind.wrap_i64]; omega
      cases hb : inB (fs[j]?.getD 0) 0 ((m : Int) - 1)
      · have Hn := Lib.hid (show mpB zs ys fs = false from mp_no3 (by
          cases e : endsB ys.length fs
          · rfl
          · have h1 := List.all_eq_true.1 e (fs[j]?.getD 0) (by rw [List.getElem?_eq_getElem (by rw [hlenf.out]; exact hlt)]; exact List.getElem_mem _)
            rw [hlen'.out, hb] at h1; cases h1))
        have Hb := Lib.hid hb
        clear hb
        go_wp2_with (go_at_call 57; refine (hr _ _).mono ?_; rw [Hb.out]; rintro e w' ⟨rfl, rfl⟩)
        go_ret
        exact ⟨ret_bool Hn.out.symm, 0, rfl⟩
      · have Hb := Lib.hid hb
        clear hb
        go_wp2_with (go_at_call 57; refine (hr _ _).mono ?_; rw [Hb.out]; rintro e w' ⟨rfl, rfl⟩)
        go_roundw
        case rel => exact ⟨j + 1, by omega, by go_num, all_snoc Hall.out Hb.out, trivial⟩
        case measure => simp [intOf]; omega
    · obtain rfl : j = k := by omega
      have He := Lib.hid (show endsB ys.length fs = true from List.all_eq_true.2 (fun y hy => by
        obtain ⟨x, hx, rfl⟩ := List.getElem_of_mem hy
        have := Hall.out x (by rw [← hlenf.out]; exact hx)
        rw [List.getElem?_eq_getElem hx] at this
        rw [hlen'.out]
        exact this))
      clear hlt hj
      cases hv : vo zs
      · have Hn := Lib.hid (show mpB zs ys fs = false from mp_no1 (by rw [hv]; rfl))
        go_wp2_with fail
        refine (validOrder_any _ _ _ _ zs _ h hbig).mono ?_
        rw [hv]
        rintro e w' ⟨rfl, q, rfl⟩
        go_wp2_with fail
        go_ret
        exact ⟨ret_bool Hn.out.symm, q, rfl⟩
      · have Hv := Lib.hid hv
        clear hv
        go_wp2_with fail
        refine (validOrder_any _ _ _ _ zs _ h hbig).mono ?_
        rw [Hv.out]
        rintro e w' ⟨rfl, q, rfl⟩
        cases hv : vo ys
        · have Hn := Lib.hid (show mpB zs ys fs = false from mp_no1 (by rw [hv, Hv.out]; rfl))
          go_wp2_with fail
          refine (validOrder_any _ _ _ _ ys _ (h'.drewN q) hbig').mono ?_
          rw [hv]
          rintro e w' ⟨rfl, q2, rfl⟩
          go_wp2_with fail
          go_ret
          exact ⟨ret_bool Hn.out.symm, _, rfl⟩
        · have Hv2 := Lib.hid hv
          clear hv
          go_wp2_with fail
          refine (validOrder_any _ _ _ _ ys _ (h'.drewN q) hbig').mono ?_
          rw [Hv2.out]
          rintro e w' ⟨rfl, q2, rfl⟩
          by_cases hkn : j = n
          · have Hn := Lib.hid (show mpB zs ys fs = true from mp_yes Hv.out Hv2.out (by rw [hlen.out, hlenf.out]; exact hkn) He.out)
            have hkn2 : (j : Int) = (n : Int) := by omega
            clear hkn
            go_wp2_with fail
            go_ret
            exact ⟨ret_bool (by first | (rw [Hn.out]; done) | simp [Hn.out, hkn2]), _, rfl⟩
          · have Hn := Lib.hid (show mpB zs ys fs = false from mp_no2 (by rw [hlen.out, hlenf.out]; exact hkn))
            have hkn2 : ¬ (j : Int) = (n : Int) := by omega
            clear hkn
            go_wp2_with fail
            go_ret
            exact ⟨ret_bool (by first | (rw [Hn.out]; done) | simp [Hn.out, hkn2]), _, rfl⟩

set_option maxRecDepth 100000 in
set_option maxHeartbeats 1000000 in
theorem sisRising_any (A : Option Addr) (n c : Nat) (zs : List Int) (A' : Option Addr) (m c' : Nat) (ys : List Int) (F : Option Addr) (cf B : Nat) (fs : List Int) (w : World) (h : Ints w B A n zs) (h' : Ints w B A' m ys) (hf : Ints w B F n fs)
    (hv : Sets zs) (hv' : Sets ys) (he : endsB m fs = true) :
    Calls Try.prog 35 #[.slice A n c, .slice A' m c', .slice F n cf] w fun e w' => e = .returned (.bool (riB zs ys fs)) ∧ ∃ q, w' = w.drewN q := by
  have hlen := Lib.hid h.len
  have hlen' := Lib.hid h'.len
  have hlenf := Lib.hid hf.len
  have hn6 : n ≤ 6 := by have := hv.1; rw [hlen.out] at this; exact this
  have hm6 : m ≤ 6 := by have := hv'.1; rw [hlen'.out] at this; exact this
  have hpn := powI_le6 (n := (zs.length : Int)) (by rw [hlen.out]; omega)
  go_enter Try.func35, Try.ntmps35
  go_wp2
  go_loopw [7, 8] (fun i _ wr => ∃ a q : Nat, a ≤ n ∧ i = .int .i64 a ∧ (∀ x, x < a → ∀ y, y < n → bitB (zs[x]?.getD 0) y = true → amB ys (itN fs x) (itN fs y) = true) ∧ wr = w.drewN q) (fun i _ _ => n - (intOf i).toNat)
  case atStart => exact ⟨0, 0, by omega, rfl, fun x hx => by omega, rfl⟩
  case round =>
    obtain ⟨a, q, ha, rfl, hall, rfl⟩ := hrel
    have Hall := Lib.hid hall
    clear hall
    by_cases hlt : a < n
    · go_wp2
      go_loopw [8] (fun i wr => ∃ b q : Nat, b ≤ n ∧ i = .int .i64 b ∧ (∀ y, y < b → bitB (zs[a]?.getD 0) y = true → amB ys (itN fs a) (itN fs y) = true) ∧ wr = w.drewN q) (fun i _ => n - (intOf i).toNat)
      case atStart => exact ⟨0, q, by omega, rfl, fun x hx => by omega, rfl⟩
      case round =>
        obtain ⟨b, q, hb, rfl, hall, rfl⟩ := hrel
        have Hin := Lib.hid hall
        clear hall
        by_cases hbn : b < n
        · obtain ⟨bl, off, rfl, _, hc⟩ := h.at_ hlt
          have hca := hc a hlt
          obtain ⟨bf, off', rfl, _, hcf⟩ := hf.at_ hlt
          have hfa := hcf a hlt
          have hfb := hcf b hbn
          have hz := hv.bd a (by rw [hlen.out]; exact hlt)
          obtain ⟨e1, l1⟩ := ends_it he (k := a) (by rw [hlenf.out]; exact hlt)
          obtain ⟨e2, l2⟩ := ends_it he (k := b) (by rw [hlenf.out]; exact hbn)
          rw [e1] at hfa
          rw [e2] at hfb
          clear hc hcf e1 e2
          have hqt := fun w => bit_any (zs[a]?.getD 0) (b : Int) w (by omega) (by omega) (by omega) (by omega)
          have hqm := fun q => satMost_any A' m c' B ys (itN fs a) (itN fs b) (w.drewN q) (h'.drewN q) hv' l1 l2
          cases hbt : bitB (zs[a]?.getD 0) b
          · have hbi : (bitI (zs[a]?.getD 0) b == 1) = false := by rw [bitI_one, hbt]
            have Hn := Lib.hid (show bitB (zs[a]?.getD 0) b = true → amB ys (itN fs a) (itN fs b) = true from fun e => by rw [hbt] at e; cases e)
            go_wp2
            go_quiet ((first | (go_at_call 46; exact quiet_add_left (hqt _)) | (go_at_call 43; exact quiet_add_left (hqm _))))
            go_wp2
            go_roundw
            case rel => exact ⟨b + 1, _, by omega, by go_num, all_snoc Hin.out Hn.out, rfl⟩
            case measure => simp [intOf]; omega
          · have hbi : (bitI (zs[a]?.getD 0) b == 1) = true := by rw [bitI_one, hbt]
            cases ham : amB ys (itN fs a) (itN fs b)
            · have Hn := Lib.hid (ri_no hv (by rw [hlen.out]; exact hlt) (by rw [hlen.out]; exact hbn) hbt (by rw [hlenf.out]; exact hlt) (by rw [hlenf.out]; exact hbn) ham)
              rw [ham] at hqm
              go_wp2
              go_quiet ((first | (go_at_call 46; exact quiet_add_left (hqt _)) | (go_at_call 43; exact quiet_add_left (hqm _))))
              go_wp2
              go_ret
              exact ⟨ret_bool Hn.out.symm, _, World.drewN_drewN ..⟩
            · have Hn := Lib.hid (show bitB (zs[a]?.getD 0) b = true → amB ys (itN fs a) (itN fs b) = true from fun _ => ham)
              rw [ham] at hqm
              go_wp2
              go_quiet ((first | (go_at_call 46; exact quiet_add_left (hqt _)) | (go_at_call 43; exact quiet_add_left (hqm _))))
              go_wp2
              go_roundw
              case rel => exact ⟨b + 1, _, by omega, by go_num, all_snoc Hin.out Hn.out, rfl⟩
              case measure => simp [intOf]; omega
        · obtain rfl : b = n := by omega
          go_wp2
          go_roundw
          case rel => exact ⟨a + 1, q, by omega, by go_num, all_snoc Hall.out Hin.out, rfl⟩
          case measure => simp [intOf]; omega
    · obtain rfl : a = n := by omega
      have Hn := Lib.hid (show riB zs ys fs = true from (riB_iff hv).2 fun x y hx hy hb _ _ => Hall.out x (by rw [← hlen.out]; exact hx) y (by rw [← hlen.out]; exact hy) hb)
      go_wp2
      go_ret
      exact ⟨ret_bool Hn.out.symm, q, rfl⟩
end Go.Proofs.Ytmlihbcffndnbaa

/- IsPairing: the model's, whole. -/
namespace Go.Proofs.Ytmlihbcffndnbaa
open Go.RowKit Go.Shelf
attribute [local go_sem] Oper.semAt_some
attribute [local go_sem, local simp] wide_fn

set_option maxRecDepth 100000 in
set_option maxHeartbeats 4000000 in
theorem specIsPairingF_any (A : Option Addr) (n c : Nat) (zs : List Int) (A' : Option Addr) (m c' : Nat) (ys : List Int) (F : Option Addr) (k cf : Nat) (fs : List Int) (G : Option Addr) (l cg : Nat) (gs : List Int) (w : World) (h : Ints w w.heap.size A n zs) (h' : Ints w w.heap.size A' m ys) (hf : Ints w w.heap.size F k fs) (hg : Ints w w.heap.size G l gs)
    (hbig : n ≤ 1152921504606846976) (hbig' : m ≤ 1152921504606846976) (hbigf : k ≤ 1152921504606846976) (hbigg : l ≤ 1152921504606846976) :
    Calls Try.prog 20 #[.slice A n c, .slice A' m c', .slice F k cf, .slice G l cg] w fun e w' => e = .returned (.bool (pairB zs ys fs gs)) ∧ Below w.heap.size w w' := by
  have hlen := Lib.hid h.len
  have hlen' := Lib.hid h'.len
  have hlenf := Lib.hid hf.len
  have hleng := Lib.hid hg.len
  go_enter Try.func20, Try.ntmps20
  cases hm : mpB zs ys fs
  · have Hn := Lib.hid (show pairB zs ys fs gs = false by unfold pairB; rw [hm]; rfl)
    go_wp2_with fail
    refine (svalidMap_any A n c zs A' m c' ys F k cf fs w h h' hf hbig hbig' hbigf).mono ?_
    rw [hm]
    rintro e w' ⟨rfl, q, rfl⟩
    clear hm
    go_wp2_with fail
    go_ret
    exact ⟨ret_bool (by first | (rw [Hn.out]; done) | simp [Hn.out]), below_drewN (Below.refl _ _) q⟩
  · have Hm := Lib.hid hm
    obtain ⟨hvo, hvy, hln, hen⟩ := mp_parts hm
    rw [hlen.out, hlenf.out] at hln
    subst hln
    rw [hlen'.out] at hen
    have hn6 : k ≤ 6 := by have := hvo.1; rw [hlen.out] at this; exact this
    have hm6 : m ≤ 6 := by have := hvy.1; rw [hlen'.out] at this; exact this
    clear hm
    cases hm2 : mpB ys zs gs
    · have Hn := Lib.hid (show pairB zs ys fs gs = false by unfold pairB; rw [hm2]; simp)
      go_wp2_with fail
      refine (svalidMap_any A k c zs A' m c' ys F k cf fs w h h' hf hbig hbig' hbigf).mono ?_
      rw [Hm.out]
      rintro e w' ⟨rfl, q, rfl⟩
      go_wp2_with fail
      refine (svalidMap_any A' m c' ys A k c zs G l cg gs (w.drewN q) (h'.drewN q) (h.drewN q) (hg.drewN q) hbig' hbig hbigg).mono ?_
      rw [hm2]
      rintro e w' ⟨rfl, q2, rfl⟩
      clear hm2
      go_wp2_with fail
      go_ret
      exact ⟨ret_bool (by first | (rw [Hn.out]; done) | simp [Hn.out]), below_drewN (Below.refl _ _) _⟩
    · have Hm2 := Lib.hid hm2
      obtain ⟨-, -, hlm, hen2⟩ := mp_parts hm2
      rw [hlen'.out, hleng.out] at hlm
      subst hlm
      rw [hlen.out] at hen2
      clear hm2
      go_wp2_with fail
      refine (svalidMap_any A k c zs A' l c' ys F k cf fs w h h' hf hbig hbig' hbigf).mono ?_
      rw [Hm.out]
      rintro e w' ⟨rfl, q, rfl⟩
      go_wp2_with fail
      refine (svalidMap_any A' l c' ys A k c zs G l cg gs (w.drewN q) (h'.drewN q) (h.drewN q) (hg.drewN q) hbig' hbig hbigg).mono ?_
      rw [Hm2.out]
      rintro e w' ⟨rfl, q2, rfl⟩
      go_wp2_with fail
      have hA1 : Ints (w.drewN (q + q2)) w.heap.size A k zs := h.drewN (q + q2)
      have hB1 : Ints (w.drewN (q + q2)) w.heap.size A' l ys := h'.drewN (q + q2)
      have hF1 : Ints (w.drewN (q + q2)) w.heap.size F k fs := hf.drewN (q + q2)
      have hG1 : Ints (w.drewN (q + q2)) w.heap.size G l gs := hg.drewN (q + q2)
      have kB : Below w.heap.size w (w.drewN (q + q2)) := below_drewN (Below.refl _ _) (q + q2)
      have hsv := hvo.sets
      have hsy := hvy.sets
      generalize w.drewN (q + q2) = w1 at *
      clear h h' hf hg hvo hvy
      go_loopw [9, 10] (fun i _ wr => ∃ x q : Nat, x ≤ k ∧ i = .int .i64 x ∧ (∀ a, a < x → ∀ b, b < l → amB ys (itN fs a) b = amB zs a (itN gs b)) ∧ wr = w1.drewN q) (fun i _ _ => k - (intOf i).toNat)
      case atStart => exact ⟨0, 0, by omega, rfl, fun a ha => by omega, rfl⟩
      case round =>
        obtain ⟨x, q, hx, rfl, hall, rfl⟩ := hrel
        have Hall := Lib.hid hall
        clear hall
        by_cases hlt : x < k
        · go_wp2
          go_loopw [10] (fun i wr => ∃ y q : Nat, y ≤ l ∧ i = .int .i64 y ∧ (∀ b, b < y → amB ys (itN fs x) b = amB zs x (itN gs b)) ∧ wr = w1.drewN q) (fun i _ => l - (intOf i).toNat)
          case atStart => exact ⟨0, q, by omega, rfl, fun a ha => by omega, rfl⟩
          case round =>
            obtain ⟨y, q, hy, rfl, hin, rfl⟩ := hrel
            have Hin := Lib.hid hin
            clear hin
            by_cases hly : y < l
            · obtain ⟨bf, off, rfl, _, hcf⟩ := hF1.at_ hlt
              have hfx := hcf x hlt
              obtain ⟨bg, off', rfl, _, hcg⟩ := hG1.at_ hly
              have hgy := hcg y hly
              obtain ⟨e1, l1⟩ := ends_it hen (k := x) (by rw [hlenf.out]; exact hlt)
              obtain ⟨e2, l2⟩ := ends_it hen2 (k := y) (by rw [hleng.out]; exact hly)
              rw [e1] at hfx
              rw [e2] at hgy
              clear hcf hcg e1 e2
              have hq1 := Lib.hid (fun q => satMost_any A' l c' _ ys (itN fs x) y (w1.drewN q) (hB1.drewN q) hsy l1 hly)
              have hq2 := Lib.hid (fun q => satMost_any A k c _ zs x (itN gs y) (w1.drewN q) (hA1.drewN q) hsv hlt l2)
              by_cases heq : amB ys (itN fs x) y = amB zs x (itN gs y)
              · have Hq := Lib.hid heq
                rw [heq] at hq1
                clear heq
                obtain ⟨b2, hb2⟩ : ∃ b2, amB zs x (itN gs y) = b2 := ⟨_, rfl⟩
                rw [hb2] at hq1 hq2
                clear hb2
                go_wp2
                go_quiet ((go_at_call 43; first | (with_reducible exact quiet_add_left (hq1.out _)) | (with_reducible exact quiet_add_left (hq2.out _)) | exact quiet_add_left (hq1.out _) | exact quiet_add_left (hq2.out _)))
                go_wp2
                go_roundw
                case rel => exact ⟨y + 1, _, by omega, by go_num, all_snoc Hin.out Hq.out, rfl⟩
                case measure => simp [intOf]; omega
              · have Hn := Lib.hid (show pairB zs ys fs gs = false by unfold pairB; rw [prB_no (zs := zs) (ys := ys) (fs := fs) (gs := gs) (x := x) (y := y) (by rw [hlenf.out]; exact hlt) (by rw [hleng.out]; exact hly) heq]; simp)
                obtain ⟨b1, hb1⟩ : ∃ b1, amB ys (itN fs x) y = b1 := ⟨_, rfl⟩
                obtain ⟨b2, hb2⟩ : ∃ b2, amB zs x (itN gs y) = b2 := ⟨_, rfl⟩
                rw [hb1] at hq1 heq
                rw [hb2] at hq2 heq
                obtain rfl : b1 = !b2 := by cases b1 <;> cases b2 <;> simp_all
                clear hb1 hb2 heq
                go_wp2
                go_quiet ((go_at_call 43; first | (with_reducible exact quiet_add_left (hq1.out _)) | (with_reducible exact quiet_add_left (hq2.out _)) | exact quiet_add_left (hq1.out _) | exact quiet_add_left (hq2.out _)))
                go_wp2
                go_ret
                exact ⟨ret_bool Hn.out.symm, by first | exact below_drewN kB _ | exact below_drewN (below_drewN kB _) _⟩
            · obtain rfl : y = l := by omega
              go_wp2
              go_roundw
              case rel => exact ⟨x + 1, q, by omega, by go_num, all_snoc Hall.out Hin.out, rfl⟩
              case measure => simp [intOf]; omega
        · obtain rfl : x = k := by omega
          have Hn := Lib.hid (show pairB zs ys fs gs = true by
            unfold pairB
            rw [Hm.out, Hm2.out, prB_iff.2 (fun a b ha hb => Hall.out a (by rw [← hlenf.out]; exact ha) b (by rw [← hleng.out]; exact hb))]
            rfl)
          go_wp2
          go_ret
          exact ⟨ret_bool Hn.out.symm, below_drewN kB q⟩
end Go.Proofs.Ytmlihbcffndnbaa

/- IsRising, FixedOf: the model's, whole. -/
namespace Go.Proofs.Ytmlihbcffndnbaa
open Go.RowKit Go.Shelf
attribute [local go_sem] Oper.semAt_some
attribute [local go_sem, local simp] wide_fn

set_option maxRecDepth 100000 in
set_option maxHeartbeats 1000000 in
theorem specIsRisingF_any (A : Option Addr) (n c : Nat) (zs : List Int) (A' : Option Addr) (m c' : Nat) (ys : List Int) (F : Option Addr) (k cf : Nat) (fs : List Int) (w : World) (h : Ints w w.heap.size A n zs) (h' : Ints w w.heap.size A' m ys) (hf : Ints w w.heap.size F k fs)
    (hbig : n ≤ 1152921504606846976) (hbig' : m ≤ 1152921504606846976) (hbigf : k ≤ 1152921504606846976) :
    Calls Try.prog 12 #[.slice A n c, .slice A' m c', .slice F k cf] w fun e w' => e = .returned (.bool (risB zs ys fs)) ∧ Below w.heap.size w w' := by
  have hlen := Lib.hid h.len
  have hlen' := Lib.hid h'.len
  have hlenf := Lib.hid hf.len
  go_enter Try.func12, Try.ntmps12
  cases hm : mpB zs ys fs
  · have Hn := Lib.hid (show risB zs ys fs = false by unfold risB; rw [hm]; rfl)
    go_wp2_with fail
    refine (svalidMap_any A n c zs A' m c' ys F k cf fs w h h' hf hbig hbig' hbigf).mono ?_
    rw [hm]
    rintro e w' ⟨rfl, q, rfl⟩
    clear hm
    go_wp2_with fail
    go_ret
    exact ⟨ret_bool (by first | (rw [Hn.out]; done) | simp [Hn.out]), below_drewN (Below.refl _ _) q⟩
  · obtain ⟨hvo, hvy, hln, hen⟩ := mp_parts hm
    rw [hlen.out, hlenf.out] at hln
    subst hln
    rw [hlen'.out] at hen
    have Hm := Lib.hid hm
    clear hm
    have Hr := Lib.hid (fun q => sisRising_any A k c zs A' m c' ys F cf w.heap.size fs (w.drewN q) (h.drewN q) (h'.drewN q) (hf.drewN q) hvo.sets hvy.sets hen)
    have Hn := Lib.hid (show risB zs ys fs = riB zs ys fs by unfold risB; rw [Hm.out]; rfl)
    go_wp2_with fail
    refine (svalidMap_any A k c zs A' m c' ys F k cf fs w h h' hf hbig hbig' hbigf).mono ?_
    rw [Hm.out]
    rintro e w' ⟨rfl, q, rfl⟩
    go_wp2_with fail
    refine (Hr.out q).mono ?_
    rintro e w' ⟨rfl, q2, rfl⟩
    go_wp2_with fail
    go_ret
    exact ⟨ret_bool (by first | (rw [Hn.out]; done) | simp [Hn.out]), below_drewN (Below.refl _ _) _⟩

set_option maxRecDepth 100000 in
set_option maxHeartbeats 1000000 in
theorem specFixedOfF_any (A : Option Addr) (n c : Nat) (zs : List Int) (F : Option Addr) (k cf : Nat) (fs : List Int) (w : World) (h : Ints w w.heap.size A n zs) (hf : Ints w w.heap.size F k fs)
    (hbig : n ≤ 1152921504606846976) (hbigf : k ≤ 1152921504606846976) :
    Calls Try.prog 18 #[.slice A n c, .slice F k cf] w fun e w' => e = .returned (.int .i64 (fixedR zs fs)) ∧ Below w.heap.size w w' := by
  have hlen := Lib.hid h.len
  have hlenf := Lib.hid hf.len
  go_enter Try.func18, Try.ntmps18
  cases hm : mpB zs zs fs
  · have Hn := Lib.hid (show fixedR zs fs = -1 by unfold fixedR risB; rw [hm]; rfl)
    go_wp2_with fail
    refine (svalidMap_any A n c zs A n c zs F k cf fs w h h hf hbig hbig hbigf).mono ?_
    rw [hm]
    rintro e w' ⟨rfl, q, rfl⟩
    clear hm
    go_wp2_with fail
    go_ret
    exact ⟨ret_int Hn.out.symm, below_drewN (Below.refl _ _) q⟩
  · obtain ⟨hvo, hvy, hln, hen⟩ := mp_parts hm
    rw [hlen.out, hlenf.out] at hln
    subst hln
    rw [hlen.out] at hen
    have hk6 : k ≤ 6 := by have := hvo.1; rw [hlen.out] at this; exact this
    have Hm := Lib.hid hm
    clear hm
    have Hr := Lib.hid (fun q => sisRising_any A k c zs A k c zs F cf w.heap.size fs (w.drewN q) (h.drewN q) (h.drewN q) (hf.drewN q) hvo.sets hvy.sets hen)
    cases hr : riB zs zs fs
    · have Hn := Lib.hid (show fixedR zs fs = -1 by unfold fixedR risB; rw [Hm.out, hr]; rfl)
      rw [hr] at Hr
      clear hr
      go_wp2_with fail
      refine (svalidMap_any A k c zs A k c zs F k cf fs w h h hf hbig hbig hbigf).mono ?_
      rw [Hm.out]
      rintro e w' ⟨rfl, q, rfl⟩
      go_wp2_with fail
      refine (Hr.out q).mono ?_
      rintro e w' ⟨rfl, q2, rfl⟩
      go_wp2_with fail
      go_ret
      exact ⟨ret_int Hn.out.symm, below_drewN (Below.refl _ _) _⟩
    · have Hn := Lib.hid (show fixedR zs fs = fixTo fs k by unfold fixedR risB; rw [Hm.out, hr, hlen.out]; rfl)
      rw [hr] at Hr
      clear hr
      go_wp2_with fail
      refine (svalidMap_any A k c zs A k c zs F k cf fs w h h hf hbig hbig hbigf).mono ?_
      rw [Hm.out]
      rintro e w' ⟨rfl, q, rfl⟩
      go_wp2_with fail
      refine (Hr.out q).mono ?_
      rintro e w' ⟨rfl, q2, rfl⟩
      go_wp2_with fail
      have hF2 : Ints (w.drewN (q + q2)) w.heap.size F k fs := hf.drewN (q + q2)
      have kB : Below w.heap.size w (w.drewN (q + q2)) := below_drewN (Below.refl _ _) (q + q2)
      generalize w.drewN (q + q2) = w1 at *
      clear Hr
      go_loopw [5, 6] (fun s i wr => ∃ j q : Nat, j ≤ k ∧ i = .int .i64 j ∧ s = .int .i64 (fixTo fs j) ∧ wr = w1.drewN q) (fun _ i _ => k - (intOf i).toNat)
      case atStart => exact ⟨0, 0, by omega, rfl, rfl, rfl⟩
      case round =>
        obtain ⟨j, q3, hj, rfl, rfl, rfl⟩ := hrel
        have hbd := fixTo_bd fs j
        have hpj := powI_le6 (n := (j : Int)) (by omega)
        have hpj0 := powI_pos (j : Int)
        by_cases hlt : j < k
        · obtain ⟨bf, off, rfl, _, hcf⟩ := hF2.at_ hlt
          have hcj := hcf j hlt
          obtain ⟨e1, l1⟩ := ends_it hen (k := j) (by rw [hlenf.out]; exact hlt)
          rw [e1] at hcj
          clear hcf e1
          have hq := fun w => power_any (j : Int) w (by omega) (by omega)
          by_cases hjj : itN fs j = j
          · have Hs := Lib.hid (show fixTo fs (j + 1) = orI (fixTo fs j) (powI j) by rw [fixTo]; simp [hjj])
            have hq2 : ((itN fs j : Int) == (j : Int)) = true := by simp; omega
            have ho : bits .or .i64 (fixTo fs j) (powI j) = orI (fixTo fs j) (powI j) := bits_or (by omega) (by omega) (by omega) (by omega)
            rw [← Hs.out] at ho
            generalize itN fs j = x at *
            generalize hS2 : fixTo fs (j + 1) = s2 at *
            generalize fixTo fs j = s at *
            have HS2 := Lib.hid hS2
            have Hjj := Lib.hid hjj
            clear hjj hS2
            go_wp2_with (go_at_call 41; refine (hq _).mono ?_; rintro e w' ⟨rfl, rfl⟩)
            go_roundw
            case rel => exact ⟨j + 1, _, by omega, by go_num, by rw [HS2.out], rfl⟩
            case measure => simp [intOf]; omega
          · have Hs := Lib.hid (show fixTo fs (j + 1) = fixTo fs j by rw [fixTo]; simp [hjj])
            have hq2 : ((itN fs j : Int) == (j : Int)) = false := by simp; omega
            generalize itN fs j = x at *
            have Hjj := Lib.hid hjj
            clear hjj
            go_wp2_with (go_at_call 41; refine (hq _).mono ?_; rintro e w' ⟨rfl, rfl⟩)
            go_roundw
            case rel => exact ⟨j + 1, _, by omega, by go_num, by rw [Hs.out], rfl⟩
            case measure => simp [intOf]; omega
        · obtain rfl : j = k := by omega
          go_wp2
          go_ret
          exact ⟨ret_int Hn.out.symm, below_drewN kB q3⟩
end Go.Proofs.Ytmlihbcffndnbaa

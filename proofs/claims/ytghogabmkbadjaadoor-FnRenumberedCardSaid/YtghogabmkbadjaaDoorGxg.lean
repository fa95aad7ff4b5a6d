/- Texts that several claims share, one behind the other. -/
import Derived.Test.YtghogabmkbadjaaDoorGc
import Derived.Test.YtghogabmkbadjaaDoorGxf
import Derived.Test.YtghogabmkbadjaaDoorGb
import Derived.Test.YtghogabmkbadjaaDoorGa
set_option linter.unusedVariables false
set_option linter.unusedSimpArgs false
/- IsChain and IsApart: the model's and the program's. -/
namespace Go.Proofs.YtghogabmkbadjaaDoor
open Go.RowKit

def isChainR (zs : List Int) (s : Int) : Bool := (vo zs && inB s 0 (powI zs.length - 1)) && chB zs s
def isApartR (zs : List Int) (s : Int) : Bool := (vo zs && inB s 0 (powI zs.length - 1)) && apB zs s

end Go.Proofs.YtghogabmkbadjaaDoor

/- The longest chain and the widest set apart: words, and the model's helper. -/
namespace Go.Proofs.YtghogabmkbadjaaDoor
open Go.RowKit

theorem maxL_snoc (f : Nat → Int) (l : List Nat) (a : Nat) : maxL f (l ++ [a]) = max (maxL f l) (f a + 1) := by simp [maxL]
theorem maxL_range (f : Nat → Int) (k : Nat) : maxL f (List.range (k + 1)) = max (maxL f (List.range k)) (f k + 1) := by rw [List.range_succ, maxL_snoc]
theorem hgts_get {zs : List Int} {n k : Nat} (hk : k < n) : ((List.range n).map (hgt zs))[k]?.getD 0 = hgt zs k := by simp [hk]

def longR (zs : List Int) : Int := if vo zs then longI zs else -1
def wideR (zs : List Int) : Int := if vo zs then grTo (apB zs) (setsN zs) else -1
end Go.Proofs.YtghogabmkbadjaaDoor

/- Chains and sets apart: what is left of them, and when a chain is apart. No program. -/
namespace Go.Proofs.YtghogabmkbadjaaDoor

theorem isChain_is {zs : List Int} {s : Int} (h : VoP zs) (h0 : 0 ≤ s) (h1 : s < powI zs.length) : isChainR zs s = chB zs s := by
  unfold isChainR inB
  rw [vo_true h, decide_eq_true (show (0 : Int) ≤ s ∧ s ≤ powI zs.length - 1 by omega)]
  rfl
theorem isApart_is {zs : List Int} {s : Int} (h : VoP zs) (h0 : 0 ≤ s) (h1 : s < powI zs.length) : isApartR zs s = apB zs s := by
  unfold isApartR inB
  rw [vo_true h, decide_eq_true (show (0 : Int) ≤ s ∧ s ≤ powI zs.length - 1 by omega)]
  rfl
theorem isChain_parts {zs : List Int} {s : Int} (h : isChainR zs s = true) : VoP zs ∧ (0 ≤ s ∧ s < powI zs.length) ∧ chB zs s = true := by
  unfold isChainR at h
  rw [Bool.and_eq_true, Bool.and_eq_true] at h
  obtain ⟨⟨h1, h2⟩, h3⟩ := h
  have h2' : (0 : Int) ≤ s ∧ s ≤ powI zs.length - 1 := by simpa [inB] using h2
  exact ⟨by simpa [vo] using h1, ⟨h2'.1, by omega⟩, h3⟩
theorem isApart_parts {zs : List Int} {s : Int} (h : isApartR zs s = true) : VoP zs ∧ (0 ≤ s ∧ s < powI zs.length) ∧ apB zs s = true := by
  unfold isApartR at h
  rw [Bool.and_eq_true, Bool.and_eq_true] at h
  obtain ⟨⟨h1, h2⟩, h3⟩ := h
  have h2' : (0 : Int) ≤ s ∧ s ≤ powI zs.length - 1 := by simpa [inB] using h2
  exact ⟨by simpa [vo] using h1, ⟨h2'.1, by omega⟩, h3⟩
theorem chB_sub {zs : List Int} {s t : Int} (h1 : s < 64) (h2 : t < 64) (hs : ∀ j : Nat, bitB t j = true → bitB s j = true) (h : chB zs s = true) : chB zs t = true := by
  unfold chB at *
  rw [decide_eq_true_eq] at *
  rw [ChP_iff h2]
  intro a b ha hb hab
  exact (ChP_iff h1).1 h a b (hs a ha) (hs b hb) hab
theorem apB_sub {zs : List Int} {s t : Int} (h1 : s < 64) (h2 : t < 64) (hs : ∀ j : Nat, bitB t j = true → bitB s j = true) (h : apB zs s = true) : apB zs t = true :=
  (apB_iff h2).2 fun a b ha hb => (apB_iff h1).1 h a b (hs a ha) (hs b hb)
/-- The set without its least item, as the program's 's & (s-1)'. -/
theorem less_one {n : Nat} {s : Int} (h0 : 0 ≤ s) (h1 : s < powI n) (hn : n ≤ 6) : ∃ t, bits .and .i64 s (s - 1) = t ∧ 0 ≤ t ∧ t < powI n ∧ ∀ j : Nat, bitB t j = true → bitB s j = true := by
  have hp := powI_le6 (n := (n : Int)) (by omega)
  by_cases hs : s = 0
  · subst hs
    exact ⟨0, by decide, by omega, by omega, fun _ e => e⟩
  · have hb := andI_bd s (s - 1)
    exact ⟨andI s (s - 1), bits_and (by omega) (by omega) (by omega) (by omega), hb.1, by omega, fun j e => by rw [bitB_and, Bool.and_eq_true] at e; exact e.1⟩
theorem du_isChain {zs : List Int} {s : Int} (h : VoP zs) (h0 : 0 ≤ s) (h1 : s < powI zs.length) : isChainR (du zs) s = chB zs s := by
  rw [isChain_is (du_vo h) h0 (by rw [du_len]; exact h1), du_chB h.sets]
theorem du_isApart {zs : List Int} {s : Int} (h : VoP zs) (h0 : 0 ≤ s) (h1 : s < powI zs.length) : isApartR (du zs) s = apB zs s := by
  have hp := powI_le6 (n := (zs.length : Int)) (by have := h.1; omega)
  rw [isApart_is (du_vo h) h0 (by rw [du_len]; exact h1), du_apB h.sets (by omega)]
theorem chain_apart {zs : List Int} {s : Int} (h : VoP zs) (h0 : 0 ≤ s) (h1 : s < powI zs.length) (hc : chB zs s = true) : apB zs s = decide (popI s ≤ 1) := by
  have hp := powI_le6 (n := (zs.length : Int)) (by have := h.1; omega)
  have h64 : s < 64 := by omega
  rw [popI_items h0 h64]
  have hs := itemsL_sorted s
  have hm : ∀ j : Nat, j ∈ itemsL s ↔ bitB s j = true := fun j => mem_itemsL h64
  have hc' : ChP zs s := of_decide_eq_true hc
  unfold ChP at hc'
  clear hc
  match hl : itemsL s with
  | [] =>
    rw [hl] at hm
    have : apB zs s = true := (apB_iff h64).2 fun a b ha hb => by have := (hm a).2 ha; simp at this
    rw [this]; rfl
  | [x] =>
    rw [hl] at hm
    have : apB zs s = true := (apB_iff h64).2 fun a b ha hb => by
      have e1 := (hm a).2 ha
      have e2 := (hm b).2 hb
      simp only [List.mem_singleton] at e1 e2
      subst e1; subst e2
      exact h.irrB (bitB_lt h1 ha)
    rw [this]; rfl
  | x :: y :: l =>
    rw [hl] at hc' hs hm
    have hr : relB zs x y = true := (List.pairwise_cons.1 hc').1 y (by simp)
    have hx := (hm x).1 (by simp)
    have hy := (hm y).1 (by simp)
    have hno : apB zs s = false := by
      cases e : apB zs s
      · rfl
      · have ha := (apB_iff h64).1 e
        unfold relB at hr
        rw [ha x y hx hy, ha y x hy hx] at hr
        cases hr
    rw [hno, decide_eq_false]
    simp only [List.length_cons]
    omega
theorem apart_le {zs : List Int} {s : Int} (h : VoP zs) (h0 : 0 ≤ s) (h1 : s < powI zs.length) (ha : apB zs s = true) : popI s ≤ wideR zs := by
  unfold wideR
  rw [vo_true h]
  obtain ⟨j, rfl⟩ := Int.eq_ofNat_of_zero_le h0
  have hN := setsN_pow zs
  exact grTo_ge ha (setsN zs) (by omega)
end Go.Proofs.YtghogabmkbadjaaDoor

/- The order of some items alone, numbered anew: it is an order, and is lined up in as many ways as they are. No program. -/
namespace Go.Proofs.YtghogabmkbadjaaDoor

theorem inc_ext : ∀ (l m : List Nat), l.Pairwise (· < ·) → m.Pairwise (· < ·) → (∀ a, a ∈ l ↔ a ∈ m) → l = m
  | [], [], _, _, _ => rfl
  | [], b :: m, _, _, h => by have := (h b).2 (by simp); cases this
  | a :: l, [], _, _, h => by have := (h a).1 (by simp); cases this
  | a :: l, b :: m, hl, hm, h => by
    rw [List.pairwise_cons] at hl hm
    have hab : a = b := by
      rcases List.mem_cons.1 ((h a).1 (by simp)) with e | e
      · exact e
      · rcases List.mem_cons.1 ((h b).2 (by simp)) with e2 | e2
        · exact e2.symm
        · have := hm.1 a e; have := hl.1 b e2; omega
    subst hab
    rw [inc_ext l m hl.2 hm.2 fun x => ?_]
    have hx := h x
    rw [List.mem_cons, List.mem_cons] at hx
    constructor
    · intro e
      rcases hx.1 (.inr e) with e2 | e2
      · have := hl.1 x e; omega
      · exact e2
    · intro e
      rcases hx.2 (.inr e) with e2 | e2
      · have := hm.1 x e; omega
      · exact e2
theorem range_inc (n : Nat) : (List.range n).Pairwise (· < ·) := List.pairwise_lt_range
/-- The numbers of z that l lists, by their places in l, up to k. -/
def rowTo (z : Int) (l : List Nat) : Nat → Int
  | 0 => 0
  | k + 1 => orI (rowTo z l k) (bitI z (l[k]?.getD 0) * powI k)
theorem bitI_mul (z j : Int) (k : Nat) : bitI z j * powI k = if bitB z j then powI k else 0 := by
  unfold bitI; split <;> simp
theorem rowTo_bd (z : Int) (l : List Nat) : ∀ k : Nat, 0 ≤ rowTo z l k ∧ rowTo z l k < powI k
  | 0 => by simp [rowTo, powI]
  | k + 1 => by
    have h := rowTo_bd z l k
    have hp : powI (k : Int) < powI ((k + 1 : Nat) : Int) := powI_lt (by omega)
    have h0 := powI_pos (k : Int)
    have h1 := powI_pos ((k + 1 : Nat) : Int)
    unfold rowTo
    rw [bitI_mul]
    split
    · exact orI_bd h.1 (by omega) (Int.le_of_lt h0) hp
    · exact orI_bd h.1 (by omega) (Int.le_refl _) h1
theorem rowTo_bit (z : Int) (l : List Nat) (j : Nat) : ∀ k : Nat, bitB (rowTo z l k) j = true ↔ j < k ∧ bitB z ((l[j]?.getD 0 : Nat) : Int) = true
  | 0 => by simp [rowTo, bitB_zero]
  | k + 1 => by
    unfold rowTo
    rw [bitI_mul, bitB_or, Bool.or_eq_true, rowTo_bit z l j k]
    have h2 : bitB (if bitB z ((l[k]?.getD 0 : Nat) : Int) then powI (k : Int) else 0) j = true ↔ j = k ∧ bitB z ((l[j]?.getD 0 : Nat) : Int) = true := by
      split
      · rename_i hb
        rw [bitB_pow, decide_eq_true_eq]
        constructor
        · rintro rfl; exact ⟨rfl, hb⟩
        · rintro ⟨rfl, _⟩; rfl
      · rename_i hb
        rw [bitB_zero]
        constructor
        · intro e; cases e
        · rintro ⟨rfl, e⟩; exact absurd e hb
    rw [h2]
    constructor
    · rintro (⟨h, e⟩ | ⟨rfl, e⟩)
      · exact ⟨by omega, e⟩
      · exact ⟨by omega, e⟩
    · rintro ⟨h, e⟩
      by_cases hjk : j = k
      · exact .inr ⟨hjk, e⟩
      · exact .inl ⟨by omega, e⟩
/-- The order of the items of l alone. -/
def ind (zs : List Int) (l : List Nat) : List Int := l.map fun a => rowTo (zs[a]?.getD 0) l l.length
theorem ind_len (zs : List Int) (l : List Nat) : (ind zs l).length = l.length := by simp [ind]
theorem ind_bit {zs : List Int} {l : List Nat} {i j : Nat} (hi : i < l.length) : bitB ((ind zs l)[i]?.getD 0) j = true ↔ j < l.length ∧ bitB (zs[l[i]?.getD 0]?.getD 0) ((l[j]?.getD 0 : Nat) : Int) = true := by
  have e : (ind zs l)[i]?.getD 0 = rowTo (zs[l[i]?.getD 0]?.getD 0) l l.length := by
    unfold ind
    rw [List.getElem?_map, List.getElem?_eq_getElem hi]
    rfl
  rw [e, rowTo_bit]
/-- A list of items of the order, ascending. -/
structure Inc (zs : List Int) (l : List Nat) : Prop where
  inc : l.Pairwise (· < ·)
  lt : ∀ a ∈ l, a < zs.length
theorem Inc.at_lt {zs : List Int} {l : List Nat} (h : Inc zs l) {i : Nat} (hi : i < l.length) : l[i]?.getD 0 < zs.length := by
  rw [List.getElem?_eq_getElem hi]
  exact h.lt _ (List.getElem_mem hi)
theorem Inc.at_inc {zs : List Int} {l : List Nat} (h : Inc zs l) {i j : Nat} (hij : i < j) (hj : j < l.length) : l[i]?.getD 0 < l[j]?.getD 0 := by
  rw [List.getElem?_eq_getElem hj, List.getElem?_eq_getElem (by omega)]
  exact List.pairwise_iff_getElem.1 h.inc i j (by omega) hj hij
theorem Inc.at_inj {zs : List Int} {l : List Nat} (h : Inc zs l) {i j : Nat} (hi : i < l.length) (hj : j < l.length) (e : l[i]?.getD 0 = l[j]?.getD 0) : i = j := by
  rcases Nat.lt_trichotomy i j with h1 | h1 | h1
  · have := h.at_inc h1 hj; omega
  · exact h1
  · have := h.at_inc h1 hi; omega
theorem Inc.len_le {zs : List Int} {l : List Nat} (h : Inc zs l) : l.length ≤ zs.length := pigeon zs.length l (h.inc.imp fun h => by omega) h.lt
theorem ind_lt {zs : List Int} {l : List Nat} (h : Inc zs l) {i j : Nat} : lt (ind zs l) i j ↔ i < l.length ∧ j < l.length ∧ lt zs (l[i]?.getD 0) (l[j]?.getD 0) := by
  unfold lt
  rw [ind_len]
  constructor
  · rintro ⟨h1, h2⟩
    have := (ind_bit h1).1 h2
    exact ⟨h1, this.1, h.at_lt h1, this.2⟩
  · rintro ⟨h1, h2, _, h3⟩
    exact ⟨h1, (ind_bit h1).2 ⟨h2, h3⟩⟩
theorem ind_vo {zs : List Int} (h : VoP zs) {l : List Nat} (hl : Inc zs l) : VoP (ind zs l) := by
  have h6 := h.1
  have hle := hl.len_le
  refine ⟨by rw [ind_len]; omega, fun a ha => ?_, fun a ha b hb => ?_⟩
  · rw [ind_len] at ha ⊢
    have e : (ind zs l)[a]?.getD 0 = rowTo (zs[l[a]?.getD 0]?.getD 0) l l.length := by
      unfold ind; rw [List.getElem?_map, List.getElem?_eq_getElem ha]; rfl
    have hb := rowTo_bd (zs[l[a]?.getD 0]?.getD 0) l l.length
    have h2 : bitB ((ind zs l)[a]?.getD 0) a = false := by
      cases e2 : bitB ((ind zs l)[a]?.getD 0) a
      · rfl
      · have := (ind_lt hl).1 (⟨by rw [ind_len]; exact ha, e2⟩ : lt (ind zs l) a a)
        exact absurd this.2.2 h.irr
    unfold okA inB
    rw [h2, e]
    simp only [Bool.not_false, Bool.and_true, decide_eq_true_eq]
    omega
  · rw [ind_len] at ha hb
    unfold okP
    cases e : bitB ((ind zs l)[a]?.getD 0) b
    · rfl
    · have hab := (ind_lt hl).1 (⟨by rw [ind_len]; exact ha, e⟩ : lt (ind zs l) a b)
      have h1 : lessI ((ind zs l)[b]?.getD 0) ((ind zs l)[a]?.getD 0) = 0 := by
        refine bitB_ext (lessI_bd _ _).1 (Int.le_refl _) fun j => ?_
        rw [bitB_less, bitB_zero]
        cases e1 : bitB ((ind zs l)[b]?.getD 0) j
        · rfl
        · have hbj := (ind_lt hl).1 (⟨by rw [ind_len]; exact hb, e1⟩ : lt (ind zs l) b j)
          have := ((ind_lt hl).2 ⟨ha, hbj.2.1, h.trans hab.2.2 hbj.2.2⟩).2
          rw [this]; rfl
      have h2 : bitB ((ind zs l)[b]?.getD 0) a = false := by
        cases e2 : bitB ((ind zs l)[b]?.getD 0) a
        · rfl
        · have hba := (ind_lt hl).1 (⟨by rw [ind_len]; exact hb, e2⟩ : lt (ind zs l) b a)
          exact absurd (h.trans hab.2.2 hba.2.2) h.irr
      rw [h1, h2]; rfl

/-- The items of zs that a set of places of l tells. -/
def exTo (l : List Nat) (t : Nat) : Nat → Nat
  | 0 => 0
  | k + 1 => exTo l t k ||| (if t.testBit k then 2 ^ (l[k]?.getD 0) else 0)
theorem exTo_bit (l : List Nat) (t a : Nat) : ∀ k : Nat, (exTo l t k).testBit a = true ↔ ∃ i, i < k ∧ t.testBit i = true ∧ l[i]?.getD 0 = a
  | 0 => by simp [exTo]
  | k + 1 => by
    unfold exTo
    rw [Nat.testBit_or, Bool.or_eq_true, exTo_bit l t a k]
    have h2 : (if t.testBit k then 2 ^ (l[k]?.getD 0) else 0).testBit a = true ↔ t.testBit k = true ∧ l[k]?.getD 0 = a := by
      split
      · rename_i hb; rw [Nat.testBit_two_pow, decide_eq_true_eq]; simp [hb]
      · rename_i hb; simp [hb]
    rw [h2]
    constructor
    · rintro (⟨i, hi, e⟩ | e)
      · exact ⟨i, by omega, e⟩
      · exact ⟨k, by omega, e⟩
    · rintro ⟨i, hi, e⟩
      by_cases hik : i = k
      · subst hik; exact .inr e
      · exact .inl ⟨i, by omega, e⟩
def ex (l : List Nat) (t : Nat) : Nat := exTo l t l.length
theorem ex_lt {zs : List Int} {l : List Nat} (h : Inc zs l) (t : Nat) : ex l t < 2 ^ zs.length := Nat.lt_pow_two_of_testBit _ fun i hi => by
  cases e : (ex l t).testBit i
  · rfl
  · obtain ⟨k, hk, _, e2⟩ := (exTo_bit l t i l.length).1 e
    have := h.at_lt hk; omega
theorem ex_at {zs : List Int} {l : List Nat} (h : Inc zs l) {t k : Nat} (hk : k < l.length) : (ex l t).testBit (l[k]?.getD 0) = t.testBit k := by
  rw [Bool.eq_iff_iff]
  unfold ex
  rw [exTo_bit]
  constructor
  · rintro ⟨i, hi, e, e2⟩
    rw [← h.at_inj hi hk e2]; exact e
  · intro e; exact ⟨k, hk, e, rfl⟩
theorem sub_bits {s a j : Nat} (hs : s < 64) (ha : a < 6) (hb : s.testBit a = true) : (s - 2 ^ a).testBit j = (s.testBit j && !decide (a = j)) := by
  have hpa := Nat.two_pow_pos a
  rcases Nat.lt_or_ge j 6 with hj | hj
  · exact sub_bit_fin ⟨s, hs⟩ ⟨a, ha⟩ ⟨j, hj⟩ hb
  · have h1 : s.testBit j = false := Nat.testBit_lt_two_pow (Nat.lt_of_lt_of_le (show s < 2 ^ 6 by omega) (Nat.pow_le_pow_right (by decide) hj))
    have h2 : (s - 2 ^ a).testBit j = false := Nat.testBit_lt_two_pow (Nat.lt_of_lt_of_le (show s - 2 ^ a < 2 ^ 6 by omega) (Nat.pow_le_pow_right (by decide) hj))
    rw [h1, h2]; rfl
theorem ex_sub {zs : List Int} (h6 : zs.length ≤ 6) {l : List Nat} (h : Inc zs l) {t k : Nat} (ht : t < 64) (hk : k < l.length) (hb : t.testBit k = true) : ex l (t - 2 ^ k) = ex l t - 2 ^ (l[k]?.getD 0) := by
  have hle := h.len_le
  have hx : ex l t < 64 := Nat.lt_of_lt_of_le (ex_lt h t) (pow_le64 h6)
  have hlk := h.at_lt hk
  refine Nat.eq_of_testBit_eq fun a => ?_
  rw [sub_bits hx (show l[k]?.getD 0 < 6 by omega) (by rw [ex_at h hk]; exact hb), Bool.eq_iff_iff]
  unfold ex
  rw [exTo_bit, Bool.and_eq_true, exTo_bit, Bool.not_eq_true', decide_eq_false_iff_not]
  constructor
  · rintro ⟨i, hi, e, rfl⟩
    rw [sub_bits ht (by omega) hb, Bool.and_eq_true, Bool.not_eq_true', decide_eq_false_iff_not] at e
    exact ⟨⟨i, hi, e.1, rfl⟩, fun e2 => e.2 (h.at_inj hk hi e2)⟩
  · rintro ⟨⟨i, hi, e, rfl⟩, e2⟩
    refine ⟨i, hi, ?_, rfl⟩
    rw [sub_bits ht (by omega) hb, e]
    have hne : ¬ k = i := fun e3 => e2 (by rw [e3])
    simp [hne]
theorem ex_zero (l : List Nat) : ex l 0 = 0 := Nat.eq_of_testBit_eq fun a => by
  rw [Bool.eq_iff_iff]
  unfold ex
  rw [exTo_bit]
  simp
theorem eF_iff {zs : List Int} (h : VoP zs) {s a : Nat} : eF zs s a = true ↔ s.testBit a = true ∧ ∀ b, s.testBit b = true → bitB (zs[b]?.getD 0) a = false := by
  unfold eF
  rw [Bool.and_eq_true, beq_iff_eq, andI_zero]
  constructor
  · rintro ⟨h1, h2⟩
    exact ⟨h1, fun b hb => by have := h2 b (by rw [bit_cast]; exact hb); rwa [du_bit h.sets] at this⟩
  · rintro ⟨h1, h2⟩
    exact ⟨h1, fun b hb => by rw [du_bit h.sets]; exact h2 b (by rwa [bit_cast] at hb)⟩
theorem bit_none' {zs : List Int} {a b : Nat} (h : bitB (zs[a]?.getD 0) b = true) : a < zs.length := by
  rcases Nat.lt_or_ge a zs.length with h1 | h1
  · exact h1
  · rw [List.getElem?_eq_none (by omega), Option.getD_none, bitB_zero] at h; cases h
theorem next_ind {zs : List Int} (h : VoP zs) {l : List Nat} (hl : Inc zs l) (t : Nat) : nextL zs (ex l t) = (nextL (ind zs l) t).map fun k => l[k]?.getD 0 := by
  have hi := ind_vo h hl
  rw [nextL_is h, nextL_is hi, ind_len]
  refine inc_ext _ _ ((range_inc _).filter _) ?_ fun a => ?_
  · rw [List.pairwise_map]
    refine List.Pairwise.imp_of_mem ?_ ((range_inc _).filter _)
    intro x y hx hy hxy
    rw [List.mem_filter] at hy
    exact hl.at_inc hxy (by simpa using hy.1)
  · rw [List.mem_filter, List.mem_map, List.mem_range, eF_iff h]
    constructor
    · rintro ⟨ha, h1, h2⟩
      obtain ⟨k, hk, hb, e⟩ := (exTo_bit l t a l.length).1 h1
      refine ⟨k, ?_, e⟩
      rw [List.mem_filter, List.mem_range, eF_iff hi]
      refine ⟨hk, hb, fun j hj => ?_⟩
      cases e2 : bitB ((ind zs l)[j]?.getD 0) k
      · rfl
      · have hjl : j < l.length := by
          have := bit_none' e2; rwa [ind_len] at this
        have h3 := (ind_bit hjl).1 e2
        have := h2 (l[j]?.getD 0) (by rw [ex_at hl hjl]; exact hj)
        rw [← e] at this
        rw [this] at h3; cases h3.2
    · rintro ⟨k, hk, e⟩
      rw [List.mem_filter, List.mem_range, eF_iff hi] at hk
      obtain ⟨hk, hb, h2⟩ := hk
      refine ⟨by rw [← e]; exact hl.at_lt hk, by rw [← e, ex_at hl hk]; exact hb, fun b hb2 => ?_⟩
      obtain ⟨j, hj, hjt, e3⟩ := (exTo_bit l t b l.length).1 hb2
      have := h2 j hjt
      cases e4 : bitB (zs[b]?.getD 0) a
      · rfl
      · rw [(ind_bit hj).2 ⟨hk, by rw [e3, e]; exact e4⟩] at this; cases this
/-- The items alone are lined up in as many ways as they are. -/
theorem cF_ind {zs : List Int} (h : VoP zs) {l : List Nat} (hl : Inc zs l) : ∀ (N t : Nat), t ≤ N → t < 2 ^ l.length → cF (ind zs l) t = cF zs (ex l t)
  | N, t, hN, ht => by
    have hi := ind_vo h hl
    have hle := hl.len_le
    have h6 := h.1
    have ht64 : t < 64 := Nat.lt_of_lt_of_le ht (pow_le64 (by omega))
    by_cases h0 : t = 0
    · subst h0; rw [ex_zero, cF_zero, cF_zero]
    · have hx0 : ex l t ≠ 0 := fun e => h0 (Nat.eq_of_testBit_eq fun k => by
        rw [Nat.zero_testBit]
        cases e2 : t.testBit k
        · rfl
        · have hk := bit_lt ht e2
          have := ex_at hl (t := t) hk
          rw [e, e2, Nat.zero_testBit] at this; cases this)
      cases N with
      | zero => omega
      | succ N =>
        rw [← accF_all hi h0, ← accF_all h hx0, next_ind h hl]
        unfold accF
        rw [List.map_map]
        congr 1
        refine List.map_congr_left fun k hk => ?_
        obtain ⟨hkl, hkb⟩ := nextL_mem hi hk
        rw [ind_len] at hkl
        have hp := Nat.two_pow_pos k
        have hge := ge_bit_fin ⟨t, ht64⟩ ⟨k, by omega⟩ hkb
        simp only at hge
        rw [cF_ind h hl N (t - 2 ^ k) (by omega) (by omega), ex_sub h6 hl ht64 hkl hkb]
        rfl
/-- The items of a set, ascending. -/
def leftL (n s : Nat) : List Nat := (List.range n).filter fun j => s.testBit j
theorem leftL_inc (zs : List Int) (s : Nat) : Inc zs (leftL zs.length s) := ⟨(range_inc _).filter _, fun a ha => by
  unfold leftL at ha; rw [List.mem_filter] at ha; simpa using ha.1⟩
theorem ex_left {zs : List Int} {s : Nat} (hs : s < 2 ^ zs.length) : ex (leftL zs.length s) (2 ^ (leftL zs.length s).length - 1) = s := by
  refine Nat.eq_of_testBit_eq fun a => ?_
  rw [Bool.eq_iff_iff]
  unfold ex
  rw [exTo_bit]
  constructor
  · rintro ⟨i, hi, _, rfl⟩
    rw [List.getElem?_eq_getElem hi]
    have := List.getElem_mem hi
    unfold leftL at this
    rw [List.mem_filter] at this
    exact this.2
  · intro e
    have ha : a ∈ leftL zs.length s := by
      unfold leftL
      rw [List.mem_filter, List.mem_range]
      exact ⟨bit_lt hs e, e⟩
    obtain ⟨i, hi, e2⟩ := List.getElem_of_mem ha
    refine ⟨i, hi, ?_, by rw [List.getElem?_eq_getElem hi]; exact e2⟩
    rw [Nat.testBit_two_pow_sub_one]
    simpa using hi
/-- As the model counts what is left. -/
theorem rest_is {zs : List Int} (h : VoP zs) {s : Nat} (hs : s < 2 ^ zs.length) : cG (ind zs (leftL zs.length s)) (2 ^ (leftL zs.length s).length - 1) = cF zs s := by
  have hl := leftL_inc zs s
  have hi := ind_vo h hl
  have hp := Nat.two_pow_pos (leftL zs.length s).length
  have := count_both hi
  rw [ind_len] at this
  rw [this, cF_ind h hl _ _ (Nat.le_refl _) (by omega), ex_left hs]
end Go.Proofs.YtghogabmkbadjaaDoor

/- Ranks of lines, as plain mathematics: counted item by item, from what is done and from what is left. No program. -/
namespace Go.Proofs.YtghogabmkbadjaaDoor

theorem or_fin : ∀ s : Fin 64, ∀ a : Fin 6, s.val.testBit a.val = false → orI (s.val : Int) (powI (a.val : Int)) = ((s.val + 2 ^ a.val : Nat) : Int) := by decide +kernel
theorem or_is {s a : Nat} (hs : s < 64) (ha : a < 6) (hb : s.testBit a = false) : orI (s : Int) (powI (a : Int)) = ((s + 2 ^ a : Nat) : Int) := or_fin ⟨s, hs⟩ ⟨a, ha⟩ hb
theorem com_bit {n s j : Nat} (hn : n ≤ 6) (hs : s < 2 ^ n) (hj : j < 6) : (2 ^ n - 1 - s).testBit j = (decide (j < n) && !s.testBit j) :=
  com_bit_fin ⟨n, by omega⟩ ⟨s, Nat.lt_of_lt_of_le hs (pow_le64 hn)⟩ hs ⟨j, hj⟩
theorem add_lt {n s a : Nat} (hn : n ≤ 6) (hs : s < 2 ^ n) (ha : a < n) (hb : s.testBit a = false) : s + 2 ^ a < 2 ^ n :=
  add_lt_fin ⟨n, by omega⟩ ⟨s, Nat.lt_of_lt_of_le hs (pow_le64 hn)⟩ ⟨a, by omega⟩ hs ha hb
theorem nextE_eF {zs : List Int} (h : VoP zs) {D a : Nat} (hD : D < 2 ^ zs.length) (ha : a < zs.length) : nextE zs D a = eF zs (2 ^ zs.length - 1 - D) a := by
  have hn6 := h.1
  rw [Bool.eq_iff_iff, eF_iff h]
  unfold nextE
  rw [Bool.and_eq_true, beq_iff_eq, less_zero, com_bit hn6 hD (by omega)]
  simp only [ha, decide_true, Bool.true_and]
  constructor
  · rintro ⟨h1, h2⟩
    refine ⟨h1, fun b hb => ?_⟩
    have hbn : b < zs.length := bit_lt (n := zs.length) (by omega) hb
    rw [com_bit hn6 hD (by omega), Bool.and_eq_true] at hb
    cases e : bitB (zs[b]?.getD 0) a
    · rfl
    · have := h2 b (by rw [du_bit h.sets]; exact e)
      rw [this] at hb; simp at hb
  · rintro ⟨h1, h2⟩
    refine ⟨h1, fun j hj => ?_⟩
    rw [du_bit h.sets] at hj
    have hjn := bit_none' hj
    cases e : D.testBit j
    · have := h2 j (by rw [com_bit hn6 hD (by omega), e]; simp [hjn])
      rw [hj] at this; cases this
    · rfl
/-- The lines that go on with a lesser item than 'item', with D done. -/
def rkIn (zs : List Int) (D item : Nat) : Nat := ((List.range item).map fun a => if nextE zs D a then cF zs (2 ^ zs.length - 1 - (D + 2 ^ a)) else 0).sum
theorem rkIn_succ (zs : List Int) (D a : Nat) : rkIn zs D (a + 1) = rkIn zs D a + (if nextE zs D a then cF zs (2 ^ zs.length - 1 - (D + 2 ^ a)) else 0) := by
  unfold rkIn
  rw [List.range_succ, List.map_append, List.sum_append]
  simp
theorem rkIn_le {zs : List Int} (h : VoP zs) (D : Nat) : ∀ a : Nat, rkIn zs D a ≤ a * 46656
  | 0 => by simp [rkIn]
  | a + 1 => by
    have ih := rkIn_le h D a
    have hp := Nat.two_pow_pos zs.length
    have h1 := cF_le h (s := 2 ^ zs.length - 1 - (D + 2 ^ a)) (Nat.lt_of_le_of_lt (Nat.sub_le _ _) (by omega))
    have h2 : (if nextE zs D a then cF zs (2 ^ zs.length - 1 - (D + 2 ^ a)) else 0) ≤ 46656 := by
      cases nextE zs D a
      · exact Nat.zero_le _
      · exact h1
    rw [rkIn_succ, Nat.add_mul]
    exact Nat.add_le_add ih (by rw [Nat.one_mul]; exact h2)
/-- As the program adds: over the items that may come next. -/
def accR (zs : List Int) (S item : Nat) (pre : List Nat) : Nat := ((pre.filter fun a => decide (a < item)).map fun a => cF zs (S - 2 ^ a)).sum
theorem accR_yes {zs : List Int} {S item x : Nat} {pre : List Nat} (h : x < item) : accR zs S item (pre ++ [x]) = accR zs S item pre + cF zs (S - 2 ^ x) := by
  unfold accR; rw [List.filter_append]; simp [h]
theorem accR_no {zs : List Int} {S item x : Nat} {pre : List Nat} (h : ¬ x < item) : accR zs S item (pre ++ [x]) = accR zs S item pre := by
  unfold accR; rw [List.filter_append]; simp [h]
theorem accR_all {zs : List Int} (h : VoP zs) {D item : Nat} (hD : D < 2 ^ zs.length) (hi : item ≤ zs.length) : accR zs (2 ^ zs.length - 1 - D) item (nextL zs (2 ^ zs.length - 1 - D)) = rkIn zs D item := by
  have e : (nextL zs (2 ^ zs.length - 1 - D)).filter (fun a => decide (a < item)) = (List.range item).filter (nextE zs D) := by
    rw [nextL_is h]
    refine inc_ext _ _ (((range_inc _).filter _).filter _) ((range_inc _).filter _) fun a => ?_
    rw [List.mem_filter, List.mem_filter, List.mem_filter, List.mem_range, List.mem_range, decide_eq_true_eq]
    constructor
    · rintro ⟨⟨h1, h2⟩, h3⟩
      exact ⟨h3, by rw [nextE_eF h hD h1]; exact h2⟩
    · rintro ⟨h1, h2⟩
      exact ⟨⟨by omega, by rw [← nextE_eF h hD (by omega)]; exact h2⟩, h1⟩
  unfold accR rkIn
  rw [e, sum_if]
  refine congrArg List.sum (List.map_congr_left fun a ha => ?_)
  rw [Nat.sub_sub]
theorem accR_le {zs : List Int} (h : VoP zs) {S item : Nat} (hS : S < 2 ^ zs.length) : ∀ pre : List Nat, accR zs S item pre ≤ pre.length * 46656 := fun pre => by
  have h1 : ∀ x ∈ pre.filter (fun a => decide (a < item)), cF zs (S - 2 ^ x) ≤ 46656 := fun x _ => cF_le h (Nat.lt_of_le_of_lt (Nat.sub_le _ _) hS)
  have h2 := sum_le _ h1
  have h3 := List.length_filter_le (fun a => decide (a < item)) pre
  unfold accR
  exact Nat.le_trans h2 (Nat.mul_le_mul_right _ h3)
/-- The count under way. -/
def midR (zs : List Int) (S item R : Nat) (pre : List Nat) : Nat := R + accR zs S item pre
/-- What is done, and the item at a place, as numbers that are none less than 0. -/
def dN (ls : List Int) (k : Nat) : Nat := (doneTo ls k).toNat
def itN (ls : List Int) (k : Nat) : Nat := (ls[k]?.getD 0).toNat
def rkUp (zs ls : List Int) : Nat → Nat
  | 0 => 0
  | k + 1 => rkUp zs ls k + rkIn zs (dN ls k) (itN ls k)
theorem line_steps {zs ls : List Int} (h : lineB zs ls = true) : ls.length = zs.length ∧ ∀ k, k < zs.length → stepOk zs ls k = true := by
  unfold lineB at h
  rw [Bool.and_eq_true, decide_eq_true_eq, List.all_eq_true] at h
  exact ⟨h.1, fun k hk => h.2 k (by rw [List.mem_range]; omega)⟩
section
variable {zs ls : List Int}
theorem it_is {k : Nat} (h : stepOk zs ls k = true) : ls[k]?.getD 0 = (itN ls k : Int) ∧ itN ls k < zs.length := by
  have := stepOk_in h
  unfold itN; omega
theorem d_is {k : Nat} (h : ∀ i, i < k → stepOk zs ls i = true) : doneTo ls k = (dN ls k : Int) ∧ dN ls k < 2 ^ zs.length := by
  have := doneTo_bd k h
  have e : powI (zs.length : Int) = ((2 ^ zs.length : Nat) : Int) := by simp [powI]
  unfold dN; omega
theorem d_new {k : Nat} (hk : ∀ i, i < k → stepOk zs ls i = true) (h : stepOk zs ls k = true) : (dN ls k).testBit (itN ls k) = false := by
  have := stepOk_new h
  rw [(it_is h).1, (d_is hk).1, bit_cast] at this
  exact this
theorem d_succ (hv : VoP zs) {k : Nat} (hk : ∀ i, i < k → stepOk zs ls i = true) (h : stepOk zs ls k = true) : dN ls (k + 1) = dN ls k + 2 ^ itN ls k := by
  have hn6 := hv.1
  have h1 := d_is hk
  have h2 := it_is h
  have h3 : doneTo ls (k + 1) = orI (doneTo ls k) (powI (ls[k]?.getD 0)) := rfl
  rw [h1.1, h2.1, or_is (Nat.lt_of_lt_of_le h1.2 (pow_le64 hn6)) (by omega) (d_new hk h)] at h3
  unfold dN at h3 ⊢
  rw [h3]; rfl
theorem left_com (hv : VoP zs) : ∀ k : Nat, (∀ i, i < k → stepOk zs ls i = true) → leftTo zs.length ls k = ((2 ^ zs.length - 1 - dN ls k : Nat) : Int) := fun k hk => by
  have hn6 := hv.1
  have h1 := d_is hk
  have hp := Nat.two_pow_pos zs.length
  have hb := leftTo_bd (n := zs.length) (ls := ls) k
  refine bitB_ext hb.1 (by omega) fun j => ?_
  rw [leftTo_bit j k hk, bit_cast, h1.1, bit_cast]
  rcases Nat.lt_or_ge j 6 with hj | hj
  · rw [com_bit hn6 h1.2 hj]
  · have h64 := pow_le64 hn6
    have e : (2 ^ zs.length - 1 - dN ls k).testBit j = false := Nat.testBit_lt_two_pow (Nat.lt_of_lt_of_le (show 2 ^ zs.length - 1 - dN ls k < 2 ^ 6 by omega) (Nat.pow_le_pow_right (by decide) hj))
    rw [e, decide_eq_false (by omega)]; rfl
theorem rkUp_le (hv : VoP zs) : ∀ k : Nat, (∀ i, i < k → stepOk zs ls i = true) → rkUp zs ls k ≤ k * 279936
  | 0, _ => by simp [rkUp]
  | k + 1, h => by
    have ih := rkUp_le hv k fun i hi => h i (by omega)
    have h1 := rkIn_le hv (dN ls k) (itN ls k)
    have h2 := (it_is (h k (by omega))).2
    have h3 := hv.1
    unfold rkUp
    omega
end
def rankR (zs ls : List Int) : Int := if isLineR zs ls then (rkUp zs ls ls.length : Int) else -1
end Go.Proofs.YtghogabmkbadjaaDoor

/- LineAt, as plain mathematics: the line of a rank, item by item. No program. -/
namespace Go.Proofs.YtghogabmkbadjaaDoor

theorem rkIn_all {zs : List Int} (h : VoP zs) {D : Nat} (hD : D < 2 ^ zs.length) (h0 : 2 ^ zs.length - 1 - D ≠ 0) : rkIn zs D zs.length = cF zs (2 ^ zs.length - 1 - D) := by
  rw [← accR_all h hD (Nat.le_refl _), ← accF_all h h0]
  unfold accR accF
  rw [List.filter_eq_self.2]
  intro a ha
  simpa using (nextL_mem h ha).1
theorem rkIn_mono (zs : List Int) (D : Nat) : ∀ d a : Nat, rkIn zs D a ≤ rkIn zs D (a + d)
  | 0, _ => Nat.le_refl _
  | d + 1, a => by
    have := rkIn_mono zs D d a
    rw [← Nat.add_assoc, rkIn_succ]; omega
theorem rkIn_mono' {zs : List Int} {D a b : Nat} (h : a ≤ b) : rkIn zs D a ≤ rkIn zs D b := by
  have := rkIn_mono zs D (b - a) a
  rwa [show a + (b - a) = b by omega] at this
/-- The first item such that there are more lines up to it than the rank tells. -/
def pk (zs : List Int) (D r : Nat) : Nat := ((List.range zs.length).find? fun a => decide (r < rkIn zs D (a + 1))).getD 0
theorem pk_ok {zs : List Int} {D r : Nat} (hr : r < rkIn zs D zs.length) : pk zs D r < zs.length ∧ rkIn zs D (pk zs D r) ≤ r ∧ r < rkIn zs D (pk zs D r + 1) := by
  have h0 : zs.length ≠ 0 := by intro h; rw [h] at hr; simp [rkIn] at hr
  cases e : (List.range zs.length).find? fun a => decide (r < rkIn zs D (a + 1)) with
  | none =>
    exfalso
    rw [List.find?_eq_none] at e
    have h1 := e (zs.length - 1) (by rw [List.mem_range]; omega)
    rw [show zs.length - 1 + 1 = zs.length by omega] at h1
    exact h1 (decide_eq_true hr)
  | some a =>
    have hp : pk zs D r = a := by unfold pk; rw [e]; rfl
    rw [List.find?_range_eq_some] at e
    obtain ⟨h1, h2, h3⟩ := e
    rw [hp]
    refine ⟨List.mem_range.1 h2, ?_, of_decide_eq_true h1⟩
    rcases Nat.eq_zero_or_pos a with rfl | ha
    · simp [rkIn]
    · have := h3 (a - 1) (by omega)
      rw [show a - 1 + 1 = a by omega] at this
      simpa using this
theorem pk_next {zs : List Int} {D r : Nat} (hr : r < rkIn zs D zs.length) : nextE zs D (pk zs D r) = true := by
  have h := pk_ok hr
  cases e : nextE zs D (pk zs D r)
  · have := rkIn_succ zs D (pk zs D r)
    rw [e] at this
    simp at this
    omega
  · rfl
theorem pk_cnt {zs : List Int} {D r : Nat} (hr : r < rkIn zs D zs.length) : r - rkIn zs D (pk zs D r) < cF zs (2 ^ zs.length - 1 - (D + 2 ^ pk zs D r)) := by
  have h := pk_ok hr
  have := rkIn_succ zs D (pk zs D r)
  rw [pk_next hr] at this
  simp only [if_true] at this
  omega
/-- What is done, and the rank that is left, after k items. -/
def stA (zs : List Int) (r : Nat) : Nat → Nat × Nat
  | 0 => (0, r)
  | k + 1 => ((stA zs r k).1 + 2 ^ pk zs (stA zs r k).1 (stA zs r k).2, (stA zs r k).2 - rkIn zs (stA zs r k).1 (pk zs (stA zs r k).1 (stA zs r k).2))
def atL (zs : List Int) (r : Nat) : Nat → List Int
  | 0 => []
  | k + 1 => atL zs r k ++ [(pk zs (stA zs r k).1 (stA zs r k).2 : Int)]
theorem atL_len (zs : List Int) (r : Nat) : ∀ k : Nat, (atL zs r k).length = k
  | 0 => rfl
  | k + 1 => by simp [atL, atL_len zs r k]
theorem pop_add_fin : ∀ s : Fin 64, ∀ a : Fin 6, s.val.testBit a.val = false → popI ((s.val + 2 ^ a.val : Nat) : Int) = popI (s.val : Int) + 1 := by decide +kernel
theorem pop_full_fin : ∀ n : Fin 7, ∀ s : Fin 64, s.val < 2 ^ n.val → popI (s.val : Int) < (n.val : Int) → 2 ^ n.val - 1 - s.val ≠ 0 := by decide +kernel
theorem nextE_new {zs : List Int} {D a : Nat} (h : nextE zs D a = true) : D.testBit a = false ∧ (lessI ((du zs)[a]?.getD 0) (D : Int) == 0) = true := by
  unfold nextE at h
  rw [Bool.and_eq_true] at h
  exact ⟨by simpa using h.1, h.2⟩
theorem stA_ok {zs : List Int} (h : VoP zs) {r : Nat} (hr : r < cF zs (2 ^ zs.length - 1)) : ∀ k : Nat, k ≤ zs.length → (stA zs r k).1 < 2 ^ zs.length ∧ popI ((stA zs r k).1 : Int) = k ∧ (stA zs r k).2 < cF zs (2 ^ zs.length - 1 - (stA zs r k).1)
  | 0, _ => ⟨Nat.two_pow_pos _, (by decide +kernel : popI ((0 : Nat) : Int) = ((0 : Nat) : Int)), by simpa [stA] using hr⟩
  | k + 1, hk => by
    have hn6 := h.1
    have hp64 := pow_le64 hn6
    obtain ⟨h1, h2, h3⟩ := stA_ok h hr k (by omega)
    have h0 := pop_full_fin ⟨zs.length, by omega⟩ ⟨(stA zs r k).1, by omega⟩ h1 (by show popI ((stA zs r k).1 : Int) < (zs.length : Int); omega)
    simp only at h0
    have hx : (stA zs r k).2 < rkIn zs (stA zs r k).1 zs.length := by rw [rkIn_all h h1 h0]; exact h3
    have ho := pk_ok hx
    have hnw := (nextE_new (pk_next hx)).1
    refine ⟨add_lt hn6 h1 ho.1 hnw, ?_, pk_cnt hx⟩
    have := pop_add_fin ⟨(stA zs r k).1, by omega⟩ ⟨pk zs (stA zs r k).1 (stA zs r k).2, by omega⟩ hnw
    simp only [stA]
    simp only at this
    rw [this, h2]; omega
/-- All that a walk needs in round k. -/
theorem stA_step {zs : List Int} (h : VoP zs) {r : Nat} (hr : r < cF zs (2 ^ zs.length - 1)) {k : Nat} (hk : k < zs.length) : (stA zs r k).1 < 2 ^ zs.length ∧ (stA zs r k).2 ≤ 46656 ∧ (stA zs r k).2 < rkIn zs (stA zs r k).1 zs.length := by
  have hn6 := h.1
  have hp64 := pow_le64 hn6
  obtain ⟨h1, h2, h3⟩ := stA_ok h hr k (by omega)
  have h0 := pop_full_fin ⟨zs.length, by omega⟩ ⟨(stA zs r k).1, by omega⟩ h1 (by show popI ((stA zs r k).1 : Int) < (zs.length : Int); omega)
  simp only at h0
  have h4 := cF_le h (s := 2 ^ zs.length - 1 - (stA zs r k).1) (by omega)
  exact ⟨h1, by omega, by rw [rkIn_all h h1 h0]; exact h3⟩
theorem less_sorted {l pre : List Nat} {y : Nat} (hl : l.Pairwise (· < ·)) (hp : pre ++ [y] <+: l) : l.filter (fun a => decide (a < y)) = pre := by
  obtain ⟨t, rfl⟩ := hp
  rw [List.append_assoc, List.pairwise_append] at hl
  obtain ⟨_, h2, h3⟩ := hl
  rw [List.append_assoc, List.filter_append, List.filter_eq_self.2 (fun a ha => by simpa using h3 a ha y (by simp)), List.filter_eq_nil_iff.2, List.append_nil]
  intro a ha
  simp only [List.singleton_append] at h2 ha
  rw [List.pairwise_cons] at h2
  rcases List.mem_cons.1 ha with rfl | ha
  · simp
  · have := h2.1 a ha
    simp; omega
theorem nextL_inc {zs : List Int} (h : VoP zs) (s : Nat) : (nextL zs s).Pairwise (· < ·) := by
  rw [nextL_is h]; exact (range_inc _).filter _
/-- What stands ahead of an item that may come next. -/
theorem accF_at {zs : List Int} (h : VoP zs) {D y : Nat} (hD : D < 2 ^ zs.length) {pre : List Nat} (hp : pre ++ [y] <+: nextL zs (2 ^ zs.length - 1 - D)) : accF zs (2 ^ zs.length - 1 - D) pre = rkIn zs D y := by
  have hy := (nextL_mem h (hp.subset (by simp : y ∈ pre ++ [y]))).1
  rw [← accR_all h hD (Nat.le_of_lt hy)]
  unfold accR accF
  rw [less_sorted (nextL_inc h _) hp]
theorem next_mem {zs : List Int} (h : VoP zs) {D x : Nat} (hD : D < 2 ^ zs.length) (hx : x < zs.length) (hn : nextE zs D x = true) : x ∈ nextL zs (2 ^ zs.length - 1 - D) := by
  rw [nextL_is h, List.mem_filter, List.mem_range]
  exact ⟨hx, by rw [← nextE_eF h hD hx]; exact hn⟩
theorem le_of_first {l pre : List Nat} {x y : Nat} (hl : l.Pairwise (· < ·)) (hp : pre ++ [y] <+: l) (hx : x ∈ l) (hn : x ∉ pre) : y ≤ x := by
  obtain ⟨t, rfl⟩ := hp
  rw [List.append_assoc, List.pairwise_append] at hl
  obtain ⟨_, h2, _⟩ := hl
  simp only [List.singleton_append, List.pairwise_cons] at h2
  simp only [List.append_assoc, List.singleton_append, List.mem_append, List.mem_cons] at hx
  rcases hx with hx | rfl | hx
  · exact absurd hx hn
  · exact Nat.le_refl _
  · exact Nat.le_of_lt (h2.1 x hx)
/-- The answer: no line, or the line of the rank. -/
def hasAt (zs : List Int) (r : Int) : Bool := vo zs && (decide (0 ≤ r) && decide (r < (cF zs (2 ^ zs.length - 1) : Int)))
def atR (zs : List Int) (r : Int) : List Int := if hasAt zs r then atL zs r.toNat zs.length else []
end Go.Proofs.YtghogabmkbadjaaDoor

/- Ranks and lines tell each other, as plain mathematics. No program. -/
namespace Go.Proofs.YtghogabmkbadjaaDoor

theorem pk_of {zs : List Int} {D r x : Nat} (hx : x < zs.length) (h1 : rkIn zs D x ≤ r) (h2 : r < rkIn zs D (x + 1)) : pk zs D r = x := by
  have hr : r < rkIn zs D zs.length := Nat.lt_of_lt_of_le h2 (rkIn_mono' hx)
  obtain ⟨_, p2, p3⟩ := pk_ok hr
  rcases Nat.lt_trichotomy (pk zs D r) x with h | h | h
  · have := rkIn_mono' (zs := zs) (D := D) (show pk zs D r + 1 ≤ x from h); omega
  · exact h
  · have := rkIn_mono' (zs := zs) (D := D) (show x + 1 ≤ pk zs D r from h); omega
theorem full_fin : ∀ n : Fin 7, ∀ s : Fin 64, s.val < 2 ^ n.val → popI (s.val : Int) = (n.val : Int) → 2 ^ n.val - 1 - s.val = 0 := by decide +kernel

section
variable {zs ls : List Int}
theorem line_next (_ : VoP zs) (hs : ∀ k, k < zs.length → stepOk zs ls k = true) {k : Nat} (hk : k < zs.length) : nextE zs (dN ls k) (itN ls k) = true := by
  have hok : ∀ i, i < k → stepOk zs ls i = true := fun i hi => hs i (by omega)
  have h1 := hs k hk
  have h2 := d_new hok h1
  have h3 := (it_is h1).1
  have h4 := (d_is hok).1
  unfold stepOk at h1
  rw [Bool.and_eq_true, Bool.and_eq_true, h3, h4, Int.toNat_natCast] at h1
  unfold nextE
  rw [h2, h1.2.2]; rfl
theorem line_pop (hv : VoP zs) (hs : ∀ k, k < zs.length → stepOk zs ls k = true) : ∀ k : Nat, k ≤ zs.length → popI (dN ls k : Int) = k
  | 0, _ => (by decide +kernel : popI ((0 : Nat) : Int) = ((0 : Nat) : Int))
  | k + 1, hk => by
    have hn6 := hv.1
    have hp64 := pow_le64 hn6
    have ih := line_pop hv hs k (by omega)
    have hok : ∀ i, i < k → stepOk zs ls i = true := fun i hi => hs i (by omega)
    have h1 := hs k (by omega)
    have h2 := d_new hok h1
    have h3 := (it_is h1).2
    have h4 := (d_is hok).2
    rw [d_succ hv hok h1]
    have := pop_add_fin ⟨dN ls k, by omega⟩ ⟨itN ls k, by omega⟩ h2
    simp only at this
    rw [this, ih]; omega
theorem line_full (hv : VoP zs) (hs : ∀ k, k < zs.length → stepOk zs ls k = true) : 2 ^ zs.length - 1 - dN ls zs.length = 0 := by
  have hn6 := hv.1
  have hp64 := pow_le64 hn6
  have h4 := (d_is (zs := zs) (ls := ls) (k := zs.length) fun i hi => hs i hi).2
  exact full_fin ⟨zs.length, by omega⟩ ⟨dN ls zs.length, by omega⟩ h4 (line_pop hv hs _ (Nat.le_refl _))
theorem rkUp_mono : ∀ d k : Nat, rkUp zs ls k ≤ rkUp zs ls (k + d)
  | 0, _ => Nat.le_refl _
  | d + 1, k => by
    have := rkUp_mono d k
    rw [← Nat.add_assoc]
    exact Nat.le_trans this (Nat.le_add_right _ _)
theorem rkUp_mono' {a b : Nat} (h : a ≤ b) : rkUp zs ls a ≤ rkUp zs ls b := by
  have := rkUp_mono (zs := zs) (ls := ls) (b - a) a
  rwa [show a + (b - a) = b by omega] at this
theorem rkUp_succ (k : Nat) : rkUp zs ls (k + 1) = rkUp zs ls k + rkIn zs (dN ls k) (itN ls k) := rfl
theorem rkIn_line (hv : VoP zs) (hs : ∀ k, k < zs.length → stepOk zs ls k = true) {k : Nat} (hk : k < zs.length) :
    rkIn zs (dN ls k) (itN ls k + 1) = rkIn zs (dN ls k) (itN ls k) + cF zs (2 ^ zs.length - 1 - dN ls (k + 1)) := by
  rw [rkIn_succ, line_next hv hs hk, if_pos rfl, d_succ hv (fun i hi => hs i (by omega)) (hs k hk)]
theorem line_lt (hv : VoP zs) (hs : ∀ k, k < zs.length → stepOk zs ls k = true) : ∀ m k : Nat, m + k = zs.length → rkUp zs ls zs.length - rkUp zs ls k < cF zs (2 ^ zs.length - 1 - dN ls k)
  | 0, k, e => by
    obtain rfl : k = zs.length := by omega
    rw [line_full hv hs, cF_zero]; omega
  | m + 1, k, e => by
    have ih := line_lt hv hs m (k + 1) (by omega)
    have hk : k < zs.length := by omega
    have hn6 := hv.1
    have hp64 := pow_le64 hn6
    have h4 := (d_is (zs := zs) (ls := ls) (k := k) fun i hi => hs i (by omega)).2
    have h0 := pop_full_fin ⟨zs.length, by omega⟩ ⟨dN ls k, by omega⟩ h4 (by show popI ((dN ls k : Nat) : Int) < (zs.length : Int); rw [line_pop hv hs k (by omega)]; omega)
    simp only at h0
    have h5 := rkIn_all hv h4 h0
    have h6 := rkIn_line hv hs hk
    have h7 := rkIn_mono' (zs := zs) (D := dN ls k) (show itN ls k + 1 ≤ zs.length from (it_is (hs k hk)).2)
    have h8 := rkUp_mono' (zs := zs) (ls := ls) (show k + 1 ≤ zs.length from hk)
    rw [rkUp_succ] at ih h8
    omega
theorem stA_line (hv : VoP zs) (hs : ∀ k, k < zs.length → stepOk zs ls k = true) : ∀ k : Nat, k ≤ zs.length → stA zs (rkUp zs ls zs.length) k = (dN ls k, rkUp zs ls zs.length - rkUp zs ls k)
  | 0, _ => rfl
  | k + 1, hk => by
    have ih := stA_line hv hs k (by omega)
    have h5 := line_lt hv hs (zs.length - (k + 1)) (k + 1) (by omega)
    have h6 := rkIn_line hv hs (show k < zs.length from hk)
    have h8 := rkUp_mono' (zs := zs) (ls := ls) hk
    have hp : pk zs (dN ls k) (rkUp zs ls zs.length - rkUp zs ls k) = itN ls k := pk_of (it_is (hs k hk)).2 (by rw [rkUp_succ] at h8; omega) (by rw [rkUp_succ] at h8 h5; omega)
    unfold stA
    rw [ih]
    simp only
    rw [hp, d_succ hv (fun i hi => hs i (by omega)) (hs k hk), rkUp_succ, Nat.sub_sub]
theorem pk_line (hv : VoP zs) (hs : ∀ k, k < zs.length → stepOk zs ls k = true) {k : Nat} (hk : k < zs.length) : pk zs (dN ls k) (rkUp zs ls zs.length - rkUp zs ls k) = itN ls k := by
  have h5 := line_lt hv hs (zs.length - (k + 1)) (k + 1) (by omega)
  have h6 := rkIn_line hv hs hk
  have h8 := rkUp_mono' (zs := zs) (ls := ls) (show k + 1 ≤ zs.length from hk)
  exact pk_of (it_is (hs k hk)).2 (by rw [rkUp_succ] at h8; omega) (by rw [rkUp_succ] at h8 h5; omega)
theorem atL_take (hv : VoP zs) (hl : ls.length = zs.length) (hs : ∀ k, k < zs.length → stepOk zs ls k = true) : ∀ k : Nat, k ≤ zs.length → atL zs (rkUp zs ls zs.length) k = ls.take k
  | 0, _ => by simp [atL]
  | k + 1, hk => by
    have ih := atL_take hv hl hs k (by omega)
    unfold atL
    rw [ih, stA_line hv hs k (by omega), pk_line hv hs (by omega), List.take_add_one, List.getElem?_eq_getElem (by omega)]
    have h3 := (it_is (hs k hk)).1
    rw [List.getElem?_eq_getElem (by omega)] at h3
    simp at h3
    simp [h3]
/-- A line is the one of its rank. -/
theorem at_rank (hv : VoP zs) (hl : lineB zs ls = true) : rkUp zs ls zs.length < cF zs (2 ^ zs.length - 1) ∧ atL zs (rkUp zs ls zs.length) zs.length = ls := by
  obtain ⟨h1, hs⟩ := line_steps hl
  refine ⟨?_, by rw [atL_take hv h1 hs _ (Nat.le_refl _), List.take_of_length_le (by omega)]⟩
  have := line_lt hv hs zs.length 0 (by omega)
  have e : dN ls 0 = 0 := rfl
  have e2 : rkUp zs ls 0 = 0 := rfl
  rw [e, e2] at this
  simpa using this
end

section
variable {zs : List Int} {r : Nat}
theorem atL_at : ∀ m k : Nat, k < m → (atL zs r m)[k]?.getD 0 = (pk zs (stA zs r k).1 (stA zs r k).2 : Int)
  | m + 1, k, hk => by
    unfold atL
    rcases Nat.lt_or_ge k m with h | h
    · rw [List.getElem?_append_left (by rw [atL_len]; exact h)]; exact atL_at m k h
    · obtain rfl : k = m := by omega
      rw [List.getElem?_append_right (by rw [atL_len]; exact Nat.le_refl _), atL_len]; simp
theorem atL_done (hv : VoP zs) (hr : r < cF zs (2 ^ zs.length - 1)) : ∀ k : Nat, k ≤ zs.length → doneTo (atL zs r zs.length) k = ((stA zs r k).1 : Int)
  | 0, _ => rfl
  | k + 1, hk => by
    have ih := atL_done hv hr k (by omega)
    have hn6 := hv.1
    have hp64 := pow_le64 hn6
    obtain ⟨h1, _, h3⟩ := stA_step hv hr (show k < zs.length from hk)
    have hp := pk_ok h3
    have hb := (nextE_new (pk_next h3)).1
    unfold doneTo
    rw [ih, atL_at _ _ (show k < zs.length from hk), or_is (by omega) (by omega) hb]
    rfl
theorem atL_step (hv : VoP zs) (hr : r < cF zs (2 ^ zs.length - 1)) {k : Nat} (hk : k < zs.length) : stepOk zs (atL zs r zs.length) k = true := by
  obtain ⟨h1, _, h3⟩ := stA_step hv hr hk
  have hp := pk_ok h3
  have hb := nextE_new (pk_next h3)
  unfold stepOk
  rw [atL_at _ _ hk, atL_done hv hr k (by omega), Int.toNat_natCast, bit_cast, hb.1, hb.2]
  simp [inB]; omega
/-- The line of a rank is one, and has that rank. -/
theorem rank_at (hv : VoP zs) (hr : r < cF zs (2 ^ zs.length - 1)) : lineB zs (atL zs r zs.length) = true ∧ rkUp zs (atL zs r zs.length) zs.length = r := by
  have hs : ∀ k, k < zs.length → stepOk zs (atL zs r zs.length) k = true := fun k hk => atL_step hv hr hk
  refine ⟨lineB_yes (atL_len _ _ _) rfl hs, ?_⟩
  have hd : ∀ k, k ≤ zs.length → dN (atL zs r zs.length) k = (stA zs r k).1 := fun k hk => by unfold dN; rw [atL_done hv hr k hk]; rfl
  have key : ∀ k : Nat, k ≤ zs.length → rkUp zs (atL zs r zs.length) k + (stA zs r k).2 = r := by
    intro k
    induction k with
    | zero => intro _; simp [rkUp, stA]
    | succ k ih =>
      intro hk
      have ih := ih (by omega)
      obtain ⟨h1, _, h3⟩ := stA_step hv hr (show k < zs.length from hk)
      have hp := pk_ok h3
      have hi : itN (atL zs r zs.length) k = pk zs (stA zs r k).1 (stA zs r k).2 := by unfold itN; rw [atL_at _ _ (show k < zs.length from hk)]; rfl
      have e2 : (stA zs r (k + 1)).2 = (stA zs r k).2 - rkIn zs (stA zs r k).1 (pk zs (stA zs r k).1 (stA zs r k).2) := rfl
      rw [rkUp_succ, hd k (by omega), hi, e2]
      omega
  have h0 := key zs.length (Nat.le_refl _)
  have h1 := (stA_ok hv hr zs.length (Nat.le_refl _)).2.2
  rw [← hd _ (Nat.le_refl _), line_full hv hs, cF_zero] at h1
  omega
end

/-! Turned round. -/
theorem below_any {zs : List Int} (h : VoP zs) {s a : Nat} (hs : s < 2 ^ zs.length) : belowAny zs s a = false ↔ andI (zs[a]?.getD 0) (s : Int) = 0 := by
  unfold belowAny
  rw [andI_zero]
  constructor
  · intro e j hj
    rw [bit_cast] at hj
    have hjn := bit_lt hs hj
    cases e2 : bitB (zs[a]?.getD 0) j
    · rfl
    · have : ((List.range zs.length).any fun b => s.testBit b && bitB ((du zs)[b]?.getD 0) a) = true := by
        rw [List.any_eq_true]
        exact ⟨j, List.mem_range.2 hjn, by rw [du_bit h.sets, hj, e2]; rfl⟩
      rw [e] at this; cases this
  · intro e
    rw [List.any_eq_false]
    intro b _ hb
    rw [Bool.and_eq_true, du_bit h.sets] at hb
    have := e b (by rw [bit_cast]; exact hb.1)
    rw [hb.2] at this; cases this
theorem eF_du {zs : List Int} (h : VoP zs) {s a : Nat} (hs : s < 2 ^ zs.length) (hI : Ideal zs s) : eF (du zs) s a = eG zs s a := by
  unfold eF eG
  rw [du_du h]
  cases hb : s.testBit a
  · rfl
  · have h1 : (lessI ((du zs)[a]?.getD 0) (s : Int) == 0) = true := by
      rw [beq_iff_eq, less_zero]
      exact fun j hj => hI j a hb hj
    rw [h1, Bool.true_and, Bool.true_and, Bool.true_and]
    cases e : belowAny zs s a
    · rw [(below_any h hs).1 e]; rfl
    · have : ¬ andI (zs[a]?.getD 0) (s : Int) = 0 := fun e2 => by rw [(below_any h hs).2 e2] at e; cases e
      simpa using this
theorem ideal_less {zs : List Int} (h : VoP zs) {s a : Nat} (hs : s < 2 ^ zs.length) (hI : Ideal zs s) (he : eG zs s a = true) : Ideal zs (s - 2 ^ a) := by
  have hn6 := h.1
  have hp64 := pow_le64 hn6
  unfold eG at he
  rw [Bool.and_eq_true, Bool.and_eq_true] at he
  obtain ⟨ha, _, hnb⟩ := he
  have han := bit_lt hs ha
  have hpa := Nat.two_pow_pos a
  have hbit : ∀ j, (s - 2 ^ a).testBit j = (s.testBit j && !decide (a = j)) := fun j => by
    rcases Nat.lt_or_ge j 6 with hj | hj
    · exact sub_bit_fin ⟨s, by omega⟩ ⟨a, by omega⟩ ⟨j, hj⟩ ha
    · rw [Nat.testBit_lt_two_pow (Nat.lt_of_lt_of_le (show s - 2 ^ a < 2 ^ 6 by omega) (Nat.pow_le_pow_right (by decide) hj)), Nat.testBit_lt_two_pow (Nat.lt_of_lt_of_le (show s < 2 ^ 6 by omega) (Nat.pow_le_pow_right (by decide) hj))]; rfl
  intro x y hy hb
  rw [hbit, Bool.and_eq_true] at hy ⊢
  refine ⟨hI x y hy.1 hb, ?_⟩
  by_cases e : a = x
  · subst e
    have h2 : belowAny zs s a = true := by
      unfold belowAny
      rw [List.any_eq_true]
      exact ⟨y, List.mem_range.2 (bit_lt hs hy.1), by rw [hy.1, hb]; rfl⟩
    rw [h2] at hnb; simp at hnb
  · simp [e]
theorem cF_du {zs : List Int} (h : VoP zs) : ∀ (k s : Nat), s ≤ k → s < 2 ^ zs.length → Ideal zs s → cF (du zs) s = cG zs s
  | 0, s, hk, _, _ => by
    obtain rfl : s = 0 := by omega
    rw [cF_zero, cG_zero]
  | k + 1, s, hk, hs, hI => by
    by_cases h0 : s = 0
    · subst h0; rw [cF_zero, cG_zero]
    · rw [cF_pos h0, cG_pos h0, du_len]
      refine sum_congr fun a ha => ?_
      rw [eF_du h hs hI]
      cases he : eG zs s a
      · rfl
      · have hlt := sub_lt (a := a) h0
        rw [if_pos rfl, if_pos rfl, cF_du h k (s - 2 ^ a) (by omega) (by omega) (ideal_less h hs hI he)]
/-- The order turned round has as many lines. -/
theorem count_du {zs : List Int} (h : VoP zs) : cF (du zs) (2 ^ zs.length - 1) = cF zs (2 ^ zs.length - 1) := by
  have hp := Nat.two_pow_pos zs.length
  rw [cF_du h _ _ (Nat.le_refl _) (by omega) (fun a b _ hb => by
    have := (du_small h hb).1
    rw [Nat.testBit_two_pow_sub_one]; simpa using this), count_both h]
end Go.Proofs.YtghogabmkbadjaaDoor

/- What lines have in common, as plain mathematics. No program. -/
namespace Go.Proofs.YtghogabmkbadjaaDoor

/-- The set of the items below k of which p holds. -/
def setP (p : Nat → Bool) : Nat → Int
  | 0 => 0
  | k + 1 => if p k then orI (setP p k) (powI (k : Int)) else setP p k
theorem setP_bd (p : Nat → Bool) : ∀ k : Nat, 0 ≤ setP p k ∧ setP p k < powI k
  | 0 => ⟨Int.le_refl _, powI_pos _⟩
  | k + 1 => by
    have h := setP_bd p k
    have h2 : powI ((k + 1 : Nat) : Int) = 2 * powI k := by rw [show ((k + 1 : Nat) : Int) = (k : Int) + 1 by omega]; exact powI_succ (by omega)
    have h3 := powI_pos (k : Int)
    unfold setP
    split
    · have h4 : powI ((k : Int) + 1) = 2 * powI k := powI_succ (by omega)
      have h5 := orI_bd (a := setP p k) (b := powI (k : Int)) (n := (k : Int) + 1) h.1 (by omega) (by omega) (by omega)
      rw [h4] at h5; rw [h2]; exact h5
    · omega
theorem setP_bit (p : Nat → Bool) (j : Nat) : ∀ k : Nat, bitB (setP p k) j = (decide (j < k) && p j)
  | 0 => by simp [setP, bitB_zero]
  | k + 1 => by
    have ih := setP_bit p j k
    unfold setP
    by_cases hj : j = k
    · subst hj
      cases hp : p j
      · simp [hp, ih]
      · simp [hp, bitB_or, bitB_pow]
    · have e : decide (j < k + 1) = decide (j < k) := by rw [decide_eq_decide]; omega
      rw [e]
      cases hp : p k
      · simpa using ih
      · rw [if_pos rfl, bitB_or, bitB_pow, ih, decide_eq_false (show ¬ k = j from fun e => hj e.symm)]; simp
theorem setP_congr {p q : Nat → Bool} : ∀ k : Nat, (∀ j, j < k → p j = q j) → setP p k = setP q k
  | 0, _ => rfl
  | k + 1, h => by unfold setP; rw [setP_congr k fun j hj => h j (by omega), h k (by omega)]

/-- Whether b is behind a in all lists. -/
def behB (rs : List (List Int)) (a b : Nat) : Bool := !(a == b) && rs.all fun r => decide (atI r a < atI r b)
def meL (n : Nat) (rs : List (List Int)) : List Int := (List.range n).map fun a => setP (behB rs a) n
theorem meL_len (n : Nat) (rs : List (List Int)) : (meL n rs).length = n := by simp [meL]
theorem meL_get {n : Nat} (rs : List (List Int)) {a : Nat} (ha : a < n) : (meL n rs)[a]?.getD 0 = setP (behB rs a) n := by
  simp [meL, List.getElem?_map, List.getElem?_range, ha]
theorem meL_bd (n : Nat) (rs : List (List Int)) (a : Nat) : 0 ≤ (meL n rs)[a]?.getD 0 ∧ (meL n rs)[a]?.getD 0 < powI n := by
  rcases Nat.lt_or_ge a n with h | h
  · rw [meL_get rs h]; exact setP_bd _ _
  · rw [List.getElem?_eq_none (by rw [meL_len]; exact h)]; exact ⟨Int.le_refl _, powI_pos _⟩

/-- All items, none of which is above another one. -/
def zr (n : Nat) : List Int := List.replicate n 0
theorem zr_len (n : Nat) : (zr n).length = n := by simp [zr]
theorem zr_fin : ∀ n : Fin 7, VoP (zr n.val) ∧ du (zr n.val) = zr n.val := by decide +kernel
theorem zr_vo {n : Nat} (h : n ≤ 6) : VoP (zr n) := (zr_fin ⟨n, by omega⟩).1
theorem zr_du {n : Nat} (h : n ≤ 6) : du (zr n) = zr n := (zr_fin ⟨n, by omega⟩).2

section
variable {n : Nat} {r : List Int}
theorem zr_steps (h : lineB (zr n) r = true) : r.length = n ∧ ∀ k, k < n → stepOk (zr n) r k = true := by
  have := line_steps h
  rwa [zr_len] at this
theorem done_of {k : Nat} (hs : ∀ i, i < k → stepOk (zr n) r i = true) (j : Nat) : bitB (doneTo r k) j = true ↔ ∃ i, i < k ∧ itN r i = j := by
  induction k with
  | zero => unfold doneTo; rw [bitB_zero]; simp
  | succ k ih =>
    have h1 := (it_is (hs k (by omega))).1
    unfold doneTo
    rw [h1, bitB_or, bitB_pow, Bool.or_eq_true, ih fun i hi => hs i (by omega), decide_eq_true_eq]
    constructor
    · rintro (⟨i, hi, e⟩ | e)
      · exact ⟨i, by omega, e⟩
      · exact ⟨k, by omega, e⟩
    · rintro ⟨i, hi, e⟩
      rcases Nat.lt_or_ge i k with h | h
      · exact .inl ⟨i, h, e⟩
      · obtain rfl : i = k := by omega
        exact .inr e
theorem it_new (h : lineB (zr n) r = true) {k i : Nat} (hk : k < n) (hi : i < k) : itN r i ≠ itN r k := fun e => by
  have hs := (zr_steps h).2
  have h1 := (done_of (n := n) (k := k) (fun i hi => hs i (by omega)) (itN r k)).2 ⟨i, hi, e⟩
  have h2 := stepOk_new (hs k hk)
  rw [(it_is (hs k hk)).1] at h2
  rw [h2] at h1; cases h1
theorem it_lt (h : lineB (zr n) r = true) {k : Nat} (hk : k < n) : r[k]?.getD 0 = (itN r k : Int) ∧ itN r k < n := by
  have := it_is ((zr_steps h).2 k hk)
  rwa [zr_len] at this
theorem at_it (h : lineB (zr n) r = true) {k : Nat} (hk : k < n) : atI r (itN r k : Int) = (k : Int) := by
  refine atI_hit (fun j hj e => ?_) (by rw [(zr_steps h).1]; exact hk) (it_lt h hk).1
  rw [(it_lt h (show j < n by omega)).1] at e
  exact it_new h hk hj (by omega)
theorem it_all (hn : n ≤ 6) (h : lineB (zr n) r = true) {a : Nat} (ha : a < n) : ∃ k, k < n ∧ itN r k = a := by
  have hs := (zr_steps h).2
  have hf := line_full (zs := zr n) (ls := r) (zr_vo hn) (by rw [zr_len]; exact hs)
  rw [zr_len] at hf
  have hb := (d_is (zs := zr n) (ls := r) (k := n) hs)
  rw [zr_len] at hb
  refine (done_of (n := n) hs a).1 ?_
  rw [hb.1]
  have e : dN r n = 2 ^ n - 1 := by omega
  rw [e]
  have hp : powI (n : Int) - 1 = ((2 ^ n - 1 : Nat) : Int) := by
    have := Nat.two_pow_pos n
    unfold powI
    rw [Int.toNat_natCast]
    rw [Int.natCast_sub (by omega)]
    norm_cast
  rw [← hp, all_bits]
  simpa using ha
theorem at_of (hn : n ≤ 6) (h : lineB (zr n) r = true) {a : Nat} (ha : a < n) : ∃ k, k < n ∧ itN r k = a ∧ atI r (a : Int) = (k : Int) := by
  obtain ⟨k, hk, e⟩ := it_all hn h ha
  exact ⟨k, hk, e, by rw [← e]; exact at_it h hk⟩
theorem left_at (hn : n ≤ 6) (h : lineB (zr n) r = true) {k : Nat} (hk : k < n) (j : Nat) (hj : j < n) : bitB (leftTo n r (k + 1)) j = decide ((k : Int) < atI r (j : Int)) := by
  have hs := (zr_steps h).2
  have h1 := leftTo_bit (zs := zr n) (ls := r) j (k + 1) (fun i hi => hs i (by omega))
  rw [zr_len] at h1
  obtain ⟨q, hq, e, ea⟩ := at_of hn h hj
  rw [h1, ea, decide_eq_true hj, Bool.true_and]
  have h2 := done_of (n := n) (k := k + 1) (r := r) (fun i hi => hs i (by omega)) j
  rw [Bool.eq_iff_iff, Bool.not_eq_true', decide_eq_true_eq, ← Bool.not_eq_true, h2]
  constructor
  · intro hno
    rcases Nat.lt_or_ge k q with h3 | h3
    · omega
    · exact absurd ⟨q, by omega, e⟩ hno
  · rintro hlt ⟨i, hi, ei⟩
    have := at_it h (show i < n by omega)
    rw [ei, ea] at this
    omega

/-- The order of a line, as far as it is read. -/
def lnL (n : Nat) (r : List Int) (k : Nat) : List Int := (List.range n).map fun a : Nat => if atI r (a : Int) < (k : Int) then setP (fun b => behB [r] a b) n else 0
theorem lnL_len (n : Nat) (r : List Int) (k : Nat) : (lnL n r k).length = n := by simp [lnL]
theorem lnL_zero (hn : n ≤ 6) (h : lineB (zr n) r = true) : lnL n r 0 = zr n := by
  refine List.ext_getElem? fun a => ?_
  by_cases ha : a < n
  · obtain ⟨q, hq, e, ea⟩ := at_of hn h ha
    simp only [lnL, zr, List.getElem?_map, List.getElem?_range ha, List.getElem?_replicate, ha, if_true, Option.map_some, ea]
    rw [if_neg (by omega)]
  · rw [List.getElem?_eq_none (by rw [lnL_len]; omega), List.getElem?_eq_none (by rw [zr_len]; omega)]
theorem lnL_all (hn : n ≤ 6) (h : lineB (zr n) r = true) : lnL n r n = meL n [r] := by
  unfold lnL meL
  refine List.map_congr_left fun a ha => ?_
  obtain ⟨q, hq, e, ea⟩ := at_of hn h (List.mem_range.1 ha)
  rw [ea, if_pos (by omega)]
theorem lnL_step (hn : n ≤ 6) (h : lineB (zr n) r = true) {k : Nat} (hk : k < n) : lnL n r (k + 1) = (lnL n r k).set (itN r k) (leftTo n r (k + 1)) := by
  have hx := (it_lt h hk).2
  have hax := at_it h hk
  refine List.ext_getElem? fun a => ?_
  by_cases ha : a < n
  · obtain ⟨q, hq, e, ea⟩ := at_of hn h ha
    rw [List.getElem?_set]
    by_cases hxa : itN r k = a
    · rw [if_pos hxa, if_pos (by rw [lnL_len]; omega)]
      simp only [lnL, List.getElem?_map, List.getElem?_range ha, Option.map_some]
      rw [hxa] at hax
      rw [hax, if_pos (by omega)]
      congr 1
      refine bitB_ext (setP_bd _ _).1 (leftTo_bd _).1 fun j => ?_
      rw [setP_bit]
      by_cases hj : j < n
      · rw [left_at hn h hk j hj, decide_eq_true hj, Bool.true_and]
        unfold behB
        simp only [List.all_cons, List.all_nil, Bool.and_true, hax]
        cases hc : decide ((k : Int) < atI r (j : Int))
        · simp
        · have hc' := of_decide_eq_true hc
          have : a ≠ j := fun e => by subst e; omega
          simp [this]
      · have hb := leftTo_bd (n := n) (ls := r) (k + 1)
        have : bitB (leftTo n r (k + 1)) j = false := by
          cases e2 : bitB (leftTo n r (k + 1)) j
          · rfl
          · exact absurd (bitB_lt hb.2 e2) hj
        rw [this, decide_eq_false hj]; rfl
    · rw [if_neg hxa]
      simp only [lnL, List.getElem?_map, List.getElem?_range ha, Option.map_some, ea]
      have hqk : q ≠ k := fun e2 => hxa (by rw [← e2]; exact e)
      by_cases h3 : (q : Int) < (k : Int)
      · rw [if_pos h3, if_pos (by omega)]
      · rw [if_neg h3, if_neg (by omega)]
  · rw [List.getElem?_eq_none (by rw [lnL_len]; omega), List.getElem?_eq_none (by rw [List.length_set, lnL_len]; omega)]
end

/-- Two lists of sets, the first k of them put together. -/
def opL (f : Int → Int → Int) (xs ys : List Int) (k : Nat) : List Int := (List.range xs.length).map fun a => if a < k then f (xs[a]?.getD 0) (ys[a]?.getD 0) else xs[a]?.getD 0
theorem opL_len (f : Int → Int → Int) (xs ys : List Int) (k : Nat) : (opL f xs ys k).length = xs.length := by simp [opL]
theorem opL_zero (f : Int → Int → Int) (xs ys : List Int) : opL f xs ys 0 = xs := by
  refine List.ext_getElem? fun a => ?_
  by_cases ha : a < xs.length
  · simp [opL, List.getElem?_range, ha]
  · rw [List.getElem?_eq_none (by rw [opL_len]; omega), List.getElem?_eq_none (by omega)]
theorem opL_get (f : Int → Int → Int) (xs ys : List Int) (k : Nat) {a : Nat} (ha : a < xs.length) : (opL f xs ys k)[a]?.getD 0 = if a < k then f (xs[a]?.getD 0) (ys[a]?.getD 0) else xs[a]?.getD 0 := by
  simp [opL, List.getElem?_range, ha]
theorem opL_step (f : Int → Int → Int) (xs ys : List Int) {k : Nat} (hk : k < xs.length) : (opL f xs ys k).set k (f ((opL f xs ys k)[k]?.getD 0) (ys[k]?.getD 0)) = opL f xs ys (k + 1) := by
  refine List.ext_getElem? fun a => ?_
  by_cases ha : a < xs.length
  · rw [opL_get f xs ys k hk, if_neg (by omega), List.getElem?_set]
    by_cases hka : k = a
    · subst hka
      rw [if_pos rfl, if_pos (by rw [opL_len]; omega)]
      simp [opL, List.getElem?_range, hk]
    · rw [if_neg hka]
      simp only [opL, List.getElem?_map, List.getElem?_range ha, Option.map_some]
      by_cases h3 : a < k
      · rw [if_pos h3, if_pos (by omega)]
      · rw [if_neg h3, if_neg (by omega)]
  · rw [List.getElem?_eq_none (by rw [List.length_set, opL_len]; omega), List.getElem?_eq_none (by rw [opL_len]; omega)]
theorem behB_snoc (rs : List (List Int)) (r : List Int) (a b : Nat) : behB (rs ++ [r]) a b = (behB rs a b && behB [r] a b) := by
  unfold behB
  rw [List.all_append]
  cases (a == b) <;> simp
theorem meL_snoc (n : Nat) (rs : List (List Int)) (r : List Int) : opL andI (meL n rs) (meL n [r]) n = meL n (rs ++ [r]) := by
  refine List.ext_getElem? fun a => ?_
  by_cases ha : a < n
  · have e1 := meL_get rs ha
    have e2 := meL_get [r] ha
    simp only [opL, List.getElem?_map, List.getElem?_range (show a < (meL n rs).length by rw [meL_len]; exact ha), Option.map_some, e1, e2, if_pos ha]
    simp only [meL, List.getElem?_map, List.getElem?_range ha, Option.map_some]
    congr 1
    refine bitB_ext (andI_bd _ _).1 (setP_bd _ _).1 fun j => ?_
    rw [bitB_and, setP_bit, setP_bit, setP_bit, behB_snoc]
    cases decide (j < n) <;> simp
  · rw [List.getElem?_eq_none (by rw [opL_len, meL_len]; omega), List.getElem?_eq_none (by rw [meL_len]; omega)]

/-- Lists that are lines of all items. -/
def lnOk (n : Int) (rs : List (List Int)) : Bool := inB n 0 6 && (rs.all (lineB (zr n.toNat)) && decide (0 < rs.length))
def lnR (n : Int) (rs : List (List Int)) : List Int := if lnOk n rs then meL n.toNat rs else []
theorem lnOk_no {n : Int} {rs : List (List Int)} {k : Nat} (hk : k < rs.length) (h : lineB (zr n.toNat) (rs[k]?.getD []) = false) : lnOk n rs = false := by
  unfold lnOk
  rw [List.getElem?_eq_getElem hk, Option.getD_some] at h
  have : rs.all (lineB (zr n.toNat)) = false := by
    rw [Bool.eq_false_iff]
    intro ha
    rw [List.all_eq_true.1 ha _ (List.getElem_mem hk)] at h
    cases h
  rw [this]; simp
end Go.Proofs.YtghogabmkbadjaaDoor

/- An order under new numbers: its value. No program. -/
namespace Go.Proofs.YtghogabmkbadjaaDoor

/-- What has been numbered anew when a list of pairs is over. -/
def rnP (ts : List Int) (n : Nat) (ps : List (Nat × Nat)) : List Int := ps.foldl (fun (d : List Int) (p : Nat × Nat) => d.set (itN ts p.1) (orI (d[itN ts p.1]?.getD 0) (powI (itN ts p.2)))) (List.replicate n 0)
theorem rnP_snoc (ts : List Int) (n : Nat) (ps : List (Nat × Nat)) (a b : Nat) : rnP ts n (ps ++ [(a, b)]) = (rnP ts n ps).set (itN ts a) (orI ((rnP ts n ps)[itN ts a]?.getD 0) (powI (itN ts b))) := by simp [rnP]
theorem rnP_len (ts : List Int) (n : Nat) : ∀ ps : List (Nat × Nat), (rnP ts n ps).length = n := fun ps => by
  unfold rnP
  generalize hd : List.replicate n (0 : Int) = d
  have hl : d.length = n := by rw [← hd]; simp
  clear hd
  induction ps generalizing d with
  | nil => exact hl
  | cons p ps ih => exact ih _ (by simpa using hl)
theorem rnP_bd {ts : List Int} {n m : Nat} {ps : List (Nat × Nat)} (h : ∀ p ∈ ps, itN ts p.2 < m) (j : Nat) : 0 ≤ (rnP ts n ps)[j]?.getD 0 ∧ (rnP ts n ps)[j]?.getD 0 < powI m := by
  have hp := powI_pos (m : Int)
  unfold rnP
  generalize hd : List.replicate n (0 : Int) = d
  have hl : ∀ j : Nat, 0 ≤ d[j]?.getD 0 ∧ d[j]?.getD 0 < powI m := fun j => by
    rw [← hd]
    by_cases hj : j < n
    · simp [hj]; exact hp
    · simp [hj]; exact hp
  clear hd
  induction ps generalizing d with
  | nil => exact hl j
  | cons p ps ih =>
    refine ih (fun q hq => h q (by simp [hq])) _ (fun i => ?_)
    have h1 := h p (by simp)
    by_cases hi : itN ts p.1 = i
    · subst hi
      by_cases hlt : itN ts p.1 < d.length
      · rw [List.getElem?_set_self hlt]
        exact orI_bd (hl _).1 (hl _).2 (Int.le_of_lt (powI_pos _)) (powI_lt h1)
      · dsimp only
        rw [List.set_eq_of_length_le (by omega)]
        exact hl _
    · rw [List.getElem?_set_ne hi]
      exact hl i
theorem rnP_bit {ts : List Int} {n : Nat} {ps : List (Nat × Nat)} (hps : ∀ p ∈ ps, itN ts p.1 < n) (a b : Nat) : bitB ((rnP ts n ps)[a]?.getD 0) b = true ↔ ∃ p ∈ ps, itN ts p.1 = a ∧ itN ts p.2 = b := by
  have key : ∀ (ps : List (Nat × Nat)) (d : List Int), d.length = n → (∀ p ∈ ps, itN ts p.1 < n) →
      (bitB ((ps.foldl (fun (d : List Int) (p : Nat × Nat) => d.set (itN ts p.1) (orI (d[itN ts p.1]?.getD 0) (powI (itN ts p.2)))) d)[a]?.getD 0) b = true ↔ bitB (d[a]?.getD 0) b = true ∨ ∃ p ∈ ps, itN ts p.1 = a ∧ itN ts p.2 = b) := fun ps => by
    induction ps with
    | nil => intro d _ _; simp
    | cons p ps ih =>
      intro d hd hp
      rw [List.foldl_cons, ih _ (by simpa using hd) (fun q hq => hp q (by simp [hq]))]
      have hp2 := hp p (by simp)
      by_cases hy : itN ts p.1 = a
      · rw [hy] at hp2 ⊢
        rw [List.getElem?_set_self (by omega), Option.getD_some, bitB_or, bitB_pow]
        by_cases hx : itN ts p.2 = b
        · simp [hx, hy]
        · simp [hx, hy]
      · rw [List.getElem?_set_ne hy]
        simp [hy]
  unfold rnP
  rw [key ps _ (by simp) hps]
  by_cases hb : a < n
  · simp [hb, bitB_zero]
  · simp [hb, bitB_zero]

/-- The order under new numbers. -/
def rnL (zs ts : List Int) : List Int := rnP ts zs.length (pairsL zs)
def rnOk (zs ts : List Int) : Bool := vo zs && lineB (zr zs.length) ts
def rnR (zs ts : List Int) : List Int := if rnOk zs ts then rnL zs ts else []
theorem rnL_len (zs ts : List Int) : (rnL zs ts).length = zs.length := rnP_len _ _ _
section
variable {zs ts : List Int}
theorem rn_pair (hz : Sets zs) (ht : lineB (zr zs.length) ts = true) : ∀ p ∈ pairsL zs, itN ts p.1 < zs.length ∧ itN ts p.2 < zs.length := fun p hp => by
  obtain ⟨h1, h2, _⟩ := hz.pair (a := p.1) (b := p.2) hp
  exact ⟨(it_lt ht h1).2, (it_lt ht h2).2⟩
/-- A bit of the order under new numbers. -/
theorem rnL_bit (hz : Sets zs) (ht : lineB (zr zs.length) ts = true) {a b : Nat} (ha : a < zs.length) (hb : b < zs.length) : bitB ((rnL zs ts)[itN ts a]?.getD 0) (itN ts b) = bitB (zs[a]?.getD 0) b := by
  have hps := rn_pair hz ht
  have hinj : ∀ i j, i < zs.length → j < zs.length → itN ts i = itN ts j → i = j := fun i j hi hj e => by
    rcases Nat.lt_trichotomy i j with h | h | h
    · exact absurd e (it_new ht hj h)
    · exact h
    · exact absurd e.symm (it_new ht hi h)
  have key : bitB ((rnL zs ts)[itN ts a]?.getD 0) (itN ts b) = true ↔ bitB (zs[a]?.getD 0) b = true := by
    unfold rnL
    rw [rnP_bit (fun p hp => (hps p hp).1)]
    constructor
    · rintro ⟨⟨x, y⟩, hp, e1, e2⟩
      obtain ⟨h1, h2, h3⟩ := hz.pair (a := x) (b := y) hp
      rw [hinj _ _ h1 ha e1, hinj _ _ h2 hb e2] at h3
      exact h3
    · intro e
      exact ⟨(a, b), mem_pairsL.2 ⟨ha, by have := hz.1; omega, e⟩, rfl, rfl⟩
  cases h1 : bitB ((rnL zs ts)[itN ts a]?.getD 0) (itN ts b) <;> cases h2 : bitB (zs[a]?.getD 0) b <;> simp_all
theorem rnL_bd (hz : Sets zs) (ht : lineB (zr zs.length) ts = true) (j : Nat) : 0 ≤ (rnL zs ts)[j]?.getD 0 ∧ (rnL zs ts)[j]?.getD 0 < powI zs.length := rnP_bd (fun p hp => (rn_pair hz ht p hp).2) j
theorem rnL_sets (hz : Sets zs) (ht : lineB (zr zs.length) ts = true) : Sets (rnL zs ts) := ⟨by rw [rnL_len]; exact hz.1, fun a _ => by rw [rnL_len]; exact rnL_bd hz ht a⟩
end
end Go.Proofs.YtghogabmkbadjaaDoor

/- Pairs of items of two orders: an order, its greatest chain, turned round (mathematics). No program. -/
namespace Go.Proofs.YtghogabmkbadjaaDoor
open Go.RowKit

/-- At or below. -/
def leq (zs : List Int) (a b : Nat) : Prop := a = b ∨ lt zs a b
theorem lt_irr' {zs : List Int} (h : VoP zs) {a : Nat} : ¬ lt zs a a := h.irr
theorem leq_trans {zs : List Int} (h : VoP zs) {a b c : Nat} (h1 : leq zs a b) (h2 : leq zs b c) : leq zs a c := by
  rcases h1 with rfl | h1
  · exact h2
  · rcases h2 with rfl | h2
    · exact .inr h1
    · exact .inr (h.trans h1 h2)
theorem leq_asym {zs : List Int} (h : VoP zs) {a b : Nat} (h1 : leq zs a b) (h2 : leq zs b a) : a = b := by
  rcases h1 with e | h1
  · exact e
  · rcases h2 with e | h2
    · exact e.symm
    · exact absurd (h.trans h1 h2) h.irr
theorem leq_bit {zs : List Int} {a b : Nat} (ha : a < zs.length) : bitB (orI (zs[a]?.getD 0) (powI (a : Int))) (b : Int) = true ↔ leq zs a b := by
  rw [bitB_or, bitB_pow, Bool.or_eq_true, decide_eq_true_eq]
  unfold leq lt
  constructor
  · rintro (h | h)
    · exact .inr ⟨ha, h⟩
    · exact .inl h
  · rintro (h | h)
    · exact .inr h
    · exact .inl h.2
theorem leq_hgt {zs : List Int} (h : VoP zs) {a b : Nat} (h1 : leq zs a b) : hgt zs a ≤ hgt zs b := by
  rcases h1 with rfl | h1
  · exact Int.le_refl _
  · have := hgt_up h h1; omega
section
variable {zs ys : List Int} {n m : Nat}
theorem tm_lt (hn : zs.length = n) (hm : ys.length = m) {i k : Nat} : lt (tmL zs ys) i k ↔ i < n * m ∧ k < n * m ∧ i ≠ k ∧ leq zs (i / m) (k / m) ∧ leq ys (i % m) (k % m) := by
  unfold lt
  rw [tmL_len, hn, hm]
  constructor
  · rintro ⟨hi, hb⟩
    rw [tmL_get zs ys hn hm hi, tmTo_bit] at hb
    have hm0 : 0 < m := by
      rcases Nat.eq_zero_or_pos m with e | e
      · rw [e, Nat.mul_zero] at hi; omega
      · exact e
    unfold tmA at hb
    simp only [Bool.and_eq_true, decide_eq_true_eq, bne_iff_ne] at hb
    obtain ⟨hk, hne, h1, h2⟩ := hb
    exact ⟨hi, hk, hne, (leq_bit (by rw [hn]; exact (Nat.div_lt_iff_lt_mul hm0).2 hi)).1 h1, (leq_bit (by rw [hm]; exact Nat.mod_lt _ hm0)).1 h2⟩
  · rintro ⟨hi, hk, hne, h1, h2⟩
    have hm0 : 0 < m := by
      rcases Nat.eq_zero_or_pos m with e | e
      · rw [e, Nat.mul_zero] at hi; omega
      · exact e
    refine ⟨hi, ?_⟩
    rw [tmL_get zs ys hn hm hi, tmTo_bit]
    unfold tmA
    simp only [Bool.and_eq_true, decide_eq_true_eq, bne_iff_ne]
    exact ⟨hk, hne, (leq_bit (by rw [hn]; exact (Nat.div_lt_iff_lt_mul hm0).2 hi)).2 h1, (leq_bit (by rw [hm]; exact Nat.mod_lt _ hm0)).2 h2⟩
theorem pair_eq {m i k : Nat} (h1 : i / m = k / m) (h2 : i % m = k % m) : i = k := by
  have e1 := Nat.div_add_mod i m
  have e2 := Nat.div_add_mod k m
  rw [h1, h2] at e1
  omega
theorem tm_bits (hn : zs.length = n) (hm : ys.length = m) {i k : Nat} (hi : i < n * m) : bitB ((tmL zs ys)[i]?.getD 0) (k : Int) = true ↔ lt (tmL zs ys) i k := by
  unfold lt
  rw [tmL_len, hn, hm]
  exact ⟨fun h => ⟨hi, h⟩, fun h => h.2⟩
theorem tm_vo (hn : zs.length = n) (hm : ys.length = m) (hv : VoP zs) (hv' : VoP ys) (h6 : n * m ≤ 6) : VoP (tmL zs ys) := by
  have hl : (tmL zs ys).length = n * m := by rw [tmL_len, hn, hm]
  refine ⟨by rw [hl]; exact h6, fun a ha => ?_, fun a ha b hb => ?_⟩
  · rw [hl] at ha
    have hb := tmTo_bd zs ys m a (n * m)
    have e : bitB ((tmL zs ys)[a]?.getD 0) (a : Int) = false := by
      cases e : bitB ((tmL zs ys)[a]?.getD 0) (a : Int)
      · rfl
      · exact absurd rfl ((tm_lt hn hm).1 ((tm_bits hn hm ha).1 e)).2.2.1
    unfold okA inB
    rw [e, tmL_get zs ys hn hm ha, hl]
    simp only [Bool.not_false, Bool.and_true, decide_eq_true_eq]
    omega
  · rw [hl] at ha hb
    unfold okP
    cases e : bitB ((tmL zs ys)[a]?.getD 0) (b : Int)
    · rfl
    · obtain ⟨_, _, hne, h1, h2⟩ := (tm_lt hn hm).1 ((tm_bits hn hm ha).1 e)
      have hl1 : lessI ((tmL zs ys)[b]?.getD 0) ((tmL zs ys)[a]?.getD 0) = 0 := by
        refine bitB_ext (lessI_bd _ _).1 (Int.le_refl _) fun j => ?_
        rw [bitB_less, bitB_zero]
        cases e1 : bitB ((tmL zs ys)[b]?.getD 0) (j : Int)
        · rfl
        · obtain ⟨_, hj, hne2, h3, h4⟩ := (tm_lt hn hm).1 ((tm_bits hn hm hb).1 e1)
          have : lt (tmL zs ys) a j := (tm_lt hn hm).2 ⟨ha, hj, fun ej => by
            subst ej
            exact hne (pair_eq (leq_asym hv h1 h3) (leq_asym hv' h2 h4)), leq_trans hv h1 h3, leq_trans hv' h2 h4⟩
          rw [(tm_bits hn hm ha).2 this]; rfl
      have h2' : bitB ((tmL zs ys)[b]?.getD 0) (a : Int) = false := by
        cases e2 : bitB ((tmL zs ys)[b]?.getD 0) (a : Int)
        · rfl
        · obtain ⟨_, _, _, h3, h4⟩ := (tm_lt hn hm).1 ((tm_bits hn hm hb).1 e2)
          exact absurd (pair_eq (leq_asym hv h1 h3) (leq_asym hv' h2 h4)) hne
      rw [hl1, h2']; rfl
theorem mk_div {m a b : Nat} (hb : b < m) : (a * m + b) / m = a := by rw [Nat.mul_comm, Nat.mul_add_div (by omega), Nat.div_eq_of_lt hb, Nat.add_zero]
theorem mk_mod {m a b : Nat} (hb : b < m) : (a * m + b) % m = b := by rw [Nat.mul_comm, Nat.mul_add_mod, Nat.mod_eq_of_lt hb]
theorem mk_lt {n m a b : Nat} (ha : a < n) (hb : b < m) : a * m + b < n * m := by
  have h1 : (a + 1) * m ≤ n * m := Nat.mul_le_mul_right m ha
  rw [Nat.add_mul, Nat.one_mul] at h1
  omega
theorem lt_len {zs : List Int} (h : VoP zs) {a b : Nat} (hl : lt zs a b) : a < zs.length ∧ b < zs.length := ⟨hl.1, h.lt_n hl⟩
theorem tm_hgt_ge (hn : zs.length = n) (hm : ys.length = m) (hv : VoP zs) (hv' : VoP ys) (h6 : n * m ≤ 6) : ∀ (d a b : Nat), a < n → b < m → hgt zs a + hgt ys b = (d : Int) → hgt zs a + hgt ys b ≤ hgt (tmL zs ys) (a * m + b)
  | 0, a, b, ha, hb, hd => by have := hgt_nn (tmL zs ys) (a * m + b); omega
  | d + 1, a, b, ha, hb, hd => by
    have hV := tm_vo hn hm hv hv' h6
    rcases hgt_eq hv (b := a) (by rw [hn]; exact ha) with e | ⟨a', h1, h2⟩
    · rcases hgt_eq hv' (b := b) (by rw [hm]; exact hb) with e' | ⟨b', h1, h2⟩
      · omega
      · have hb' := (lt_len hv' h1).1
        rw [hm] at hb'
        have ih := tm_hgt_ge hn hm hv hv' h6 d a b' ha hb' (by omega)
        have hl : lt (tmL zs ys) (a * m + b') (a * m + b) := (tm_lt hn hm).2 ⟨mk_lt ha hb', mk_lt ha hb, fun e => by
          have : b' = b := by omega
          subst this; exact absurd h1 hv'.irr, .inl (by rw [mk_div hb', mk_div hb]), .inr (by rw [mk_mod hb', mk_mod hb]; exact h1)⟩
        have := hgt_up hV hl
        omega
    · have ha' := (lt_len hv h1).1
      rw [hn] at ha'
      have ih := tm_hgt_ge hn hm hv hv' h6 d a' b ha' hb (by omega)
      have hl : lt (tmL zs ys) (a' * m + b) (a * m + b) := (tm_lt hn hm).2 ⟨mk_lt ha' hb, mk_lt ha hb, fun e => by
        have e1 := mk_div (a := a') hb
        rw [e, mk_div hb] at e1
        subst e1; exact absurd h1 hv.irr, .inr (by rw [mk_div hb, mk_div hb]; exact h1), .inl (by rw [mk_mod hb, mk_mod hb])⟩
      have := hgt_up hV hl
      omega
theorem tm_hgt_le (hn : zs.length = n) (hm : ys.length = m) (hv : VoP zs) (hv' : VoP ys) (h6 : n * m ≤ 6) : ∀ (d i : Nat), i < n * m → hgt (tmL zs ys) i = (d : Int) → hgt (tmL zs ys) i ≤ hgt zs (i / m) + hgt ys (i % m)
  | 0, i, hi, hd => by have h1 := hgt_nn zs (i / m); have h2 := hgt_nn ys (i % m); omega
  | d + 1, i, hi, hd => by
    have hV := tm_vo hn hm hv hv' h6
    rcases hgt_eq hV (b := i) (by rw [tmL_len, hn, hm]; exact hi) with e | ⟨j, h1, h2⟩
    · have h1 := hgt_nn zs (i / m); have h2 := hgt_nn ys (i % m); omega
    · obtain ⟨hj, _, hne, h3, h4⟩ := (tm_lt hn hm).1 h1
      have ih := tm_hgt_le hn hm hv hv' h6 d j hj (by omega)
      rcases h3 with e3 | h3
      · rcases h4 with e4 | h4
        · exact absurd (pair_eq e3 e4) hne
        · have := hgt_up hv' h4
          rw [e3] at ih
          omega
      · have := hgt_up hv h3
        have := leq_hgt hv' h4
        omega
theorem tm_hgt (hn : zs.length = n) (hm : ys.length = m) (hv : VoP zs) (hv' : VoP ys) (h6 : n * m ≤ 6) {i : Nat} (hi : i < n * m) : hgt (tmL zs ys) i = hgt zs (i / m) + hgt ys (i % m) := by
  have hm0 : 0 < m := by
    rcases Nat.eq_zero_or_pos m with e | e
    · rw [e, Nat.mul_zero] at hi; omega
    · exact e
  have ha : i / m < n := (Nat.div_lt_iff_lt_mul hm0).2 hi
  have hb : i % m < m := Nat.mod_lt _ hm0
  obtain ⟨d, hd⟩ := Int.eq_ofNat_of_zero_le (hgt_nn (tmL zs ys) i)
  obtain ⟨d', hd'⟩ := Int.eq_ofNat_of_zero_le (show 0 ≤ hgt zs (i / m) + hgt ys (i % m) by have h1 := hgt_nn zs (i / m); have h2 := hgt_nn ys (i % m); omega)
  have h1 := tm_hgt_le hn hm hv hv' h6 d i hi hd
  have h2 := tm_hgt_ge hn hm hv hv' h6 d' (i / m) (i % m) ha hb hd'
  have e : i / m * m + i % m = i := by rw [Nat.mul_comm]; exact Nat.div_add_mod i m
  rw [e] at h2
  omega
theorem tm_long (hn : zs.length = n) (hm : ys.length = m) (hv : VoP zs) (hv' : VoP ys) (h6 : n * m ≤ 6) (h0 : 0 < n * m) : longI (tmL zs ys) = longI zs + longI ys - 1 := by
  have hl : (tmL zs ys).length = n * m := by rw [tmL_len, hn, hm]
  have hm0 : 0 < m := by
    rcases Nat.eq_zero_or_pos m with e | e
    · rw [e, Nat.mul_zero] at h0; omega
    · exact e
  have hn0 : 0 < n := by
    rcases Nat.eq_zero_or_pos n with e | e
    · rw [e, Nat.zero_mul] at h0; omega
    · exact e
  unfold longI
  rw [hl, hn, hm]
  have g1 := maxL_ge (hgt (tmL zs ys)) (List.range (n * m))
  have g2 := maxL_ge (hgt zs) (List.range n)
  have g3 := maxL_ge (hgt ys) (List.range m)
  refine Int.le_antisymm ?_ ?_
  · rcases maxL_eq (hgt (tmL zs ys)) (List.range (n * m)) with e | ⟨i, hi, e⟩
    · have := g1.2 0 (by simpa using h0)
      have := hgt_nn (tmL zs ys) 0
      omega
    · have hi := List.mem_range.1 hi
      rw [e, tm_hgt hn hm hv hv' h6 hi]
      have h1 := g2.2 (i / m) (List.mem_range.2 ((Nat.div_lt_iff_lt_mul hm0).2 hi))
      have h2 := g3.2 (i % m) (List.mem_range.2 (Nat.mod_lt _ hm0))
      omega
  · rcases maxL_eq (hgt zs) (List.range n) with e | ⟨a, ha, e⟩
    · have := g2.2 0 (by simpa using hn0)
      have := hgt_nn zs 0
      omega
    · rcases maxL_eq (hgt ys) (List.range m) with e' | ⟨b, hb, e'⟩
      · have := g3.2 0 (by simpa using hm0)
        have := hgt_nn ys 0
        omega
      · have ha := List.mem_range.1 ha
        have hb := List.mem_range.1 hb
        have h1 := g1.2 (a * m + b) (List.mem_range.2 (mk_lt ha hb))
        rw [tm_hgt hn hm hv hv' h6 (mk_lt ha hb), mk_div hb, mk_mod hb] at h1
        omega
theorem du_leq (h : VoP zs) {a b : Nat} : leq (du zs) a b ↔ leq zs b a := by
  unfold leq
  rw [du_lt h]
  exact ⟨fun e => e.imp Eq.symm id, fun e => e.imp Eq.symm id⟩
theorem tm_du (hn : zs.length = n) (hm : ys.length = m) (hv : VoP zs) (hv' : VoP ys) (h6 : n * m ≤ 6) : du (tmL zs ys) = tmL (du zs) (du ys) := by
  have hV := tm_vo hn hm hv hv' h6
  have hn' : (du zs).length = n := by rw [du_len, hn]
  have hm' : (du ys).length = m := by rw [du_len, hm]
  have hV' := tm_vo hn' hm' (du_vo hv) (du_vo hv') h6
  have hl : (du (tmL zs ys)).length = n * m := by rw [du_len, tmL_len, hn, hm]
  have hl' : (tmL (du zs) (du ys)).length = n * m := by rw [tmL_len, hn', hm']
  refine List.ext_getElem (by rw [hl, hl']) fun i h1 h2 => ?_
  have hi : i < n * m := by rw [← hl]; exact h1
  have e1 := (du_vo hV).bd i h1
  have e2 := hV'.bd i h2
  have hb : ∀ k : Nat, bitB ((du (tmL zs ys))[i]?.getD 0) (k : Int) = bitB ((tmL (du zs) (du ys))[i]?.getD 0) (k : Int) := fun k => by
    have key : lt (du (tmL zs ys)) i k ↔ lt (tmL (du zs) (du ys)) i k := by
      rw [du_lt hV, tm_lt hn hm, tm_lt hn' hm', du_leq hv, du_leq hv']
      constructor
      · rintro ⟨a1, a2, a3, a4, a5⟩; exact ⟨a2, a1, fun e => a3 e.symm, a4, a5⟩
      · rintro ⟨a1, a2, a3, a4, a5⟩; exact ⟨a2, a1, fun e => a3 e.symm, a4, a5⟩
    unfold lt at key
    rw [hl, hl'] at key
    rw [Bool.eq_iff_iff]
    exact ⟨fun e => (key.1 ⟨hi, e⟩).2, fun e => (key.2 ⟨hi, e⟩).2⟩
  have := bitB_ext e1.1 e2.1 hb
  rwa [List.getElem?_eq_getElem h1, List.getElem?_eq_getElem h2, Option.getD_some, Option.getD_some] at this
end
end Go.Proofs.YtghogabmkbadjaaDoor

/- Orders beside each other, and one above the other: orders, their longest chains and widest sets apart (mathematics). No program. -/
namespace Go.Proofs.YtghogabmkbadjaaDoor
open Go.RowKit

theorem onesB_fin : ∀ m : Fin 7, ∀ j : Fin 7, bitB (powI (m.val : Int) - 1) (j.val : Int) = decide (j.val < m.val) := by decide +kernel
theorem onesB_bit {m : Nat} (hm : m ≤ 6) (j : Nat) : bitB (powI (m : Int) - 1) (j : Int) = decide (j < m) := by
  rcases Nat.lt_or_ge j 7 with h | h
  · exact onesB_fin ⟨m, by omega⟩ ⟨j, h⟩
  · have hp := powI_pos (m : Int)
    cases e : bitB (powI (m : Int) - 1) (j : Int)
    · rw [decide_eq_false (by omega)]
    · have := bitB_lt (n := m) (by omega : powI (m : Int) - 1 < powI (m : Int)) e
      omega
section
variable {zs ys : List Int} {n m : Nat} {over : Bool}
theorem both_get1 (hn : zs.length = n) (hm : ys.length = m) {a : Nat} (ha : a < n) : (bothL zs ys over)[a]?.getD 0 = uqS n m over (zs[a]?.getD 0) := by
  unfold bothL
  rw [List.getElem?_append_left (by rw [uqL_len, hn]; exact ha), hn, hm]
  exact uqL_get n m over zs (by rw [hn]; exact ha)
theorem both_get2 (hn : zs.length = n) (hm : ys.length = m) {b : Nat} (hb : b < m) : (bothL zs ys over)[n + b]?.getD 0 = (ys[b]?.getD 0) * powI n := by
  unfold bothL
  rw [List.getElem?_append_right (by rw [uqL_len, hn]; omega), uqL_len, hn, Nat.add_sub_cancel_left]
  exact shl_get n ys (by rw [hm]; exact hb)
theorem beh_bit (h6 : n + m ≤ 6) (j : Nat) : bitB (behI n m) (j : Int) = (decide (n ≤ j) && decide (j - n < m)) := by
  unfold behI
  have hp := powI_pos (m : Int)
  rw [mulpow_bit (by omega), onesB_bit (by omega)]
theorem both_lt (hn : zs.length = n) (hm : ys.length = m) (hv : VoP zs) (hv' : VoP ys) (h6 : n + m ≤ 6) {a b : Nat} :
    lt (bothL zs ys over) a b ↔ (a < n ∧ b < n ∧ lt zs a b) ∨ (n ≤ a ∧ n ≤ b ∧ lt ys (a - n) (b - n)) ∨ (over = true ∧ a < n ∧ n ≤ b ∧ b < n + m) := by
  have hl : (bothL zs ys over).length = n + m := by rw [bothL_len, hn, hm]
  unfold lt
  rw [hl]
  rcases Nat.lt_or_ge a n with ha | ha
  · rw [both_get1 hn hm ha]
    have hz := hv.bd a (by rw [hn]; exact ha)
    have hlt : bitB (zs[a]?.getD 0) (b : Int) = true → b < n := fun e => by
      have := bitB_lt (hv.sets.2 a (by rw [hn]; exact ha)).2 e
      rw [hn] at this; exact this
    cases over
    · unfold uqS
      simp only [Bool.false_eq_true, if_false, false_and, or_false]
      constructor
      · rintro ⟨_, e⟩; exact .inl ⟨ha, hlt e, by rw [hn]; exact ha, e⟩
      · rintro (⟨_, _, _, e⟩ | ⟨h1, _⟩)
        · exact ⟨by omega, e⟩
        · omega
    · unfold uqS
      simp only [if_true, true_and]
      rw [bitB_or, beh_bit h6, Bool.or_eq_true, Bool.and_eq_true, decide_eq_true_eq, decide_eq_true_eq]
      constructor
      · rintro ⟨_, e | ⟨h1, h2⟩⟩
        · exact .inl ⟨ha, hlt e, by rw [hn]; exact ha, e⟩
        · exact .inr (.inr ⟨ha, h1, by omega⟩)
      · rintro (⟨_, _, _, e⟩ | ⟨h1, _⟩ | ⟨_, h1, h2⟩)
        · exact ⟨by omega, .inl e⟩
        · omega
        · exact ⟨by omega, .inr ⟨h1, by omega⟩⟩
  · constructor
    · rintro ⟨h1, e⟩
      obtain ⟨c, rfl⟩ : ∃ c, a = n + c := ⟨a - n, by omega⟩
      have hc : c < m := by omega
      have hy := hv'.bd c (by rw [hm]; exact hc)
      rw [both_get2 hn hm hc, mulpow_bit hy.1, Bool.and_eq_true, decide_eq_true_eq] at e
      exact .inr (.inl ⟨ha, e.1, by rw [Nat.add_sub_cancel_left, hm]; exact hc, by rw [Nat.add_sub_cancel_left]; exact e.2⟩)
    · rintro (⟨h1, _⟩ | ⟨_, h1, h2, e⟩ | ⟨_, h1, _⟩)
      · omega
      · obtain ⟨c, rfl⟩ : ∃ c, a = n + c := ⟨a - n, by omega⟩
        rw [Nat.add_sub_cancel_left] at h2 e
        rw [hm] at h2
        have hy := hv'.bd c (by rw [hm]; exact h2)
        refine ⟨by omega, ?_⟩
        rw [both_get2 hn hm h2, mulpow_bit hy.1, decide_eq_true h1]
        exact e
      · omega
theorem both_bd (hn : zs.length = n) (hm : ys.length = m) (hv : VoP zs) (hv' : VoP ys) (h6 : n + m ≤ 6) {a : Nat} (ha : a < n + m) : 0 ≤ (bothL zs ys over)[a]?.getD 0 ∧ (bothL zs ys over)[a]?.getD 0 < powI ((n + m : Nat) : Int) := by
  have e6 := powI_add6 ⟨n, by omega⟩ ⟨m, by omega⟩
  simp only at e6
  have hle : powI (n : Int) ≤ powI ((n + m : Nat) : Int) := powI_le (by omega)
  have hpn := powI_pos (n : Int)
  rcases Nat.lt_or_ge a n with h | h
  · rw [both_get1 hn hm h]
    have hz := hv.sets.2 a (by rw [hn]; exact h)
    rw [hn] at hz
    unfold uqS
    split
    · have hb := beh_bd h6
      have hb2 : behI n m < powI ((n + m : Nat) : Int) := by
        unfold behI
        rw [Int.sub_mul, Int.one_mul, Int.mul_comm (powI (m : Int)), e6]
        omega
      exact orI_bd hz.1 (by omega) hb.1 hb2
    · omega
  · obtain ⟨c, rfl⟩ : ∃ c, a = n + c := ⟨a - n, by omega⟩
    have hc : c < m := by omega
    have hy := hv'.sets.2 c (by rw [hm]; exact hc)
    rw [hm] at hy
    rw [both_get2 hn hm hc]
    have h2 : (ys[c]?.getD 0 + 1) * powI (n : Int) ≤ powI (m : Int) * powI (n : Int) := Int.mul_le_mul_of_nonneg_right (by omega) (by omega)
    rw [Int.add_mul, Int.one_mul, Int.mul_comm (powI (m : Int)), e6] at h2
    exact ⟨Int.mul_nonneg hy.1 (by omega), by omega⟩
/-- A list of sets whose relation is one of orders is an order. -/
theorem vo_of_lt {B : List Int} (h6 : B.length ≤ 6) (hb : ∀ a, a < B.length → 0 ≤ B[a]?.getD 0 ∧ B[a]?.getD 0 < powI B.length) (hi : ∀ a, ¬ lt B a a) (ht : ∀ a b c, lt B a b → lt B b c → lt B a c) : VoP B := by
  have has : ∀ a b, lt B a b → ¬ lt B b a := fun a b h1 h2 => hi a (ht a b a h1 h2)
  refine ⟨h6, fun a ha => ?_, fun a ha b hb' => ?_⟩
  · have h1 := hb a ha
    have e : bitB (B[a]?.getD 0) (a : Int) = false := by
      cases e : bitB (B[a]?.getD 0) (a : Int)
      · rfl
      · exact absurd ⟨ha, e⟩ (hi a)
    unfold okA inB
    rw [e]
    simp only [Bool.not_false, Bool.and_true, decide_eq_true_eq]
    omega
  · unfold okP
    cases e : bitB (B[a]?.getD 0) (b : Int)
    · rfl
    · have hl1 : lessI (B[b]?.getD 0) (B[a]?.getD 0) = 0 := by
        refine bitB_ext (lessI_bd _ _).1 (Int.le_refl _) fun j => ?_
        rw [bitB_less, bitB_zero]
        cases e1 : bitB (B[b]?.getD 0) (j : Int)
        · rfl
        · rw [(ht a b j ⟨ha, e⟩ ⟨hb', e1⟩).2]; rfl
      have h2' : bitB (B[b]?.getD 0) (a : Int) = false := by
        cases e2 : bitB (B[b]?.getD 0) (a : Int)
        · rfl
        · exact absurd ⟨hb', e2⟩ (has a b ⟨ha, e⟩)
      rw [hl1, h2']; rfl
theorem both_vo (hn : zs.length = n) (hm : ys.length = m) (hv : VoP zs) (hv' : VoP ys) (h6 : n + m ≤ 6) : VoP (bothL zs ys over) := by
  have hl : (bothL zs ys over).length = n + m := by rw [bothL_len, hn, hm]
  refine vo_of_lt (by rw [hl]; exact h6) (fun a ha => by rw [hl] at ha ⊢; exact both_bd hn hm hv hv' h6 ha) (fun a h => ?_) (fun a b c h1 h2 => ?_)
  · rcases (both_lt hn hm hv hv' h6).1 h with ⟨_, _, h⟩ | ⟨_, _, h⟩ | ⟨_, h1, h2, _⟩
    · exact hv.irr h
    · exact hv'.irr h
    · omega
  · rcases (both_lt hn hm hv hv' h6).1 h1 with ⟨a1, a2, a3⟩ | ⟨a1, a2, a3⟩ | ⟨a1, a2, a3, a4⟩
    · rcases (both_lt hn hm hv hv' h6).1 h2 with ⟨b1, b2, b3⟩ | ⟨b1, b2, b3⟩ | ⟨b1, b2, b3, b4⟩
      · exact (both_lt hn hm hv hv' h6).2 (.inl ⟨a1, b2, hv.trans a3 b3⟩)
      · omega
      · exact (both_lt hn hm hv hv' h6).2 (.inr (.inr ⟨b1, a1, b3, b4⟩))
    · rcases (both_lt hn hm hv hv' h6).1 h2 with ⟨b1, b2, b3⟩ | ⟨b1, b2, b3⟩ | ⟨b1, b2, b3, b4⟩
      · omega
      · exact (both_lt hn hm hv hv' h6).2 (.inr (.inl ⟨a1, b2, hv'.trans a3 b3⟩))
      · omega
    · rcases (both_lt hn hm hv hv' h6).1 h2 with ⟨b1, b2, b3⟩ | ⟨b1, b2, b3⟩ | ⟨b1, b2, b3, b4⟩
      · omega
      · have := (lt_len hv' b3).2
        rw [hm] at this
        exact (both_lt hn hm hv hv' h6).2 (.inr (.inr ⟨a1, a2, b2, by omega⟩))
      · omega
end
/-- Heights are told by what they do. -/
theorem hgt_unique {B : List Int} (h : VoP B) (f : Nat → Int) (h0 : ∀ b, 0 ≤ f b) (hu : ∀ a b, lt B a b → f a + 1 ≤ f b) (he : ∀ b, b < B.length → f b = 0 ∨ ∃ a, lt B a b ∧ f b = f a + 1) {b : Nat} (hb : b < B.length) : hgt B b = f b := by
  have k1 : ∀ (d b : Nat), b < B.length → hgt B b = (d : Int) → hgt B b ≤ f b := fun d => by
    induction d with
    | zero => intro b _ hd; have := h0 b; omega
    | succ d ih =>
      intro b hb hd
      rcases hgt_eq h hb with e | ⟨a, h1, h2⟩
      · have := h0 b; omega
      · have := ih a h1.1 (by omega)
        have := hu a b h1
        omega
  have k2 : ∀ (d b : Nat), b < B.length → f b = (d : Int) → f b ≤ hgt B b := fun d => by
    induction d with
    | zero => intro b _ hd; have := hgt_nn B b; omega
    | succ d ih =>
      intro b hb hd
      rcases he b hb with e | ⟨a, h1, h2⟩
      · have := hgt_nn B b; omega
      · have := ih a h1.1 (by omega)
        have := hgt_up h h1
        omega
  obtain ⟨d, hd⟩ := Int.eq_ofNat_of_zero_le (hgt_nn B b)
  obtain ⟨d', hd'⟩ := Int.eq_ofNat_of_zero_le (h0 b)
  have := k1 d b hb hd
  have := k2 d' b hb hd'
  omega
end Go.Proofs.YtghogabmkbadjaaDoor

/- Orders beside each other, and one above the other: longest chains, widest sets apart (mathematics). No program. -/
namespace Go.Proofs.YtghogabmkbadjaaDoor
open Go.RowKit

section
variable {zs ys : List Int} {n m : Nat} {over : Bool}
theorem long_top {zs : List Int} (_h : VoP zs) (h0 : 0 < zs.length) : ∃ a, a < zs.length ∧ longI zs = hgt zs a + 1 := by
  unfold longI
  rcases maxL_eq (hgt zs) (List.range zs.length) with e | ⟨a, ha, e⟩
  · have := (maxL_ge (hgt zs) (List.range zs.length)).2 0 (List.mem_range.2 h0)
    have := hgt_nn zs 0
    omega
  · exact ⟨a, List.mem_range.1 ha, e⟩
theorem long_le {zs : List Int} {a : Nat} (ha : a < zs.length) : hgt zs a + 1 ≤ longI zs := (maxL_ge (hgt zs) (List.range zs.length)).2 a (List.mem_range.2 ha)
theorem long_none {zs : List Int} (h : zs.length = 0) : longI zs = 0 := by unfold longI; rw [h]; rfl
theorem long_is {B : List Int} {k : Int} (h0 : 0 ≤ k) (hle : ∀ a, a < B.length → hgt B a + 1 ≤ k) (hex : 0 < k → ∃ a, a < B.length ∧ hgt B a + 1 = k) : longI B = k := by
  refine Int.le_antisymm ?_ ?_
  · unfold longI
    rcases maxL_eq (hgt B) (List.range B.length) with e | ⟨a, ha, e⟩
    · omega
    · have := hle a (List.mem_range.1 ha); omega
  · rcases Int.lt_or_le 0 k with h | h
    · obtain ⟨a, ha, e⟩ := hex h
      have := long_le ha
      omega
    · have := longI_nn B; omega
theorem both_hgt (hn : zs.length = n) (hm : ys.length = m) (hv : VoP zs) (hv' : VoP ys) (h6 : n + m ≤ 6) {a : Nat} (ha : a < n + m) :
    hgt (bothL zs ys over) a = if a < n then hgt zs a else (if over then longI zs else 0) + hgt ys (a - n) := by
  have hl : (bothL zs ys over).length = n + m := by rw [bothL_len, hn, hm]
  refine hgt_unique (both_vo hn hm hv hv' h6) (fun a => if a < n then hgt zs a else (if over then longI zs else 0) + hgt ys (a - n)) (fun b => ?_) (fun a b h => ?_) (fun b hb => ?_) (by rw [hl]; exact ha)
  · have h1 := hgt_nn zs b
    have h2 := hgt_nn ys (b - n)
    have h3 := longI_nn zs
    try simp only
    split
    · omega
    · split <;> omega
  · rcases (both_lt hn hm hv hv' h6).1 h with ⟨h1, h2, h3⟩ | ⟨h1, h2, h3⟩ | ⟨h1, h2, h3, h4⟩
    · have := hgt_up hv h3
      simp only [if_pos h1, if_pos h2]; omega
    · have := hgt_up hv' h3
      simp only [if_neg (show ¬ a < n by omega), if_neg (show ¬ b < n by omega)]; omega
    · have e1 := long_le (zs := zs) (a := a) (by rw [hn]; exact h2)
      have e2 := hgt_nn ys (b - n)
      simp only [if_pos h2, if_neg (show ¬ b < n by omega), h1, if_true]; omega
  · rw [hl] at hb
    try simp only
    by_cases h1 : b < n
    · rw [if_pos h1]
      rcases hgt_eq hv (b := b) (by rw [hn]; exact h1) with e | ⟨a, h2, h3⟩
      · exact .inl e
      · have ha := h2.1
        rw [hn] at ha
        exact .inr ⟨a, (both_lt hn hm hv hv' h6).2 (.inl ⟨ha, h1, h2⟩), by rw [if_pos ha]; exact h3⟩
    · rw [if_neg h1]
      rcases hgt_eq hv' (b := b - n) (by rw [hm]; omega) with e | ⟨a, h2, h3⟩
      · cases over
        · left; simp only [Bool.false_eq_true, if_false]; omega
        · simp only [if_true]
          rcases Nat.eq_zero_or_pos n with h0 | h0
          · left; rw [long_none (by rw [hn]; exact h0), e]; rfl
          · obtain ⟨a, ha, ea⟩ := long_top hv (by rw [hn]; exact h0)
            rw [hn] at ha
            exact .inr ⟨a, (both_lt hn hm hv hv' h6).2 (.inr (.inr ⟨rfl, ha, by omega, hb⟩)), by rw [if_pos ha, ea, e]; omega⟩
      · have ha := h2.1
        rw [hm] at ha
        refine .inr ⟨n + a, (both_lt hn hm hv hv' h6).2 (.inr (.inl ⟨by omega, by omega, by rw [Nat.add_sub_cancel_left]; exact h2⟩)), ?_⟩
        rw [if_neg (show ¬ n + a < n by omega), Nat.add_sub_cancel_left, h3]
        omega
theorem bes_long (hn : zs.length = n) (hm : ys.length = m) (hv : VoP zs) (hv' : VoP ys) (h6 : n + m ≤ 6) : longI (bothL zs ys false) = max (longI zs) (longI ys) := by
  have hl : (bothL zs ys false).length = n + m := by rw [bothL_len, hn, hm]
  have g1 := longI_nn zs
  have g2 := longI_nn ys
  refine long_is (by omega) (fun a ha => ?_) (fun hk => ?_)
  · rw [hl] at ha
    rw [both_hgt hn hm hv hv' h6 ha]
    split
    · rename_i h; have := long_le (zs := zs) (a := a) (by rw [hn]; exact h); omega
    · rename_i h; have := long_le (zs := ys) (a := a - n) (by rw [hm]; omega)
      simp only [Bool.false_eq_true, if_false]; omega
  · rcases Int.le_total (longI ys) (longI zs) with h | h
    · have h0 : 0 < zs.length := by
        rcases Nat.eq_zero_or_pos zs.length with e | e
        · have := long_none e; omega
        · exact e
      obtain ⟨a, ha, ea⟩ := long_top hv h0
      rw [hn] at ha
      refine ⟨a, by rw [hl]; omega, ?_⟩
      rw [both_hgt hn hm hv hv' h6 (by omega), if_pos ha]; omega
    · have h0 : 0 < ys.length := by
        rcases Nat.eq_zero_or_pos ys.length with e | e
        · have := long_none e; omega
        · exact e
      obtain ⟨a, ha, ea⟩ := long_top hv' h0
      rw [hm] at ha
      refine ⟨n + a, by rw [hl]; omega, ?_⟩
      rw [both_hgt hn hm hv hv' h6 (by omega), if_neg (show ¬ n + a < n by omega), Nat.add_sub_cancel_left]
      simp only [Bool.false_eq_true, if_false]; omega
theorem stk_long (hn : zs.length = n) (hm : ys.length = m) (hv : VoP zs) (hv' : VoP ys) (h6 : n + m ≤ 6) : longI (bothL zs ys true) = longI zs + longI ys := by
  have hl : (bothL zs ys true).length = n + m := by rw [bothL_len, hn, hm]
  have g1 := longI_nn zs
  have g2 := longI_nn ys
  refine long_is (by omega) (fun a ha => ?_) (fun hk => ?_)
  · rw [hl] at ha
    rw [both_hgt hn hm hv hv' h6 ha]
    split
    · rename_i h; have := long_le (zs := zs) (a := a) (by rw [hn]; exact h); omega
    · rename_i h; have := long_le (zs := ys) (a := a - n) (by rw [hm]; omega)
      simp only [if_true]; omega
  · rcases Nat.eq_zero_or_pos ys.length with e | e
    · have hy := long_none e
      have h0 : 0 < zs.length := by
        rcases Nat.eq_zero_or_pos zs.length with e | e
        · have := long_none e; omega
        · exact e
      obtain ⟨a, ha, ea⟩ := long_top hv h0
      rw [hn] at ha
      refine ⟨a, by rw [hl]; omega, ?_⟩
      rw [both_hgt hn hm hv hv' h6 (by omega), if_pos ha]; omega
    · obtain ⟨a, ha, ea⟩ := long_top hv' e
      rw [hm] at ha
      refine ⟨n + a, by rw [hl]; omega, ?_⟩
      rw [both_hgt hn hm hv hv' h6 (by omega), if_neg (show ¬ n + a < n by omega), Nat.add_sub_cancel_left]
      simp only [if_true]; omega

/-! Widest sets apart: a set of both is a set of each. -/
theorem pop_split_fin : ∀ n : Fin 7, ∀ s : Fin 64, popI ((s.val : Nat) : Int) = popI ((s.val % 2 ^ n.val : Nat) : Int) + popI ((s.val / 2 ^ n.val : Nat) : Int) := by decide +kernel
theorem pop_split {n s : Nat} (hn : n ≤ 6) (hs : s < 64) : popI (s : Int) = popI ((s % 2 ^ n : Nat) : Int) + popI ((s / 2 ^ n : Nat) : Int) := pop_split_fin ⟨n, by omega⟩ ⟨s, hs⟩
theorem lo_bit (n s j : Nat) : (s % 2 ^ n).testBit j = (decide (j < n) && s.testBit j) := by rw [Nat.testBit_mod_two_pow]
theorem hi_bit (n s j : Nat) : (s / 2 ^ n).testBit j = s.testBit (n + j) := by rw [Nat.testBit_div_two_pow, Nat.add_comm]
theorem apN {B : List Int} (h6 : B.length ≤ 6) {s : Nat} (hs : s < 2 ^ B.length) : apB B (s : Int) = true ↔ ∀ a b, s.testBit a = true → s.testBit b = true → ¬ lt B a b := by
  have h64 : (2 : Nat) ^ B.length ≤ 64 := Nat.pow_le_pow_right (n := 2) (by decide) h6
  rw [apB_iff (by omega)]
  have hb : ∀ j : Nat, bitB (s : Int) (j : Int) = s.testBit j := fun j => by simp [bitB]
  have hlt : ∀ j, s.testBit j = true → j < B.length := fun j hj => by
    rcases Nat.lt_or_ge j B.length with e | e
    · exact e
    · rw [Nat.testBit_lt_two_pow (Nat.lt_of_lt_of_le hs (Nat.pow_le_pow_right (by decide) e))] at hj; cases hj
  constructor
  · intro h a b ha hb' hl
    have := h a b (by rw [hb]; exact ha) (by rw [hb]; exact hb')
    rw [hl.2] at this; cases this
  · intro h a b ha hb'
    rw [hb] at ha hb'
    cases e : bitB (B[a]?.getD 0) (b : Int)
    · rfl
    · exact absurd ⟨hlt a ha, e⟩ (h a b ha hb')
theorem both_ap (hn : zs.length = n) (hm : ys.length = m) (hv : VoP zs) (hv' : VoP ys) (h6 : n + m ≤ 6) {s : Nat} (hs : s < 2 ^ (n + m)) :
    apB (bothL zs ys over) (s : Int) = true ↔ apB zs ((s % 2 ^ n : Nat) : Int) = true ∧ apB ys ((s / 2 ^ n : Nat) : Int) = true ∧ (over = true → s % 2 ^ n = 0 ∨ s / 2 ^ n = 0) := by
  have hl : (bothL zs ys over).length = n + m := by rw [bothL_len, hn, hm]
  have hp : 0 < (2 : Nat) ^ n := Nat.pow_pos (by decide)
  have hlo : s % 2 ^ n < 2 ^ zs.length := by rw [hn]; exact Nat.mod_lt _ hp
  have hhi : s / 2 ^ n < 2 ^ ys.length := by rw [hm, Nat.div_lt_iff_lt_mul hp, ← Nat.pow_add, Nat.add_comm]; exact hs
  rw [apN (by rw [hl]; exact h6) (by rw [hl]; exact hs), apN (by omega) hlo, apN (by omega) hhi]
  constructor
  · intro h
    refine ⟨fun a b ha hb hab => ?_, fun a b ha hb hab => ?_, fun ho => ?_⟩
    · rw [lo_bit, Bool.and_eq_true, decide_eq_true_eq] at ha hb
      exact h a b ha.2 hb.2 ((both_lt hn hm hv hv' h6).2 (.inl ⟨ha.1, hb.1, hab⟩))
    · rw [hi_bit] at ha hb
      exact h (n + a) (n + b) ha hb ((both_lt hn hm hv hv' h6).2 (.inr (.inl ⟨by omega, by omega, by rw [Nat.add_sub_cancel_left, Nat.add_sub_cancel_left]; exact hab⟩)))
    · rcases Nat.eq_zero_or_pos (s % 2 ^ n) with e | e
      · exact .inl e
      · rcases Nat.eq_zero_or_pos (s / 2 ^ n) with e' | e'
        · exact .inr e'
        · exfalso
          obtain ⟨a, ha⟩ := Nat.exists_testBit_of_ne_zero (Nat.pos_iff_ne_zero.1 e)
          obtain ⟨b, hb⟩ := Nat.exists_testBit_of_ne_zero (Nat.pos_iff_ne_zero.1 e')
          have hbm : b < m := by
            rcases Nat.lt_or_ge b m with h1 | h1
            · exact h1
            · rw [Nat.testBit_lt_two_pow (Nat.lt_of_lt_of_le hhi (Nat.pow_le_pow_right (by decide) (by omega)))] at hb; cases hb
          rw [lo_bit, Bool.and_eq_true, decide_eq_true_eq] at ha
          rw [hi_bit] at hb
          exact h a (n + b) ha.2 hb ((both_lt hn hm hv hv' h6).2 (.inr (.inr ⟨ho, ha.1, by omega, by omega⟩)))
  · rintro ⟨h1, h2, h3⟩ a b ha hb hab
    rcases (both_lt hn hm hv hv' h6).1 hab with ⟨a1, a2, a3⟩ | ⟨a1, a2, a3⟩ | ⟨a1, a2, a3, a4⟩
    · exact h1 a b (by rw [lo_bit, ha, decide_eq_true a1]; rfl) (by rw [lo_bit, hb, decide_eq_true a2]; rfl) a3
    · exact h2 (a - n) (b - n) (by rw [hi_bit, show n + (a - n) = a by omega]; exact ha) (by rw [hi_bit, show n + (b - n) = b by omega]; exact hb) a3
    · rcases h3 a1 with e | e
      · have := lo_bit n s a
        rw [e, ha, decide_eq_true a2] at this; simp at this
      · have := hi_bit n s (b - n)
        rw [e, show n + (b - n) = b by omega, hb] at this; simp at this
theorem grTo_at {p : Int → Bool} (h0 : p 0 = true) : ∀ k : Nat, 0 < k → ∃ j, j < k ∧ p ((j : Nat) : Int) = true ∧ popI ((j : Nat) : Int) = grTo p k
  | 0, h => by omega
  | 1, _ => ⟨0, by omega, h0, by
      have e : p ((0 : Nat) : Int) = true := h0
      rw [grTo, if_pos e]; rfl⟩
  | k + 2, _ => by
    obtain ⟨j, hj, h1, h2⟩ := grTo_at h0 (k + 1) (by omega)
    rw [grTo]
    by_cases e : p ((k + 1 : Nat) : Int) = true
    · rw [if_pos e]
      rcases Int.le_total (grTo p (k + 1)) (popI ((k + 1 : Nat) : Int)) with h | h
      · exact ⟨k + 1, by omega, e, by omega⟩
      · exact ⟨j, by omega, h1, by omega⟩
    · rw [if_neg e]
      exact ⟨j, by omega, h1, h2⟩
theorem ap_none {B : List Int} : apB B 0 = true := by
  have := (apB_iff (zs := B) (s := 0) (by decide)).2 (fun a b ha _ => by rw [bitB_zero] at ha; cases ha)
  exact this
theorem put_lo {n s1 s2 : Nat} (h : s1 < 2 ^ n) : (s1 + 2 ^ n * s2) % 2 ^ n = s1 := by rw [Nat.add_mul_mod_self_left, Nat.mod_eq_of_lt h]
theorem put_hi {n s1 s2 : Nat} (h : s1 < 2 ^ n) : (s1 + 2 ^ n * s2) / 2 ^ n = s2 := by
  rw [Nat.add_mul_div_left _ _ (Nat.pow_pos (by decide)), Nat.div_eq_of_lt h, Nat.zero_add]
theorem put_lt {n m s1 s2 : Nat} (h1 : s1 < 2 ^ n) (h2 : s2 < 2 ^ m) : s1 + 2 ^ n * s2 < 2 ^ (n + m) := by
  have h3 : 2 ^ n * (s2 + 1) ≤ 2 ^ n * 2 ^ m := Nat.mul_le_mul_left _ h2
  rw [Nat.mul_add, Nat.mul_one, ← Nat.pow_add] at h3
  omega
theorem both_split (hn : zs.length = n) (hm : ys.length = m) (hv : VoP zs) (hv' : VoP ys) (h6 : n + m ≤ 6) {s : Nat} (hs : s < 2 ^ (n + m)) (h : apB (bothL zs ys over) (s : Int) = true) :
    popI (s : Int) = popI ((s % 2 ^ n : Nat) : Int) + popI ((s / 2 ^ n : Nat) : Int) ∧ popI ((s % 2 ^ n : Nat) : Int) ≤ grTo (apB zs) (2 ^ n) ∧ popI ((s / 2 ^ n : Nat) : Int) ≤ grTo (apB ys) (2 ^ m) ∧ (over = true → s % 2 ^ n = 0 ∨ s / 2 ^ n = 0) := by
  have h64 : (2 : Nat) ^ (n + m) ≤ 64 := Nat.pow_le_pow_right (n := 2) (by decide) h6
  have hp : 0 < (2 : Nat) ^ n := Nat.pow_pos (by decide)
  obtain ⟨h1, h2, h3⟩ := (both_ap hn hm hv hv' h6 hs).1 h
  exact ⟨pop_split (by omega) (by omega), grTo_ge h1 _ (Nat.mod_lt _ hp), grTo_ge h2 _ (by rw [Nat.div_lt_iff_lt_mul hp, ← Nat.pow_add, Nat.add_comm]; exact hs), h3⟩
theorem both_join (hn : zs.length = n) (hm : ys.length = m) (hv : VoP zs) (hv' : VoP ys) (h6 : n + m ≤ 6) {s1 s2 : Nat} (h1 : s1 < 2 ^ n) (h2 : s2 < 2 ^ m) (a1 : apB zs (s1 : Int) = true) (a2 : apB ys (s2 : Int) = true) (ho : over = true → s1 = 0 ∨ s2 = 0) :
    popI (s1 : Int) + popI (s2 : Int) ≤ grTo (apB (bothL zs ys over)) (2 ^ (n + m)) := by
  have h64 : (2 : Nat) ^ (n + m) ≤ 64 := Nat.pow_le_pow_right (n := 2) (by decide) h6
  have hlt := put_lt h1 h2
  have hap := (both_ap (over := over) hn hm hv hv' h6 hlt).2 ⟨by rw [put_lo h1]; exact a1, by rw [put_hi h1]; exact a2, fun e => by rw [put_lo h1, put_hi h1]; exact ho e⟩
  have e := pop_split (n := n) (s := s1 + 2 ^ n * s2) (by omega) (by omega)
  rw [put_lo h1, put_hi h1] at e
  rw [← e]
  exact grTo_ge hap _ hlt
theorem bes_wide (hn : zs.length = n) (hm : ys.length = m) (hv : VoP zs) (hv' : VoP ys) (h6 : n + m ≤ 6) : grTo (apB (bothL zs ys false)) (2 ^ (n + m)) = grTo (apB zs) (2 ^ n) + grTo (apB ys) (2 ^ m) := by
  have g1 := grTo_nn (apB zs) (2 ^ n)
  have g2 := grTo_nn (apB ys) (2 ^ m)
  refine Int.le_antisymm (grTo_le (by omega) _ fun j hj hp => ?_) ?_
  · obtain ⟨e, e1, e2, _⟩ := both_split hn hm hv hv' h6 hj hp
    omega
  · obtain ⟨s1, h1, a1, e1⟩ := grTo_at (ap_none (B := zs)) (2 ^ n) (Nat.pow_pos (by decide))
    obtain ⟨s2, h2, a2, e2⟩ := grTo_at (ap_none (B := ys)) (2 ^ m) (Nat.pow_pos (by decide))
    rw [← e1, ← e2]
    exact both_join hn hm hv hv' h6 h1 h2 a1 a2 (fun e => by cases e)
theorem stk_wide (hn : zs.length = n) (hm : ys.length = m) (hv : VoP zs) (hv' : VoP ys) (h6 : n + m ≤ 6) : grTo (apB (bothL zs ys true)) (2 ^ (n + m)) = max (grTo (apB zs) (2 ^ n)) (grTo (apB ys) (2 ^ m)) := by
  have g1 := grTo_nn (apB zs) (2 ^ n)
  have g2 := grTo_nn (apB ys) (2 ^ m)
  have p0 : popI ((0 : Nat) : Int) = 0 := rfl
  refine Int.le_antisymm (grTo_le (by omega) _ fun j hj hp => ?_) ?_
  · obtain ⟨e, e1, e2, e3⟩ := both_split hn hm hv hv' h6 hj hp
    rcases e3 rfl with h | h
    · rw [h, p0] at e; omega
    · rw [h, p0] at e; omega
  · obtain ⟨s1, h1, a1, e1⟩ := grTo_at (ap_none (B := zs)) (2 ^ n) (Nat.pow_pos (by decide))
    obtain ⟨s2, h2, a2, e2⟩ := grTo_at (ap_none (B := ys)) (2 ^ m) (Nat.pow_pos (by decide))
    have k1 := both_join (over := true) hn hm hv hv' h6 h1 (show 0 < 2 ^ m from Nat.pow_pos (by decide)) a1 (ap_none (B := ys)) (fun _ => .inr rfl)
    have k2 := both_join (over := true) hn hm hv hv' h6 (show 0 < 2 ^ n from Nat.pow_pos (by decide)) h2 (ap_none (B := zs)) a2 (fun _ => .inl rfl)
    rw [p0] at k1 k2
    omega
end
end Go.Proofs.YtghogabmkbadjaaDoor

/- Tops and ideals: tops stand for all below; what is below a set is an ideal; what an ideal leaves. No program. -/
namespace Go.Proofs.YtghogabmkbadjaaDoor

theorem bit_none {zs : List Int} {a b : Nat} (h : bitB (zs[a]?.getD 0) b = true) : a < zs.length := by
  rcases Nat.lt_or_ge a zs.length with h1 | h1
  · exact h1
  · rw [List.getElem?_eq_none (by omega), Option.getD_none, bitB_zero] at h; cases h
theorem top_over {zs : List Int} (h : VoP zs) {s : Int} (h1 : s < powI zs.length) : ∀ (m a : Nat), zs.length - rank zs a ≤ m → bitB s a = true → ∃ t : Nat, bitB (topsTo zs s zs.length) t = true ∧ (a = t ∨ lt zs a t)
  | 0, a, hm, ha => by have := rank_bd h (bitB_lt h1 ha); omega
  | m + 1, a, hm, ha => by
    by_cases hz : andI (zs[a]?.getD 0) s = 0
    · exact ⟨a, (topsTo_bit a _).2 ⟨bitB_lt h1 ha, ha, hz⟩, .inl rfl⟩
    · have : ∃ b : Nat, bitB s b = true ∧ bitB (zs[a]?.getD 0) b = true := by
        refine Classical.byContradiction fun hn => hz (andI_zero.2 fun b hb => ?_)
        cases e : bitB (zs[a]?.getD 0) b
        · rfl
        · exact absurd ⟨b, hb, e⟩ hn
      obtain ⟨b, hb, hab⟩ := this
      have hl : lt zs a b := ⟨bit_none hab, hab⟩
      have hr := rank_lt h hl
      obtain ⟨t, ht, e⟩ := top_over h h1 m b (by omega) hb
      refine ⟨t, ht, .inr ?_⟩
      rcases e with rfl | e
      · exact hl
      · exact h.trans hl e
section
variable {zs : List Int} {s : Int}
theorem tops_in (zs : List Int) (s : Int) : lessI (topsTo zs s zs.length) s = 0 := lessI_none.2 fun _ hj => ((topsTo_bit _ _).1 hj).2.1
theorem tops_ap (h : VoP zs) : apB zs (topsTo zs s zs.length) = true := by
  have hb := topsTo_bd zs s zs.length
  have hp := powI_le6 (n := (zs.length : Int)) (by have := h.1; omega)
  refine (apB_iff (by omega)).2 fun a b ha hb => ?_
  exact andI_zero.1 ((topsTo_bit _ _).1 ha).2.2 b ((topsTo_bit _ _).1 hb).2.1
theorem tops_none (h : VoP zs) (h0 : 0 ≤ s) (h1 : s < powI zs.length) : (topsTo zs s zs.length == 0) = (s == 0) := by
  have hb := topsTo_bd zs s zs.length
  rw [Bool.eq_iff_iff, beq_iff_eq, beq_iff_eq]
  constructor
  · intro e
    refine bitB_ext h0 (Int.le_refl _) fun j => ?_
    rw [bitB_zero]
    cases hj : bitB s j
    · rfl
    · obtain ⟨t, ht, _⟩ := top_over h h1 _ j (Nat.le_refl _) hj
      rw [e, bitB_zero] at ht; cases ht
  · intro e
    refine bitB_ext hb.1 (Int.le_refl _) fun j => ?_
    rw [bitB_zero]
    cases hj : bitB (topsTo zs s zs.length) j
    · rfl
    · have := ((topsTo_bit _ _).1 hj).2.1
      rw [e, bitB_zero] at this; cases this
theorem in_bel (h : Sets zs) (h1 : s < powI zs.length) : lessI s (belI zs s) = 0 := lessI_none.2 fun j hj => (belI_bit h h1 j).2 (.inl hj)
theorem bel_ideal (h : VoP zs) (h0 : 0 ≤ s) (h1 : s < powI zs.length) : idB zs (belI zs s) = true := by
  have hb := belI_bd h.sets h0 h1
  refine (idB_iff h.sets hb.1 hb.2).2 fun a b hb hz => ?_
  rw [belI_bit h.sets h1] at hb ⊢
  rcases hb with hb | ⟨c, hc, hbc⟩
  · exact .inr ⟨b, hb, hz⟩
  · exact .inr ⟨c, hc, (h.trans (a := a) (b := b) (c := c) ⟨bit_none hz, hz⟩ ⟨bit_none hbc, hbc⟩).2⟩
theorem tops_bel (h : VoP zs) (_h0 : 0 ≤ s) (h1 : s < powI zs.length) : topsTo zs (belI zs s) zs.length = topsTo zs s zs.length := by
  refine bitB_ext (topsTo_bd _ _ _).1 (topsTo_bd _ _ _).1 fun j => ?_
  rw [Bool.eq_iff_iff, topsTo_bit, topsTo_bit]
  constructor
  · rintro ⟨hj, hb, hz⟩
    have hz' := andI_zero.1 hz
    refine ⟨hj, ?_, andI_zero.2 fun b hb => hz' b ((belI_bit h.sets h1 b).2 (.inl hb))⟩
    rcases (belI_bit h.sets h1 j).1 hb with e | ⟨c, hc, hjc⟩
    · exact e
    · rw [hz' c ((belI_bit h.sets h1 c).2 (.inl hc))] at hjc; cases hjc
  · rintro ⟨hj, hb, hz⟩
    have hz' := andI_zero.1 hz
    refine ⟨hj, (belI_bit h.sets h1 j).2 (.inl hb), andI_zero.2 fun b hb => ?_⟩
    rcases (belI_bit h.sets h1 b).1 hb with e | ⟨c, hc, hbc⟩
    · exact hz' b e
    · cases e : bitB (zs[j]?.getD 0) b
      · rfl
      · have := (h.trans (a := j) (b := b) (c := c) ⟨bit_none e, e⟩ ⟨bit_none hbc, hbc⟩).2
        rw [hz' c hc] at this; cases this
theorem bel_tops (h : VoP zs) (h0 : 0 ≤ s) (h1 : s < powI zs.length) : belI zs (topsTo zs s zs.length) = belI zs s := by
  have hb := topsTo_bd zs s zs.length
  refine bitB_ext (belI_bd h.sets hb.1 hb.2).1 (belI_bd h.sets h0 h1).1 fun j => ?_
  rw [Bool.eq_iff_iff, belI_bit h.sets hb.2, belI_bit h.sets h1]
  constructor
  · rintro (e | ⟨t, ht, hj⟩)
    · exact .inl ((topsTo_bit _ _).1 e).2.1
    · exact .inr ⟨t, ((topsTo_bit _ _).1 ht).2.1, hj⟩
  · rintro (e | ⟨b, hb, hj⟩)
    · obtain ⟨t, ht, e2⟩ := top_over h h1 _ j (Nat.le_refl _) e
      rcases e2 with rfl | e2
      · exact .inl ht
      · exact .inr ⟨t, ht, e2.2⟩
    · obtain ⟨t, ht, e2⟩ := top_over h h1 _ b (Nat.le_refl _) hb
      rcases e2 with rfl | e2
      · exact .inr ⟨b, ht, hj⟩
      · exact .inr ⟨t, ht, (h.trans (a := j) (b := b) (c := t) ⟨bit_none hj, hj⟩ e2).2⟩
theorem bel_self (h0 : idB zs s = true) : belI zs s = s := by simpa [idB] using h0
theorem all_bits' {n : Nat} : ∀ j : Nat, bitB (powI n - 1) j = decide (j < n) := fun j => by
  have e : (powI (n : Int) - 1).toNat = 2 ^ n - 1 := by
    have : powI (n : Int) = ((2 ^ n : Nat) : Int) := by simp [powI]
    omega
  simp [bitB, e, Nat.testBit_two_pow_sub_one]
theorem left_fin : ∀ n : Fin 7, ∀ k : Fin 64, (k.val : Int) < powI (n.val : Int) → lessI (powI (n.val : Int) - 1) (k.val : Int) = powI (n.val : Int) - 1 - (k.val : Int) := by decide +kernel
theorem left_is {n : Nat} {s : Int} (hn : n ≤ 6) (h0 : 0 ≤ s) (h1 : s < powI n) : lessI (powI n - 1) s = powI n - 1 - s := by
  have hpn := powI_le6 (n := (n : Int)) (by omega)
  obtain ⟨k, rfl⟩ := Int.eq_ofNat_of_zero_le h0
  exact left_fin ⟨n, by omega⟩ ⟨k, by omega⟩ h1
theorem left_ideal (h : VoP zs) (h0 : 0 ≤ s) (h1 : s < powI zs.length) (hi : idB zs s = true) : idB (du zs) (powI zs.length - 1 - s) = true := by
  have hp := powI_pos (zs.length : Int)
  refine (idB_iff (du_sets h.sets) (by omega) (by rw [du_len]; omega)).2 fun a b hb hz => ?_
  rw [← left_is h.1 h0 h1] at hb ⊢
  rw [bitB_less, all_bits', Bool.and_eq_true] at hb ⊢
  rw [du_bit h.sets] at hz
  have ha : a < zs.length := bitB_lt (h.sets.2 b (bit_none hz)).2 hz
  refine ⟨by simpa using ha, ?_⟩
  cases e : bitB s a
  · rfl
  · have := (idB_iff h.sets h0 h1).1 hi b a e hz
    rw [this] at hb; simp at hb
theorem tops_apart (h : VoP zs) (h0 : 0 ≤ s) (h1 : s < powI zs.length) (ha : apB zs s = true) : topsTo zs s zs.length = s := by
  have hp := powI_le6 (n := (zs.length : Int)) (by have := h.1; omega)
  refine bitB_ext (topsTo_bd zs s _).1 h0 fun j => ?_
  have key := topsTo_bit (zs := zs) (s := s) j zs.length
  cases e : bitB s j
  · cases e2 : bitB (topsTo zs s zs.length) j
    · rfl
    · have := (key.1 e2).2.1; rw [e] at this; cases this
  · exact key.2 ⟨bitB_lt h1 e, e, andI_zero.2 fun b hb => (apB_iff (by omega)).1 ha j b e hb⟩
/-- The tops of the next ideal are the lowest items that the one ahead lacks. -/
theorem next_tops (h : VoP zs) (_h0 : 0 ≤ s) (_h1 : s < powI zs.length) : topsTo zs (nextI zs s) zs.length = topsTo (du zs) (powI zs.length - 1 - s) zs.length := by
  have hp := powI_pos (zs.length : Int)
  have hp6 := powI_le6 (n := (zs.length : Int)) (by have := h.1; omega)
  have hb := topsTo_bd (du zs) (powI zs.length - 1 - s) zs.length
  have ha := tops_ap (s := powI zs.length - 1 - s) (du_vo h)
  rw [du_len, du_apB h.sets (by omega)] at ha
  unfold nextI
  rw [tops_bel h hb.1 hb.2, tops_apart h hb.1 hb.2 ha]
end
theorem in_set {zs : List Int} {s : Int} (_h : VoP zs) (h0 : 0 ≤ s) (h1 : s < powI zs.length) : inB s 0 (powI zs.length - 1) = true := by
  simp only [inB, decide_eq_true_eq]; omega
theorem set_parts {zs : List Int} {s : Int} (h : (vo zs && inB s 0 (powI zs.length - 1)) = true) : VoP zs ∧ 0 ≤ s ∧ s < powI zs.length := by
  rw [Bool.and_eq_true] at h
  refine ⟨by simpa [vo] using h.1, ?_⟩
  have := h.2
  simp only [inB, decide_eq_true_eq] at this
  omega
theorem topsR_in {zs : List Int} {s : Int} (h : VoP zs) (h0 : 0 ≤ s) (h1 : s < powI zs.length) : topsR zs s = topsTo zs s zs.length := by
  unfold topsR; rw [vo_true h, in_set h h0 h1]; rfl
theorem belowR_in {zs : List Int} {s : Int} (h : VoP zs) (h0 : 0 ≤ s) (h1 : s < powI zs.length) : belowR zs s = belI zs s := by
  unfold belowR; rw [vo_true h, in_set h h0 h1]; rfl
theorem isIdealR_in {zs : List Int} {s : Int} (h : VoP zs) (h0 : 0 ≤ s) (h1 : s < powI zs.length) : isIdealR zs s = idB zs s := by
  unfold isIdealR; rw [vo_true h, in_set h h0 h1]; rfl
end Go.Proofs.YtghogabmkbadjaaDoor

/- Joins, what all of a set have above them, cuts, items with one next below, and orders of some items: as both sides tell them. No program. -/
namespace Go.Proofs.YtghogabmkbadjaaDoor

/-- What is at or above an item. -/
def atUp (zs : List Int) (a : Nat) : Int := orI (zs[a]?.getD 0) (powI a)
theorem atUp_bd {zs : List Int} (h : Sets zs) {a : Nat} (ha : a < zs.length) : 0 ≤ atUp zs a ∧ atUp zs a < powI zs.length := by
  have hz := h.2 a ha
  exact orI_bd hz.1 hz.2 (Int.le_of_lt (powI_pos _)) (powI_lt ha)
theorem atUp_bit (zs : List Int) (a j : Nat) : bitB (atUp zs a) j = (bitB (zs[a]?.getD 0) j || decide (a = j)) := by unfold atUp; rw [bitB_or, bitB_pow]
/-- The items that are at or above all those of s less than k. -/
def comTo (zs : List Int) (s : Int) : Nat → Int
  | 0 => powI zs.length - 1
  | k + 1 => if bitB s k then andI (comTo zs s k) (atUp zs k) else comTo zs s k
theorem comTo_yes {zs : List Int} {s : Int} {k : Nat} (h : bitB s k = true) : comTo zs s (k + 1) = andI (comTo zs s k) (atUp zs k) := by simp [comTo, h]
theorem comTo_no {zs : List Int} {s : Int} {k : Nat} (h : bitB s k = false) : comTo zs s (k + 1) = comTo zs s k := by simp [comTo, h]
theorem comTo_bd (zs : List Int) (s : Int) : ∀ k : Nat, 0 ≤ comTo zs s k ∧ comTo zs s k < powI zs.length
  | 0 => by have := powI_pos (zs.length : Int); simp only [comTo]; omega
  | k + 1 => by
    have h := comTo_bd zs s k
    unfold comTo
    split
    · have := andI_bd (comTo zs s k) (atUp zs k); omega
    · exact h
theorem comTo_bit (zs : List Int) (s : Int) (j : Nat) : ∀ k : Nat, bitB (comTo zs s k) j = true ↔ j < zs.length ∧ ∀ a : Nat, a < k → bitB s a = true → bitB (atUp zs a) j = true
  | 0 => by
    unfold comTo
    rw [all_bits', decide_eq_true_eq]
    exact ⟨fun h => ⟨h, fun a ha => by omega⟩, fun h => h.1⟩
  | k + 1 => by
    cases hb : bitB s k
    · rw [comTo_no hb, comTo_bit zs s j k]
      refine ⟨fun h => ⟨h.1, fun a ha hs => ?_⟩, fun h => ⟨h.1, fun a ha hs => h.2 a (by omega) hs⟩⟩
      by_cases e : a = k
      · subst e; rw [hb] at hs; cases hs
      · exact h.2 a (by omega) hs
    · rw [comTo_yes hb, bitB_and, Bool.and_eq_true, comTo_bit zs s j k]
      refine ⟨fun h => ⟨h.1.1, fun a ha hs => ?_⟩, fun h => ⟨⟨h.1, fun a ha hs => h.2 a (by omega) hs⟩, h.2 k (by omega) hb⟩⟩
      by_cases e : a = k
      · subst e; exact h.2
      · exact h.1.2 a (by omega) hs
/-- The same, item by item of a list. -/
def comL (zs : List Int) (l : List Nat) : Int := l.foldl (fun (t : Int) (i : Nat) => andI t (atUp zs i)) (powI zs.length - 1)
theorem comL_snoc (zs : List Int) (l : List Nat) (i : Nat) : comL zs (l ++ [i]) = andI (comL zs l) (atUp zs i) := by simp [comL]
theorem comL_to (zs : List Int) (s : Int) : ∀ k : Nat, comL zs (itemsTo s k) = comTo zs s k
  | 0 => rfl
  | k + 1 => by
    have ih := comL_to zs s k
    cases hb : bitB s k
    · rw [itemsTo_no hb, comTo_no hb, ih]
    · rw [itemsTo_yes hb, comL_snoc, comTo_yes hb, ih]
theorem comTo_up {zs : List Int} {s : Int} {n : Nat} (h1 : s < powI n) : ∀ d : Nat, comTo zs s (n + d) = comTo zs s n
  | 0 => rfl
  | d + 1 => by
    have hb : bitB s ((n + d : Nat) : Int) = false := by
      cases h : bitB s ((n + d : Nat) : Int) with
      | false => rfl
      | true => have := bitB_lt h1 h; omega
    rw [← Nat.add_assoc, comTo_no hb, comTo_up h1 d]
theorem comL_all {zs : List Int} {s : Int} {n : Nat} (hn : n ≤ 6) (h1 : s < powI n) : comL zs (itemsL s) = comTo zs s n := by
  rw [itemsL, comL_to, show (6 : Nat) = n + (6 - n) from by omega, comTo_up h1]
/-- At or above both. -/
def upR (zs : List Int) (a b : Nat) : Int := andI (atUp zs a) (atUp zs b)
theorem upR_bd {zs : List Int} (h : Sets zs) {a b : Nat} (ha : a < zs.length) : 0 ≤ upR zs a b ∧ upR zs a b < powI zs.length := by
  have h1 := andI_bd (atUp zs a) (atUp zs b)
  have h2 := atUp_bd h ha
  unfold upR
  omega
/-- Two items as a set. -/
def twoS (a b : Nat) : Int := orI (orI 0 (powI a)) (powI b)
theorem twoS_bd {n a b : Nat} (ha : a < n) (hb : b < n) : 0 ≤ twoS a b ∧ twoS a b < powI n := by
  have h1 := orI_bd (a := 0) (b := powI a) (n := n) (Int.le_refl _) (powI_pos _) (Int.le_of_lt (powI_pos _)) (powI_lt ha)
  exact orI_bd h1.1 h1.2 (Int.le_of_lt (powI_pos _)) (powI_lt hb)
theorem twoS_bit (a b j : Nat) : bitB (twoS a b) j = (decide (a = j) || decide (b = j)) := by
  unfold twoS; rw [bitB_or, bitB_or, bitB_zero, bitB_pow, bitB_pow]; simp
theorem com_two {zs : List Int} (h : Sets zs) {a b : Nat} (ha : a < zs.length) (hb : b < zs.length) : comTo zs (twoS a b) zs.length = upR zs a b := by
  refine bitB_ext (comTo_bd _ _ _).1 (upR_bd h ha).1 fun j => ?_
  rw [Bool.eq_iff_iff, comTo_bit]
  unfold upR
  rw [bitB_and, Bool.and_eq_true]
  constructor
  · rintro ⟨hj, h2⟩
    exact ⟨h2 a ha (by rw [twoS_bit]; simp), h2 b hb (by rw [twoS_bit]; simp)⟩
  · rintro ⟨h1, h2⟩
    refine ⟨bitB_lt (atUp_bd h ha).2 h1, fun x _ hx => ?_⟩
    rw [twoS_bit, Bool.or_eq_true, decide_eq_true_eq, decide_eq_true_eq] at hx
    rcases hx with rfl | rfl
    · exact h1
    · exact h2
/-- An item of s that all of s are at or above. -/
def jnB (zs : List Int) (s : Int) (c : Nat) : Bool := bitB s c && lessI s (atUp zs c) == 0
theorem less_less (s p z : Int) : (lessI (lessI s p) z == 0) = (lessI s (orI z p) == 0) := by
  rw [Bool.eq_iff_iff, beq_iff_eq, beq_iff_eq, lessI_none, lessI_none]
  constructor
  · intro h j hj
    rw [bitB_or]
    cases hp : bitB p j
    · have := h j (by rw [bitB_less, hj, hp]; rfl)
      rw [this]; rfl
    · simp
  · intro h j hj
    rw [bitB_less, Bool.and_eq_true, Bool.not_eq_true'] at hj
    have := h j hj.1
    rw [bitB_or, hj.2, Bool.or_false] at this
    exact this
def jnI (zs : List Int) (s : Int) : Int := match (List.range zs.length).find? (jnB zs s) with | none => -1 | some c => (c : Int)
theorem jnI_at {zs : List Int} {s : Int} {c : Nat} (hc : c < zs.length) (hb : jnB zs s c = true) (hn : ∀ j, j < c → jnB zs s j = false) : jnI zs s = c := by
  have : (List.range zs.length).find? (jnB zs s) = some c := by
    rw [List.find?_range_eq_some]
    exact ⟨hb, by simpa using hc, fun j hj => by simpa using hn j hj⟩
  unfold jnI
  rw [this]
theorem jnI_none {zs : List Int} {s : Int} (hn : ∀ j, j < zs.length → jnB zs s j = false) : jnI zs s = -1 := by
  have : (List.range zs.length).find? (jnB zs s) = none := by
    rw [List.find?_eq_none]
    intro x hx
    rw [hn x (by simpa using hx)]
    simp
  unfold jnI
  rw [this]
theorem jnI_cases {zs : List Int} {s : Int} : (jnI zs s = -1 ∧ ∀ j, j < zs.length → jnB zs s j = false) ∨ ∃ c : Nat, jnI zs s = c ∧ c < zs.length ∧ jnB zs s c = true := by
  unfold jnI
  cases h : (List.range zs.length).find? (jnB zs s) with
  | none => exact .inl ⟨rfl, fun j hj => by
      have := List.find?_eq_none.1 h j (by simpa using hj)
      simpa using this⟩
  | some c => exact .inr ⟨c, rfl, by have := List.mem_of_find?_eq_some h; simpa using this, List.find?_some h⟩
theorem jnI_bd (zs : List Int) (s : Int) : -1 ≤ jnI zs s ∧ jnI zs s < zs.length := by
  rcases jnI_cases (zs := zs) (s := s) with h | ⟨c, h, hc, _⟩ <;> omega
/-- The join, -1 for none. -/
def joinI (zs : List Int) (a b : Nat) : Int := jnI zs (upR zs a b)
theorem joinI_bd (zs : List Int) (a b : Nat) : -1 ≤ joinI zs a b ∧ joinI zs a b < zs.length := jnI_bd _ _
def isIt (zs : List Int) (a : Int) : Bool := inB a 0 ((zs.length : Int) - 1)
def joinR (zs : List Int) (a b : Int) : Int := if vo zs && (isIt zs a && isIt zs b) then joinI zs a.toNat b.toNat else -1
def meetR (zs : List Int) (a b : Int) : Int := if vo zs && (isIt zs a && isIt zs b) then joinI (du zs) a.toNat b.toNat else -1

/-- The items with one item next below. -/
def snB (zs : List Int) (a : Nat) : Bool := popI (topsTo zs ((du zs)[a]?.getD 0) zs.length) == 1
def snTo (zs : List Int) : Nat → Int
  | 0 => 0
  | a + 1 => if snB zs a then orI (snTo zs a) (powI a) else snTo zs a
theorem snTo_yes {zs : List Int} {a : Nat} (h : snB zs a = true) : snTo zs (a + 1) = orI (snTo zs a) (powI a) := by simp [snTo, h]
theorem snTo_no {zs : List Int} {a : Nat} (h : snB zs a = false) : snTo zs (a + 1) = snTo zs a := by simp [snTo, h]
theorem snTo_bd (zs : List Int) : ∀ k : Nat, 0 ≤ snTo zs k ∧ snTo zs k < powI k
  | 0 => by simp [snTo, powI]
  | k + 1 => by
    have h := snTo_bd zs k
    have hp : powI (k : Int) < powI ((k + 1 : Nat) : Int) := powI_lt (by omega)
    unfold snTo
    split
    · exact orI_bd h.1 (by omega) (Int.le_of_lt (powI_pos _)) hp
    · omega
theorem snTo_bit (zs : List Int) (j : Nat) : ∀ k : Nat, bitB (snTo zs k) j = (decide (j < k) && snB zs j)
  | 0 => by simp [snTo, bitB_zero]
  | k + 1 => by
    have ih := snTo_bit zs j k
    cases hs : snB zs k
    · rw [snTo_no hs, ih]
      by_cases e : j = k
      · subst e; simp [hs]
      · have : (j < k + 1) ↔ (j < k) := by omega
        simp [this]
    · rw [snTo_yes hs, bitB_or, ih, bitB_pow]
      by_cases e : j = k
      · subst e; simp [hs]
      · have h1 : (j < k + 1) ↔ (j < k) := by omega
        have h2 : ¬ k = j := by omega
        simp [h1, h2]
def singlesR (zs : List Int) : Int := if vo zs then snTo zs zs.length else -1
/-- What is next below an item: as the model takes it, and the tops of all below it. -/
theorem next_below {zs : List Int} (h : VoP zs) {a : Nat} (ha : a < zs.length) : coverTo (du zs) a zs.length = topsTo zs ((du zs)[a]?.getD 0) zs.length := by
  have hd := du_sets h.sets
  have hb := coverTo_bd hd (a := a) (by rw [du_len]; exact ha) zs.length
  refine bitB_ext hb.1 (topsTo_bd _ _ _).1 fun j => ?_
  rw [Bool.eq_iff_iff, coverTo_bit, topsTo_bit, Bool.and_eq_true, List.all_eq_true, andI_zero]
  constructor
  · rintro ⟨h1, h2⟩
    refine ⟨by rw [du_bit h.sets] at h1; exact bit_none h1, h1, fun b hb => ?_⟩
    have hbn : b < zs.length := by rw [du_bit h.sets] at hb; exact bit_none hb
    have := h2 b (by simpa using hbn)
    rw [hb, du_bit h.sets] at this
    simpa using this
  · rintro ⟨h1, h2, h3⟩
    refine ⟨h2, fun y hy => ?_⟩
    cases hb : bitB ((du zs)[a]?.getD 0) y
    · rfl
    · have := h3 y hb
      rw [du_bit h.sets, this]
      rfl

/-- A set of just the items at or below all those at or above all of it. -/
def cutI (zs : List Int) (s : Int) : Int := comTo (du zs) (comTo zs s zs.length) zs.length
def cutB (zs : List Int) (s : Int) : Bool := cutI zs s == s
def cutsR (zs : List Int) : List Int := if vo zs then setsTo (cutB zs) (2 ^ zs.length) else []

/-- The place of an item of s. -/
def plN (s : Nat) (a : Nat) : Nat := (popI (andI (s : Int) (powI a - 1))).toNat
theorem plN_fin : ∀ s : Fin 64, ∀ a : Fin 7, (popI (andI (s.val : Int) (powI (a.val : Int) - 1))).toNat = ((List.range a.val).filter fun j => s.val.testBit j).length := by decide +kernel
theorem plN_is {s a : Nat} (hs : s < 64) (ha : a ≤ 6) : plN s a = (leftL a s).length := plN_fin ⟨s, hs⟩ ⟨a, by omega⟩
theorem leftL_split {n s a : Nat} (ha : a < n) (hb : s.testBit a = true) : ∃ t, leftL n s = leftL a s ++ a :: t := by
  refine ⟨((List.range (n - (a + 1))).map (fun x => a + 1 + x)).filter fun j => s.testBit j, ?_⟩
  unfold leftL
  have e : List.range n = List.range a ++ a :: (List.range (n - (a + 1))).map (fun x => a + 1 + x) := by
    have h1 : n = (a + 1) + (n - (a + 1)) := by omega
    conv => lhs; rw [h1, List.range_add, List.range_succ]
    simp
  rw [e, List.filter_append, List.filter_cons, if_pos hb]
theorem pl_at {n s a : Nat} (hs : s < 64) (hn : n ≤ 6) (ha : a < n) (hb : s.testBit a = true) : plN s a < (leftL n s).length ∧ (leftL n s)[plN s a]?.getD 0 = a := by
  obtain ⟨t, e⟩ := leftL_split ha hb
  rw [e, plN_is hs (by omega)]
  simp
theorem left_pop_fin : ∀ n : Fin 7, ∀ s : Fin 64, s.val < 2 ^ n.val → (popI (s.val : Int)).toNat = ((List.range n.val).filter fun j => s.val.testBit j).length := by decide +kernel
theorem left_pop {n s : Nat} (hn : n ≤ 6) (hs : s < 2 ^ n) : popI (s : Int) = (leftL n s).length := by
  have h64 := Nat.lt_of_lt_of_le hs (pow_le64 hn)
  have h1 := left_pop_fin ⟨n, by omega⟩ ⟨s, h64⟩ hs
  have h2 := (popI_bd (s := (s : Int)) (by omega) (by omega)).1
  simp only at h1
  unfold leftL
  omega
/-- The pairs of a list of which s has both. -/
def ptB (s : Int) (p : Nat × Nat) : Bool := bitB s p.1 && bitB s p.2
def ptP (s : Nat) (ps : List (Nat × Nat)) : List (Nat × Nat) := (ps.filter (ptB s)).map fun p => (plN s p.2, plN s p.1)
theorem ptP_yes {s : Nat} {ps : List (Nat × Nat)} {a b : Nat} (h1 : bitB s a = true) (h2 : bitB s b = true) : ptP s (ps ++ [(a, b)]) = ptP s ps ++ [(plN s b, plN s a)] := by
  simp [ptP, ptB, List.filter_append, h1, h2]
theorem ptP_no {s : Nat} {ps : List (Nat × Nat)} {a b : Nat} (h : bitB s a = false ∨ bitB s b = false) : ptP s (ps ++ [(a, b)]) = ptP s ps := by
  rcases h with h | h <;> simp [ptP, ptB, List.filter_append, h]
def partR (zs : List Int) (s : Int) : List Int := if vo zs && inB s 0 (powI zs.length - 1) then ind zs (leftL zs.length s.toNat) else []
theorem part_is {zs : List Int} (h : VoP zs) {s : Nat} (hs : s < 2 ^ zs.length) : downP (leftL zs.length s).length (ptP s (pairsL zs)) = ind zs (leftL zs.length s) := by
  have h6 := h.1
  have h64 := Nat.lt_of_lt_of_le hs (pow_le64 h6)
  have hi := leftL_inc zs s
  have hps : ∀ p ∈ ptP s (pairsL zs), p.1 < (leftL zs.length s).length ∧ p.2 < (leftL zs.length s).length := by
    intro p hp
    unfold ptP at hp
    rw [List.mem_map] at hp
    obtain ⟨⟨x, y⟩, hxy, rfl⟩ := hp
    rw [List.mem_filter] at hxy
    obtain ⟨h1, h2⟩ := hxy
    unfold ptB at h2
    rw [Bool.and_eq_true, bit_cast, bit_cast] at h2
    exact ⟨(pl_at h64 h6 (bit_lt hs h2.2) h2.2).1, (pl_at h64 h6 (bit_lt hs h2.1) h2.1).1⟩
  refine List.ext_getElem? fun i => ?_
  rcases Nat.lt_or_ge i (leftL zs.length s).length with hil | hil
  · have e1 : (downP (leftL zs.length s).length (ptP s (pairsL zs)))[i]? = some ((downP (leftL zs.length s).length (ptP s (pairsL zs)))[i]?.getD 0) := by
      rw [List.getElem?_eq_getElem (by rw [downP_len]; exact hil)]; rfl
    have e2 : (ind zs (leftL zs.length s))[i]? = some ((ind zs (leftL zs.length s))[i]?.getD 0) := by
      rw [List.getElem?_eq_getElem (by rw [ind_len]; exact hil)]; rfl
    rw [e1, e2]
    congr 1
    refine bitB_ext (downP_bd (fun p hp => (hps p hp).1) i).1 ?_ fun j => ?_
    · have := (ind_vo h hi).bd i (by rw [ind_len]; exact hil); exact this.1
    · rw [Bool.eq_iff_iff, downP_bit (fun p hp => (hps p hp).2), ind_bit hil]
      unfold ptP
      rw [List.mem_map]
      constructor
      · rintro ⟨⟨x, y⟩, hxy, e⟩
        rw [List.mem_filter] at hxy
        obtain ⟨h1, h2⟩ := hxy
        unfold ptB at h2
        rw [Bool.and_eq_true, bit_cast, bit_cast] at h2
        have hx := pl_at h64 h6 (bit_lt hs h2.1) h2.1
        have hy := pl_at h64 h6 (bit_lt hs h2.2) h2.2
        injection e with e3 e4
        rw [← e3, ← e4]
        exact ⟨hy.1, by rw [hx.2, hy.2]; exact (mem_pairsL.1 h1).2.2⟩
      · rintro ⟨hj, hb⟩
        have hx : s.testBit ((leftL zs.length s)[i]?.getD 0) = true ∧ (leftL zs.length s)[i]?.getD 0 < zs.length := by
          have := List.getElem_mem (l := leftL zs.length s) hil
          rw [List.getElem?_eq_getElem hil]
          unfold leftL at this ⊢
          rw [List.mem_filter] at this
          exact ⟨this.2, by simpa using this.1⟩
        have hy : s.testBit ((leftL zs.length s)[j]?.getD 0) = true ∧ (leftL zs.length s)[j]?.getD 0 < zs.length := by
          have := List.getElem_mem (l := leftL zs.length s) hj
          rw [List.getElem?_eq_getElem hj]
          unfold leftL at this ⊢
          rw [List.mem_filter] at this
          exact ⟨this.2, by simpa using this.1⟩
        refine ⟨((leftL zs.length s)[i]?.getD 0, (leftL zs.length s)[j]?.getD 0), ?_, ?_⟩
        · rw [List.mem_filter]
          refine ⟨mem_pairsL.2 ⟨hx.2, by omega, hb⟩, ?_⟩
          unfold ptB
          rw [Bool.and_eq_true, bit_cast, bit_cast]
          exact ⟨hx.1, hy.1⟩
        · have h1 := pl_at h64 h6 hx.2 hx.1
          have h2 := pl_at h64 h6 hy.2 hy.1
          have e1 := hi.at_inj h1.1 hil h1.2
          have e2 := hi.at_inj h2.1 hj h2.2
          simp only
          rw [e1, e2]
  · rw [List.getElem?_eq_none (by rw [downP_len]; exact hil), List.getElem?_eq_none (by rw [ind_len]; exact hil)]
end Go.Proofs.YtghogabmkbadjaaDoor

/- Joins: what their own laws ask. No program. -/
namespace Go.Proofs.YtghogabmkbadjaaDoor

theorem up_swap (zs : List Int) (a b : Nat) : upR zs a b = upR zs b a := by
  unfold upR andI
  rw [Nat.and_comm]
theorem join_swap (zs : List Int) (a b : Nat) : joinI zs a b = joinI zs b a := by unfold joinI; rw [up_swap]
theorem join_bits {zs : List Int} {a b c : Nat} (h : joinI zs a b = c) : c < zs.length ∧ bitB (atUp zs a) c = true ∧ bitB (atUp zs b) c = true := by
  rcases jnI_cases (zs := zs) (s := upR zs a b) with ⟨e, _⟩ | ⟨d, e, hd, hb⟩
  · exfalso
    have : joinI zs a b = -1 := e
    omega
  · have : joinI zs a b = (d : Int) := e
    obtain rfl : d = c := by omega
    unfold jnB at hb
    rw [Bool.and_eq_true] at hb
    have h1 := hb.1
    unfold upR at h1
    rw [bitB_and, Bool.and_eq_true] at h1
    exact ⟨hd, h1⟩
theorem at_or {zs : List Int} {a c : Nat} (h : bitB (atUp zs a) c = true) (hne : c ≠ a) : bitB (zs[a]?.getD 0) c = true := by
  rw [atUp_bit, Bool.or_eq_true, decide_eq_true_eq] at h
  rcases h with h | h
  · exact h
  · exact absurd h.symm hne
/-- Where there is one, all stand in range. -/
theorem join_parts {zs ds : List Int} {a b J : Int} (hJ : (if vo zs && (isIt zs a && isIt zs b) then joinI ds a.toNat b.toNat else -1) = J) (h0 : 0 ≤ J) :
    VoP zs ∧ ∃ x y c : Nat, a = x ∧ b = y ∧ J = c ∧ x < zs.length ∧ y < zs.length ∧ joinI ds x y = c := by
  cases e : (vo zs && (isIt zs a && isIt zs b))
  · rw [e] at hJ
    simp only [Bool.false_eq_true, if_false] at hJ
    omega
  · rw [e, if_pos rfl] at hJ
    rw [Bool.and_eq_true, Bool.and_eq_true] at e
    obtain ⟨hv, ha, hb⟩ := e
    unfold isIt inB at ha hb
    rw [decide_eq_true_eq] at ha hb
    refine ⟨by simpa [vo] using hv, a.toNat, b.toNat, J.toNat, by omega, by omega, by omega, by omega, by omega, by omega⟩
theorem isIt_cast {zs : List Int} {x : Nat} (h : x < zs.length) : isIt zs (x : Int) = true := by unfold isIt inB; rw [decide_eq_true_eq]; omega
theorem joinR_cast {zs : List Int} (h : VoP zs) {x y : Nat} (hx : x < zs.length) (hy : y < zs.length) : joinR zs x y = joinI zs x y := by
  unfold joinR; rw [vo_true h, isIt_cast hx, isIt_cast hy]; rfl
theorem meetR_cast {zs : List Int} (h : VoP zs) {x y : Nat} (hx : x < zs.length) (hy : y < zs.length) : meetR zs x y = joinI (du zs) x y := by
  unfold meetR; rw [vo_true h, isIt_cast hx, isIt_cast hy]; rfl
end Go.Proofs.YtghogabmkbadjaaDoor

/- Cuts: ideals, closed under meeting, ascending, as many as those of the order turned round, at least as many as items. No program. -/
namespace Go.Proofs.YtghogabmkbadjaaDoor

theorem inj_len {α β : Type} [DecidableEq β] (f : α → β) : ∀ (l : List α) (m : List β), l.Nodup → (∀ x ∈ l, f x ∈ m) → (∀ x ∈ l, ∀ y ∈ l, f x = f y → x = y) → l.length ≤ m.length
  | [], _, _, _, _ => Nat.zero_le _
  | a :: t, m, hn, hm, hi => by
    have ha := hm a (by simp)
    rw [List.nodup_cons] at hn
    have := inj_len f t (m.erase (f a)) hn.2 (fun x hx => by
      refine (List.mem_erase_of_ne fun e => ?_).2 (hm x (by simp [hx]))
      have := hi x (by simp [hx]) a (by simp) e
      subst this
      exact hn.1 hx) (fun x hx y hy => hi x (by simp [hx]) y (by simp [hy]))
    rw [List.length_erase_of_mem ha] at this
    have := List.length_pos_of_mem ha
    simp only [List.length_cons]
    omega
theorem setsTo_mem {p : Int → Bool} {k : Nat} {x : Int} : x ∈ setsTo p k ↔ ∃ j : Nat, j < k ∧ p (j : Int) = true ∧ (j : Int) = x := by
  simp [setsTo, and_assoc]
theorem setsTo_asc (p : Int → Bool) (k : Nat) : (setsTo p k).Pairwise (· < ·) := by
  unfold setsTo
  rw [List.pairwise_map]
  refine (List.pairwise_lt_range.filter _).imp fun h => by omega
theorem setsTo_nodup (p : Int → Bool) (k : Nat) : (setsTo p k).Nodup := (setsTo_asc p k).imp fun h => by omega
theorem setsTo_at {p : Int → Bool} {k i : Nat} (hi : i < (setsTo p k).length) : ∃ j : Nat, j < k ∧ p (j : Int) = true ∧ (setsTo p k)[i]?.getD 0 = (j : Int) := by
  obtain ⟨j, h1, h2, h3⟩ := setsTo_mem.1 (List.getElem_mem hi)
  exact ⟨j, h1, h2, by rw [List.getElem?_eq_getElem hi]; exact h3.symm⟩
theorem setsTo_less {p : Int → Bool} {k i : Nat} (h0 : 0 < i) (hi : i < (setsTo p k).length) : (setsTo p k)[i - 1]?.getD 0 < (setsTo p k)[i]?.getD 0 := by
  rw [List.getElem?_eq_getElem hi, List.getElem?_eq_getElem (by omega)]
  exact List.pairwise_iff_getElem.1 (setsTo_asc p k) (i - 1) i (by omega) hi (by omega)
/-- At or above. -/
theorem at_du {zs : List Int} (h : Sets zs) (a b : Nat) : bitB (atUp (du zs) a) b = bitB (atUp zs b) a := by
  rw [atUp_bit, atUp_bit, du_bit h]
  congr 1
  exact decide_eq_decide.2 ⟨Eq.symm, Eq.symm⟩
theorem at_self (zs : List Int) (a : Nat) : bitB (atUp zs a) a = true := by rw [atUp_bit]; simp
theorem at_trans {zs : List Int} (h : VoP zs) {a b c : Nat} (h1 : bitB (atUp zs a) b = true) (h2 : bitB (atUp zs b) c = true) : bitB (atUp zs a) c = true := by
  rw [atUp_bit, Bool.or_eq_true, decide_eq_true_eq] at h1 h2
  rcases h1 with h1 | rfl
  · rcases h2 with h2 | rfl
    · rw [atUp_bit, (h.trans ⟨bit_none h1, h1⟩ ⟨bit_none h2, h2⟩).2]; rfl
    · rw [atUp_bit, h1]; rfl
  · rw [atUp_bit, Bool.or_eq_true, decide_eq_true_eq]; exact h2
theorem at_asym {zs : List Int} (h : VoP zs) {a b : Nat} (h1 : bitB (atUp zs a) b = true) (h2 : bitB (atUp zs b) a = true) : a = b := by
  rw [atUp_bit, Bool.or_eq_true, decide_eq_true_eq] at h1 h2
  rcases h1 with h1 | h1
  · rcases h2 with h2 | h2
    · rw [h.asym (bit_none h1) h1] at h2; cases h2
    · exact h2.symm
  · exact h1
/-- The cut of a set: what is at or below all that is at or above all of it. -/
theorem cut_bit {zs : List Int} (h : Sets zs) (s : Int) (i : Nat) : bitB (cutI zs s) i = true ↔ i < zs.length ∧ ∀ j : Nat, j < zs.length → (∀ a : Nat, a < zs.length → bitB s a = true → bitB (atUp zs a) j = true) → bitB (atUp zs i) j = true := by
  unfold cutI
  rw [comTo_bit, du_len]
  refine and_congr_right fun _ => ⟨fun g j hj ha => ?_, fun g j hj hb => ?_⟩
  · rw [← at_du h]; exact g j hj ((comTo_bit _ _ _ _).2 ⟨hj, ha⟩)
  · rw [at_du h]; exact g j hj ((comTo_bit _ _ _ _).1 hb).2
theorem cut_bd (zs : List Int) (s : Int) : 0 ≤ cutI zs s ∧ cutI zs s < powI zs.length := by
  have := comTo_bd (du zs) (comTo zs s zs.length) zs.length
  rwa [du_len] at this
theorem cut_in {zs : List Int} (h : Sets zs) {s : Int} (h1 : s < powI zs.length) {i : Nat} (hb : bitB s i = true) : bitB (cutI zs s) i = true :=
  (cut_bit h s i).2 ⟨bitB_lt h1 hb, fun _ _ ha => ha i (bitB_lt h1 hb) hb⟩
theorem cut_mono {zs : List Int} (h : Sets zs) {s t : Int} (hst : ∀ i : Nat, bitB s i = true → bitB t i = true) {i : Nat} (hb : bitB (cutI zs s) i = true) : bitB (cutI zs t) i = true := by
  rw [cut_bit h] at hb ⊢
  exact ⟨hb.1, fun j hj ha => hb.2 j hj fun a ha1 hs => ha a ha1 (hst a hs)⟩
theorem cutB_iff {zs : List Int} (h : Sets zs) {s : Int} (h0 : 0 ≤ s) (h1 : s < powI zs.length) : cutB zs s = true ↔ ∀ i : Nat, bitB (cutI zs s) i = true → bitB s i = true := by
  unfold cutB
  rw [beq_iff_eq]
  refine ⟨fun e i hb => by rwa [e] at hb, fun g => bitB_ext (cut_bd zs s).1 h0 fun i => ?_⟩
  rw [Bool.eq_iff_iff]
  exact ⟨g i, cut_in h h1⟩
theorem cut_inter {zs : List Int} (h : Sets zs) {s t : Int} (s0 : 0 ≤ s) (s1 : s < powI zs.length) (_t0 : 0 ≤ t) (t1 : t < powI zs.length) (hs : cutB zs s = true) (ht : cutB zs t = true) :
    0 ≤ andI s t ∧ andI s t < powI zs.length ∧ cutB zs (andI s t) = true := by
  have h0 : 0 ≤ andI s t := by unfold andI; omega
  have hle : andI s t < powI zs.length := by
    have := andI_bd s t
    omega
  refine ⟨h0, hle, (cutB_iff h h0 hle).2 fun i hb => ?_⟩
  rw [bitB_and, Bool.and_eq_true]
  exact ⟨(cutB_iff h s0 s1).1 hs i (cut_mono h (fun j hj => by rw [bitB_and, Bool.and_eq_true] at hj; exact hj.1) hb),
    (cutB_iff h _t0 t1).1 ht i (cut_mono h (fun j hj => by rw [bitB_and, Bool.and_eq_true] at hj; exact hj.2) hb)⟩
theorem cut_ideal {zs : List Int} (h : VoP zs) {s : Int} (h0 : 0 ≤ s) (h1 : s < powI zs.length) (hs : cutB zs s = true) : idB zs s = true := by
  refine (idB_iff h.sets h0 h1).2 fun a b hb hz => (cutB_iff h.sets h0 h1).1 hs a ?_
  have hc := cut_in h.sets h1 hb
  rw [cut_bit h.sets] at hc ⊢
  refine ⟨bit_none hz, fun j hj ha => at_trans h (b := b) ?_ (hc.2 j hj ha)⟩
  rw [atUp_bit, hz]; rfl
theorem cut_all {zs : List Int} (h : Sets zs) : cutB zs (powI zs.length - 1) = true := by
  have hp := powI_pos (zs.length : Int)
  refine (cutB_iff h (by omega) (by omega)).2 fun i hb => ?_
  rw [all_bits', decide_eq_true_eq]
  exact ((cut_bit h _ i).1 hb).1
/-- What is at or below an item is a cut. -/
theorem cut_one {zs : List Int} (h : VoP zs) {a : Nat} (ha : a < zs.length) : 0 ≤ atUp (du zs) a ∧ atUp (du zs) a < powI zs.length ∧ cutB zs (atUp (du zs) a) = true := by
  have hb := atUp_bd (du_sets h.sets) (a := a) (by rw [du_len]; exact ha)
  rw [du_len] at hb
  refine ⟨hb.1, hb.2, (cutB_iff h.sets hb.1 hb.2).2 fun i hi => ?_⟩
  rw [at_du h.sets]
  refine ((cut_bit h.sets _ i).1 hi).2 a ha fun c _ hc => ?_
  rwa [at_du h.sets] at hc
theorem pow_cast (n : Nat) : powI (n : Int) = ((2 ^ n : Nat) : Int) := by simp [powI]
theorem mem_cuts {zs : List Int} (h : VoP zs) {x : Int} : x ∈ cutsR zs ↔ 0 ≤ x ∧ x < powI zs.length ∧ cutB zs x = true := by
  unfold cutsR
  rw [vo_true h, if_pos rfl, setsTo_mem, pow_cast]
  refine ⟨?_, fun ⟨h0, h1, h2⟩ => ⟨x.toNat, by omega, by rwa [Int.toNat_of_nonneg h0], Int.toNat_of_nonneg h0⟩⟩
  rintro ⟨j, h1, h2, rfl⟩
  exact ⟨by omega, by omega, h2⟩
theorem cuts_nodup (zs : List Int) : (cutsR zs).Nodup := by
  unfold cutsR
  split
  · exact setsTo_nodup _ _
  · exact List.nodup_nil
theorem cuts_many {zs : List Int} (h : VoP zs) : zs.length ≤ (cutsR zs).length := by
  have := inj_len (fun a : Nat => atUp (du zs) a) (List.range zs.length) (cutsR zs) List.nodup_range (fun a ha => (mem_cuts h).2 (cut_one h (by simpa using ha)))
    (fun a _ b _ e => at_asym h (by rw [← at_du h.sets, ← (show atUp (du zs) a = atUp (du zs) b from e)]; exact at_self _ _) (by rw [← at_du h.sets, (show atUp (du zs) a = atUp (du zs) b from e)]; exact at_self _ _))
  simpa using this
theorem cuts_du_le {zs : List Int} (h : VoP zs) : (cutsR zs).length ≤ (cutsR (du zs)).length := by
  refine inj_len (fun s => comTo zs s zs.length) _ _ (cuts_nodup zs) (fun s hs => ?_) (fun s hs t ht e => ?_)
  · obtain ⟨h0, h1, h2⟩ := (mem_cuts h).1 hs
    have hb := comTo_bd zs s zs.length
    refine (mem_cuts (du_vo h)).2 ⟨hb.1, by rw [du_len]; exact hb.2, ?_⟩
    unfold cutB at h2 ⊢
    rw [beq_iff_eq] at h2 ⊢
    unfold cutI at h2 ⊢
    rw [du_len, du_du h, h2]
  · have h2 := ((mem_cuts h).1 hs).2.2
    have h3 := ((mem_cuts h).1 ht).2.2
    unfold cutB at h2 h3
    rw [beq_iff_eq] at h2 h3
    rw [← h2, ← h3]
    unfold cutI
    rw [show comTo zs s zs.length = comTo zs t zs.length from e]
theorem cuts_du {zs : List Int} (h : VoP zs) : (cutsR (du zs)).length = (cutsR zs).length := by
  have h1 := cuts_du_le h
  have h2 := cuts_du_le (du_vo h)
  rw [du_du h] at h2
  omega
theorem cuts_last {zs : List Int} (h : VoP zs) {m : Nat} (hm : (cutsR zs).length = m + 1) : (cutsR zs)[m]?.getD 0 = powI zs.length - 1 := by
  have hp := powI_pos (zs.length : Int)
  have hin := (mem_cuts h).2 ⟨by omega, by omega, cut_all h.sets⟩
  obtain ⟨i, hi, e⟩ := List.getElem_of_mem hin
  have hl := (mem_cuts h).1 (List.getElem_mem (l := cutsR zs) (n := m) (by omega))
  rw [List.getElem?_eq_getElem (by omega), Option.getD_some]
  by_cases him : i = m
  · subst him; exact e
  · have hp : (cutsR zs).Pairwise (· < ·) := by
      unfold cutsR
      split
      · exact setsTo_asc _ _
      · exact List.Pairwise.nil
    have := List.pairwise_iff_getElem.1 hp i m hi (by omega) (by omega)
    omega
theorem cuts_pos {zs : List Int} (h : VoP zs) : 0 < (cutsR zs).length := by
  have hp := powI_pos (zs.length : Int)
  exact List.length_pos_of_mem ((mem_cuts h).2 ⟨by omega, by omega, cut_all h.sets⟩)
/-- What the cuts' own law asks of each. -/
theorem cuts_each {zs : List Int} (h : VoP zs) {i j : Nat} (hi : i < (cutsR zs).length) (hj : j < (cutsR zs).length) :
    isIdealR zs ((cutsR zs)[i]?.getD 0) = true ∧ andI ((cutsR zs)[i]?.getD 0) ((cutsR zs)[j]?.getD 0) ∈ cutsR zs := by
  rw [List.getElem?_eq_getElem hi, List.getElem?_eq_getElem hj, Option.getD_some, Option.getD_some]
  obtain ⟨a0, a1, a2⟩ := (mem_cuts h).1 (List.getElem_mem hi)
  obtain ⟨b0, b1, b2⟩ := (mem_cuts h).1 (List.getElem_mem hj)
  exact ⟨by rw [isIdealR_in h a0 a1]; exact cut_ideal h a0 a1 a2, (mem_cuts h).2 (cut_inter h.sets a0 a1 b0 b1 a2 b2)⟩
theorem cuts_asc (zs : List Int) {i : Nat} (h0 : 0 < i) (hi : i < (cutsR zs).length) : (cutsR zs)[i - 1]?.getD 0 < (cutsR zs)[i]?.getD 0 := by
  have hp : (cutsR zs).Pairwise (· < ·) := by
    unfold cutsR
    split
    · exact setsTo_asc _ _
    · exact List.Pairwise.nil
  rw [List.getElem?_eq_getElem hi, List.getElem?_eq_getElem (by omega)]
  exact List.pairwise_iff_getElem.1 hp (i - 1) i (by omega) hi (by omega)
end Go.Proofs.YtghogabmkbadjaaDoor

/- Ideals within a set are as many as ciN tells. No program. -/
namespace Go.Proofs.YtghogabmkbadjaaDoor

theorem bit_nat {x : Int} (_hx : 0 ≤ x) (j : Nat) : bitB x (j : Int) = x.toNat.testBit j := by simp [bitB]
theorem lessN_bit (s : Nat) (z : Int) (j : Nat) : (lessN s z).testBit j = ((s.testBit j && !decide (low s = j)) && !bitB z j) := by
  unfold lessN
  rw [← bit_nat (lessI_bd _ _).1, bitB_less, bitB_less, bitB_pow, bit_cast]
/-- An ideal within a set. -/
def IdP (zs : List Int) (s t : Nat) : Prop := (∀ j, t.testBit j = true → s.testBit j = true) ∧ ∀ a b : Nat, t.testBit b = true → s.testBit a = true → bitB (zs[a]?.getD 0) b = true → t.testBit a = true
open Classical in
noncomputable def ids (zs : List Int) (s : Nat) : List Nat := (List.range 64).filter fun t => decide (IdP zs s t)
theorem mem_ids {zs : List Int} {s t : Nat} : t ∈ ids zs s ↔ t < 64 ∧ IdP zs s t := by simp [ids]
theorem ids_nodup (zs : List Int) (s : Nat) : (ids zs s).Nodup := List.nodup_range.filter _
theorem idP_lt {zs : List Int} {s t : Nat} (h : IdP zs s t) (hs : s < 64) : t < 64 := Nat.lt_pow_two_of_testBit (n := 6) _ fun i hi => by
  cases e : t.testBit i
  · rfl
  · have := bit_lt (n := 6) hs (h.1 i e); omega
theorem ids_zero (zs : List Int) : (ids zs 0).length = 1 := by
  have h1 := inj_len (fun t : Nat => t) (ids zs 0) [0] (ids_nodup _ _) (fun t ht => by
    have := (mem_ids.1 ht).2.1
    have : t = 0 := Nat.eq_of_testBit_eq fun j => by
      cases e : t.testBit j
      · simp
      · have := this j e; simp at this
    simp [this]) (fun _ _ _ _ e => e)
  have h2 := inj_len (fun t : Nat => t) [0] (ids zs 0) (by simp) (fun t ht => by
    obtain rfl : t = 0 := by simpa using ht
    exact mem_ids.2 ⟨by omega, fun j hj => hj, fun a b hb => by simp at hb⟩) (fun _ _ _ _ e => e)
  simp at h1 h2
  omega
theorem ids_split {zs : List Int} (h : VoP zs) {s a u d : Nat} (hs : s < 64) (hb : s.testBit a = true)
    (hu : ∀ j, u.testBit j = ((s.testBit j && !decide (a = j)) && !bitB (zs[a]?.getD 0) j)) (hd : ∀ j, d.testBit j = ((s.testBit j && !decide (a = j)) && !bitB (zs[j]?.getD 0) a)) :
    (ids zs s).length = (ids zs u).length + (ids zs d).length := by
  have hu1 : ∀ j, u.testBit j = true ↔ s.testBit j = true ∧ a ≠ j ∧ bitB (zs[a]?.getD 0) j = false := fun j => by rw [hu]; simp [and_assoc]
  have hd1 : ∀ j, d.testBit j = true ↔ s.testBit j = true ∧ a ≠ j ∧ bitB (zs[j]?.getD 0) a = false := fun j => by rw [hd]; simp [and_assoc]
  have hlen : ((ids zs u).map (Sum.inl (β := Nat)) ++ (ids zs d).map (Sum.inr (α := Nat))).length = (ids zs u).length + (ids zs d).length := by simp
  have tr : ∀ {x y z : Nat}, bitB (zs[x]?.getD 0) y = true → bitB (zs[y]?.getD 0) z = true → bitB (zs[x]?.getD 0) z = true := fun h1 h2 => (h.trans ⟨bit_none h1, h1⟩ ⟨bit_none h2, h2⟩).2
  have hin : ∀ t, IdP zs s t → t.testBit a = true → ∀ j, t.testBit j = true ↔ ((t &&& d).testBit j = true ∨ (s.testBit j = true ∧ d.testBit j = false)) := fun t ht ha j => by
    rw [Nat.testBit_and, Bool.and_eq_true]
    constructor
    · intro e
      cases e2 : d.testBit j
      · exact .inr ⟨ht.1 j e, rfl⟩
      · exact .inl ⟨e, rfl⟩
    · rintro (e | ⟨e1, e2⟩)
      · exact e.1
      · rw [hd, e1, Bool.true_and] at e2
        by_cases e3 : a = j
        · subst e3; exact ha
        · cases e4 : bitB (zs[j]?.getD 0) a
          · rw [e4] at e2; simp [e3] at e2
          · exact ht.2 j a ha e1 e4
  have h1 := inj_len (fun t : Nat => if t.testBit a then (Sum.inr (t &&& d) : Nat ⊕ Nat) else Sum.inl t) (ids zs s) ((ids zs u).map (Sum.inl (β := Nat)) ++ (ids zs d).map (Sum.inr (α := Nat))) (ids_nodup _ _) (fun t ht => by
    obtain ⟨t6, ht⟩ := mem_ids.1 ht
    rw [List.mem_append]
    cases e : t.testBit a
    · refine .inl ?_
      simp only [Bool.false_eq_true, if_false]
      refine List.mem_map_of_mem (mem_ids.2 ⟨t6, fun j hj => (hu1 j).2 ⟨ht.1 j hj, fun e2 => (by subst e2; rw [e] at hj; cases hj), ?_⟩, fun x y hy hx hz => ht.2 x y hy ((hu1 x).1 hx).1 hz⟩)
      cases e2 : bitB (zs[a]?.getD 0) j
      · rfl
      · rw [ht.2 a j hj hb e2] at e; cases e
    · refine .inr ?_
      simp only [if_true]
      refine List.mem_map_of_mem (mem_ids.2 ⟨Nat.lt_of_le_of_lt Nat.and_le_left t6, fun j hj => ?_, fun x y hy hx hz => ?_⟩)
      · rw [Nat.testBit_and, Bool.and_eq_true] at hj; exact hj.2
      · rw [Nat.testBit_and, Bool.and_eq_true] at hy ⊢
        exact ⟨ht.2 x y hy.1 ((hd1 x).1 hx).1 hz, hx⟩) (fun t ht t2 ht2 e => by
    obtain ⟨-, ht⟩ := mem_ids.1 ht
    obtain ⟨-, ht2⟩ := mem_ids.1 ht2
    cases e1 : t.testBit a <;> cases e2 : t2.testBit a <;> simp [e1, e2] at e
    · exact e
    · refine Nat.eq_of_testBit_eq fun j => ?_
      rw [Bool.eq_iff_iff, hin t ht e1 j, hin t2 ht2 e2 j, e])
  have h2 := inj_len (fun x : Nat ⊕ Nat => match x with | .inl t => t | .inr t => t ||| (s ^^^ d)) ((ids zs u).map (Sum.inl (β := Nat)) ++ (ids zs d).map (Sum.inr (α := Nat))) (ids zs s) (by
      rw [List.nodup_append]
      refine ⟨?_, ?_, ?_⟩
      · exact List.Pairwise.map _ (fun x y hxy e => hxy (Sum.inl.inj e)) (ids_nodup zs u)
      · exact List.Pairwise.map _ (fun x y hxy e => hxy (Sum.inr.inj e)) (ids_nodup zs d)
      · intro x hx y hy e
        obtain ⟨t, -, rfl⟩ := List.mem_map.1 hx
        obtain ⟨t2, -, rfl⟩ := List.mem_map.1 hy
        cases e) (fun x hx => by
    rw [List.mem_append] at hx
    rcases hx with hx | hx
    · obtain ⟨t, ht, rfl⟩ := List.mem_map.1 hx
      obtain ⟨t6, ht⟩ := mem_ids.1 ht
      refine mem_ids.2 ⟨t6, fun j hj => ((hu1 j).1 (ht.1 j hj)).1, fun x y hy hx hz => ht.2 x y hy ((hu1 x).2 ⟨hx, fun e => ?_, ?_⟩) hz⟩
      · subst e
        have := ((hu1 y).1 (ht.1 y hy)).2.2
        rw [hz] at this; cases this
      · cases e : bitB (zs[a]?.getD 0) x
        · rfl
        · have := ((hu1 y).1 (ht.1 y hy)).2.2
          rw [tr e hz] at this; cases this
    · obtain ⟨t, ht, rfl⟩ := List.mem_map.1 hx
      obtain ⟨t6, ht⟩ := mem_ids.1 ht
      have hg : ∀ j, (t ||| (s ^^^ d)).testBit j = true ↔ t.testBit j = true ∨ (s.testBit j = true ∧ d.testBit j = false) := fun j => by
        rw [Nat.testBit_or, Nat.testBit_xor, Bool.or_eq_true]
        have := hd1 j
        cases e1 : s.testBit j <;> cases e2 : d.testBit j <;> simp_all
      have hp : IdP zs s (t ||| (s ^^^ d)) := by
        refine ⟨fun j hj => ?_, fun x y hy hx hz => ?_⟩
        · rcases (hg j).1 hj with e | e
          · exact ((hd1 j).1 (ht.1 j e)).1
          · exact e.1
        · refine (hg x).2 ?_
          cases e : d.testBit x
          · exact .inr ⟨hx, rfl⟩
          · refine .inl ?_
            rcases (hg y).1 hy with e2 | ⟨e2, e3⟩
            · exact ht.2 x y e2 e hz
            · exfalso
              have hx1 := (hd1 x).1 e
              rw [hd, e2, Bool.true_and] at e3
              by_cases e4 : a = y
              · subst e4; rw [hx1.2.2] at hz; cases hz
              · cases e5 : bitB (zs[y]?.getD 0) a
                · rw [e5] at e3; simp [e4] at e3
                · rw [tr hz e5] at hx1; cases hx1.2.2
      exact mem_ids.2 ⟨idP_lt hp hs, hp⟩) (fun x hx y hy e => by
    rw [List.mem_append] at hx hy
    have hg : ∀ t j, (t ||| (s ^^^ d)).testBit j = true ↔ t.testBit j = true ∨ (s.testBit j = true ∧ d.testBit j = false) := fun t j => by
      rw [Nat.testBit_or, Nat.testBit_xor, Bool.or_eq_true]
      have := hd1 j
      cases e1 : s.testBit j <;> cases e2 : d.testBit j <;> simp_all
    have hda : d.testBit a = false := by rw [hd]; simp
    rcases hx with hx | hx
    · obtain ⟨t, ht, rfl⟩ := List.mem_map.1 hx
      rcases hy with hy | hy
      · obtain ⟨t2, ht2, rfl⟩ := List.mem_map.1 hy
        exact congrArg _ e
      · exfalso
        obtain ⟨t2, ht2, rfl⟩ := List.mem_map.1 hy
        have e : t = t2 ||| (s ^^^ d) := e
        have h3 := (hg t2 a).2 (.inr ⟨hb, hda⟩)
        rw [← e] at h3
        exact ((hu1 a).1 ((mem_ids.1 ht).2.1 a h3)).2.1 rfl
    · obtain ⟨t, ht, rfl⟩ := List.mem_map.1 hx
      rcases hy with hy | hy
      · exfalso
        obtain ⟨t2, ht2, rfl⟩ := List.mem_map.1 hy
        have e : t ||| (s ^^^ d) = t2 := e
        have h3 := (hg t a).2 (.inr ⟨hb, hda⟩)
        rw [e] at h3
        exact ((hu1 a).1 ((mem_ids.1 ht2).2.1 a h3)).2.1 rfl
      · obtain ⟨t2, ht2, rfl⟩ := List.mem_map.1 hy
        have e : t ||| (s ^^^ d) = t2 ||| (s ^^^ d) := e
        refine congrArg _ (Nat.eq_of_testBit_eq fun j => ?_)
        rw [Bool.eq_iff_iff]
        have k1 := hg t j
        have k2 := hg t2 j
        rw [e] at k1
        constructor
        · intro e1
          rcases k2.1 (k1.2 (.inl e1)) with e3 | e3
          · exact e3
          · rw [(mem_ids.1 ht).2.1 j e1] at e3; cases e3.2
        · intro e1
          rcases k1.1 (k2.2 (.inl e1)) with e3 | e3
          · exact e3
          · rw [(mem_ids.1 ht2).2.1 j e1] at e3; cases e3.2)
  omega
theorem ciN_ids {zs : List Int} (h : VoP zs) : ∀ (k s : Nat), s ≤ k → s < 64 → ciN zs s = (ids zs s).length
  | 0, s, hk, _ => by
    obtain rfl : s = 0 := by omega
    rw [ciN_zero, ids_zero]
  | k + 1, s, hk, h1 => by
    by_cases h0 : s = 0
    · subst h0; rw [ciN_zero, ids_zero]
    · have hu := lessN_lt (zs[low s]?.getD 0) h0 h1
      have hd := lessN_lt ((du zs)[low s]?.getD 0) h0 h1
      rw [ciN_pos h0 h1, ciN_ids h k _ (by omega) (by omega), ciN_ids h k _ (by omega) (by omega)]
      refine (ids_split h h1 (low_fin ⟨s, h1⟩ h0).2 (fun j => lessN_bit s _ j) (fun j => ?_)).symm
      rw [lessN_bit, du_bit h.sets]
/-- All ideals of an order are as many as the program and the model count. -/
theorem ideals_ci {zs : List Int} (h : VoP zs) : (idealsR zs).length = ciN zs (2 ^ zs.length - 1) := by
  have h64 : (2 : Nat) ^ zs.length ≤ 64 := Nat.pow_le_pow_right (n := 2) (by decide) h.1
  rw [ciN_ids h 64 _ (by omega) (by omega)]
  have hm : ∀ t : Nat, t ∈ ids zs (2 ^ zs.length - 1) ↔ (t : Int) ∈ idealsR zs := fun t => by
    rw [mem_ids]
    unfold idealsR
    rw [vo_true h, if_pos rfl, setsTo_mem]
    constructor
    · rintro ⟨-, h1, h2⟩
      have hlt : t < 2 ^ zs.length := Nat.lt_pow_two_of_testBit _ fun i hi => by
        cases e : t.testBit i
        · rfl
        · have := h1 i e
          rw [Nat.testBit_two_pow_sub_one, decide_eq_true_eq] at this; omega
      refine ⟨t, hlt, (idB_iff h.sets (by omega) (by rw [pow_cast]; omega)).2 fun a b hb hz => ?_, rfl⟩
      rw [bit_cast] at hb ⊢
      exact h2 a b hb (by rw [Nat.testBit_two_pow_sub_one, decide_eq_true_eq]; exact bit_none hz) hz
    · rintro ⟨j, hj, hi, e⟩
      obtain rfl : j = t := by omega
      refine ⟨by omega, fun i hi2 => ?_, fun a b hb _ hz => ?_⟩
      · rw [Nat.testBit_two_pow_sub_one, decide_eq_true_eq]; exact bit_lt hj hi2
      · have := (idB_iff h.sets (by omega) (by rw [pow_cast]; omega)).1 hi a b (by rw [bit_cast]; exact hb) hz
        rwa [bit_cast] at this
  have hnd : (idealsR zs).Nodup := by
    unfold idealsR
    split
    · exact setsTo_nodup _ _
    · exact List.nodup_nil
  have h1 := inj_len (fun t : Nat => (t : Int)) (ids zs (2 ^ zs.length - 1)) (idealsR zs) (ids_nodup _ _) (fun t ht => (hm t).1 ht) (fun _ _ _ _ e => by omega)
  have h2 := inj_len (fun t : Int => t.toNat) (idealsR zs) (ids zs (2 ^ zs.length - 1)) hnd (fun t ht => by
    refine (hm t.toNat).2 ?_
    have h0 : 0 ≤ t := by
      unfold idealsR at ht
      rw [vo_true h, if_pos rfl, setsTo_mem] at ht
      obtain ⟨j, -, -, e⟩ := ht; omega
    rwa [Int.toNat_of_nonneg h0]) (fun x hx y hy e => by
    unfold idealsR at hx hy
    rw [vo_true h, if_pos rfl, setsTo_mem] at hx hy
    obtain ⟨j, -, -, e1⟩ := hx
    obtain ⟨j2, -, -, e2⟩ := hy
    omega)
  omega
end Go.Proofs.YtghogabmkbadjaaDoor

/- Orders beside each other, and one above the other: ideals and lines of both (mathematics). No program. -/
namespace Go.Proofs.YtghogabmkbadjaaDoor
open Go.RowKit

theorem mem_idsA {zs : List Int} {n t : Nat} (hn : zs.length = n) (h : VoP zs) : t ∈ ids zs (2 ^ n - 1) ↔ t < 2 ^ n ∧ ∀ a b, lt zs a b → t.testBit b = true → t.testBit a = true := by
  have h64 : (2 : Nat) ^ n ≤ 64 := Nat.pow_le_pow_right (n := 2) (j := 6) (by decide) (hn ▸ h.1)
  rw [mem_ids]
  unfold IdP
  have hall : ∀ j, (2 ^ n - 1 : Nat).testBit j = decide (j < n) := fun j => by rw [Nat.testBit_two_pow_sub_one]
  constructor
  · rintro ⟨h1, h2, h3⟩
    refine ⟨Nat.lt_pow_two_of_testBit _ fun i hi => ?_, fun a b hl hb => ?_⟩
    · cases e : t.testBit i
      · rfl
      · have := h2 i e
        rw [hall, decide_eq_true_eq] at this
        omega
    · exact h3 a b hb (by rw [hall, ← hn]; exact decide_eq_true hl.1) hl.2
  · rintro ⟨h1, h2⟩
    refine ⟨by omega, fun j hj => ?_, fun a b hb ha hz => ?_⟩
    · rw [hall, decide_eq_true_eq]
      rcases Nat.lt_or_ge j n with e | e
      · exact e
      · rw [Nat.testBit_lt_two_pow (Nat.lt_of_lt_of_le h1 (Nat.pow_le_pow_right (by decide) e))] at hj; cases hj
    · rw [hall, decide_eq_true_eq] at ha
      exact h2 a b ⟨by rw [hn]; exact ha, hz⟩ hb
theorem nodup_pairs (f : Nat → Nat → Nat) (l2 : List Nat) (h2 : l2.Nodup) : ∀ l1 : List Nat, l1.Nodup → (∀ x ∈ l1, ∀ x' ∈ l1, ∀ y ∈ l2, ∀ y' ∈ l2, f x y = f x' y' → x = x' ∧ y = y') → (l1.flatMap fun x => l2.map (f x)).Nodup
  | [], _, _ => by simp
  | x :: l, h, hf => by
    rw [List.nodup_cons] at h
    rw [List.flatMap_cons]
    unfold List.Nodup
    rw [List.pairwise_append]
    refine ⟨List.pairwise_map.2 (List.Pairwise.imp_of_mem (fun ha hb hne e => hne (hf x (by simp) x (by simp) _ ha _ hb e).2) h2), nodup_pairs f l2 h2 l h.2 (fun a ha b hb => hf a (by simp [ha]) b (by simp [hb])), fun a ha b hb e => ?_⟩
    obtain ⟨y, hy, rfl⟩ := List.mem_map.1 ha
    obtain ⟨x', hx', hb'⟩ := List.mem_flatMap.1 hb
    obtain ⟨y', hy', rfl⟩ := List.mem_map.1 hb'
    have := (hf x (by simp) x' (by simp [hx']) y hy y' hy' e).1
    subst this
    exact h.1 hx'
theorem len_pairs (f : Nat → Nat → Nat) (l2 : List Nat) : ∀ l1 : List Nat, (l1.flatMap fun x => l2.map (f x)).length = l1.length * l2.length
  | [] => by simp
  | x :: l => by rw [List.flatMap_cons, List.length_append, List.length_map, len_pairs f l2 l, List.length_cons, Nat.add_mul, Nat.one_mul, Nat.add_comm]
theorem len_but {k : Nat} : ∀ l : List Nat, l.Nodup → k ∈ l → (l.filter (· != k)).length + 1 = l.length
  | [], _, h => by simp at h
  | x :: l, hn, h => by
    rw [List.nodup_cons] at hn
    rw [List.filter_cons]
    by_cases e : x = k
    · subst e
      have : l.filter (· != x) = l := List.filter_eq_self.2 fun y hy => by simpa using (fun e => hn.1 (e ▸ hy) : ¬ y = x)
      simp [this]
    · have hk : k ∈ l := by
        rcases List.mem_cons.1 h with e' | e'
        · exact absurd e'.symm e
        · exact e'
      have ih := len_but l hn.2 hk
      rw [if_pos (by simpa using e), List.length_cons, List.length_cons]
      omega
section
variable {zs ys : List Int} {n m : Nat} {over : Bool}
theorem both_ids (hn : zs.length = n) (hm : ys.length = m) (hv : VoP zs) (hv' : VoP ys) (h6 : n + m ≤ 6) {s : Nat} :
    s ∈ ids (bothL zs ys over) (2 ^ (n + m) - 1) ↔ s < 2 ^ (n + m) ∧ s % 2 ^ n ∈ ids zs (2 ^ n - 1) ∧ s / 2 ^ n ∈ ids ys (2 ^ m - 1) ∧ (over = true → s % 2 ^ n = 2 ^ n - 1 ∨ s / 2 ^ n = 0) := by
  have hl : (bothL zs ys over).length = n + m := by rw [bothL_len, hn, hm]
  have hp : 0 < (2 : Nat) ^ n := Nat.pow_pos (by decide)
  rw [mem_idsA hl (both_vo hn hm hv hv' h6), mem_idsA hn hv, mem_idsA hm hv']
  constructor
  · rintro ⟨hs, h⟩
    have hhi : s / 2 ^ n < 2 ^ m := by rw [Nat.div_lt_iff_lt_mul hp, ← Nat.pow_add, Nat.add_comm]; exact hs
    refine ⟨hs, ⟨Nat.mod_lt _ hp, fun a b hab hb => ?_⟩, ⟨hhi, fun a b hab hb => ?_⟩, fun ho => ?_⟩
    · rw [lo_bit, Bool.and_eq_true, decide_eq_true_eq] at hb ⊢
      have ha := hab.1
      rw [hn] at ha
      exact ⟨ha, h a b ((both_lt hn hm hv hv' h6).2 (.inl ⟨ha, hb.1, hab⟩)) hb.2⟩
    · rw [hi_bit] at hb ⊢
      exact h (n + a) (n + b) ((both_lt hn hm hv hv' h6).2 (.inr (.inl ⟨by omega, by omega, by rw [Nat.add_sub_cancel_left, Nat.add_sub_cancel_left]; exact hab⟩))) hb
    · rcases Nat.eq_zero_or_pos (s / 2 ^ n) with e' | e'
      · exact .inr e'
      · left
        obtain ⟨b, hb⟩ := Nat.exists_testBit_of_ne_zero (Nat.pos_iff_ne_zero.1 e')
        have hbm : b < m := by
          rcases Nat.lt_or_ge b m with h1 | h1
          · exact h1
          · rw [Nat.testBit_lt_two_pow (Nat.lt_of_lt_of_le hhi (Nat.pow_le_pow_right (by decide) h1))] at hb; cases hb
        rw [hi_bit] at hb
        refine Nat.eq_of_testBit_eq fun j => ?_
        rw [lo_bit, Nat.testBit_two_pow_sub_one]
        by_cases hj : j < n
        · rw [decide_eq_true hj, h j (n + b) ((both_lt hn hm hv hv' h6).2 (.inr (.inr ⟨ho, hj, by omega, by omega⟩))) hb]; rfl
        · rw [decide_eq_false hj]; rfl
  · rintro ⟨hs, ⟨_, h1⟩, ⟨hhi, h2⟩, h3⟩
    refine ⟨hs, fun a b hab hb => ?_⟩
    rcases (both_lt hn hm hv hv' h6).1 hab with ⟨a1, a2, a3⟩ | ⟨a1, a2, a3⟩ | ⟨a1, a2, a3, a4⟩
    · have := h1 a b a3 (by rw [lo_bit, hb, decide_eq_true a2]; rfl)
      rw [lo_bit, Bool.and_eq_true] at this
      exact this.2
    · have := h2 (a - n) (b - n) a3 (by rw [hi_bit, show n + (b - n) = b by omega]; exact hb)
      rw [hi_bit, show n + (a - n) = a by omega] at this
      exact this
    · rcases h3 a1 with e | e
      · have := lo_bit n s a
        rw [e, Nat.testBit_two_pow_sub_one, decide_eq_true a2, Bool.true_and] at this
        exact this.symm
      · have := hi_bit n s (b - n)
        rw [e, show n + (b - n) = b by omega, hb] at this; simp at this
theorem ciN_all {zs : List Int} (h : VoP zs) {n : Nat} (hn : zs.length = n) : ciN zs (2 ^ n - 1) = (ids zs (2 ^ n - 1)).length := by
  have h64 : (2 : Nat) ^ n ≤ 64 := Nat.pow_le_pow_right (n := 2) (j := 6) (by decide) (hn ▸ h.1)
  have hp : 0 < (2 : Nat) ^ n := Nat.pow_pos (by decide)
  exact ciN_ids h _ _ (Nat.le_refl _) (by omega)
theorem zero_ids {zs : List Int} (h : VoP zs) {n : Nat} (hn : zs.length = n) : 0 ∈ ids zs (2 ^ n - 1) := (mem_idsA hn h).2 ⟨Nat.pow_pos (by decide), fun a b _ hb => by simp at hb⟩
theorem all_ids {zs : List Int} (h : VoP zs) {n : Nat} (hn : zs.length = n) : 2 ^ n - 1 ∈ ids zs (2 ^ n - 1) := by
  have hp : 0 < (2 : Nat) ^ n := Nat.pow_pos (by decide)
  exact (mem_idsA hn h).2 ⟨by omega, fun a b hl _ => by rw [Nat.testBit_two_pow_sub_one, ← hn]; exact decide_eq_true hl.1⟩
theorem bes_ci (hn : zs.length = n) (hm : ys.length = m) (hv : VoP zs) (hv' : VoP ys) (h6 : n + m ≤ 6) : ciN (bothL zs ys false) (2 ^ (n + m) - 1) = ciN zs (2 ^ n - 1) * ciN ys (2 ^ m - 1) := by
  have hl : (bothL zs ys false).length = n + m := by rw [bothL_len, hn, hm]
  rw [ciN_all (both_vo hn hm hv hv' h6) hl, ciN_all hv hn, ciN_all hv' hm, ← len_pairs (fun x y => x + 2 ^ n * y)]
  have hp : 0 < (2 : Nat) ^ n := Nat.pow_pos (by decide)
  refine Nat.le_antisymm (inj_len (fun x => x) _ _ (ids_nodup _ _) (fun s hs => ?_) (fun _ _ _ _ e => e)) ?_
  · obtain ⟨_, h1, h2, _⟩ := (both_ids hn hm hv hv' h6).1 hs
    exact List.mem_flatMap.2 ⟨_, h1, List.mem_map.2 ⟨_, h2, by rw [Nat.mod_add_div]⟩⟩
  · refine inj_len (fun x => x) _ _ (nodup_pairs _ _ (ids_nodup _ _) _ (ids_nodup _ _) (fun x hx x' hx' y _ y' _ e => ?_)) (fun s hs => ?_) (fun _ _ _ _ e => e)
    · have h1 := ((mem_idsA hn hv).1 hx).1
      have h2 := ((mem_idsA hn hv).1 hx').1
      have e1 := put_lo (s2 := y) h1
      have e2 := put_hi (s2 := y) h1
      have e : x + 2 ^ n * y = x' + 2 ^ n * y' := e
      rw [e, put_lo h2] at e1
      rw [e, put_hi h2] at e2
      exact ⟨e1.symm, e2.symm⟩
    · obtain ⟨x, hx, hs⟩ := List.mem_flatMap.1 hs
      obtain ⟨y, hy, rfl⟩ := List.mem_map.1 hs
      have h1 := ((mem_idsA hn hv).1 hx).1
      have h2 := ((mem_idsA hm hv').1 hy).1
      exact (both_ids hn hm hv hv' h6).2 ⟨put_lt h1 h2, by rw [put_lo h1]; exact hx, by rw [put_hi h1]; exact hy, fun e => by cases e⟩
theorem stk_ci (hn : zs.length = n) (hm : ys.length = m) (hv : VoP zs) (hv' : VoP ys) (h6 : n + m ≤ 6) : ciN (bothL zs ys true) (2 ^ (n + m) - 1) + 1 = ciN zs (2 ^ n - 1) + ciN ys (2 ^ m - 1) := by
  have hl : (bothL zs ys true).length = n + m := by rw [bothL_len, hn, hm]
  have hp : 0 < (2 : Nat) ^ n := Nat.pow_pos (by decide)
  have hb := len_but (k := 0) (ids ys (2 ^ m - 1)) (ids_nodup _ _) (zero_ids hv' hm)
  rw [ciN_all (both_vo hn hm hv hv' h6) hl, ciN_all hv hn, ciN_all hv' hm, ← hb, ← Nat.add_assoc]
  have key : (ids (bothL zs ys true) (2 ^ (n + m) - 1)).length = (ids zs (2 ^ n - 1) ++ ((ids ys (2 ^ m - 1)).filter (· != 0)).map fun y => (2 ^ n - 1) + 2 ^ n * y).length := by
    have hlt : 2 ^ n - 1 < 2 ^ n := by omega
    refine Nat.le_antisymm (inj_len (fun x => x) _ _ (ids_nodup _ _) (fun s hs => ?_) (fun _ _ _ _ e => e)) (inj_len (fun x => x) _ _ ?_ (fun s hs => ?_) (fun _ _ _ _ e => e))
    · obtain ⟨_, h1, h2, h3⟩ := (both_ids hn hm hv hv' h6).1 hs
      rw [List.mem_append]
      have e := Nat.mod_add_div s (2 ^ n)
      by_cases h0 : s / 2 ^ n = 0
      · rw [h0, Nat.mul_zero, Nat.add_zero] at e
        left; rw [← e]; exact h1
      · right
        rcases h3 rfl with h | h
        · exact List.mem_map.2 ⟨s / 2 ^ n, List.mem_filter.2 ⟨h2, by simpa using h0⟩, by rw [← h]; exact e⟩
        · exact absurd h h0
    · unfold List.Nodup
      rw [List.pairwise_append]
      refine ⟨ids_nodup _ _, List.pairwise_map.2 (((ids_nodup ys (2 ^ m - 1)).filter _).imp fun {u v} hne e => hne (Nat.eq_of_mul_eq_mul_left hp (Nat.add_left_cancel (show (2 ^ n - 1) + 2 ^ n * u = (2 ^ n - 1) + 2 ^ n * v from e)))), fun a ha c hc e => ?_⟩
      · obtain ⟨y, hy, rfl⟩ := List.mem_map.1 hc
        have h1 := ((mem_idsA hn hv).1 ha).1
        have hy0 := (List.mem_filter.1 hy).2
        have hy1 : 1 ≤ y := by
          rcases Nat.eq_zero_or_pos y with h | h
          · rw [h] at hy0; simp at hy0
          · exact h
        have := Nat.mul_le_mul_left (2 ^ n) hy1
        omega
    · rcases List.mem_append.1 hs with h | h
      · have h1 := ((mem_idsA hn hv).1 h).1
        have e1 : s % 2 ^ n = s := Nat.mod_eq_of_lt h1
        have e2 : s / 2 ^ n = 0 := Nat.div_eq_of_lt h1
        exact (both_ids hn hm hv hv' h6).2 ⟨Nat.lt_of_lt_of_le h1 (Nat.pow_le_pow_right (by decide) (by omega)), by rw [e1]; exact h, by rw [e2]; exact zero_ids hv' hm, fun _ => .inr e2⟩
      · obtain ⟨y, hy, rfl⟩ := List.mem_map.1 h
        have hy' := (List.mem_filter.1 hy).1
        have h2 := ((mem_idsA hm hv').1 hy').1
        exact (both_ids hn hm hv hv' h6).2 ⟨put_lt hlt h2, by rw [put_lo hlt]; exact all_ids hv hn, by rw [put_hi hlt]; exact hy', fun _ => .inl (put_lo hlt)⟩
  rw [key, List.length_append, List.length_map]
end
end Go.Proofs.YtghogabmkbadjaaDoor

/- One item ahead of another one: the lines of the order with the one above the other, and the sets at which an item comes next. No program. -/
namespace Go.Proofs.YtghogabmkbadjaaDoor

/-! The sets at which an item comes next. -/
theorem filter_with {n a x : Nat} (hn : n ≤ 6) (hxn : x < n) (hax : a ≠ x) : ((List.range (2 ^ n)).filter fun s : Nat => s.testBit x && !s.testBit a) = ((List.range (2 ^ n)).filter fun s : Nat => !s.testBit x && !s.testBit a).map fun s => s + 2 ^ x := by
  have h64 := pow_le64 hn
  have h1 := with_item ⟨n, by omega⟩ ⟨x, by omega⟩ hxn
  simp only at h1
  have e1 : ((List.range (2 ^ n)).filter fun s : Nat => s.testBit x && !s.testBit a) = ((List.range (2 ^ n)).filter fun s : Nat => s.testBit x).filter fun s : Nat => !s.testBit a := by
    rw [List.filter_filter]; congr 1; funext s; exact Bool.and_comm _ _
  have e2 : ((List.range (2 ^ n)).filter fun s : Nat => !s.testBit x && !s.testBit a) = ((List.range (2 ^ n)).filter fun s : Nat => !s.testBit x).filter fun s : Nat => !s.testBit a := by
    rw [List.filter_filter]; congr 1; funext s; exact Bool.and_comm _ _
  rw [e1, e2, h1, List.filter_map]
  congr 1
  refine List.filter_congr fun s hs => ?_
  rw [List.mem_filter, List.mem_range] at hs
  have hb : s.testBit x = false := by simpa using hs.2
  have hlt := add_lt_fin ⟨n, by omega⟩ ⟨s, by omega⟩ ⟨x, by omega⟩ hs.1 hxn hb
  simp only at hlt
  simp only [Function.comp]
  rcases Nat.lt_or_ge a 6 with ha | ha
  · have := add_bit_fin ⟨s, by omega⟩ ⟨x, by omega⟩ ⟨a, ha⟩ hb
    simp only at this
    rw [this, decide_eq_false (show ¬ x = a from fun e => hax e.symm), Bool.or_false]
  · have h6 : ∀ t : Nat, t < 64 → t.testBit a = false := fun t ht => Nat.testBit_lt_two_pow (Nat.lt_of_lt_of_le (show t < 2 ^ 6 by omega) (Nat.pow_le_pow_right (by decide) ha))
    rw [h6 _ (by omega), h6 _ (by omega)]
/-- Going on by x, out of the sets without a. -/
def goE (zs : List Int) (a x : Nat) : Nat := ((List.range (2 ^ zs.length)).map fun s => if nextE zs s x && !s.testBit a then cG zs s * cF zs (2 ^ zs.length - 1 - (s + 2 ^ x)) else 0).sum
theorem goE_back {zs : List Int} (h : VoP zs) {a x : Nat} (hx : x < zs.length) (hax : a ≠ x) :
    goE zs a x = ((List.range (2 ^ zs.length)).map fun s => if eG zs s x && !s.testBit a then cG zs (s - 2 ^ x) * cF zs (2 ^ zs.length - 1 - s) else 0).sum := by
  have hn6 := h.1
  unfold goE
  have e1 : ((List.range (2 ^ zs.length)).map fun s => if nextE zs s x && !s.testBit a then cG zs s * cF zs (2 ^ zs.length - 1 - (s + 2 ^ x)) else 0).sum =
      (((List.range (2 ^ zs.length)).filter fun s : Nat => !s.testBit x && !s.testBit a).map fun s => if nextE zs s x then cG zs s * cF zs (2 ^ zs.length - 1 - (s + 2 ^ x)) else 0).sum := by
    rw [← sum_if]
    refine sum_congr fun s _ => ?_
    cases hb : s.testBit x
    · cases s.testBit a <;> cases nextE zs s x <;> rfl
    · have : nextE zs s x = false := by unfold nextE; rw [hb]; rfl
      rw [this]; rfl
  have e2 : ((List.range (2 ^ zs.length)).map fun s => if eG zs s x && !s.testBit a then cG zs (s - 2 ^ x) * cF zs (2 ^ zs.length - 1 - s) else 0).sum =
      (((List.range (2 ^ zs.length)).filter fun s : Nat => s.testBit x && !s.testBit a).map fun s => if eG zs s x then cG zs (s - 2 ^ x) * cF zs (2 ^ zs.length - 1 - s) else 0).sum := by
    rw [← sum_if]
    refine sum_congr fun s _ => ?_
    cases hb : s.testBit x
    · have : eG zs s x = false := by unfold eG; rw [hb]; rfl
      rw [this]; rfl
    · cases s.testBit a <;> cases eG zs s x <;> rfl
  rw [e1, e2, filter_with hn6 hx hax, List.map_map]
  refine sum_congr fun s hs => ?_
  rw [List.mem_filter, Bool.and_eq_true] at hs
  have hN := List.mem_range.1 hs.1
  have hb : s.testBit x = false := by simpa using hs.2.1
  simp only [Function.comp, Nat.add_sub_cancel]
  exact edge_same h hN hx hb _
theorem sum_but {f : Nat → Nat} {a N : Nat} (ha : a < N) : ((List.range N).map f).sum = ((List.range N).map fun x => if x = a then 0 else f x).sum + f a := sum_pick f a N ha
/-- Each line comes by a once: the lines, by the sets that are ahead of a. -/
theorem by_item {zs : List Int} (h : VoP zs) {a : Nat} (ha : a < zs.length) :
    ((List.range (2 ^ zs.length)).map fun s => if nextE zs s a then cG zs s * cF zs (2 ^ zs.length - 1 - (s + 2 ^ a)) else 0).sum = cF zs (2 ^ zs.length - 1) := by
  have hpos := Nat.two_pow_pos zs.length
  -- A, both ways
  have A1 : ((List.range (2 ^ zs.length)).map fun s => if s.testBit a then 0 else cG zs s * cF zs (2 ^ zs.length - 1 - s)).sum = ((List.range zs.length).map fun x => goE zs a x).sum := by
    unfold goE
    rw [sum_swap (fun x s => if nextE zs s x && !s.testBit a then cG zs s * cF zs (2 ^ zs.length - 1 - (s + 2 ^ x)) else 0)]
    refine sum_congr fun s hs => ?_
    have hN := List.mem_range.1 hs
    cases hb : s.testBit a
    · have hne : s ≠ 2 ^ zs.length - 1 := fun e => by
        rw [e, Nat.testBit_two_pow_sub_one, decide_eq_true ha] at hb; cases hb
      rw [cF_next h hN hne]
      simp only [Bool.not_false, Bool.and_true]
      rw [if_neg (by decide), ← sum_mul]
      refine sum_congr fun x _ => ?_
      cases nextE zs s x <;> simp
    · simp only [Bool.not_true, Bool.and_false, if_true, Bool.false_eq_true, if_false]
      exact (sum_map_zero (List.range zs.length)).symm
  have A2 : ((List.range (2 ^ zs.length)).map fun s => if s.testBit a then 0 else cG zs s * cF zs (2 ^ zs.length - 1 - s)).sum = ((List.range zs.length).map fun x => if x = a then 0 else goE zs a x).sum + cF zs (2 ^ zs.length - 1) := by
    rw [sum_pick _ 0 (2 ^ zs.length) hpos, Nat.zero_testBit, if_neg (by decide), cG_zero, Nat.one_mul, Nat.sub_zero]
    congr 1
    have e : ((List.range zs.length).map fun x => if x = a then 0 else goE zs a x).sum = ((List.range zs.length).map fun x => ((List.range (2 ^ zs.length)).map fun s => if eG zs s x && !s.testBit a then cG zs (s - 2 ^ x) * cF zs (2 ^ zs.length - 1 - s) else 0).sum).sum := by
      refine sum_congr fun x hx => ?_
      have hxn := List.mem_range.1 hx
      by_cases hxa : x = a
      · rw [if_pos hxa]
        subst hxa
        refine ((sum_congr (g := fun _ => 0) fun s _ => ?_).trans (sum_map_zero _)).symm
        unfold eG
        cases s.testBit x <;> simp
      · rw [if_neg hxa, goE_back h hxn (fun e => hxa e.symm)]
    rw [e, sum_swap (fun x s => if eG zs s x && !s.testBit a then cG zs (s - 2 ^ x) * cF zs (2 ^ zs.length - 1 - s) else 0)]
    refine sum_congr fun s hs => ?_
    by_cases h0 : s = 0
    · rw [if_pos h0]
      refine ((sum_congr (g := fun _ => 0) fun x _ => ?_).trans (sum_map_zero _)).symm
      have : eG zs s x = false := by unfold eG; rw [h0]; simp
      rw [this]; rfl
    · rw [if_neg h0]
      cases hb : s.testBit a
      · rw [if_neg (by decide), cG_pos h0, Nat.mul_comm, ← sum_mul]
        refine sum_congr fun x _ => ?_
        cases eG zs s x <;> simp [Nat.mul_comm]
      · rw [if_pos rfl]
        refine ((sum_congr (g := fun _ => 0) fun x _ => ?_).trans (sum_map_zero _)).symm
        simp
  rw [A1, sum_but ha] at A2
  have e : goE zs a a = ((List.range (2 ^ zs.length)).map fun s => if nextE zs s a then cG zs s * cF zs (2 ^ zs.length - 1 - (s + 2 ^ a)) else 0).sum := by
    unfold goE
    refine sum_congr fun s _ => ?_
    unfold nextE
    cases s.testBit a <;> simp
  rw [← e]
  omega
end Go.Proofs.YtghogabmkbadjaaDoor

/- The order with one item put above another one: its lines are those with the one ahead of the other. No program. -/
namespace Go.Proofs.YtghogabmkbadjaaDoor

theorem vo_mk {d : List Int} (hn : d.length ≤ 6) (hb : ∀ a, a < d.length → 0 ≤ d[a]?.getD 0 ∧ d[a]?.getD 0 < powI d.length) (hi : ∀ a, ¬ qB d a a) (ht : ∀ a b c, qB d a b → qB d b c → qB d a c) : VoP d := by
  refine ⟨hn, fun a ha => ?_, fun a ha b hbn => ?_⟩
  · have h1 := hb a ha
    have h2 : bitB (d[a]?.getD 0) a = false := by
      cases e : bitB (d[a]?.getD 0) a
      · rfl
      · exact absurd e (hi a)
    unfold okA inB
    rw [h2]
    simp only [Bool.not_false, Bool.and_true, decide_eq_true_eq]
    omega
  · unfold okP
    cases e : bitB (d[a]?.getD 0) b
    · rfl
    · have h1 : lessI (d[b]?.getD 0) (d[a]?.getD 0) = 0 := by
        refine bitB_ext (lessI_bd _ _).1 (Int.le_refl _) fun j => ?_
        rw [bitB_less, bitB_zero]
        cases e1 : bitB (d[b]?.getD 0) j
        · rfl
        · have := ht a b j e e1
          unfold qB at this
          rw [this]; rfl
      have h2 : bitB (d[b]?.getD 0) a = false := by
        cases e2 : bitB (d[b]?.getD 0) a
        · rfl
        · exact absurd (ht a b a e e2) (hi a)
      rw [h1, h2]; rfl

/-- b put above a. -/
def putB (zs : List Int) (a b : Nat) : List Int := zs.set a (orI (zs[a]?.getD 0) (powI (b : Int)))
def putA (zs : List Int) (a b : Nat) : List Int := folTo zs.length (putB zs a b) zs.length
def PA (zs : List Int) (a b x y : Nat) : Prop := qB zs x y ∨ ((x = a ∨ qB zs x a) ∧ (y = b ∨ qB zs b y))
section
variable {zs : List Int} {a b : Nat}
theorem q_trans (h : VoP zs) {x y z : Nat} (h1 : qB zs x y) (h2 : qB zs y z) : qB zs x z :=
  (h.trans (a := x) (b := y) (c := z) ⟨qB_lt rfl h1, h1⟩ ⟨qB_lt rfl h2, h2⟩).2
theorem q_irr (h : VoP zs) {x : Nat} : ¬ qB zs x x := fun e => by
  have := h.irrB (qB_lt rfl e)
  unfold qB at e
  rw [e] at this; cases this
theorem putB_fit (h : VoP zs) (hb : b < zs.length) : Fit zs.length (putB zs a b) := by
  refine ⟨by unfold putB; simp, fun j => ?_⟩
  have hz : ∀ j : Nat, 0 ≤ zs[j]?.getD 0 ∧ zs[j]?.getD 0 < powI zs.length := fun j => by
    rcases Nat.lt_or_ge j zs.length with e | e
    · exact h.sets.2 j e
    · rw [List.getElem?_eq_none e]; exact ⟨Int.le_refl _, powI_pos _⟩
  unfold putB
  by_cases e : a = j
  · subst e
    rcases Nat.lt_or_ge a zs.length with e2 | e2
    · rw [List.getElem?_set_self e2]
      exact orI_bd (hz a).1 (hz a).2 (Int.le_of_lt (powI_pos _)) (powI_lt hb)
    · rw [List.set_eq_of_length_le e2]; exact hz a
  · rw [List.getElem?_set_ne e]; exact hz j
theorem putB_q (ha : a < zs.length) (x y : Nat) : qB (putB zs a b) x y ↔ qB zs x y ∨ (x = a ∧ y = b) := by
  unfold qB putB
  by_cases e : a = x
  · subst e
    rw [List.getElem?_set_self ha]
    simp only [Option.getD_some]
    rw [bitB_or, bitB_pow, Bool.or_eq_true, decide_eq_true_eq]
    constructor
    · rintro (h | h)
      · exact .inl h
      · exact .inr ⟨by first | trivial | rfl, h.symm⟩
    · rintro (h | ⟨_, h⟩)
      · exact .inl h
      · exact .inr h.symm
  · rw [List.getElem?_set_ne e]
    constructor
    · exact .inl
    · rintro (h | ⟨h, _⟩)
      · exact h
      · exact absurd h.symm e
theorem putA_q (h : VoP zs) (ha : a < zs.length) (hb : b < zs.length) (x y : Nat) : qB (putA zs a b) x y ↔ PA zs a b x y := by
  have hd : (putB zs a b).length = zs.length := by unfold putB; simp
  constructor
  · intro hq
    refine folTo_le hd (P := PA zs a b) ?_ ?_ _ x y hq
    · rintro x y z (h1 | ⟨h1, h1'⟩) (h2 | ⟨h2, h2'⟩)
      · exact .inl (q_trans h h1 h2)
      · refine .inr ⟨.inr ?_, h2'⟩
        rcases h2 with e | e
        · subst e; exact h1
        · exact q_trans h h1 e
      · refine .inr ⟨h1, .inr ?_⟩
        rcases h1' with e | e
        · subst e; exact h2
        · exact q_trans h e h2
      · exact .inr ⟨h1, h2'⟩
    · intro x y hxy
      rcases (putB_q ha x y).1 hxy with e | ⟨e1, e2⟩
      · exact .inl e
      · exact .inr ⟨.inl e1, .inl e2⟩
  · have base : ∀ x y, qB zs x y → qB (putA zs a b) x y := fun x y e => folTo_base hd ((putB_q ha x y).2 (.inl e)) _
    have hab : qB (putA zs a b) a b := folTo_base hd ((putB_q ha a b).2 (.inr ⟨rfl, rfl⟩)) _
    rintro (e | ⟨e1, e2⟩)
    · exact base x y e
    · have h1 : qB (putA zs a b) x b := by
        rcases e1 with e | e
        · subst e; exact hab
        · exact folTo_trans hd _ a ha x b (base x a e) hab
      rcases e2 with e | e
      · subst e; exact h1
      · exact folTo_trans hd _ b hb x y h1 (base b y e)
theorem putA_len : (putA zs a b).length = zs.length := by unfold putA; rw [folTo_len]; unfold putB; simp
theorem putA_vo (h : VoP zs) (ha : a < zs.length) (hb : b < zs.length) (hab : a ≠ b) (hnb : ¬ qB zs b a) : VoP (putA zs a b) := by
  have hn6 := h.1
  have hfit := folTo_fit (putB_fit (a := a) h hb) zs.length
  refine vo_mk (by rw [putA_len]; exact hn6) (fun j hj => ?_) (fun x e => ?_) (fun x y z h1 h2 => ?_)
  · rw [putA_len]; exact hfit.2 j
  · rcases (putA_q h ha hb x x).1 e with e | ⟨e1, e2⟩
    · exact q_irr h e
    · rcases e1 with e1 | e1 <;> rcases e2 with e2 | e2
      · exact hab (e1.symm.trans e2)
      · subst e1; exact hnb e2
      · subst e2; exact hnb e1
      · exact hnb (q_trans h e2 e1)
  · have hd : (putB zs a b).length = zs.length := by unfold putB; simp
    exact folTo_trans hd _ y (by have := qB_lt putA_len h2; exact this) x z h1 h2
end

/-! The lines of it. -/
section
variable {zs : List Int} {a b : Nat}
theorem eF_q {ys : List Int} (h : VoP ys) {s x : Nat} : eF ys s x = true ↔ s.testBit x = true ∧ ∀ y, s.testBit y = true → ¬ qB ys y x := by
  rw [eF_iff h]
  unfold qB
  simp only [Bool.not_eq_true]
/-- Where all that is at or below a is done, nothing has changed. -/
theorem cF_put (h : VoP zs) (ha : a < zs.length) (hb : b < zs.length) (hv : VoP (putA zs a b)) : ∀ (k s : Nat), s ≤ k → s < 2 ^ zs.length → (∀ y, s.testBit y = true → y ≠ a ∧ ¬ qB zs y a) → cF (putA zs a b) s = cF zs s
  | 0, s, hk, _, _ => by
    obtain rfl : s = 0 := by omega
    rw [cF_zero, cF_zero]
  | k + 1, s, hk, hs, hL => by
    by_cases h0 : s = 0
    · subst h0; rw [cF_zero, cF_zero]
    · have hn6 := h.1
      have hp64 := pow_le64 hn6
      rw [cF_pos h0, cF_pos h0, putA_len]
      refine sum_congr fun x hx => ?_
      have e : eF (putA zs a b) s x = eF zs s x := by
        rw [Bool.eq_iff_iff, eF_q hv, eF_q h]
        refine and_congr_right fun _ => forall_congr' fun y => ?_
        constructor
        · exact fun e hy hq => e hy ((putA_q h ha hb y x).2 (.inl hq))
        · intro e hy hq
          rcases (putA_q h ha hb y x).1 hq with e2 | ⟨e2, _⟩
          · exact e hy e2
          · rcases e2 with e2 | e2
            · exact (hL y hy).1 e2
            · exact (hL y hy).2 e2
      rw [e]
      cases he : eF zs s x
      · rfl
      · obtain ⟨hx1, _⟩ := (eF_q h).1 he
        have hx6 := bit_lt hs hx1
        have hlt := sub_lt (a := x) h0
        rw [if_pos rfl, if_pos rfl, cF_put h ha hb hv k (s - 2 ^ x) (by omega) (by omega) fun y hy => hL y ?_]
        have hpx := Nat.two_pow_pos x
        rcases Nat.lt_or_ge y 6 with hy6 | hy6
        · rw [sub_bit_fin ⟨s, by omega⟩ ⟨x, by omega⟩ ⟨y, hy6⟩ hx1, Bool.and_eq_true] at hy
          exact hy.1
        · rw [Nat.testBit_lt_two_pow (Nat.lt_of_lt_of_le (show s - 2 ^ x < 2 ^ 6 by omega) (Nat.pow_le_pow_right (by decide) hy6))] at hy; cases hy
theorem ideal_put (h : VoP zs) (ha : a < zs.length) (hb : b < zs.length) (hv : VoP (putA zs a b)) {s : Nat} (hI : Ideal (putA zs a b) s) : Ideal zs s := fun x y hy hq => hI x y hy (by
  rw [du_bit h.sets] at hq
  rw [du_bit hv.sets]
  exact (putA_q h ha hb x y).2 (.inl hq))
/-- Where a and b are still to come, nothing has changed. -/
theorem cG_put (h : VoP zs) (ha : a < zs.length) (hb : b < zs.length) (hv : VoP (putA zs a b)) : ∀ (k s : Nat), s ≤ k → s < 2 ^ zs.length → s.testBit b = false → cG (putA zs a b) s = cG zs s
  | 0, s, hk, _, _ => by
    obtain rfl : s = 0 := by omega
    rw [cG_zero, cG_zero]
  | k + 1, s, hk, hs, hsb => by
    by_cases h0 : s = 0
    · subst h0; rw [cG_zero, cG_zero]
    · have hn6 := h.1
      have hp64 := pow_le64 hn6
      by_cases hI : Ideal zs s
      · rw [cG_pos h0, cG_pos h0, putA_len]
        have hnb : ∀ y, s.testBit y = true → y ≠ b ∧ ¬ qB zs b y := fun y hy => by
          refine ⟨fun e => (by subst e; rw [hsb] at hy; cases hy), fun e => ?_⟩
          have := hI b y hy (by rw [du_bit h.sets]; exact e)
          rw [hsb] at this; cases this
        refine sum_congr fun x hx => ?_
        have e : eG (putA zs a b) s x = eG zs s x := by
          unfold eG
          cases hsx : s.testBit x
          · rfl
          · have e1 : (lessI ((du zs)[x]?.getD 0) (s : Int) == 0) = true := by
              rw [beq_iff_eq, less_zero]; exact fun j hj => hI j x hsx hj
            have e2 : (lessI ((du (putA zs a b))[x]?.getD 0) (s : Int) == 0) = true := by
              rw [beq_iff_eq, less_zero]
              intro j hj
              rw [du_bit hv.sets] at hj
              rcases (putA_q h ha hb j x).1 hj with e3 | ⟨_, e3⟩
              · exact hI j x hsx (by rw [du_bit h.sets]; exact e3)
              · rcases e3 with e3 | e3
                · exact absurd e3 (hnb x hsx).1
                · exact absurd e3 (hnb x hsx).2
            have e4 : belowAny (putA zs a b) s x = belowAny zs s x := by
              have hs2 : s < 2 ^ (putA zs a b).length := by rw [putA_len]; exact hs
              have key : belowAny (putA zs a b) s x = false ↔ belowAny zs s x = false := by
                rw [below_any hv hs2, below_any h hs, andI_zero, andI_zero]
                refine forall_congr' fun y => ?_
                rw [bit_cast]
                refine imp_congr_right fun hy => ?_
                constructor
                · intro e5
                  cases e6 : bitB (zs[x]?.getD 0) y
                  · rfl
                  · have : qB (putA zs a b) x y := (putA_q h ha hb x y).2 (.inl e6)
                    unfold qB at this
                    rw [this] at e5; cases e5
                · intro e5
                  cases e6 : bitB ((putA zs a b)[x]?.getD 0) y
                  · rfl
                  · rcases (putA_q h ha hb x y).1 e6 with e7 | ⟨_, e7⟩
                    · unfold qB at e7; rw [e7] at e5; cases e5
                    · rcases e7 with e7 | e7
                      · exact absurd e7 (hnb y hy).1
                      · exact absurd e7 (hnb y hy).2
              cases e8 : belowAny (putA zs a b) s x <;> cases e9 : belowAny zs s x <;> simp_all
            rw [e1, e2, e4]
        rw [e]
        cases he : eG zs s x
        · rfl
        · have hx1 : s.testBit x = true := by unfold eG at he; rw [Bool.and_eq_true] at he; exact he.1
          have hx6 := bit_lt hs hx1
          have hlt := sub_lt (a := x) h0
          have hpx := Nat.two_pow_pos x
          have hbb : (s - 2 ^ x).testBit b = false := by
            rw [sub_bit_fin ⟨s, by omega⟩ ⟨x, by omega⟩ ⟨b, by omega⟩ hx1]
            simp only [hsb, Bool.false_and]
          rw [if_pos rfl, if_pos rfl, cG_put h ha hb hv k (s - 2 ^ x) (by omega) (by omega) hbb]
      · have z1 : cG zs s = 0 := by
          rcases Nat.eq_zero_or_pos (cG zs s) with e | e
          · exact e
          · exact absurd (cG_ideal h s s (Nat.le_refl _) hs (by omega)) hI
        have z2 : cG (putA zs a b) s = 0 := by
          rcases Nat.eq_zero_or_pos (cG (putA zs a b) s) with e | e
          · exact e
          · exact absurd (ideal_put h ha hb hv (cG_ideal hv s s (Nat.le_refl _) (by rw [putA_len]; exact hs) (by omega))) hI
        rw [z1, z2]
/-- As the model asks it: a and b are still to come, and all below a is there. -/
def mB (zs : List Int) (a b s : Nat) : Bool := !s.testBit a && (!s.testBit b && (lessI ((du zs)[a]?.getD 0) (s : Int) == 0))
/-- In how many lines a is ahead of b. -/
def fcN (zs : List Int) (a b : Nat) : Nat := ((List.range (2 ^ zs.length)).map fun s => if mB zs a b s then cG zs s * cF zs (2 ^ zs.length - 1 - (s + 2 ^ a)) else 0).sum
theorem fc_put (h : VoP zs) (ha : a < zs.length) (hb : b < zs.length) (hab : a ≠ b) (hnb : ¬ qB zs b a) : fcN zs a b = cF (putA zs a b) (2 ^ zs.length - 1) := by
  have hn6 := h.1
  have hp64 := pow_le64 hn6
  have hv := putA_vo h ha hb hab hnb
  have hby := by_item hv (a := a) (by rw [putA_len]; exact ha)
  rw [putA_len] at hby
  rw [← hby]
  unfold fcN
  refine sum_congr fun s hs => ?_
  have hN := List.mem_range.1 hs
  have hdu : (du (putA zs a b))[a]?.getD 0 = (du zs)[a]?.getD 0 := by
    have h1 := (du_vo hv).bd a (by rw [du_len, putA_len]; exact ha)
    have h2 := (du_vo h).bd a (by rw [du_len]; exact ha)
    refine bitB_ext h1.1 h2.1 fun j => ?_
    rw [du_bit hv.sets, du_bit h.sets, Bool.eq_iff_iff]
    constructor
    · intro e
      rcases (putA_q h ha hb j a).1 e with e | ⟨_, e⟩
      · exact e
      · rcases e with e | e
        · exact absurd e hab
        · exact absurd e hnb
    · exact fun e => (putA_q h ha hb j a).2 (.inl e)
  have hnx : nextE (putA zs a b) s a = nextE zs s a := by unfold nextE; rw [hdu]
  rw [hnx]
  cases hsa : s.testBit a
  · cases hle : (lessI ((du zs)[a]?.getD 0) (s : Int) == 0)
    · have e1 : mB zs a b s = false := by unfold mB; rw [hle]; simp
      have e2 : nextE zs s a = false := by unfold nextE; rw [hle]; simp
      rw [e1, e2]; rfl
    · have e2 : nextE zs s a = true := by unfold nextE; rw [hsa, hle]; rfl
      rw [e2, if_pos rfl]
      cases hsb : s.testBit b
      · have e1 : mB zs a b s = true := by unfold mB; rw [hsa, hsb, hle]; rfl
        rw [e1, if_pos rfl, cG_put h ha hb hv s s (Nat.le_refl _) hN hsb]
        have hlt := add_lt_fin ⟨zs.length, by omega⟩ ⟨s, by omega⟩ ⟨a, by omega⟩ hN ha hsa
        simp only at hlt
        have hpa := Nat.two_pow_pos a
        rw [cF_put h ha hb hv _ (2 ^ zs.length - 1 - (s + 2 ^ a)) (Nat.le_refl _) (by omega) fun y hy => ?_]
        have hyn := bit_lt (n := zs.length) (by omega) hy
        have hy2 := com_bit_fin ⟨zs.length, by omega⟩ ⟨s + 2 ^ a, by omega⟩ hlt ⟨y, by omega⟩
        have hy3 := add_bit_fin ⟨s, by omega⟩ ⟨a, by omega⟩ ⟨y, by omega⟩ hsa
        simp only at hy2 hy3
        rw [hy2, hy3] at hy
        simp only [Bool.and_eq_true, Bool.not_eq_true', Bool.or_eq_false_iff, decide_eq_false_iff_not] at hy
        refine ⟨fun e => hy.2.2 e.symm, fun e => ?_⟩
        have := less_zero.1 (beq_iff_eq.1 hle) y (by rw [du_bit h.sets]; exact e)
        rw [hy.2.1] at this; cases this
      · have e1 : mB zs a b s = false := by unfold mB; rw [hsb]; simp
        have z : cG (putA zs a b) s = 0 := by
          rcases Nat.eq_zero_or_pos (cG (putA zs a b) s) with e | e
          · exact e
          · have hI := cG_ideal hv s s (Nat.le_refl _) (by rw [putA_len]; exact hN) (by omega)
            have := hI a b hsb (by rw [du_bit hv.sets]; exact (putA_q h ha hb a b).2 (.inr ⟨.inl rfl, .inl rfl⟩))
            rw [hsa] at this; cases this
        rw [e1, z, Nat.zero_mul]; rfl
  · have e1 : mB zs a b s = false := by unfold mB; rw [hsa]; rfl
    have e2 : nextE zs s a = false := by unfold nextE; rw [hsa]; rfl
    rw [e1, e2]; rfl
theorem fc_none (h : VoP zs) (hba : qB zs b a) : fcN zs a b = 0 := by
  unfold fcN
  refine (sum_congr (g := fun _ => 0) fun s _ => ?_).trans (sum_map_zero _)
  have : mB zs a b s = false := by
    cases e : mB zs a b s
    · rfl
    · unfold mB at e
      rw [Bool.and_eq_true, Bool.and_eq_true] at e
      have h1 := less_zero.1 (beq_iff_eq.1 e.2.2) b (by rw [du_bit h.sets]; exact hba)
      rw [h1] at e; simp at e
  rw [this]; rfl
end
end Go.Proofs.YtghogabmkbadjaaDoor

/- Two pairs apart, three items and one apart, zigzags: as both sides tell them. No program. -/
namespace Go.Proofs.YtghogabmkbadjaaDoor
open Go.RowKit

/-- Whether four items pass a test. -/
def any4 (n : Nat) (t : Nat → Nat → Nat → Nat → Bool) : Bool := (List.range n).any fun a => (List.range n).any fun b => (List.range n).any fun c => (List.range n).any fun d => t a b c d
theorem any4_iff {n : Nat} {t : Nat → Nat → Nat → Nat → Bool} : any4 n t = true ↔ ∃ a b c d, a < n ∧ b < n ∧ c < n ∧ d < n ∧ t a b c d = true := by
  simp only [any4, List.any_eq_true, List.mem_range]
  constructor
  · rintro ⟨a, ha, b, hb, c, hc, d, hd, h⟩; exact ⟨a, b, c, d, ha, hb, hc, hd, h⟩
  · rintro ⟨a, b, c, d, ha, hb, hc, hd, h⟩; exact ⟨a, ha, b, hb, c, hc, d, hd, h⟩
theorem any4_none {n : Nat} {t : Nat → Nat → Nat → Nat → Bool} (h : ∀ a, a < n → ∀ b, b < n → ∀ c, c < n → ∀ d, d < n → t a b c d = false) : any4 n t = false := by
  cases e : any4 n t with
  | false => rfl
  | true =>
    obtain ⟨a, b, c, d, ha, hb, hc, hd, ht⟩ := any4_iff.1 e
    rw [h a ha b hb c hc d hd] at ht; cases ht
theorem any4_some {n a b c d : Nat} {t : Nat → Nat → Nat → Nat → Bool} (ha : a < n) (hb : b < n) (hc : c < n) (hd : d < n) (h : t a b c d = true) : any4 n t = true := any4_iff.2 ⟨a, b, c, d, ha, hb, hc, hd, h⟩

def tstTwo (zs : List Int) (a b c d : Nat) : Bool := bitB (zs[a]?.getD 0) b && (bitB (zs[c]?.getD 0) d && (!(a == c) && (!(a == d) && (!(b == c) && (!(b == d) && (!relB zs a c && (!relB zs a d && (!relB zs b c && !relB zs b d))))))))
def tstThr (zs : List Int) (a b c d : Nat) : Bool := bitB (zs[a]?.getD 0) b && (bitB (zs[b]?.getD 0) c && (!(d == a) && (!(d == b) && (!(d == c) && (!relB zs a d && (!relB zs b d && !relB zs c d))))))
def tstZig (zs : List Int) (a b c d : Nat) : Bool := bitB (zs[a]?.getD 0) b && (bitB (zs[c]?.getD 0) b && (bitB (zs[c]?.getD 0) d && (!(a == c) && (!(b == d) && (!relB zs a c && (!relB zs b d && !relB zs a d))))))
def twoB (zs : List Int) : Bool := any4 zs.length (tstTwo zs)
def thrB (zs : List Int) : Bool := any4 zs.length (tstThr zs)
def zigB (zs : List Int) : Bool := any4 zs.length (tstZig zs)
def twoR (zs : List Int) : Bool := vo zs && twoB zs
def thrR (zs : List Int) : Bool := vo zs && thrB zs
def zigR (zs : List Int) : Bool := vo zs && zigB zs

/-! What has no relation with an item, and with all of a set. -/
def relI (zs : List Int) (x : Nat) : Int := orI (zs[x]?.getD 0) (belI zs (powI x))
def unrI (zs : List Int) (x : Nat) : Int := lessI (powI zs.length - 1) (relI zs x)
def unrL (zs : List Int) (l : List Nat) : Int := l.foldl (fun t x => andI t (unrI zs x)) (powI zs.length - 1)
theorem unrL_snoc (zs : List Int) (l : List Nat) (x : Nat) : unrL zs (l ++ [x]) = andI (unrL zs l) (unrI zs x) := by simp [unrL]
theorem relI_bd {zs : List Int} (h : VoP zs) {x : Nat} (hx : x < zs.length) : 0 ≤ relI zs x ∧ relI zs x < powI zs.length := by
  have h1 := h.sets.2 x hx
  have h2 := powI_pos (x : Int)
  have h3 := belI_bd h.sets (s := powI x) (by omega) (powI_lt hx)
  exact orI_bd h1.1 h1.2 h3.1 h3.2
theorem unrI_bd (zs : List Int) (x : Nat) : 0 ≤ unrI zs x ∧ unrI zs x < powI zs.length := by
  have h1 := lessI_bd (powI zs.length - 1) (relI zs x)
  have h2 := powI_pos (zs.length : Int)
  unfold unrI; omega
theorem unrL_bd {zs : List Int} : ∀ l : List Nat, 0 ≤ unrL zs l ∧ unrL zs l < powI zs.length := fun l => by
  have key : ∀ (l : List Nat) (t : Int), 0 ≤ t → t < powI zs.length → 0 ≤ l.foldl (fun t x => andI t (unrI zs x)) t ∧ l.foldl (fun t x => andI t (unrI zs x)) t < powI zs.length := fun l => by
    induction l with
    | nil => intro t h0 h1; exact ⟨h0, h1⟩
    | cons a l ih =>
      intro t h0 h1
      have h3 := andI_bd t (unrI zs a)
      have h4 : andI t (unrI zs a) < powI zs.length := by omega
      exact ih _ h3.1 h4
  have h2 := powI_pos (zs.length : Int)
  exact key l _ (by omega) (by omega)
theorem unrI_bit {zs : List Int} (h : VoP zs) {x : Nat} (hx : x < zs.length) (j : Nat) : bitB (unrI zs x) j = true ↔ j < zs.length ∧ j ≠ x ∧ relB zs x j = false := by
  unfold unrI relI
  rw [bitB_less, Bool.and_eq_true, all_bits', decide_eq_true_eq, Bool.not_eq_true', bitB_or, Bool.or_eq_false_iff, ← Bool.not_eq_true (bitB (belI zs (powI x)) j), belI_bit h.sets (powI_lt hx)]
  unfold relB
  rw [Bool.or_eq_false_iff]
  constructor
  · rintro ⟨h1, h2, h3⟩
    refine ⟨h1, fun e => h3 (.inl (by rw [e, bitB_pow]; simp)), h2, ?_⟩
    cases hb : bitB (zs[j]?.getD 0) x with
    | false => rfl
    | true => exact absurd (.inr ⟨x, by rw [bitB_pow]; simp, hb⟩) h3
  · rintro ⟨h1, h2, h3, h4⟩
    refine ⟨h1, h3, ?_⟩
    rintro (e | ⟨b, e1, e2⟩)
    · rw [bitB_pow, decide_eq_true_eq] at e; exact h2 e.symm
    · rw [bitB_pow, decide_eq_true_eq] at e1
      rw [← e1, h4] at e2; cases e2
theorem unrL_bit {zs : List Int} (h : VoP zs) (j : Nat) : ∀ l : List Nat, (∀ x ∈ l, x < zs.length) → (bitB (unrL zs l) j = true ↔ j < zs.length ∧ ∀ x ∈ l, j ≠ x ∧ relB zs x j = false) := fun l => by
  have key : ∀ (l : List Nat) (t : Int), (∀ x ∈ l, x < zs.length) → (bitB (l.foldl (fun t x => andI t (unrI zs x)) t) j = true ↔ bitB t j = true ∧ ∀ x ∈ l, j < zs.length ∧ j ≠ x ∧ relB zs x j = false) := fun l => by
    induction l with
    | nil => intro t _; simp
    | cons a l ih =>
      intro t hl
      rw [List.foldl_cons, ih _ (fun x hx => hl x (by simp [hx])), bitB_and, Bool.and_eq_true, unrI_bit h (hl a (by simp))]
      constructor
      · rintro ⟨⟨h1, h2⟩, h3⟩
        refine ⟨h1, fun x hx => ?_⟩
        rcases List.mem_cons.1 hx with rfl | hx
        · exact h2
        · exact h3 x hx
      · rintro ⟨h1, h2⟩
        exact ⟨⟨h1, h2 a (by simp)⟩, fun x hx => h2 x (by simp [hx])⟩
  intro hl
  have := key l (powI zs.length - 1) hl
  rw [all_bits', decide_eq_true_eq] at this
  unfold unrL
  rw [this]
  constructor
  · rintro ⟨h1, h2⟩; exact ⟨h1, fun x hx => (h2 x hx).2⟩
  · rintro ⟨h1, h2⟩; exact ⟨h1, fun x hx => ⟨h1, h2 x hx⟩⟩

/-- The set of two items. -/
def prI (a b : Nat) : Int := orI (orI 0 (powI a)) (powI b)
theorem prI_bit (a b j : Nat) : bitB (prI a b) j = true ↔ j = a ∨ j = b := by
  unfold prI
  rw [bitB_or, bitB_or, bitB_zero, bitB_pow, bitB_pow]
  simp only [Bool.false_or, Bool.or_eq_true, decide_eq_true_eq]
  constructor
  · rintro (h | h) <;> simp [h]
  · rintro (h | h) <;> simp [h]
theorem prI_bd {n a b : Nat} (ha : a < n) (hb : b < n) : 0 ≤ prI a b ∧ prI a b < powI n := by
  have h1 := powI_pos (a : Int)
  have h2 := powI_pos (b : Int)
  have h3 := powI_pos (n : Int)
  have h4 := orI_bd (n := n) (a := 0) (b := powI a) (by omega) h3 (by omega) (powI_lt ha)
  exact orI_bd h4.1 h4.2 (by omega) (powI_lt hb)
theorem apB_false {zs : List Int} {s : Int} (h1 : s < 64) (h : apB zs s = false) : ∃ a b : Nat, bitB s a = true ∧ bitB s b = true ∧ bitB (zs[a]?.getD 0) b = true := by
  unfold apB at h
  rw [List.all_eq_false] at h
  obtain ⟨a, ha, hb⟩ := h
  have hne : andI (zs[a]?.getD 0) s ≠ 0 := by simpa using hb
  have h0 := andI_bd (zs[a]?.getD 0) s
  have : ∃ j : Nat, bitB (andI (zs[a]?.getD 0) s) j = true := by
    refine Classical.byContradiction fun hc => hne ?_
    refine bitB_ext h0.1 (by omega) fun j => ?_
    rw [bitB_zero]
    cases e : bitB (andI (zs[a]?.getD 0) s) j with
    | false => rfl
    | true => exact absurd ⟨j, e⟩ hc
  obtain ⟨j, hj⟩ := this
  rw [bitB_and, Bool.and_eq_true] at hj
  exact ⟨a, j, (mem_itemsL h1).1 ha, hj.2, hj.1⟩
theorem apB_some {zs : List Int} {s : Int} (h1 : s < 64) {a b : Nat} (ha : bitB s a = true) (hb : bitB s b = true) (h : bitB (zs[a]?.getD 0) b = true) : apB zs s = false := by
  unfold apB
  rw [List.all_eq_false]
  refine ⟨a, (mem_itemsL h1).2 ha, ?_⟩
  intro e
  have e : andI (zs[a]?.getD 0) s = 0 := by simpa using e
  have := bitB_and (zs[a]?.getD 0) s b
  rw [e, bitB_zero, h, hb] at this
  cases this

/-- What the program asks: two of what has no relation with a pair are a pair. -/
def tstPr (zs : List Int) (p : Nat × Nat) : Bool := !apB zs (unrL zs (itemsL (prI p.1 p.2)))
theorem two_pairs {zs : List Int} (h : VoP zs) : (pairsL zs).any (tstPr zs) = twoB zs := by
  have h6 := h.1
  have hp6 := powI_le6 (n := (zs.length : Int)) (by omega)
  have hmem : ∀ a b, a < zs.length → b < zs.length → ∀ x, x ∈ itemsL (prI a b) ↔ x = a ∨ x = b := fun a b ha hb x => by
    have := prI_bd ha hb
    rw [mem_itemsL (by omega), prI_bit]
  have hbit : ∀ a b, a < zs.length → b < zs.length → ∀ j : Nat, bitB (unrL zs (itemsL (prI a b))) j = true ↔ j < zs.length ∧ (j ≠ a ∧ relB zs a j = false) ∧ (j ≠ b ∧ relB zs b j = false) := fun a b ha hb j => by
    rw [unrL_bit h j _ (fun x hx => by rcases (hmem a b ha hb x).1 hx with rfl | rfl <;> assumption)]
    constructor
    · rintro ⟨h1, h2⟩
      exact ⟨h1, h2 a ((hmem a b ha hb a).2 (.inl rfl)), h2 b ((hmem a b ha hb b).2 (.inr rfl))⟩
    · rintro ⟨h1, h2, h3⟩
      refine ⟨h1, fun x hx => ?_⟩
      rcases (hmem a b ha hb x).1 hx with rfl | rfl
      · exact h2
      · exact h3
  have hlt : ∀ a b, unrL zs (itemsL (prI a b)) < 64 := fun a b => by have := unrL_bd (zs := zs) (itemsL (prI a b)); omega
  rw [Bool.eq_iff_iff]
  unfold twoB
  rw [any4_iff, List.any_eq_true]
  constructor
  · rintro ⟨⟨a, b⟩, hp, ht⟩
    obtain ⟨ha, hb, hab⟩ := h.sets.pair hp
    have ht : apB zs (unrL zs (itemsL (prI a b))) = false := by simpa [tstPr] using ht
    obtain ⟨c, d, hc, hd, hcd⟩ := apB_false (hlt a b) ht
    obtain ⟨hc1, ⟨hc2, hc3⟩, hc4, hc5⟩ := (hbit a b ha hb c).1 hc
    obtain ⟨hd1, ⟨hd2, hd3⟩, hd4, hd5⟩ := (hbit a b ha hb d).1 hd
    refine ⟨a, b, c, d, ha, hb, hc1, hd1, ?_⟩
    simp [tstTwo, hab, hcd, hc3, hc5, hd3, hd5, Ne.symm hc2, Ne.symm hc4, Ne.symm hd2, Ne.symm hd4]
  · rintro ⟨a, b, c, d, ha, hb, hc, hd, ht⟩
    simp only [tstTwo, Bool.and_eq_true, Bool.not_eq_true', beq_eq_false_iff_ne] at ht
    obtain ⟨hab, hcd, h1, h2, h3, h4, h5, h6', h7, h8⟩ := ht
    refine ⟨(a, b), mem_pairsL.2 ⟨ha, by omega, hab⟩, ?_⟩
    have : apB zs (unrL zs (itemsL (prI a b))) = false := apB_some (hlt a b) ((hbit a b ha hb c).2 ⟨hc, ⟨Ne.symm h1, h5⟩, Ne.symm h3, h7⟩) ((hbit a b ha hb d).2 ⟨hd, ⟨Ne.symm h2, h6'⟩, Ne.symm h4, h8⟩) hcd
    simp [tstPr, this]

/-- What the program asks: a chain of three and an item that has no relation with any of them. -/
def tstSet (zs : List Int) (s : Nat) : Bool := popI s == 3 && (chB zs s && !(unrL zs (itemsL s) == 0))
theorem three_sorted {zs : List Int} (h : VoP zs) {x y z : Nat} (hx : x < zs.length) (hy : y < zs.length) (hz : z < zs.length) (h1 : relB zs x y = true) (h2 : relB zs x z = true) (h3 : relB zs y z = true) :
    ∃ a b c : Nat, bitB (zs[a]?.getD 0) b = true ∧ bitB (zs[b]?.getD 0) c = true ∧ (∀ i, i = a ∨ i = b ∨ i = c ↔ i = x ∨ i = y ∨ i = z) := by
  unfold relB at h1 h2 h3
  rw [Bool.or_eq_true] at h1 h2 h3
  have tr : ∀ {a b c : Nat}, a < zs.length → bitB (zs[a]?.getD 0) b = true → bitB (zs[b]?.getD 0) c = true → bitB (zs[a]?.getD 0) c = true := fun ha h4 h5 =>
    (h.trans ⟨ha, h4⟩ ⟨h.lt_n ⟨ha, h4⟩, h5⟩).2
  rcases h1 with h1 | h1 <;> rcases h2 with h2 | h2 <;> rcases h3 with h3 | h3
  · exact ⟨x, y, z, h1, h3, fun i => Iff.rfl⟩
  · exact ⟨x, z, y, h2, h3, fun i => by omega⟩
  · exact absurd (tr hx h1 h3) (by rw [h.asym hz h2]; decide)
  · exact ⟨z, x, y, h2, h1, fun i => by omega⟩
  · exact ⟨y, x, z, h1, h2, fun i => by omega⟩
  · exact absurd (tr hx h2 h3) (by rw [h.asym hy h1]; decide)
  · exact ⟨y, z, x, h3, h2, fun i => by omega⟩
  · exact ⟨z, y, x, h3, h1, fun i => by omega⟩
/-- The set of three items. -/
def thI (a b c : Nat) : Int := orI (prI a b) (powI c)
theorem pop_three : ∀ a b c : Fin 6, a ≠ b → a ≠ c → b ≠ c → popI (thI a.val b.val c.val) = 3 := by decide +kernel
theorem len3 {l : List Nat} (h : l.length = 3) : ∃ x y z, l = [x, y, z] := by
  match l, h with
  | [x, y, z], _ => exact ⟨x, y, z, rfl⟩
theorem three_sets {zs : List Int} (h : VoP zs) : (List.range (2 ^ zs.length)).any (tstSet zs) = thrB zs := by
  have h6 := h.1
  have hp6 := powI_le6 (n := (zs.length : Int)) (by omega)
  have hpe : powI (zs.length : Int) = ((2 ^ zs.length : Nat) : Int) := by simp [powI]
  have tr : ∀ {a b c : Nat}, a < zs.length → bitB (zs[a]?.getD 0) b = true → bitB (zs[b]?.getD 0) c = true → bitB (zs[a]?.getD 0) c = true := fun ha h4 h5 =>
    (h.trans ⟨ha, h4⟩ ⟨h.lt_n ⟨ha, h4⟩, h5⟩).2
  rw [Bool.eq_iff_iff]
  unfold thrB
  rw [any4_iff, List.any_eq_true]
  constructor
  · rintro ⟨s, hs, ht⟩
    rw [List.mem_range] at hs
    simp only [tstSet, Bool.and_eq_true, beq_iff_eq, Bool.not_eq_true', beq_eq_false_iff_ne] at ht
    obtain ⟨ht1, ht2, ht3⟩ := ht
    have hs1 : (s : Int) < powI zs.length := by rw [hpe]; exact_mod_cast hs
    have hlen := popI_items (s := (s : Int)) (by omega) (by omega)
    obtain ⟨x, y, z, hl⟩ := len3 (l := itemsL (s : Int)) (by omega)
    have hm : ∀ i ∈ itemsL (s : Int), i < zs.length := fun i hi => bitB_lt hs1 ((mem_itemsL (by omega)).1 hi)
    have hc : ChP zs s := by simpa [chB] using ht2
    unfold ChP at hc
    rw [hl] at hm hc
    simp only [List.pairwise_cons, List.mem_cons, List.not_mem_nil, or_false, forall_eq_or_imp, forall_eq] at hc
    obtain ⟨a, b, c, hab, hbc, hi⟩ := three_sorted h (hm x (by simp)) (hm y (by simp)) (hm z (by simp)) hc.1.1 hc.1.2 hc.2.1
    have hma : ∀ i, i = a ∨ i = b ∨ i = c → i < zs.length := fun i e => hm i (by have := (hi i).1 e; simpa using this)
    have hne := unrL_bd (zs := zs) (itemsL (s : Int))
    have : ∃ d : Nat, bitB (unrL zs (itemsL (s : Int))) d = true := by
      refine Classical.byContradiction fun hc => ht3 ?_
      refine bitB_ext hne.1 (by omega) fun j => ?_
      rw [bitB_zero]
      cases e : bitB (unrL zs (itemsL (s : Int))) j with
      | false => rfl
      | true => exact absurd ⟨j, e⟩ hc
    obtain ⟨d, hd⟩ := this
    rw [unrL_bit h d _ (by rw [hl]; exact hm), hl] at hd
    obtain ⟨hd1, hd2⟩ := hd
    have hd3 : ∀ i, i = a ∨ i = b ∨ i = c → d ≠ i ∧ relB zs i d = false := fun i e => hd2 i (by have := (hi i).1 e; simpa using this)
    have da := hd3 a (.inl rfl)
    have db := hd3 b (.inr (.inl rfl))
    have dc := hd3 c (.inr (.inr rfl))
    exact ⟨a, b, c, d, hma a (.inl rfl), hma b (.inr (.inl rfl)), hma c (.inr (.inr rfl)), hd1, by simp [tstThr, hab, hbc, da.1, da.2, db.1, db.2, dc.1, dc.2]⟩
  · rintro ⟨a, b, c, d, ha, hb, hc, hd, ht⟩
    simp only [tstThr, Bool.and_eq_true, Bool.not_eq_true', beq_eq_false_iff_ne] at ht
    obtain ⟨hab, hbc, h1, h2, h3, h4, h5, h7⟩ := ht
    have hac := tr ha hab hbc
    have n1 : a ≠ b := fun e => by rw [← e, h.irrB ha] at hab; cases hab
    have n2 : a ≠ c := fun e => by rw [← e, h.irrB ha] at hac; cases hac
    have n3 : b ≠ c := fun e => by rw [← e, h.irrB hb] at hbc; cases hbc
    have hq := prI_bd ha hb
    have hpc := powI_pos (c : Int)
    have hth : 0 ≤ thI a b c ∧ thI a b c < powI zs.length := orI_bd hq.1 hq.2 (by omega) (powI_lt hc)
    have hbit : ∀ j : Nat, bitB (thI a b c) j = true ↔ j = a ∨ j = b ∨ j = c := fun j => by
      unfold thI
      rw [bitB_or, Bool.or_eq_true, prI_bit, bitB_pow, decide_eq_true_eq, or_assoc]
      constructor
      · rintro (e | e | e) <;> simp [e]
      · rintro (e | e | e) <;> simp [e]
    obtain ⟨s, hs⟩ := Int.eq_ofNat_of_zero_le hth.1
    have hmem : ∀ i, i ∈ itemsL (thI a b c) ↔ i = a ∨ i = b ∨ i = c := fun i => by rw [mem_itemsL (by omega), hbit]
    refine ⟨s, List.mem_range.2 (by have := hth.2; rw [hs, hpe] at this; exact_mod_cast this), ?_⟩
    unfold tstSet
    rw [show ((s : Nat) : Int) = thI a b c from hs.symm]
    have e1 : popI (thI a b c) = 3 := pop_three ⟨a, by omega⟩ ⟨b, by omega⟩ ⟨c, by omega⟩ (by simpa using n1) (by simpa using n2) (by simpa using n3)
    have r1 : relB zs a b = true := by simp [relB, hab]
    have r2 : relB zs a c = true := by simp [relB, hac]
    have r3 : relB zs b c = true := by simp [relB, hbc]
    have e2 : chB zs (thI a b c) = true := by
      unfold chB
      refine decide_eq_true (show ChP zs (thI a b c) from ?_)
      unfold ChP
      have hnd : (itemsL (thI a b c)).Pairwise (· < ·) := itemsL_sorted _
      refine hnd.imp_of_mem ?_
      intro x y hx hy hxy
      have hcm : ∀ u v, relB zs u v = relB zs v u := fun u v => by unfold relB; rw [Bool.or_comm]
      rcases (hmem x).1 hx with rfl | rfl | rfl <;> rcases (hmem y).1 hy with rfl | rfl | rfl <;> first | (exfalso; omega) | assumption | (rw [hcm]; assumption)
    have e3 : (unrL zs (itemsL (thI a b c)) == 0) = false := by
      rw [beq_eq_false_iff_ne]
      intro e
      have := (unrL_bit h d (itemsL (thI a b c)) (fun x hx => by rcases (hmem x).1 hx with rfl | rfl | rfl <;> assumption)).2 ⟨hd, fun x hx => by
        rcases (hmem x).1 hx with rfl | rfl | rfl
        · exact ⟨h1, h4⟩
        · exact ⟨h2, h5⟩
        · exact ⟨h3, h7⟩⟩
      rw [e, bitB_zero] at this; cases this
    rw [e1, e2, e3]; rfl
end Go.Proofs.YtghogabmkbadjaaDoor

/- Sides, as plain mathematics: the steps by which one is made, and that the first choice that comes through is the least one. No program. -/
namespace Go.Proofs.YtghogabmkbadjaaDoor

theorem q_lt2 {zs : List Int} (h : VoP zs) {x y : Nat} (hq : qB zs x y) : x < zs.length ∧ y < zs.length := by
  have hx := qB_lt rfl hq
  exact ⟨hx, bitB_lt (h.sets.2 x hx).2 hq⟩
/-- Two items of which none is above the other one. -/
def un (zs : List Int) (x y : Nat) : Prop := x ≠ y ∧ ¬ qB zs x y ∧ ¬ qB zs y x
theorem un_symm {zs : List Int} {x y : Nat} (h : un zs x y) : un zs y x := ⟨h.1.symm, h.2.2, h.2.1⟩
structure SideOf (zs T : List Int) : Prop where
  vo : VoP T
  len : T.length = zs.length
  iff : ∀ x y, x < zs.length → y < zs.length → (qB T x y ∨ qB T y x ↔ un zs x y)

theorem relI_q {zs : List Int} (h : VoP zs) {x : Nat} (hx : x < zs.length) (y : Nat) : bitB (relI zs x) y = true ↔ y = x ∨ qB zs x y ∨ qB zs y x := by
  unfold relI
  rw [bitB_or, Bool.or_eq_true, belI_bit h.sets (powI_lt hx)]
  constructor
  · rintro (e | e | ⟨b, e1, e2⟩)
    · exact .inr (.inl e)
    · rw [bitB_pow, decide_eq_true_eq] at e; exact .inl e.symm
    · rw [bitB_pow, decide_eq_true_eq] at e1; rw [← e1] at e2; exact .inr (.inr e2)
  · rintro (e | e | e)
    · exact .inr (.inl (by rw [bitB_pow, e]; simp))
    · exact .inl e
    · exact .inr (.inr ⟨x, by rw [bitB_pow]; simp, e⟩)

/-! One step: what is at or above hi is put above what is at or below lo. -/
def folS (S : List Int) (hi : Nat) : Int := orI (S[hi]?.getD 0) (powI (hi : Int))
def belS (S : List Int) (lo : Nat) : Int := belI S (powI (lo : Int))
def stepS (S : List Int) (lo hi : Nat) : List Int := (List.range S.length).map fun x : Nat => if bitB (belS S lo) (x : Int) then orI (S[x]?.getD 0) (folS S hi) else S[x]?.getD 0
def badS (zs S : List Int) (lo hi : Nat) : Bool := (itemsL (belS S lo)).any fun x => !(andI (relI zs x) (folS S hi) == 0)
section
variable {zs S : List Int} {lo hi : Nat}
theorem stepS_len : (stepS S lo hi).length = S.length := by simp [stepS]
theorem stepS_get {x : Nat} (hx : x < S.length) : (stepS S lo hi)[x]?.getD 0 = if bitB (belS S lo) (x : Int) then orI (S[x]?.getD 0) (folS S hi) else S[x]?.getD 0 := by
  simp [stepS, List.getElem?_range, hx]
theorem belS_q (h : VoP S) (hl : lo < S.length) (x : Nat) : bitB (belS S lo) (x : Int) = true ↔ x = lo ∨ qB S x lo := by
  unfold belS
  rw [belI_bit h.sets (powI_lt hl)]
  constructor
  · rintro (e | ⟨b, e1, e2⟩)
    · rw [bitB_pow, decide_eq_true_eq] at e; exact .inl e.symm
    · rw [bitB_pow, decide_eq_true_eq] at e1; rw [← e1] at e2; exact .inr e2
  · rintro (e | e)
    · exact .inl (by rw [bitB_pow, e]; simp)
    · exact .inr ⟨lo, by rw [bitB_pow]; simp, e⟩
theorem belS_bd (h : VoP S) (hl : lo < S.length) : 0 ≤ belS S lo ∧ belS S lo < powI S.length := belI_bd h.sets (Int.le_of_lt (powI_pos _)) (powI_lt hl)
theorem folS_q (y : Nat) : bitB (folS S hi) (y : Int) = true ↔ y = hi ∨ qB S hi y := by
  unfold folS
  rw [bitB_or, Bool.or_eq_true, bitB_pow, decide_eq_true_eq]
  constructor
  · rintro (e | e)
    · exact .inr e
    · exact .inl e.symm
  · rintro (e | e)
    · exact .inr e.symm
    · exact .inl e
theorem folS_bd (h : VoP S) (hh : hi < S.length) : 0 ≤ folS S hi ∧ folS S hi < powI S.length :=
  orI_bd (h.sets.2 hi hh).1 (h.sets.2 hi hh).2 (Int.le_of_lt (powI_pos _)) (powI_lt hh)
theorem stepS_q (h : VoP S) (hl : lo < S.length) (x y : Nat) : qB (stepS S lo hi) x y ↔ PA S lo hi x y := by
  rcases Nat.lt_or_ge x S.length with hx | hx
  · unfold qB PA
    rw [stepS_get hx]
    cases hb : bitB (belS S lo) (x : Int)
    · have hn : ¬ (x = lo ∨ qB S x lo) := fun e => by rw [(belS_q h hl x).2 e] at hb; cases hb
      constructor
      · exact fun e => .inl e
      · rintro (e | ⟨e, _⟩)
        · exact e
        · exact absurd e hn
    · have hy := (belS_q h hl x).1 hb
      rw [if_pos rfl, bitB_or, Bool.or_eq_true, folS_q]
      constructor
      · rintro (e | e)
        · exact .inl e
        · exact .inr ⟨hy, e⟩
      · rintro (e | ⟨_, e⟩)
        · exact .inl e
        · exact .inr e
  · constructor
    · intro e
      have := qB_lt stepS_len e
      omega
    · rintro (e | ⟨e, _⟩)
      · have := qB_lt rfl e; omega
      · rcases e with e | e
        · omega
        · have := qB_lt rfl e; omega
theorem badS_no (hz : VoP zs) (h : VoP S) (hlen : S.length = zs.length) (hl : lo < S.length) (hb : badS zs S lo hi = false) : ∀ x y, (x = lo ∨ qB S x lo) → (y = hi ∨ qB S hi y) → un zs x y := by
  intro x y hx hy
  have hxl : x < zs.length := by
    rcases hx with e | e
    · omega
    · have := qB_lt rfl e; omega
  have hn6 := h.1
  have hp64 := powI_le6 (n := (S.length : Int)) (by omega)
  have hbd := belS_bd h hl
  have hm : x ∈ itemsL (belS S lo) := (mem_itemsL (by omega)).2 ((belS_q h hl x).2 hx)
  have hz0 : andI (relI zs x) (folS S hi) = 0 := by
    cases e : andI (relI zs x) (folS S hi) == 0
    · have : badS zs S lo hi = true := List.any_eq_true.2 ⟨x, hm, by rw [e]; rfl⟩
      rw [hb] at this; cases this
    · exact beq_iff_eq.1 e
  have := andI_zero.1 hz0 y ((folS_q y).2 hy)
  have hr : ¬ (y = x ∨ qB zs x y ∨ qB zs y x) := fun e => by rw [(relI_q hz hxl y).2 e] at this; cases this
  exact ⟨fun e => hr (.inl e.symm), fun e => hr (.inr (.inl e)), fun e => hr (.inr (.inr e))⟩
theorem badS_yes (hz : VoP zs) (h : VoP S) (hlen : S.length = zs.length) (hl : lo < S.length) (hb : badS zs S lo hi = true) : ∃ x y, (x = lo ∨ qB S x lo) ∧ (y = hi ∨ qB S hi y) ∧ ¬ un zs x y := by
  obtain ⟨x, hm, hx⟩ := List.any_eq_true.1 hb
  have hn6 := h.1
  have hp64 := powI_le6 (n := (S.length : Int)) (by omega)
  have hbd := belS_bd h hl
  have hxb := (belS_q h hl x).1 ((mem_itemsL (by omega)).1 hm)
  have hxl : x < zs.length := by
    rcases hxb with e | e
    · omega
    · have := qB_lt rfl e; omega
  have hne : andI (relI zs x) (folS S hi) ≠ 0 := by simpa using hx
  have : ∃ y : Nat, bitB (folS S hi) (y : Int) = true ∧ bitB (relI zs x) (y : Int) = true := by
    refine Classical.byContradiction fun hno => hne (andI_zero.2 fun y hy => ?_)
    cases e : bitB (relI zs x) (y : Int)
    · rfl
    · exact absurd ⟨y, hy, e⟩ hno
  obtain ⟨y, hy, hr⟩ := this
  refine ⟨x, y, hxb, (folS_q y).1 hy, fun hu => ?_⟩
  rcases (relI_q hz hxl y).1 hr with e | e | e
  · exact hu.1 e.symm
  · exact hu.2.1 e
  · exact hu.2.2 e

/-- A side under way. -/
structure SInv (zs S : List Int) : Prop where
  vo : VoP S
  len : S.length = zs.length
  sub : ∀ x y, qB S x y → un zs x y
theorem PA_trans (h : VoP S) {x y z : Nat} : PA S lo hi x y → PA S lo hi y z → PA S lo hi x z := by
  rintro (h1 | ⟨h1, h1'⟩) (h2 | ⟨h2, h2'⟩)
  · exact .inl (q_trans h h1 h2)
  · refine .inr ⟨.inr ?_, h2'⟩
    rcases h2 with e | e
    · subst e; exact h1
    · exact q_trans h h1 e
  · refine .inr ⟨h1, .inr ?_⟩
    rcases h1' with e | e
    · subst e; exact h2
    · exact q_trans h e h2
  · exact .inr ⟨h1, h2'⟩
theorem step_inv (hz : VoP zs) (h : SInv zs S) (hl : lo < zs.length) (hh : hi < zs.length) (hb : badS zs S lo hi = false) : SInv zs (stepS S lo hi) := by
  have hn6 := h.vo.1
  have hlS : lo < S.length := by rw [h.len]; exact hl
  have hhS : hi < S.length := by rw [h.len]; exact hh
  have hu := badS_no hz h.vo h.len hlS hb
  have hsub : ∀ x y, qB (stepS S lo hi) x y → un zs x y := fun x y e => by
    rcases (stepS_q h.vo hlS x y).1 e with e | ⟨e1, e2⟩
    · exact h.sub x y e
    · exact hu x y e1 e2
  refine ⟨vo_mk (by rw [stepS_len]; exact hn6) (fun a ha => ?_) (fun a e => (hsub a a e).1 rfl) (fun a b c h1 h2 => ?_), by rw [stepS_len]; exact h.len, hsub⟩
  · rw [stepS_len] at ha ⊢
    rw [stepS_get ha]
    have h1 := h.vo.sets.2 a ha
    split
    · exact orI_bd h1.1 h1.2 (folS_bd h.vo hhS).1 (folS_bd h.vo hhS).2
    · exact h1
  · exact (stepS_q h.vo hlS a c).2 (PA_trans h.vo ((stepS_q h.vo hlS a b).1 h1) ((stepS_q h.vo hlS b c).1 h2))
end

/-! The pairs, as the program has them, and what a choice makes of them. -/
def prA (zs : List Int) : List (Nat × Nat) := (List.range zs.length).reverse.flatMap fun a => ((itemsL (unrI zs a)).filter fun b => decide (a < b)).map fun b => (a, b)
def arcC (c i : Nat) (p : Nat × Nat) : Nat × Nat := if c.testBit i then p else (p.2, p.1)
def arcA (zs : List Int) (c i : Nat) : Nat × Nat := arcC c i ((prA zs)[i]?.getD (0, 0))
def sdTo (zs : List Int) (c : Nat) : Nat → Option (List Int)
  | 0 => some (zr zs.length)
  | i + 1 => (sdTo zs c i).bind fun S => if badS zs S (arcA zs c i).1 (arcA zs c i).2 then none else some (stepS S (arcA zs c i).1 (arcA zs c i).2)
def sdC (zs : List Int) (c : Nat) : Option (List Int) := sdTo zs c (prA zs).length
def sdF (zs : List Int) : Option (List Int) := (List.range (2 ^ (prA zs).length)).findSome? (sdC zs)
section
variable {zs : List Int}
theorem un_iff (h : VoP zs) {a b : Nat} (ha : a < zs.length) : bitB (unrI zs a) (b : Int) = true ↔ b < zs.length ∧ un zs a b := by
  rw [unrI_bit h ha]
  unfold un qB relB
  rw [Bool.or_eq_false_iff, ← Bool.not_eq_true, ← Bool.not_eq_true]
  constructor
  · rintro ⟨h1, h2, h3, h4⟩; exact ⟨h1, fun e => h2 e.symm, h3, h4⟩
  · rintro ⟨h1, h2, h3, h4⟩; exact ⟨h1, fun e => h2 e.symm, h3, h4⟩
theorem mem_prA (h : VoP zs) {p : Nat × Nat} : p ∈ prA zs ↔ p.1 < p.2 ∧ p.2 < zs.length ∧ un zs p.1 p.2 := by
  have hn6 := h.1
  have hp64 := powI_le6 (n := (zs.length : Int)) (by omega)
  unfold prA
  simp only [List.mem_flatMap, List.mem_reverse, List.mem_range, List.mem_map, List.mem_filter, decide_eq_true_eq]
  constructor
  · rintro ⟨a, ha, b, ⟨hb, hab⟩, rfl⟩
    have hbd := unrI_bd zs a
    have := (un_iff h ha).1 ((mem_itemsL (by omega)).1 hb)
    exact ⟨hab, this⟩
  · rintro ⟨h1, h2, h3⟩
    have hbd := unrI_bd zs p.1
    exact ⟨p.1, by omega, p.2, ⟨(mem_itemsL (by omega)).2 ((un_iff h (by omega)).2 ⟨h2, h3⟩), h1⟩, rfl⟩
theorem arc_ok (h : VoP zs) {c i : Nat} (hi : i < (prA zs).length) : (arcA zs c i).1 < zs.length ∧ (arcA zs c i).2 < zs.length ∧ un zs (arcA zs c i).1 (arcA zs c i).2 := by
  have hm := (mem_prA h).1 (List.getElem_mem hi)
  unfold arcA arcC
  rw [List.getElem?_eq_getElem hi, Option.getD_some]
  split
  · exact ⟨by omega, hm.2.1, hm.2.2⟩
  · exact ⟨hm.2.1, by show (prA zs)[i].1 < _; omega, un_symm hm.2.2⟩
theorem sdTo_inv (h : VoP zs) {c : Nat} : ∀ {i : Nat} {S : List Int}, i ≤ (prA zs).length → sdTo zs c i = some S → SInv zs S ∧ ∀ j, j < i → qB S (arcA zs c j).1 (arcA zs c j).2
  | 0, S, _, e => by
    have hn6 := h.1
    unfold sdTo at e
    cases e
    refine ⟨⟨zr_vo hn6, zr_len _, fun x y e => ?_⟩, fun j hj => by omega⟩
    unfold qB zr at e
    rw [List.getElem?_replicate] at e
    split at e <;> rw [show (Option.getD _ (0 : Int)) = 0 from rfl, bitB_zero] at e <;> cases e
  | i + 1, S, hi, e => by
    unfold sdTo at e
    cases e0 : sdTo zs c i with
    | none => rw [e0] at e; cases e
    | some S0 =>
      rw [e0, Option.bind_some] at e
      obtain ⟨h1, h2⟩ := sdTo_inv h (by omega) e0
      obtain ⟨a1, a2, a3⟩ := arc_ok h (c := c) (show i < (prA zs).length by omega)
      cases hb : badS zs S0 (arcA zs c i).1 (arcA zs c i).2
      · rw [hb] at e
        simp only [Bool.false_eq_true, if_false, Option.some.injEq] at e
        subst e
        refine ⟨step_inv h h1 a1 a2 hb, fun j hj => ?_⟩
        refine (stepS_q h1.vo (by rw [h1.len]; exact a1) _ _).2 ?_
        rcases Nat.lt_or_ge j i with hji | hji
        · exact .inl (h2 j hji)
        · obtain rfl : j = i := by omega
          exact .inr ⟨.inl rfl, .inl rfl⟩
      · rw [hb] at e; simp at e
theorem sdTo_sub (h : VoP zs) {c : Nat} {T : List Int} (hT : SideOf zs T) : ∀ {i : Nat} {S : List Int}, i ≤ (prA zs).length → (∀ j, j < i → qB T (arcA zs c j).1 (arcA zs c j).2) → sdTo zs c i = some S → ∀ x y, qB S x y → qB T x y
  | 0, S, _, _, e, x, y, hq => by
    unfold sdTo at e
    cases e
    unfold qB zr at hq
    rw [List.getElem?_replicate] at hq
    split at hq <;> rw [show (Option.getD _ (0 : Int)) = 0 from rfl, bitB_zero] at hq <;> cases hq
  | i + 1, S, hi, ha, e, x, y, hq => by
    unfold sdTo at e
    cases e0 : sdTo zs c i with
    | none => rw [e0] at e; cases e
    | some S0 =>
      rw [e0, Option.bind_some] at e
      have h1 := (sdTo_inv h (by omega) e0).1
      have ih := sdTo_sub h hT (by omega) (fun j hj => ha j (by omega)) e0
      obtain ⟨a1, a2, a3⟩ := arc_ok h (c := c) (show i < (prA zs).length by omega)
      have hai := ha i (by omega)
      cases hb : badS zs S0 (arcA zs c i).1 (arcA zs c i).2
      · rw [hb] at e
        simp only [Bool.false_eq_true, if_false, Option.some.injEq] at e
        subst e
        rcases (stepS_q h1.vo (by rw [h1.len]; exact a1) x y).1 hq with e | ⟨e1, e2⟩
        · exact ih x y e
        · have hb2 : qB T x (arcA zs c i).2 := by
            rcases e1 with e1 | e1
            · rw [e1]; exact hai
            · exact q_trans hT.vo (ih _ _ e1) hai
          rcases e2 with e2 | e2
          · rw [e2]; exact hb2
          · exact q_trans hT.vo hb2 (ih _ _ e2)
      · rw [hb] at e; simp at e
theorem side_un {T : List Int} (hT : SideOf zs T) {x y : Nat} (hq : qB T x y) : un zs x y := by
  obtain ⟨h1, h2⟩ := q_lt2 hT.vo hq
  rw [hT.len] at h1 h2
  exact (hT.iff x y h1 h2).1 (.inl hq)
theorem sdTo_some (h : VoP zs) {c : Nat} {T : List Int} (hT : SideOf zs T) : ∀ {i : Nat}, i ≤ (prA zs).length → (∀ j, j < i → qB T (arcA zs c j).1 (arcA zs c j).2) → ∃ S, sdTo zs c i = some S
  | 0, _, _ => ⟨_, rfl⟩
  | i + 1, hi, ha => by
    obtain ⟨S, e⟩ := sdTo_some h hT (i := i) (by omega) fun j hj => ha j (by omega)
    have h1 := (sdTo_inv h (by omega) e).1
    have hs := sdTo_sub h hT (by omega) (fun j hj => ha j (by omega)) e
    obtain ⟨a1, a2, a3⟩ := arc_ok h (c := c) (show i < (prA zs).length by omega)
    have hai := ha i (by omega)
    cases hb : badS zs S (arcA zs c i).1 (arcA zs c i).2
    · exact ⟨stepS S (arcA zs c i).1 (arcA zs c i).2, by unfold sdTo; rw [e, Option.bind_some, hb]; rfl⟩
    · exfalso
      obtain ⟨x, y, hx, hy, hn⟩ := badS_yes h h1.vo h1.len (by rw [h1.len]; exact a1) hb
      refine hn (side_un hT ?_)
      have hb2 : qB T x (arcA zs c i).2 := by
        rcases hx with e1 | e1
        · rw [e1]; exact hai
        · exact q_trans hT.vo (hs _ _ e1) hai
      rcases hy with e2 | e2
      · rw [e2]; exact hb2
      · exact q_trans hT.vo hb2 (hs _ _ e2)
theorem pair_at (h : VoP zs) {x y : Nat} (hx : x < zs.length) (hy : y < zs.length) (hu : un zs x y) : ∃ i, i < (prA zs).length ∧ ((prA zs)[i]?.getD (0, 0) = (x, y) ∨ (prA zs)[i]?.getD (0, 0) = (y, x)) := by
  rcases Nat.lt_or_ge x y with e | e
  · obtain ⟨i, hi, e2⟩ := List.getElem_of_mem ((mem_prA h (p := (x, y))).2 ⟨e, hy, hu⟩)
    exact ⟨i, hi, .inl (by rw [List.getElem?_eq_getElem hi, Option.getD_some, e2])⟩
  · have hne := hu.1
    obtain ⟨i, hi, e2⟩ := List.getElem_of_mem ((mem_prA h (p := (y, x))).2 ⟨by show y < x; omega, hx, un_symm hu⟩)
    exact ⟨i, hi, .inr (by rw [List.getElem?_eq_getElem hi, Option.getD_some, e2])⟩
theorem sdC_side (h : VoP zs) {c : Nat} {S : List Int} (e : sdC zs c = some S) : SideOf zs S ∧ ∀ j, j < (prA zs).length → qB S (arcA zs c j).1 (arcA zs c j).2 := by
  obtain ⟨h1, h2⟩ := sdTo_inv h (Nat.le_refl _) e
  refine ⟨⟨h1.vo, h1.len, fun x y hx hy => ⟨?_, fun hu => ?_⟩⟩, h2⟩
  · rintro (e | e)
    · exact h1.sub x y e
    · exact un_symm (h1.sub y x e)
  · obtain ⟨i, hi, hp⟩ := pair_at h hx hy hu
    have := h2 i hi
    unfold arcA arcC at this
    rcases hp with hp | hp <;> rw [hp] at this <;> split at this
    · exact .inl this
    · exact .inr this
    · exact .inr this
    · exact .inl this
theorem side_asym {T : List Int} (hT : VoP T) {x y : Nat} (h1 : qB T x y) (h2 : qB T y x) : False := q_irr hT (q_trans hT h1 h2)
theorem side_eq {S T : List Int} (hS : SideOf zs S) (hT : SideOf zs T) (hsub : ∀ x y, qB S x y → qB T x y) : S = T := by
  have hq : ∀ x y, qB S x y ↔ qB T x y := fun x y => ⟨hsub x y, fun e => by
    obtain ⟨h1, h2⟩ := q_lt2 hT.vo e
    rw [hT.len] at h1 h2
    rcases (hS.iff x y h1 h2).2 (side_un hT e) with e1 | e1
    · exact e1
    · exact absurd (hsub y x e1) fun e2 => side_asym hT.vo e e2⟩
  refine List.ext_getElem? fun a => ?_
  rcases Nat.lt_or_ge a zs.length with ha | ha
  · have a1 : a < S.length := by rw [hS.len]; exact ha
    have a2 : a < T.length := by rw [hT.len]; exact ha
    have b1 := (hS.vo.sets.2 a a1).1
    have b2 := (hT.vo.sets.2 a a2).1
    rw [List.getElem?_eq_getElem a1] at b1 ⊢
    rw [List.getElem?_eq_getElem a2] at b2 ⊢
    congr 1
    refine bitB_ext b1 b2 fun j => ?_
    have := hq a j
    unfold qB at this
    rw [List.getElem?_eq_getElem a1, List.getElem?_eq_getElem a2] at this
    rw [Bool.eq_iff_iff]; exact this
  · rw [List.getElem?_eq_none (by rw [hS.len]; exact ha), List.getElem?_eq_none (by rw [hT.len]; exact ha)]
theorem sdC_of (h : VoP zs) {c : Nat} {T : List Int} (hT : SideOf zs T) (ha : ∀ j, j < (prA zs).length → qB T (arcA zs c j).1 (arcA zs c j).2) : sdC zs c = some T := by
  obtain ⟨S, e⟩ := sdTo_some h hT (Nat.le_refl _) ha
  have := side_eq (sdC_side h e).1 hT (sdTo_sub h hT (Nat.le_refl _) ha e)
  rw [← this]; exact e

/-! The choice of a side. -/
def mkC (p : Nat → Bool) : Nat → Nat
  | 0 => 0
  | k + 1 => if p k then mkC p k ||| 2 ^ k else mkC p k
theorem mkC_bit (p : Nat → Bool) (j : Nat) : ∀ k : Nat, (mkC p k).testBit j = (decide (j < k) && p j)
  | 0 => by simp [mkC]
  | k + 1 => by
    have ih := mkC_bit p j k
    unfold mkC
    by_cases hj : j = k
    · subst hj
      cases hp : p j
      · simp [ih]
      · simp [Nat.testBit_or]
    · have e : decide (j < k + 1) = decide (j < k) := by rw [decide_eq_decide]; omega
      rw [e]
      cases hp : p k
      · simpa using ih
      · rw [if_pos rfl, Nat.testBit_or, ih, Nat.testBit_two_pow, decide_eq_false (show ¬ k = j from fun e => hj e.symm)]; simp
theorem mkC_lt (p : Nat → Bool) (k : Nat) : mkC p k < 2 ^ k := Nat.lt_pow_two_of_testBit _ fun j hj => by rw [mkC_bit, decide_eq_false (by omega)]; rfl
def chC (zs T : List Int) : Nat := mkC (fun i => bitB (T[((prA zs)[i]?.getD (0, 0)).1]?.getD 0) (((prA zs)[i]?.getD (0, 0)).2 : Int)) (prA zs).length
theorem chC_lt (zs T : List Int) : chC zs T < 2 ^ (prA zs).length := mkC_lt _ _
theorem chC_bit (zs T : List Int) {i : Nat} (hi : i < (prA zs).length) : (chC zs T).testBit i = true ↔ qB T ((prA zs)[i]?.getD (0, 0)).1 ((prA zs)[i]?.getD (0, 0)).2 := by
  unfold chC
  rw [mkC_bit, decide_eq_true hi, Bool.true_and]; exact Iff.rfl
theorem chC_arcs (h : VoP zs) {T : List Int} (hT : SideOf zs T) : ∀ j, j < (prA zs).length → qB T (arcA zs (chC zs T) j).1 (arcA zs (chC zs T) j).2 := fun j hj => by
  have hm := (mem_prA h).1 (List.getElem_mem hj)
  have hb := chC_bit zs T hj
  unfold arcA arcC
  rw [List.getElem?_eq_getElem hj, Option.getD_some] at hb ⊢
  split
  · rename_i hc; exact hb.1 hc
  · rename_i hc
    have hno : ¬ qB T (prA zs)[j].1 (prA zs)[j].2 := fun e => hc (hb.2 e)
    exact ((hT.iff _ _ (by omega) hm.2.1).2 hm.2.2).resolve_left hno
theorem chC_some (h : VoP zs) {T : List Int} (hT : SideOf zs T) : sdC zs (chC zs T) = some T := sdC_of h hT (chC_arcs h hT)
theorem chC_of (h : VoP zs) {c : Nat} {T : List Int} (hc : c < 2 ^ (prA zs).length) (e : sdC zs c = some T) : chC zs T = c := by
  obtain ⟨hT, ha⟩ := sdC_side h e
  refine Nat.eq_of_testBit_eq fun i => ?_
  by_cases hi : i < (prA zs).length
  · have hb := chC_bit zs T hi
    have hai := ha i hi
    unfold arcA arcC at hai
    cases hci : c.testBit i
    · rw [hci] at hai
      simp only [Bool.false_eq_true, if_false] at hai
      cases h2 : (chC zs T).testBit i
      · rfl
      · exact absurd (hb.1 h2) fun e => side_asym hT.vo e hai
    · rw [hci, if_pos rfl] at hai
      exact hb.2 hai
  · rw [Nat.testBit_lt_two_pow (Nat.lt_of_lt_of_le (chC_lt zs T) (Nat.pow_le_pow_right (by decide) (by omega))), Nat.testBit_lt_two_pow (Nat.lt_of_lt_of_le hc (Nat.pow_le_pow_right (by decide) (by omega)))]

theorem lt_testBit {x y : Nat} (i : Nat) (hx : x.testBit i = false) (hy : y.testBit i = true) (h : ∀ j, i < j → x.testBit j = y.testBit j) : x < y := by
  have e : x / 2 ^ (i + 1) = y / 2 ^ (i + 1) := Nat.eq_of_testBit_eq fun j => by
    rw [Nat.testBit_div_two_pow, Nat.testBit_div_two_pow]; exact h _ (by omega)
  have h1 : x % 2 ^ (i + 1) < 2 ^ i := Nat.lt_pow_two_of_testBit _ fun j hj => by
    rw [Nat.testBit_mod_two_pow]
    rcases Nat.eq_or_lt_of_le hj with e1 | e1
    · rw [← e1, hx]; simp
    · rw [decide_eq_false (by omega)]; rfl
  have h2 : 2 ^ i ≤ y % 2 ^ (i + 1) := by
    rcases Nat.lt_or_ge (y % 2 ^ (i + 1)) (2 ^ i) with e1 | e1
    · have := Nat.testBit_lt_two_pow e1
      rw [Nat.testBit_mod_two_pow, hy] at this
      simp at this
    · exact e1
  have d1 := Nat.div_add_mod x (2 ^ (i + 1))
  have d2 := Nat.div_add_mod y (2 ^ (i + 1))
  rw [e] at d1
  omega
/-- Whether a list comes ahead of another one as long. -/
def lexB (a b : List Int) : Bool := match (List.range a.length).find? (fun i => !(a[i]?.getD 0 == b[i]?.getD 0)) with | none => false | some i => decide (a[i]?.getD 0 < b[i]?.getD 0)
theorem top_bit_fin : ∀ x y : Fin 64, x.val < y.val → ∃ b : Fin 6, x.val.testBit b.val = false ∧ y.val.testBit b.val = true ∧ ∀ j : Fin 6, b.val < j.val → x.val.testBit j.val = y.val.testBit j.val := by decide +kernel
theorem top_bit {x y : Int} (h0 : 0 ≤ x) (h1 : y < 64) (h : x < y) : ∃ b : Nat, b < 6 ∧ bitB x (b : Int) = false ∧ bitB y (b : Int) = true ∧ ∀ j : Nat, b < j → bitB x (j : Int) = bitB y (j : Int) := by
  obtain ⟨b, e1, e2, e3⟩ := top_bit_fin ⟨x.toNat, by omega⟩ ⟨y.toNat, by omega⟩ (by show x.toNat < y.toNat; omega)
  refine ⟨b.val, b.isLt, e1, e2, fun j hj => ?_⟩
  rcases Nat.lt_or_ge j 6 with hj6 | hj6
  · exact e3 ⟨j, hj6⟩ hj
  · have key : ∀ z : Int, z < 64 → bitB z (j : Int) = false := fun z hz => by
      unfold bitB
      rw [Int.toNat_natCast]
      exact Nat.testBit_lt_two_pow (Nat.lt_of_lt_of_le (show z.toNat < 2 ^ 6 by omega) (Nat.pow_le_pow_right (by decide) hj6))
    rw [key x (by omega), key y h1]
theorem prA_sorted (zs : List Int) : (prA zs).Pairwise fun p q => q.1 < p.1 ∨ (q.1 = p.1 ∧ p.2 < q.2) := by
  unfold prA
  rw [List.pairwise_flatMap]
  refine ⟨fun a _ => ?_, ?_⟩
  · rw [List.pairwise_map]
    exact ((itemsL_sorted (unrI zs a)).filter _).imp fun h => .inr ⟨rfl, h⟩
  · rw [List.pairwise_reverse]
    refine List.pairwise_lt_range.imp fun {a b} hab => ?_
    intro p hp q hq
    simp only [List.mem_map] at hp hq
    obtain ⟨_, _, rfl⟩ := hp
    obtain ⟨_, _, rfl⟩ := hq
    exact .inl hab
theorem lex_choice (h : VoP zs) {S T : List Int} (hS : SideOf zs S) (hT : SideOf zs T) (hl : lexB S T = true) : chC zs S < chC zs T := by
  unfold lexB at hl
  cases e : (List.range S.length).find? (fun i => !(S[i]?.getD 0 == T[i]?.getD 0)) with
  | none => rw [e] at hl; cases hl
  | some k =>
    rw [e] at hl
    have hlt : S[k]?.getD 0 < T[k]?.getD 0 := of_decide_eq_true hl
    rw [List.find?_eq_some_iff_getElem] at e
    obtain ⟨_, k', hk', ek, hbef⟩ := e
    simp only [List.getElem_range] at ek
    subst ek
    rw [List.length_range] at hk'
    have heq : ∀ j, j < k' → S[j]?.getD 0 = T[j]?.getD 0 := fun j hj => by
      have := hbef j hj
      simpa using this
    have hkn : k' < zs.length := by rw [← hS.len]; exact hk'
    have b1 := hS.vo.sets.bd k' hk'
    have b2 := hT.vo.sets.bd k' (by rw [hT.len]; exact hkn)
    obtain ⟨b, hb6, c1, c2, c3⟩ := top_bit b1.1 b2.2 hlt
    have hqT : qB T k' b := c2
    have hu := side_un hT hqT
    have hbn := (q_lt2 hT.vo hqT).2
    rw [hT.len] at hbn
    have hkb : k' < b := by
      rcases Nat.lt_or_ge k' b with h1 | h1
      · exact h1
      · exfalso
        have hne := hu.1
        have hbk : b < k' := by omega
        rcases (hS.iff k' b hkn hbn).2 hu with e1 | e1
        · unfold qB at e1; rw [e1] at c1; cases c1
        · have : qB T b k' := by
            unfold qB at e1 ⊢
            rw [← heq b hbk]; exact e1
          exact side_asym hT.vo hqT this
    obtain ⟨i, hi, ei⟩ := List.getElem_of_mem ((mem_prA h (p := (k', b))).2 ⟨hkb, hbn, hu⟩)
    have gi : (prA zs)[i]?.getD (0, 0) = (k', b) := by rw [List.getElem?_eq_getElem hi, Option.getD_some, ei]
    refine lt_testBit i ?_ ?_ fun j hj => ?_
    · cases hc : (chC zs S).testBit i
      · rfl
      · have := (chC_bit zs S hi).1 hc
        rw [gi] at this
        unfold qB at this
        rw [this] at c1; cases c1
    · exact (chC_bit zs T hi).2 (by rw [gi]; exact hqT)
    · by_cases hjl : j < (prA zs).length
      · have hso := List.pairwise_iff_getElem.1 (prA_sorted zs) i j hi hjl hj
        rw [ei] at hso
        have gj : (prA zs)[j]?.getD (0, 0) = (prA zs)[j] := by rw [List.getElem?_eq_getElem hjl, Option.getD_some]
        have hqq : qB S (prA zs)[j].1 (prA zs)[j].2 ↔ qB T (prA zs)[j].1 (prA zs)[j].2 := by
          unfold qB
          rcases hso with h1 | ⟨h1, h2⟩
          · rw [heq _ h1]
          · rw [h1, c3 _ h2]
        rw [Bool.eq_iff_iff, chC_bit zs S hjl, chC_bit zs T hjl, gj]
        exact hqq
      · rw [Nat.testBit_lt_two_pow (Nat.lt_of_lt_of_le (chC_lt zs S) (Nat.pow_le_pow_right (by decide) (by omega))), Nat.testBit_lt_two_pow (Nat.lt_of_lt_of_le (chC_lt zs T) (Nat.pow_le_pow_right (by decide) (by omega)))]

/-- The least side. -/
def Least (zs T : List Int) : Prop := SideOf zs T ∧ ∀ T', SideOf zs T' → lexB T' T = false
theorem find_first {α β : Type} (f : α → Option β) {l : List α} {b : β} (h : l.findSome? f = some b) : ∃ i, ∃ hi : i < l.length, f l[i] = some b ∧ ∀ j, ∀ hj : j < i, f (l[j]'(by omega)) = none := by
  induction l with
  | nil => simp at h
  | cons x l ih =>
    rw [List.findSome?_cons] at h
    cases e : f x with
    | some y =>
      rw [e] at h
      exact ⟨0, by simp, by simpa using e.trans h, fun j hj => by omega⟩
    | none =>
      rw [e] at h
      obtain ⟨i, hi, e1, e2⟩ := ih h
      refine ⟨i + 1, by simpa using hi, by simpa using e1, fun j hj => ?_⟩
      cases j with
      | zero => simpa using e
      | succ j => simpa using e2 j (by omega)
theorem sdF_some (h : VoP zs) {T : List Int} (e : sdF zs = some T) : Least zs T := by
  obtain ⟨c, hc, e1, e2⟩ := find_first _ e
  simp only [List.getElem_range, List.length_range] at e1 e2 hc
  have hT := (sdC_side h e1).1
  refine ⟨hT, fun T' hT' => ?_⟩
  cases hl : lexB T' T
  · rfl
  · exfalso
    have h1 := lex_choice h hT' hT hl
    rw [chC_of h hc e1] at h1
    have := e2 _ h1
    rw [chC_some h hT'] at this
    cases this
theorem sdF_none (h : VoP zs) (e : sdF zs = none) : ∀ T, ¬ SideOf zs T := fun T hT => by
  unfold sdF at e
  rw [List.findSome?_eq_none_iff] at e
  have := e (chC zs T) (List.mem_range.2 (chC_lt zs T))
  rw [chC_some h hT] at this
  cases this
end
end Go.Proofs.YtghogabmkbadjaaDoor

/- Texts that several claims share, one behind the other. -/
import Derived.Test.YtdcdddmjffgibaaGreatGb
import Derived.Test.YtdcdddmjffgibaaGreatGa
import Derived.RegionTactic
set_option linter.unusedVariables false
set_option linter.unusedSimpArgs false
/- Two pairs apart, three items and one apart, zigzags: as both sides tell them. No program. -/
namespace Go.Proofs.YtdcdddmjffgibaaGreat
open Go.RowKit

/-- Whether four items pass a test. -/
def any4 (n : Nat) (t : Nat → Nat → Nat → Nat → Bool) : Bool := (List.range n).any fun a => (List.range n).any fun b => (List.range n).any fun c => (List.range n).any fun d => t a b c d
theorem any4_iff {n : Nat} {t : Nat → Nat → Nat → Nat → Bool} : any4 n t = true ↔ ∃ a b c d, a < n ∧ b < n ∧ c < n ∧ d < n ∧ t a b c d = true := by
  simp only [any4, List.any_eq_true, List.mem_range]
  constructor
  · rintro ⟨a, ha, b, hb, c, hc, d, hd, h⟩; exact ⟨a, b, c, d, ha, hb, hc, hd, h⟩
  · rintro ⟨a, b, c, d, ha, hb, hc, hd, h⟩; exact ⟨a, ha, b, hb, c, hc, d, hd, h⟩
theorem any4_none {n : Nat} {t : Nat → Nat → Nat → Nat → Bool} (h : ∀ a, a < n → ∀ b, b < n → ∀ c, c < n → ∀ d, d < n → t a b c d = false) : any4 n t = false := by
  cases e : any4 n t with
  | false => rfl
  | true =>
    obtain ⟨a, b, c, d, ha, hb, hc, hd, ht⟩ := any4_iff.1 e
    rw [h a ha b hb c hc d hd] at ht; cases ht
theorem any4_some {n a b c d : Nat} {t : Nat → Nat → Nat → Nat → Bool} (ha : a < n) (hb : b < n) (hc : c < n) (hd : d < n) (h : t a b c d = true) : any4 n t = true := any4_iff.2 ⟨a, b, c, d, ha, hb, hc, hd, h⟩

def tstTwo (zs : List Int) (a b c d : Nat) : Bool := bitB (zs[a]?.getD 0) b && (bitB (zs[c]?.getD 0) d && (!(a == c) && (!(a == d) && (!(b == c) && (!(b == d) && (!relB zs a c && (!relB zs a d && (!relB zs b c && !relB zs b d))))))))
def tstThr (zs : List Int) (a b c d : Nat) : Bool := bitB (zs[a]?.getD 0) b && (bitB (zs[b]?.getD 0) c && (!(d == a) && (!(d == b) && (!(d == c) && (!relB zs a d && (!relB zs b d && !relB zs c d))))))
def tstZig (zs : List Int) (a b c d : Nat) : Bool := bitB (zs[a]?.getD 0) b && (bitB (zs[c]?.getD 0) b && (bitB (zs[c]?.getD 0) d && (!(a == c) && (!(b == d) && (!relB zs a c && (!relB zs b d && !relB zs a d))))))
def twoB (zs : List Int) : Bool := any4 zs.length (tstTwo zs)
def thrB (zs : List Int) : Bool := any4 zs.length (tstThr zs)
def zigB (zs : List Int) : Bool := any4 zs.length (tstZig zs)
def twoR (zs : List Int) : Bool := vo zs && twoB zs
def thrR (zs : List Int) : Bool := vo zs && thrB zs
def zigR (zs : List Int) : Bool := vo zs && zigB zs

/-! What has no relation with an item, and with all of a set. -/
def relI (zs : List Int) (x : Nat) : Int := orI (zs[x]?.getD 0) (belI zs (powI x))
def unrI (zs : List Int) (x : Nat) : Int := lessI (powI zs.length - 1) (relI zs x)
def unrL (zs : List Int) (l : List Nat) : Int := l.foldl (fun t x => andI t (unrI zs x)) (powI zs.length - 1)
theorem unrL_snoc (zs : List Int) (l : List Nat) (x : Nat) : unrL zs (l ++ [x]) = andI (unrL zs l) (unrI zs x) := by simp [unrL]
theorem relI_bd {zs : List Int} (h : VoP zs) {x : Nat} (hx : x < zs.length) : 0 ≤ relI zs x ∧ relI zs x < powI zs.length := by
  have h1 := h.sets.2 x hx
  have h2 := powI_pos (x : Int)
  have h3 := belI_bd h.sets (s := powI x) (by omega) (powI_lt hx)
  exact orI_bd h1.1 h1.2 h3.1 h3.2
theorem unrI_bd (zs : List Int) (x : Nat) : 0 ≤ unrI zs x ∧ unrI zs x < powI zs.length := by
  have h1 := lessI_bd (powI zs.length - 1) (relI zs x)
  have h2 := powI_pos (zs.length : Int)
  unfold unrI; omega
theorem unrL_bd {zs : List Int} : ∀ l : List Nat, 0 ≤ unrL zs l ∧ unrL zs l < powI zs.length := fun l => by
  have key : ∀ (l : List Nat) (t : Int), 0 ≤ t → t < powI zs.length → 0 ≤ l.foldl (fun t x => andI t (unrI zs x)) t ∧ l.foldl (fun t x => andI t (unrI zs x)) t < powI zs.length := fun l => by
    induction l with
    | nil => intro t h0 h1; exact ⟨h0, h1⟩
    | cons a l ih =>
      intro t h0 h1
      have h3 := andI_bd t (unrI zs a)
      have h4 : andI t (unrI zs a) < powI zs.length := by omega
      exact ih _ h3.1 h4
  have h2 := powI_pos (zs.length : Int)
  exact key l _ (by omega) (by omega)
theorem unrI_bit {zs : List Int} (h : VoP zs) {x : Nat} (hx : x < zs.length) (j : Nat) : bitB (unrI zs x) j = true ↔ j < zs.length ∧ j ≠ x ∧ relB zs x j = false := by
  unfold unrI relI
  rw [bitB_less, Bool.and_eq_true, all_bits', decide_eq_true_eq, Bool.not_eq_true', bitB_or, Bool.or_eq_false_iff, ← Bool.not_eq_true (bitB (belI zs (powI x)) j), belI_bit h.sets (powI_lt hx)]
  unfold relB
  rw [Bool.or_eq_false_iff]
  constructor
  · rintro ⟨h1, h2, h3⟩
    refine ⟨h1, fun e => h3 (.inl (by rw [e, bitB_pow]; simp)), h2, ?_⟩
    cases hb : bitB (zs[j]?.getD 0) x with
    | false => rfl
    | true => exact absurd (.inr ⟨x, by rw [bitB_pow]; simp, hb⟩) h3
  · rintro ⟨h1, h2, h3, h4⟩
    refine ⟨h1, h3, ?_⟩
    rintro (e | ⟨b, e1, e2⟩)
    · rw [bitB_pow, decide_eq_true_eq] at e; exact h2 e.symm
    · rw [bitB_pow, decide_eq_true_eq] at e1
      rw [← e1, h4] at e2; cases e2
theorem unrL_bit {zs : List Int} (h : VoP zs) (j : Nat) : ∀ l : List Nat, (∀ x ∈ l, x < zs.length) → (bitB (unrL zs l) j = true ↔ j < zs.length ∧ ∀ x ∈ l, j ≠ x ∧ relB zs x j = false) := fun l => by
  have key : ∀ (l : List Nat) (t : Int), (∀ x ∈ l, x < zs.length) → (bitB (l.foldl (fun t x => andI t (unrI zs x)) t) j = true ↔ bitB t j = true ∧ ∀ x ∈ l, j < zs.length ∧ j ≠ x ∧ relB zs x j = false) := fun l => by
    induction l with
    | nil => intro t _; simp
    | cons a l ih =>
      intro t hl
      rw [List.foldl_cons, ih _ (fun x hx => hl x (by simp [hx])), bitB_and, Bool.and_eq_true, unrI_bit h (hl a (by simp))]
      constructor
      · rintro ⟨⟨h1, h2⟩, h3⟩
        refine ⟨h1, fun x hx => ?_⟩
        rcases List.mem_cons.1 hx with rfl | hx
        · exact h2
        · exact h3 x hx
      · rintro ⟨h1, h2⟩
        exact ⟨⟨h1, h2 a (by simp)⟩, fun x hx => h2 x (by simp [hx])⟩
  intro hl
  have := key l (powI zs.length - 1) hl
  rw [all_bits', decide_eq_true_eq] at this
  unfold unrL
  rw [this]
  constructor
  · rintro ⟨h1, h2⟩; exact ⟨h1, fun x hx => (h2 x hx).2⟩
  · rintro ⟨h1, h2⟩; exact ⟨h1, fun x hx => ⟨h1, h2 x hx⟩⟩

/-- The set of two items. -/
def prI (a b : Nat) : Int := orI (orI 0 (powI a)) (powI b)
theorem prI_bit (a b j : Nat) : bitB (prI a b) j = true ↔ j = a ∨ j = b := by
  unfold prI
  rw [bitB_or, bitB_or, bitB_zero, bitB_pow, bitB_pow]
  simp only [Bool.false_or, Bool.or_eq_true, decide_eq_true_eq]
  constructor
  · rintro (h | h) <;> simp [h]
  · rintro (h | h) <;> simp [h]
theorem prI_bd {n a b : Nat} (ha : a < n) (hb : b < n) : 0 ≤ prI a b ∧ prI a b < powI n := by
  have h1 := powI_pos (a : Int)
  have h2 := powI_pos (b : Int)
  have h3 := powI_pos (n : Int)
  have h4 := orI_bd (n := n) (a := 0) (b := powI a) (by omega) h3 (by omega) (powI_lt ha)
  exact orI_bd h4.1 h4.2 (by omega) (powI_lt hb)
theorem apB_false {zs : List Int} {s : Int} (h1 : s < 64) (h : apB zs s = false) : ∃ a b : Nat, bitB s a = true ∧ bitB s b = true ∧ bitB (zs[a]?.getD 0) b = true := by
  unfold apB at h
  rw [List.all_eq_false] at h
  obtain ⟨a, ha, hb⟩ := h
  have hne : andI (zs[a]?.getD 0) s ≠ 0 := by simpa using hb
  have h0 := andI_bd (zs[a]?.getD 0) s
  have : ∃ j : Nat, bitB (andI (zs[a]?.getD 0) s) j = true := by
    refine Classical.byContradiction fun hc => hne ?_
    refine bitB_ext h0.1 (by omega) fun j => ?_
    rw [bitB_zero]
    cases e : bitB (andI (zs[a]?.getD 0) s) j with
    | false => rfl
    | true => exact absurd ⟨j, e⟩ hc
  obtain ⟨j, hj⟩ := this
  rw [bitB_and, Bool.and_eq_true] at hj
  exact ⟨a, j, (mem_itemsL h1).1 ha, hj.2, hj.1⟩
theorem apB_some {zs : List Int} {s : Int} (h1 : s < 64) {a b : Nat} (ha : bitB s a = true) (hb : bitB s b = true) (h : bitB (zs[a]?.getD 0) b = true) : apB zs s = false := by
  unfold apB
  rw [List.all_eq_false]
  refine ⟨a, (mem_itemsL h1).2 ha, ?_⟩
  intro e
  have e : andI (zs[a]?.getD 0) s = 0 := by simpa using e
  have := bitB_and (zs[a]?.getD 0) s b
  rw [e, bitB_zero, h, hb] at this
  cases this

/-- What the program asks: two of what has no relation with a pair are a pair. -/
def tstPr (zs : List Int) (p : Nat × Nat) : Bool := !apB zs (unrL zs (itemsL (prI p.1 p.2)))
theorem two_pairs {zs : List Int} (h : VoP zs) : (pairsL zs).any (tstPr zs) = twoB zs := by
  have h6 := h.1
  have hp6 := powI_le6 (n := (zs.length : Int)) (by omega)
  have hmem : ∀ a b, a < zs.length → b < zs.length → ∀ x, x ∈ itemsL (prI a b) ↔ x = a ∨ x = b := fun a b ha hb x => by
    have := prI_bd ha hb
    rw [mem_itemsL (by omega), prI_bit]
  have hbit : ∀ a b, a < zs.length → b < zs.length → ∀ j : Nat, bitB (unrL zs (itemsL (prI a b))) j = true ↔ j < zs.length ∧ (j ≠ a ∧ relB zs a j = false) ∧ (j ≠ b ∧ relB zs b j = false) := fun a b ha hb j => by
    rw [unrL_bit h j _ (fun x hx => by rcases (hmem a b ha hb x).1 hx with rfl | rfl <;> assumption)]
    constructor
    · rintro ⟨h1, h2⟩
      exact ⟨h1, h2 a ((hmem a b ha hb a).2 (.inl rfl)), h2 b ((hmem a b ha hb b).2 (.inr rfl))⟩
    · rintro ⟨h1, h2, h3⟩
      refine ⟨h1, fun x hx => ?_⟩
      rcases (hmem a b ha hb x).1 hx with rfl | rfl
      · exact h2
      · exact h3
  have hlt : ∀ a b, unrL zs (itemsL (prI a b)) < 64 := fun a b => by have := unrL_bd (zs := zs) (itemsL (prI a b)); omega
  rw [Bool.eq_iff_iff]
  unfold twoB
  rw [any4_iff, List.any_eq_true]
  constructor
  · rintro ⟨⟨a, b⟩, hp, ht⟩
    obtain ⟨ha, hb, hab⟩ := h.sets.pair hp
    have ht : apB zs (unrL zs (itemsL (prI a b))) = false := by simpa [tstPr] using ht
    obtain ⟨c, d, hc, hd, hcd⟩ := apB_false (hlt a b) ht
    obtain ⟨hc1, ⟨hc2, hc3⟩, hc4, hc5⟩ := (hbit a b ha hb c).1 hc
    obtain ⟨hd1, ⟨hd2, hd3⟩, hd4, hd5⟩ := (hbit a b ha hb d).1 hd
    refine ⟨a, b, c, d, ha, hb, hc1, hd1, ?_⟩
    simp [tstTwo, hab, hcd, hc3, hc5, hd3, hd5, Ne.symm hc2, Ne.symm hc4, Ne.symm hd2, Ne.symm hd4]
  · rintro ⟨a, b, c, d, ha, hb, hc, hd, ht⟩
    simp only [tstTwo, Bool.and_eq_true, Bool.not_eq_true', beq_eq_false_iff_ne] at ht
    obtain ⟨hab, hcd, h1, h2, h3, h4, h5, h6', h7, h8⟩ := ht
    refine ⟨(a, b), mem_pairsL.2 ⟨ha, by omega, hab⟩, ?_⟩
    have : apB zs (unrL zs (itemsL (prI a b))) = false := apB_some (hlt a b) ((hbit a b ha hb c).2 ⟨hc, ⟨Ne.symm h1, h5⟩, Ne.symm h3, h7⟩) ((hbit a b ha hb d).2 ⟨hd, ⟨Ne.symm h2, h6'⟩, Ne.symm h4, h8⟩) hcd
    simp [tstPr, this]

/-- What the program asks: a chain of three and an item that has no relation with any of them. -/
def tstSet (zs : List Int) (s : Nat) : Bool := popI s == 3 && (chB zs s && !(unrL zs (itemsL s) == 0))
theorem three_sorted {zs : List Int} (h : VoP zs) {x y z : Nat} (hx : x < zs.length) (hy : y < zs.length) (hz : z < zs.length) (h1 : relB zs x y = true) (h2 : relB zs x z = true) (h3 : relB zs y z = true) :
    ∃ a b c : Nat, bitB (zs[a]?.getD 0) b = true ∧ bitB (zs[b]?.getD 0) c = true ∧ (∀ i, i = a ∨ i = b ∨ i = c ↔ i = x ∨ i = y ∨ i = z) := by
  unfold relB at h1 h2 h3
  rw [Bool.or_eq_true] at h1 h2 h3
  have tr : ∀ {a b c : Nat}, a < zs.length → bitB (zs[a]?.getD 0) b = true → bitB (zs[b]?.getD 0) c = true → bitB (zs[a]?.getD 0) c = true := fun ha h4 h5 =>
    (h.trans ⟨ha, h4⟩ ⟨h.lt_n ⟨ha, h4⟩, h5⟩).2
  rcases h1 with h1 | h1 <;> rcases h2 with h2 | h2 <;> rcases h3 with h3 | h3
  · exact ⟨x, y, z, h1, h3, fun i => Iff.rfl⟩
  · exact ⟨x, z, y, h2, h3, fun i => by omega⟩
  · exact absurd (tr hx h1 h3) (by rw [h.asym hz h2]; decide)
  · exact ⟨z, x, y, h2, h1, fun i => by omega⟩
  · exact ⟨y, x, z, h1, h2, fun i => by omega⟩
  · exact absurd (tr hx h2 h3) (by rw [h.asym hy h1]; decide)
  · exact ⟨y, z, x, h3, h2, fun i => by omega⟩
  · exact ⟨z, y, x, h3, h1, fun i => by omega⟩
/-- The set of three items. -/
def thI (a b c : Nat) : Int := orI (prI a b) (powI c)
theorem pop_three : ∀ a b c : Fin 6, a ≠ b → a ≠ c → b ≠ c → popI (thI a.val b.val c.val) = 3 := by decide +kernel
theorem len3 {l : List Nat} (h : l.length = 3) : ∃ x y z, l = [x, y, z] := by
  match l, h with
  | [x, y, z], _ => exact ⟨x, y, z, rfl⟩
theorem three_sets {zs : List Int} (h : VoP zs) : (List.range (2 ^ zs.length)).any (tstSet zs) = thrB zs := by
  have h6 := h.1
  have hp6 := powI_le6 (n := (zs.length : Int)) (by omega)
  have hpe : powI (zs.length : Int) = ((2 ^ zs.length : Nat) : Int) := by simp [powI]
  have tr : ∀ {a b c : Nat}, a < zs.length → bitB (zs[a]?.getD 0) b = true → bitB (zs[b]?.getD 0) c = true → bitB (zs[a]?.getD 0) c = true := fun ha h4 h5 =>
    (h.trans ⟨ha, h4⟩ ⟨h.lt_n ⟨ha, h4⟩, h5⟩).2
  rw [Bool.eq_iff_iff]
  unfold thrB
  rw [any4_iff, List.any_eq_true]
  constructor
  · rintro ⟨s, hs, ht⟩
    rw [List.mem_range] at hs
    simp only [tstSet, Bool.and_eq_true, beq_iff_eq, Bool.not_eq_true', beq_eq_false_iff_ne] at ht
    obtain ⟨ht1, ht2, ht3⟩ := ht
    have hs1 : (s : Int) < powI zs.length := by rw [hpe]; exact_mod_cast hs
    have hlen := popI_items (s := (s : Int)) (by omega) (by omega)
    obtain ⟨x, y, z, hl⟩ := len3 (l := itemsL (s : Int)) (by omega)
    have hm : ∀ i ∈ itemsL (s : Int), i < zs.length := fun i hi => bitB_lt hs1 ((mem_itemsL (by omega)).1 hi)
    have hc : ChP zs s := by simpa [chB] using ht2
    unfold ChP at hc
    rw [hl] at hm hc
    simp only [List.pairwise_cons, List.mem_cons, List.not_mem_nil, or_false, forall_eq_or_imp, forall_eq] at hc
    obtain ⟨a, b, c, hab, hbc, hi⟩ := three_sorted h (hm x (by simp)) (hm y (by simp)) (hm z (by simp)) hc.1.1 hc.1.2 hc.2.1
    have hma : ∀ i, i = a ∨ i = b ∨ i = c → i < zs.length := fun i e => hm i (by have := (hi i).1 e; simpa using this)
    have hne := unrL_bd (zs := zs) (itemsL (s : Int))
    have : ∃ d : Nat, bitB (unrL zs (itemsL (s : Int))) d = true := by
      refine Classical.byContradiction fun hc => ht3 ?_
      refine bitB_ext hne.1 (by omega) fun j => ?_
      rw [bitB_zero]
      cases e : bitB (unrL zs (itemsL (s : Int))) j with
      | false => rfl
      | true => exact absurd ⟨j, e⟩ hc
    obtain ⟨d, hd⟩ := this
    rw [unrL_bit h d _ (by rw [hl]; exact hm), hl] at hd
    obtain ⟨hd1, hd2⟩ := hd
    have hd3 : ∀ i, i = a ∨ i = b ∨ i = c → d ≠ i ∧ relB zs i d = false := fun i e => hd2 i (by have := (hi i).1 e; simpa using this)
    have da := hd3 a (.inl rfl)
    have db := hd3 b (.inr (.inl rfl))
    have dc := hd3 c (.inr (.inr rfl))
    exact ⟨a, b, c, d, hma a (.inl rfl), hma b (.inr (.inl rfl)), hma c (.inr (.inr rfl)), hd1, by simp [tstThr, hab, hbc, da.1, da.2, db.1, db.2, dc.1, dc.2]⟩
  · rintro ⟨a, b, c, d, ha, hb, hc, hd, ht⟩
    simp only [tstThr, Bool.and_eq_true, Bool.not_eq_true', beq_eq_false_iff_ne] at ht
    obtain ⟨hab, hbc, h1, h2, h3, h4, h5, h7⟩ := ht
    have hac := tr ha hab hbc
    have n1 : a ≠ b := fun e => by rw [← e, h.irrB ha] at hab; cases hab
    have n2 : a ≠ c := fun e => by rw [← e, h.irrB ha] at hac; cases hac
    have n3 : b ≠ c := fun e => by rw [← e, h.irrB hb] at hbc; cases hbc
    have hq := prI_bd ha hb
    have hpc := powI_pos (c : Int)
    have hth : 0 ≤ thI a b c ∧ thI a b c < powI zs.length := orI_bd hq.1 hq.2 (by omega) (powI_lt hc)
    have hbit : ∀ j : Nat, bitB (thI a b c) j = true ↔ j = a ∨ j = b ∨ j = c := fun j => by
      unfold thI
      rw [bitB_or, Bool.or_eq_true, prI_bit, bitB_pow, decide_eq_true_eq, or_assoc]
      constructor
      · rintro (e | e | e) <;> simp [e]
      · rintro (e | e | e) <;> simp [e]
    obtain ⟨s, hs⟩ := Int.eq_ofNat_of_zero_le hth.1
    have hmem : ∀ i, i ∈ itemsL (thI a b c) ↔ i = a ∨ i = b ∨ i = c := fun i => by rw [mem_itemsL (by omega), hbit]
    refine ⟨s, List.mem_range.2 (by have := hth.2; rw [hs, hpe] at this; exact_mod_cast this), ?_⟩
    unfold tstSet
    rw [show ((s : Nat) : Int) = thI a b c from hs.symm]
    have e1 : popI (thI a b c) = 3 := pop_three ⟨a, by omega⟩ ⟨b, by omega⟩ ⟨c, by omega⟩ (by simpa using n1) (by simpa using n2) (by simpa using n3)
    have r1 : relB zs a b = true := by simp [relB, hab]
    have r2 : relB zs a c = true := by simp [relB, hac]
    have r3 : relB zs b c = true := by simp [relB, hbc]
    have e2 : chB zs (thI a b c) = true := by
      unfold chB
      refine decide_eq_true (show ChP zs (thI a b c) from ?_)
      unfold ChP
      have hnd : (itemsL (thI a b c)).Pairwise (· < ·) := itemsL_sorted _
      refine hnd.imp_of_mem ?_
      intro x y hx hy hxy
      have hcm : ∀ u v, relB zs u v = relB zs v u := fun u v => by unfold relB; rw [Bool.or_comm]
      rcases (hmem x).1 hx with rfl | rfl | rfl <;> rcases (hmem y).1 hy with rfl | rfl | rfl <;> first | (exfalso; omega) | assumption | (rw [hcm]; assumption)
    have e3 : (unrL zs (itemsL (thI a b c)) == 0) = false := by
      rw [beq_eq_false_iff_ne]
      intro e
      have := (unrL_bit h d (itemsL (thI a b c)) (fun x hx => by rcases (hmem x).1 hx with rfl | rfl | rfl <;> assumption)).2 ⟨hd, fun x hx => by
        rcases (hmem x).1 hx with rfl | rfl | rfl
        · exact ⟨h1, h4⟩
        · exact ⟨h2, h5⟩
        · exact ⟨h3, h7⟩⟩
      rw [e, bitB_zero] at this; cases this
    rw [e1, e2, e3]; rfl
end Go.Proofs.YtdcdddmjffgibaaGreat

/- Two pairs apart, three items and one apart: turned round, and what they need (mathematics). No program. -/
namespace Go.Proofs.YtdcdddmjffgibaaGreat
open Go.RowKit

theorem duw_rel {zs : List Int} (h : Sets zs) (a b : Nat) : relB (du zs) a b = relB zs a b := by
  unfold relB
  rw [du_bit h, du_bit h, Bool.or_comm]
theorem du_two' {zs : List Int} (h : VoP zs) (ht : twoB zs = true) : twoB (du zs) = true := by
  unfold twoB at *
  obtain ⟨a, b, c, d, ha, hb, hc, hd, ht⟩ := any4_iff.1 ht
  rw [du_len]
  refine any4_some hb ha hd hc ?_
  simp only [tstTwo, Bool.and_eq_true, Bool.not_eq_true', beq_eq_false_iff_ne] at ht ⊢
  obtain ⟨h1, h2, h3, h4, h5, h6, h7, h8, h9, h10⟩ := ht
  exact ⟨by rw [du_bit h.sets]; exact h1, by rw [du_bit h.sets]; exact h2, h6, h5, h4, h3, by rw [duw_rel h.sets]; exact h10, by rw [duw_rel h.sets]; exact h9, by rw [duw_rel h.sets]; exact h8, by rw [duw_rel h.sets]; exact h7⟩
theorem du_two {zs : List Int} (h : VoP zs) : twoB (du zs) = twoB zs := by
  rw [Bool.eq_iff_iff]
  exact ⟨fun e => by have := du_two' (du_vo h) e; rwa [du_du h] at this, du_two' h⟩
theorem du_thr {zs : List Int} (h : VoP zs) (ht : thrB zs = true) : thrB (du zs) = true := by
  unfold thrB at *
  obtain ⟨a, b, c, d, ha, hb, hc, hd, ht⟩ := any4_iff.1 ht
  rw [du_len]
  refine any4_some hc hb ha hd ?_
  simp only [tstThr, Bool.and_eq_true, Bool.not_eq_true', beq_eq_false_iff_ne] at ht ⊢
  obtain ⟨h1, h2, h3, h4, h5, h6, h7, h8⟩ := ht
  exact ⟨by rw [du_bit h.sets]; exact h2, by rw [du_bit h.sets]; exact h1, h5, h4, h3, by rw [duw_rel h.sets]; exact h8, by rw [duw_rel h.sets]; exact h7, by rw [duw_rel h.sets]; exact h6⟩
theorem thr_long {zs : List Int} (h : VoP zs) (ht : thrB zs = true) : 3 ≤ longI zs := by
  unfold thrB at ht
  obtain ⟨a, b, c, d, ha, hb, hc, hd, ht⟩ := any4_iff.1 ht
  simp only [tstThr, Bool.and_eq_true] at ht
  have h1 := hgt_up h (a := a) (b := b) ⟨ha, ht.1⟩
  have h2 := hgt_up h (a := b) (b := c) ⟨hb, ht.2.1⟩
  have h3 := longI_gt hc
  have h4 := hgt_nn zs a
  omega
theorem popw_two : ∀ a b : Fin 6, a ≠ b → popI (prI a.val b.val) = 2 := by decide +kernel
theorem wide_two {zs : List Int} (h : VoP zs) {a b : Nat} (ha : a < zs.length) (hb : b < zs.length) (hne : a ≠ b) (hr : relB zs a b = false) : 2 ≤ wideR zs := by
  have h6 := h.1
  have hp6 := powI_le6 (n := (zs.length : Int)) (by omega)
  have hpr := prI_bd ha hb
  have hp2 := popw_two ⟨a, by omega⟩ ⟨b, by omega⟩ (by simpa using hne)
  simp only at hp2
  unfold relB at hr
  rw [Bool.or_eq_false_iff] at hr
  have hap : apB zs (prI a b) = true := by
    cases e : apB zs (prI a b) with
    | true => rfl
    | false =>
      obtain ⟨x, y, hx, hy, hxy⟩ := apB_false (by omega) e
      rw [prI_bit] at hx hy
      rcases hx with rfl | rfl <;> rcases hy with rfl | rfl
      · rw [h.irrB ha] at hxy; cases hxy
      · rw [hr.1] at hxy; cases hxy
      · rw [hr.2] at hxy; cases hxy
      · rw [h.irrB hb] at hxy; cases hxy
  obtain ⟨s, hs⟩ := Int.eq_ofNat_of_zero_le hpr.1
  have hpw := setsN_pow zs
  rw [hs] at hap hp2 hpr
  have := grTo_ge (p := apB zs) (j := s) hap (setsN zs) (by omega)
  unfold wideR
  rw [vo_true h, if_pos rfl]
  omega
theorem thr_wide {zs : List Int} (h : VoP zs) (ht : thrB zs = true) : 2 ≤ wideR zs := by
  unfold thrB at ht
  obtain ⟨a, b, c, d, ha, hb, hc, hd, ht⟩ := any4_iff.1 ht
  simp only [tstThr, Bool.and_eq_true, Bool.not_eq_true', beq_eq_false_iff_ne] at ht
  exact wide_two h ha hd (Ne.symm ht.2.2.1) ht.2.2.2.2.2.1
theorem two_wide {zs : List Int} (h : VoP zs) (ht : twoB zs = true) : 2 ≤ wideR zs ∧ 4 ≤ zs.length := by
  unfold twoB at ht
  obtain ⟨a, b, c, d, ha, hb, hc, hd, ht⟩ := any4_iff.1 ht
  simp only [tstTwo, Bool.and_eq_true, Bool.not_eq_true', beq_eq_false_iff_ne] at ht
  obtain ⟨h1, h2, h3, h4, h5, h6, h7, h8, h9, h10⟩ := ht
  refine ⟨wide_two h ha hc h3 h7, ?_⟩
  have n1 : a ≠ b := fun e => by rw [← e, h.irrB ha] at h1; cases h1
  have n2 : c ≠ d := fun e => by rw [← e, h.irrB hc] at h2; cases h2
  omega
end Go.Proofs.YtdcdddmjffgibaaGreat

/- Orders without two pairs: what is above items is nested, and tells spans (mathematics). No program. -/
namespace Go.Proofs.YtdcdddmjffgibaaGreat
open Go.RowKit

theorem ilt_or_ge (a b : Int) : a < b ∨ b ≤ a := by omega
/-! Sets within sets. -/
theorem sub_less {a b : Int} (h : ∀ j : Nat, bitB a j = true → bitB b j = true) : lessI a b = 0 := by
  have h0 := lessI_bd a b
  refine bitB_ext h0.1 (by omega) fun j => ?_
  rw [bitB_less, bitB_zero]
  cases e : bitB a j with
  | false => rfl
  | true => rw [h j e]; rfl
theorem popw_sub_fin : ∀ a b : Fin 64, lessI a.val b.val = 0 → popI (a.val : Int) ≤ popI (b.val : Int) ∧ (popI (b.val : Int) ≤ popI (a.val : Int) → a = b) := by decide +kernel
theorem popw_sub {a b : Int} (ha0 : 0 ≤ a) (ha : a < 64) (hb0 : 0 ≤ b) (hb : b < 64) (h : ∀ j : Nat, bitB a j = true → bitB b j = true) : popI a ≤ popI b ∧ (popI b ≤ popI a → a = b) := by
  obtain ⟨x, rfl⟩ := Int.eq_ofNat_of_zero_le ha0
  obtain ⟨y, rfl⟩ := Int.eq_ofNat_of_zero_le hb0
  have h1 := sub_less h
  obtain ⟨h2, h3⟩ := popw_sub_fin ⟨x, by omega⟩ ⟨y, by omega⟩ h1
  refine ⟨h2, fun h4 => ?_⟩
  have := h3 h4
  rw [Fin.mk.injEq] at this
  rw [this]

/-- How many items are above an item. -/
def pU (zs : List Int) (c : Nat) : Int := popI (zs[c]?.getD 0)
abbrev bt (zs : List Int) (a b : Nat) : Prop := bitB (zs[a]?.getD 0) b = true
theorem VoP.tr {zs : List Int} (h : VoP zs) {a b c : Nat} (ha : a < zs.length) (h1 : bt zs a b) (h2 : bt zs b c) : bt zs a c := (h.trans ⟨ha, h1⟩ ⟨h.lt_n ⟨ha, h1⟩, h2⟩).2
theorem nested {zs : List Int} (h : VoP zs) (ht : twoB zs = false) {a c : Nat} (ha : a < zs.length) (hc : c < zs.length) :
    (∀ j : Nat, bt zs a j → bt zs c j) ∨ (∀ j : Nat, bt zs c j → bt zs a j) := by
  refine Classical.byContradiction fun hn => ?_
  rw [not_or] at hn
  obtain ⟨h1, h2⟩ := hn
  have h1 : ∃ b : Nat, bt zs a b ∧ ¬ bt zs c b := Classical.byContradiction fun hh => h1 fun j hj => Classical.byContradiction fun hj' => hh ⟨j, hj, hj'⟩
  have h2 : ∃ d : Nat, bt zs c d ∧ ¬ bt zs a d := Classical.byContradiction fun hh => h2 fun j hj => Classical.byContradiction fun hj' => hh ⟨j, hj, hj'⟩
  obtain ⟨b, hab, hcb⟩ := h1
  obtain ⟨d, hcd, had⟩ := h2
  have hb := h.lt_n ⟨ha, hab⟩
  have hd := h.lt_n ⟨hc, hcd⟩
  have n1 : a ≠ c := fun e => by subst e; exact hcb hab
  have n2 : a ≠ d := fun e => by subst e; exact hcb (h.tr hc hcd hab)
  have n3 : b ≠ c := fun e => by subst e; exact had (h.tr ha hab hcd)
  have n4 : b ≠ d := fun e => by subst e; exact hcb hcd
  have rel : ∀ {x y : Nat}, ¬ bt zs x y → ¬ bt zs y x → relB zs x y = false := fun hx hy => by
    unfold relB
    rw [Bool.or_eq_false_iff]
    exact ⟨by simpa using hx, by simpa using hy⟩
  have r1 : relB zs a c = false := rel (fun e => had (h.tr ha e hcd)) (fun e => hcb (h.tr hc e hab))
  have r2 : relB zs a d = false := rel had (fun e => hcb (h.tr hc (h.tr hc hcd e) hab))
  have r3 : relB zs b c = false := rel (fun e => had (h.tr ha (h.tr ha hab e) hcd)) hcb
  have r4 : relB zs b d = false := rel (fun e => had (h.tr ha hab e)) (fun e => hcb (h.tr hc hcd e))
  have : twoB zs = true := by
    unfold twoB
    refine any4_some ha hb hc hd ?_
    simp only [tstTwo, Bool.and_eq_true, Bool.not_eq_true', beq_eq_false_iff_ne]
    exact ⟨hab, hcd, n1, n2, n3, n4, r1, r2, r3, r4⟩
  rw [ht] at this; cases this
theorem ups_sub {zs : List Int} (h : VoP zs) {a c : Nat} (ha : a < zs.length) (hc : c < zs.length) (hs : ∀ j : Nat, bt zs a j → bt zs c j) : pU zs a ≤ pU zs c ∧ (pU zs c ≤ pU zs a → zs[a]?.getD 0 = zs[c]?.getD 0) := by
  have h1 := h.bd a ha
  have h2 := h.bd c hc
  exact popw_sub h1.1 h1.2 h2.1 h2.2 hs
theorem ups_inj {zs : List Int} (h : VoP zs) (ht : twoB zs = false) {a c : Nat} (ha : a < zs.length) (hc : c < zs.length) (he : pU zs a = pU zs c) : zs[a]?.getD 0 = zs[c]?.getD 0 := by
  rcases nested h ht ha hc with hs | hs
  · exact (ups_sub h ha hc hs).2 (by omega)
  · exact ((ups_sub h hc ha hs).2 (by omega)).symm
/-- What has an item above that another one lacks has more above. -/
theorem ups_more {zs : List Int} (h : VoP zs) (ht : twoB zs = false) {a c : Nat} (ha : a < zs.length) (hc : c < zs.length) {b : Nat} (h1 : bt zs a b) (h2 : ¬ bt zs c b) : pU zs c < pU zs a := by
  rcases nested h ht ha hc with hs | hs
  · exact absurd (hs b h1) h2
  · have h3 := ups_sub h hc ha hs
    rcases ilt_or_ge (pU zs c) (pU zs a) with h4 | h4
    · exact h4
    · have := h3.2 h4
      unfold bt at h1 h2
      rw [this] at h2
      exact absurd h1 h2
theorem ups_ex {zs : List Int} (h : VoP zs) (ht : twoB zs = false) {a c : Nat} (ha : a < zs.length) (hc : c < zs.length) (hl : pU zs a < pU zs c) : ∃ b : Nat, bt zs c b ∧ ¬ bt zs a b := by
  refine Classical.byContradiction fun hn => ?_
  have hs : ∀ j : Nat, bt zs c j → bt zs a j := fun j hj => Classical.byContradiction fun hj' => hn ⟨j, hj, hj'⟩
  have := (ups_sub h hc ha hs).1
  omega
theorem pU_nn {zs : List Int} (h : VoP zs) {c : Nat} (hc : c < zs.length) : 0 ≤ pU zs c := by
  have := h.bd c hc
  exact (popI_bd this.1 this.2).1

/-! The number that tells what is below an item. -/
/-- The most that is above an item that the set lacks. -/
def tauI (zs : List Int) (d : Int) : Int := maxL (pU zs) ((List.range zs.length).filter fun c : Nat => !bitB d c) - 1
theorem tau_col {zs : List Int} (h : VoP zs) (ht : twoB zs = false) {b : Nat} (hb : b < zs.length) :
    (∃ c, c < zs.length ∧ pU zs c = tauI zs ((du zs)[b]?.getD 0)) ∧ ∀ c, c < zs.length → (bt zs c b ↔ tauI zs ((du zs)[b]?.getD 0) < pU zs c) := by
  have hmem : ∀ c : Nat, c ∈ ((List.range zs.length).filter fun c : Nat => !bitB ((du zs)[b]?.getD 0) c) ↔ c < zs.length ∧ ¬ bt zs c b := fun c => by
    rw [List.mem_filter, List.mem_range, Bool.not_eq_true', du_bit h.sets]
    unfold bt
    rw [Bool.not_eq_true]
  unfold tauI
  generalize hl : ((List.range zs.length).filter fun c : Nat => !bitB ((du zs)[b]?.getD 0) c) = l at *
  have hge := maxL_ge (pU zs) l
  have hbl : b ∈ l := (hmem b).2 ⟨hb, fun e => by rw [bt, h.irrB hb] at e; cases e⟩
  have hex : ∃ c ∈ l, maxL (pU zs) l = pU zs c + 1 := by
    rcases maxL_eq (pU zs) l with e | e
    · have h1 := hge.2 b hbl
      have h2 := pU_nn h hb
      omega
    · exact e
  obtain ⟨c0, hc0, e0⟩ := hex
  obtain ⟨hc0n, hc0b⟩ := (hmem c0).1 hc0
  refine ⟨⟨c0, hc0n, by omega⟩, fun c hc => ⟨fun hcb => ?_, fun hlt => ?_⟩⟩
  · have := ups_more h ht hc hc0n hcb hc0b
    omega
  · refine Classical.byContradiction fun hn => ?_
    have := hge.2 c ((hmem c).2 ⟨hc, hn⟩)
    omega
abbrev tC (zs : List Int) (b : Nat) : Int := tauI zs ((du zs)[b]?.getD 0)
theorem tau_inj {zs : List Int} (h : VoP zs) (ht : twoB zs = false) {b d : Nat} (hb : b < zs.length) (hd : d < zs.length) (he : tC zs b = tC zs d) : (du zs)[b]?.getD 0 = (du zs)[d]?.getD 0 := by
  have h1 := (tau_col h ht hb).2
  have h2 := (tau_col h ht hd).2
  have hD := du_vo h
  refine bitB_ext (hD.bd b (by rw [du_len]; exact hb)).1 (hD.bd d (by rw [du_len]; exact hd)).1 fun c => ?_
  rw [du_bit h.sets, du_bit h.sets, Bool.eq_iff_iff]
  by_cases hc : c < zs.length
  · have h3 := h1 c hc
    have h4 := h2 c hc
    unfold bt at h3 h4
    unfold tC at he
    rw [h3, h4, he]
  · have hz : zs[c]?.getD 0 = 0 := by rw [List.getElem?_eq_none (by omega)]; rfl
    rw [hz, bitB_zero, bitB_zero]
/-- What is below items: more of it where the number is less. -/
theorem col_lt {zs : List Int} (h : VoP zs) (ht : twoB zs = false) {b d : Nat} (hb : b < zs.length) (hd : d < zs.length) :
    popI ((du zs)[d]?.getD 0) < popI ((du zs)[b]?.getD 0) ↔ tC zs b < tC zs d := by
  have hD := du_vo h
  have key : ∀ {b d : Nat}, b < zs.length → d < zs.length → tC zs b < tC zs d → popI ((du zs)[d]?.getD 0) < popI ((du zs)[b]?.getD 0) := fun {b d} hb hd hlt => by
    obtain ⟨⟨c0, hc0, e0⟩, hdc⟩ := tau_col h ht hd
    have hbc := (tau_col h ht hb).2
    unfold tC at hlt
    have hB := hD.bd b (by rw [du_len]; exact hb)
    have hDd := hD.bd d (by rw [du_len]; exact hd)
    have hs : ∀ j : Nat, bitB ((du zs)[d]?.getD 0) j = true → bitB ((du zs)[b]?.getD 0) j = true := fun j hj => by
      rw [du_bit h.sets] at hj ⊢
      have hjn : j < zs.length := by
        rcases Nat.lt_or_ge j zs.length with h9 | h9
        · exact h9
        · rw [List.getElem?_eq_none (by omega)] at hj; simp [bitB_zero] at hj
      have h5 := (hdc j hjn).1 hj
      exact (hbc j hjn).2 (by omega)
    obtain ⟨h6, h7⟩ := popw_sub hDd.1 hDd.2 hB.1 hB.2 hs
    rcases ilt_or_ge (popI ((du zs)[d]?.getD 0)) (popI ((du zs)[b]?.getD 0)) with h8 | h8
    · exact h8
    · exfalso
      have e := h7 h8
      have h9 : bt zs c0 b := (hbc c0 hc0).2 (by omega)
      have h10 : bt zs c0 d := by
        unfold bt at h9 ⊢
        rw [← du_bit h.sets, e, du_bit h.sets]; exact h9
      have := (hdc c0 hc0).1 h10
      omega
  constructor
  · intro hp
    rcases ilt_or_ge (tC zs b) (tC zs d) with h1 | h1
    · exact h1
    · exfalso
      rcases ilt_or_ge (tC zs d) (tC zs b) with h2 | h2
      · have := key hd hb h2; omega
      · have := tau_inj h ht hb hd (by omega)
        rw [this] at hp; omega
  · exact key hb hd
/-- Each number of items above is one that tells what is below an item. -/
theorem tau_all {zs : List Int} (h : VoP zs) (ht : twoB zs = false) {a : Nat} (ha : a < zs.length) : ∃ b, b < zs.length ∧ tC zs b = pU zs a := by
  by_cases hmax : ∀ c, c < zs.length → pU zs c ≤ pU zs a
  · refine ⟨a, ha, ?_⟩
    obtain ⟨⟨c0, hc0, e0⟩, hac⟩ := tau_col h ht ha
    have h1 := hmax c0 hc0
    have h2 : ¬ bt zs a a := fun e => by rw [bt, h.irrB ha] at e; cases e
    have h3 := mt (hac a ha).2 h2
    unfold tC
    omega
  · have hex : ∃ c, c < zs.length ∧ pU zs a < pU zs c := by
      refine Classical.byContradiction fun hn => hmax fun c hc => ?_
      refine Int.not_lt.1 fun h1 => hn ⟨c, hc, h1⟩
    have hmin : ∀ k : Nat, ∀ c, c < zs.length → pU zs a < pU zs c → (pU zs c).toNat ≤ k → ∃ m, m < zs.length ∧ pU zs a < pU zs m ∧ ∀ q, q < zs.length → pU zs a < pU zs q → pU zs m ≤ pU zs q := fun k => by
      induction k with
      | zero => intro c hc h1 h2; have := pU_nn h ha; omega
      | succ k ih =>
        intro c hc h1 h2
        by_cases hs : ∃ q, q < zs.length ∧ pU zs a < pU zs q ∧ pU zs q < pU zs c
        · obtain ⟨q, hq, h3, h4⟩ := hs
          exact ih q hq h3 (by omega)
        · exact ⟨c, hc, h1, fun q hq h3 => Int.not_lt.1 fun h4 => hs ⟨q, hq, h3, h4⟩⟩
    obtain ⟨c, hc, hac⟩ := hex
    obtain ⟨m, hm, ham, hmm⟩ := hmin _ c hc hac (Nat.le_refl _)
    obtain ⟨b, hmb, hab⟩ := ups_ex h ht ha hm ham
    have hb := h.lt_n ⟨hm, hmb⟩
    obtain ⟨⟨c0, hc0, e0⟩, hcol⟩ := tau_col h ht hb
    have h1 := (hcol m hm).1 hmb
    have h2 := mt (hcol a ha).2 hab
    refine ⟨b, hb, ?_⟩
    unfold tC
    rcases ilt_or_ge (pU zs a) (pU zs c0) with h3 | h3
    · have := hmm c0 hc0 h3; omega
    · omega

/-! Both lists of numbers. -/
def valU (zs : List Int) : List Int := (difA zs).map popI
def valD (zs : List Int) : List Int := (difA (du zs)).map (tauI zs)
theorem mem_at {zs : List Int} {y : Int} : y ∈ zs ↔ ∃ a, a < zs.length ∧ zs[a]?.getD 0 = y := by
  constructor
  · intro h
    obtain ⟨i, hi, e⟩ := List.getElem_of_mem h
    exact ⟨i, hi, by rw [List.getElem?_eq_getElem hi]; exact e⟩
  · rintro ⟨a, ha, rfl⟩
    rw [List.getElem?_eq_getElem ha]; exact List.getElem_mem ha
theorem valU_mem (zs : List Int) (v : Int) : v ∈ valU zs ↔ ∃ a, a < zs.length ∧ pU zs a = v := by
  unfold valU
  rw [List.mem_map]
  constructor
  · rintro ⟨y, hy, rfl⟩
    rw [difA_mem] at hy
    obtain ⟨a, ha, rfl⟩ := mem_at.1 hy
    exact ⟨a, ha, rfl⟩
  · rintro ⟨a, ha, rfl⟩
    exact ⟨_, (difA_mem _ _).2 (mem_at.2 ⟨a, ha, rfl⟩), rfl⟩
theorem valD_mem (zs : List Int) (v : Int) : v ∈ valD zs ↔ ∃ b, b < zs.length ∧ tC zs b = v := by
  unfold valD
  rw [List.mem_map]
  constructor
  · rintro ⟨y, hy, rfl⟩
    rw [difA_mem] at hy
    obtain ⟨a, ha, rfl⟩ := mem_at.1 hy
    exact ⟨a, by rwa [du_len] at ha, rfl⟩
  · rintro ⟨a, ha, rfl⟩
    exact ⟨_, (difA_mem _ _).2 (mem_at.2 ⟨a, by rw [du_len]; exact ha, rfl⟩), rfl⟩
theorem valU_nodup {zs : List Int} (h : VoP zs) (ht : twoB zs = false) : (valU zs).Nodup := by
  unfold valU List.Nodup
  rw [List.pairwise_map]
  refine (difA_nodup zs).imp_of_mem ?_
  intro x y hx hy hne e
  rw [difA_mem] at hx hy
  obtain ⟨a, ha, rfl⟩ := mem_at.1 hx
  obtain ⟨c, hc, rfl⟩ := mem_at.1 hy
  exact hne (ups_inj h ht ha hc e)
theorem valD_nodup {zs : List Int} (h : VoP zs) (ht : twoB zs = false) : (valD zs).Nodup := by
  unfold valD List.Nodup
  rw [List.pairwise_map]
  refine (difA_nodup (du zs)).imp_of_mem ?_
  intro x y hx hy hne e
  rw [difA_mem] at hx hy
  obtain ⟨a, ha, rfl⟩ := mem_at.1 hx
  obtain ⟨c, hc, rfl⟩ := mem_at.1 hy
  rw [du_len] at ha hc
  exact hne (tau_inj h ht ha hc e)
theorem val_perm {zs : List Int} (h : VoP zs) (ht : twoB zs = false) : (valD zs).Perm (valU zs) := by
  refine (List.perm_ext_iff_of_nodup (valD_nodup h ht) (valU_nodup h ht)).2 fun v => ?_
  rw [valD_mem, valU_mem]
  constructor
  · rintro ⟨b, hb, rfl⟩
    exact (tau_col h ht hb).1
  · rintro ⟨a, ha, rfl⟩
    exact tau_all h ht ha
theorem ups_downs {zs : List Int} (h : VoP zs) (ht : twoB zs = false) : (difA (du zs)).length = (difA zs).length := by
  have := (val_perm h ht).length_eq
  unfold valD valU at this
  simpa using this

/-! Spans. -/
/-- How many different sets below items are less than that below the item. -/
def firR (zs : List Int) (b : Nat) : Nat := ((difA (du zs)).filter fun d => decide (popI d < popI ((du zs)[b]?.getD 0))).length
/-- How many different sets above items are greater than that above the item. -/
def lasR (zs : List Int) (a : Nat) : Nat := ((difA zs).filter fun u => decide (popI (zs[a]?.getD 0) < popI u)).length
def gtN (l : List Int) (t : Int) : Nat := (l.filter fun v => decide (t < v)).length
theorem filter_map_len {α β : Type} (f : α → β) (p : β → Bool) (q : α → Bool) : ∀ l : List α, (∀ x ∈ l, p (f x) = q x) → ((l.map f).filter p).length = (l.filter q).length
  | [], _ => rfl
  | x :: l, h => by
    have ih := filter_map_len f p q l (fun y hy => h y (by simp [hy]))
    rw [List.map_cons, List.filter_cons, List.filter_cons, h x (by simp)]
    split <;> simp [ih]
theorem las_gt (zs : List Int) (a : Nat) : lasR zs a = gtN (valU zs) (pU zs a) := by
  unfold lasR gtN valU
  exact (filter_map_len popI (fun v => decide (pU zs a < v)) (fun u => decide (popI (zs[a]?.getD 0) < popI u)) _ (fun _ _ => rfl)).symm
theorem fir_gt {zs : List Int} (h : VoP zs) (ht : twoB zs = false) {b : Nat} (hb : b < zs.length) : firR zs b = gtN (valU zs) (tC zs b) := by
  have h1 : firR zs b = gtN (valD zs) (tC zs b) := by
    unfold firR gtN valD
    refine (filter_map_len (tauI zs) _ _ _ (fun x hx => ?_)).symm
    rw [difA_mem] at hx
    obtain ⟨d, hd, rfl⟩ := mem_at.1 hx
    rw [du_len] at hd
    have := col_lt h ht hb hd
    rw [Bool.eq_iff_iff, decide_eq_true_eq, decide_eq_true_eq]
    exact this.symm
  rw [h1]
  unfold gtN
  exact ((val_perm h ht).filter _).length_eq
theorem gt_mono (l : List Int) {s t : Int} (h : s ≤ t) : gtN l t ≤ gtN l s := by
  unfold gtN
  induction l with
  | nil => simp
  | cons x l ih =>
    rw [List.filter_cons, List.filter_cons]
    by_cases h1 : t < x
    · rw [if_pos (by simpa using h1), if_pos (by simp; omega)]; simp; exact ih
    · rw [if_neg (by simpa using h1)]
      split
      · simp; omega
      · exact ih
theorem gt_strict {l : List Int} {t v : Int} (hv : v ∈ l) (h : t < v) : gtN l v < gtN l t := by
  induction l with
  | nil => cases hv
  | cons x l ih =>
    have hm := gt_mono l (show t ≤ v by omega)
    unfold gtN at *
    rw [List.filter_cons, List.filter_cons]
    rcases List.mem_cons.1 hv with rfl | hv
    · rw [if_neg (by simp), if_pos (by simpa using h)]; simp; omega
    · have := ih hv
      by_cases h1 : v < x
      · rw [if_pos (by simpa using h1), if_pos (by simp; omega)]; simp; exact this
      · rw [if_neg (by simpa using h1)]
        split
        · simp; omega
        · exact this
theorem gt_len {l : List Int} {v : Int} (hv : v ∈ l) : gtN l v < l.length := by
  have h1 := gt_strict hv (show v - 1 < v by omega)
  have h2 : gtN l (v - 1) ≤ l.length := List.length_filter_le _ _
  omega
theorem span_lt {zs : List Int} (h : VoP zs) (ht : twoB zs = false) {a b : Nat} (ha : a < zs.length) (hb : b < zs.length) : bitB (zs[a]?.getD 0) b = decide (lasR zs a < firR zs b) := by
  rw [las_gt, fir_gt h ht hb, Bool.eq_iff_iff, decide_eq_true_eq]
  have h1 := (tau_col h ht hb).2 a ha
  constructor
  · intro h2
    exact gt_strict ((valU_mem _ _).2 ⟨a, ha, rfl⟩) (h1.1 h2)
  · intro h2
    refine h1.2 (Int.not_le.1 fun h3 => ?_)
    exact absurd h2 (Nat.not_lt.2 (gt_mono (valU zs) h3))
theorem span_ok {zs : List Int} (h : VoP zs) (ht : twoB zs = false) {a : Nat} (ha : a < zs.length) : firR zs a ≤ lasR zs a ∧ lasR zs a < (difA zs).length := by
  have h1 := span_lt h ht ha ha
  rw [h.irrB ha] at h1
  have h2 : ¬ lasR zs a < firR zs a := by simpa using h1.symm
  refine ⟨by omega, ?_⟩
  have h3 := gt_len ((valU_mem zs (pU zs a)).2 ⟨a, ha, rfl⟩)
  rw [las_gt]
  unfold valU at h3 ⊢
  rwa [List.length_map] at h3
end Go.Proofs.YtdcdddmjffgibaaGreat

/- Two pairs apart, three items and one apart: the program's. -/
namespace Go.Proofs.YtdcdddmjffgibaaGreat
open Go.RowKit Go.Shelf
attribute [local go_sem] Oper.semAt_some
attribute [local go_sem, local simp] wide_fn

theorem zero_or (x : Int) (h : 0 ≤ x) : orI 0 x = x := by unfold orI; simp; omega

set_option maxRecDepth 100000 in
set_option maxHeartbeats 4000000 in
theorem orelated_any (A : Option Addr) (n c : Nat) (zs : List Int) (x : Nat) (hvo : VoP zs) (w : World) (hA : Ints w w.heap.size A n zs) (hx : x < n) :
    Calls Tryz.prog 77 #[.slice A n c, .int .i64 (x : Int)] w fun e W' => e = .returned (.int .i64 (relI zs x)) ∧ Below w.heap.size w W' := by
  have hlen := Lib.hid hA.len
  have hn6 : n ≤ 6 := by have := hvo.1; rw [hlen.out] at this; exact this
  obtain ⟨bl, off, rfl, hbl, hc⟩ := hA.at_ hx
  have hcx := hc x hx
  clear hc
  have hzx := hvo.bd x (by rw [hlen.out]; exact hx)
  have hpp := powI_pos (x : Int)
  have hpx : powI (x : Int) < powI (n : Int) := powI_lt hx
  have hpn := powI_le6 (n := (n : Int)) (by omega)
  have hbel := belI_bd hvo.sets (s := powI (x : Int)) (by omega) (by rw [hlen.out]; exact hpx)
  rw [hlen.out] at hbel
  have hw1 := fun w => with_any 0 (x : Int) w (by omega) (by omega) (by omega) (by omega)
  rw [zero_or _ (by omega)] at hw1
  have hor : bits .or .i64 (zs[x]?.getD 0) (belI zs (powI (x : Int))) = relI zs x := bits_or (by omega) (by omega) (by omega) (by omega)
  have hbelow := fun w hA => obelow_any (some ⟨bl, off, none⟩) n c zs (powI (x : Int)) hvo w hA (by omega) hpx
  generalize belI zs (powI (x : Int)) = bb at *
  generalize powI (x : Int) = px at *
  generalize relI zs x = r at *
  generalize zs[x]?.getD 0 = zx at *
  go_enter Tryz.func77, Tryz.ntmps77
  go_wp2
  refine region_T (S := (fun w' => w'.cell? ⟨bl, off + x, none⟩ = some (.int .i64 zx))) 9 (by kernel_rfl) ?_
  have hSd : (fun w' => w'.cell? ⟨bl, off + x, none⟩ = some (.int .i64 zx)) w.drew := hcx
  have hAd : Ints w.drew w.drew.heap.size (some ⟨bl, off, none⟩) n zs := hA
  have hWd : Upd (fun _ => False) w w.drew := (Upd.refl _ w).drew
  obtain ⟨Wd, hWd2⟩ : ∃ Wd, w.drew = Wd := ⟨_, rfl⟩
  rw [hWd2] at hSd hAd hWd ⊢
  clear hWd2
  refine anyT_take (i := 0) (oi := ?oi0a) (v := .slice (some ⟨bl, off, none⟩) n c) ?hi0a (by kernel_rfl) ?hq0a ?hy0a (by assumption) ?rest0a
  case hi0a => (simp only [List.getElem?_toArray, List.getElem?_cons_zero]; first | done | rfl)
  case hq0a => first | exact fun _ _ _ h => h | exact fun _ _ _ h => (by cases h.1)
  case hy0a => (refine Or.inl ⟨by rfl, ?_⟩; intro wz hSw; go_simp; first | done | with_reducible rfl | simp | omega)
  try simp only [Act.put, List.setIfInBounds_toArray, List.set_cons_zero, List.set_cons_succ]
  refine anyT_take (i := 1) (oi := ?oi1a) (v := .int .i64 (x : Int)) ?hi1a (by kernel_rfl) ?hq1a ?hy1a (by assumption) ?rest1a
  case hi1a => (simp only [List.getElem?_toArray, List.getElem?_cons_succ, List.getElem?_cons_zero]; first | done | rfl)
  case hq1a => first | exact fun _ _ _ h => h | exact fun _ _ _ h => (by cases h.1)
  case hy1a => (refine Or.inl ⟨by rfl, ?_⟩; intro wz hSw; go_simp; first | done | with_reducible rfl | simp | omega)
  try simp only [Act.put, List.setIfInBounds_toArray, List.set_cons_zero, List.set_cons_succ]
  refine anyT_take (i := 2) (oi := ?oi2a) (v := .pointer (some ⟨bl, off + x, none⟩)) ?hi2a (by kernel_rfl) ?hq2a ?hy2a (by assumption) ?rest2a
  case hi2a => (simp only [List.getElem?_toArray, List.getElem?_cons_succ, List.getElem?_cons_zero]; first | done | rfl)
  case hq2a => first | exact fun _ _ _ h => h | exact fun _ _ _ h => (by cases h.1)
  case hy2a => (refine Or.inl ⟨by rfl, ?_⟩; intro wz hSw; go_simp; first | done | with_reducible rfl | simp | omega)
  try simp only [Act.put, List.setIfInBounds_toArray, List.set_cons_zero, List.set_cons_succ]
  refine anyT_take (i := 3) (oi := ?oi3a) (v := .int .i64 zx) ?hi3a (by kernel_rfl) ?hq3a ?hy3a (by assumption) ?rest3a
  case hi3a => (simp only [List.getElem?_toArray, List.getElem?_cons_succ, List.getElem?_cons_zero]; first | done | rfl)
  case hq3a => first | exact fun _ _ _ h => h | exact fun _ _ _ h => (by cases h.1)
  case hy3a => (refine Or.inl ⟨by rfl, ?_⟩; intro wz hSw; obtain hS1 := hSw; go_simp; first | done | with_reducible rfl | simp | omega)
  try simp only [Act.put, List.setIfInBounds_toArray, List.set_cons_zero, List.set_cons_succ]
  refine anyT_take (i := 4) (oi := ?oi4a) (v := .slice (some ⟨bl, off, none⟩) n c) ?hi4a (by kernel_rfl) ?hq4a ?hy4a (by assumption) ?rest4a
  case hi4a => (simp only [List.getElem?_toArray, List.getElem?_cons_succ, List.getElem?_cons_zero]; first | done | rfl)
  case hq4a => first | exact fun _ _ _ h => h | exact fun _ _ _ h => (by cases h.1)
  case hy4a => (refine Or.inl ⟨by rfl, ?_⟩; intro wz hSw; go_simp; first | done | with_reducible rfl | simp | omega)
  try simp only [Act.put, List.setIfInBounds_toArray, List.set_cons_zero, List.set_cons_succ]
  refine anyT_take (i := 5) (oi := ?oi5a) (v := .int .i64 (x : Int)) ?hi5a (by kernel_rfl) ?hq5a ?hy5a (by assumption) ?rest5a
  case hi5a => (simp only [List.getElem?_toArray, List.getElem?_cons_succ, List.getElem?_cons_zero]; first | done | rfl)
  case hq5a => first | exact fun _ _ _ h => h | exact fun _ _ _ h => (by cases h.1)
  case hy5a => (refine Or.inl ⟨by rfl, ?_⟩; intro wz hSw; go_simp; first | done | with_reducible rfl | simp | omega)
  try simp only [Act.put, List.setIfInBounds_toArray, List.set_cons_zero, List.set_cons_succ]
  refine anyT_one (i := 6) (by kernel_rfl) rfl (fun K' hK => ?_)
  go_simp
  refine (hw1 _).mono ?_
  rintro e w' ⟨rfl, rfl⟩
  refine hK.out _ _ (fun _ => hSd) ?_
  clear hK K'
  try simp only [Act.put, List.setIfInBounds_toArray, List.set_cons_zero, List.set_cons_succ]
  refine anyT_one (i := 7) (by kernel_rfl) rfl (fun K' hK => ?_)
  go_simp
  refine (hbelow Wd hAd).mono ?_
  rintro e W2 ⟨rfl, hB2⟩
  have hU2 : Upd (fun _ => False) w W2 := hWd.below hB2 (fun k h1 h2 => by have := hWd.size; omega)
  have hS2 : (fun w' => w'.cell? ⟨bl, off + x, none⟩ = some (.int .i64 zx)) W2 := hU2.cell hcx (fun e => e)
  refine hK.out _ _ (fun _ => hS2) ?_
  clear hK K'
  try simp only [Act.put, List.setIfInBounds_toArray, List.set_cons_zero, List.set_cons_succ]
  refine anyT_one (i := 8) (by kernel_rfl) rfl (fun K' hK => ?_)
  go_simp
  refine hK.out _ _ (fun _ => hS2) ?_
  clear hK K'
  try simp only [Act.put, List.setIfInBounds_toArray, List.set_cons_zero, List.set_cons_succ]
  refine anyT_one (i := 9) (by kernel_rfl) rfl (fun K' hK => ?_)
  go_simp
  refine hK.out _ _ (fun h => absurd rfl h) ?_
  clear hK K'
  try simp only [Act.put, List.setIfInBounds_toArray, List.set_cons_zero, List.set_cons_succ]
  refine anyT_done (by kernel_rfl) ?_ _
  go_wp2
  go_ret
  exact ⟨rfl, hU2.toBelow (fun _ e => e.elim) (Nat.le_refl _)⟩

set_option maxHeartbeats 1000000 in
theorem ounrelated_any (A : Option Addr) (n c : Nat) (zs : List Int) (x : Nat) (hvo : VoP zs) (w : World) (hA : Ints w w.heap.size A n zs) (hx : x < n) :
    Calls Tryz.prog 65 #[.slice A n c, .int .i64 (x : Int)] w fun e W' => e = .returned (.int .i64 (unrI zs x)) ∧ Below w.heap.size w W' := by
  have hlen := Lib.hid hA.len
  have hn6 : n ≤ 6 := by have := hvo.1; rw [hlen.out] at this; exact this
  have hpn := powI_le6 (n := (n : Int)) (by omega)
  have hpp := powI_pos (n : Int)
  have hr := relI_bd hvo (x := x) (by rw [hlen.out]; exact hx)
  rw [hlen.out] at hr
  have hle : bits .andNot .i64 (powI n - 1) (relI zs x) = unrI zs x := (bits_less (by omega) (by omega) (by omega) (by omega)).trans (by unfold unrI; rw [hlen.out])
  have H1 := Lib.hid (fun w => oall_any A n c w hn6)
  have H2 := Lib.hid (fun w hA => orelated_any A n c zs x hvo w hA hx)
  generalize relI zs x = r at *
  generalize unrI zs x = u at *
  generalize powI (n : Int) - 1 = pn at *
  go_enter Tryz.func65, Tryz.ntmps65
  go_wp2_with (first
    | (go_at_call 64; refine (H1.out _).mono ?_; rintro e w' ⟨rfl, rfl⟩)
    | (go_at_call 77; refine (H2.out _ hA).mono ?_; rintro e w' ⟨rfl, hB⟩))
  go_ret
  exact ⟨rfl, hB⟩

set_option maxRecDepth 100000 in
set_option maxHeartbeats 4000000 in
theorem ounrelatedToAll_any (A : Option Addr) (n c : Nat) (zs : List Int) (s : Int) (hvo : VoP zs) (w : World) (hA : Ints w w.heap.size A n zs) (h0 : 0 ≤ s) (h1 : s < powI n) :
    Calls Tryz.prog 43 #[.slice A n c, .int .i64 s] w fun e W' => e = .returned (.int .i64 (unrL zs (itemsL s))) ∧ Below w.heap.size w W' := by
  have hlen := Lib.hid hA.len
  have hn6 : n ≤ 6 := by have := hvo.1; rw [hlen.out] at this; exact this
  have hpk : powI n ≤ 64 := powI_le6 (by omega)
  have hpp := powI_pos (n : Int)
  have H0 := Lib.hid (show powI n - 1 = unrL zs [] by unfold unrL; rw [hlen.out]; rfl)
  refine (callsIn_wide (n := 9)).1 ?_
  refine callsIn_of_wp_marks Tryz.func43 rfl trivial ?_ rfl
  simp only [Tryz.ntmps43, List.size_toArray, List.length_cons, List.length_nil, Nat.reduceAdd, Nat.reduceSub, Array.replicate_succ, Array.replicate_zero, List.push_toArray, List.append_toArray, List.nil_append, List.cons_append]
  gi_wp2_with (first
    | (gi_at_call 64; refine (callsIn_wide.2 (oall_any _ _ _ _ hn6)).mono ?_; rintro e w' ⟨rfl, rfl⟩)
    | (gi_at_call 63; refine (callsIn_wide.2 (each_any _ _)).mono ?_; rintro e w' ⟨rfl, rfl⟩))
  have bO := ((Boxed.new w 40 (.slice A n c)).alloc (.cells #[Value.int .i64 (powI n - 1)] 59)).alloc (.cells #[Value.int .i64 s] 59)
  have bT := (Boxed.new (w.alloc (.cells #[Value.slice A n c] 40)) 59 (.int .i64 (powI n - 1))).alloc (.cells #[Value.int .i64 s] 59)
  have bE := Boxed.new ((w.alloc (.cells #[Value.slice A n c] 40)).alloc (.cells #[Value.int .i64 (powI n - 1)] 59)) 59 (.int .i64 s)
  have hu0 : Upd (fun _ => False) w (((w.alloc (.cells #[Value.slice A n c] 40)).alloc (.cells #[Value.int .i64 (powI n - 1)] 59)).alloc (.cells #[Value.int .i64 s] 59)) := (((Upd.refl _ w).alloc _).alloc _).alloc _
  have hz0 : (((w.alloc (.cells #[Value.slice A n c] 40)).alloc (.cells #[Value.int .i64 (powI n - 1)] 59)).alloc (.cells #[Value.int .i64 s] 59)).heap.size = w.heap.size + 3 := by simp
  simp only [World.size_alloc] at bT bE
  obtain ⟨W0, hW0⟩ : ∃ W0, (((w.alloc (.cells #[Value.slice A n c] 40)).alloc (.cells #[Value.int .i64 (powI n - 1)] 59)).alloc (.cells #[Value.int .i64 s] 59)) = W0 := ⟨_, rfl⟩
  rw [hW0] at bO bT bE hu0 hz0 ⊢
  clear hW0
  have hA0 : Ints W0 w.heap.size A n zs := hA.below (hu0.toBelow (fun _ e => e.elim) (Nat.le_refl _))
  refine range_out (n := 9) (gf := 75) (lb := #[.pointer (some ⟨w.heap.size + 1 + 1, 0, none⟩)]) rfl (enters_of Tryz.func75 (by kernel_rfl) rfl) (encs := encI) (L := itemsL s)
    (fun k => k = w.heap.size + 1) (fun k e => by omega) (fun _ => rfl)
    (fun W1 l1 hu1 hl1 hl2 => each_iter s h0 (by omega) _ _ W1 (hu1.boxed bE (fun e => e)) (fun e => by omega))
    (fun pre D W => Boxed W (w.heap.size + 1) 59 (.int .i64 (unrL zs pre)) ∧ Upd (fun k => k = w.heap.size + 1) W0 W)
    (fun _ _ _ _ => False)
    (fun _ D X Y hs hu => ⟨hu.boxed hs.1 (fun e => by omega), hs.2.trans' hu (fun i hi e => by omega)⟩)
    (fun _ _ _ _ _ hs _ => hs)
    ⟨by rw [← H0.out]; exact bT, Upd.refl _ _⟩ ?owes ?done ?stop
  case owes =>
    rintro l1 pre x D1 W hl1 hl2 hDl hD1 - hpre K hK
    gi_wp2
    refine hK _ _ (Upd.refl _ _) ?_
    rintro Wb hWb - ⟨bT1, hU⟩
    clear hK
    obtain ⟨hx6, hxb⟩ := mem_itemsTo.1 (hpre.subset (by simp : x ∈ pre ++ [x]))
    have hxn := bitB_lt h1 hxb
    have hcall := fun w hA => ounrelated_any A n c zs x hvo w hA hxn
    have hb1 := unrL_bd (zs := zs) pre
    have hb2 := unrI_bd zs x
    rw [hlen.out] at hb1 hb2
    have hand : bits .and .i64 (unrL zs pre) (unrI zs x) = andI (unrL zs pre) (unrI zs x) := bits_and (by omega) (by omega) (by omega) (by omega)
    have Hsn := Lib.hid (unrL_snoc zs pre x)
    have bSd : Boxed Wb.drew (w.heap.size + 1) 59 (.int .i64 (unrL zs pre)) := bT1
    have bVd : Boxed Wb.drew w.heap.size 40 (.slice A n c) := hU.boxed bO (by omega)
    have hszb := hWb.size
    have hsb := hU.size
    have hAd : Ints Wb.drew Wb.drew.heap.size A n zs := (hA0.keep (fun p hp => World.cell?_of_block (hU.block p.block (by omega) (by omega)))).more (by show w.heap.size ≤ Wb.heap.size; omega)
    have hWd : Upd (fun _ => False) Wb Wb.drew := (Upd.refl _ Wb).drew
    have hUd : Upd (fun k => k = w.heap.size + 1) W0 Wb.drew := hU.drew
    clear bT1
    generalize unrL zs pre = up at *
    generalize unrI zs x = ux at *
    gi_wp2
    refine region_T_round (S := (fun w' => w'.cell? ⟨w.heap.size + 1, 0, none⟩ = some (.int .i64 up) ∧ w'.cell? ⟨w.heap.size, 0, none⟩ = some (.slice A n c))) 5 (by kernel_rfl) (by kernel_rfl) (by rintro ⟨_, _, h⟩; exact h) ?_
    obtain ⟨Wd, hWd2⟩ : ∃ Wd, Wb.drew = Wd := ⟨_, rfl⟩
    rw [hWd2] at bSd bVd hAd hWd hUd ⊢
    clear hWd2
    have hSd : (fun w' => w'.cell? ⟨w.heap.size + 1, 0, none⟩ = some (.int .i64 up) ∧ w'.cell? ⟨w.heap.size, 0, none⟩ = some (.slice A n c)) Wd := ⟨bSd.cell, bVd.cell⟩
    refine anyT_take (i := 0) (oi := ?oi0a) (v := .int .i64 up) ?hi0a (by kernel_rfl) ?hq0a ?hy0a (by assumption) ?rest0a
    case hi0a => (simp only [List.getElem?_toArray, List.getElem?_cons_zero]; first | done | rfl)
    case hq0a => first | exact fun _ _ _ h => h | exact fun _ _ _ h => (by cases h.1)
    case hy0a => (refine Or.inl ⟨by rfl, ?_⟩; intro wz hSw; obtain ⟨hS1, hS2⟩ := hSw; go_simp; first | done | with_reducible rfl | simp | omega)
    try simp only [Act.put, List.setIfInBounds_toArray, List.set_cons_zero, List.set_cons_succ]
    refine anyT_take (i := 1) (oi := ?oi1a) (v := .slice A n c) ?hi1a (by kernel_rfl) ?hq1a ?hy1a (by assumption) ?rest1a
    case hi1a => (simp only [List.getElem?_toArray, List.getElem?_cons_succ, List.getElem?_cons_zero]; first | done | rfl)
    case hq1a => first | exact fun _ _ _ h => h | exact fun _ _ _ h => (by cases h.1)
    case hy1a => (refine Or.inl ⟨by rfl, ?_⟩; intro wz hSw; obtain ⟨hS1, hS2⟩ := hSw; go_simp; first | done | with_reducible rfl | simp | omega)
    try simp only [Act.put, List.setIfInBounds_toArray, List.set_cons_zero, List.set_cons_succ]
    refine anyT_take (i := 2) (oi := ?oi2a) (v := .int .i64 (x : Int)) ?hi2a (by kernel_rfl) ?hq2a ?hy2a (by assumption) ?rest2a
    case hi2a => (simp only [List.getElem?_toArray, List.getElem?_cons_succ, List.getElem?_cons_zero]; first | done | rfl)
    case hq2a => first | exact fun _ _ _ h => h | exact fun _ _ _ h => (by cases h.1)
    case hy2a => (refine Or.inl ⟨by rfl, ?_⟩; intro wz hSw; obtain ⟨hS1, hS2⟩ := hSw; go_simp; first | done | with_reducible rfl | simp | omega)
    try simp only [Act.put, List.setIfInBounds_toArray, List.set_cons_zero, List.set_cons_succ]
    refine anyT_one (i := 3) (by kernel_rfl) rfl (fun K' hK => ?_)
    go_simp
    refine (hcall Wd hAd).mono ?_
    rintro e W2 ⟨rfl, hB2⟩
    have hzd := hWd.size
    have hU2 : Upd (fun k => k = w.heap.size + 1) W0 W2 := hUd.below hB2 (fun k h1 h2 => by omega)
    have bS2 : Boxed W2 (w.heap.size + 1) 59 (.int .i64 up) := (hB2.block _ (by omega)).trans bSd
    have bV2 : Boxed W2 w.heap.size 40 (.slice A n c) := (hB2.block _ (by omega)).trans bVd
    have hS2 : (fun w' => w'.cell? ⟨w.heap.size + 1, 0, none⟩ = some (.int .i64 up) ∧ w'.cell? ⟨w.heap.size, 0, none⟩ = some (.slice A n c)) W2 := ⟨bS2.cell, bV2.cell⟩
    refine hK.out _ _ (fun _ => hS2) ?_
    clear hK K'
    try simp only [Act.put, List.setIfInBounds_toArray, List.set_cons_zero, List.set_cons_succ]
    refine anyT_one (i := 4) (by kernel_rfl) rfl (fun K' hK => ?_)
    go_simp
    refine hK.out _ _ (fun _ => hS2) ?_
    clear hK K'
    try simp only [Act.put, List.setIfInBounds_toArray, List.set_cons_zero, List.set_cons_succ]
    have hcS2 := bS2.cell
    have hfS2 := bS2.frozen
    refine anyT_one (i := 5) (by kernel_rfl) rfl (fun K' hK => ?_)
    go_simp
    refine hK.out _ _ (fun h => absurd rfl h) ?_
    clear hK K'
    try simp only [Act.put, List.setIfInBounds_toArray, List.set_cons_zero, List.set_cons_succ]
    refine anyT_done (by kernel_rfl) ?_ _
    have hus : Upd (fun k => k = w.heap.size + 1) W2 (W2.setCell ⟨w.heap.size + 1, 0, none⟩ (.int .i64 (andI up ux))) := (Upd.refl (fun k => k = w.heap.size + 1) W2).setCell (p := ⟨w.heap.size + 1, 0, none⟩) (.inr rfl) _
    have hV2 : Upd (fun k => k = w.heap.size + 1 ∨ D1 k ∨ W.heap.size ≤ k) Wb W2 := (hWd.mono (fun _ _ e => e.elim)).below hB2 (fun k h1 h2 => by omega)
    gi_wp2
    exact ⟨D1, ⟨by rw [Hsn.out]; exact bS2.set _, hU2.trans' hus (fun i hi e => e)⟩, hV2.trans' hus (fun i hi e => .inl e), fun k hk => .inl hk⟩
  case done =>
    rintro d D1 W hd ⟨bT1, hU⟩ hD1 hKd
    have hcT := bT1.cell
    gi_wp2
    refine leaves_marks [d] _ ⟨by simp, fun b hb => ?_⟩ (fun W' hu' => ?_)
    · rw [List.mem_singleton.1 hb]
      exact hKd
    · exact ⟨.int .i64 (unrL zs (itemsL s)), by simp [results, Tryz.f43, go_sem], rfl,
        (((hu0.mono fun _ _ e => e.elim).trans' hU (fun i hi e => by omega)).trans' hu' (fun i hi e => by simp at e; omega)).toBelow (R := fun _ => False) (fun _ e => e.elim) (Nat.le_refl _)⟩
  case stop =>
    rintro d D1 co pre W hd hpre h
    exact h.elim
end Go.Proofs.YtdcdddmjffgibaaGreat

/- Two pairs apart, three items and one apart: the program's, whole. -/
namespace Go.Proofs.YtdcdddmjffgibaaGreat
open Go.RowKit Go.Shelf
attribute [local go_sem] Oper.semAt_some
attribute [local go_sem, local simp] wide_fn

def prAny (zs : List Int) (l : List (Nat × Nat)) : Bool := l.any (tstPr zs)
def seAny (zs : List Int) (l : List Nat) : Bool := l.any (tstSet zs)
theorem any_snoc {α : Type} {p : α → Bool} {l : List α} {x : α} (h : l.any p = false) (hx : p x = false) : (l ++ [x]).any p = false := by rw [List.any_append, h]; simp [hx]
theorem any_of_pre {α : Type} {p : α → Bool} {l m : List α} {x : α} (h : l ++ [x] <+: m) (hx : p x = true) : m.any p = true := by
  obtain ⟨t, rfl⟩ := h
  simp [hx]

set_option maxRecDepth 100000 in
set_option maxHeartbeats 4000000 in
theorem ohasTwo_any (A : Option Addr) (n c : Nat) (zs : List Int) (hvo : VoP zs) (w : World) (hA : Ints w w.heap.size A n zs) :
    Calls Tryz.prog 21 #[.slice A n c] w fun e W' => e = .returned (.bool (twoB zs)) ∧ Below w.heap.size w W' := by
  have hv := hvo.sets
  have hlen := Lib.hid hA.len
  have hn6 : n ≤ 6 := by have := hv.1; rw [hlen.out] at this; exact this
  have hpk : powI n ≤ 64 := powI_le6 (by omega)
  have HE := Lib.hid (show prAny zs (pairsL zs) = twoB zs from two_pairs hvo)
  refine (callsIn_wide (n := 9)).1 ?_
  refine callsIn_of_wp_marks Tryz.func21 rfl trivial ?_ rfl
  simp only [Tryz.ntmps21, List.size_toArray, List.length_cons, List.length_nil, Nat.reduceAdd, Nat.reduceSub, Array.replicate_succ, Array.replicate_zero, List.push_toArray, List.append_toArray, List.nil_append, List.cons_append]
  gi_wp2_with (gi_at_call 42; refine (callsIn_wide.2 (pairs_any _ _ _ _)).mono ?_; rintro e w' ⟨rfl, rfl⟩)
  have bO := ((Boxed.new w 40 (.slice A n c)).alloc (.cells #[Value.bool false] 4)).alloc (.cells #[Value.slice A n c] 40)
  have bR := (Boxed.new (w.alloc (.cells #[Value.slice A n c] 40)) 4 (.bool false)).alloc (.cells #[Value.slice A n c] 40)
  have bP := Boxed.new ((w.alloc (.cells #[Value.slice A n c] 40)).alloc (.cells #[Value.bool false] 4)) 40 (.slice A n c)
  have hu0 : Upd (fun _ => False) w (((w.alloc (.cells #[Value.slice A n c] 40)).alloc (.cells #[Value.bool false] 4)).alloc (.cells #[Value.slice A n c] 40)) := (((Upd.refl _ w).alloc _).alloc _).alloc _
  have hz0 : (((w.alloc (.cells #[Value.slice A n c] 40)).alloc (.cells #[Value.bool false] 4)).alloc (.cells #[Value.slice A n c] 40)).heap.size = w.heap.size + 3 := by simp
  simp only [World.size_alloc] at bR bP
  obtain ⟨W0, hW0⟩ : ∃ W0, (((w.alloc (.cells #[Value.slice A n c] 40)).alloc (.cells #[Value.bool false] 4)).alloc (.cells #[Value.slice A n c] 40)) = W0 := ⟨_, rfl⟩
  rw [hW0] at bO bR bP hu0 hz0 ⊢
  clear hW0
  have hA0 : Ints W0 w.heap.size A n zs := hA.below (hu0.toBelow (fun _ e => e.elim) (Nat.le_refl _))
  refine range_out (n := 9) (gf := 62) (lb := #[.pointer (some ⟨w.heap.size + 1 + 1, 0, none⟩)]) rfl (enters_of Tryz.func62 (by kernel_rfl) rfl) (encs := encP) (L := pairsL zs)
    (fun k => k = w.heap.size + 1) (fun k e => by omega) (fun _ => rfl)
    (fun W1 l1 hu1 hl1 hl2 => pairs_iter_at hv bP (fun k e => by omega) (by omega) hA0 (by omega) (fun k e => by omega) hu1 hl1 hl2)
    (fun pre D W => prAny zs pre = false ∧ Boxed W (w.heap.size + 1) 4 (.bool false) ∧ Upd (fun k => k = w.heap.size + 1) W0 W)
    (fun co pre D W => co = .ret ∧ prAny zs (pairsL zs) = true ∧ Boxed W (w.heap.size + 1) 4 (.bool true) ∧ Upd (fun k => k = w.heap.size + 1) W0 W)
    (fun s D X Y hs hu => ⟨hs.1, hu.boxed hs.2.1 (fun e => by omega), hs.2.2.trans' hu (fun i hi e => by omega)⟩)
    (fun co s D X Y hs hu => ⟨hs.1, hs.2.1, hu.boxed hs.2.2.1 (fun e => by omega), hs.2.2.2.trans' hu (fun i hi e => by omega)⟩)
    ⟨rfl, bR, Upd.refl _ _⟩ ?owes ?done ?stop
  case owes =>
    rintro l1 pre ⟨lo, hi⟩ D1 W hl1 hl2 hDl hD1 - hpre K hK
    gi_wp2
    refine hK _ _ (Upd.refl _ _) ?_
    rintro Wb hWb - ⟨hno, bR1, hU⟩
    clear hK
    obtain ⟨hlo, hhi, hbit⟩ := hv.pair (a := lo) (b := hi) (hpre.subset (by simp))
    rw [hlen.out] at hlo hhi
    have hszb := hWb.size
    have hsb := hU.size
    have hpl := powI_lt hlo
    have hph := powI_lt hhi
    have hpl0 := powI_pos (lo : Int)
    have hph0 := powI_pos (hi : Int)
    have hpr := prI_bd hlo hhi
    have hul := unrL_bd (zs := zs) (itemsL (prI lo hi))
    rw [hlen.out] at hul
    have hol0 : 0 ≤ orI 0 (powI (lo : Int)) ∧ orI 0 (powI (lo : Int)) < powI n := orI_bd (by omega) (by omega) (by omega) hpl
    have hw1 := fun w => with_any 0 (lo : Int) w (by omega) (by omega) (by omega) (by omega)
    have hw2 := fun w => with_any (orI 0 (powI (lo : Int))) (hi : Int) w (by omega) (by omega) (by omega) (by omega)
    rw [show orI (orI 0 (powI (lo : Int))) (powI (hi : Int)) = prI lo hi from rfl] at hw2
    have hc1 := fun w hA => ounrelatedToAll_any A n c zs (prI lo hi) hvo w hA hpr.1 hpr.2
    have hc2 := fun w hA => isApart_any A n c zs (unrL zs (itemsL (prI lo hi))) hv w hA hul.1 hul.2
    have Ht := Lib.hid (show tstPr zs (lo, hi) = !apB zs (unrL zs (itemsL (prI lo hi))) from rfl)
    generalize unrL zs (itemsL (prI lo hi)) = ul at *
    generalize prI lo hi = pr at *
    generalize orI 0 (powI (lo : Int)) = ol at *
    have bVd : Boxed Wb.drew w.heap.size 40 (.slice A n c) := hU.boxed bO (by omega)
    have bRd : Boxed Wb.drew (w.heap.size + 1) 4 (.bool false) := bR1
    have hAd : Ints Wb.drew Wb.drew.heap.size A n zs := (hA0.keep (fun p hp => World.cell?_of_block (hU.block p.block (by omega) (by omega)))).more (by show w.heap.size ≤ Wb.heap.size; omega)
    have hWd : Upd (fun _ => False) Wb Wb.drew := (Upd.refl _ Wb).drew
    have hUd : Upd (fun k => k = w.heap.size + 1) W0 Wb.drew := hU.drew
    clear bR1
    gi_wp2
    refine region_T_round (S := (fun w' => w'.cell? ⟨w.heap.size, 0, none⟩ = some (.slice A n c))) 8 (by kernel_rfl) (by kernel_rfl) (by rintro ⟨_, _, h⟩; exact h) ?_
    obtain ⟨Wd, hWd2⟩ : ∃ Wd, Wb.drew = Wd := ⟨_, rfl⟩
    rw [hWd2] at bVd bRd hAd hWd hUd ⊢
    clear hWd2
    have hSd : (fun w' => w'.cell? ⟨w.heap.size, 0, none⟩ = some (.slice A n c)) Wd := bVd.cell
    refine anyT_take (i := 0) (oi := ?oi0a) (v := .slice A n c) ?hi0a (by kernel_rfl) ?hq0a ?hy0a (by assumption) ?rest0a
    case hi0a => (simp only [List.getElem?_toArray, List.getElem?_cons_zero]; first | done | rfl)
    case hq0a => first | exact fun _ _ _ h => h | exact fun _ _ _ h => (by cases h.1)
    case hy0a => (refine Or.inl ⟨by rfl, ?_⟩; intro wz hSw; obtain hS1 := hSw; go_simp; first | done | with_reducible rfl | simp | omega)
    try simp only [Act.put, List.setIfInBounds_toArray, List.set_cons_zero, List.set_cons_succ]
    refine anyT_take (i := 1) (oi := ?oi1a) (v := .slice A n c) ?hi1a (by kernel_rfl) ?hq1a ?hy1a (by assumption) ?rest1a
    case hi1a => (simp only [List.getElem?_toArray, List.getElem?_cons_succ, List.getElem?_cons_zero]; first | done | rfl)
    case hq1a => first | exact fun _ _ _ h => h | exact fun _ _ _ h => (by cases h.1)
    case hy1a => (refine Or.inl ⟨by rfl, ?_⟩; intro wz hSw; obtain hS1 := hSw; go_simp; first | done | with_reducible rfl | simp | omega)
    try simp only [Act.put, List.setIfInBounds_toArray, List.set_cons_zero, List.set_cons_succ]
    refine anyT_take (i := 2) (oi := ?oi2a) (v := .int .i64 (lo : Int)) ?hi2a (by kernel_rfl) ?hq2a ?hy2a (by assumption) ?rest2a
    case hi2a => (simp only [List.getElem?_toArray, List.getElem?_cons_succ, List.getElem?_cons_zero]; first | done | rfl)
    case hq2a => first | exact fun _ _ _ h => h | exact fun _ _ _ h => (by cases h.1)
    case hy2a => (refine Or.inl ⟨by rfl, ?_⟩; intro wz hSw; go_simp; first | done | with_reducible rfl | simp | omega)
    try simp only [Act.put, List.setIfInBounds_toArray, List.set_cons_zero, List.set_cons_succ]
    refine anyT_take (i := 4) (oi := ?oi4a) (v := .int .i64 (hi : Int)) ?hi4a (by kernel_rfl) ?hq4a ?hy4a (by assumption) ?rest4a
    case hi4a => (simp only [List.getElem?_toArray, List.getElem?_cons_succ, List.getElem?_cons_zero]; first | done | rfl)
    case hq4a => first | exact fun _ _ _ h => h | exact fun _ _ _ h => (by cases h.1)
    case hy4a => (refine Or.inl ⟨by rfl, ?_⟩; intro wz hSw; go_simp; first | done | with_reducible rfl | simp | omega)
    try simp only [Act.put, List.setIfInBounds_toArray, List.set_cons_zero, List.set_cons_succ]
    refine anyT_one (i := 3) (by kernel_rfl) rfl (fun K' hK => ?_)
    go_simp
    refine (hw1 _).mono ?_
    rintro e w' ⟨rfl, rfl⟩
    refine hK.out _ _ (fun _ => hSd) ?_
    clear hK K'
    try simp only [Act.put, List.setIfInBounds_toArray, List.set_cons_zero, List.set_cons_succ]
    refine anyT_one (i := 5) (by kernel_rfl) rfl (fun K' hK => ?_)
    go_simp
    refine (hw2 _).mono ?_
    rintro e w' ⟨rfl, rfl⟩
    refine hK.out _ _ (fun _ => hSd) ?_
    clear hK K'
    try simp only [Act.put, List.setIfInBounds_toArray, List.set_cons_zero, List.set_cons_succ]
    refine anyT_one (i := 6) (by kernel_rfl) rfl (fun K' hK => ?_)
    go_simp
    refine (hc1 Wd hAd).mono ?_
    rintro e W2 ⟨rfl, hB2⟩
    have hzd := hWd.size
    have hU2 : Upd (fun k => k = w.heap.size + 1) W0 W2 := hUd.below hB2 (fun k h1 h2 => by omega)
    have bV2 : Boxed W2 w.heap.size 40 (.slice A n c) := (hB2.block _ (by omega)).trans bVd
    have bR2 : Boxed W2 (w.heap.size + 1) 4 (.bool false) := (hB2.block _ (by omega)).trans bRd
    have hA2 : Ints W2 W2.heap.size A n zs := (hAd.below hB2).more hB2.size
    have hS2 : (fun w' => w'.cell? ⟨w.heap.size, 0, none⟩ = some (.slice A n c)) W2 := bV2.cell
    have hV2 : Upd (fun k => k = w.heap.size + 1 ∨ D1 k ∨ W.heap.size ≤ k) Wb W2 := (hWd.mono (fun _ _ e => e.elim)).below hB2 (fun k h1 h2 => by omega)
    refine hK.out _ _ (fun _ => hS2) ?_
    clear hK K'
    try simp only [Act.put, List.setIfInBounds_toArray, List.set_cons_zero, List.set_cons_succ]
    refine anyT_one (i := 7) (by kernel_rfl) rfl (fun K' hK => ?_)
    go_simp
    refine (hc2 W2 hA2).mono ?_
    rintro e W3 ⟨rfl, hB3⟩
    have hz2 := hU2.size
    have hy2 := hV2.size
    have hU3 : Upd (fun k => k = w.heap.size + 1) W0 W3 := hU2.below hB3 (fun k h1 h2 => by omega)
    have bV3 : Boxed W3 w.heap.size 40 (.slice A n c) := (hB3.block _ (by omega)).trans bV2
    have bR3 : Boxed W3 (w.heap.size + 1) 4 (.bool false) := (hB3.block _ (by omega)).trans bR2
    have hS3 : (fun w' => w'.cell? ⟨w.heap.size, 0, none⟩ = some (.slice A n c)) W3 := bV3.cell
    have hV3 : Upd (fun k => k = w.heap.size + 1 ∨ D1 k ∨ W.heap.size ≤ k) Wb W3 := hV2.below hB3 (fun k h1 h2 => by omega)
    refine hK.out _ _ (fun _ => hS3) ?_
    clear hK K'
    try simp only [Act.put, List.setIfInBounds_toArray, List.set_cons_zero, List.set_cons_succ]
    refine anyT_one (i := 8) (by kernel_rfl) rfl (fun K' hK => ?_)
    go_simp
    refine hK.out _ _ (fun h => absurd rfl h) ?_
    clear hK K'
    try simp only [Act.put, List.setIfInBounds_toArray, List.set_cons_zero, List.set_cons_succ]
    refine anyT_done (by kernel_rfl) ?_ _
    have hcR3 := bR3.cell
    have hfR3 := bR3.frozen
    cases hap : apB zs ul
    · have HF := Lib.hid (show prAny zs (pairsL zs) = true from any_of_pre hpre (show tstPr zs (lo, hi) = true by rw [Ht.out, hap]; rfl))
      have hus : Upd (fun k => k = w.heap.size + 1) W3 (W3.setCell ⟨w.heap.size + 1, 0, none⟩ (.bool true)) := (Upd.refl (fun k => k = w.heap.size + 1) W3).setCell (p := ⟨w.heap.size + 1, 0, none⟩) (.inr rfl) _
      gi_wp2
      exact ⟨D1, ⟨rfl, HF.out, bR3.set _, hU3.trans' hus (fun i hi e => e)⟩, hV3.trans' hus (fun i hi e => .inl e), fun k hk => .inl hk⟩
    · have HF := Lib.hid (show prAny zs (pre ++ [(lo, hi)]) = false from any_snoc hno (show tstPr zs (lo, hi) = false by rw [Ht.out, hap]; rfl))
      gi_wp2
      exact ⟨D1, ⟨HF.out, bR3, hU3⟩, hV3, fun k hk => .inl hk⟩
  case done =>
    rintro d D1 W hd ⟨hno, bR1, hU⟩ hD1 hKd
    have hcR := bR1.cell
    have hfR := bR1.frozen
    have HF := Lib.hid (HE.out.symm.trans hno)
    gi_wp2
    have hus : Upd (fun k => k = w.heap.size + 1) W (W.setCell ⟨w.heap.size + 1, 0, none⟩ (.bool false)) := (Upd.refl (fun k => k = w.heap.size + 1) W).setCell (p := ⟨w.heap.size + 1, 0, none⟩) (.inr rfl) _
    refine leaves_marks [d] _ ⟨by simp, fun b hb => ?_⟩ (fun W' hu' => ?_)
    · rw [List.mem_singleton.1 hb]
      exact (hus.block d (Array.getElem?_eq_some_iff.1 hKd).1 (by omega)).trans hKd
    · have hc' := (hu'.boxed (bR1.set (.bool false)) (by simp; omega)).cell
      exact ⟨.bool false, by simp [results, Tryz.f21, go_sem, hc'], ret_bool HF.out.symm,
        (((hu0.mono fun _ _ e => e.elim).trans' (hU.trans hus) (fun i hi e => by omega)).trans' hu' (fun i hi e => by simp at e; omega)).toBelow (R := fun _ => False) (fun _ e => e.elim) (Nat.le_refl _)⟩
  case stop =>
    rintro d D1 co pre W hd hpre ⟨rfl, hF, bR1, hU⟩ hD1 hKd
    have HF := Lib.hid (HE.out.symm.trans hF)
    clear hF
    gi_wp2
    refine leaves_marks [d] _ ⟨by simp, fun b hb => ?_⟩ (fun W' hu' => ?_)
    · rw [List.mem_singleton.1 hb]
      exact hKd
    · have hc' := (hu'.boxed bR1 (by simp; omega)).cell
      exact ⟨.bool true, by simp [results, Tryz.f21, go_sem, hc'], ret_bool HF.out.symm,
        (((hu0.mono fun _ _ e => e.elim).trans' hU (fun i hi e => by omega)).trans' hu' (fun i hi e => by simp at e; omega)).toBelow (R := fun _ => False) (fun _ e => e.elim) (Nat.le_refl _)⟩

theorem HasTwoPairs_any (A : Option Addr) (n c : Nat) (zs : List Int) (w : World) (h : Ints w w.heap.size A n zs) (hbig : n ≤ 1152921504606846976) :
    Calls Tryz.prog 6 #[.slice A n c] w fun e w' => e = .returned (.bool (twoR zs)) ∧ Below w.heap.size w w' := by
  have hlen := Lib.hid h.len
  cases hv : vo zs
  · have Ht := Lib.hid (show twoR zs = false by unfold twoR; rw [hv]; rfl)
    have Hv := Lib.hid hv
    clear hv
    go_enter Tryz.func6, Tryz.ntmps6
    go_wp2_with fail
    refine (readOrder_any _ _ _ zs _ h hbig).mono ?_
    rintro e w' ⟨hB, (⟨hv, b, rfl, _, _⟩ | ⟨_, rfl⟩)⟩
    · rw [Hv.out] at hv; cases hv
    · go_wp2_with fail
      go_ret
      exact ⟨ret_bool Ht.out.symm, hB⟩
  · have hvo : VoP zs := by simpa [vo] using hv
    have Ht := Lib.hid (show twoR zs = twoB zs by unfold twoR; rw [hv]; rfl)
    have Hv := Lib.hid hv
    clear hv
    go_enter Tryz.func6, Tryz.ntmps6
    go_wp2_with fail
    refine (readOrder_any _ _ _ zs _ h hbig).mono ?_
    rintro e w' ⟨hB, (⟨_, b, rfl, hb, hAr⟩ | ⟨hv, _⟩)⟩
    · go_wp2_with (go_at_call 21; refine (ohasTwo_any _ _ _ zs hvo _ (hAr.ints' hAr.lt hlen.out)).mono ?_; rintro e w2 ⟨rfl, hB2⟩)
      go_ret
      exact ⟨ret_bool Ht.out.symm, hB.trans (hB2.mono hB.size)⟩
    · rw [Hv.out] at hv; cases hv

end Go.Proofs.YtdcdddmjffgibaaGreat

/- Spans of an order: the program's. -/
namespace Go.Proofs.YtdcdddmjffgibaaGreat
open Go.RowKit Go.Shelf

theorem infoSpan : (Tryz.prog.info? 69).map (fun i => (i.zero, i.size, i.bytes)) = some (some (.agg #[.int .i64 0, .int .i64 0]), 2, 16) := by kernel_rfl
theorem run_make_span (n : Nat) (hn : n ≤ 6) (w : World) :
    (Instr.makeSlice 45 (.int .i64 (n : Int)) (.int .i64 (n : Int))).run Tryz.prog w = .ok (.slice (some ⟨w.heap.size, 0, none⟩) n n) (w.alloc (.cells (madeCells #[.int .i64 0, .int .i64 0] (n * 2)) 69)) := by
  obtain ⟨i, hi, hzz⟩ := Option.map_eq_some_iff.1 infoSpan
  simp only [Prod.mk.injEq] at hzz
  obtain ⟨hz, hs, hb⟩ := hzz
  have h := run_make (P := Tryz.prog) w 45 69 i _ Tryz.underlying45 hi hz .i64 .i64 (n : Int) (n : Int) (by omega) (by omega) (by rw [hb]; omega) (by omega)
  rw [hs] at h
  have e : (Value.agg #[Value.int IntKind.i64 0, Value.int IntKind.i64 0]).cells = #[Value.int IntKind.i64 0, Value.int IntKind.i64 0] := by rfl
  rw [e] at h
  simpa using h
theorem Arr.new2 (w : World) (t : TypeId) (n : Nat) : Arr (w.alloc (.cells (madeCells #[.int .i64 0, .int .i64 0] (n * 2)) t)) w.heap.size t (List.replicate (n * 2) 0) := by
  have h := heap_alloc_new w (.cells (madeCells #[Value.int .i64 0, Value.int .i64 0] (n * 2)) t)
  unfold Arr
  rw [h]
  congr 2
  apply Array.ext
  · simp [madeCells]
  · intro i h1 h2
    simp [madeCells]
    have : i % 2 = 0 ∨ i % 2 = 1 := by omega
    rcases this with e | e <;> simp [e]

/-- Spans as numbers: the first and the last one of each. -/
def flS (fs ls : List Int) : List Int := (List.range fs.length).flatMap fun i => [fs[i]?.getD 0, ls[i]?.getD 0]
theorem flS_to (fs ls : List Int) (k : Nat) : ((List.range k).flatMap fun i => [fs[i]?.getD 0, ls[i]?.getD 0]).length = k * 2 := by
  induction k with
  | zero => rfl
  | succ k ih => rw [List.range_succ, List.flatMap_append, List.length_append, ih]; simp; omega
theorem flS_len (fs ls : List Int) : (flS fs ls).length = fs.length * 2 := flS_to fs ls _
theorem flS_get (fs ls : List Int) {i : Nat} (hi : i < fs.length) : (flS fs ls)[i * 2]?.getD 0 = fs[i]?.getD 0 ∧ (flS fs ls)[i * 2 + 1]?.getD 0 = ls[i]?.getD 0 := by
  have key : ∀ m : Nat, i < m → (((List.range m).flatMap fun i => [fs[i]?.getD 0, ls[i]?.getD 0])[i * 2]?.getD 0 = fs[i]?.getD 0 ∧ ((List.range m).flatMap fun i => [fs[i]?.getD 0, ls[i]?.getD 0])[i * 2 + 1]?.getD 0 = ls[i]?.getD 0) := fun m => by
    induction m with
    | zero => intro h; omega
    | succ m ih =>
      intro h
      have hl := flS_to fs ls m
      rw [List.range_succ, List.flatMap_append]
      rcases Nat.lt_or_ge i m with h1 | h1
      · rw [List.getElem?_append_left (by omega), List.getElem?_append_left (by omega)]
        exact ih h1
      · obtain rfl : i = m := by omega
        rw [List.getElem?_append_right (by omega), List.getElem?_append_right (by omega), hl]
        simp
  exact key _ hi
theorem getD_some' {l : List Int} {k : Nat} {v : Int} (hk : k < l.length) (h : l[k]?.getD 0 = v) : l[k]? = some v := by
  rw [List.getElem?_eq_getElem hk] at h ⊢
  simpa using h
theorem copied_two {zs : List Int} {n k : Nat} {a b : Int} (h : zs.length = n * 2) (hk : k < n) (ha : zs[k * 2]?.getD 0 = a) (hb : zs[k * 2 + 1]?.getD 0 = b) : ((copied zs (n * 2) (k * 2)).set (k * 2) a).set (k * 2 + 1) b = copied zs (n * 2) ((k + 1) * 2) := by
  rw [← ha, ← hb, copied_succ h (by omega), copied_succ h (by omega), show k * 2 + 1 + 1 = (k + 1) * 2 by omega]

set_option maxRecDepth 100000 in
set_option maxHeartbeats 2000000 in
theorem ospans_any (A : Option Addr) (n c : Nat) (zs : List Int) (hvo : VoP zs) (ht : twoB zs = false) (w : World) (hA : Ints w w.heap.size A n zs) (hAb : ∀ a, A = some a → a.block < w.heap.size) :
    Calls Tryz.prog 25 #[.slice A n c] w fun e W' => ∃ b, e = .returned (.slice (some ⟨b, 0, none⟩) n n) ∧ w.heap.size ≤ b ∧ Arr W' b 69 (flS (plR popI (du zs)) (plR (fun x => -popI x) zs)) ∧ Below w.heap.size w W' := by
  have Hlen := Lib.hid hA.len
  have hn6 : n ≤ 6 := by have := hvo.1; rw [Hlen.out] at this; exact this
  have hmk := run_make_span n hn6
  go_enter Tryz.func25, Tryz.ntmps25
  go_wp2_with fail
  refine (dual_any A n c zs hvo.sets w hA).mono ?_
  rintro e w1 ⟨rfl, hD1, hB1⟩
  have hD1 : Arr w1 w.heap.size 59 (du zs) := by unfold du; rw [Hlen.out]; exact hD1
  have z1 := hB1.size
  have Hdl := Lib.hid (show (du zs).length = n by rw [du_len]; exact Hlen.out)
  go_wp2_with fail
  refine (placesBy_any popI _ n n (du zs) w1 (hD1.ints' hD1.lt Hdl.out) (fun j hj => (du_vo hvo).bd j (by rw [Hdl.out]; exact hj)) hn6 (fun a ha => by cases ha; exact hD1.lt) (enters_of Tryz.func49 (by kernel_rfl) rfl) (fun a b W h1 h2 => bySize_any a b W h1 h2) (fun x hx y hy e => ?_)).mono ?_
  · obtain ⟨i, hi, rfl⟩ := mem_at.1 hx
    obtain ⟨j, hj, rfl⟩ := mem_at.1 hy
    rw [du_len] at hi hj
    have h1 := col_lt hvo ht hi hj
    have h2 := col_lt hvo ht hj hi
    exact tau_inj hvo ht hi hj (by omega)
  rintro e w2 ⟨b2, rfl, hb2, hF2, hB2⟩
  have z2 := hB2.size
  have C2 := hB1.trans (hB2.mono z1)
  go_wp2_with fail
  refine (placesBy_any (fun x => -popI x) A n c zs w2 ((hA.below C2).more (by omega)) (fun j hj => hvo.bd j (by rw [Hlen.out]; exact hj)) hn6 (fun a ha => by have := hAb a ha; omega) (enters_of Tryz.func50 (by kernel_rfl) rfl) (fun a b W h1 h2 => byFalling_any a b W h1 h2) (fun x hx y hy e => ?_)).mono ?_
  · obtain ⟨i, hi, rfl⟩ := mem_at.1 hx
    obtain ⟨j, hj, rfl⟩ := mem_at.1 hy
    exact ups_inj hvo ht hi hj (by unfold pU; omega)
  rintro e w3 ⟨b3, rfl, hb3, hL3, hB3⟩
  have z3 := hB3.size
  have C3 := C2.trans (hB3.mono (by omega))
  have hF3 := hF2.below hB3 hF2.lt
  have hfl := plR_len popI (du zs)
  have hll := plR_len (fun x => -popI x) zs
  rw [Hdl.out] at hfl
  rw [Hlen.out] at hll
  have hSl := flS_len (plR popI (du zs)) (plR (fun x => -popI x) zs)
  rw [hfl] at hSl
  have Hget := Lib.hid (fun (i : Nat) (hi : i < n) => flS_get (plR popI (du zs)) (plR (fun x => -popI x) zs) (i := i) (by rw [hfl]; exact hi))
  generalize hSS : flS (plR popI (du zs)) (plR (fun x => -popI x) zs) = SS at Hget hSl
  have HSS := Lib.hid hSS
  clear hSS hF2
  generalize plR popI (du zs) = fs at hF3 Hget hfl
  generalize plR (fun x => -popI x) zs = ls at hL3 Hget hll
  have HSl := Lib.hid hSl
  have Hfl := Lib.hid hfl
  have Hll := Lib.hid hll
  clear hSl hfl hll
  go_wp2_with fail
  have hA4 := Arr.new2 w3 69 n
  have hB4 : Below w.heap.size w (w3.alloc (.cells (madeCells #[.int .i64 0, .int .i64 0] (n * 2)) 69)) := C3.alloc (by omega) _
  have hF4 := hF3.alloc (.cells (madeCells #[.int .i64 0, .int .i64 0] (n * 2)) 69)
  have hL4 := hL3.alloc (.cells (madeCells #[.int .i64 0, .int .i64 0] (n * 2)) 69)
  have Z4 := Lib.hid (show (w3.alloc (.cells (madeCells #[.int .i64 0, .int .i64 0] (n * 2)) 69)).heap.size = w3.heap.size + 1 by simp)
  obtain ⟨W4, hW4⟩ : ∃ W4, w3.alloc (.cells (madeCells #[.int .i64 0, .int .i64 0] (n * 2)) 69) = W4 := ⟨_, rfl⟩
  rw [hW4] at hA4 hB4 hF4 hL4 Z4 ⊢
  clear hW4 hmk
  go_loopw [17] (fun i wr => ∃ k : Nat, k ≤ n ∧ i = .int .i64 k ∧ Arr wr w3.heap.size 69 (copied SS (n * 2) (k * 2)) ∧ Upd (fun q => q = w3.heap.size) W4 wr) (fun i _ => n - (intOf i).toNat)
  case atStart => exact ⟨0, by omega, rfl, by rw [Nat.zero_mul, copied_zero]; exact hA4, Upd.refl _ _⟩
  case round =>
    obtain ⟨k, hk, rfl, hAr, hU⟩ := hrel
    have Hcl := Lib.hid (copied_len HSl.out (show k * 2 ≤ n * 2 by omega))
    have zU := hU.size
    by_cases hlt : k < n
    · have hlf := hF3.lt
      have hll := hL3.lt
      have hfk := hU.cell (hF4.cell (k := k) (by rw [Hfl.out]; exact hlt)) (by simp; omega)
      have hlk := hU.cell (hL4.cell (k := k) (by rw [Hll.out]; exact hlt)) (by simp; omega)
      have hc0 := hAr.cell (k := k * 2) (by rw [Hcl.out]; omega)
      have hc1 := hAr.cell (k := k * 2 + 1) (by rw [Hcl.out]; omega)
      have hf0 := hAr.frozen (k * 2)
      have hf1 := hAr.frozen (k * 2 + 1)
      obtain ⟨hg0, hg1⟩ := Hget.out k hlt
      have Hcp := Lib.hid (copied_two HSl.out hlt hg0 hg1)
      clear hg0 hg1
      generalize fs[k]?.getD 0 = fk at *
      generalize ls[k]?.getD 0 = lk at *
      go_wp2_with fail
      go_region
      all_goals
        go_wp2
        go_roundw
        case rel => exact ⟨k + 1, by omega, by go_num, by rw [← Hcp.out]; exact (hAr.set _ _).set _ _, ((hU.setCell (p := ⟨w3.heap.size, k * 2, none⟩) (.inr rfl) _).setCell (p := ⟨w3.heap.size, k * 2 + 1, none⟩) (.inr rfl) _).drew⟩
        case measure => simp [intOf]; omega
    · obtain rfl : k = n := by omega
      have Hfull := Lib.hid (copied_full HSl.out)
      go_wp2
      go_ret
      exact ⟨_, rfl, by omega, by rw [HSS.out, ← Hfull.out]; exact hAr, ((Below.toUpd hB4).trans' hU (fun i hi e => by omega)).toBelow (fun k e => e) (Nat.le_refl _)⟩

/-- Rows of the first and the last one of each span. -/
def rwS (fs ls : List Int) : List (List Int) := (List.range fs.length).map fun i => [fs[i]?.getD 0, ls[i]?.getD 0]
theorem rwS_len (fs ls : List Int) : (rwS fs ls).length = fs.length := by simp [rwS]
theorem rwS_snoc (fs ls : List Int) {k : Nat} (hk : k < fs.length) : (rwS fs ls).take (k + 1) = (rwS fs ls).take k ++ [[fs[k]?.getD 0, ls[k]?.getD 0]] := by
  rw [List.take_succ_eq_append_getElem (by rw [rwS_len]; exact hk)]
  simp [rwS]

set_option maxRecDepth 100000 in
set_option maxHeartbeats 2000000 in
theorem rowsOf_any (b n c : Nat) (fs ls : List Int) (w : World) (hS : Arr w b 69 (flS fs ls)) (hl : fs.length = n) (hn : n ≤ 6) :
    Calls Tryz.prog 24 #[.slice (some ⟨b, 0, none⟩) n c] w (GivesRows w (rwS fs ls)) := by
  have Hl := Lib.hid hl
  have Hrl := Lib.hid (show (rwS fs ls).length = n by rw [rwS_len]; exact hl)
  have hSl := flS_len fs ls
  rw [hl] at hSl
  have HSl := Lib.hid hSl
  have hlt := hS.lt
  clear hl hSl
  have hmk := run_make_row' (P := Tryz.prog) 26 23 (.slice none 0 0) 24 Tryz.underlying26 infoRow rfl .i64 .i64 n (by omega) (by omega)
  go_enter Tryz.func24, Tryz.ntmps24
  go_wp2_with fail
  have hG : (w.alloc (.cells (madeCells #[Value.slice none 0 0] n) 23)).heap[w.heap.size]? = some (.cells (madeCells #[Value.slice none 0 0] n) 23 (0, 0)) := heap_alloc_new w _
  have hU0 : Upd (fun _ => False) w (w.alloc (.cells (madeCells #[Value.slice none 0 0] n) 23)) := (Upd.refl _ w).alloc _
  have Z0 := Lib.hid (show (w.alloc (.cells (madeCells #[Value.slice none 0 0] n) 23)).heap.size = w.heap.size + 1 by simp)
  obtain ⟨W0, hW0⟩ : ∃ W0, w.alloc (.cells (madeCells #[Value.slice none 0 0] n) 23) = W0 := ⟨_, rfl⟩
  rw [hW0] at hG hU0 Z0 ⊢
  have hS0 := hS.upd hU0 (fun e => e)
  clear hW0 hmk
  go_loopw [11] (fun i wr => ∃ (k : Nat) (vs : List Value) (cs : Array Value), k ≤ n ∧ i = .int .i64 k ∧ wr.heap[w.heap.size]? = some (.cells cs 23 (0, 0)) ∧ (∀ (j : Nat) (u : Value), vs[j]? = some u → cs[j]? = some u) ∧ cs.size = n ∧ vs.length = k ∧ RowsC wr (w.heap.size + 1) wr.heap.size vs ((rwS fs ls).take k) ∧ Upd (fun q => q = w.heap.size) W0 wr) (fun i _ => n - (intOf i).toNat)
  case atStart => exact ⟨0, [], _, by omega, rfl, hG, fun j u h => by simp at h, size_madeCells _ _, rfl, by rw [Z0.out]; exact Nat.le_refl _, Upd.refl _ _⟩
  case round =>
    obtain ⟨k, vs, cs, hk, rfl, hg, hvs, hcs, hvl, hR, hU⟩ := hrel
    rename World => wr
    have zU := hU.size
    by_cases hltk : k < n
    · have hSr := hS0.upd hU (by omega)
      have hc0 := hSr.cell (k := k * 2) (by rw [HSl.out]; omega)
      have hc1 := hSr.cell (k := k * 2 + 1) (by rw [HSl.out]; omega)
      obtain ⟨hg0, hg1⟩ := flS_get fs ls (i := k) (by rw [Hl.out]; exact hltk)
      rw [hg0] at hc0
      rw [hg1] at hc1
      have Hsn := Lib.hid (rwS_snoc fs ls (k := k) (by rw [Hl.out]; exact hltk))
      clear hg0 hg1
      generalize fs[k]?.getD 0 = fk at *
      generalize ls[k]?.getD 0 = lk at *
      have hgc : wr.cell? ⟨w.heap.size, k, none⟩ = some (cs[k]?.getD undef) := by
        rw [cell_of_row wr w.heap.size k _ _ (0, 0) hg, Array.getElem?_eq_getElem (by omega)]; rfl
      have hgf : wr.frozen? ⟨w.heap.size, k, none⟩ = false := frozen_of_row _ _ k _ _ hg
      have Hv := Lib.hid hvs
      clear hvs
      obtain ⟨W5, hW5⟩ : ∃ W5, (wr.alloc (.cells #[Value.int .i64 fk, .int .i64 lk] 69)).alloc (.cells #[Value.int .i64 fk, .int .i64 lk] 3) = W5 := ⟨_, rfl⟩
      have hU5 : Upd (fun _ => False) wr W5 := by rw [← hW5]; exact ((Upd.refl _ _).alloc _).alloc _
      have hA5 : Arr W5 (wr.heap.size + 1) 3 [fk, lk] := by
        rw [← hW5]
        have := heap_alloc_new (wr.alloc (.cells #[Value.int .i64 fk, .int .i64 lk] 69)) (.cells #[Value.int .i64 fk, .int .i64 lk] 3)
        rwa [World.size_alloc] at this
      have z5 : W5.heap.size = wr.heap.size + 2 := by rw [← hW5]; simp
      have hgc5 := hU5.cell hgc (fun e => e)
      have hgl : w.heap.size < wr.heap.size := by rw [Z0.out] at zU; omega
      have hgf5 : W5.frozen? ⟨w.heap.size, k, none⟩ = false := (hU5.frozen hgl (fun e => e)).trans hgf
      have hg5 : W5.heap[w.heap.size]? = some (.cells cs 23 (0, 0)) := (hU5.block _ hgl (fun e => e)).trans hg
      have HW5 := Lib.hid hW5
      have hgc6 : ((wr.alloc (.cells #[Value.int .i64 fk, .int .i64 lk] 69)).alloc (.cells #[Value.int .i64 fk, .int .i64 lk] 3)).cell? ⟨w.heap.size, k, none⟩ = some (cs[k]?.getD undef) := by rw [HW5.out]; exact hgc5
      have hgf6 : ((wr.alloc (.cells #[Value.int .i64 fk, .int .i64 lk] 69)).alloc (.cells #[Value.int .i64 fk, .int .i64 lk] 3)).frozen? ⟨w.heap.size, k, none⟩ = false := by rw [HW5.out]; exact hgf5
      clear hW5 hgc hgf hgc5 hgf5
      go_wp2_with fail
      have he : (((wr.setCell ⟨w.heap.size, k, none⟩ (.slice (some ⟨wr.heap.size + 1, 0, none⟩) 2 2)).alloc (.cells #[Value.int .i64 fk, .int .i64 lk] 69)).alloc (.cells #[Value.int .i64 fk, .int .i64 lk] 3)) = W5.setCell ⟨w.heap.size, k, none⟩ (.slice (some ⟨wr.heap.size + 1, 0, none⟩) 2 2) := by
        rw [← HW5.out, World.setCell_alloc_past _ _ _ _ (by simp; omega), World.setCell_alloc_past _ _ _ _ hgl]
      rw [he]
      have hR5 := (hR.upd hU5 (fun j e => e.elim)).snoc (hi' := wr.heap.size + 2) (r := [fk, lk]) (c := 2) (Row.of hA5 rfl (by omega) (by omega)) (by omega)
      have hUs : Upd (fun q => q = w.heap.size) W5 (W5.setCell ⟨w.heap.size, k, none⟩ (.slice (some ⟨wr.heap.size + 1, 0, none⟩) 2 2)) := (Upd.refl (fun q => q = w.heap.size) W5).setCell (p := ⟨w.heap.size, k, none⟩) (.inr rfl) _
      go_roundw
      case rel =>
        refine ⟨k + 1, vs ++ [.slice (some ⟨wr.heap.size + 1, 0, none⟩) 2 2], cs.setIfInBounds k (.slice (some ⟨wr.heap.size + 1, 0, none⟩) 2 2), by omega, by go_num, ?_, fun j u hj => ?_, by simpa using hcs, by simp [hvl], ?_, (hU.trans' hU5 (fun i hi e => e.elim)).trans' hUs (fun i hi e => e)⟩
        · simp [World.setCell, Array.getElem?_modify, hg5]
        · rcases Nat.lt_or_ge j vs.length with h1 | h1
          · rw [List.getElem?_append_left h1] at hj
            rw [Array.getElem?_setIfInBounds_ne (by omega)]
            exact Hv.out j u hj
          · rw [List.getElem?_append_right h1] at hj
            have : j = k := by
              rcases Nat.eq_zero_or_pos (j - vs.length) with h2 | h2
              · omega
              · rw [List.getElem?_eq_none (by simp; omega)] at hj; cases hj
            subst this
            rw [hvl, Nat.sub_self] at hj
            simp at hj
            subst hj
            rw [Array.getElem?_setIfInBounds_self_of_lt (by omega)]
        · rw [Hsn.out]
          have z6 : (W5.setCell ⟨w.heap.size, k, none⟩ (.slice (some ⟨wr.heap.size + 1, 0, none⟩) 2 2)).heap.size = wr.heap.size + 2 := by simp [World.setCell, z5]
          rw [z6]
          exact hR5.upd hUs (fun j e => by omega)
      case measure => simp [intOf]; omega
    · obtain rfl : k = n := by omega
      have Hfull := Lib.hid (show (rwS fs ls).take k = rwS fs ls from List.take_of_length_le (by rw [Hrl.out]; exact Nat.le_refl _))
      rw [Hfull.out] at hR
      go_wp2
      go_ret
      exact ⟨_, _, _, rfl, ⟨Hrl.out, fun _ => ⟨w.heap.size, vs, cs, rfl, Nat.le_refl _, by rw [Z0.out] at zU; omega, hg, hvs, hR.sooner (by omega)⟩⟩, ((hU0.mono fun _ _ e => e.elim).trans' hU (fun i hi e => e)).toBelow (R := fun q => q = w.heap.size) (fun k e => by omega) (Nat.le_refl _)⟩

/-! SpansOf, as both sides tell it. -/
def spR (zs : List Int) : List (List Int) := rwS (plR popI (du zs)) (plR (fun x => -popI x) zs)
def spansB (zs : List Int) : Bool := vo zs && !twoB zs
def spansR (zs : List Int) : List (List Int) := if spansB zs then spR zs else []
def GivesRowsB (w : World) (rs : List (List Int)) (t : Bool) (e : Ending) (w' : World) : Prop := ∃ A n c, e = .returned (.tuple #[.slice A n c, .bool t]) ∧ RowsR w' w.heap.size w'.heap.size A n rs ∧ Below w.heap.size w w'

set_option maxHeartbeats 1000000 in
theorem SpansOf_any (A : Option Addr) (n c : Nat) (zs : List Int) (w : World) (h : Ints w w.heap.size A n zs) (hbig : n ≤ 1152921504606846976) :
    Calls Tryz.prog 8 #[.slice A n c] w (GivesRowsB w (spansR zs) (spansB zs)) := by
  have hlen := Lib.hid h.len
  cases hv : vo zs
  · have Hb := Lib.hid (show spansB zs = false by unfold spansB; rw [hv]; rfl)
    have Hr := Lib.hid (show spansR zs = [] by unfold spansR; rw [Hb.out]; rfl)
    have Hv := Lib.hid hv
    clear hv
    rw [Hb.out, Hr.out]
    go_enter Tryz.func8, Tryz.ntmps8
    go_wp2_with fail
    refine (readOrder_any _ _ _ zs _ h hbig).mono ?_
    rintro e w' ⟨hB, (⟨hv, b, rfl, _, _⟩ | ⟨_, rfl⟩)⟩
    · rw [Hv.out] at hv; cases hv
    · go_wp2_with fail
      go_ret2
      exact ⟨none, 0, 0, rfl, RowsR.nil _ _ _ _, hB⟩
  · have hvo : VoP zs := by simpa [vo] using hv
    have hn6 : n ≤ 6 := by have := hvo.1; rw [hlen.out] at this; exact this
    have Hv := Lib.hid hv
    cases ht : twoB zs
    · have Hb := Lib.hid (show spansB zs = true by unfold spansB; rw [hv, ht]; rfl)
      have Hr := Lib.hid (show spansR zs = spR zs by unfold spansR; rw [Hb.out]; rfl)
      have Ht := Lib.hid ht
      clear hv
      rw [Hb.out, Hr.out]
      go_enter Tryz.func8, Tryz.ntmps8
      go_wp2_with fail
      refine (readOrder_any _ _ _ zs _ h hbig).mono ?_
      rintro e w' ⟨hB, (⟨_, b, rfl, hb, hAr⟩ | ⟨hv, _⟩)⟩
      · have zB := hB.size
        have hq := ohasTwo_any (some ⟨b, 0, none⟩) n n zs hvo w' (hAr.ints' hAr.lt hlen.out)
        rw [ht] at hq
        have hAb : ∀ a, some (⟨b, 0, none⟩ : Addr) = some a → a.block < w'.heap.size := fun a ha => by cases ha; exact hAr.lt
        have hlt := hAr.lt
        clear ht
        go_wp2_with (first
          | (go_at_call 21; refine hq.mono ?_; rintro e w2 ⟨rfl, hB2⟩)
          | (go_at_call 25; refine (ospans_any _ n n zs hvo Ht.out w2 ((hAr.below hB2 hAr.lt).ints' (by have := hB2.size; omega) hlen.out) (fun a ha => by have := hAb a ha; have := hB2.size; omega)).mono ?_; rintro e w3 ⟨b3, rfl, hb3, hS3, hB3⟩)
          | (go_at_call 24; refine (rowsOf_any b3 n n _ _ w3 hS3 (by rw [plR_len, du_len]; exact hlen.out) hn6).mono ?_; rintro e w4 ⟨A4, m4, c4, rfl, hR4, hB4⟩))
        go_ret2
        have z2 := hB2.size
        have z3 := hB3.size
        exact ⟨A4, m4, c4, rfl, hR4.sooner (by omega), ((hB.trans (hB2.mono zB)).trans (hB3.mono (by omega))).trans (hB4.mono (by omega))⟩
      · rw [Hv.out] at hv; cases hv
    · have Hb := Lib.hid (show spansB zs = false by unfold spansB; rw [hv, ht]; rfl)
      have Hr := Lib.hid (show spansR zs = [] by unfold spansR; rw [Hb.out]; rfl)
      clear hv
      rw [Hb.out, Hr.out]
      go_enter Tryz.func8, Tryz.ntmps8
      go_wp2_with fail
      refine (readOrder_any _ _ _ zs _ h hbig).mono ?_
      rintro e w' ⟨hB, (⟨_, b, rfl, hb, hAr⟩ | ⟨hv, _⟩)⟩
      · have zB := hB.size
        have hq := ohasTwo_any (some ⟨b, 0, none⟩) n n zs hvo w' (hAr.ints' hAr.lt hlen.out)
        rw [ht] at hq
        clear ht
        go_wp2_with (go_at_call 21; refine hq.mono ?_; rintro e w2 ⟨rfl, hB2⟩)
        go_ret2
        exact ⟨none, 0, 0, rfl, RowsR.nil _ _ _ _, hB.trans (hB2.mono zB)⟩
      · rw [Hv.out] at hv; cases hv
end Go.Proofs.YtdcdddmjffgibaaGreat

/- Two pairs apart, three items and one apart, zigzags: the model's. -/
namespace Go.Proofs.YtdcdddmjffgibaaGreat
open Go.RowKit

theorem quiet_add_some {P : Program} {f : FuncId} {args : Array Value} {w : World} {a n : Nat} {v : Value}
    (h : Calls P f args (w.drewN (a + n)) fun e w' => e = .returned v ∧ ∃ m, w' = (w.drewN (a + n)).drewN m) :
    Calls P f args (w.drewN (a + n)) fun e w'' => e = .returned v ∧ ∃ m, w'' = w.drewN (a + m) :=
  h.mono fun _ _ ⟨he, m, hm⟩ => ⟨he, n + m, by rw [hm, World.drewN_drewN, Nat.add_assoc]⟩
theorem ne_cast (a b : Nat) : (((a : Int)) != ((b : Int))) = !(a == b) := by
  rw [Bool.eq_iff_iff]; simp [bne]; omega
theorem bit_one (s j : Int) {v : Bool} (h : bitB s j = v) : (bitI s j == 1) = v := by rw [bitI_one, h]

set_option maxHeartbeats 1000000 in
theorem related_any (A : Option Addr) (n c B : Nat) (zs : List Int) (hv : Sets zs) (w : World) (h : Ints w B A n zs) (a b : Nat) (ha : a < n) (hb : b < n) :
    Calls Tryz.prog 47 #[.slice A n c, .int .i64 (a : Int), .int .i64 (b : Int)] w fun e w' => e = .returned (.bool (relB zs a b)) ∧ w = w' := by
  have hlen := Lib.hid h.len
  have za := hv.bd a (by rw [hlen.out]; exact ha)
  have zb := hv.bd b (by rw [hlen.out]; exact hb)
  have hn6 : n ≤ 6 := by have := hv.1; rw [hlen.out] at this; exact this
  obtain ⟨bk, off, rfl, -, hc⟩ := h.at_ ha
  have hca := hc a ha
  have hcb := hc b hb
  clear hc
  have Hr := Lib.hid (show relB zs a b = (bitB (zs[a]?.getD 0) b || bitB (zs[b]?.getD 0) a) from rfl)
  generalize zs[a]?.getD 0 = xa at *
  generalize zs[b]?.getD 0 = xb at *
  cases e1 : bitB xa b
  · have hi1 := bit_one _ _ e1
    cases e2 : bitB xb a
    · have hi2 := bit_one _ _ e2
      have Hf := Lib.hid (show relB zs a b = false by rw [Hr.out, e1, e2]; rfl)
      go_enter Tryz.func47, Tryz.ntmps47
      go_wp2_with (go_at_call 46; refine (bit_any _ _ _ (by omega) (by omega) (by omega) (by omega)).mono ?_; rintro e w' ⟨rfl, rfl⟩)
      go_ret
      exact ⟨ret_bool Hf.out.symm, rfl⟩
    · have hi2 := bit_one _ _ e2
      have Hf := Lib.hid (show relB zs a b = true by rw [Hr.out, e1, e2]; rfl)
      go_enter Tryz.func47, Tryz.ntmps47
      go_wp2_with (go_at_call 46; refine (bit_any _ _ _ (by omega) (by omega) (by omega) (by omega)).mono ?_; rintro e w' ⟨rfl, rfl⟩)
      go_ret
      exact ⟨ret_bool Hf.out.symm, rfl⟩
  · have hi1 := bit_one _ _ e1
    have Hf := Lib.hid (show relB zs a b = true by rw [Hr.out, e1]; rfl)
    go_enter Tryz.func47, Tryz.ntmps47
    go_wp2_with (go_at_call 46; refine (bit_any _ _ _ (by omega) (by omega) (by omega) (by omega)).mono ?_; rintro e w' ⟨rfl, rfl⟩)
    go_ret
    exact ⟨ret_bool Hf.out.symm, rfl⟩
end Go.Proofs.YtdcdddmjffgibaaGreat

/- Two pairs apart: the model's. -/
namespace Go.Proofs.YtdcdddmjffgibaaGreat
open Go.RowKit

set_option maxRecDepth 100000 in
set_option maxHeartbeats 8000000 in
theorem specTwo_any (A : Option Addr) (n c B : Nat) (zs : List Int) (hv : Sets zs) (w : World) (h : Ints w B A n zs) :
    Calls Tryz.prog 23 #[.slice A n c] w fun e w' => e = .returned (.bool (twoB zs)) ∧ ∃ m, w' = w.drewN m := by
  have hlen := Lib.hid h.len
  have hn6 : n ≤ 6 := by have := hv.1; rw [hlen.out] at this; exact this
  have Hno := Lib.hid (fun (hh : ∀ a, a < n → ∀ b, b < n → ∀ c, c < n → ∀ d, d < n → tstTwo zs a b c d = false) => (show twoB zs = false by unfold twoB; exact any4_none (by rw [hlen.out]; exact hh)))
  have Hye := Lib.hid (fun (a b c d : Nat) (ha : a < n) (hb : b < n) (hc : c < n) (hd : d < n) (hh : tstTwo zs a b c d = true) => (show twoB zs = true by unfold twoB; exact any4_some (by rw [hlen.out]; exact ha) (by rw [hlen.out]; exact hb) (by rw [hlen.out]; exact hc) (by rw [hlen.out]; exact hd) hh))
  go_enter Tryz.func23, Tryz.ntmps23
  go_wp2
  go_loopw [4] (fun i wr => ∃ k q : Nat, k ≤ n ∧ i = .int .i64 k ∧ (∀ x, x < k → ∀ b, b < n → ∀ c, c < n → ∀ d, d < n → tstTwo zs x b c d = false) ∧ wr = w.drewN q) (fun i _ => n - (intOf i).toNat)
  case atStart => exact ⟨0, 0, by omega, rfl, fun x hx => by omega, rfl⟩
  case round =>
    obtain ⟨ka, q0, hk0, rfl, hx0, rfl⟩ := hrel
    have Hx0 := Lib.hid hx0
    clear hx0
    by_cases hl0 : ka < n
    · go_wp2
      go_loopw [5] (fun i wr => ∃ k q : Nat, k ≤ n ∧ i = .int .i64 k ∧ (∀ x, x < k → ∀ c, c < n → ∀ d, d < n → tstTwo zs ka x c d = false) ∧ wr = w.drewN q) (fun i _ => n - (intOf i).toNat)
      case atStart => exact ⟨0, q0, by omega, rfl, fun x hx => by omega, rfl⟩
      case round =>
        obtain ⟨kb, q1, hk1, rfl, hx1, rfl⟩ := hrel
        have Hx1 := Lib.hid hx1
        clear hx1
        by_cases hl1 : kb < n
        · go_wp2
          go_loopw [6] (fun i wr => ∃ k q : Nat, k ≤ n ∧ i = .int .i64 k ∧ (∀ x, x < k → ∀ d, d < n → tstTwo zs ka kb x d = false) ∧ wr = w.drewN q) (fun i _ => n - (intOf i).toNat)
          case atStart => exact ⟨0, q1, by omega, rfl, fun x hx => by omega, rfl⟩
          case round =>
            obtain ⟨kc, q2, hk2, rfl, hx2, rfl⟩ := hrel
            have Hx2 := Lib.hid hx2
            clear hx2
            by_cases hl2 : kc < n
            · go_wp2
              go_loopw [7] (fun i wr => ∃ k q : Nat, k ≤ n ∧ i = .int .i64 k ∧ (∀ x, x < k → tstTwo zs ka kb kc x = false) ∧ wr = w.drewN q) (fun i _ => n - (intOf i).toNat)
              case atStart => exact ⟨0, q2, by omega, rfl, fun x hx => by omega, rfl⟩
              case round =>
                obtain ⟨kd, q3, hk3, rfl, hx3, rfl⟩ := hrel
                have Hx3 := Lib.hid hx3
                clear hx3
                by_cases hl3 : kd < n
                · obtain ⟨bk, off, rfl, -, hcl⟩ := h.at_ hl0
                  have hca := hcl ka hl0
                  have hza := hv.bd ka (by rw [hlen.out]; exact hl0)
                  have hcc := hcl kc hl2
                  have hzc := hv.bd kc (by rw [hlen.out]; exact hl2)
                  clear hcl
                  have Ht := Lib.hid (show tstTwo zs ka kb kc kd = (bitB (zs[ka]?.getD 0) kb && (bitB (zs[kc]?.getD 0) kd && (!(ka == kc) && (!(ka == kd) && (!(kb == kc) && (!(kb == kd) && (!relB zs ka kc && (!relB zs ka kd && (!relB zs kb kc && !relB zs kb kd))))))))) from rfl)
                  generalize zs[ka]?.getD 0 = za at hca hza Ht
                  generalize zs[kc]?.getD 0 = zc at hcc hzc Ht
                  have Hr6 := Lib.hid (fun (v : Bool) (e : relB zs ka kc = v) (m : Nat) => (show Calls Tryz.prog 47 #[.slice (some ⟨bk, off, none⟩) n c, .int .i64 (ka : Int), .int .i64 (kc : Int)] (w.drewN m) fun e w'' => e = .returned (.bool v) ∧ w.drewN m = w'' from by rw [← e]; exact related_any _ n c B zs hv _ (h.drewN m) ka kc hl0 hl2))
                  have Hr7 := Lib.hid (fun (v : Bool) (e : relB zs ka kd = v) (m : Nat) => (show Calls Tryz.prog 47 #[.slice (some ⟨bk, off, none⟩) n c, .int .i64 (ka : Int), .int .i64 (kd : Int)] (w.drewN m) fun e w'' => e = .returned (.bool v) ∧ w.drewN m = w'' from by rw [← e]; exact related_any _ n c B zs hv _ (h.drewN m) ka kd hl0 hl3))
                  have Hr8 := Lib.hid (fun (v : Bool) (e : relB zs kb kc = v) (m : Nat) => (show Calls Tryz.prog 47 #[.slice (some ⟨bk, off, none⟩) n c, .int .i64 (kb : Int), .int .i64 (kc : Int)] (w.drewN m) fun e w'' => e = .returned (.bool v) ∧ w.drewN m = w'' from by rw [← e]; exact related_any _ n c B zs hv _ (h.drewN m) kb kc hl1 hl2))
                  have Hr9 := Lib.hid (fun (v : Bool) (e : relB zs kb kd = v) (m : Nat) => (show Calls Tryz.prog 47 #[.slice (some ⟨bk, off, none⟩) n c, .int .i64 (kb : Int), .int .i64 (kd : Int)] (w.drewN m) fun e w'' => e = .returned (.bool v) ∧ w.drewN m = w'' from by rw [← e]; exact related_any _ n c B zs hv _ (h.drewN m) kb kd hl1 hl3))
                  cases e0 : bitB za kb
                  · have Hf := Lib.hid (Ht.out.trans (by first | (rw [e0]; done) | (rw [e0]; rfl)))
                    have hi0 := bit_one _ _ e0
                    go_wp2_with ((go_at_call 46; refine (bit_any _ _ _ (by omega) (by omega) (by omega) (by omega)).mono ?_; rintro e w' ⟨rfl, rfl⟩))
                    go_roundw
                    case rel => exact ⟨kd + 1, _, by omega, by go_num, all_snoc Hx3.out Hf.out, rfl⟩
                    case measure => simp [intOf]; omega
                  · have E0 := Lib.hid e0
                    have hi0 := bit_one _ _ e0
                    cases e1 : bitB zc kd
                    · have Hf := Lib.hid (Ht.out.trans (by first | (rw [e0, e1]; done) | (rw [e0, e1]; rfl)))
                      have hi1 := bit_one _ _ e1
                      go_wp2_with ((go_at_call 46; refine (bit_any _ _ _ (by omega) (by omega) (by omega) (by omega)).mono ?_; rintro e w' ⟨rfl, rfl⟩))
                      go_roundw
                      case rel => exact ⟨kd + 1, _, by omega, by go_num, all_snoc Hx3.out Hf.out, rfl⟩
                      case measure => simp [intOf]; omega
                    · have E1 := Lib.hid e1
                      have hi1 := bit_one _ _ e1
                      cases e2 : (ka == kc)
                      · have E2 := Lib.hid e2
                        have hi2 : ((ka : Int) != (kc : Int)) = true := by rw [ne_cast, e2]; rfl
                        clear e2
                        cases e3 : (ka == kd)
                        · have E3 := Lib.hid e3
                          have hi3 : ((ka : Int) != (kd : Int)) = true := by rw [ne_cast, e3]; rfl
                          clear e3
                          cases e4 : (kb == kc)
                          · have E4 := Lib.hid e4
                            have hi4 : ((kb : Int) != (kc : Int)) = true := by rw [ne_cast, e4]; rfl
                            clear e4
                            cases e5 : (kb == kd)
                            · have E5 := Lib.hid e5
                              have hi5 : ((kb : Int) != (kd : Int)) = true := by rw [ne_cast, e5]; rfl
                              clear e5
                              cases e6 : relB zs ka kc
                              · have E6 := Lib.hid e6
                                have hr6 : ∀ m, Calls Tryz.prog 47 #[.slice (some ⟨bk, off, none⟩) n c, .int .i64 (ka : Int), .int .i64 (kc : Int)] (w.drewN m) fun e w'' => e = .returned (.bool false) ∧ w.drewN m = w'' := fun m => Hr6.out _ e6 m
                                clear e6
                                cases e7 : relB zs ka kd
                                · have E7 := Lib.hid e7
                                  have hr7 : ∀ m, Calls Tryz.prog 47 #[.slice (some ⟨bk, off, none⟩) n c, .int .i64 (ka : Int), .int .i64 (kd : Int)] (w.drewN m) fun e w'' => e = .returned (.bool false) ∧ w.drewN m = w'' := fun m => Hr7.out _ e7 m
                                  clear e7
                                  cases e8 : relB zs kb kc
                                  · have E8 := Lib.hid e8
                                    have hr8 : ∀ m, Calls Tryz.prog 47 #[.slice (some ⟨bk, off, none⟩) n c, .int .i64 (kb : Int), .int .i64 (kc : Int)] (w.drewN m) fun e w'' => e = .returned (.bool false) ∧ w.drewN m = w'' := fun m => Hr8.out _ e8 m
                                    clear e8
                                    cases e9 : relB zs kb kd
                                    · have E9 := Lib.hid e9
                                      have hr9 : ∀ m, Calls Tryz.prog 47 #[.slice (some ⟨bk, off, none⟩) n c, .int .i64 (kb : Int), .int .i64 (kd : Int)] (w.drewN m) fun e w'' => e = .returned (.bool false) ∧ w.drewN m = w'' := fun m => Hr9.out _ e9 m
                                      clear e9
                                      have Hf := Lib.hid (Hye.out ka kb kc kd hl0 hl1 hl2 hl3 (Ht.out.trans (by first | (rw [e0, e1, E2.out, E3.out, E4.out, E5.out, E6.out, E7.out, E8.out, E9.out]; done) | (rw [e0, e1, E2.out, E3.out, E4.out, E5.out, E6.out, E7.out, E8.out, E9.out]; rfl))))
                                      go_wp2_with (first | (go_at_call 46; refine (bit_any _ _ _ (by omega) (by omega) (by omega) (by omega)).mono ?_; rintro e w' ⟨rfl, rfl⟩) | (go_at_call 47; with_reducible refine (hr6 _).mono ?_; rintro e w' ⟨rfl, rfl⟩) | (go_at_call 47; with_reducible refine (hr7 _).mono ?_; rintro e w' ⟨rfl, rfl⟩) | (go_at_call 47; with_reducible refine (hr8 _).mono ?_; rintro e w' ⟨rfl, rfl⟩) | (go_at_call 47; with_reducible refine (hr9 _).mono ?_; rintro e w' ⟨rfl, rfl⟩))
                                      go_ret
                                      exact ⟨ret_bool Hf.out.symm, _, rfl⟩
                                    · have Hf := Lib.hid (Ht.out.trans (by first | (rw [e0, e1, E2.out, E3.out, E4.out, E5.out, E6.out, E7.out, E8.out, e9]; done) | (rw [e0, e1, E2.out, E3.out, E4.out, E5.out, E6.out, E7.out, E8.out, e9]; rfl)))
                                      have hr9 : ∀ m, Calls Tryz.prog 47 #[.slice (some ⟨bk, off, none⟩) n c, .int .i64 (kb : Int), .int .i64 (kd : Int)] (w.drewN m) fun e w'' => e = .returned (.bool true) ∧ w.drewN m = w'' := fun m => Hr9.out _ e9 m
                                      clear e9
                                      go_wp2_with (first | (go_at_call 46; refine (bit_any _ _ _ (by omega) (by omega) (by omega) (by omega)).mono ?_; rintro e w' ⟨rfl, rfl⟩) | (go_at_call 47; with_reducible refine (hr6 _).mono ?_; rintro e w' ⟨rfl, rfl⟩) | (go_at_call 47; with_reducible refine (hr7 _).mono ?_; rintro e w' ⟨rfl, rfl⟩) | (go_at_call 47; with_reducible refine (hr8 _).mono ?_; rintro e w' ⟨rfl, rfl⟩) | (go_at_call 47; with_reducible refine (hr9 _).mono ?_; rintro e w' ⟨rfl, rfl⟩))
                                      go_roundw
                                      case rel => exact ⟨kd + 1, _, by omega, by go_num, all_snoc Hx3.out Hf.out, rfl⟩
                                      case measure => simp [intOf]; omega
                                  · have Hf := Lib.hid (Ht.out.trans (by first | (rw [e0, e1, E2.out, E3.out, E4.out, E5.out, E6.out, E7.out, e8]; done) | (rw [e0, e1, E2.out, E3.out, E4.out, E5.out, E6.out, E7.out, e8]; rfl)))
                                    have hr8 : ∀ m, Calls Tryz.prog 47 #[.slice (some ⟨bk, off, none⟩) n c, .int .i64 (kb : Int), .int .i64 (kc : Int)] (w.drewN m) fun e w'' => e = .returned (.bool true) ∧ w.drewN m = w'' := fun m => Hr8.out _ e8 m
                                    clear e8
                                    go_wp2_with (first | (go_at_call 46; refine (bit_any _ _ _ (by omega) (by omega) (by omega) (by omega)).mono ?_; rintro e w' ⟨rfl, rfl⟩) | (go_at_call 47; with_reducible refine (hr6 _).mono ?_; rintro e w' ⟨rfl, rfl⟩) | (go_at_call 47; with_reducible refine (hr7 _).mono ?_; rintro e w' ⟨rfl, rfl⟩) | (go_at_call 47; with_reducible refine (hr8 _).mono ?_; rintro e w' ⟨rfl, rfl⟩))
                                    go_roundw
                                    case rel => exact ⟨kd + 1, _, by omega, by go_num, all_snoc Hx3.out Hf.out, rfl⟩
                                    case measure => simp [intOf]; omega
                                · have Hf := Lib.hid (Ht.out.trans (by first | (rw [e0, e1, E2.out, E3.out, E4.out, E5.out, E6.out, e7]; done) | (rw [e0, e1, E2.out, E3.out, E4.out, E5.out, E6.out, e7]; rfl)))
                                  have hr7 : ∀ m, Calls Tryz.prog 47 #[.slice (some ⟨bk, off, none⟩) n c, .int .i64 (ka : Int), .int .i64 (kd : Int)] (w.drewN m) fun e w'' => e = .returned (.bool true) ∧ w.drewN m = w'' := fun m => Hr7.out _ e7 m
                                  clear e7
                                  go_wp2_with (first | (go_at_call 46; refine (bit_any _ _ _ (by omega) (by omega) (by omega) (by omega)).mono ?_; rintro e w' ⟨rfl, rfl⟩) | (go_at_call 47; with_reducible refine (hr6 _).mono ?_; rintro e w' ⟨rfl, rfl⟩) | (go_at_call 47; with_reducible refine (hr7 _).mono ?_; rintro e w' ⟨rfl, rfl⟩))
                                  go_roundw
                                  case rel => exact ⟨kd + 1, _, by omega, by go_num, all_snoc Hx3.out Hf.out, rfl⟩
                                  case measure => simp [intOf]; omega
                              · have Hf := Lib.hid (Ht.out.trans (by first | (rw [e0, e1, E2.out, E3.out, E4.out, E5.out, e6]; done) | (rw [e0, e1, E2.out, E3.out, E4.out, E5.out, e6]; rfl)))
                                have hr6 : ∀ m, Calls Tryz.prog 47 #[.slice (some ⟨bk, off, none⟩) n c, .int .i64 (ka : Int), .int .i64 (kc : Int)] (w.drewN m) fun e w'' => e = .returned (.bool true) ∧ w.drewN m = w'' := fun m => Hr6.out _ e6 m
                                clear e6
                                go_wp2_with (first | (go_at_call 46; refine (bit_any _ _ _ (by omega) (by omega) (by omega) (by omega)).mono ?_; rintro e w' ⟨rfl, rfl⟩) | (go_at_call 47; with_reducible refine (hr6 _).mono ?_; rintro e w' ⟨rfl, rfl⟩))
                                go_roundw
                                case rel => exact ⟨kd + 1, _, by omega, by go_num, all_snoc Hx3.out Hf.out, rfl⟩
                                case measure => simp [intOf]; omega
                            · have Hf := Lib.hid (Ht.out.trans (by first | (rw [e0, e1, E2.out, E3.out, E4.out, e5]; done) | (rw [e0, e1, E2.out, E3.out, E4.out, e5]; rfl)))
                              have hi5 : ((kb : Int) != (kd : Int)) = false := by rw [ne_cast, e5]; rfl
                              clear e5
                              go_wp2_with ((go_at_call 46; refine (bit_any _ _ _ (by omega) (by omega) (by omega) (by omega)).mono ?_; rintro e w' ⟨rfl, rfl⟩))
                              go_roundw
                              case rel => exact ⟨kd + 1, _, by omega, by go_num, all_snoc Hx3.out Hf.out, rfl⟩
                              case measure => simp [intOf]; omega
                          · have Hf := Lib.hid (Ht.out.trans (by first | (rw [e0, e1, E2.out, E3.out, e4]; done) | (rw [e0, e1, E2.out, E3.out, e4]; rfl)))
                            have hi4 : ((kb : Int) != (kc : Int)) = false := by rw [ne_cast, e4]; rfl
                            clear e4
                            go_wp2_with ((go_at_call 46; refine (bit_any _ _ _ (by omega) (by omega) (by omega) (by omega)).mono ?_; rintro e w' ⟨rfl, rfl⟩))
                            go_roundw
                            case rel => exact ⟨kd + 1, _, by omega, by go_num, all_snoc Hx3.out Hf.out, rfl⟩
                            case measure => simp [intOf]; omega
                        · have Hf := Lib.hid (Ht.out.trans (by first | (rw [e0, e1, E2.out, e3]; done) | (rw [e0, e1, E2.out, e3]; rfl)))
                          have hi3 : ((ka : Int) != (kd : Int)) = false := by rw [ne_cast, e3]; rfl
                          clear e3
                          go_wp2_with ((go_at_call 46; refine (bit_any _ _ _ (by omega) (by omega) (by omega) (by omega)).mono ?_; rintro e w' ⟨rfl, rfl⟩))
                          go_roundw
                          case rel => exact ⟨kd + 1, _, by omega, by go_num, all_snoc Hx3.out Hf.out, rfl⟩
                          case measure => simp [intOf]; omega
                      · have Hf := Lib.hid (Ht.out.trans (by first | (rw [e0, e1, e2]; done) | (rw [e0, e1, e2]; rfl)))
                        have hi2 : ((ka : Int) != (kc : Int)) = false := by rw [ne_cast, e2]; rfl
                        clear e2
                        go_wp2_with ((go_at_call 46; refine (bit_any _ _ _ (by omega) (by omega) (by omega) (by omega)).mono ?_; rintro e w' ⟨rfl, rfl⟩))
                        go_roundw
                        case rel => exact ⟨kd + 1, _, by omega, by go_num, all_snoc Hx3.out Hf.out, rfl⟩
                        case measure => simp [intOf]; omega
                · obtain rfl : kd = n := by omega
                  go_wp2
                  go_roundw
                  case rel => exact ⟨kc + 1, _, by omega, by go_num, all_snoc Hx2.out Hx3.out, rfl⟩
                  case measure => simp [intOf]; omega
            · obtain rfl : kc = n := by omega
              go_wp2
              go_roundw
              case rel => exact ⟨kb + 1, _, by omega, by go_num, all_snoc Hx1.out Hx2.out, rfl⟩
              case measure => simp [intOf]; omega
        · obtain rfl : kb = n := by omega
          go_wp2
          go_roundw
          case rel => exact ⟨ka + 1, _, by omega, by go_num, all_snoc Hx0.out Hx1.out, rfl⟩
          case measure => simp [intOf]; omega
    · obtain rfl : ka = n := by omega
      have Hf := Lib.hid (Hno.out Hx0.out)
      go_wp2
      go_ret
      exact ⟨ret_bool Hf.out.symm, _, rfl⟩

theorem specHasTwoPairsF_any (A : Option Addr) (n c : Nat) (zs : List Int) (w : World) (h : Ints w w.heap.size A n zs) (hbig : n ≤ 1152921504606846976) :
    Calls Tryz.prog 7 #[.slice A n c] w fun e w' => e = .returned (.bool (twoR zs)) ∧ Below w.heap.size w w' := by
  cases hvv : vo zs
  · have Ht := Lib.hid (show twoR zs = false by unfold twoR; rw [hvv]; rfl)
    have hq : ∀ m, Calls Tryz.prog 22 #[.slice A n c] (w.drewN m) fun e w' => e = .returned (.bool false) ∧ ∃ m', w' = (w.drewN m).drewN m' := fun m => by rw [← hvv]; exact validOrder_any _ _ _ _ zs _ (h.drewN m) hbig
    clear hvv
    go_enter Tryz.func7, Tryz.ntmps7
    go_wp2_with (go_at_call 22; refine (hq 0).mono ?_; rintro e w' ⟨rfl, m0, rfl⟩)
    go_ret
    exact ⟨ret_bool Ht.out.symm, below_drewN (Below.refl _ _) _⟩
  · have hvo : VoP zs := by simpa [vo] using hvv
    have Ht := Lib.hid (show twoR zs = twoB zs by unfold twoR; rw [hvv]; rfl)
    have hq : ∀ m, Calls Tryz.prog 22 #[.slice A n c] (w.drewN m) fun e w' => e = .returned (.bool true) ∧ ∃ m', w' = (w.drewN m).drewN m' := fun m => by rw [← hvv]; exact validOrder_any _ _ _ _ zs _ (h.drewN m) hbig
    have hq2 : ∀ m, Calls Tryz.prog 23 #[.slice A n c] (w.drewN m) fun e w' => e = .returned (.bool (twoB zs)) ∧ ∃ m', w' = (w.drewN m).drewN m' := fun m => specTwo_any _ _ _ _ zs hvo.sets _ (h.drewN m)
    clear hvv
    go_enter Tryz.func7, Tryz.ntmps7
    go_wp2_with (first
      | (go_at_call 22; refine (hq 0).mono ?_; rintro e w' ⟨rfl, m0, rfl⟩)
      | (go_at_call 23; refine (hq2 _).mono ?_; rintro e w' ⟨rfl, m1, rfl⟩))
    go_ret
    exact ⟨ret_bool Ht.out.symm, below_drewN (Below.refl _ _) _⟩
end Go.Proofs.YtdcdddmjffgibaaGreat

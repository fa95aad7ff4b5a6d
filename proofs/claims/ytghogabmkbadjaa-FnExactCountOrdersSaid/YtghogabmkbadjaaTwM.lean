/- Two pairs apart, three items and one apart, zigzags: as both sides tell them. No program. -/
import Derived.Test.YtghogabmkbadjaaGxd
import Derived.Test.YtghogabmkbadjaaGa
set_option linter.unusedVariables false
set_option linter.unusedSimpArgs false
namespace Go.Proofs.Ytghogabmkbadjaa
open Go.RowKit

/-- Whether four items pass a test. -/
def any4 (n : Nat) (t : Nat → Nat → Nat → Nat → Bool) : Bool := (List.range n).any fun a => (List.range n).any fun b => (List.range n).any fun c => (List.range n).any fun d => t a b c d
theorem any4_iff {n : Nat} {t : Nat → Nat → Nat → Nat → Bool} : any4 n t = true ↔ ∃ a b c d, a < n ∧ b < n ∧ c < n ∧ d < n ∧ t a b c d = true := by
  simp only [any4, List.any_eq_true, List.mem_range]
  constructor
  · rintro ⟨a, ha, b, hb, c, hc, d, hd, h⟩; exact ⟨a, b, c, d, ha, hb, hc, hd, h⟩
  · rintro ⟨a, b, c, d, ha, hb, hc, hd, h⟩; exact ⟨a, ha, b, hb, c, hc, d, hd, h⟩
theorem any4_none {n : Nat} {t : Nat → Nat → Nat → Nat → Bool} (h : ∀ a, a < n → ∀ b, b < n → ∀ c, c < n → ∀ d, d < n → t a b c d = false) : any4 n t = false := by
  cases e : any4 n t with
  | false => rfl
  | true =>
    obtain ⟨a, b, c, d, ha, hb, hc, hd, ht⟩ := any4_iff.1 e
    rw [h a ha b hb c hc d hd] at ht; cases ht
theorem any4_some {n a b c d : Nat} {t : Nat → Nat → Nat → Nat → Bool} (ha : a < n) (hb : b < n) (hc : c < n) (hd : d < n) (h : t a b c d = true) : any4 n t = true := any4_iff.2 ⟨a, b, c, d, ha, hb, hc, hd, h⟩

def tstTwo (zs : List Int) (a b c d : Nat) : Bool := bitB (zs[a]?.getD 0) b && (bitB (zs[c]?.getD 0) d && (!(a == c) && (!(a == d) && (!(b == c) && (!(b == d) && (!relB zs a c && (!relB zs a d && (!relB zs b c && !relB zs b d))))))))
def tstThr (zs : List Int) (a b c d : Nat) : Bool := bitB (zs[a]?.getD 0) b && (bitB (zs[b]?.getD 0) c && (!(d == a) && (!(d == b) && (!(d == c) && (!relB zs a d && (!relB zs b d && !relB zs c d))))))
def tstZig (zs : List Int) (a b c d : Nat) : Bool := bitB (zs[a]?.getD 0) b && (bitB (zs[c]?.getD 0) b && (bitB (zs[c]?.getD 0) d && (!(a == c) && (!(b == d) && (!relB zs a c && (!relB zs b d && !relB zs a d))))))
def twoB (zs : List Int) : Bool := any4 zs.length (tstTwo zs)
def thrB (zs : List Int) : Bool := any4 zs.length (tstThr zs)
def zigB (zs : List Int) : Bool := any4 zs.length (tstZig zs)
def twoR (zs : List Int) : Bool := vo zs && twoB zs
def thrR (zs : List Int) : Bool := vo zs && thrB zs
def zigR (zs : List Int) : Bool := vo zs && zigB zs

/-! What has no relation with an item, and with all of a set. -/
def relI (zs : List Int) (x : Nat) : Int := orI (zs[x]?.getD 0) (belI zs (powI x))
def unrI (zs : List Int) (x : Nat) : Int := lessI (powI zs.length - 1) (relI zs x)
def unrL (zs : List Int) (l : List Nat) : Int := l.foldl (fun t x => andI t (unrI zs x)) (powI zs.length - 1)
theorem unrL_snoc (zs : List Int) (l : List Nat) (x : Nat) : unrL zs (l ++ [x]) = andI (unrL zs l) (unrI zs x) := by simp [unrL]
theorem relI_bd {zs : List Int} (h : VoP zs) {x : Nat} (hx : x < zs.length) : 0 ≤ relI zs x ∧ relI zs x < powI zs.length := by
  have h1 := h.sets.2 x hx
  have h2 := powI_pos (x : Int)
  have h3 := belI_bd h.sets (s := powI x) (by omega) (powI_lt hx)
  exact orI_bd h1.1 h1.2 h3.1 h3.2
theorem unrI_bd (zs : List Int) (x : Nat) : 0 ≤ unrI zs x ∧ unrI zs x < powI zs.length := by
  have h1 := lessI_bd (powI zs.length - 1) (relI zs x)
  have h2 := powI_pos (zs.length : Int)
  unfold unrI; omega
theorem unrL_bd {zs : List Int} : ∀ l : List Nat, 0 ≤ unrL zs l ∧ unrL zs l < powI zs.length := fun l => by
  have key : ∀ (l : List Nat) (t : Int), 0 ≤ t → t < powI zs.length → 0 ≤ l.foldl (fun t x => andI t (unrI zs x)) t ∧ l.foldl (fun t x => andI t (unrI zs x)) t < powI zs.length := fun l => by
    induction l with
    | nil => intro t h0 h1; exact ⟨h0, h1⟩
    | cons a l ih =>
      intro t h0 h1
      have h3 := andI_bd t (unrI zs a)
      have h4 : andI t (unrI zs a) < powI zs.length := by omega
      exact ih _ h3.1 h4
  have h2 := powI_pos (zs.length : Int)
  exact key l _ (by omega) (by omega)
theorem unrI_bit {zs : List Int} (h : VoP zs) {x : Nat} (hx : x < zs.length) (j : Nat) : bitB (unrI zs x) j = true ↔ j < zs.length ∧ j ≠ x ∧ relB zs x j = false := by
  unfold unrI relI
  rw [bitB_less, Bool.and_eq_true, all_bits', decide_eq_true_eq, Bool.not_eq_true', bitB_or, Bool.or_eq_false_iff, ← Bool.not_eq_true (bitB (belI zs (powI x)) j), belI_bit h.sets (powI_lt hx)]
  unfold relB
  rw [Bool.or_eq_false_iff]
  constructor
  · rintro ⟨h1, h2, h3⟩
    refine ⟨h1, fun e => h3 (.inl (by rw [e, bitB_pow]; simp)), h2, ?_⟩
    cases hb : bitB (zs[j]?.getD 0) x with
    | false => rfl
    | true => exact absurd (.inr ⟨x, by rw [bitB_pow]; simp, hb⟩) h3
  · rintro ⟨h1, h2, h3, h4⟩
    refine ⟨h1, h3, ?_⟩
    rintro (e | ⟨b, e1, e2⟩)
    · rw [bitB_pow, decide_eq_true_eq] at e; exact h2 e.symm
    · rw [bitB_pow, decide_eq_true_eq] at e1
      rw [← e1, h4] at e2; cases e2
theorem unrL_bit {zs : List Int} (h : VoP zs) (j : Nat) : ∀ l : List Nat, (∀ x ∈ l, x < zs.length) → (bitB (unrL zs l) j = true ↔ j < zs.length ∧ ∀ x ∈ l, j ≠ x ∧ relB zs x j = false) := fun l => by
  have key : ∀ (l : List Nat) (t : Int), (∀ x ∈ l, x < zs.length) → (bitB (l.foldl (fun t x => andI t (unrI zs x)) t) j = true ↔ bitB t j = true ∧ ∀ x ∈ l, j < zs.length ∧ j ≠ x ∧ relB zs x j = false) := fun l => by
    induction l with
    | nil => intro t _; simp
    | cons a l ih =>
      intro t hl
      rw [List.foldl_cons, ih _ (fun x hx => hl x (by simp [hx])), bitB_and, Bool.and_eq_true, unrI_bit h (hl a (by simp))]
      constructor
      · rintro ⟨⟨h1, h2⟩, h3⟩
        refine ⟨h1, fun x hx => ?_⟩
        rcases List.mem_cons.1 hx with rfl | hx
        · exact h2
        · exact h3 x hx
      · rintro ⟨h1, h2⟩
        exact ⟨⟨h1, h2 a (by simp)⟩, fun x hx => h2 x (by simp [hx])⟩
  intro hl
  have := key l (powI zs.length - 1) hl
  rw [all_bits', decide_eq_true_eq] at this
  unfold unrL
  rw [this]
  constructor
  · rintro ⟨h1, h2⟩; exact ⟨h1, fun x hx => (h2 x hx).2⟩
  · rintro ⟨h1, h2⟩; exact ⟨h1, fun x hx => ⟨h1, h2 x hx⟩⟩

/-- The set of two items. -/
def prI (a b : Nat) : Int := orI (orI 0 (powI a)) (powI b)
theorem prI_bit (a b j : Nat) : bitB (prI a b) j = true ↔ j = a ∨ j = b := by
  unfold prI
  rw [bitB_or, bitB_or, bitB_zero, bitB_pow, bitB_pow]
  simp only [Bool.false_or, Bool.or_eq_true, decide_eq_true_eq]
  constructor
  · rintro (h | h) <;> simp [h]
  · rintro (h | h) <;> simp [h]
theorem prI_bd {n a b : Nat} (ha : a < n) (hb : b < n) : 0 ≤ prI a b ∧ prI a b < powI n := by
  have h1 := powI_pos (a : Int)
  have h2 := powI_pos (b : Int)
  have h3 := powI_pos (n : Int)
  have h4 := orI_bd (n := n) (a := 0) (b := powI a) (by omega) h3 (by omega) (powI_lt ha)
  exact orI_bd h4.1 h4.2 (by omega) (powI_lt hb)
theorem apB_false {zs : List Int} {s : Int} (h1 : s < 64) (h : apB zs s = false) : ∃ a b : Nat, bitB s a = true ∧ bitB s b = true ∧ bitB (zs[a]?.getD 0) b = true := by
  unfold apB at h
  rw [List.all_eq_false] at h
  obtain ⟨a, ha, hb⟩ := h
  have hne : andI (zs[a]?.getD 0) s ≠ 0 := by simpa using hb
  have h0 := andI_bd (zs[a]?.getD 0) s
  have : ∃ j : Nat, bitB (andI (zs[a]?.getD 0) s) j = true := by
    refine Classical.byContradiction fun hc => hne ?_
    refine bitB_ext h0.1 (by omega) fun j => ?_
    rw [bitB_zero]
    cases e : bitB (andI (zs[a]?.getD 0) s) j with
    | false => rfl
    | true => exact absurd ⟨j, e⟩ hc
  obtain ⟨j, hj⟩ := this
  rw [bitB_and, Bool.and_eq_true] at hj
  exact ⟨a, j, (mem_itemsL h1).1 ha, hj.2, hj.1⟩
theorem apB_some {zs : List Int} {s : Int} (h1 : s < 64) {a b : Nat} (ha : bitB s a = true) (hb : bitB s b = true) (h : bitB (zs[a]?.getD 0) b = true) : apB zs s = false := by
  unfold apB
  rw [List.all_eq_false]
  refine ⟨a, (mem_itemsL h1).2 ha, ?_⟩
  intro e
  have e : andI (zs[a]?.getD 0) s = 0 := by simpa using e
  have := bitB_and (zs[a]?.getD 0) s b
  rw [e, bitB_zero, h, hb] at this
  cases this

/-- What the program asks: two of what has no relation with a pair are a pair. -/
def tstPr (zs : List Int) (p : Nat × Nat) : Bool := !apB zs (unrL zs (itemsL (prI p.1 p.2)))
theorem two_pairs {zs : List Int} (h : VoP zs) : (pairsL zs).any (tstPr zs) = twoB zs := by
  have h6 := h.1
  have hp6 := powI_le6 (n := (zs.length : Int)) (by omega)
  have hmem : ∀ a b, a < zs.length → b < zs.length → ∀ x, x ∈ itemsL (prI a b) ↔ x = a ∨ x = b := fun a b ha hb x => by
    have := prI_bd ha hb
    rw [mem_itemsL (by omega), prI_bit]
  have hbit : ∀ a b, a < zs.length → b < zs.length → ∀ j : Nat, bitB (unrL zs (itemsL (prI a b))) j = true ↔ j < zs.length ∧ (j ≠ a ∧ relB zs a j = false) ∧ (j ≠ b ∧ relB zs b j = false) := fun a b ha hb j => by
    rw [unrL_bit h j _ (fun x hx => by rcases (hmem a b ha hb x).1 hx with rfl | rfl <;> assumption)]
    constructor
    · rintro ⟨h1, h2⟩
      exact ⟨h1, h2 a ((hmem a b ha hb a).2 (.inl rfl)), h2 b ((hmem a b ha hb b).2 (.inr rfl))⟩
    · rintro ⟨h1, h2, h3⟩
      refine ⟨h1, fun x hx => ?_⟩
      rcases (hmem a b ha hb x).1 hx with rfl | rfl
      · exact h2
      · exact h3
  have hlt : ∀ a b, unrL zs (itemsL (prI a b)) < 64 := fun a b => by have := unrL_bd (zs := zs) (itemsL (prI a b)); omega
  rw [Bool.eq_iff_iff]
  unfold twoB
  rw [any4_iff, List.any_eq_true]
  constructor
  · rintro ⟨⟨a, b⟩, hp, ht⟩
    obtain ⟨ha, hb, hab⟩ := h.sets.pair hp
    have ht : apB zs (unrL zs (itemsL (prI a b))) = false := by simpa [tstPr] using ht
    obtain ⟨c, d, hc, hd, hcd⟩ := apB_false (hlt a b) ht
    obtain ⟨hc1, ⟨hc2, hc3⟩, hc4, hc5⟩ := (hbit a b ha hb c).1 hc
    obtain ⟨hd1, ⟨hd2, hd3⟩, hd4, hd5⟩ := (hbit a b ha hb d).1 hd
    refine ⟨a, b, c, d, ha, hb, hc1, hd1, ?_⟩
    simp [tstTwo, hab, hcd, hc3, hc5, hd3, hd5, Ne.symm hc2, Ne.symm hc4, Ne.symm hd2, Ne.symm hd4]
  · rintro ⟨a, b, c, d, ha, hb, hc, hd, ht⟩
    simp only [tstTwo, Bool.and_eq_true, Bool.not_eq_true', beq_eq_false_iff_ne] at ht
    obtain ⟨hab, hcd, h1, h2, h3, h4, h5, h6', h7, h8⟩ := ht
    refine ⟨(a, b), mem_pairsL.2 ⟨ha, by omega, hab⟩, ?_⟩
    have : apB zs (unrL zs (itemsL (prI a b))) = false := apB_some (hlt a b) ((hbit a b ha hb c).2 ⟨hc, ⟨Ne.symm h1, h5⟩, Ne.symm h3, h7⟩) ((hbit a b ha hb d).2 ⟨hd, ⟨Ne.symm h2, h6'⟩, Ne.symm h4, h8⟩) hcd
    simp [tstPr, this]

/-- What the program asks: a chain of three and an item that has no relation with any of them. -/
def tstSet (zs : List Int) (s : Nat) : Bool := popI s == 3 && (chB zs s && !(unrL zs (itemsL s) == 0))
theorem three_sorted {zs : List Int} (h : VoP zs) {x y z : Nat} (hx : x < zs.length) (hy : y < zs.length) (hz : z < zs.length) (h1 : relB zs x y = true) (h2 : relB zs x z = true) (h3 : relB zs y z = true) :
    ∃ a b c : Nat, bitB (zs[a]?.getD 0) b = true ∧ bitB (zs[b]?.getD 0) c = true ∧ (∀ i, i = a ∨ i = b ∨ i = c ↔ i = x ∨ i = y ∨ i = z) := by
  unfold relB at h1 h2 h3
  rw [Bool.or_eq_true] at h1 h2 h3
  have tr : ∀ {a b c : Nat}, a < zs.length → bitB (zs[a]?.getD 0) b = true → bitB (zs[b]?.getD 0) c = true → bitB (zs[a]?.getD 0) c = true := fun ha h4 h5 =>
    (h.trans ⟨ha, h4⟩ ⟨h.lt_n ⟨ha, h4⟩, h5⟩).2
  rcases h1 with h1 | h1 <;> rcases h2 with h2 | h2 <;> rcases h3 with h3 | h3
  · exact ⟨x, y, z, h1, h3, fun i => Iff.rfl⟩
  · exact ⟨x, z, y, h2, h3, fun i => by omega⟩
  · exact absurd (tr hx h1 h3) (by rw [h.asym hz h2]; decide)
  · exact ⟨z, x, y, h2, h1, fun i => by omega⟩
  · exact ⟨y, x, z, h1, h2, fun i => by omega⟩
  · exact absurd (tr hx h2 h3) (by rw [h.asym hy h1]; decide)
  · exact ⟨y, z, x, h3, h2, fun i => by omega⟩
  · exact ⟨z, y, x, h3, h1, fun i => by omega⟩
/-- The set of three items. -/
def thI (a b c : Nat) : Int := orI (prI a b) (powI c)
theorem pop_three : ∀ a b c : Fin 6, a ≠ b → a ≠ c → b ≠ c → popI (thI a.val b.val c.val) = 3 := by decide +kernel
theorem len3 {l : List Nat} (h : l.length = 3) : ∃ x y z, l = [x, y, z] := by
  match l, h with
  | [x, y, z], _ => exact ⟨x, y, z, rfl⟩
theorem three_sets {zs : List Int} (h : VoP zs) : (List.range (2 ^ zs.length)).any (tstSet zs) = thrB zs := by
  have h6 := h.1
  have hp6 := powI_le6 (n := (zs.length : Int)) (by omega)
  have hpe : powI (zs.length : Int) = ((2 ^ zs.length : Nat) : Int) := by simp [powI]
  have tr : ∀ {a b c : Nat}, a < zs.length → bitB (zs[a]?.getD 0) b = true → bitB (zs[b]?.getD 0) c = true → bitB (zs[a]?.getD 0) c = true := fun ha h4 h5 =>
    (h.trans ⟨ha, h4⟩ ⟨h.lt_n ⟨ha, h4⟩, h5⟩).2
  rw [Bool.eq_iff_iff]
  unfold thrB
  rw [any4_iff, List.any_eq_true]
  constructor
  · rintro ⟨s, hs, ht⟩
    rw [List.mem_range] at hs
    simp only [tstSet, Bool.and_eq_true, beq_iff_eq, Bool.not_eq_true', beq_eq_false_iff_ne] at ht
    obtain ⟨ht1, ht2, ht3⟩ := ht
    have hs1 : (s : Int) < powI zs.length := by rw [hpe]; exact_mod_cast hs
    have hlen := popI_items (s := (s : Int)) (by omega) (by omega)
    obtain ⟨x, y, z, hl⟩ := len3 (l := itemsL (s : Int)) (by omega)
    have hm : ∀ i ∈ itemsL (s : Int), i < zs.length := fun i hi => bitB_lt hs1 ((mem_itemsL (by omega)).1 hi)
    have hc : ChP zs s := by simpa [chB] using ht2
    unfold ChP at hc
    rw [hl] at hm hc
    simp only [List.pairwise_cons, List.mem_cons, List.not_mem_nil, or_false, forall_eq_or_imp, forall_eq] at hc
    obtain ⟨a, b, c, hab, hbc, hi⟩ := three_sorted h (hm x (by simp)) (hm y (by simp)) (hm z (by simp)) hc.1.1 hc.1.2 hc.2.1
    have hma : ∀ i, i = a ∨ i = b ∨ i = c → i < zs.length := fun i e => hm i (by have := (hi i).1 e; simpa using this)
    have hne := unrL_bd (zs := zs) (itemsL (s : Int))
    have : ∃ d : Nat, bitB (unrL zs (itemsL (s : Int))) d = true := by
      refine Classical.byContradiction fun hc => ht3 ?_
      refine bitB_ext hne.1 (by omega) fun j => ?_
      rw [bitB_zero]
      cases e : bitB (unrL zs (itemsL (s : Int))) j with
      | false => rfl
      | true => exact absurd ⟨j, e⟩ hc
    obtain ⟨d, hd⟩ := this
    rw [unrL_bit h d _ (by rw [hl]; exact hm), hl] at hd
    obtain ⟨hd1, hd2⟩ := hd
    have hd3 : ∀ i, i = a ∨ i = b ∨ i = c → d ≠ i ∧ relB zs i d = false := fun i e => hd2 i (by have := (hi i).1 e; simpa using this)
    have da := hd3 a (.inl rfl)
    have db := hd3 b (.inr (.inl rfl))
    have dc := hd3 c (.inr (.inr rfl))
    exact ⟨a, b, c, d, hma a (.inl rfl), hma b (.inr (.inl rfl)), hma c (.inr (.inr rfl)), hd1, by simp [tstThr, hab, hbc, da.1, da.2, db.1, db.2, dc.1, dc.2]⟩
  · rintro ⟨a, b, c, d, ha, hb, hc, hd, ht⟩
    simp only [tstThr, Bool.and_eq_true, Bool.not_eq_true', beq_eq_false_iff_ne] at ht
    obtain ⟨hab, hbc, h1, h2, h3, h4, h5, h7⟩ := ht
    have hac := tr ha hab hbc
    have n1 : a ≠ b := fun e => by rw [← e, h.irrB ha] at hab; cases hab
    have n2 : a ≠ c := fun e => by rw [← e, h.irrB ha] at hac; cases hac
    have n3 : b ≠ c := fun e => by rw [← e, h.irrB hb] at hbc; cases hbc
    have hq := prI_bd ha hb
    have hpc := powI_pos (c : Int)
    have hth : 0 ≤ thI a b c ∧ thI a b c < powI zs.length := orI_bd hq.1 hq.2 (by omega) (powI_lt hc)
    have hbit : ∀ j : Nat, bitB (thI a b c) j = true ↔ j = a ∨ j = b ∨ j = c := fun j => by
      unfold thI
      rw [bitB_or, Bool.or_eq_true, prI_bit, bitB_pow, decide_eq_true_eq, or_assoc]
      constructor
      · rintro (e | e | e) <;> simp [e]
      · rintro (e | e | e) <;> simp [e]
    obtain ⟨s, hs⟩ := Int.eq_ofNat_of_zero_le hth.1
    have hmem : ∀ i, i ∈ itemsL (thI a b c) ↔ i = a ∨ i = b ∨ i = c := fun i => by rw [mem_itemsL (by omega), hbit]
    refine ⟨s, List.mem_range.2 (by have := hth.2; rw [hs, hpe] at this; exact_mod_cast this), ?_⟩
    unfold tstSet
    rw [show ((s : Nat) : Int) = thI a b c from hs.symm]
    have e1 : popI (thI a b c) = 3 := pop_three ⟨a, by omega⟩ ⟨b, by omega⟩ ⟨c, by omega⟩ (by simpa using n1) (by simpa using n2) (by simpa using n3)
    have r1 : relB zs a b = true := by simp [relB, hab]
    have r2 : relB zs a c = true := by simp [relB, hac]
    have r3 : relB zs b c = true := by simp [relB, hbc]
    have e2 : chB zs (thI a b c) = true := by
      unfold chB
      refine decide_eq_true (show ChP zs (thI a b c) from ?_)
      unfold ChP
      have hnd : (itemsL (thI a b c)).Pairwise (· < ·) := itemsL_sorted _
      refine hnd.imp_of_mem ?_
      intro x y hx hy hxy
      have hcm : ∀ u v, relB zs u v = relB zs v u := fun u v => by unfold relB; rw [Bool.or_comm]
      rcases (hmem x).1 hx with rfl | rfl | rfl <;> rcases (hmem y).1 hy with rfl | rfl | rfl <;> first | (exfalso; omega) | assumption | (rw [hcm]; assumption)
    have e3 : (unrL zs (itemsL (thI a b c)) == 0) = false := by
      rw [beq_eq_false_iff_ne]
      intro e
      have := (unrL_bit h d (itemsL (thI a b c)) (fun x hx => by rcases (hmem x).1 hx with rfl | rfl | rfl <;> assumption)).2 ⟨hd, fun x hx => by
        rcases (hmem x).1 hx with rfl | rfl | rfl
        · exact ⟨h1, h4⟩
        · exact ⟨h2, h5⟩
        · exact ⟨h3, h7⟩⟩
      rw [e, bitB_zero] at this; cases this
    rw [e1, e2, e3]; rfl
end Go.Proofs.Ytghogabmkbadjaa

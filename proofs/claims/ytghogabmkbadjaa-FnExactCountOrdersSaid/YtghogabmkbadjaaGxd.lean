/- Texts that several claims share, one behind the other. -/
import Derived.Test.YtghogabmkbadjaaGc
import Derived.Test.YtghogabmkbadjaaGxc
import Derived.Test.YtghogabmkbadjaaGb
import Derived.Test.YtghogabmkbadjaaGa
import Derived.Test.YtghogabmkbadjaaGxh
set_option linter.unusedVariables false
set_option linter.unusedSimpArgs false
/- The longest chain and the widest set apart: words, and the model's helper. -/
namespace Go.Proofs.Ytghogabmkbadjaa
open Go.RowKit

theorem maxL_snoc (f : Nat → Int) (l : List Nat) (a : Nat) : maxL f (l ++ [a]) = max (maxL f l) (f a + 1) := by simp [maxL]
theorem maxL_range (f : Nat → Int) (k : Nat) : maxL f (List.range (k + 1)) = max (maxL f (List.range k)) (f k + 1) := by rw [List.range_succ, maxL_snoc]
theorem hgts_get {zs : List Int} {n k : Nat} (hk : k < n) : ((List.range n).map (hgt zs))[k]?.getD 0 = hgt zs k := by simp [hk]

def longR (zs : List Int) : Int := if vo zs then longI zs else -1
def wideR (zs : List Int) : Int := if vo zs then grTo (apB zs) (setsN zs) else -1
end Go.Proofs.Ytghogabmkbadjaa

/- Pairs of items of two orders: an order, its greatest chain, turned round (mathematics). No program. -/
namespace Go.Proofs.Ytghogabmkbadjaa
open Go.RowKit

/-- At or below. -/
def leq (zs : List Int) (a b : Nat) : Prop := a = b ∨ lt zs a b
theorem lt_irr' {zs : List Int} (h : VoP zs) {a : Nat} : ¬ lt zs a a := h.irr
theorem leq_trans {zs : List Int} (h : VoP zs) {a b c : Nat} (h1 : leq zs a b) (h2 : leq zs b c) : leq zs a c := by
  rcases h1 with rfl | h1
  · exact h2
  · rcases h2 with rfl | h2
    · exact .inr h1
    · exact .inr (h.trans h1 h2)
theorem leq_asym {zs : List Int} (h : VoP zs) {a b : Nat} (h1 : leq zs a b) (h2 : leq zs b a) : a = b := by
  rcases h1 with e | h1
  · exact e
  · rcases h2 with e | h2
    · exact e.symm
    · exact absurd (h.trans h1 h2) h.irr
theorem leq_bit {zs : List Int} {a b : Nat} (ha : a < zs.length) : bitB (orI (zs[a]?.getD 0) (powI (a : Int))) (b : Int) = true ↔ leq zs a b := by
  rw [bitB_or, bitB_pow, Bool.or_eq_true, decide_eq_true_eq]
  unfold leq lt
  constructor
  · rintro (h | h)
    · exact .inr ⟨ha, h⟩
    · exact .inl h
  · rintro (h | h)
    · exact .inr h
    · exact .inl h.2
theorem leq_hgt {zs : List Int} (h : VoP zs) {a b : Nat} (h1 : leq zs a b) : hgt zs a ≤ hgt zs b := by
  rcases h1 with rfl | h1
  · exact Int.le_refl _
  · have := hgt_up h h1; omega
section
variable {zs ys : List Int} {n m : Nat}
theorem tm_lt (hn : zs.length = n) (hm : ys.length = m) {i k : Nat} : lt (tmL zs ys) i k ↔ i < n * m ∧ k < n * m ∧ i ≠ k ∧ leq zs (i / m) (k / m) ∧ leq ys (i % m) (k % m) := by
  unfold lt
  rw [tmL_len, hn, hm]
  constructor
  · rintro ⟨hi, hb⟩
    rw [tmL_get zs ys hn hm hi, tmTo_bit] at hb
    have hm0 : 0 < m := by
      rcases Nat.eq_zero_or_pos m with e | e
      · rw [e, Nat.mul_zero] at hi; omega
      · exact e
    unfold tmA at hb
    simp only [Bool.and_eq_true, decide_eq_true_eq, bne_iff_ne] at hb
    obtain ⟨hk, hne, h1, h2⟩ := hb
    exact ⟨hi, hk, hne, (leq_bit (by rw [hn]; exact (Nat.div_lt_iff_lt_mul hm0).2 hi)).1 h1, (leq_bit (by rw [hm]; exact Nat.mod_lt _ hm0)).1 h2⟩
  · rintro ⟨hi, hk, hne, h1, h2⟩
    have hm0 : 0 < m := by
      rcases Nat.eq_zero_or_pos m with e | e
      · rw [e, Nat.mul_zero] at hi; omega
      · exact e
    refine ⟨hi, ?_⟩
    rw [tmL_get zs ys hn hm hi, tmTo_bit]
    unfold tmA
    simp only [Bool.and_eq_true, decide_eq_true_eq, bne_iff_ne]
    exact ⟨hk, hne, (leq_bit (by rw [hn]; exact (Nat.div_lt_iff_lt_mul hm0).2 hi)).2 h1, (leq_bit (by rw [hm]; exact Nat.mod_lt _ hm0)).2 h2⟩
theorem pair_eq {m i k : Nat} (h1 : i / m = k / m) (h2 : i % m = k % m) : i = k := by
  have e1 := Nat.div_add_mod i m
  have e2 := Nat.div_add_mod k m
  rw [h1, h2] at e1
  omega
theorem tm_bits (hn : zs.length = n) (hm : ys.length = m) {i k : Nat} (hi : i < n * m) : bitB ((tmL zs ys)[i]?.getD 0) (k : Int) = true ↔ lt (tmL zs ys) i k := by
  unfold lt
  rw [tmL_len, hn, hm]
  exact ⟨fun h => ⟨hi, h⟩, fun h => h.2⟩
theorem tm_vo (hn : zs.length = n) (hm : ys.length = m) (hv : VoP zs) (hv' : VoP ys) (h6 : n * m ≤ 6) : VoP (tmL zs ys) := by
  have hl : (tmL zs ys).length = n * m := by rw [tmL_len, hn, hm]
  refine ⟨by rw [hl]; exact h6, fun a ha => ?_, fun a ha b hb => ?_⟩
  · rw [hl] at ha
    have hb := tmTo_bd zs ys m a (n * m)
    have e : bitB ((tmL zs ys)[a]?.getD 0) (a : Int) = false := by
      cases e : bitB ((tmL zs ys)[a]?.getD 0) (a : Int)
      · rfl
      · exact absurd rfl ((tm_lt hn hm).1 ((tm_bits hn hm ha).1 e)).2.2.1
    unfold okA inB
    rw [e, tmL_get zs ys hn hm ha, hl]
    simp only [Bool.not_false, Bool.and_true, decide_eq_true_eq]
    omega
  · rw [hl] at ha hb
    unfold okP
    cases e : bitB ((tmL zs ys)[a]?.getD 0) (b : Int)
    · rfl
    · obtain ⟨_, _, hne, h1, h2⟩ := (tm_lt hn hm).1 ((tm_bits hn hm ha).1 e)
      have hl1 : lessI ((tmL zs ys)[b]?.getD 0) ((tmL zs ys)[a]?.getD 0) = 0 := by
        refine bitB_ext (lessI_bd _ _).1 (Int.le_refl _) fun j => ?_
        rw [bitB_less, bitB_zero]
        cases e1 : bitB ((tmL zs ys)[b]?.getD 0) (j : Int)
        · rfl
        · obtain ⟨_, hj, hne2, h3, h4⟩ := (tm_lt hn hm).1 ((tm_bits hn hm hb).1 e1)
          have : lt (tmL zs ys) a j := (tm_lt hn hm).2 ⟨ha, hj, fun ej => by
            subst ej
            exact hne (pair_eq (leq_asym hv h1 h3) (leq_asym hv' h2 h4)), leq_trans hv h1 h3, leq_trans hv' h2 h4⟩
          rw [(tm_bits hn hm ha).2 this]; rfl
      have h2' : bitB ((tmL zs ys)[b]?.getD 0) (a : Int) = false := by
        cases e2 : bitB ((tmL zs ys)[b]?.getD 0) (a : Int)
        · rfl
        · obtain ⟨_, _, _, h3, h4⟩ := (tm_lt hn hm).1 ((tm_bits hn hm hb).1 e2)
          exact absurd (pair_eq (leq_asym hv h1 h3) (leq_asym hv' h2 h4)) hne
      rw [hl1, h2']; rfl
theorem mk_div {m a b : Nat} (hb : b < m) : (a * m + b) / m = a := by rw [Nat.mul_comm, Nat.mul_add_div (by omega), Nat.div_eq_of_lt hb, Nat.add_zero]
theorem mk_mod {m a b : Nat} (hb : b < m) : (a * m + b) % m = b := by rw [Nat.mul_comm, Nat.mul_add_mod, Nat.mod_eq_of_lt hb]
theorem mk_lt {n m a b : Nat} (ha : a < n) (hb : b < m) : a * m + b < n * m := by
  have h1 : (a + 1) * m ≤ n * m := Nat.mul_le_mul_right m ha
  rw [Nat.add_mul, Nat.one_mul] at h1
  omega
theorem lt_len {zs : List Int} (h : VoP zs) {a b : Nat} (hl : lt zs a b) : a < zs.length ∧ b < zs.length := ⟨hl.1, h.lt_n hl⟩
theorem tm_hgt_ge (hn : zs.length = n) (hm : ys.length = m) (hv : VoP zs) (hv' : VoP ys) (h6 : n * m ≤ 6) : ∀ (d a b : Nat), a < n → b < m → hgt zs a + hgt ys b = (d : Int) → hgt zs a + hgt ys b ≤ hgt (tmL zs ys) (a * m + b)
  | 0, a, b, ha, hb, hd => by have := hgt_nn (tmL zs ys) (a * m + b); omega
  | d + 1, a, b, ha, hb, hd => by
    have hV := tm_vo hn hm hv hv' h6
    rcases hgt_eq hv (b := a) (by rw [hn]; exact ha) with e | ⟨a', h1, h2⟩
    · rcases hgt_eq hv' (b := b) (by rw [hm]; exact hb) with e' | ⟨b', h1, h2⟩
      · omega
      · have hb' := (lt_len hv' h1).1
        rw [hm] at hb'
        have ih := tm_hgt_ge hn hm hv hv' h6 d a b' ha hb' (by omega)
        have hl : lt (tmL zs ys) (a * m + b') (a * m + b) := (tm_lt hn hm).2 ⟨mk_lt ha hb', mk_lt ha hb, fun e => by
          have : b' = b := by omega
          subst this; exact absurd h1 hv'.irr, .inl (by rw [mk_div hb', mk_div hb]), .inr (by rw [mk_mod hb', mk_mod hb]; exact h1)⟩
        have := hgt_up hV hl
        omega
    · have ha' := (lt_len hv h1).1
      rw [hn] at ha'
      have ih := tm_hgt_ge hn hm hv hv' h6 d a' b ha' hb (by omega)
      have hl : lt (tmL zs ys) (a' * m + b) (a * m + b) := (tm_lt hn hm).2 ⟨mk_lt ha' hb, mk_lt ha hb, fun e => by
        have e1 := mk_div (a := a') hb
        rw [e, mk_div hb] at e1
        subst e1; exact absurd h1 hv.irr, .inr (by rw [mk_div hb, mk_div hb]; exact h1), .inl (by rw [mk_mod hb, mk_mod hb])⟩
      have := hgt_up hV hl
      omega
theorem tm_hgt_le (hn : zs.length = n) (hm : ys.length = m) (hv : VoP zs) (hv' : VoP ys) (h6 : n * m ≤ 6) : ∀ (d i : Nat), i < n * m → hgt (tmL zs ys) i = (d : Int) → hgt (tmL zs ys) i ≤ hgt zs (i / m) + hgt ys (i % m)
  | 0, i, hi, hd => by have h1 := hgt_nn zs (i / m); have h2 := hgt_nn ys (i % m); omega
  | d + 1, i, hi, hd => by
    have hV := tm_vo hn hm hv hv' h6
    rcases hgt_eq hV (b := i) (by rw [tmL_len, hn, hm]; exact hi) with e | ⟨j, h1, h2⟩
    · have h1 := hgt_nn zs (i / m); have h2 := hgt_nn ys (i % m); omega
    · obtain ⟨hj, _, hne, h3, h4⟩ := (tm_lt hn hm).1 h1
      have ih := tm_hgt_le hn hm hv hv' h6 d j hj (by omega)
      rcases h3 with e3 | h3
      · rcases h4 with e4 | h4
        · exact absurd (pair_eq e3 e4) hne
        · have := hgt_up hv' h4
          rw [e3] at ih
          omega
      · have := hgt_up hv h3
        have := leq_hgt hv' h4
        omega
theorem tm_hgt (hn : zs.length = n) (hm : ys.length = m) (hv : VoP zs) (hv' : VoP ys) (h6 : n * m ≤ 6) {i : Nat} (hi : i < n * m) : hgt (tmL zs ys) i = hgt zs (i / m) + hgt ys (i % m) := by
  have hm0 : 0 < m := by
    rcases Nat.eq_zero_or_pos m with e | e
    · rw [e, Nat.mul_zero] at hi; omega
    · exact e
  have ha : i / m < n := (Nat.div_lt_iff_lt_mul hm0).2 hi
  have hb : i % m < m := Nat.mod_lt _ hm0
  obtain ⟨d, hd⟩ := Int.eq_ofNat_of_zero_le (hgt_nn (tmL zs ys) i)
  obtain ⟨d', hd'⟩ := Int.eq_ofNat_of_zero_le (show 0 ≤ hgt zs (i / m) + hgt ys (i % m) by have h1 := hgt_nn zs (i / m); have h2 := hgt_nn ys (i % m); omega)
  have h1 := tm_hgt_le hn hm hv hv' h6 d i hi hd
  have h2 := tm_hgt_ge hn hm hv hv' h6 d' (i / m) (i % m) ha hb hd'
  have e : i / m * m + i % m = i := by rw [Nat.mul_comm]; exact Nat.div_add_mod i m
  rw [e] at h2
  omega
theorem tm_long (hn : zs.length = n) (hm : ys.length = m) (hv : VoP zs) (hv' : VoP ys) (h6 : n * m ≤ 6) (h0 : 0 < n * m) : longI (tmL zs ys) = longI zs + longI ys - 1 := by
  have hl : (tmL zs ys).length = n * m := by rw [tmL_len, hn, hm]
  have hm0 : 0 < m := by
    rcases Nat.eq_zero_or_pos m with e | e
    · rw [e, Nat.mul_zero] at h0; omega
    · exact e
  have hn0 : 0 < n := by
    rcases Nat.eq_zero_or_pos n with e | e
    · rw [e, Nat.zero_mul] at h0; omega
    · exact e
  unfold longI
  rw [hl, hn, hm]
  have g1 := maxL_ge (hgt (tmL zs ys)) (List.range (n * m))
  have g2 := maxL_ge (hgt zs) (List.range n)
  have g3 := maxL_ge (hgt ys) (List.range m)
  refine Int.le_antisymm ?_ ?_
  · rcases maxL_eq (hgt (tmL zs ys)) (List.range (n * m)) with e | ⟨i, hi, e⟩
    · have := g1.2 0 (by simpa using h0)
      have := hgt_nn (tmL zs ys) 0
      omega
    · have hi := List.mem_range.1 hi
      rw [e, tm_hgt hn hm hv hv' h6 hi]
      have h1 := g2.2 (i / m) (List.mem_range.2 ((Nat.div_lt_iff_lt_mul hm0).2 hi))
      have h2 := g3.2 (i % m) (List.mem_range.2 (Nat.mod_lt _ hm0))
      omega
  · rcases maxL_eq (hgt zs) (List.range n) with e | ⟨a, ha, e⟩
    · have := g2.2 0 (by simpa using hn0)
      have := hgt_nn zs 0
      omega
    · rcases maxL_eq (hgt ys) (List.range m) with e' | ⟨b, hb, e'⟩
      · have := g3.2 0 (by simpa using hm0)
        have := hgt_nn ys 0
        omega
      · have ha := List.mem_range.1 ha
        have hb := List.mem_range.1 hb
        have h1 := g1.2 (a * m + b) (List.mem_range.2 (mk_lt ha hb))
        rw [tm_hgt hn hm hv hv' h6 (mk_lt ha hb), mk_div hb, mk_mod hb] at h1
        omega
theorem du_leq (h : VoP zs) {a b : Nat} : leq (du zs) a b ↔ leq zs b a := by
  unfold leq
  rw [du_lt h]
  exact ⟨fun e => e.imp Eq.symm id, fun e => e.imp Eq.symm id⟩
theorem tm_du (hn : zs.length = n) (hm : ys.length = m) (hv : VoP zs) (hv' : VoP ys) (h6 : n * m ≤ 6) : du (tmL zs ys) = tmL (du zs) (du ys) := by
  have hV := tm_vo hn hm hv hv' h6
  have hn' : (du zs).length = n := by rw [du_len, hn]
  have hm' : (du ys).length = m := by rw [du_len, hm]
  have hV' := tm_vo hn' hm' (du_vo hv) (du_vo hv') h6
  have hl : (du (tmL zs ys)).length = n * m := by rw [du_len, tmL_len, hn, hm]
  have hl' : (tmL (du zs) (du ys)).length = n * m := by rw [tmL_len, hn', hm']
  refine List.ext_getElem (by rw [hl, hl']) fun i h1 h2 => ?_
  have hi : i < n * m := by rw [← hl]; exact h1
  have e1 := (du_vo hV).bd i h1
  have e2 := hV'.bd i h2
  have hb : ∀ k : Nat, bitB ((du (tmL zs ys))[i]?.getD 0) (k : Int) = bitB ((tmL (du zs) (du ys))[i]?.getD 0) (k : Int) := fun k => by
    have key : lt (du (tmL zs ys)) i k ↔ lt (tmL (du zs) (du ys)) i k := by
      rw [du_lt hV, tm_lt hn hm, tm_lt hn' hm', du_leq hv, du_leq hv']
      constructor
      · rintro ⟨a1, a2, a3, a4, a5⟩; exact ⟨a2, a1, fun e => a3 e.symm, a4, a5⟩
      · rintro ⟨a1, a2, a3, a4, a5⟩; exact ⟨a2, a1, fun e => a3 e.symm, a4, a5⟩
    unfold lt at key
    rw [hl, hl'] at key
    rw [Bool.eq_iff_iff]
    exact ⟨fun e => (key.1 ⟨hi, e⟩).2, fun e => (key.2 ⟨hi, e⟩).2⟩
  have := bitB_ext e1.1 e2.1 hb
  rwa [List.getElem?_eq_getElem h1, List.getElem?_eq_getElem h2, Option.getD_some, Option.getD_some] at this
end
end Go.Proofs.Ytghogabmkbadjaa

/- Orders beside each other, and one above the other: orders, their longest chains and widest sets apart (mathematics). No program. -/
namespace Go.Proofs.Ytghogabmkbadjaa
open Go.RowKit

theorem onesB_fin : ∀ m : Fin 7, ∀ j : Fin 7, bitB (powI (m.val : Int) - 1) (j.val : Int) = decide (j.val < m.val) := by decide +kernel
theorem onesB_bit {m : Nat} (hm : m ≤ 6) (j : Nat) : bitB (powI (m : Int) - 1) (j : Int) = decide (j < m) := by
  rcases Nat.lt_or_ge j 7 with h | h
  · exact onesB_fin ⟨m, by omega⟩ ⟨j, h⟩
  · have hp := powI_pos (m : Int)
    cases e : bitB (powI (m : Int) - 1) (j : Int)
    · rw [decide_eq_false (by omega)]
    · have := bitB_lt (n := m) (by omega : powI (m : Int) - 1 < powI (m : Int)) e
      omega
section
variable {zs ys : List Int} {n m : Nat} {over : Bool}
theorem both_get1 (hn : zs.length = n) (hm : ys.length = m) {a : Nat} (ha : a < n) : (bothL zs ys over)[a]?.getD 0 = uqS n m over (zs[a]?.getD 0) := by
  unfold bothL
  rw [List.getElem?_append_left (by rw [uqL_len, hn]; exact ha), hn, hm]
  exact uqL_get n m over zs (by rw [hn]; exact ha)
theorem both_get2 (hn : zs.length = n) (hm : ys.length = m) {b : Nat} (hb : b < m) : (bothL zs ys over)[n + b]?.getD 0 = (ys[b]?.getD 0) * powI n := by
  unfold bothL
  rw [List.getElem?_append_right (by rw [uqL_len, hn]; omega), uqL_len, hn, Nat.add_sub_cancel_left]
  exact shl_get n ys (by rw [hm]; exact hb)
theorem beh_bit (h6 : n + m ≤ 6) (j : Nat) : bitB (behI n m) (j : Int) = (decide (n ≤ j) && decide (j - n < m)) := by
  unfold behI
  have hp := powI_pos (m : Int)
  rw [mulpow_bit (by omega), onesB_bit (by omega)]
theorem both_lt (hn : zs.length = n) (hm : ys.length = m) (hv : VoP zs) (hv' : VoP ys) (h6 : n + m ≤ 6) {a b : Nat} :
    lt (bothL zs ys over) a b ↔ (a < n ∧ b < n ∧ lt zs a b) ∨ (n ≤ a ∧ n ≤ b ∧ lt ys (a - n) (b - n)) ∨ (over = true ∧ a < n ∧ n ≤ b ∧ b < n + m) := by
  have hl : (bothL zs ys over).length = n + m := by rw [bothL_len, hn, hm]
  unfold lt
  rw [hl]
  rcases Nat.lt_or_ge a n with ha | ha
  · rw [both_get1 hn hm ha]
    have hz := hv.bd a (by rw [hn]; exact ha)
    have hlt : bitB (zs[a]?.getD 0) (b : Int) = true → b < n := fun e => by
      have := bitB_lt (hv.sets.2 a (by rw [hn]; exact ha)).2 e
      rw [hn] at this; exact this
    cases over
    · unfold uqS
      simp only [Bool.false_eq_true, if_false, false_and, or_false]
      constructor
      · rintro ⟨_, e⟩; exact .inl ⟨ha, hlt e, by rw [hn]; exact ha, e⟩
      · rintro (⟨_, _, _, e⟩ | ⟨h1, _⟩)
        · exact ⟨by omega, e⟩
        · omega
    · unfold uqS
      simp only [if_true, true_and]
      rw [bitB_or, beh_bit h6, Bool.or_eq_true, Bool.and_eq_true, decide_eq_true_eq, decide_eq_true_eq]
      constructor
      · rintro ⟨_, e | ⟨h1, h2⟩⟩
        · exact .inl ⟨ha, hlt e, by rw [hn]; exact ha, e⟩
        · exact .inr (.inr ⟨ha, h1, by omega⟩)
      · rintro (⟨_, _, _, e⟩ | ⟨h1, _⟩ | ⟨_, h1, h2⟩)
        · exact ⟨by omega, .inl e⟩
        · omega
        · exact ⟨by omega, .inr ⟨h1, by omega⟩⟩
  · constructor
    · rintro ⟨h1, e⟩
      obtain ⟨c, rfl⟩ : ∃ c, a = n + c := ⟨a - n, by omega⟩
      have hc : c < m := by omega
      have hy := hv'.bd c (by rw [hm]; exact hc)
      rw [both_get2 hn hm hc, mulpow_bit hy.1, Bool.and_eq_true, decide_eq_true_eq] at e
      exact .inr (.inl ⟨ha, e.1, by rw [Nat.add_sub_cancel_left, hm]; exact hc, by rw [Nat.add_sub_cancel_left]; exact e.2⟩)
    · rintro (⟨h1, _⟩ | ⟨_, h1, h2, e⟩ | ⟨_, h1, _⟩)
      · omega
      · obtain ⟨c, rfl⟩ : ∃ c, a = n + c := ⟨a - n, by omega⟩
        rw [Nat.add_sub_cancel_left] at h2 e
        rw [hm] at h2
        have hy := hv'.bd c (by rw [hm]; exact h2)
        refine ⟨by omega, ?_⟩
        rw [both_get2 hn hm h2, mulpow_bit hy.1, decide_eq_true h1]
        exact e
      · omega
theorem both_bd (hn : zs.length = n) (hm : ys.length = m) (hv : VoP zs) (hv' : VoP ys) (h6 : n + m ≤ 6) {a : Nat} (ha : a < n + m) : 0 ≤ (bothL zs ys over)[a]?.getD 0 ∧ (bothL zs ys over)[a]?.getD 0 < powI ((n + m : Nat) : Int) := by
  have e6 := powI_add6 ⟨n, by omega⟩ ⟨m, by omega⟩
  simp only at e6
  have hle : powI (n : Int) ≤ powI ((n + m : Nat) : Int) := powI_le (by omega)
  have hpn := powI_pos (n : Int)
  rcases Nat.lt_or_ge a n with h | h
  · rw [both_get1 hn hm h]
    have hz := hv.sets.2 a (by rw [hn]; exact h)
    rw [hn] at hz
    unfold uqS
    split
    · have hb := beh_bd h6
      have hb2 : behI n m < powI ((n + m : Nat) : Int) := by
        unfold behI
        rw [Int.sub_mul, Int.one_mul, Int.mul_comm (powI (m : Int)), e6]
        omega
      exact orI_bd hz.1 (by omega) hb.1 hb2
    · omega
  · obtain ⟨c, rfl⟩ : ∃ c, a = n + c := ⟨a - n, by omega⟩
    have hc : c < m := by omega
    have hy := hv'.sets.2 c (by rw [hm]; exact hc)
    rw [hm] at hy
    rw [both_get2 hn hm hc]
    have h2 : (ys[c]?.getD 0 + 1) * powI (n : Int) ≤ powI (m : Int) * powI (n : Int) := Int.mul_le_mul_of_nonneg_right (by omega) (by omega)
    rw [Int.add_mul, Int.one_mul, Int.mul_comm (powI (m : Int)), e6] at h2
    exact ⟨Int.mul_nonneg hy.1 (by omega), by omega⟩
/-- A list of sets whose relation is one of orders is an order. -/
theorem vo_of_lt {B : List Int} (h6 : B.length ≤ 6) (hb : ∀ a, a < B.length → 0 ≤ B[a]?.getD 0 ∧ B[a]?.getD 0 < powI B.length) (hi : ∀ a, ¬ lt B a a) (ht : ∀ a b c, lt B a b → lt B b c → lt B a c) : VoP B := by
  have has : ∀ a b, lt B a b → ¬ lt B b a := fun a b h1 h2 => hi a (ht a b a h1 h2)
  refine ⟨h6, fun a ha => ?_, fun a ha b hb' => ?_⟩
  · have h1 := hb a ha
    have e : bitB (B[a]?.getD 0) (a : Int) = false := by
      cases e : bitB (B[a]?.getD 0) (a : Int)
      · rfl
      · exact absurd ⟨ha, e⟩ (hi a)
    unfold okA inB
    rw [e]
    simp only [Bool.not_false, Bool.and_true, decide_eq_true_eq]
    omega
  · unfold okP
    cases e : bitB (B[a]?.getD 0) (b : Int)
    · rfl
    · have hl1 : lessI (B[b]?.getD 0) (B[a]?.getD 0) = 0 := by
        refine bitB_ext (lessI_bd _ _).1 (Int.le_refl _) fun j => ?_
        rw [bitB_less, bitB_zero]
        cases e1 : bitB (B[b]?.getD 0) (j : Int)
        · rfl
        · rw [(ht a b j ⟨ha, e⟩ ⟨hb', e1⟩).2]; rfl
      have h2' : bitB (B[b]?.getD 0) (a : Int) = false := by
        cases e2 : bitB (B[b]?.getD 0) (a : Int)
        · rfl
        · exact absurd ⟨hb', e2⟩ (has a b ⟨ha, e⟩)
      rw [hl1, h2']; rfl
theorem both_vo (hn : zs.length = n) (hm : ys.length = m) (hv : VoP zs) (hv' : VoP ys) (h6 : n + m ≤ 6) : VoP (bothL zs ys over) := by
  have hl : (bothL zs ys over).length = n + m := by rw [bothL_len, hn, hm]
  refine vo_of_lt (by rw [hl]; exact h6) (fun a ha => by rw [hl] at ha ⊢; exact both_bd hn hm hv hv' h6 ha) (fun a h => ?_) (fun a b c h1 h2 => ?_)
  · rcases (both_lt hn hm hv hv' h6).1 h with ⟨_, _, h⟩ | ⟨_, _, h⟩ | ⟨_, h1, h2, _⟩
    · exact hv.irr h
    · exact hv'.irr h
    · omega
  · rcases (both_lt hn hm hv hv' h6).1 h1 with ⟨a1, a2, a3⟩ | ⟨a1, a2, a3⟩ | ⟨a1, a2, a3, a4⟩
    · rcases (both_lt hn hm hv hv' h6).1 h2 with ⟨b1, b2, b3⟩ | ⟨b1, b2, b3⟩ | ⟨b1, b2, b3, b4⟩
      · exact (both_lt hn hm hv hv' h6).2 (.inl ⟨a1, b2, hv.trans a3 b3⟩)
      · omega
      · exact (both_lt hn hm hv hv' h6).2 (.inr (.inr ⟨b1, a1, b3, b4⟩))
    · rcases (both_lt hn hm hv hv' h6).1 h2 with ⟨b1, b2, b3⟩ | ⟨b1, b2, b3⟩ | ⟨b1, b2, b3, b4⟩
      · omega
      · exact (both_lt hn hm hv hv' h6).2 (.inr (.inl ⟨a1, b2, hv'.trans a3 b3⟩))
      · omega
    · rcases (both_lt hn hm hv hv' h6).1 h2 with ⟨b1, b2, b3⟩ | ⟨b1, b2, b3⟩ | ⟨b1, b2, b3, b4⟩
      · omega
      · have := (lt_len hv' b3).2
        rw [hm] at this
        exact (both_lt hn hm hv hv' h6).2 (.inr (.inr ⟨a1, a2, b2, by omega⟩))
      · omega
end
/-- Heights are told by what they do. -/
theorem hgt_unique {B : List Int} (h : VoP B) (f : Nat → Int) (h0 : ∀ b, 0 ≤ f b) (hu : ∀ a b, lt B a b → f a + 1 ≤ f b) (he : ∀ b, b < B.length → f b = 0 ∨ ∃ a, lt B a b ∧ f b = f a + 1) {b : Nat} (hb : b < B.length) : hgt B b = f b := by
  have k1 : ∀ (d b : Nat), b < B.length → hgt B b = (d : Int) → hgt B b ≤ f b := fun d => by
    induction d with
    | zero => intro b _ hd; have := h0 b; omega
    | succ d ih =>
      intro b hb hd
      rcases hgt_eq h hb with e | ⟨a, h1, h2⟩
      · have := h0 b; omega
      · have := ih a h1.1 (by omega)
        have := hu a b h1
        omega
  have k2 : ∀ (d b : Nat), b < B.length → f b = (d : Int) → f b ≤ hgt B b := fun d => by
    induction d with
    | zero => intro b _ hd; have := hgt_nn B b; omega
    | succ d ih =>
      intro b hb hd
      rcases he b hb with e | ⟨a, h1, h2⟩
      · have := hgt_nn B b; omega
      · have := ih a h1.1 (by omega)
        have := hgt_up h h1
        omega
  obtain ⟨d, hd⟩ := Int.eq_ofNat_of_zero_le (hgt_nn B b)
  obtain ⟨d', hd'⟩ := Int.eq_ofNat_of_zero_le (h0 b)
  have := k1 d b hb hd
  have := k2 d' b hb hd'
  omega
end Go.Proofs.Ytghogabmkbadjaa

/- IsChain and IsApart: the model's and the program's. -/
namespace Go.Proofs.Ytghogabmkbadjaa
open Go.RowKit

def isChainR (zs : List Int) (s : Int) : Bool := (vo zs && inB s 0 (powI zs.length - 1)) && chB zs s
def isApartR (zs : List Int) (s : Int) : Bool := (vo zs && inB s 0 (powI zs.length - 1)) && apB zs s

end Go.Proofs.Ytghogabmkbadjaa

/- Chains and sets apart: what is left of them, and when a chain is apart. No program. -/
namespace Go.Proofs.Ytghogabmkbadjaa

theorem isChain_is {zs : List Int} {s : Int} (h : VoP zs) (h0 : 0 ≤ s) (h1 : s < powI zs.length) : isChainR zs s = chB zs s := by
  unfold isChainR inB
  rw [vo_true h, decide_eq_true (show (0 : Int) ≤ s ∧ s ≤ powI zs.length - 1 by omega)]
  rfl
theorem isApart_is {zs : List Int} {s : Int} (h : VoP zs) (h0 : 0 ≤ s) (h1 : s < powI zs.length) : isApartR zs s = apB zs s := by
  unfold isApartR inB
  rw [vo_true h, decide_eq_true (show (0 : Int) ≤ s ∧ s ≤ powI zs.length - 1 by omega)]
  rfl
theorem isChain_parts {zs : List Int} {s : Int} (h : isChainR zs s = true) : VoP zs ∧ (0 ≤ s ∧ s < powI zs.length) ∧ chB zs s = true := by
  unfold isChainR at h
  rw [Bool.and_eq_true, Bool.and_eq_true] at h
  obtain ⟨⟨h1, h2⟩, h3⟩ := h
  have h2' : (0 : Int) ≤ s ∧ s ≤ powI zs.length - 1 := by simpa [inB] using h2
  exact ⟨by simpa [vo] using h1, ⟨h2'.1, by omega⟩, h3⟩
theorem isApart_parts {zs : List Int} {s : Int} (h : isApartR zs s = true) : VoP zs ∧ (0 ≤ s ∧ s < powI zs.length) ∧ apB zs s = true := by
  unfold isApartR at h
  rw [Bool.and_eq_true, Bool.and_eq_true] at h
  obtain ⟨⟨h1, h2⟩, h3⟩ := h
  have h2' : (0 : Int) ≤ s ∧ s ≤ powI zs.length - 1 := by simpa [inB] using h2
  exact ⟨by simpa [vo] using h1, ⟨h2'.1, by omega⟩, h3⟩
theorem chB_sub {zs : List Int} {s t : Int} (h1 : s < 64) (h2 : t < 64) (hs : ∀ j : Nat, bitB t j = true → bitB s j = true) (h : chB zs s = true) : chB zs t = true := by
  unfold chB at *
  rw [decide_eq_true_eq] at *
  rw [ChP_iff h2]
  intro a b ha hb hab
  exact (ChP_iff h1).1 h a b (hs a ha) (hs b hb) hab
theorem apB_sub {zs : List Int} {s t : Int} (h1 : s < 64) (h2 : t < 64) (hs : ∀ j : Nat, bitB t j = true → bitB s j = true) (h : apB zs s = true) : apB zs t = true :=
  (apB_iff h2).2 fun a b ha hb => (apB_iff h1).1 h a b (hs a ha) (hs b hb)
/-- The set without its least item, as the program's 's & (s-1)'. -/
theorem less_one {n : Nat} {s : Int} (h0 : 0 ≤ s) (h1 : s < powI n) (hn : n ≤ 6) : ∃ t, bits .and .i64 s (s - 1) = t ∧ 0 ≤ t ∧ t < powI n ∧ ∀ j : Nat, bitB t j = true → bitB s j = true := by
  have hp := powI_le6 (n := (n : Int)) (by omega)
  by_cases hs : s = 0
  · subst hs
    exact ⟨0, by decide, by omega, by omega, fun _ e => e⟩
  · have hb := andI_bd s (s - 1)
    exact ⟨andI s (s - 1), bits_and (by omega) (by omega) (by omega) (by omega), hb.1, by omega, fun j e => by rw [bitB_and, Bool.and_eq_true] at e; exact e.1⟩
theorem du_isChain {zs : List Int} {s : Int} (h : VoP zs) (h0 : 0 ≤ s) (h1 : s < powI zs.length) : isChainR (du zs) s = chB zs s := by
  rw [isChain_is (du_vo h) h0 (by rw [du_len]; exact h1), du_chB h.sets]
theorem du_isApart {zs : List Int} {s : Int} (h : VoP zs) (h0 : 0 ≤ s) (h1 : s < powI zs.length) : isApartR (du zs) s = apB zs s := by
  have hp := powI_le6 (n := (zs.length : Int)) (by have := h.1; omega)
  rw [isApart_is (du_vo h) h0 (by rw [du_len]; exact h1), du_apB h.sets (by omega)]
theorem chain_apart {zs : List Int} {s : Int} (h : VoP zs) (h0 : 0 ≤ s) (h1 : s < powI zs.length) (hc : chB zs s = true) : apB zs s = decide (popI s ≤ 1) := by
  have hp := powI_le6 (n := (zs.length : Int)) (by have := h.1; omega)
  have h64 : s < 64 := by omega
  rw [popI_items h0 h64]
  have hs := itemsL_sorted s
  have hm : ∀ j : Nat, j ∈ itemsL s ↔ bitB s j = true := fun j => mem_itemsL h64
  have hc' : ChP zs s := of_decide_eq_true hc
  unfold ChP at hc'
  clear hc
  match hl : itemsL s with
  | [] =>
    rw [hl] at hm
    have : apB zs s = true := (apB_iff h64).2 fun a b ha hb => by have := (hm a).2 ha; simp at this
    rw [this]; rfl
  | [x] =>
    rw [hl] at hm
    have : apB zs s = true := (apB_iff h64).2 fun a b ha hb => by
      have e1 := (hm a).2 ha
      have e2 := (hm b).2 hb
      simp only [List.mem_singleton] at e1 e2
      subst e1; subst e2
      exact h.irrB (bitB_lt h1 ha)
    rw [this]; rfl
  | x :: y :: l =>
    rw [hl] at hc' hs hm
    have hr : relB zs x y = true := (List.pairwise_cons.1 hc').1 y (by simp)
    have hx := (hm x).1 (by simp)
    have hy := (hm y).1 (by simp)
    have hno : apB zs s = false := by
      cases e : apB zs s
      · rfl
      · have ha := (apB_iff h64).1 e
        unfold relB at hr
        rw [ha x y hx hy, ha y x hy hx] at hr
        cases hr
    rw [hno, decide_eq_false]
    simp only [List.length_cons]
    omega
theorem apart_le {zs : List Int} {s : Int} (h : VoP zs) (h0 : 0 ≤ s) (h1 : s < powI zs.length) (ha : apB zs s = true) : popI s ≤ wideR zs := by
  unfold wideR
  rw [vo_true h]
  obtain ⟨j, rfl⟩ := Int.eq_ofNat_of_zero_le h0
  have hN := setsN_pow zs
  exact grTo_ge ha (setsN zs) (by omega)
end Go.Proofs.Ytghogabmkbadjaa

/- The order of some items alone, numbered anew: it is an order, and is lined up in as many ways as they are. No program. -/
namespace Go.Proofs.Ytghogabmkbadjaa

theorem inc_ext : ∀ (l m : List Nat), l.Pairwise (· < ·) → m.Pairwise (· < ·) → (∀ a, a ∈ l ↔ a ∈ m) → l = m
  | [], [], _, _, _ => rfl
  | [], b :: m, _, _, h => by have := (h b).2 (by simp); cases this
  | a :: l, [], _, _, h => by have := (h a).1 (by simp); cases this
  | a :: l, b :: m, hl, hm, h => by
    rw [List.pairwise_cons] at hl hm
    have hab : a = b := by
      rcases List.mem_cons.1 ((h a).1 (by simp)) with e | e
      · exact e
      · rcases List.mem_cons.1 ((h b).2 (by simp)) with e2 | e2
        · exact e2.symm
        · have := hm.1 a e; have := hl.1 b e2; omega
    subst hab
    rw [inc_ext l m hl.2 hm.2 fun x => ?_]
    have hx := h x
    rw [List.mem_cons, List.mem_cons] at hx
    constructor
    · intro e
      rcases hx.1 (.inr e) with e2 | e2
      · have := hl.1 x e; omega
      · exact e2
    · intro e
      rcases hx.2 (.inr e) with e2 | e2
      · have := hm.1 x e; omega
      · exact e2
theorem range_inc (n : Nat) : (List.range n).Pairwise (· < ·) := List.pairwise_lt_range
/-- The numbers of z that l lists, by their places in l, up to k. -/
def rowTo (z : Int) (l : List Nat) : Nat → Int
  | 0 => 0
  | k + 1 => orI (rowTo z l k) (bitI z (l[k]?.getD 0) * powI k)
theorem bitI_mul (z j : Int) (k : Nat) : bitI z j * powI k = if bitB z j then powI k else 0 := by
  unfold bitI; split <;> simp
theorem rowTo_bd (z : Int) (l : List Nat) : ∀ k : Nat, 0 ≤ rowTo z l k ∧ rowTo z l k < powI k
  | 0 => by simp [rowTo, powI]
  | k + 1 => by
    have h := rowTo_bd z l k
    have hp : powI (k : Int) < powI ((k + 1 : Nat) : Int) := powI_lt (by omega)
    have h0 := powI_pos (k : Int)
    have h1 := powI_pos ((k + 1 : Nat) : Int)
    unfold rowTo
    rw [bitI_mul]
    split
    · exact orI_bd h.1 (by omega) (Int.le_of_lt h0) hp
    · exact orI_bd h.1 (by omega) (Int.le_refl _) h1
theorem rowTo_bit (z : Int) (l : List Nat) (j : Nat) : ∀ k : Nat, bitB (rowTo z l k) j = true ↔ j < k ∧ bitB z ((l[j]?.getD 0 : Nat) : Int) = true
  | 0 => by simp [rowTo, bitB_zero]
  | k + 1 => by
    unfold rowTo
    rw [bitI_mul, bitB_or, Bool.or_eq_true, rowTo_bit z l j k]
    have h2 : bitB (if bitB z ((l[k]?.getD 0 : Nat) : Int) then powI (k : Int) else 0) j = true ↔ j = k ∧ bitB z ((l[j]?.getD 0 : Nat) : Int) = true := by
      split
      · rename_i hb
        rw [bitB_pow, decide_eq_true_eq]
        constructor
        · rintro rfl; exact ⟨rfl, hb⟩
        · rintro ⟨rfl, _⟩; rfl
      · rename_i hb
        rw [bitB_zero]
        constructor
        · intro e; cases e
        · rintro ⟨rfl, e⟩; exact absurd e hb
    rw [h2]
    constructor
    · rintro (⟨h, e⟩ | ⟨rfl, e⟩)
      · exact ⟨by omega, e⟩
      · exact ⟨by omega, e⟩
    · rintro ⟨h, e⟩
      by_cases hjk : j = k
      · exact .inr ⟨hjk, e⟩
      · exact .inl ⟨by omega, e⟩
/-- The order of the items of l alone. -/
def ind (zs : List Int) (l : List Nat) : List Int := l.map fun a => rowTo (zs[a]?.getD 0) l l.length
theorem ind_len (zs : List Int) (l : List Nat) : (ind zs l).length = l.length := by simp [ind]
theorem ind_bit {zs : List Int} {l : List Nat} {i j : Nat} (hi : i < l.length) : bitB ((ind zs l)[i]?.getD 0) j = true ↔ j < l.length ∧ bitB (zs[l[i]?.getD 0]?.getD 0) ((l[j]?.getD 0 : Nat) : Int) = true := by
  have e : (ind zs l)[i]?.getD 0 = rowTo (zs[l[i]?.getD 0]?.getD 0) l l.length := by
    unfold ind
    rw [List.getElem?_map, List.getElem?_eq_getElem hi]
    rfl
  rw [e, rowTo_bit]
/-- A list of items of the order, ascending. -/
structure Inc (zs : List Int) (l : List Nat) : Prop where
  inc : l.Pairwise (· < ·)
  lt : ∀ a ∈ l, a < zs.length
theorem Inc.at_lt {zs : List Int} {l : List Nat} (h : Inc zs l) {i : Nat} (hi : i < l.length) : l[i]?.getD 0 < zs.length := by
  rw [List.getElem?_eq_getElem hi]
  exact h.lt _ (List.getElem_mem hi)
theorem Inc.at_inc {zs : List Int} {l : List Nat} (h : Inc zs l) {i j : Nat} (hij : i < j) (hj : j < l.length) : l[i]?.getD 0 < l[j]?.getD 0 := by
  rw [List.getElem?_eq_getElem hj, List.getElem?_eq_getElem (by omega)]
  exact List.pairwise_iff_getElem.1 h.inc i j (by omega) hj hij
theorem Inc.at_inj {zs : List Int} {l : List Nat} (h : Inc zs l) {i j : Nat} (hi : i < l.length) (hj : j < l.length) (e : l[i]?.getD 0 = l[j]?.getD 0) : i = j := by
  rcases Nat.lt_trichotomy i j with h1 | h1 | h1
  · have := h.at_inc h1 hj; omega
  · exact h1
  · have := h.at_inc h1 hi; omega
theorem Inc.len_le {zs : List Int} {l : List Nat} (h : Inc zs l) : l.length ≤ zs.length := pigeon zs.length l (h.inc.imp fun h => by omega) h.lt
theorem ind_lt {zs : List Int} {l : List Nat} (h : Inc zs l) {i j : Nat} : lt (ind zs l) i j ↔ i < l.length ∧ j < l.length ∧ lt zs (l[i]?.getD 0) (l[j]?.getD 0) := by
  unfold lt
  rw [ind_len]
  constructor
  · rintro ⟨h1, h2⟩
    have := (ind_bit h1).1 h2
    exact ⟨h1, this.1, h.at_lt h1, this.2⟩
  · rintro ⟨h1, h2, _, h3⟩
    exact ⟨h1, (ind_bit h1).2 ⟨h2, h3⟩⟩
theorem ind_vo {zs : List Int} (h : VoP zs) {l : List Nat} (hl : Inc zs l) : VoP (ind zs l) := by
  have h6 := h.1
  have hle := hl.len_le
  refine ⟨by rw [ind_len]; omega, fun a ha => ?_, fun a ha b hb => ?_⟩
  · rw [ind_len] at ha ⊢
    have e : (ind zs l)[a]?.getD 0 = rowTo (zs[l[a]?.getD 0]?.getD 0) l l.length := by
      unfold ind; rw [List.getElem?_map, List.getElem?_eq_getElem ha]; rfl
    have hb := rowTo_bd (zs[l[a]?.getD 0]?.getD 0) l l.length
    have h2 : bitB ((ind zs l)[a]?.getD 0) a = false := by
      cases e2 : bitB ((ind zs l)[a]?.getD 0) a
      · rfl
      · have := (ind_lt hl).1 (⟨by rw [ind_len]; exact ha, e2⟩ : lt (ind zs l) a a)
        exact absurd this.2.2 h.irr
    unfold okA inB
    rw [h2, e]
    simp only [Bool.not_false, Bool.and_true, decide_eq_true_eq]
    omega
  · rw [ind_len] at ha hb
    unfold okP
    cases e : bitB ((ind zs l)[a]?.getD 0) b
    · rfl
    · have hab := (ind_lt hl).1 (⟨by rw [ind_len]; exact ha, e⟩ : lt (ind zs l) a b)
      have h1 : lessI ((ind zs l)[b]?.getD 0) ((ind zs l)[a]?.getD 0) = 0 := by
        refine bitB_ext (lessI_bd _ _).1 (Int.le_refl _) fun j => ?_
        rw [bitB_less, bitB_zero]
        cases e1 : bitB ((ind zs l)[b]?.getD 0) j
        · rfl
        · have hbj := (ind_lt hl).1 (⟨by rw [ind_len]; exact hb, e1⟩ : lt (ind zs l) b j)
          have := ((ind_lt hl).2 ⟨ha, hbj.2.1, h.trans hab.2.2 hbj.2.2⟩).2
          rw [this]; rfl
      have h2 : bitB ((ind zs l)[b]?.getD 0) a = false := by
        cases e2 : bitB ((ind zs l)[b]?.getD 0) a
        · rfl
        · have hba := (ind_lt hl).1 (⟨by rw [ind_len]; exact hb, e2⟩ : lt (ind zs l) b a)
          exact absurd (h.trans hab.2.2 hba.2.2) h.irr
      rw [h1, h2]; rfl

/-- The items of zs that a set of places of l tells. -/
def exTo (l : List Nat) (t : Nat) : Nat → Nat
  | 0 => 0
  | k + 1 => exTo l t k ||| (if t.testBit k then 2 ^ (l[k]?.getD 0) else 0)
theorem exTo_bit (l : List Nat) (t a : Nat) : ∀ k : Nat, (exTo l t k).testBit a = true ↔ ∃ i, i < k ∧ t.testBit i = true ∧ l[i]?.getD 0 = a
  | 0 => by simp [exTo]
  | k + 1 => by
    unfold exTo
    rw [Nat.testBit_or, Bool.or_eq_true, exTo_bit l t a k]
    have h2 : (if t.testBit k then 2 ^ (l[k]?.getD 0) else 0).testBit a = true ↔ t.testBit k = true ∧ l[k]?.getD 0 = a := by
      split
      · rename_i hb; rw [Nat.testBit_two_pow, decide_eq_true_eq]; simp [hb]
      · rename_i hb; simp [hb]
    rw [h2]
    constructor
    · rintro (⟨i, hi, e⟩ | e)
      · exact ⟨i, by omega, e⟩
      · exact ⟨k, by omega, e⟩
    · rintro ⟨i, hi, e⟩
      by_cases hik : i = k
      · subst hik; exact .inr e
      · exact .inl ⟨i, by omega, e⟩
def ex (l : List Nat) (t : Nat) : Nat := exTo l t l.length
theorem ex_lt {zs : List Int} {l : List Nat} (h : Inc zs l) (t : Nat) : ex l t < 2 ^ zs.length := Nat.lt_pow_two_of_testBit _ fun i hi => by
  cases e : (ex l t).testBit i
  · rfl
  · obtain ⟨k, hk, _, e2⟩ := (exTo_bit l t i l.length).1 e
    have := h.at_lt hk; omega
theorem ex_at {zs : List Int} {l : List Nat} (h : Inc zs l) {t k : Nat} (hk : k < l.length) : (ex l t).testBit (l[k]?.getD 0) = t.testBit k := by
  rw [Bool.eq_iff_iff]
  unfold ex
  rw [exTo_bit]
  constructor
  · rintro ⟨i, hi, e, e2⟩
    rw [← h.at_inj hi hk e2]; exact e
  · intro e; exact ⟨k, hk, e, rfl⟩
theorem sub_bits {s a j : Nat} (hs : s < 64) (ha : a < 6) (hb : s.testBit a = true) : (s - 2 ^ a).testBit j = (s.testBit j && !decide (a = j)) := by
  have hpa := Nat.two_pow_pos a
  rcases Nat.lt_or_ge j 6 with hj | hj
  · exact sub_bit_fin ⟨s, hs⟩ ⟨a, ha⟩ ⟨j, hj⟩ hb
  · have h1 : s.testBit j = false := Nat.testBit_lt_two_pow (Nat.lt_of_lt_of_le (show s < 2 ^ 6 by omega) (Nat.pow_le_pow_right (by decide) hj))
    have h2 : (s - 2 ^ a).testBit j = false := Nat.testBit_lt_two_pow (Nat.lt_of_lt_of_le (show s - 2 ^ a < 2 ^ 6 by omega) (Nat.pow_le_pow_right (by decide) hj))
    rw [h1, h2]; rfl
theorem ex_sub {zs : List Int} (h6 : zs.length ≤ 6) {l : List Nat} (h : Inc zs l) {t k : Nat} (ht : t < 64) (hk : k < l.length) (hb : t.testBit k = true) : ex l (t - 2 ^ k) = ex l t - 2 ^ (l[k]?.getD 0) := by
  have hle := h.len_le
  have hx : ex l t < 64 := Nat.lt_of_lt_of_le (ex_lt h t) (pow_le64 h6)
  have hlk := h.at_lt hk
  refine Nat.eq_of_testBit_eq fun a => ?_
  rw [sub_bits hx (show l[k]?.getD 0 < 6 by omega) (by rw [ex_at h hk]; exact hb), Bool.eq_iff_iff]
  unfold ex
  rw [exTo_bit, Bool.and_eq_true, exTo_bit, Bool.not_eq_true', decide_eq_false_iff_not]
  constructor
  · rintro ⟨i, hi, e, rfl⟩
    rw [sub_bits ht (by omega) hb, Bool.and_eq_true, Bool.not_eq_true', decide_eq_false_iff_not] at e
    exact ⟨⟨i, hi, e.1, rfl⟩, fun e2 => e.2 (h.at_inj hk hi e2)⟩
  · rintro ⟨⟨i, hi, e, rfl⟩, e2⟩
    refine ⟨i, hi, ?_, rfl⟩
    rw [sub_bits ht (by omega) hb, e]
    have hne : ¬ k = i := fun e3 => e2 (by rw [e3])
    simp [hne]
theorem ex_zero (l : List Nat) : ex l 0 = 0 := Nat.eq_of_testBit_eq fun a => by
  rw [Bool.eq_iff_iff]
  unfold ex
  rw [exTo_bit]
  simp
theorem eF_iff {zs : List Int} (h : VoP zs) {s a : Nat} : eF zs s a = true ↔ s.testBit a = true ∧ ∀ b, s.testBit b = true → bitB (zs[b]?.getD 0) a = false := by
  unfold eF
  rw [Bool.and_eq_true, beq_iff_eq, andI_zero]
  constructor
  · rintro ⟨h1, h2⟩
    exact ⟨h1, fun b hb => by have := h2 b (by rw [bit_cast]; exact hb); rwa [du_bit h.sets] at this⟩
  · rintro ⟨h1, h2⟩
    exact ⟨h1, fun b hb => by rw [du_bit h.sets]; exact h2 b (by rwa [bit_cast] at hb)⟩
theorem bit_none' {zs : List Int} {a b : Nat} (h : bitB (zs[a]?.getD 0) b = true) : a < zs.length := by
  rcases Nat.lt_or_ge a zs.length with h1 | h1
  · exact h1
  · rw [List.getElem?_eq_none (by omega), Option.getD_none, bitB_zero] at h; cases h
theorem next_ind {zs : List Int} (h : VoP zs) {l : List Nat} (hl : Inc zs l) (t : Nat) : nextL zs (ex l t) = (nextL (ind zs l) t).map fun k => l[k]?.getD 0 := by
  have hi := ind_vo h hl
  rw [nextL_is h, nextL_is hi, ind_len]
  refine inc_ext _ _ ((range_inc _).filter _) ?_ fun a => ?_
  · rw [List.pairwise_map]
    refine List.Pairwise.imp_of_mem ?_ ((range_inc _).filter _)
    intro x y hx hy hxy
    rw [List.mem_filter] at hy
    exact hl.at_inc hxy (by simpa using hy.1)
  · rw [List.mem_filter, List.mem_map, List.mem_range, eF_iff h]
    constructor
    · rintro ⟨ha, h1, h2⟩
      obtain ⟨k, hk, hb, e⟩ := (exTo_bit l t a l.length).1 h1
      refine ⟨k, ?_, e⟩
      rw [List.mem_filter, List.mem_range, eF_iff hi]
      refine ⟨hk, hb, fun j hj => ?_⟩
      cases e2 : bitB ((ind zs l)[j]?.getD 0) k
      · rfl
      · have hjl : j < l.length := by
          have := bit_none' e2; rwa [ind_len] at this
        have h3 := (ind_bit hjl).1 e2
        have := h2 (l[j]?.getD 0) (by rw [ex_at hl hjl]; exact hj)
        rw [← e] at this
        rw [this] at h3; cases h3.2
    · rintro ⟨k, hk, e⟩
      rw [List.mem_filter, List.mem_range, eF_iff hi] at hk
      obtain ⟨hk, hb, h2⟩ := hk
      refine ⟨by rw [← e]; exact hl.at_lt hk, by rw [← e, ex_at hl hk]; exact hb, fun b hb2 => ?_⟩
      obtain ⟨j, hj, hjt, e3⟩ := (exTo_bit l t b l.length).1 hb2
      have := h2 j hjt
      cases e4 : bitB (zs[b]?.getD 0) a
      · rfl
      · rw [(ind_bit hj).2 ⟨hk, by rw [e3, e]; exact e4⟩] at this; cases this
/-- The items alone are lined up in as many ways as they are. -/
theorem cF_ind {zs : List Int} (h : VoP zs) {l : List Nat} (hl : Inc zs l) : ∀ (N t : Nat), t ≤ N → t < 2 ^ l.length → cF (ind zs l) t = cF zs (ex l t)
  | N, t, hN, ht => by
    have hi := ind_vo h hl
    have hle := hl.len_le
    have h6 := h.1
    have ht64 : t < 64 := Nat.lt_of_lt_of_le ht (pow_le64 (by omega))
    by_cases h0 : t = 0
    · subst h0; rw [ex_zero, cF_zero, cF_zero]
    · have hx0 : ex l t ≠ 0 := fun e => h0 (Nat.eq_of_testBit_eq fun k => by
        rw [Nat.zero_testBit]
        cases e2 : t.testBit k
        · rfl
        · have hk := bit_lt ht e2
          have := ex_at hl (t := t) hk
          rw [e, e2, Nat.zero_testBit] at this; cases this)
      cases N with
      | zero => omega
      | succ N =>
        rw [← accF_all hi h0, ← accF_all h hx0, next_ind h hl]
        unfold accF
        rw [List.map_map]
        congr 1
        refine List.map_congr_left fun k hk => ?_
        obtain ⟨hkl, hkb⟩ := nextL_mem hi hk
        rw [ind_len] at hkl
        have hp := Nat.two_pow_pos k
        have hge := ge_bit_fin ⟨t, ht64⟩ ⟨k, by omega⟩ hkb
        simp only at hge
        rw [cF_ind h hl N (t - 2 ^ k) (by omega) (by omega), ex_sub h6 hl ht64 hkl hkb]
        rfl
/-- The items of a set, ascending. -/
def leftL (n s : Nat) : List Nat := (List.range n).filter fun j => s.testBit j
theorem leftL_inc (zs : List Int) (s : Nat) : Inc zs (leftL zs.length s) := ⟨(range_inc _).filter _, fun a ha => by
  unfold leftL at ha; rw [List.mem_filter] at ha; simpa using ha.1⟩
theorem ex_left {zs : List Int} {s : Nat} (hs : s < 2 ^ zs.length) : ex (leftL zs.length s) (2 ^ (leftL zs.length s).length - 1) = s := by
  refine Nat.eq_of_testBit_eq fun a => ?_
  rw [Bool.eq_iff_iff]
  unfold ex
  rw [exTo_bit]
  constructor
  · rintro ⟨i, hi, _, rfl⟩
    rw [List.getElem?_eq_getElem hi]
    have := List.getElem_mem hi
    unfold leftL at this
    rw [List.mem_filter] at this
    exact this.2
  · intro e
    have ha : a ∈ leftL zs.length s := by
      unfold leftL
      rw [List.mem_filter, List.mem_range]
      exact ⟨bit_lt hs e, e⟩
    obtain ⟨i, hi, e2⟩ := List.getElem_of_mem ha
    refine ⟨i, hi, ?_, by rw [List.getElem?_eq_getElem hi]; exact e2⟩
    rw [Nat.testBit_two_pow_sub_one]
    simpa using hi
/-- As the model counts what is left. -/
theorem rest_is {zs : List Int} (h : VoP zs) {s : Nat} (hs : s < 2 ^ zs.length) : cG (ind zs (leftL zs.length s)) (2 ^ (leftL zs.length s).length - 1) = cF zs s := by
  have hl := leftL_inc zs s
  have hi := ind_vo h hl
  have hp := Nat.two_pow_pos (leftL zs.length s).length
  have := count_both hi
  rw [ind_len] at this
  rw [this, cF_ind h hl _ _ (Nat.le_refl _) (by omega), ex_left hs]
end Go.Proofs.Ytghogabmkbadjaa

/- Tops and ideals: tops stand for all below; what is below a set is an ideal; what an ideal leaves. No program. -/
namespace Go.Proofs.Ytghogabmkbadjaa

theorem bit_none {zs : List Int} {a b : Nat} (h : bitB (zs[a]?.getD 0) b = true) : a < zs.length := by
  rcases Nat.lt_or_ge a zs.length with h1 | h1
  · exact h1
  · rw [List.getElem?_eq_none (by omega), Option.getD_none, bitB_zero] at h; cases h
theorem top_over {zs : List Int} (h : VoP zs) {s : Int} (h1 : s < powI zs.length) : ∀ (m a : Nat), zs.length - rank zs a ≤ m → bitB s a = true → ∃ t : Nat, bitB (topsTo zs s zs.length) t = true ∧ (a = t ∨ lt zs a t)
  | 0, a, hm, ha => by have := rank_bd h (bitB_lt h1 ha); omega
  | m + 1, a, hm, ha => by
    by_cases hz : andI (zs[a]?.getD 0) s = 0
    · exact ⟨a, (topsTo_bit a _).2 ⟨bitB_lt h1 ha, ha, hz⟩, .inl rfl⟩
    · have : ∃ b : Nat, bitB s b = true ∧ bitB (zs[a]?.getD 0) b = true := by
        refine Classical.byContradiction fun hn => hz (andI_zero.2 fun b hb => ?_)
        cases e : bitB (zs[a]?.getD 0) b
        · rfl
        · exact absurd ⟨b, hb, e⟩ hn
      obtain ⟨b, hb, hab⟩ := this
      have hl : lt zs a b := ⟨bit_none hab, hab⟩
      have hr := rank_lt h hl
      obtain ⟨t, ht, e⟩ := top_over h h1 m b (by omega) hb
      refine ⟨t, ht, .inr ?_⟩
      rcases e with rfl | e
      · exact hl
      · exact h.trans hl e
section
variable {zs : List Int} {s : Int}
theorem tops_in (zs : List Int) (s : Int) : lessI (topsTo zs s zs.length) s = 0 := lessI_none.2 fun _ hj => ((topsTo_bit _ _).1 hj).2.1
theorem tops_ap (h : VoP zs) : apB zs (topsTo zs s zs.length) = true := by
  have hb := topsTo_bd zs s zs.length
  have hp := powI_le6 (n := (zs.length : Int)) (by have := h.1; omega)
  refine (apB_iff (by omega)).2 fun a b ha hb => ?_
  exact andI_zero.1 ((topsTo_bit _ _).1 ha).2.2 b ((topsTo_bit _ _).1 hb).2.1
theorem tops_none (h : VoP zs) (h0 : 0 ≤ s) (h1 : s < powI zs.length) : (topsTo zs s zs.length == 0) = (s == 0) := by
  have hb := topsTo_bd zs s zs.length
  rw [Bool.eq_iff_iff, beq_iff_eq, beq_iff_eq]
  constructor
  · intro e
    refine bitB_ext h0 (Int.le_refl _) fun j => ?_
    rw [bitB_zero]
    cases hj : bitB s j
    · rfl
    · obtain ⟨t, ht, _⟩ := top_over h h1 _ j (Nat.le_refl _) hj
      rw [e, bitB_zero] at ht; cases ht
  · intro e
    refine bitB_ext hb.1 (Int.le_refl _) fun j => ?_
    rw [bitB_zero]
    cases hj : bitB (topsTo zs s zs.length) j
    · rfl
    · have := ((topsTo_bit _ _).1 hj).2.1
      rw [e, bitB_zero] at this; cases this
theorem in_bel (h : Sets zs) (h1 : s < powI zs.length) : lessI s (belI zs s) = 0 := lessI_none.2 fun j hj => (belI_bit h h1 j).2 (.inl hj)
theorem bel_ideal (h : VoP zs) (h0 : 0 ≤ s) (h1 : s < powI zs.length) : idB zs (belI zs s) = true := by
  have hb := belI_bd h.sets h0 h1
  refine (idB_iff h.sets hb.1 hb.2).2 fun a b hb hz => ?_
  rw [belI_bit h.sets h1] at hb ⊢
  rcases hb with hb | ⟨c, hc, hbc⟩
  · exact .inr ⟨b, hb, hz⟩
  · exact .inr ⟨c, hc, (h.trans (a := a) (b := b) (c := c) ⟨bit_none hz, hz⟩ ⟨bit_none hbc, hbc⟩).2⟩
theorem tops_bel (h : VoP zs) (_h0 : 0 ≤ s) (h1 : s < powI zs.length) : topsTo zs (belI zs s) zs.length = topsTo zs s zs.length := by
  refine bitB_ext (topsTo_bd _ _ _).1 (topsTo_bd _ _ _).1 fun j => ?_
  rw [Bool.eq_iff_iff, topsTo_bit, topsTo_bit]
  constructor
  · rintro ⟨hj, hb, hz⟩
    have hz' := andI_zero.1 hz
    refine ⟨hj, ?_, andI_zero.2 fun b hb => hz' b ((belI_bit h.sets h1 b).2 (.inl hb))⟩
    rcases (belI_bit h.sets h1 j).1 hb with e | ⟨c, hc, hjc⟩
    · exact e
    · rw [hz' c ((belI_bit h.sets h1 c).2 (.inl hc))] at hjc; cases hjc
  · rintro ⟨hj, hb, hz⟩
    have hz' := andI_zero.1 hz
    refine ⟨hj, (belI_bit h.sets h1 j).2 (.inl hb), andI_zero.2 fun b hb => ?_⟩
    rcases (belI_bit h.sets h1 b).1 hb with e | ⟨c, hc, hbc⟩
    · exact hz' b e
    · cases e : bitB (zs[j]?.getD 0) b
      · rfl
      · have := (h.trans (a := j) (b := b) (c := c) ⟨bit_none e, e⟩ ⟨bit_none hbc, hbc⟩).2
        rw [hz' c hc] at this; cases this
theorem bel_tops (h : VoP zs) (h0 : 0 ≤ s) (h1 : s < powI zs.length) : belI zs (topsTo zs s zs.length) = belI zs s := by
  have hb := topsTo_bd zs s zs.length
  refine bitB_ext (belI_bd h.sets hb.1 hb.2).1 (belI_bd h.sets h0 h1).1 fun j => ?_
  rw [Bool.eq_iff_iff, belI_bit h.sets hb.2, belI_bit h.sets h1]
  constructor
  · rintro (e | ⟨t, ht, hj⟩)
    · exact .inl ((topsTo_bit _ _).1 e).2.1
    · exact .inr ⟨t, ((topsTo_bit _ _).1 ht).2.1, hj⟩
  · rintro (e | ⟨b, hb, hj⟩)
    · obtain ⟨t, ht, e2⟩ := top_over h h1 _ j (Nat.le_refl _) e
      rcases e2 with rfl | e2
      · exact .inl ht
      · exact .inr ⟨t, ht, e2.2⟩
    · obtain ⟨t, ht, e2⟩ := top_over h h1 _ b (Nat.le_refl _) hb
      rcases e2 with rfl | e2
      · exact .inr ⟨b, ht, hj⟩
      · exact .inr ⟨t, ht, (h.trans (a := j) (b := b) (c := t) ⟨bit_none hj, hj⟩ e2).2⟩
theorem bel_self (h0 : idB zs s = true) : belI zs s = s := by simpa [idB] using h0
theorem all_bits' {n : Nat} : ∀ j : Nat, bitB (powI n - 1) j = decide (j < n) := fun j => by
  have e : (powI (n : Int) - 1).toNat = 2 ^ n - 1 := by
    have : powI (n : Int) = ((2 ^ n : Nat) : Int) := by simp [powI]
    omega
  simp [bitB, e, Nat.testBit_two_pow_sub_one]
theorem left_fin : ∀ n : Fin 7, ∀ k : Fin 64, (k.val : Int) < powI (n.val : Int) → lessI (powI (n.val : Int) - 1) (k.val : Int) = powI (n.val : Int) - 1 - (k.val : Int) := by decide +kernel
theorem left_is {n : Nat} {s : Int} (hn : n ≤ 6) (h0 : 0 ≤ s) (h1 : s < powI n) : lessI (powI n - 1) s = powI n - 1 - s := by
  have hpn := powI_le6 (n := (n : Int)) (by omega)
  obtain ⟨k, rfl⟩ := Int.eq_ofNat_of_zero_le h0
  exact left_fin ⟨n, by omega⟩ ⟨k, by omega⟩ h1
theorem left_ideal (h : VoP zs) (h0 : 0 ≤ s) (h1 : s < powI zs.length) (hi : idB zs s = true) : idB (du zs) (powI zs.length - 1 - s) = true := by
  have hp := powI_pos (zs.length : Int)
  refine (idB_iff (du_sets h.sets) (by omega) (by rw [du_len]; omega)).2 fun a b hb hz => ?_
  rw [← left_is h.1 h0 h1] at hb ⊢
  rw [bitB_less, all_bits', Bool.and_eq_true] at hb ⊢
  rw [du_bit h.sets] at hz
  have ha : a < zs.length := bitB_lt (h.sets.2 b (bit_none hz)).2 hz
  refine ⟨by simpa using ha, ?_⟩
  cases e : bitB s a
  · rfl
  · have := (idB_iff h.sets h0 h1).1 hi b a e hz
    rw [this] at hb; simp at hb
theorem tops_apart (h : VoP zs) (h0 : 0 ≤ s) (h1 : s < powI zs.length) (ha : apB zs s = true) : topsTo zs s zs.length = s := by
  have hp := powI_le6 (n := (zs.length : Int)) (by have := h.1; omega)
  refine bitB_ext (topsTo_bd zs s _).1 h0 fun j => ?_
  have key := topsTo_bit (zs := zs) (s := s) j zs.length
  cases e : bitB s j
  · cases e2 : bitB (topsTo zs s zs.length) j
    · rfl
    · have := (key.1 e2).2.1; rw [e] at this; cases this
  · exact key.2 ⟨bitB_lt h1 e, e, andI_zero.2 fun b hb => (apB_iff (by omega)).1 ha j b e hb⟩
/-- The tops of the next ideal are the lowest items that the one ahead lacks. -/
theorem next_tops (h : VoP zs) (_h0 : 0 ≤ s) (_h1 : s < powI zs.length) : topsTo zs (nextI zs s) zs.length = topsTo (du zs) (powI zs.length - 1 - s) zs.length := by
  have hp := powI_pos (zs.length : Int)
  have hp6 := powI_le6 (n := (zs.length : Int)) (by have := h.1; omega)
  have hb := topsTo_bd (du zs) (powI zs.length - 1 - s) zs.length
  have ha := tops_ap (s := powI zs.length - 1 - s) (du_vo h)
  rw [du_len, du_apB h.sets (by omega)] at ha
  unfold nextI
  rw [tops_bel h hb.1 hb.2, tops_apart h hb.1 hb.2 ha]
end
theorem in_set {zs : List Int} {s : Int} (_h : VoP zs) (h0 : 0 ≤ s) (h1 : s < powI zs.length) : inB s 0 (powI zs.length - 1) = true := by
  simp only [inB, decide_eq_true_eq]; omega
theorem set_parts {zs : List Int} {s : Int} (h : (vo zs && inB s 0 (powI zs.length - 1)) = true) : VoP zs ∧ 0 ≤ s ∧ s < powI zs.length := by
  rw [Bool.and_eq_true] at h
  refine ⟨by simpa [vo] using h.1, ?_⟩
  have := h.2
  simp only [inB, decide_eq_true_eq] at this
  omega
theorem topsR_in {zs : List Int} {s : Int} (h : VoP zs) (h0 : 0 ≤ s) (h1 : s < powI zs.length) : topsR zs s = topsTo zs s zs.length := by
  unfold topsR; rw [vo_true h, in_set h h0 h1]; rfl
theorem belowR_in {zs : List Int} {s : Int} (h : VoP zs) (h0 : 0 ≤ s) (h1 : s < powI zs.length) : belowR zs s = belI zs s := by
  unfold belowR; rw [vo_true h, in_set h h0 h1]; rfl
theorem isIdealR_in {zs : List Int} {s : Int} (h : VoP zs) (h0 : 0 ≤ s) (h1 : s < powI zs.length) : isIdealR zs s = idB zs s := by
  unfold isIdealR; rw [vo_true h, in_set h h0 h1]; rfl
end Go.Proofs.Ytghogabmkbadjaa

/- Joins, what all of a set have above them, cuts, items with one next below, and orders of some items: as both sides tell them. No program. -/
namespace Go.Proofs.Ytghogabmkbadjaa

/-- What is at or above an item. -/
def atUp (zs : List Int) (a : Nat) : Int := orI (zs[a]?.getD 0) (powI a)
theorem atUp_bd {zs : List Int} (h : Sets zs) {a : Nat} (ha : a < zs.length) : 0 ≤ atUp zs a ∧ atUp zs a < powI zs.length := by
  have hz := h.2 a ha
  exact orI_bd hz.1 hz.2 (Int.le_of_lt (powI_pos _)) (powI_lt ha)
theorem atUp_bit (zs : List Int) (a j : Nat) : bitB (atUp zs a) j = (bitB (zs[a]?.getD 0) j || decide (a = j)) := by unfold atUp; rw [bitB_or, bitB_pow]
/-- The items that are at or above all those of s less than k. -/
def comTo (zs : List Int) (s : Int) : Nat → Int
  | 0 => powI zs.length - 1
  | k + 1 => if bitB s k then andI (comTo zs s k) (atUp zs k) else comTo zs s k
theorem comTo_yes {zs : List Int} {s : Int} {k : Nat} (h : bitB s k = true) : comTo zs s (k + 1) = andI (comTo zs s k) (atUp zs k) := by simp [comTo, h]
theorem comTo_no {zs : List Int} {s : Int} {k : Nat} (h : bitB s k = false) : comTo zs s (k + 1) = comTo zs s k := by simp [comTo, h]
theorem comTo_bd (zs : List Int) (s : Int) : ∀ k : Nat, 0 ≤ comTo zs s k ∧ comTo zs s k < powI zs.length
  | 0 => by have := powI_pos (zs.length : Int); simp only [comTo]; omega
  | k + 1 => by
    have h := comTo_bd zs s k
    unfold comTo
    split
    · have := andI_bd (comTo zs s k) (atUp zs k); omega
    · exact h
theorem comTo_bit (zs : List Int) (s : Int) (j : Nat) : ∀ k : Nat, bitB (comTo zs s k) j = true ↔ j < zs.length ∧ ∀ a : Nat, a < k → bitB s a = true → bitB (atUp zs a) j = true
  | 0 => by
    unfold comTo
    rw [all_bits', decide_eq_true_eq]
    exact ⟨fun h => ⟨h, fun a ha => by omega⟩, fun h => h.1⟩
  | k + 1 => by
    cases hb : bitB s k
    · rw [comTo_no hb, comTo_bit zs s j k]
      refine ⟨fun h => ⟨h.1, fun a ha hs => ?_⟩, fun h => ⟨h.1, fun a ha hs => h.2 a (by omega) hs⟩⟩
      by_cases e : a = k
      · subst e; rw [hb] at hs; cases hs
      · exact h.2 a (by omega) hs
    · rw [comTo_yes hb, bitB_and, Bool.and_eq_true, comTo_bit zs s j k]
      refine ⟨fun h => ⟨h.1.1, fun a ha hs => ?_⟩, fun h => ⟨⟨h.1, fun a ha hs => h.2 a (by omega) hs⟩, h.2 k (by omega) hb⟩⟩
      by_cases e : a = k
      · subst e; exact h.2
      · exact h.1.2 a (by omega) hs
/-- The same, item by item of a list. -/
def comL (zs : List Int) (l : List Nat) : Int := l.foldl (fun (t : Int) (i : Nat) => andI t (atUp zs i)) (powI zs.length - 1)
theorem comL_snoc (zs : List Int) (l : List Nat) (i : Nat) : comL zs (l ++ [i]) = andI (comL zs l) (atUp zs i) := by simp [comL]
theorem comL_to (zs : List Int) (s : Int) : ∀ k : Nat, comL zs (itemsTo s k) = comTo zs s k
  | 0 => rfl
  | k + 1 => by
    have ih := comL_to zs s k
    cases hb : bitB s k
    · rw [itemsTo_no hb, comTo_no hb, ih]
    · rw [itemsTo_yes hb, comL_snoc, comTo_yes hb, ih]
theorem comTo_up {zs : List Int} {s : Int} {n : Nat} (h1 : s < powI n) : ∀ d : Nat, comTo zs s (n + d) = comTo zs s n
  | 0 => rfl
  | d + 1 => by
    have hb : bitB s ((n + d : Nat) : Int) = false := by
      cases h : bitB s ((n + d : Nat) : Int) with
      | false => rfl
      | true => have := bitB_lt h1 h; omega
    rw [← Nat.add_assoc, comTo_no hb, comTo_up h1 d]
theorem comL_all {zs : List Int} {s : Int} {n : Nat} (hn : n ≤ 6) (h1 : s < powI n) : comL zs (itemsL s) = comTo zs s n := by
  rw [itemsL, comL_to, show (6 : Nat) = n + (6 - n) from by omega, comTo_up h1]
/-- At or above both. -/
def upR (zs : List Int) (a b : Nat) : Int := andI (atUp zs a) (atUp zs b)
theorem upR_bd {zs : List Int} (h : Sets zs) {a b : Nat} (ha : a < zs.length) : 0 ≤ upR zs a b ∧ upR zs a b < powI zs.length := by
  have h1 := andI_bd (atUp zs a) (atUp zs b)
  have h2 := atUp_bd h ha
  unfold upR
  omega
/-- Two items as a set. -/
def twoS (a b : Nat) : Int := orI (orI 0 (powI a)) (powI b)
theorem twoS_bd {n a b : Nat} (ha : a < n) (hb : b < n) : 0 ≤ twoS a b ∧ twoS a b < powI n := by
  have h1 := orI_bd (a := 0) (b := powI a) (n := n) (Int.le_refl _) (powI_pos _) (Int.le_of_lt (powI_pos _)) (powI_lt ha)
  exact orI_bd h1.1 h1.2 (Int.le_of_lt (powI_pos _)) (powI_lt hb)
theorem twoS_bit (a b j : Nat) : bitB (twoS a b) j = (decide (a = j) || decide (b = j)) := by
  unfold twoS; rw [bitB_or, bitB_or, bitB_zero, bitB_pow, bitB_pow]; simp
theorem com_two {zs : List Int} (h : Sets zs) {a b : Nat} (ha : a < zs.length) (hb : b < zs.length) : comTo zs (twoS a b) zs.length = upR zs a b := by
  refine bitB_ext (comTo_bd _ _ _).1 (upR_bd h ha).1 fun j => ?_
  rw [Bool.eq_iff_iff, comTo_bit]
  unfold upR
  rw [bitB_and, Bool.and_eq_true]
  constructor
  · rintro ⟨hj, h2⟩
    exact ⟨h2 a ha (by rw [twoS_bit]; simp), h2 b hb (by rw [twoS_bit]; simp)⟩
  · rintro ⟨h1, h2⟩
    refine ⟨bitB_lt (atUp_bd h ha).2 h1, fun x _ hx => ?_⟩
    rw [twoS_bit, Bool.or_eq_true, decide_eq_true_eq, decide_eq_true_eq] at hx
    rcases hx with rfl | rfl
    · exact h1
    · exact h2
/-- An item of s that all of s are at or above. -/
def jnB (zs : List Int) (s : Int) (c : Nat) : Bool := bitB s c && lessI s (atUp zs c) == 0
theorem less_less (s p z : Int) : (lessI (lessI s p) z == 0) = (lessI s (orI z p) == 0) := by
  rw [Bool.eq_iff_iff, beq_iff_eq, beq_iff_eq, lessI_none, lessI_none]
  constructor
  · intro h j hj
    rw [bitB_or]
    cases hp : bitB p j
    · have := h j (by rw [bitB_less, hj, hp]; rfl)
      rw [this]; rfl
    · simp
  · intro h j hj
    rw [bitB_less, Bool.and_eq_true, Bool.not_eq_true'] at hj
    have := h j hj.1
    rw [bitB_or, hj.2, Bool.or_false] at this
    exact this
def jnI (zs : List Int) (s : Int) : Int := match (List.range zs.length).find? (jnB zs s) with | none => -1 | some c => (c : Int)
theorem jnI_at {zs : List Int} {s : Int} {c : Nat} (hc : c < zs.length) (hb : jnB zs s c = true) (hn : ∀ j, j < c → jnB zs s j = false) : jnI zs s = c := by
  have : (List.range zs.length).find? (jnB zs s) = some c := by
    rw [List.find?_range_eq_some]
    exact ⟨hb, by simpa using hc, fun j hj => by simpa using hn j hj⟩
  unfold jnI
  rw [this]
theorem jnI_none {zs : List Int} {s : Int} (hn : ∀ j, j < zs.length → jnB zs s j = false) : jnI zs s = -1 := by
  have : (List.range zs.length).find? (jnB zs s) = none := by
    rw [List.find?_eq_none]
    intro x hx
    rw [hn x (by simpa using hx)]
    simp
  unfold jnI
  rw [this]
theorem jnI_cases {zs : List Int} {s : Int} : (jnI zs s = -1 ∧ ∀ j, j < zs.length → jnB zs s j = false) ∨ ∃ c : Nat, jnI zs s = c ∧ c < zs.length ∧ jnB zs s c = true := by
  unfold jnI
  cases h : (List.range zs.length).find? (jnB zs s) with
  | none => exact .inl ⟨rfl, fun j hj => by
      have := List.find?_eq_none.1 h j (by simpa using hj)
      simpa using this⟩
  | some c => exact .inr ⟨c, rfl, by have := List.mem_of_find?_eq_some h; simpa using this, List.find?_some h⟩
theorem jnI_bd (zs : List Int) (s : Int) : -1 ≤ jnI zs s ∧ jnI zs s < zs.length := by
  rcases jnI_cases (zs := zs) (s := s) with h | ⟨c, h, hc, _⟩ <;> omega
/-- The join, -1 for none. -/
def joinI (zs : List Int) (a b : Nat) : Int := jnI zs (upR zs a b)
theorem joinI_bd (zs : List Int) (a b : Nat) : -1 ≤ joinI zs a b ∧ joinI zs a b < zs.length := jnI_bd _ _
def isIt (zs : List Int) (a : Int) : Bool := inB a 0 ((zs.length : Int) - 1)
def joinR (zs : List Int) (a b : Int) : Int := if vo zs && (isIt zs a && isIt zs b) then joinI zs a.toNat b.toNat else -1
def meetR (zs : List Int) (a b : Int) : Int := if vo zs && (isIt zs a && isIt zs b) then joinI (du zs) a.toNat b.toNat else -1

/-- The items with one item next below. -/
def snB (zs : List Int) (a : Nat) : Bool := popI (topsTo zs ((du zs)[a]?.getD 0) zs.length) == 1
def snTo (zs : List Int) : Nat → Int
  | 0 => 0
  | a + 1 => if snB zs a then orI (snTo zs a) (powI a) else snTo zs a
theorem snTo_yes {zs : List Int} {a : Nat} (h : snB zs a = true) : snTo zs (a + 1) = orI (snTo zs a) (powI a) := by simp [snTo, h]
theorem snTo_no {zs : List Int} {a : Nat} (h : snB zs a = false) : snTo zs (a + 1) = snTo zs a := by simp [snTo, h]
theorem snTo_bd (zs : List Int) : ∀ k : Nat, 0 ≤ snTo zs k ∧ snTo zs k < powI k
  | 0 => by simp [snTo, powI]
  | k + 1 => by
    have h := snTo_bd zs k
    have hp : powI (k : Int) < powI ((k + 1 : Nat) : Int) := powI_lt (by omega)
    unfold snTo
    split
    · exact orI_bd h.1 (by omega) (Int.le_of_lt (powI_pos _)) hp
    · omega
theorem snTo_bit (zs : List Int) (j : Nat) : ∀ k : Nat, bitB (snTo zs k) j = (decide (j < k) && snB zs j)
  | 0 => by simp [snTo, bitB_zero]
  | k + 1 => by
    have ih := snTo_bit zs j k
    cases hs : snB zs k
    · rw [snTo_no hs, ih]
      by_cases e : j = k
      · subst e; simp [hs]
      · have : (j < k + 1) ↔ (j < k) := by omega
        simp [this]
    · rw [snTo_yes hs, bitB_or, ih, bitB_pow]
      by_cases e : j = k
      · subst e; simp [hs]
      · have h1 : (j < k + 1) ↔ (j < k) := by omega
        have h2 : ¬ k = j := by omega
        simp [h1, h2]
def singlesR (zs : List Int) : Int := if vo zs then snTo zs zs.length else -1
/-- What is next below an item: as the model takes it, and the tops of all below it. -/
theorem next_below {zs : List Int} (h : VoP zs) {a : Nat} (ha : a < zs.length) : coverTo (du zs) a zs.length = topsTo zs ((du zs)[a]?.getD 0) zs.length := by
  have hd := du_sets h.sets
  have hb := coverTo_bd hd (a := a) (by rw [du_len]; exact ha) zs.length
  refine bitB_ext hb.1 (topsTo_bd _ _ _).1 fun j => ?_
  rw [Bool.eq_iff_iff, coverTo_bit, topsTo_bit, Bool.and_eq_true, List.all_eq_true, andI_zero]
  constructor
  · rintro ⟨h1, h2⟩
    refine ⟨by rw [du_bit h.sets] at h1; exact bit_none h1, h1, fun b hb => ?_⟩
    have hbn : b < zs.length := by rw [du_bit h.sets] at hb; exact bit_none hb
    have := h2 b (by simpa using hbn)
    rw [hb, du_bit h.sets] at this
    simpa using this
  · rintro ⟨h1, h2, h3⟩
    refine ⟨h2, fun y hy => ?_⟩
    cases hb : bitB ((du zs)[a]?.getD 0) y
    · rfl
    · have := h3 y hb
      rw [du_bit h.sets, this]
      rfl

/-- A set of just the items at or below all those at or above all of it. -/
def cutI (zs : List Int) (s : Int) : Int := comTo (du zs) (comTo zs s zs.length) zs.length
def cutB (zs : List Int) (s : Int) : Bool := cutI zs s == s
def cutsR (zs : List Int) : List Int := if vo zs then setsTo (cutB zs) (2 ^ zs.length) else []

/-- The place of an item of s. -/
def plN (s : Nat) (a : Nat) : Nat := (popI (andI (s : Int) (powI a - 1))).toNat
theorem plN_fin : ∀ s : Fin 64, ∀ a : Fin 7, (popI (andI (s.val : Int) (powI (a.val : Int) - 1))).toNat = ((List.range a.val).filter fun j => s.val.testBit j).length := by decide +kernel
theorem plN_is {s a : Nat} (hs : s < 64) (ha : a ≤ 6) : plN s a = (leftL a s).length := plN_fin ⟨s, hs⟩ ⟨a, by omega⟩
theorem leftL_split {n s a : Nat} (ha : a < n) (hb : s.testBit a = true) : ∃ t, leftL n s = leftL a s ++ a :: t := by
  refine ⟨((List.range (n - (a + 1))).map (fun x => a + 1 + x)).filter fun j => s.testBit j, ?_⟩
  unfold leftL
  have e : List.range n = List.range a ++ a :: (List.range (n - (a + 1))).map (fun x => a + 1 + x) := by
    have h1 : n = (a + 1) + (n - (a + 1)) := by omega
    conv => lhs; rw [h1, List.range_add, List.range_succ]
    simp
  rw [e, List.filter_append, List.filter_cons, if_pos hb]
theorem pl_at {n s a : Nat} (hs : s < 64) (hn : n ≤ 6) (ha : a < n) (hb : s.testBit a = true) : plN s a < (leftL n s).length ∧ (leftL n s)[plN s a]?.getD 0 = a := by
  obtain ⟨t, e⟩ := leftL_split ha hb
  rw [e, plN_is hs (by omega)]
  simp
theorem left_pop_fin : ∀ n : Fin 7, ∀ s : Fin 64, s.val < 2 ^ n.val → (popI (s.val : Int)).toNat = ((List.range n.val).filter fun j => s.val.testBit j).length := by decide +kernel
theorem left_pop {n s : Nat} (hn : n ≤ 6) (hs : s < 2 ^ n) : popI (s : Int) = (leftL n s).length := by
  have h64 := Nat.lt_of_lt_of_le hs (pow_le64 hn)
  have h1 := left_pop_fin ⟨n, by omega⟩ ⟨s, h64⟩ hs
  have h2 := (popI_bd (s := (s : Int)) (by omega) (by omega)).1
  simp only at h1
  unfold leftL
  omega
/-- The pairs of a list of which s has both. -/
def ptB (s : Int) (p : Nat × Nat) : Bool := bitB s p.1 && bitB s p.2
def ptP (s : Nat) (ps : List (Nat × Nat)) : List (Nat × Nat) := (ps.filter (ptB s)).map fun p => (plN s p.2, plN s p.1)
theorem ptP_yes {s : Nat} {ps : List (Nat × Nat)} {a b : Nat} (h1 : bitB s a = true) (h2 : bitB s b = true) : ptP s (ps ++ [(a, b)]) = ptP s ps ++ [(plN s b, plN s a)] := by
  simp [ptP, ptB, List.filter_append, h1, h2]
theorem ptP_no {s : Nat} {ps : List (Nat × Nat)} {a b : Nat} (h : bitB s a = false ∨ bitB s b = false) : ptP s (ps ++ [(a, b)]) = ptP s ps := by
  rcases h with h | h <;> simp [ptP, ptB, List.filter_append, h]
def partR (zs : List Int) (s : Int) : List Int := if vo zs && inB s 0 (powI zs.length - 1) then ind zs (leftL zs.length s.toNat) else []
theorem part_is {zs : List Int} (h : VoP zs) {s : Nat} (hs : s < 2 ^ zs.length) : downP (leftL zs.length s).length (ptP s (pairsL zs)) = ind zs (leftL zs.length s) := by
  have h6 := h.1
  have h64 := Nat.lt_of_lt_of_le hs (pow_le64 h6)
  have hi := leftL_inc zs s
  have hps : ∀ p ∈ ptP s (pairsL zs), p.1 < (leftL zs.length s).length ∧ p.2 < (leftL zs.length s).length := by
    intro p hp
    unfold ptP at hp
    rw [List.mem_map] at hp
    obtain ⟨⟨x, y⟩, hxy, rfl⟩ := hp
    rw [List.mem_filter] at hxy
    obtain ⟨h1, h2⟩ := hxy
    unfold ptB at h2
    rw [Bool.and_eq_true, bit_cast, bit_cast] at h2
    exact ⟨(pl_at h64 h6 (bit_lt hs h2.2) h2.2).1, (pl_at h64 h6 (bit_lt hs h2.1) h2.1).1⟩
  refine List.ext_getElem? fun i => ?_
  rcases Nat.lt_or_ge i (leftL zs.length s).length with hil | hil
  · have e1 : (downP (leftL zs.length s).length (ptP s (pairsL zs)))[i]? = some ((downP (leftL zs.length s).length (ptP s (pairsL zs)))[i]?.getD 0) := by
      rw [List.getElem?_eq_getElem (by rw [downP_len]; exact hil)]; rfl
    have e2 : (ind zs (leftL zs.length s))[i]? = some ((ind zs (leftL zs.length s))[i]?.getD 0) := by
      rw [List.getElem?_eq_getElem (by rw [ind_len]; exact hil)]; rfl
    rw [e1, e2]
    congr 1
    refine bitB_ext (downP_bd (fun p hp => (hps p hp).1) i).1 ?_ fun j => ?_
    · have := (ind_vo h hi).bd i (by rw [ind_len]; exact hil); exact this.1
    · rw [Bool.eq_iff_iff, downP_bit (fun p hp => (hps p hp).2), ind_bit hil]
      unfold ptP
      rw [List.mem_map]
      constructor
      · rintro ⟨⟨x, y⟩, hxy, e⟩
        rw [List.mem_filter] at hxy
        obtain ⟨h1, h2⟩ := hxy
        unfold ptB at h2
        rw [Bool.and_eq_true, bit_cast, bit_cast] at h2
        have hx := pl_at h64 h6 (bit_lt hs h2.1) h2.1
        have hy := pl_at h64 h6 (bit_lt hs h2.2) h2.2
        injection e with e3 e4
        rw [← e3, ← e4]
        exact ⟨hy.1, by rw [hx.2, hy.2]; exact (mem_pairsL.1 h1).2.2⟩
      · rintro ⟨hj, hb⟩
        have hx : s.testBit ((leftL zs.length s)[i]?.getD 0) = true ∧ (leftL zs.length s)[i]?.getD 0 < zs.length := by
          have := List.getElem_mem (l := leftL zs.length s) hil
          rw [List.getElem?_eq_getElem hil]
          unfold leftL at this ⊢
          rw [List.mem_filter] at this
          exact ⟨this.2, by simpa using this.1⟩
        have hy : s.testBit ((leftL zs.length s)[j]?.getD 0) = true ∧ (leftL zs.length s)[j]?.getD 0 < zs.length := by
          have := List.getElem_mem (l := leftL zs.length s) hj
          rw [List.getElem?_eq_getElem hj]
          unfold leftL at this ⊢
          rw [List.mem_filter] at this
          exact ⟨this.2, by simpa using this.1⟩
        refine ⟨((leftL zs.length s)[i]?.getD 0, (leftL zs.length s)[j]?.getD 0), ?_, ?_⟩
        · rw [List.mem_filter]
          refine ⟨mem_pairsL.2 ⟨hx.2, by omega, hb⟩, ?_⟩
          unfold ptB
          rw [Bool.and_eq_true, bit_cast, bit_cast]
          exact ⟨hx.1, hy.1⟩
        · have h1 := pl_at h64 h6 hx.2 hx.1
          have h2 := pl_at h64 h6 hy.2 hy.1
          have e1 := hi.at_inj h1.1 hil h1.2
          have e2 := hi.at_inj h2.1 hj h2.2
          simp only
          rw [e1, e2]
  · rw [List.getElem?_eq_none (by rw [downP_len]; exact hil), List.getElem?_eq_none (by rw [ind_len]; exact hil)]
end Go.Proofs.Ytghogabmkbadjaa

/- Joins: what their own laws ask. No program. -/
namespace Go.Proofs.Ytghogabmkbadjaa

theorem up_swap (zs : List Int) (a b : Nat) : upR zs a b = upR zs b a := by
  unfold upR andI
  rw [Nat.and_comm]
theorem join_swap (zs : List Int) (a b : Nat) : joinI zs a b = joinI zs b a := by unfold joinI; rw [up_swap]
theorem join_bits {zs : List Int} {a b c : Nat} (h : joinI zs a b = c) : c < zs.length ∧ bitB (atUp zs a) c = true ∧ bitB (atUp zs b) c = true := by
  rcases jnI_cases (zs := zs) (s := upR zs a b) with ⟨e, _⟩ | ⟨d, e, hd, hb⟩
  · exfalso
    have : joinI zs a b = -1 := e
    omega
  · have : joinI zs a b = (d : Int) := e
    obtain rfl : d = c := by omega
    unfold jnB at hb
    rw [Bool.and_eq_true] at hb
    have h1 := hb.1
    unfold upR at h1
    rw [bitB_and, Bool.and_eq_true] at h1
    exact ⟨hd, h1⟩
theorem at_or {zs : List Int} {a c : Nat} (h : bitB (atUp zs a) c = true) (hne : c ≠ a) : bitB (zs[a]?.getD 0) c = true := by
  rw [atUp_bit, Bool.or_eq_true, decide_eq_true_eq] at h
  rcases h with h | h
  · exact h
  · exact absurd h.symm hne
/-- Where there is one, all stand in range. -/
theorem join_parts {zs ds : List Int} {a b J : Int} (hJ : (if vo zs && (isIt zs a && isIt zs b) then joinI ds a.toNat b.toNat else -1) = J) (h0 : 0 ≤ J) :
    VoP zs ∧ ∃ x y c : Nat, a = x ∧ b = y ∧ J = c ∧ x < zs.length ∧ y < zs.length ∧ joinI ds x y = c := by
  cases e : (vo zs && (isIt zs a && isIt zs b))
  · rw [e] at hJ
    simp only [Bool.false_eq_true, if_false] at hJ
    omega
  · rw [e, if_pos rfl] at hJ
    rw [Bool.and_eq_true, Bool.and_eq_true] at e
    obtain ⟨hv, ha, hb⟩ := e
    unfold isIt inB at ha hb
    rw [decide_eq_true_eq] at ha hb
    refine ⟨by simpa [vo] using hv, a.toNat, b.toNat, J.toNat, by omega, by omega, by omega, by omega, by omega, by omega⟩
theorem isIt_cast {zs : List Int} {x : Nat} (h : x < zs.length) : isIt zs (x : Int) = true := by unfold isIt inB; rw [decide_eq_true_eq]; omega
theorem joinR_cast {zs : List Int} (h : VoP zs) {x y : Nat} (hx : x < zs.length) (hy : y < zs.length) : joinR zs x y = joinI zs x y := by
  unfold joinR; rw [vo_true h, isIt_cast hx, isIt_cast hy]; rfl
theorem meetR_cast {zs : List Int} (h : VoP zs) {x y : Nat} (hx : x < zs.length) (hy : y < zs.length) : meetR zs x y = joinI (du zs) x y := by
  unfold meetR; rw [vo_true h, isIt_cast hx, isIt_cast hy]; rfl
end Go.Proofs.Ytghogabmkbadjaa

/- Cuts: ideals, closed under meeting, ascending, as many as those of the order turned round, at least as many as items. No program. -/
namespace Go.Proofs.Ytghogabmkbadjaa

theorem inj_len {α β : Type} [DecidableEq β] (f : α → β) : ∀ (l : List α) (m : List β), l.Nodup → (∀ x ∈ l, f x ∈ m) → (∀ x ∈ l, ∀ y ∈ l, f x = f y → x = y) → l.length ≤ m.length
  | [], _, _, _, _ => Nat.zero_le _
  | a :: t, m, hn, hm, hi => by
    have ha := hm a (by simp)
    rw [List.nodup_cons] at hn
    have := inj_len f t (m.erase (f a)) hn.2 (fun x hx => by
      refine (List.mem_erase_of_ne fun e => ?_).2 (hm x (by simp [hx]))
      have := hi x (by simp [hx]) a (by simp) e
      subst this
      exact hn.1 hx) (fun x hx y hy => hi x (by simp [hx]) y (by simp [hy]))
    rw [List.length_erase_of_mem ha] at this
    have := List.length_pos_of_mem ha
    simp only [List.length_cons]
    omega
theorem setsTo_mem {p : Int → Bool} {k : Nat} {x : Int} : x ∈ setsTo p k ↔ ∃ j : Nat, j < k ∧ p (j : Int) = true ∧ (j : Int) = x := by
  simp [setsTo, and_assoc]
theorem setsTo_asc (p : Int → Bool) (k : Nat) : (setsTo p k).Pairwise (· < ·) := by
  unfold setsTo
  rw [List.pairwise_map]
  refine (List.pairwise_lt_range.filter _).imp fun h => by omega
theorem setsTo_nodup (p : Int → Bool) (k : Nat) : (setsTo p k).Nodup := (setsTo_asc p k).imp fun h => by omega
theorem setsTo_at {p : Int → Bool} {k i : Nat} (hi : i < (setsTo p k).length) : ∃ j : Nat, j < k ∧ p (j : Int) = true ∧ (setsTo p k)[i]?.getD 0 = (j : Int) := by
  obtain ⟨j, h1, h2, h3⟩ := setsTo_mem.1 (List.getElem_mem hi)
  exact ⟨j, h1, h2, by rw [List.getElem?_eq_getElem hi]; exact h3.symm⟩
theorem setsTo_less {p : Int → Bool} {k i : Nat} (h0 : 0 < i) (hi : i < (setsTo p k).length) : (setsTo p k)[i - 1]?.getD 0 < (setsTo p k)[i]?.getD 0 := by
  rw [List.getElem?_eq_getElem hi, List.getElem?_eq_getElem (by omega)]
  exact List.pairwise_iff_getElem.1 (setsTo_asc p k) (i - 1) i (by omega) hi (by omega)
/-- At or above. -/
theorem at_du {zs : List Int} (h : Sets zs) (a b : Nat) : bitB (atUp (du zs) a) b = bitB (atUp zs b) a := by
  rw [atUp_bit, atUp_bit, du_bit h]
  congr 1
  exact decide_eq_decide.2 ⟨Eq.symm, Eq.symm⟩
theorem at_self (zs : List Int) (a : Nat) : bitB (atUp zs a) a = true := by rw [atUp_bit]; simp
theorem at_trans {zs : List Int} (h : VoP zs) {a b c : Nat} (h1 : bitB (atUp zs a) b = true) (h2 : bitB (atUp zs b) c = true) : bitB (atUp zs a) c = true := by
  rw [atUp_bit, Bool.or_eq_true, decide_eq_true_eq] at h1 h2
  rcases h1 with h1 | rfl
  · rcases h2 with h2 | rfl
    · rw [atUp_bit, (h.trans ⟨bit_none h1, h1⟩ ⟨bit_none h2, h2⟩).2]; rfl
    · rw [atUp_bit, h1]; rfl
  · rw [atUp_bit, Bool.or_eq_true, decide_eq_true_eq]; exact h2
theorem at_asym {zs : List Int} (h : VoP zs) {a b : Nat} (h1 : bitB (atUp zs a) b = true) (h2 : bitB (atUp zs b) a = true) : a = b := by
  rw [atUp_bit, Bool.or_eq_true, decide_eq_true_eq] at h1 h2
  rcases h1 with h1 | h1
  · rcases h2 with h2 | h2
    · rw [h.asym (bit_none h1) h1] at h2; cases h2
    · exact h2.symm
  · exact h1
/-- The cut of a set: what is at or below all that is at or above all of it. -/
theorem cut_bit {zs : List Int} (h : Sets zs) (s : Int) (i : Nat) : bitB (cutI zs s) i = true ↔ i < zs.length ∧ ∀ j : Nat, j < zs.length → (∀ a : Nat, a < zs.length → bitB s a = true → bitB (atUp zs a) j = true) → bitB (atUp zs i) j = true := by
  unfold cutI
  rw [comTo_bit, du_len]
  refine and_congr_right fun _ => ⟨fun g j hj ha => ?_, fun g j hj hb => ?_⟩
  · rw [← at_du h]; exact g j hj ((comTo_bit _ _ _ _).2 ⟨hj, ha⟩)
  · rw [at_du h]; exact g j hj ((comTo_bit _ _ _ _).1 hb).2
theorem cut_bd (zs : List Int) (s : Int) : 0 ≤ cutI zs s ∧ cutI zs s < powI zs.length := by
  have := comTo_bd (du zs) (comTo zs s zs.length) zs.length
  rwa [du_len] at this
theorem cut_in {zs : List Int} (h : Sets zs) {s : Int} (h1 : s < powI zs.length) {i : Nat} (hb : bitB s i = true) : bitB (cutI zs s) i = true :=
  (cut_bit h s i).2 ⟨bitB_lt h1 hb, fun _ _ ha => ha i (bitB_lt h1 hb) hb⟩
theorem cut_mono {zs : List Int} (h : Sets zs) {s t : Int} (hst : ∀ i : Nat, bitB s i = true → bitB t i = true) {i : Nat} (hb : bitB (cutI zs s) i = true) : bitB (cutI zs t) i = true := by
  rw [cut_bit h] at hb ⊢
  exact ⟨hb.1, fun j hj ha => hb.2 j hj fun a ha1 hs => ha a ha1 (hst a hs)⟩
theorem cutB_iff {zs : List Int} (h : Sets zs) {s : Int} (h0 : 0 ≤ s) (h1 : s < powI zs.length) : cutB zs s = true ↔ ∀ i : Nat, bitB (cutI zs s) i = true → bitB s i = true := by
  unfold cutB
  rw [beq_iff_eq]
  refine ⟨fun e i hb => by rwa [e] at hb, fun g => bitB_ext (cut_bd zs s).1 h0 fun i => ?_⟩
  rw [Bool.eq_iff_iff]
  exact ⟨g i, cut_in h h1⟩
theorem cut_inter {zs : List Int} (h : Sets zs) {s t : Int} (s0 : 0 ≤ s) (s1 : s < powI zs.length) (_t0 : 0 ≤ t) (t1 : t < powI zs.length) (hs : cutB zs s = true) (ht : cutB zs t = true) :
    0 ≤ andI s t ∧ andI s t < powI zs.length ∧ cutB zs (andI s t) = true := by
  have h0 : 0 ≤ andI s t := by unfold andI; omega
  have hle : andI s t < powI zs.length := by
    have := andI_bd s t
    omega
  refine ⟨h0, hle, (cutB_iff h h0 hle).2 fun i hb => ?_⟩
  rw [bitB_and, Bool.and_eq_true]
  exact ⟨(cutB_iff h s0 s1).1 hs i (cut_mono h (fun j hj => by rw [bitB_and, Bool.and_eq_true] at hj; exact hj.1) hb),
    (cutB_iff h _t0 t1).1 ht i (cut_mono h (fun j hj => by rw [bitB_and, Bool.and_eq_true] at hj; exact hj.2) hb)⟩
theorem cut_ideal {zs : List Int} (h : VoP zs) {s : Int} (h0 : 0 ≤ s) (h1 : s < powI zs.length) (hs : cutB zs s = true) : idB zs s = true := by
  refine (idB_iff h.sets h0 h1).2 fun a b hb hz => (cutB_iff h.sets h0 h1).1 hs a ?_
  have hc := cut_in h.sets h1 hb
  rw [cut_bit h.sets] at hc ⊢
  refine ⟨bit_none hz, fun j hj ha => at_trans h (b := b) ?_ (hc.2 j hj ha)⟩
  rw [atUp_bit, hz]; rfl
theorem cut_all {zs : List Int} (h : Sets zs) : cutB zs (powI zs.length - 1) = true := by
  have hp := powI_pos (zs.length : Int)
  refine (cutB_iff h (by omega) (by omega)).2 fun i hb => ?_
  rw [all_bits', decide_eq_true_eq]
  exact ((cut_bit h _ i).1 hb).1
/-- What is at or below an item is a cut. -/
theorem cut_one {zs : List Int} (h : VoP zs) {a : Nat} (ha : a < zs.length) : 0 ≤ atUp (du zs) a ∧ atUp (du zs) a < powI zs.length ∧ cutB zs (atUp (du zs) a) = true := by
  have hb := atUp_bd (du_sets h.sets) (a := a) (by rw [du_len]; exact ha)
  rw [du_len] at hb
  refine ⟨hb.1, hb.2, (cutB_iff h.sets hb.1 hb.2).2 fun i hi => ?_⟩
  rw [at_du h.sets]
  refine ((cut_bit h.sets _ i).1 hi).2 a ha fun c _ hc => ?_
  rwa [at_du h.sets] at hc
theorem pow_cast (n : Nat) : powI (n : Int) = ((2 ^ n : Nat) : Int) := by simp [powI]
theorem mem_cuts {zs : List Int} (h : VoP zs) {x : Int} : x ∈ cutsR zs ↔ 0 ≤ x ∧ x < powI zs.length ∧ cutB zs x = true := by
  unfold cutsR
  rw [vo_true h, if_pos rfl, setsTo_mem, pow_cast]
  refine ⟨?_, fun ⟨h0, h1, h2⟩ => ⟨x.toNat, by omega, by rwa [Int.toNat_of_nonneg h0], Int.toNat_of_nonneg h0⟩⟩
  rintro ⟨j, h1, h2, rfl⟩
  exact ⟨by omega, by omega, h2⟩
theorem cuts_nodup (zs : List Int) : (cutsR zs).Nodup := by
  unfold cutsR
  split
  · exact setsTo_nodup _ _
  · exact List.nodup_nil
theorem cuts_many {zs : List Int} (h : VoP zs) : zs.length ≤ (cutsR zs).length := by
  have := inj_len (fun a : Nat => atUp (du zs) a) (List.range zs.length) (cutsR zs) List.nodup_range (fun a ha => (mem_cuts h).2 (cut_one h (by simpa using ha)))
    (fun a _ b _ e => at_asym h (by rw [← at_du h.sets, ← (show atUp (du zs) a = atUp (du zs) b from e)]; exact at_self _ _) (by rw [← at_du h.sets, (show atUp (du zs) a = atUp (du zs) b from e)]; exact at_self _ _))
  simpa using this
theorem cuts_du_le {zs : List Int} (h : VoP zs) : (cutsR zs).length ≤ (cutsR (du zs)).length := by
  refine inj_len (fun s => comTo zs s zs.length) _ _ (cuts_nodup zs) (fun s hs => ?_) (fun s hs t ht e => ?_)
  · obtain ⟨h0, h1, h2⟩ := (mem_cuts h).1 hs
    have hb := comTo_bd zs s zs.length
    refine (mem_cuts (du_vo h)).2 ⟨hb.1, by rw [du_len]; exact hb.2, ?_⟩
    unfold cutB at h2 ⊢
    rw [beq_iff_eq] at h2 ⊢
    unfold cutI at h2 ⊢
    rw [du_len, du_du h, h2]
  · have h2 := ((mem_cuts h).1 hs).2.2
    have h3 := ((mem_cuts h).1 ht).2.2
    unfold cutB at h2 h3
    rw [beq_iff_eq] at h2 h3
    rw [← h2, ← h3]
    unfold cutI
    rw [show comTo zs s zs.length = comTo zs t zs.length from e]
theorem cuts_du {zs : List Int} (h : VoP zs) : (cutsR (du zs)).length = (cutsR zs).length := by
  have h1 := cuts_du_le h
  have h2 := cuts_du_le (du_vo h)
  rw [du_du h] at h2
  omega
theorem cuts_last {zs : List Int} (h : VoP zs) {m : Nat} (hm : (cutsR zs).length = m + 1) : (cutsR zs)[m]?.getD 0 = powI zs.length - 1 := by
  have hp := powI_pos (zs.length : Int)
  have hin := (mem_cuts h).2 ⟨by omega, by omega, cut_all h.sets⟩
  obtain ⟨i, hi, e⟩ := List.getElem_of_mem hin
  have hl := (mem_cuts h).1 (List.getElem_mem (l := cutsR zs) (n := m) (by omega))
  rw [List.getElem?_eq_getElem (by omega), Option.getD_some]
  by_cases him : i = m
  · subst him; exact e
  · have hp : (cutsR zs).Pairwise (· < ·) := by
      unfold cutsR
      split
      · exact setsTo_asc _ _
      · exact List.Pairwise.nil
    have := List.pairwise_iff_getElem.1 hp i m hi (by omega) (by omega)
    omega
theorem cuts_pos {zs : List Int} (h : VoP zs) : 0 < (cutsR zs).length := by
  have hp := powI_pos (zs.length : Int)
  exact List.length_pos_of_mem ((mem_cuts h).2 ⟨by omega, by omega, cut_all h.sets⟩)
/-- What the cuts' own law asks of each. -/
theorem cuts_each {zs : List Int} (h : VoP zs) {i j : Nat} (hi : i < (cutsR zs).length) (hj : j < (cutsR zs).length) :
    isIdealR zs ((cutsR zs)[i]?.getD 0) = true ∧ andI ((cutsR zs)[i]?.getD 0) ((cutsR zs)[j]?.getD 0) ∈ cutsR zs := by
  rw [List.getElem?_eq_getElem hi, List.getElem?_eq_getElem hj, Option.getD_some, Option.getD_some]
  obtain ⟨a0, a1, a2⟩ := (mem_cuts h).1 (List.getElem_mem hi)
  obtain ⟨b0, b1, b2⟩ := (mem_cuts h).1 (List.getElem_mem hj)
  exact ⟨by rw [isIdealR_in h a0 a1]; exact cut_ideal h a0 a1 a2, (mem_cuts h).2 (cut_inter h.sets a0 a1 b0 b1 a2 b2)⟩
theorem cuts_asc (zs : List Int) {i : Nat} (h0 : 0 < i) (hi : i < (cutsR zs).length) : (cutsR zs)[i - 1]?.getD 0 < (cutsR zs)[i]?.getD 0 := by
  have hp : (cutsR zs).Pairwise (· < ·) := by
    unfold cutsR
    split
    · exact setsTo_asc _ _
    · exact List.Pairwise.nil
  rw [List.getElem?_eq_getElem hi, List.getElem?_eq_getElem (by omega)]
  exact List.pairwise_iff_getElem.1 hp (i - 1) i (by omega) hi (by omega)
end Go.Proofs.Ytghogabmkbadjaa

/- Ranks of lines, as plain mathematics: counted item by item, from what is done and from what is left. No program. -/
namespace Go.Proofs.Ytghogabmkbadjaa

theorem or_fin : ∀ s : Fin 64, ∀ a : Fin 6, s.val.testBit a.val = false → orI (s.val : Int) (powI (a.val : Int)) = ((s.val + 2 ^ a.val : Nat) : Int) := by decide +kernel
theorem or_is {s a : Nat} (hs : s < 64) (ha : a < 6) (hb : s.testBit a = false) : orI (s : Int) (powI (a : Int)) = ((s + 2 ^ a : Nat) : Int) := or_fin ⟨s, hs⟩ ⟨a, ha⟩ hb
theorem com_bit {n s j : Nat} (hn : n ≤ 6) (hs : s < 2 ^ n) (hj : j < 6) : (2 ^ n - 1 - s).testBit j = (decide (j < n) && !s.testBit j) :=
  com_bit_fin ⟨n, by omega⟩ ⟨s, Nat.lt_of_lt_of_le hs (pow_le64 hn)⟩ hs ⟨j, hj⟩
theorem add_lt {n s a : Nat} (hn : n ≤ 6) (hs : s < 2 ^ n) (ha : a < n) (hb : s.testBit a = false) : s + 2 ^ a < 2 ^ n :=
  add_lt_fin ⟨n, by omega⟩ ⟨s, Nat.lt_of_lt_of_le hs (pow_le64 hn)⟩ ⟨a, by omega⟩ hs ha hb
theorem nextE_eF {zs : List Int} (h : VoP zs) {D a : Nat} (hD : D < 2 ^ zs.length) (ha : a < zs.length) : nextE zs D a = eF zs (2 ^ zs.length - 1 - D) a := by
  have hn6 := h.1
  rw [Bool.eq_iff_iff, eF_iff h]
  unfold nextE
  rw [Bool.and_eq_true, beq_iff_eq, less_zero, com_bit hn6 hD (by omega)]
  simp only [ha, decide_true, Bool.true_and]
  constructor
  · rintro ⟨h1, h2⟩
    refine ⟨h1, fun b hb => ?_⟩
    have hbn : b < zs.length := bit_lt (n := zs.length) (by omega) hb
    rw [com_bit hn6 hD (by omega), Bool.and_eq_true] at hb
    cases e : bitB (zs[b]?.getD 0) a
    · rfl
    · have := h2 b (by rw [du_bit h.sets]; exact e)
      rw [this] at hb; simp at hb
  · rintro ⟨h1, h2⟩
    refine ⟨h1, fun j hj => ?_⟩
    rw [du_bit h.sets] at hj
    have hjn := bit_none' hj
    cases e : D.testBit j
    · have := h2 j (by rw [com_bit hn6 hD (by omega), e]; simp [hjn])
      rw [hj] at this; cases this
    · rfl
/-- The lines that go on with a lesser item than 'item', with D done. -/
def rkIn (zs : List Int) (D item : Nat) : Nat := ((List.range item).map fun a => if nextE zs D a then cF zs (2 ^ zs.length - 1 - (D + 2 ^ a)) else 0).sum
theorem rkIn_succ (zs : List Int) (D a : Nat) : rkIn zs D (a + 1) = rkIn zs D a + (if nextE zs D a then cF zs (2 ^ zs.length - 1 - (D + 2 ^ a)) else 0) := by
  unfold rkIn
  rw [List.range_succ, List.map_append, List.sum_append]
  simp
theorem rkIn_le {zs : List Int} (h : VoP zs) (D : Nat) : ∀ a : Nat, rkIn zs D a ≤ a * 46656
  | 0 => by simp [rkIn]
  | a + 1 => by
    have ih := rkIn_le h D a
    have hp := Nat.two_pow_pos zs.length
    have h1 := cF_le h (s := 2 ^ zs.length - 1 - (D + 2 ^ a)) (Nat.lt_of_le_of_lt (Nat.sub_le _ _) (by omega))
    have h2 : (if nextE zs D a then cF zs (2 ^ zs.length - 1 - (D + 2 ^ a)) else 0) ≤ 46656 := by
      cases nextE zs D a
      · exact Nat.zero_le _
      · exact h1
    rw [rkIn_succ, Nat.add_mul]
    exact Nat.add_le_add ih (by rw [Nat.one_mul]; exact h2)
/-- As the program adds: over the items that may come next. -/
def accR (zs : List Int) (S item : Nat) (pre : List Nat) : Nat := ((pre.filter fun a => decide (a < item)).map fun a => cF zs (S - 2 ^ a)).sum
theorem accR_yes {zs : List Int} {S item x : Nat} {pre : List Nat} (h : x < item) : accR zs S item (pre ++ [x]) = accR zs S item pre + cF zs (S - 2 ^ x) := by
  unfold accR; rw [List.filter_append]; simp [h]
theorem accR_no {zs : List Int} {S item x : Nat} {pre : List Nat} (h : ¬ x < item) : accR zs S item (pre ++ [x]) = accR zs S item pre := by
  unfold accR; rw [List.filter_append]; simp [h]
theorem accR_all {zs : List Int} (h : VoP zs) {D item : Nat} (hD : D < 2 ^ zs.length) (hi : item ≤ zs.length) : accR zs (2 ^ zs.length - 1 - D) item (nextL zs (2 ^ zs.length - 1 - D)) = rkIn zs D item := by
  have e : (nextL zs (2 ^ zs.length - 1 - D)).filter (fun a => decide (a < item)) = (List.range item).filter (nextE zs D) := by
    rw [nextL_is h]
    refine inc_ext _ _ (((range_inc _).filter _).filter _) ((range_inc _).filter _) fun a => ?_
    rw [List.mem_filter, List.mem_filter, List.mem_filter, List.mem_range, List.mem_range, decide_eq_true_eq]
    constructor
    · rintro ⟨⟨h1, h2⟩, h3⟩
      exact ⟨h3, by rw [nextE_eF h hD h1]; exact h2⟩
    · rintro ⟨h1, h2⟩
      exact ⟨⟨by omega, by rw [← nextE_eF h hD (by omega)]; exact h2⟩, h1⟩
  unfold accR rkIn
  rw [e, sum_if]
  refine congrArg List.sum (List.map_congr_left fun a ha => ?_)
  rw [Nat.sub_sub]
theorem accR_le {zs : List Int} (h : VoP zs) {S item : Nat} (hS : S < 2 ^ zs.length) : ∀ pre : List Nat, accR zs S item pre ≤ pre.length * 46656 := fun pre => by
  have h1 : ∀ x ∈ pre.filter (fun a => decide (a < item)), cF zs (S - 2 ^ x) ≤ 46656 := fun x _ => cF_le h (Nat.lt_of_le_of_lt (Nat.sub_le _ _) hS)
  have h2 := sum_le _ h1
  have h3 := List.length_filter_le (fun a => decide (a < item)) pre
  unfold accR
  exact Nat.le_trans h2 (Nat.mul_le_mul_right _ h3)
/-- The count under way. -/
def midR (zs : List Int) (S item R : Nat) (pre : List Nat) : Nat := R + accR zs S item pre
/-- What is done, and the item at a place, as numbers that are none less than 0. -/
def dN (ls : List Int) (k : Nat) : Nat := (doneTo ls k).toNat
def itN (ls : List Int) (k : Nat) : Nat := (ls[k]?.getD 0).toNat
def rkUp (zs ls : List Int) : Nat → Nat
  | 0 => 0
  | k + 1 => rkUp zs ls k + rkIn zs (dN ls k) (itN ls k)
theorem line_steps {zs ls : List Int} (h : lineB zs ls = true) : ls.length = zs.length ∧ ∀ k, k < zs.length → stepOk zs ls k = true := by
  unfold lineB at h
  rw [Bool.and_eq_true, decide_eq_true_eq, List.all_eq_true] at h
  exact ⟨h.1, fun k hk => h.2 k (by rw [List.mem_range]; omega)⟩
section
variable {zs ls : List Int}
theorem it_is {k : Nat} (h : stepOk zs ls k = true) : ls[k]?.getD 0 = (itN ls k : Int) ∧ itN ls k < zs.length := by
  have := stepOk_in h
  unfold itN; omega
theorem d_is {k : Nat} (h : ∀ i, i < k → stepOk zs ls i = true) : doneTo ls k = (dN ls k : Int) ∧ dN ls k < 2 ^ zs.length := by
  have := doneTo_bd k h
  have e : powI (zs.length : Int) = ((2 ^ zs.length : Nat) : Int) := by simp [powI]
  unfold dN; omega
theorem d_new {k : Nat} (hk : ∀ i, i < k → stepOk zs ls i = true) (h : stepOk zs ls k = true) : (dN ls k).testBit (itN ls k) = false := by
  have := stepOk_new h
  rw [(it_is h).1, (d_is hk).1, bit_cast] at this
  exact this
theorem d_succ (hv : VoP zs) {k : Nat} (hk : ∀ i, i < k → stepOk zs ls i = true) (h : stepOk zs ls k = true) : dN ls (k + 1) = dN ls k + 2 ^ itN ls k := by
  have hn6 := hv.1
  have h1 := d_is hk
  have h2 := it_is h
  have h3 : doneTo ls (k + 1) = orI (doneTo ls k) (powI (ls[k]?.getD 0)) := rfl
  rw [h1.1, h2.1, or_is (Nat.lt_of_lt_of_le h1.2 (pow_le64 hn6)) (by omega) (d_new hk h)] at h3
  unfold dN at h3 ⊢
  rw [h3]; rfl
theorem left_com (hv : VoP zs) : ∀ k : Nat, (∀ i, i < k → stepOk zs ls i = true) → leftTo zs.length ls k = ((2 ^ zs.length - 1 - dN ls k : Nat) : Int) := fun k hk => by
  have hn6 := hv.1
  have h1 := d_is hk
  have hp := Nat.two_pow_pos zs.length
  have hb := leftTo_bd (n := zs.length) (ls := ls) k
  refine bitB_ext hb.1 (by omega) fun j => ?_
  rw [leftTo_bit j k hk, bit_cast, h1.1, bit_cast]
  rcases Nat.lt_or_ge j 6 with hj | hj
  · rw [com_bit hn6 h1.2 hj]
  · have h64 := pow_le64 hn6
    have e : (2 ^ zs.length - 1 - dN ls k).testBit j = false := Nat.testBit_lt_two_pow (Nat.lt_of_lt_of_le (show 2 ^ zs.length - 1 - dN ls k < 2 ^ 6 by omega) (Nat.pow_le_pow_right (by decide) hj))
    rw [e, decide_eq_false (by omega)]; rfl
theorem rkUp_le (hv : VoP zs) : ∀ k : Nat, (∀ i, i < k → stepOk zs ls i = true) → rkUp zs ls k ≤ k * 279936
  | 0, _ => by simp [rkUp]
  | k + 1, h => by
    have ih := rkUp_le hv k fun i hi => h i (by omega)
    have h1 := rkIn_le hv (dN ls k) (itN ls k)
    have h2 := (it_is (h k (by omega))).2
    have h3 := hv.1
    unfold rkUp
    omega
end
def rankR (zs ls : List Int) : Int := if isLineR zs ls then (rkUp zs ls ls.length : Int) else -1
end Go.Proofs.Ytghogabmkbadjaa

/- LineAt, as plain mathematics: the line of a rank, item by item. No program. -/
namespace Go.Proofs.Ytghogabmkbadjaa

theorem rkIn_all {zs : List Int} (h : VoP zs) {D : Nat} (hD : D < 2 ^ zs.length) (h0 : 2 ^ zs.length - 1 - D ≠ 0) : rkIn zs D zs.length = cF zs (2 ^ zs.length - 1 - D) := by
  rw [← accR_all h hD (Nat.le_refl _), ← accF_all h h0]
  unfold accR accF
  rw [List.filter_eq_self.2]
  intro a ha
  simpa using (nextL_mem h ha).1
theorem rkIn_mono (zs : List Int) (D : Nat) : ∀ d a : Nat, rkIn zs D a ≤ rkIn zs D (a + d)
  | 0, _ => Nat.le_refl _
  | d + 1, a => by
    have := rkIn_mono zs D d a
    rw [← Nat.add_assoc, rkIn_succ]; omega
theorem rkIn_mono' {zs : List Int} {D a b : Nat} (h : a ≤ b) : rkIn zs D a ≤ rkIn zs D b := by
  have := rkIn_mono zs D (b - a) a
  rwa [show a + (b - a) = b by omega] at this
/-- The first item such that there are more lines up to it than the rank tells. -/
def pk (zs : List Int) (D r : Nat) : Nat := ((List.range zs.length).find? fun a => decide (r < rkIn zs D (a + 1))).getD 0
theorem pk_ok {zs : List Int} {D r : Nat} (hr : r < rkIn zs D zs.length) : pk zs D r < zs.length ∧ rkIn zs D (pk zs D r) ≤ r ∧ r < rkIn zs D (pk zs D r + 1) := by
  have h0 : zs.length ≠ 0 := by intro h; rw [h] at hr; simp [rkIn] at hr
  cases e : (List.range zs.length).find? fun a => decide (r < rkIn zs D (a + 1)) with
  | none =>
    exfalso
    rw [List.find?_eq_none] at e
    have h1 := e (zs.length - 1) (by rw [List.mem_range]; omega)
    rw [show zs.length - 1 + 1 = zs.length by omega] at h1
    exact h1 (decide_eq_true hr)
  | some a =>
    have hp : pk zs D r = a := by unfold pk; rw [e]; rfl
    rw [List.find?_range_eq_some] at e
    obtain ⟨h1, h2, h3⟩ := e
    rw [hp]
    refine ⟨List.mem_range.1 h2, ?_, of_decide_eq_true h1⟩
    rcases Nat.eq_zero_or_pos a with rfl | ha
    · simp [rkIn]
    · have := h3 (a - 1) (by omega)
      rw [show a - 1 + 1 = a by omega] at this
      simpa using this
theorem pk_next {zs : List Int} {D r : Nat} (hr : r < rkIn zs D zs.length) : nextE zs D (pk zs D r) = true := by
  have h := pk_ok hr
  cases e : nextE zs D (pk zs D r)
  · have := rkIn_succ zs D (pk zs D r)
    rw [e] at this
    simp at this
    omega
  · rfl
theorem pk_cnt {zs : List Int} {D r : Nat} (hr : r < rkIn zs D zs.length) : r - rkIn zs D (pk zs D r) < cF zs (2 ^ zs.length - 1 - (D + 2 ^ pk zs D r)) := by
  have h := pk_ok hr
  have := rkIn_succ zs D (pk zs D r)
  rw [pk_next hr] at this
  simp only [if_true] at this
  omega
/-- What is done, and the rank that is left, after k items. -/
def stA (zs : List Int) (r : Nat) : Nat → Nat × Nat
  | 0 => (0, r)
  | k + 1 => ((stA zs r k).1 + 2 ^ pk zs (stA zs r k).1 (stA zs r k).2, (stA zs r k).2 - rkIn zs (stA zs r k).1 (pk zs (stA zs r k).1 (stA zs r k).2))
def atL (zs : List Int) (r : Nat) : Nat → List Int
  | 0 => []
  | k + 1 => atL zs r k ++ [(pk zs (stA zs r k).1 (stA zs r k).2 : Int)]
theorem atL_len (zs : List Int) (r : Nat) : ∀ k : Nat, (atL zs r k).length = k
  | 0 => rfl
  | k + 1 => by simp [atL, atL_len zs r k]
theorem pop_add_fin : ∀ s : Fin 64, ∀ a : Fin 6, s.val.testBit a.val = false → popI ((s.val + 2 ^ a.val : Nat) : Int) = popI (s.val : Int) + 1 := by decide +kernel
theorem pop_full_fin : ∀ n : Fin 7, ∀ s : Fin 64, s.val < 2 ^ n.val → popI (s.val : Int) < (n.val : Int) → 2 ^ n.val - 1 - s.val ≠ 0 := by decide +kernel
theorem nextE_new {zs : List Int} {D a : Nat} (h : nextE zs D a = true) : D.testBit a = false ∧ (lessI ((du zs)[a]?.getD 0) (D : Int) == 0) = true := by
  unfold nextE at h
  rw [Bool.and_eq_true] at h
  exact ⟨by simpa using h.1, h.2⟩
theorem stA_ok {zs : List Int} (h : VoP zs) {r : Nat} (hr : r < cF zs (2 ^ zs.length - 1)) : ∀ k : Nat, k ≤ zs.length → (stA zs r k).1 < 2 ^ zs.length ∧ popI ((stA zs r k).1 : Int) = k ∧ (stA zs r k).2 < cF zs (2 ^ zs.length - 1 - (stA zs r k).1)
  | 0, _ => ⟨Nat.two_pow_pos _, (by decide +kernel : popI ((0 : Nat) : Int) = ((0 : Nat) : Int)), by simpa [stA] using hr⟩
  | k + 1, hk => by
    have hn6 := h.1
    have hp64 := pow_le64 hn6
    obtain ⟨h1, h2, h3⟩ := stA_ok h hr k (by omega)
    have h0 := pop_full_fin ⟨zs.length, by omega⟩ ⟨(stA zs r k).1, by omega⟩ h1 (by show popI ((stA zs r k).1 : Int) < (zs.length : Int); omega)
    simp only at h0
    have hx : (stA zs r k).2 < rkIn zs (stA zs r k).1 zs.length := by rw [rkIn_all h h1 h0]; exact h3
    have ho := pk_ok hx
    have hnw := (nextE_new (pk_next hx)).1
    refine ⟨add_lt hn6 h1 ho.1 hnw, ?_, pk_cnt hx⟩
    have := pop_add_fin ⟨(stA zs r k).1, by omega⟩ ⟨pk zs (stA zs r k).1 (stA zs r k).2, by omega⟩ hnw
    simp only [stA]
    simp only at this
    rw [this, h2]; omega
/-- All that a walk needs in round k. -/
theorem stA_step {zs : List Int} (h : VoP zs) {r : Nat} (hr : r < cF zs (2 ^ zs.length - 1)) {k : Nat} (hk : k < zs.length) : (stA zs r k).1 < 2 ^ zs.length ∧ (stA zs r k).2 ≤ 46656 ∧ (stA zs r k).2 < rkIn zs (stA zs r k).1 zs.length := by
  have hn6 := h.1
  have hp64 := pow_le64 hn6
  obtain ⟨h1, h2, h3⟩ := stA_ok h hr k (by omega)
  have h0 := pop_full_fin ⟨zs.length, by omega⟩ ⟨(stA zs r k).1, by omega⟩ h1 (by show popI ((stA zs r k).1 : Int) < (zs.length : Int); omega)
  simp only at h0
  have h4 := cF_le h (s := 2 ^ zs.length - 1 - (stA zs r k).1) (by omega)
  exact ⟨h1, by omega, by rw [rkIn_all h h1 h0]; exact h3⟩
theorem less_sorted {l pre : List Nat} {y : Nat} (hl : l.Pairwise (· < ·)) (hp : pre ++ [y] <+: l) : l.filter (fun a => decide (a < y)) = pre := by
  obtain ⟨t, rfl⟩ := hp
  rw [List.append_assoc, List.pairwise_append] at hl
  obtain ⟨_, h2, h3⟩ := hl
  rw [List.append_assoc, List.filter_append, List.filter_eq_self.2 (fun a ha => by simpa using h3 a ha y (by simp)), List.filter_eq_nil_iff.2, List.append_nil]
  intro a ha
  simp only [List.singleton_append] at h2 ha
  rw [List.pairwise_cons] at h2
  rcases List.mem_cons.1 ha with rfl | ha
  · simp
  · have := h2.1 a ha
    simp; omega
theorem nextL_inc {zs : List Int} (h : VoP zs) (s : Nat) : (nextL zs s).Pairwise (· < ·) := by
  rw [nextL_is h]; exact (range_inc _).filter _
/-- What stands ahead of an item that may come next. -/
theorem accF_at {zs : List Int} (h : VoP zs) {D y : Nat} (hD : D < 2 ^ zs.length) {pre : List Nat} (hp : pre ++ [y] <+: nextL zs (2 ^ zs.length - 1 - D)) : accF zs (2 ^ zs.length - 1 - D) pre = rkIn zs D y := by
  have hy := (nextL_mem h (hp.subset (by simp : y ∈ pre ++ [y]))).1
  rw [← accR_all h hD (Nat.le_of_lt hy)]
  unfold accR accF
  rw [less_sorted (nextL_inc h _) hp]
theorem next_mem {zs : List Int} (h : VoP zs) {D x : Nat} (hD : D < 2 ^ zs.length) (hx : x < zs.length) (hn : nextE zs D x = true) : x ∈ nextL zs (2 ^ zs.length - 1 - D) := by
  rw [nextL_is h, List.mem_filter, List.mem_range]
  exact ⟨hx, by rw [← nextE_eF h hD hx]; exact hn⟩
theorem le_of_first {l pre : List Nat} {x y : Nat} (hl : l.Pairwise (· < ·)) (hp : pre ++ [y] <+: l) (hx : x ∈ l) (hn : x ∉ pre) : y ≤ x := by
  obtain ⟨t, rfl⟩ := hp
  rw [List.append_assoc, List.pairwise_append] at hl
  obtain ⟨_, h2, _⟩ := hl
  simp only [List.singleton_append, List.pairwise_cons] at h2
  simp only [List.append_assoc, List.singleton_append, List.mem_append, List.mem_cons] at hx
  rcases hx with hx | rfl | hx
  · exact absurd hx hn
  · exact Nat.le_refl _
  · exact Nat.le_of_lt (h2.1 x hx)
/-- The answer: no line, or the line of the rank. -/
def hasAt (zs : List Int) (r : Int) : Bool := vo zs && (decide (0 ≤ r) && decide (r < (cF zs (2 ^ zs.length - 1) : Int)))
def atR (zs : List Int) (r : Int) : List Int := if hasAt zs r then atL zs r.toNat zs.length else []
end Go.Proofs.Ytghogabmkbadjaa

/- Ranks and lines tell each other, as plain mathematics. No program. -/
namespace Go.Proofs.Ytghogabmkbadjaa

theorem pk_of {zs : List Int} {D r x : Nat} (hx : x < zs.length) (h1 : rkIn zs D x ≤ r) (h2 : r < rkIn zs D (x + 1)) : pk zs D r = x := by
  have hr : r < rkIn zs D zs.length := Nat.lt_of_lt_of_le h2 (rkIn_mono' hx)
  obtain ⟨_, p2, p3⟩ := pk_ok hr
  rcases Nat.lt_trichotomy (pk zs D r) x with h | h | h
  · have := rkIn_mono' (zs := zs) (D := D) (show pk zs D r + 1 ≤ x from h); omega
  · exact h
  · have := rkIn_mono' (zs := zs) (D := D) (show x + 1 ≤ pk zs D r from h); omega
theorem full_fin : ∀ n : Fin 7, ∀ s : Fin 64, s.val < 2 ^ n.val → popI (s.val : Int) = (n.val : Int) → 2 ^ n.val - 1 - s.val = 0 := by decide +kernel

section
variable {zs ls : List Int}
theorem line_next (_ : VoP zs) (hs : ∀ k, k < zs.length → stepOk zs ls k = true) {k : Nat} (hk : k < zs.length) : nextE zs (dN ls k) (itN ls k) = true := by
  have hok : ∀ i, i < k → stepOk zs ls i = true := fun i hi => hs i (by omega)
  have h1 := hs k hk
  have h2 := d_new hok h1
  have h3 := (it_is h1).1
  have h4 := (d_is hok).1
  unfold stepOk at h1
  rw [Bool.and_eq_true, Bool.and_eq_true, h3, h4, Int.toNat_natCast] at h1
  unfold nextE
  rw [h2, h1.2.2]; rfl
theorem line_pop (hv : VoP zs) (hs : ∀ k, k < zs.length → stepOk zs ls k = true) : ∀ k : Nat, k ≤ zs.length → popI (dN ls k : Int) = k
  | 0, _ => (by decide +kernel : popI ((0 : Nat) : Int) = ((0 : Nat) : Int))
  | k + 1, hk => by
    have hn6 := hv.1
    have hp64 := pow_le64 hn6
    have ih := line_pop hv hs k (by omega)
    have hok : ∀ i, i < k → stepOk zs ls i = true := fun i hi => hs i (by omega)
    have h1 := hs k (by omega)
    have h2 := d_new hok h1
    have h3 := (it_is h1).2
    have h4 := (d_is hok).2
    rw [d_succ hv hok h1]
    have := pop_add_fin ⟨dN ls k, by omega⟩ ⟨itN ls k, by omega⟩ h2
    simp only at this
    rw [this, ih]; omega
theorem line_full (hv : VoP zs) (hs : ∀ k, k < zs.length → stepOk zs ls k = true) : 2 ^ zs.length - 1 - dN ls zs.length = 0 := by
  have hn6 := hv.1
  have hp64 := pow_le64 hn6
  have h4 := (d_is (zs := zs) (ls := ls) (k := zs.length) fun i hi => hs i hi).2
  exact full_fin ⟨zs.length, by omega⟩ ⟨dN ls zs.length, by omega⟩ h4 (line_pop hv hs _ (Nat.le_refl _))
theorem rkUp_mono : ∀ d k : Nat, rkUp zs ls k ≤ rkUp zs ls (k + d)
  | 0, _ => Nat.le_refl _
  | d + 1, k => by
    have := rkUp_mono d k
    rw [← Nat.add_assoc]
    exact Nat.le_trans this (Nat.le_add_right _ _)
theorem rkUp_mono' {a b : Nat} (h : a ≤ b) : rkUp zs ls a ≤ rkUp zs ls b := by
  have := rkUp_mono (zs := zs) (ls := ls) (b - a) a
  rwa [show a + (b - a) = b by omega] at this
theorem rkUp_succ (k : Nat) : rkUp zs ls (k + 1) = rkUp zs ls k + rkIn zs (dN ls k) (itN ls k) := rfl
theorem rkIn_line (hv : VoP zs) (hs : ∀ k, k < zs.length → stepOk zs ls k = true) {k : Nat} (hk : k < zs.length) :
    rkIn zs (dN ls k) (itN ls k + 1) = rkIn zs (dN ls k) (itN ls k) + cF zs (2 ^ zs.length - 1 - dN ls (k + 1)) := by
  rw [rkIn_succ, line_next hv hs hk, if_pos rfl, d_succ hv (fun i hi => hs i (by omega)) (hs k hk)]
theorem line_lt (hv : VoP zs) (hs : ∀ k, k < zs.length → stepOk zs ls k = true) : ∀ m k : Nat, m + k = zs.length → rkUp zs ls zs.length - rkUp zs ls k < cF zs (2 ^ zs.length - 1 - dN ls k)
  | 0, k, e => by
    obtain rfl : k = zs.length := by omega
    rw [line_full hv hs, cF_zero]; omega
  | m + 1, k, e => by
    have ih := line_lt hv hs m (k + 1) (by omega)
    have hk : k < zs.length := by omega
    have hn6 := hv.1
    have hp64 := pow_le64 hn6
    have h4 := (d_is (zs := zs) (ls := ls) (k := k) fun i hi => hs i (by omega)).2
    have h0 := pop_full_fin ⟨zs.length, by omega⟩ ⟨dN ls k, by omega⟩ h4 (by show popI ((dN ls k : Nat) : Int) < (zs.length : Int); rw [line_pop hv hs k (by omega)]; omega)
    simp only at h0
    have h5 := rkIn_all hv h4 h0
    have h6 := rkIn_line hv hs hk
    have h7 := rkIn_mono' (zs := zs) (D := dN ls k) (show itN ls k + 1 ≤ zs.length from (it_is (hs k hk)).2)
    have h8 := rkUp_mono' (zs := zs) (ls := ls) (show k + 1 ≤ zs.length from hk)
    rw [rkUp_succ] at ih h8
    omega
theorem stA_line (hv : VoP zs) (hs : ∀ k, k < zs.length → stepOk zs ls k = true) : ∀ k : Nat, k ≤ zs.length → stA zs (rkUp zs ls zs.length) k = (dN ls k, rkUp zs ls zs.length - rkUp zs ls k)
  | 0, _ => rfl
  | k + 1, hk => by
    have ih := stA_line hv hs k (by omega)
    have h5 := line_lt hv hs (zs.length - (k + 1)) (k + 1) (by omega)
    have h6 := rkIn_line hv hs (show k < zs.length from hk)
    have h8 := rkUp_mono' (zs := zs) (ls := ls) hk
    have hp : pk zs (dN ls k) (rkUp zs ls zs.length - rkUp zs ls k) = itN ls k := pk_of (it_is (hs k hk)).2 (by rw [rkUp_succ] at h8; omega) (by rw [rkUp_succ] at h8 h5; omega)
    unfold stA
    rw [ih]
    simp only
    rw [hp, d_succ hv (fun i hi => hs i (by omega)) (hs k hk), rkUp_succ, Nat.sub_sub]
theorem pk_line (hv : VoP zs) (hs : ∀ k, k < zs.length → stepOk zs ls k = true) {k : Nat} (hk : k < zs.length) : pk zs (dN ls k) (rkUp zs ls zs.length - rkUp zs ls k) = itN ls k := by
  have h5 := line_lt hv hs (zs.length - (k + 1)) (k + 1) (by omega)
  have h6 := rkIn_line hv hs hk
  have h8 := rkUp_mono' (zs := zs) (ls := ls) (show k + 1 ≤ zs.length from hk)
  exact pk_of (it_is (hs k hk)).2 (by rw [rkUp_succ] at h8; omega) (by rw [rkUp_succ] at h8 h5; omega)
theorem atL_take (hv : VoP zs) (hl : ls.length = zs.length) (hs : ∀ k, k < zs.length → stepOk zs ls k = true) : ∀ k : Nat, k ≤ zs.length → atL zs (rkUp zs ls zs.length) k = ls.take k
  | 0, _ => by simp [atL]
  | k + 1, hk => by
    have ih := atL_take hv hl hs k (by omega)
    unfold atL
    rw [ih, stA_line hv hs k (by omega), pk_line hv hs (by omega), List.take_add_one, List.getElem?_eq_getElem (by omega)]
    have h3 := (it_is (hs k hk)).1
    rw [List.getElem?_eq_getElem (by omega)] at h3
    simp at h3
    simp [h3]
/-- A line is the one of its rank. -/
theorem at_rank (hv : VoP zs) (hl : lineB zs ls = true) : rkUp zs ls zs.length < cF zs (2 ^ zs.length - 1) ∧ atL zs (rkUp zs ls zs.length) zs.length = ls := by
  obtain ⟨h1, hs⟩ := line_steps hl
  refine ⟨?_, by rw [atL_take hv h1 hs _ (Nat.le_refl _), List.take_of_length_le (by omega)]⟩
  have := line_lt hv hs zs.length 0 (by omega)
  have e : dN ls 0 = 0 := rfl
  have e2 : rkUp zs ls 0 = 0 := rfl
  rw [e, e2] at this
  simpa using this
end

section
variable {zs : List Int} {r : Nat}
theorem atL_at : ∀ m k : Nat, k < m → (atL zs r m)[k]?.getD 0 = (pk zs (stA zs r k).1 (stA zs r k).2 : Int)
  | m + 1, k, hk => by
    unfold atL
    rcases Nat.lt_or_ge k m with h | h
    · rw [List.getElem?_append_left (by rw [atL_len]; exact h)]; exact atL_at m k h
    · obtain rfl : k = m := by omega
      rw [List.getElem?_append_right (by rw [atL_len]; exact Nat.le_refl _), atL_len]; simp
theorem atL_done (hv : VoP zs) (hr : r < cF zs (2 ^ zs.length - 1)) : ∀ k : Nat, k ≤ zs.length → doneTo (atL zs r zs.length) k = ((stA zs r k).1 : Int)
  | 0, _ => rfl
  | k + 1, hk => by
    have ih := atL_done hv hr k (by omega)
    have hn6 := hv.1
    have hp64 := pow_le64 hn6
    obtain ⟨h1, _, h3⟩ := stA_step hv hr (show k < zs.length from hk)
    have hp := pk_ok h3
    have hb := (nextE_new (pk_next h3)).1
    unfold doneTo
    rw [ih, atL_at _ _ (show k < zs.length from hk), or_is (by omega) (by omega) hb]
    rfl
theorem atL_step (hv : VoP zs) (hr : r < cF zs (2 ^ zs.length - 1)) {k : Nat} (hk : k < zs.length) : stepOk zs (atL zs r zs.length) k = true := by
  obtain ⟨h1, _, h3⟩ := stA_step hv hr hk
  have hp := pk_ok h3
  have hb := nextE_new (pk_next h3)
  unfold stepOk
  rw [atL_at _ _ hk, atL_done hv hr k (by omega), Int.toNat_natCast, bit_cast, hb.1, hb.2]
  simp [inB]; omega
/-- The line of a rank is one, and has that rank. -/
theorem rank_at (hv : VoP zs) (hr : r < cF zs (2 ^ zs.length - 1)) : lineB zs (atL zs r zs.length) = true ∧ rkUp zs (atL zs r zs.length) zs.length = r := by
  have hs : ∀ k, k < zs.length → stepOk zs (atL zs r zs.length) k = true := fun k hk => atL_step hv hr hk
  refine ⟨lineB_yes (atL_len _ _ _) rfl hs, ?_⟩
  have hd : ∀ k, k ≤ zs.length → dN (atL zs r zs.length) k = (stA zs r k).1 := fun k hk => by unfold dN; rw [atL_done hv hr k hk]; rfl
  have key : ∀ k : Nat, k ≤ zs.length → rkUp zs (atL zs r zs.length) k + (stA zs r k).2 = r := by
    intro k
    induction k with
    | zero => intro _; simp [rkUp, stA]
    | succ k ih =>
      intro hk
      have ih := ih (by omega)
      obtain ⟨h1, _, h3⟩ := stA_step hv hr (show k < zs.length from hk)
      have hp := pk_ok h3
      have hi : itN (atL zs r zs.length) k = pk zs (stA zs r k).1 (stA zs r k).2 := by unfold itN; rw [atL_at _ _ (show k < zs.length from hk)]; rfl
      have e2 : (stA zs r (k + 1)).2 = (stA zs r k).2 - rkIn zs (stA zs r k).1 (pk zs (stA zs r k).1 (stA zs r k).2) := rfl
      rw [rkUp_succ, hd k (by omega), hi, e2]
      omega
  have h0 := key zs.length (Nat.le_refl _)
  have h1 := (stA_ok hv hr zs.length (Nat.le_refl _)).2.2
  rw [← hd _ (Nat.le_refl _), line_full hv hs, cF_zero] at h1
  omega
end

/-! Turned round. -/
theorem below_any {zs : List Int} (h : VoP zs) {s a : Nat} (hs : s < 2 ^ zs.length) : belowAny zs s a = false ↔ andI (zs[a]?.getD 0) (s : Int) = 0 := by
  unfold belowAny
  rw [andI_zero]
  constructor
  · intro e j hj
    rw [bit_cast] at hj
    have hjn := bit_lt hs hj
    cases e2 : bitB (zs[a]?.getD 0) j
    · rfl
    · have : ((List.range zs.length).any fun b => s.testBit b && bitB ((du zs)[b]?.getD 0) a) = true := by
        rw [List.any_eq_true]
        exact ⟨j, List.mem_range.2 hjn, by rw [du_bit h.sets, hj, e2]; rfl⟩
      rw [e] at this; cases this
  · intro e
    rw [List.any_eq_false]
    intro b _ hb
    rw [Bool.and_eq_true, du_bit h.sets] at hb
    have := e b (by rw [bit_cast]; exact hb.1)
    rw [hb.2] at this; cases this
theorem eF_du {zs : List Int} (h : VoP zs) {s a : Nat} (hs : s < 2 ^ zs.length) (hI : Ideal zs s) : eF (du zs) s a = eG zs s a := by
  unfold eF eG
  rw [du_du h]
  cases hb : s.testBit a
  · rfl
  · have h1 : (lessI ((du zs)[a]?.getD 0) (s : Int) == 0) = true := by
      rw [beq_iff_eq, less_zero]
      exact fun j hj => hI j a hb hj
    rw [h1, Bool.true_and, Bool.true_and, Bool.true_and]
    cases e : belowAny zs s a
    · rw [(below_any h hs).1 e]; rfl
    · have : ¬ andI (zs[a]?.getD 0) (s : Int) = 0 := fun e2 => by rw [(below_any h hs).2 e2] at e; cases e
      simpa using this
theorem ideal_less {zs : List Int} (h : VoP zs) {s a : Nat} (hs : s < 2 ^ zs.length) (hI : Ideal zs s) (he : eG zs s a = true) : Ideal zs (s - 2 ^ a) := by
  have hn6 := h.1
  have hp64 := pow_le64 hn6
  unfold eG at he
  rw [Bool.and_eq_true, Bool.and_eq_true] at he
  obtain ⟨ha, _, hnb⟩ := he
  have han := bit_lt hs ha
  have hpa := Nat.two_pow_pos a
  have hbit : ∀ j, (s - 2 ^ a).testBit j = (s.testBit j && !decide (a = j)) := fun j => by
    rcases Nat.lt_or_ge j 6 with hj | hj
    · exact sub_bit_fin ⟨s, by omega⟩ ⟨a, by omega⟩ ⟨j, hj⟩ ha
    · rw [Nat.testBit_lt_two_pow (Nat.lt_of_lt_of_le (show s - 2 ^ a < 2 ^ 6 by omega) (Nat.pow_le_pow_right (by decide) hj)), Nat.testBit_lt_two_pow (Nat.lt_of_lt_of_le (show s < 2 ^ 6 by omega) (Nat.pow_le_pow_right (by decide) hj))]; rfl
  intro x y hy hb
  rw [hbit, Bool.and_eq_true] at hy ⊢
  refine ⟨hI x y hy.1 hb, ?_⟩
  by_cases e : a = x
  · subst e
    have h2 : belowAny zs s a = true := by
      unfold belowAny
      rw [List.any_eq_true]
      exact ⟨y, List.mem_range.2 (bit_lt hs hy.1), by rw [hy.1, hb]; rfl⟩
    rw [h2] at hnb; simp at hnb
  · simp [e]
theorem cF_du {zs : List Int} (h : VoP zs) : ∀ (k s : Nat), s ≤ k → s < 2 ^ zs.length → Ideal zs s → cF (du zs) s = cG zs s
  | 0, s, hk, _, _ => by
    obtain rfl : s = 0 := by omega
    rw [cF_zero, cG_zero]
  | k + 1, s, hk, hs, hI => by
    by_cases h0 : s = 0
    · subst h0; rw [cF_zero, cG_zero]
    · rw [cF_pos h0, cG_pos h0, du_len]
      refine sum_congr fun a ha => ?_
      rw [eF_du h hs hI]
      cases he : eG zs s a
      · rfl
      · have hlt := sub_lt (a := a) h0
        rw [if_pos rfl, if_pos rfl, cF_du h k (s - 2 ^ a) (by omega) (by omega) (ideal_less h hs hI he)]
/-- The order turned round has as many lines. -/
theorem count_du {zs : List Int} (h : VoP zs) : cF (du zs) (2 ^ zs.length - 1) = cF zs (2 ^ zs.length - 1) := by
  have hp := Nat.two_pow_pos zs.length
  rw [cF_du h _ _ (Nat.le_refl _) (by omega) (fun a b _ hb => by
    have := (du_small h hb).1
    rw [Nat.testBit_two_pow_sub_one]; simpa using this), count_both h]
end Go.Proofs.Ytghogabmkbadjaa

/- A line backwards is one of the order turned round, as plain mathematics. No program. -/
namespace Go.Proofs.Ytghogabmkbadjaa

section
variable {zs ls : List Int}
theorem add_bit {s a j : Nat} (hs : s < 64) (ha : a < 6) (hb : s.testBit a = false) (h64 : s + 2 ^ a < 64) : (s + 2 ^ a).testBit j = (s.testBit j || decide (a = j)) := by
  rcases Nat.lt_or_ge j 6 with hj | hj
  · exact add_bit_fin ⟨s, hs⟩ ⟨a, ha⟩ ⟨j, hj⟩ hb
  · have h6 : ∀ t : Nat, t < 64 → t.testBit j = false := fun t ht => Nat.testBit_lt_two_pow (Nat.lt_of_lt_of_le (show t < 2 ^ 6 by omega) (Nat.pow_le_pow_right (by decide) hj))
    rw [h6 _ h64, h6 _ hs, decide_eq_false (by omega)]; rfl
theorem line_add (hv : VoP zs) (hs : ∀ k, k < zs.length → stepOk zs ls k = true) {k : Nat} (hk : k < zs.length) (j : Nat) : (dN ls (k + 1)).testBit j = ((dN ls k).testBit j || decide (itN ls k = j)) := by
  have hn6 := hv.1
  have hp64 := pow_le64 hn6
  have hok : ∀ i, i < k → stepOk zs ls i = true := fun i hi => hs i (by omega)
  have h1 := (d_is hok).2
  have h2 := (d_is (zs := zs) (ls := ls) (k := k + 1) fun i hi => hs i (by omega)).2
  have h3 := (it_is (hs k hk)).2
  have e := d_succ hv hok (hs k hk)
  rw [e] at h2 ⊢
  exact add_bit (by omega) (by omega) (d_new hok (hs k hk)) (by omega)
theorem line_ideal (hv : VoP zs) (hs : ∀ k, k < zs.length → stepOk zs ls k = true) : ∀ k : Nat, k ≤ zs.length → Ideal zs (dN ls k)
  | 0, _ => fun a b hb _ => by
    have e : dN ls 0 = 0 := rfl
    rw [e, Nat.zero_testBit] at hb; cases hb
  | k + 1, hk => fun a b hb hd => by
    rw [line_add hv hs hk] at hb ⊢
    rcases Bool.or_eq_true _ _ ▸ hb with h | h
    · rw [line_ideal hv hs k (by omega) a b h hd]; rfl
    · have hx := of_decide_eq_true h
      subst hx
      have h2 := (nextE_new (line_next hv hs (show k < zs.length from hk))).2
      rw [beq_iff_eq, less_zero] at h2
      rw [h2 a hd]; rfl
theorem back_at (hl : ls.length = zs.length) {k : Nat} (hk : k < zs.length) : ls.reverse[k]?.getD 0 = ls[zs.length - 1 - k]?.getD 0 := by
  rw [List.getElem?_reverse (by omega), hl]
theorem back_done (hv : VoP zs) (hl : ls.length = zs.length) (hs : ∀ k, k < zs.length → stepOk zs ls k = true) : ∀ k : Nat, k ≤ zs.length → doneTo ls.reverse k = ((2 ^ zs.length - 1 - dN ls (zs.length - k) : Nat) : Int)
  | 0, _ => by rw [Nat.sub_zero, line_full hv hs]; rfl
  | k + 1, hk => by
    have hn6 := hv.1
    have hp64 := pow_le64 hn6
    have ih := back_done hv hl hs k (by omega)
    have hm : zs.length - 1 - k < zs.length := by omega
    have e1 : zs.length - k = zs.length - 1 - k + 1 := by omega
    have e2 : zs.length - (k + 1) = zs.length - 1 - k := by omega
    have hok : ∀ i, i < zs.length - 1 - k → stepOk zs ls i = true := fun i hi => hs i (by omega)
    have h2 := (d_is (zs := zs) (ls := ls) (k := zs.length - 1 - k + 1) fun i hi => hs i (by omega)).2
    have e3 := d_succ hv hok (hs _ hm)
    have h3 := it_is (hs _ hm)
    have hb : (2 ^ zs.length - 1 - dN ls (zs.length - 1 - k + 1)).testBit (itN ls (zs.length - 1 - k)) = false := by
      rw [com_bit hn6 h2 (by omega), line_add hv hs hm]; simp
    unfold doneTo
    rw [ih, e1, e2, back_at hl (show k < zs.length from hk), h3.1, or_is (by omega) (by omega) hb]
    have hpx := Nat.two_pow_pos (itN ls (zs.length - 1 - k))
    congr 1
    omega
theorem back_step (hv : VoP zs) (hl : ls.length = zs.length) (hs : ∀ k, k < zs.length → stepOk zs ls k = true) {k : Nat} (hk : k < zs.length) : stepOk (du zs) ls.reverse k = true := by
  have hn6 := hv.1
  have hp64 := pow_le64 hn6
  have hm : zs.length - 1 - k < zs.length := by omega
  have e1 : zs.length - k = zs.length - 1 - k + 1 := by omega
  have hok : ∀ i, i < zs.length - 1 - k → stepOk zs ls i = true := fun i hi => hs i (by omega)
  have h2 := (d_is (zs := zs) (ls := ls) (k := zs.length - 1 - k + 1) fun i hi => hs i (by omega)).2
  have h3 := it_is (hs _ hm)
  have hnw := d_new hok (hs _ hm)
  have hI := line_ideal hv hs (zs.length - 1 - k) (by omega)
  have hb : (2 ^ zs.length - 1 - dN ls (zs.length - 1 - k + 1)).testBit (itN ls (zs.length - 1 - k)) = false := by
    rw [com_bit hn6 h2 (by omega), line_add hv hs hm]; simp
  unfold stepOk
  rw [back_at hl hk, back_done hv hl hs k (by omega), e1, h3.1, Int.toNat_natCast, bit_cast, hb, du_len, du_du hv]
  have hless : (lessI (zs[itN ls (zs.length - 1 - k)]?.getD 0) ((2 ^ zs.length - 1 - dN ls (zs.length - 1 - k + 1) : Nat) : Int) == 0) = true := by
    rw [beq_iff_eq, less_zero]
    intro j hj
    have hj2 : j < zs.length := by
      have := du_small hv (a := j) (j := itN ls (zs.length - 1 - k)) (by rw [du_bit hv.sets]; exact hj)
      exact this.2
    rw [com_bit hn6 h2 (by omega), decide_eq_true hj2, Bool.true_and, line_add hv hs hm]
    have hne : itN ls (zs.length - 1 - k) ≠ j := fun e => by
      have := hv.irrB h3.2
      rw [e] at hj this
      rw [hj] at this; cases this
    rw [decide_eq_false hne, Bool.or_false]
    cases e : (dN ls (zs.length - 1 - k)).testBit j
    · rfl
    · have := hI (itN ls (zs.length - 1 - k)) j e (by rw [du_bit hv.sets]; exact hj)
      rw [hnw] at this; cases this
  rw [hless]
  simp [inB]; omega
/-- A line backwards is one of the order turned round. -/
theorem line_back (hv : VoP zs) (hl : lineB zs ls = true) : lineB (du zs) ls.reverse = true := by
  obtain ⟨h1, hs⟩ := line_steps hl
  exact lineB_yes (m := zs.length) (by simp [h1]) (by rw [du_len]) fun k hk => back_step hv h1 hs hk
end
end Go.Proofs.Ytghogabmkbadjaa

/- What the own laws of lines ask of the mathematics, put together. No program. -/
namespace Go.Proofs.Ytghogabmkbadjaa

theorem next_some {zs : List Int} (h : VoP zs) {s : Nat} (hs : s < 2 ^ zs.length) (h0 : s ≠ 0) : nextL zs s ≠ [] := by
  intro e
  have hn6 := h.1
  have hp64 := pow_le64 hn6
  have hpi : powI (zs.length : Int) = ((2 ^ zs.length : Nat) : Int) := by simp [powI]
  have hd := du_vo h
  have ht := tops_none (zs := du zs) (s := (s : Int)) hd (by omega) (by rw [du_len, hpi]; omega)
  rw [du_len] at ht
  have hT := topsTo_bd (du zs) (s : Int) zs.length
  have hz : topsTo (du zs) (s : Int) zs.length = 0 := by
    refine bitB_ext hT.1 (Int.le_refl _) fun j => ?_
    rw [bitB_zero]
    cases hb : bitB (topsTo (du zs) (s : Int) zs.length) j
    · rfl
    · have hj := bitB_lt hT.2 hb
      have : j ∈ nextL zs s := by
        rw [nextL_is h, List.mem_filter, List.mem_range]
        refine ⟨hj, ?_⟩
        rw [topsTo_bit] at hb
        obtain ⟨_, b1, b2⟩ := hb
        rw [bit_cast] at b1
        unfold eF
        rw [b1, b2]; rfl
      rw [e] at this; cases this
  rw [hz] at ht
  have h1 : ((s : Int) == 0) = false := by simpa using h0
  rw [h1] at ht
  cases ht
theorem cF_ge1 {zs : List Int} (h : VoP zs) : ∀ (k s : Nat), s ≤ k → s < 2 ^ zs.length → 1 ≤ cF zs s
  | 0, s, hk, _ => by
    obtain rfl : s = 0 := by omega
    rw [cF_zero]; exact Nat.le_refl _
  | k + 1, s, hk, hs => by
    by_cases h0 : s = 0
    · subst h0; rw [cF_zero]; exact Nat.le_refl _
    · rw [← accF_all h h0]
      have hne := next_some h hs h0
      unfold accF
      cases hL : nextL zs s with
      | nil => exact absurd hL hne
      | cons x l =>
        have hlt := sub_lt (a := x) h0
        have ih := cF_ge1 h k (s - 2 ^ x) (by omega) (by omega)
        rw [List.map_cons, List.sum_cons]
        omega
theorem lines_facts {zs : List Int} (h : VoP zs) : ∃ F : Nat, 1 ≤ F ∧ F ≤ 46656 ∧ linesR zs = (F : Int) ∧ linesR (du zs) = (F : Int) ∧ hasAt zs ((F : Int) - 1) = true ∧ hasAt zs (F : Int) = false := by
  have hp := Nat.two_pow_pos zs.length
  have hv : vo zs = true := by simpa [vo] using h
  have hv2 : vo (du zs) = true := by simpa [vo] using du_vo h
  have hF := cF_le h (s := 2 ^ zs.length - 1) (by omega)
  have h1 := cF_ge1 h _ (2 ^ zs.length - 1) (Nat.le_refl _) (by omega)
  have h2 := count_du h
  have h3 := count_both h
  have h4 := count_both (du_vo h)
  rw [du_len] at h4
  obtain ⟨F, hFF⟩ : ∃ F, cF zs (2 ^ zs.length - 1) = F := ⟨_, rfl⟩
  rw [hFF] at hF h1 h2 h3
  refine ⟨F, h1, hF, ?_, ?_, ?_, ?_⟩
  · unfold linesR; rw [hv, if_pos rfl, h3]
  · unfold linesR; rw [hv2, if_pos rfl, du_len, h4, h2]
  · unfold hasAt; rw [hv, hFF, decide_eq_true (show (0 : Int) ≤ (F : Int) - 1 by omega), decide_eq_true (show (F : Int) - 1 < (F : Int) by omega)]; rfl
  · unfold hasAt; rw [hFF, decide_eq_false (show ¬ (F : Int) < (F : Int) by omega)]; simp
theorem atR_few (zs : List Int) (r : Int) : (atR zs r).length ≤ 6 := by
  unfold atR
  cases hh : hasAt zs r
  · simp
  · unfold hasAt at hh
    rw [Bool.and_eq_true] at hh
    have hvo : VoP zs := by simpa [vo] using hh.1
    have := hvo.1
    rw [if_pos rfl, atL_len]; omega
theorem at_facts {zs : List Int} {r : Int} (hh : hasAt zs r = true) : isLineR zs (atR zs r) = true ∧ rankR zs (atR zs r) = r := by
  have hA : atR zs r = atL zs r.toNat zs.length := by unfold atR; rw [hh]; rfl
  unfold hasAt at hh
  rw [Bool.and_eq_true, Bool.and_eq_true, decide_eq_true_eq, decide_eq_true_eq] at hh
  have hvo : VoP zs := by simpa [vo] using hh.1
  obtain ⟨h1, h2⟩ := rank_at hvo (r := r.toNat) (by omega)
  have hI : isLineR zs (atR zs r) = true := by unfold isLineR; rw [hA, hh.1, h1]; rfl
  refine ⟨hI, ?_⟩
  unfold rankR
  rw [hI, if_pos rfl, hA, atL_len, h2]
  omega
theorem rank_facts {zs ls : List Int} (h : isLineR zs ls = true) : ∃ Q F : Nat, Q < F ∧ F ≤ 46656 ∧ rankR zs ls = (Q : Int) ∧ linesR zs = (F : Int) ∧ hasAt zs (Q : Int) = true ∧ atR zs (Q : Int) = ls ∧ ls.length ≤ 6 := by
  have h' := h
  unfold isLineR at h
  rw [Bool.and_eq_true] at h
  have hvo : VoP zs := by simpa [vo] using h.1
  have hp := Nat.two_pow_pos zs.length
  have hF := cF_le hvo (s := 2 ^ zs.length - 1) (by omega)
  obtain ⟨h1, h2⟩ := at_rank hvo h.2
  have hlen := (line_steps h.2).1
  have hn6 := hvo.1
  have hH : hasAt zs (rkUp zs ls zs.length : Int) = true := by
    unfold hasAt; rw [h.1, decide_eq_true (show (0 : Int) ≤ (rkUp zs ls zs.length : Int) by omega), decide_eq_true (show (rkUp zs ls zs.length : Int) < (cF zs (2 ^ zs.length - 1) : Int) by omega)]; rfl
  refine ⟨rkUp zs ls zs.length, cF zs (2 ^ zs.length - 1), h1, hF, ?_, ?_, hH, ?_, by omega⟩
  · unfold rankR; rw [h', if_pos rfl, hlen]
  · unfold linesR; rw [h.1, if_pos rfl, count_both hvo]
  · unfold atR; rw [hH, if_pos rfl, Int.toNat_natCast]; exact h2
theorem back_fact {zs ls : List Int} (h : isLineR zs ls = true) : isLineR (du zs) ls.reverse = true := by
  unfold isLineR at h ⊢
  rw [Bool.and_eq_true] at h
  have hvo : VoP zs := by simpa [vo] using h.1
  rw [line_back hvo h.2, show vo (du zs) = true by simpa [vo] using du_vo hvo]; rfl
theorem dual_fact {zs ls : List Int} (h : isLineR zs ls = true) : dualR zs = du zs := by
  unfold isLineR at h
  rw [Bool.and_eq_true] at h
  unfold dualR
  rw [h.1]; rfl
end Go.Proofs.Ytghogabmkbadjaa

/- What LinesOf's own law asks: all lines stand by their ranks. No program. -/
namespace Go.Proofs.Ytghogabmkbadjaa

/-- One list stands ahead of another one: at the first place where they differ it has the lesser number. -/
def lexLt (x y : List Int) : Prop := ∃ (so : List Int) (a b : Int) (t u : List Int), x = so ++ a :: t ∧ y = so ++ b :: u ∧ a < b
theorem alG_lex (zs : List Int) : ∀ (k : Nat) (so : List Int) (s : Int), (alG zs k so s).Pairwise lexLt
  | 0, so, s => by rw [alG]; exact List.pairwise_singleton _ _
  | k + 1, so, s => by
    rw [alG]
    unfold List.flatMap
    refine List.pairwise_flatten.2 ⟨fun l hl => ?_, ?_⟩
    · obtain ⟨a, _, rfl⟩ := List.mem_map.1 hl
      split
      · exact alG_lex zs k _ _
      · exact List.Pairwise.nil
    · rw [List.pairwise_map]
      refine List.Pairwise.imp_of_mem (R := (· < ·)) ?_ (List.pairwise_lt_range)
      intro a b _ _ hab x hx y hy
      split at hx
      · split at hy
        · obtain ⟨t, _, e1, _⟩ := (alG_mem zs k _ _ _).1 hx
          obtain ⟨t', _, e2, _⟩ := (alG_mem zs k _ _ _).1 hy
          exact ⟨so, (a : Int), (b : Int), t, t', by rw [e1]; simp, by rw [e2]; simp, by omega⟩
        · cases hy
      · cases hx
theorem doneTo_head (so t u : List Int) : ∀ m : Nat, m ≤ so.length → doneTo (so ++ t) m = doneTo (so ++ u) m
  | 0, _ => rfl
  | m + 1, h => by
    unfold doneTo
    rw [doneTo_head so t u m (by omega), List.getElem?_append_left (by omega), List.getElem?_append_left (by omega)]
theorem rkUp_head (zs so t u : List Int) : ∀ m : Nat, m ≤ so.length → rkUp zs (so ++ t) m = rkUp zs (so ++ u) m
  | 0, _ => rfl
  | m + 1, h => by
    have hd := doneTo_head so t u m (by omega)
    have hi : (so ++ t)[m]?.getD 0 = (so ++ u)[m]?.getD 0 := by rw [List.getElem?_append_left (by omega), List.getElem?_append_left (by omega)]
    rw [rkUp_succ, rkUp_succ, rkUp_head zs so t u m (by omega)]
    unfold dN itN
    rw [hd, hi]
theorem rank_lex {zs x y : List Int} (hv : VoP zs) (hx : lineB zs x = true) (hy : lineB zs y = true) (h : lexLt x y) : rkUp zs x zs.length < rkUp zs y zs.length := by
  obtain ⟨so, a, b, t, u, rfl, rfl, hab⟩ := h
  obtain ⟨hlx, hsx⟩ := line_steps hx
  obtain ⟨hly, hsy⟩ := line_steps hy
  have hm : so.length < zs.length := by rw [List.length_append, List.length_cons] at hlx; omega
  have hax : (so ++ a :: t)[so.length]?.getD 0 = a := by simp
  have hby : (so ++ b :: u)[so.length]?.getD 0 = b := by simp
  have hix := it_is (hsx so.length hm)
  have hiy := it_is (hsy so.length hm)
  have hd : dN (so ++ a :: t) so.length = dN (so ++ b :: u) so.length := by unfold dN; rw [doneTo_head so (a :: t) (b :: u) so.length (Nat.le_refl _)]
  have h1 := line_lt hv hsx (zs.length - (so.length + 1)) (so.length + 1) (by omega)
  have h2 := rkIn_line hv hsx hm
  have h3 := rkUp_succ (zs := zs) (ls := so ++ a :: t) so.length
  have h4 := rkUp_succ (zs := zs) (ls := so ++ b :: u) so.length
  have h5 := rkUp_head zs so (a :: t) (b :: u) so.length (Nat.le_refl _)
  have hlt : itN (so ++ a :: t) so.length + 1 ≤ itN (so ++ b :: u) so.length := by
    have e1 := hix.1
    have e2 := hiy.1
    rw [hax] at e1
    rw [hby] at e2
    omega
  have h6 := rkIn_mono' (zs := zs) (D := dN (so ++ b :: u) so.length) hlt
  have h7 := rkUp_mono' (zs := zs) (ls := so ++ b :: u) (show so.length + 1 ≤ zs.length from hm)
  rw [hd] at h2 h3
  rw [← h5] at h4
  generalize rkIn zs (dN (so ++ b :: u) so.length) (itN (so ++ a :: t) so.length) = p at *
  generalize rkIn zs (dN (so ++ b :: u) so.length) (itN (so ++ b :: u) so.length) = q at *
  omega
/-- The ranks of all lines, in their order. -/
theorem ranks_all {zs : List Int} (hv : VoP zs) : (alL zs).map (fun l => rkUp zs l zs.length) = List.range (cF zs (2 ^ zs.length - 1)) := by
  refine inc_ext _ _ ?_ (range_inc _) fun r => ?_
  · rw [List.pairwise_map]
    refine List.Pairwise.imp_of_mem (R := lexLt) ?_ (alG_lex zs zs.length [] 0)
    intro x y hx hy hl
    exact rank_lex hv ((alL_mem zs x).1 hx) ((alL_mem zs y).1 hy) hl
  · rw [List.mem_map, List.mem_range]
    constructor
    · rintro ⟨l, hl, rfl⟩
      exact (at_rank hv ((alL_mem zs l).1 hl)).1
    · intro hr
      obtain ⟨h1, h2⟩ := rank_at hv hr
      exact ⟨_, (alL_mem zs _).2 h1, h2⟩
/-- Whether one row is less, as the law sees it. -/
def lessRB : List Int → List Int → Bool
  | x :: xs, y :: ys => if x = y then lessRB xs ys else decide (x < y)
  | _, _ => false
theorem lessRB_lex {x y : List Int} (h : lexLt x y) : lessRB x y = true := by
  obtain ⟨so, a, b, t, u, rfl, rfl, hab⟩ := h
  induction so with
  | nil =>
    show (if a = b then lessRB t u else decide (a < b)) = true
    rw [if_neg (by omega)]
    simpa using hab
  | cons c so ih =>
    show (if c = c then lessRB (so ++ a :: t) (so ++ b :: u) else decide (c < c)) = true
    rw [if_pos rfl]
    exact ih
/-- All that the law asks. -/
theorem lines_law {zs : List Int} (hv : VoP zs) : ((alL zs).length : Int) = linesR zs ∧ ∀ (i : Nat) (l : List Int), (alL zs)[i]? = some l → isLineR zs l = true ∧ rankR zs l = (i : Int) ∧ ∀ (j : Nat) (l' : List Int), i = j + 1 → (alL zs)[j]? = some l' → lessRB l' l = true := by
  have hr := ranks_all hv
  have hvb : vo zs = true := by unfold vo; exact decide_eq_true hv
  constructor
  · have h1 := congrArg List.length hr
    rw [List.length_map, List.length_range] at h1
    unfold linesR
    rw [hvb, if_pos rfl, count_both hv, h1]
  · intro i l hl
    have hm := (alL_mem zs l).1 (List.mem_of_getElem? hl)
    have hil := (List.getElem?_eq_some_iff.1 hl).1
    refine ⟨by unfold isLineR; rw [hvb, hm]; rfl, ?_, ?_⟩
    · have h1 := congrArg (fun z => z[i]?) hr
      simp only [List.getElem?_map, hl, Option.map_some] at h1
      have h2 := List.getElem?_eq_some_iff.1 h1.symm
      obtain ⟨h3, h4⟩ := h2
      rw [List.getElem_range] at h4
      unfold rankR isLineR
      rw [hvb, hm, (line_steps hm).1, ← h4]
      rfl
    · rintro j l' rfl hl'
      obtain ⟨hj, ej⟩ := List.getElem?_eq_some_iff.1 hl'
      obtain ⟨hi, ei⟩ := List.getElem?_eq_some_iff.1 hl
      have := List.pairwise_iff_getElem.1 (alG_lex zs zs.length [] 0) j (j + 1) hj hi (by omega)
      refine lessRB_lex ?_
      rw [← ej, ← ei]
      exact this
end Go.Proofs.Ytghogabmkbadjaa

/- What lines have in common, as plain mathematics. No program. -/
namespace Go.Proofs.Ytghogabmkbadjaa

/-- The set of the items below k of which p holds. -/
def setP (p : Nat → Bool) : Nat → Int
  | 0 => 0
  | k + 1 => if p k then orI (setP p k) (powI (k : Int)) else setP p k
theorem setP_bd (p : Nat → Bool) : ∀ k : Nat, 0 ≤ setP p k ∧ setP p k < powI k
  | 0 => ⟨Int.le_refl _, powI_pos _⟩
  | k + 1 => by
    have h := setP_bd p k
    have h2 : powI ((k + 1 : Nat) : Int) = 2 * powI k := by rw [show ((k + 1 : Nat) : Int) = (k : Int) + 1 by omega]; exact powI_succ (by omega)
    have h3 := powI_pos (k : Int)
    unfold setP
    split
    · have h4 : powI ((k : Int) + 1) = 2 * powI k := powI_succ (by omega)
      have h5 := orI_bd (a := setP p k) (b := powI (k : Int)) (n := (k : Int) + 1) h.1 (by omega) (by omega) (by omega)
      rw [h4] at h5; rw [h2]; exact h5
    · omega
theorem setP_bit (p : Nat → Bool) (j : Nat) : ∀ k : Nat, bitB (setP p k) j = (decide (j < k) && p j)
  | 0 => by simp [setP, bitB_zero]
  | k + 1 => by
    have ih := setP_bit p j k
    unfold setP
    by_cases hj : j = k
    · subst hj
      cases hp : p j
      · simp [hp, ih]
      · simp [hp, bitB_or, bitB_pow]
    · have e : decide (j < k + 1) = decide (j < k) := by rw [decide_eq_decide]; omega
      rw [e]
      cases hp : p k
      · simpa using ih
      · rw [if_pos rfl, bitB_or, bitB_pow, ih, decide_eq_false (show ¬ k = j from fun e => hj e.symm)]; simp
theorem setP_congr {p q : Nat → Bool} : ∀ k : Nat, (∀ j, j < k → p j = q j) → setP p k = setP q k
  | 0, _ => rfl
  | k + 1, h => by unfold setP; rw [setP_congr k fun j hj => h j (by omega), h k (by omega)]

/-- Whether b is behind a in all lists. -/
def behB (rs : List (List Int)) (a b : Nat) : Bool := !(a == b) && rs.all fun r => decide (atI r a < atI r b)
def meL (n : Nat) (rs : List (List Int)) : List Int := (List.range n).map fun a => setP (behB rs a) n
theorem meL_len (n : Nat) (rs : List (List Int)) : (meL n rs).length = n := by simp [meL]
theorem meL_get {n : Nat} (rs : List (List Int)) {a : Nat} (ha : a < n) : (meL n rs)[a]?.getD 0 = setP (behB rs a) n := by
  simp [meL, List.getElem?_map, List.getElem?_range, ha]
theorem meL_bd (n : Nat) (rs : List (List Int)) (a : Nat) : 0 ≤ (meL n rs)[a]?.getD 0 ∧ (meL n rs)[a]?.getD 0 < powI n := by
  rcases Nat.lt_or_ge a n with h | h
  · rw [meL_get rs h]; exact setP_bd _ _
  · rw [List.getElem?_eq_none (by rw [meL_len]; exact h)]; exact ⟨Int.le_refl _, powI_pos _⟩

/-- All items, none of which is above another one. -/
def zr (n : Nat) : List Int := List.replicate n 0
theorem zr_len (n : Nat) : (zr n).length = n := by simp [zr]
theorem zr_fin : ∀ n : Fin 7, VoP (zr n.val) ∧ du (zr n.val) = zr n.val := by decide +kernel
theorem zr_vo {n : Nat} (h : n ≤ 6) : VoP (zr n) := (zr_fin ⟨n, by omega⟩).1
theorem zr_du {n : Nat} (h : n ≤ 6) : du (zr n) = zr n := (zr_fin ⟨n, by omega⟩).2

section
variable {n : Nat} {r : List Int}
theorem zr_steps (h : lineB (zr n) r = true) : r.length = n ∧ ∀ k, k < n → stepOk (zr n) r k = true := by
  have := line_steps h
  rwa [zr_len] at this
theorem done_of {k : Nat} (hs : ∀ i, i < k → stepOk (zr n) r i = true) (j : Nat) : bitB (doneTo r k) j = true ↔ ∃ i, i < k ∧ itN r i = j := by
  induction k with
  | zero => unfold doneTo; rw [bitB_zero]; simp
  | succ k ih =>
    have h1 := (it_is (hs k (by omega))).1
    unfold doneTo
    rw [h1, bitB_or, bitB_pow, Bool.or_eq_true, ih fun i hi => hs i (by omega), decide_eq_true_eq]
    constructor
    · rintro (⟨i, hi, e⟩ | e)
      · exact ⟨i, by omega, e⟩
      · exact ⟨k, by omega, e⟩
    · rintro ⟨i, hi, e⟩
      rcases Nat.lt_or_ge i k with h | h
      · exact .inl ⟨i, h, e⟩
      · obtain rfl : i = k := by omega
        exact .inr e
theorem it_new (h : lineB (zr n) r = true) {k i : Nat} (hk : k < n) (hi : i < k) : itN r i ≠ itN r k := fun e => by
  have hs := (zr_steps h).2
  have h1 := (done_of (n := n) (k := k) (fun i hi => hs i (by omega)) (itN r k)).2 ⟨i, hi, e⟩
  have h2 := stepOk_new (hs k hk)
  rw [(it_is (hs k hk)).1] at h2
  rw [h2] at h1; cases h1
theorem it_lt (h : lineB (zr n) r = true) {k : Nat} (hk : k < n) : r[k]?.getD 0 = (itN r k : Int) ∧ itN r k < n := by
  have := it_is ((zr_steps h).2 k hk)
  rwa [zr_len] at this
theorem at_it (h : lineB (zr n) r = true) {k : Nat} (hk : k < n) : atI r (itN r k : Int) = (k : Int) := by
  refine atI_hit (fun j hj e => ?_) (by rw [(zr_steps h).1]; exact hk) (it_lt h hk).1
  rw [(it_lt h (show j < n by omega)).1] at e
  exact it_new h hk hj (by omega)
theorem it_all (hn : n ≤ 6) (h : lineB (zr n) r = true) {a : Nat} (ha : a < n) : ∃ k, k < n ∧ itN r k = a := by
  have hs := (zr_steps h).2
  have hf := line_full (zs := zr n) (ls := r) (zr_vo hn) (by rw [zr_len]; exact hs)
  rw [zr_len] at hf
  have hb := (d_is (zs := zr n) (ls := r) (k := n) hs)
  rw [zr_len] at hb
  refine (done_of (n := n) hs a).1 ?_
  rw [hb.1]
  have e : dN r n = 2 ^ n - 1 := by omega
  rw [e]
  have hp : powI (n : Int) - 1 = ((2 ^ n - 1 : Nat) : Int) := by
    have := Nat.two_pow_pos n
    unfold powI
    rw [Int.toNat_natCast]
    rw [Int.natCast_sub (by omega)]
    norm_cast
  rw [← hp, all_bits]
  simpa using ha
theorem at_of (hn : n ≤ 6) (h : lineB (zr n) r = true) {a : Nat} (ha : a < n) : ∃ k, k < n ∧ itN r k = a ∧ atI r (a : Int) = (k : Int) := by
  obtain ⟨k, hk, e⟩ := it_all hn h ha
  exact ⟨k, hk, e, by rw [← e]; exact at_it h hk⟩
theorem left_at (hn : n ≤ 6) (h : lineB (zr n) r = true) {k : Nat} (hk : k < n) (j : Nat) (hj : j < n) : bitB (leftTo n r (k + 1)) j = decide ((k : Int) < atI r (j : Int)) := by
  have hs := (zr_steps h).2
  have h1 := leftTo_bit (zs := zr n) (ls := r) j (k + 1) (fun i hi => hs i (by omega))
  rw [zr_len] at h1
  obtain ⟨q, hq, e, ea⟩ := at_of hn h hj
  rw [h1, ea, decide_eq_true hj, Bool.true_and]
  have h2 := done_of (n := n) (k := k + 1) (r := r) (fun i hi => hs i (by omega)) j
  rw [Bool.eq_iff_iff, Bool.not_eq_true', decide_eq_true_eq, ← Bool.not_eq_true, h2]
  constructor
  · intro hno
    rcases Nat.lt_or_ge k q with h3 | h3
    · omega
    · exact absurd ⟨q, by omega, e⟩ hno
  · rintro hlt ⟨i, hi, ei⟩
    have := at_it h (show i < n by omega)
    rw [ei, ea] at this
    omega

/-- The order of a line, as far as it is read. -/
def lnL (n : Nat) (r : List Int) (k : Nat) : List Int := (List.range n).map fun a : Nat => if atI r (a : Int) < (k : Int) then setP (fun b => behB [r] a b) n else 0
theorem lnL_len (n : Nat) (r : List Int) (k : Nat) : (lnL n r k).length = n := by simp [lnL]
theorem lnL_zero (hn : n ≤ 6) (h : lineB (zr n) r = true) : lnL n r 0 = zr n := by
  refine List.ext_getElem? fun a => ?_
  by_cases ha : a < n
  · obtain ⟨q, hq, e, ea⟩ := at_of hn h ha
    simp only [lnL, zr, List.getElem?_map, List.getElem?_range ha, List.getElem?_replicate, ha, if_true, Option.map_some, ea]
    rw [if_neg (by omega)]
  · rw [List.getElem?_eq_none (by rw [lnL_len]; omega), List.getElem?_eq_none (by rw [zr_len]; omega)]
theorem lnL_all (hn : n ≤ 6) (h : lineB (zr n) r = true) : lnL n r n = meL n [r] := by
  unfold lnL meL
  refine List.map_congr_left fun a ha => ?_
  obtain ⟨q, hq, e, ea⟩ := at_of hn h (List.mem_range.1 ha)
  rw [ea, if_pos (by omega)]
theorem lnL_step (hn : n ≤ 6) (h : lineB (zr n) r = true) {k : Nat} (hk : k < n) : lnL n r (k + 1) = (lnL n r k).set (itN r k) (leftTo n r (k + 1)) := by
  have hx := (it_lt h hk).2
  have hax := at_it h hk
  refine List.ext_getElem? fun a => ?_
  by_cases ha : a < n
  · obtain ⟨q, hq, e, ea⟩ := at_of hn h ha
    rw [List.getElem?_set]
    by_cases hxa : itN r k = a
    · rw [if_pos hxa, if_pos (by rw [lnL_len]; omega)]
      simp only [lnL, List.getElem?_map, List.getElem?_range ha, Option.map_some]
      rw [hxa] at hax
      rw [hax, if_pos (by omega)]
      congr 1
      refine bitB_ext (setP_bd _ _).1 (leftTo_bd _).1 fun j => ?_
      rw [setP_bit]
      by_cases hj : j < n
      · rw [left_at hn h hk j hj, decide_eq_true hj, Bool.true_and]
        unfold behB
        simp only [List.all_cons, List.all_nil, Bool.and_true, hax]
        cases hc : decide ((k : Int) < atI r (j : Int))
        · simp
        · have hc' := of_decide_eq_true hc
          have : a ≠ j := fun e => by subst e; omega
          simp [this]
      · have hb := leftTo_bd (n := n) (ls := r) (k + 1)
        have : bitB (leftTo n r (k + 1)) j = false := by
          cases e2 : bitB (leftTo n r (k + 1)) j
          · rfl
          · exact absurd (bitB_lt hb.2 e2) hj
        rw [this, decide_eq_false hj]; rfl
    · rw [if_neg hxa]
      simp only [lnL, List.getElem?_map, List.getElem?_range ha, Option.map_some, ea]
      have hqk : q ≠ k := fun e2 => hxa (by rw [← e2]; exact e)
      by_cases h3 : (q : Int) < (k : Int)
      · rw [if_pos h3, if_pos (by omega)]
      · rw [if_neg h3, if_neg (by omega)]
  · rw [List.getElem?_eq_none (by rw [lnL_len]; omega), List.getElem?_eq_none (by rw [List.length_set, lnL_len]; omega)]
end

/-- Two lists of sets, the first k of them put together. -/
def opL (f : Int → Int → Int) (xs ys : List Int) (k : Nat) : List Int := (List.range xs.length).map fun a => if a < k then f (xs[a]?.getD 0) (ys[a]?.getD 0) else xs[a]?.getD 0
theorem opL_len (f : Int → Int → Int) (xs ys : List Int) (k : Nat) : (opL f xs ys k).length = xs.length := by simp [opL]
theorem opL_zero (f : Int → Int → Int) (xs ys : List Int) : opL f xs ys 0 = xs := by
  refine List.ext_getElem? fun a => ?_
  by_cases ha : a < xs.length
  · simp [opL, List.getElem?_range, ha]
  · rw [List.getElem?_eq_none (by rw [opL_len]; omega), List.getElem?_eq_none (by omega)]
theorem opL_get (f : Int → Int → Int) (xs ys : List Int) (k : Nat) {a : Nat} (ha : a < xs.length) : (opL f xs ys k)[a]?.getD 0 = if a < k then f (xs[a]?.getD 0) (ys[a]?.getD 0) else xs[a]?.getD 0 := by
  simp [opL, List.getElem?_range, ha]
theorem opL_step (f : Int → Int → Int) (xs ys : List Int) {k : Nat} (hk : k < xs.length) : (opL f xs ys k).set k (f ((opL f xs ys k)[k]?.getD 0) (ys[k]?.getD 0)) = opL f xs ys (k + 1) := by
  refine List.ext_getElem? fun a => ?_
  by_cases ha : a < xs.length
  · rw [opL_get f xs ys k hk, if_neg (by omega), List.getElem?_set]
    by_cases hka : k = a
    · subst hka
      rw [if_pos rfl, if_pos (by rw [opL_len]; omega)]
      simp [opL, List.getElem?_range, hk]
    · rw [if_neg hka]
      simp only [opL, List.getElem?_map, List.getElem?_range ha, Option.map_some]
      by_cases h3 : a < k
      · rw [if_pos h3, if_pos (by omega)]
      · rw [if_neg h3, if_neg (by omega)]
  · rw [List.getElem?_eq_none (by rw [List.length_set, opL_len]; omega), List.getElem?_eq_none (by rw [opL_len]; omega)]
theorem behB_snoc (rs : List (List Int)) (r : List Int) (a b : Nat) : behB (rs ++ [r]) a b = (behB rs a b && behB [r] a b) := by
  unfold behB
  rw [List.all_append]
  cases (a == b) <;> simp
theorem meL_snoc (n : Nat) (rs : List (List Int)) (r : List Int) : opL andI (meL n rs) (meL n [r]) n = meL n (rs ++ [r]) := by
  refine List.ext_getElem? fun a => ?_
  by_cases ha : a < n
  · have e1 := meL_get rs ha
    have e2 := meL_get [r] ha
    simp only [opL, List.getElem?_map, List.getElem?_range (show a < (meL n rs).length by rw [meL_len]; exact ha), Option.map_some, e1, e2, if_pos ha]
    simp only [meL, List.getElem?_map, List.getElem?_range ha, Option.map_some]
    congr 1
    refine bitB_ext (andI_bd _ _).1 (setP_bd _ _).1 fun j => ?_
    rw [bitB_and, setP_bit, setP_bit, setP_bit, behB_snoc]
    cases decide (j < n) <;> simp
  · rw [List.getElem?_eq_none (by rw [opL_len, meL_len]; omega), List.getElem?_eq_none (by rw [meL_len]; omega)]

/-- Lists that are lines of all items. -/
def lnOk (n : Int) (rs : List (List Int)) : Bool := inB n 0 6 && (rs.all (lineB (zr n.toNat)) && decide (0 < rs.length))
def lnR (n : Int) (rs : List (List Int)) : List Int := if lnOk n rs then meL n.toNat rs else []
theorem lnOk_no {n : Int} {rs : List (List Int)} {k : Nat} (hk : k < rs.length) (h : lineB (zr n.toNat) (rs[k]?.getD []) = false) : lnOk n rs = false := by
  unfold lnOk
  rw [List.getElem?_eq_getElem hk, Option.getD_some] at h
  have : rs.all (lineB (zr n.toNat)) = false := by
    rw [Bool.eq_false_iff]
    intro ha
    rw [List.all_eq_true.1 ha _ (List.getElem_mem hk)] at h
    cases h
  rw [this]; simp
end Go.Proofs.Ytghogabmkbadjaa

/- An order under new numbers: its value. No program. -/
namespace Go.Proofs.Ytghogabmkbadjaa

/-- What has been numbered anew when a list of pairs is over. -/
def rnP (ts : List Int) (n : Nat) (ps : List (Nat × Nat)) : List Int := ps.foldl (fun (d : List Int) (p : Nat × Nat) => d.set (itN ts p.1) (orI (d[itN ts p.1]?.getD 0) (powI (itN ts p.2)))) (List.replicate n 0)
theorem rnP_snoc (ts : List Int) (n : Nat) (ps : List (Nat × Nat)) (a b : Nat) : rnP ts n (ps ++ [(a, b)]) = (rnP ts n ps).set (itN ts a) (orI ((rnP ts n ps)[itN ts a]?.getD 0) (powI (itN ts b))) := by simp [rnP]
theorem rnP_len (ts : List Int) (n : Nat) : ∀ ps : List (Nat × Nat), (rnP ts n ps).length = n := fun ps => by
  unfold rnP
  generalize hd : List.replicate n (0 : Int) = d
  have hl : d.length = n := by rw [← hd]; simp
  clear hd
  induction ps generalizing d with
  | nil => exact hl
  | cons p ps ih => exact ih _ (by simpa using hl)
theorem rnP_bd {ts : List Int} {n m : Nat} {ps : List (Nat × Nat)} (h : ∀ p ∈ ps, itN ts p.2 < m) (j : Nat) : 0 ≤ (rnP ts n ps)[j]?.getD 0 ∧ (rnP ts n ps)[j]?.getD 0 < powI m := by
  have hp := powI_pos (m : Int)
  unfold rnP
  generalize hd : List.replicate n (0 : Int) = d
  have hl : ∀ j : Nat, 0 ≤ d[j]?.getD 0 ∧ d[j]?.getD 0 < powI m := fun j => by
    rw [← hd]
    by_cases hj : j < n
    · simp [hj]; exact hp
    · simp [hj]; exact hp
  clear hd
  induction ps generalizing d with
  | nil => exact hl j
  | cons p ps ih =>
    refine ih (fun q hq => h q (by simp [hq])) _ (fun i => ?_)
    have h1 := h p (by simp)
    by_cases hi : itN ts p.1 = i
    · subst hi
      by_cases hlt : itN ts p.1 < d.length
      · rw [List.getElem?_set_self hlt]
        exact orI_bd (hl _).1 (hl _).2 (Int.le_of_lt (powI_pos _)) (powI_lt h1)
      · dsimp only
        rw [List.set_eq_of_length_le (by omega)]
        exact hl _
    · rw [List.getElem?_set_ne hi]
      exact hl i
theorem rnP_bit {ts : List Int} {n : Nat} {ps : List (Nat × Nat)} (hps : ∀ p ∈ ps, itN ts p.1 < n) (a b : Nat) : bitB ((rnP ts n ps)[a]?.getD 0) b = true ↔ ∃ p ∈ ps, itN ts p.1 = a ∧ itN ts p.2 = b := by
  have key : ∀ (ps : List (Nat × Nat)) (d : List Int), d.length = n → (∀ p ∈ ps, itN ts p.1 < n) →
      (bitB ((ps.foldl (fun (d : List Int) (p : Nat × Nat) => d.set (itN ts p.1) (orI (d[itN ts p.1]?.getD 0) (powI (itN ts p.2)))) d)[a]?.getD 0) b = true ↔ bitB (d[a]?.getD 0) b = true ∨ ∃ p ∈ ps, itN ts p.1 = a ∧ itN ts p.2 = b) := fun ps => by
    induction ps with
    | nil => intro d _ _; simp
    | cons p ps ih =>
      intro d hd hp
      rw [List.foldl_cons, ih _ (by simpa using hd) (fun q hq => hp q (by simp [hq]))]
      have hp2 := hp p (by simp)
      by_cases hy : itN ts p.1 = a
      · rw [hy] at hp2 ⊢
        rw [List.getElem?_set_self (by omega), Option.getD_some, bitB_or, bitB_pow]
        by_cases hx : itN ts p.2 = b
        · simp [hx, hy]
        · simp [hx, hy]
      · rw [List.getElem?_set_ne hy]
        simp [hy]
  unfold rnP
  rw [key ps _ (by simp) hps]
  by_cases hb : a < n
  · simp [hb, bitB_zero]
  · simp [hb, bitB_zero]

/-- The order under new numbers. -/
def rnL (zs ts : List Int) : List Int := rnP ts zs.length (pairsL zs)
def rnOk (zs ts : List Int) : Bool := vo zs && lineB (zr zs.length) ts
def rnR (zs ts : List Int) : List Int := if rnOk zs ts then rnL zs ts else []
theorem rnL_len (zs ts : List Int) : (rnL zs ts).length = zs.length := rnP_len _ _ _
section
variable {zs ts : List Int}
theorem rn_pair (hz : Sets zs) (ht : lineB (zr zs.length) ts = true) : ∀ p ∈ pairsL zs, itN ts p.1 < zs.length ∧ itN ts p.2 < zs.length := fun p hp => by
  obtain ⟨h1, h2, _⟩ := hz.pair (a := p.1) (b := p.2) hp
  exact ⟨(it_lt ht h1).2, (it_lt ht h2).2⟩
/-- A bit of the order under new numbers. -/
theorem rnL_bit (hz : Sets zs) (ht : lineB (zr zs.length) ts = true) {a b : Nat} (ha : a < zs.length) (hb : b < zs.length) : bitB ((rnL zs ts)[itN ts a]?.getD 0) (itN ts b) = bitB (zs[a]?.getD 0) b := by
  have hps := rn_pair hz ht
  have hinj : ∀ i j, i < zs.length → j < zs.length → itN ts i = itN ts j → i = j := fun i j hi hj e => by
    rcases Nat.lt_trichotomy i j with h | h | h
    · exact absurd e (it_new ht hj h)
    · exact h
    · exact absurd e.symm (it_new ht hi h)
  have key : bitB ((rnL zs ts)[itN ts a]?.getD 0) (itN ts b) = true ↔ bitB (zs[a]?.getD 0) b = true := by
    unfold rnL
    rw [rnP_bit (fun p hp => (hps p hp).1)]
    constructor
    · rintro ⟨⟨x, y⟩, hp, e1, e2⟩
      obtain ⟨h1, h2, h3⟩ := hz.pair (a := x) (b := y) hp
      rw [hinj _ _ h1 ha e1, hinj _ _ h2 hb e2] at h3
      exact h3
    · intro e
      exact ⟨(a, b), mem_pairsL.2 ⟨ha, by have := hz.1; omega, e⟩, rfl, rfl⟩
  cases h1 : bitB ((rnL zs ts)[itN ts a]?.getD 0) (itN ts b) <;> cases h2 : bitB (zs[a]?.getD 0) b <;> simp_all
theorem rnL_bd (hz : Sets zs) (ht : lineB (zr zs.length) ts = true) (j : Nat) : 0 ≤ (rnL zs ts)[j]?.getD 0 ∧ (rnL zs ts)[j]?.getD 0 < powI zs.length := rnP_bd (fun p hp => (rn_pair hz ht p hp).2) j
theorem rnL_sets (hz : Sets zs) (ht : lineB (zr zs.length) ts = true) : Sets (rnL zs ts) := ⟨by rw [rnL_len]; exact hz.1, fun a _ => by rw [rnL_len]; exact rnL_bd hz ht a⟩
end
end Go.Proofs.Ytghogabmkbadjaa

/- Numberings one behind the other and turned back; the orders under all numberings: how many each is told by, the least one. No program. -/
namespace Go.Proofs.Ytghogabmkbadjaa

theorem zr_at (n j : Nat) : (zr n)[j]?.getD 0 = 0 := by
  by_cases h : j < n <;> simp [zr, h]
theorem lessI_nil (x : Int) : lessI 0 x = 0 := by unfold lessI; simp
/-- A list of n different items is a numbering. -/
theorem nb_intro {n : Nat} {r : List Int} (hn : n ≤ 6) (hl : r.length = n) (h : ∀ k, k < n → r[k]?.getD 0 = (itN r k : Int) ∧ itN r k < n) (hd : ∀ i k, i < k → k < n → itN r i ≠ itN r k) : lineB (zr n) r = true := by
  refine lineB_yes hl (zr_len n).symm fun k hk => ?_
  induction k using Nat.strongRecOn with
  | ind k ih =>
    have h1 := h k hk
    have hb : bitB (doneTo r k) (itN r k : Int) = false := by
      cases e : bitB (doneTo r k) (itN r k : Int) with
      | false => rfl
      | true =>
        obtain ⟨i, hi, e2⟩ := (done_of (n := n) (fun i hi => ih i hi (by omega)) (itN r k)).1 e
        exact absurd e2 (hd i k hi hk)
    unfold stepOk
    rw [zr_len, zr_du hn, zr_at, lessI_nil, h1.1, hb]
    have : inB (itN r k : Int) 0 ((n : Int) - 1) = true := by unfold inB; simp; omega
    rw [this]; rfl
section
variable {n : Nat} {p q r : List Int}
theorem nb_inj (h : lineB (zr n) r = true) {i j : Nat} (hi : i < n) (hj : j < n) (e : itN r i = itN r j) : i = j := by
  rcases Nat.lt_trichotomy i j with h1 | h1 | h1
  · exact absurd e (it_new h hj h1)
  · exact h1
  · exact absurd e.symm (it_new h hi h1)
theorem nb_ext (hp : lineB (zr n) p = true) (hq : lineB (zr n) q = true) (h : ∀ i, i < n → itN p i = itN q i) : p = q := by
  have l1 := (zr_steps hp).1
  have l2 := (zr_steps hq).1
  refine List.ext_getElem (by omega) fun j h1 h2 => ?_
  have e1 := (it_lt hp (show j < n by omega)).1
  have e2 := (it_lt hq (show j < n by omega)).1
  rw [List.getElem?_eq_getElem h1, Option.getD_some] at e1
  rw [List.getElem?_eq_getElem h2, Option.getD_some] at e2
  rw [e1, e2, h j (by omega)]

/-- A list that is told item by item. -/
def lsN (n : Nat) (f : Nat → Nat) : List Int := (List.range n).map fun i => (f i : Int)
theorem lsN_len (n : Nat) (f : Nat → Nat) : (lsN n f).length = n := by simp [lsN]
theorem lsN_get {f : Nat → Nat} {i : Nat} (h : i < n) : (lsN n f)[i]?.getD 0 = (f i : Int) := by simp [lsN, h]
theorem lsN_it {f : Nat → Nat} {i : Nat} (h : i < n) : itN (lsN n f) i = f i := by unfold itN; rw [lsN_get h]; simp
theorem lsN_nb (hn : n ≤ 6) {f : Nat → Nat} (h1 : ∀ i, i < n → f i < n) (h2 : ∀ i j, i < n → j < n → f i = f j → i = j) : lineB (zr n) (lsN n f) = true := by
  refine nb_intro hn (lsN_len n f) (fun k hk => ⟨by rw [lsN_get hk, lsN_it hk], by rw [lsN_it hk]; exact h1 k hk⟩) (fun i k hik hk e => ?_)
  rw [lsN_it (by omega), lsN_it hk] at e
  have := h2 i k (by omega) hk e
  omega

/-- One numbering behind the other; a numbering turned back; the one that leaves all as it is. -/
def cmP (n : Nat) (p q : List Int) : List Int := lsN n fun i => itN q (itN p i)
def bkL (n : Nat) (p : List Int) : List Int := lsN n fun a => (atI p (a : Int)).toNat
def idN (n : Nat) : List Int := lsN n fun i => i
theorem cm_it {i : Nat} (h : i < n) : itN (cmP n p q) i = itN q (itN p i) := lsN_it h
theorem id_it {i : Nat} (h : i < n) : itN (idN n) i = i := lsN_it h
theorem id_nb (hn : n ≤ 6) : lineB (zr n) (idN n) = true := lsN_nb hn (fun _ h => h) (fun _ _ _ _ h => h)
theorem cm_nb (hn : n ≤ 6) (hp : lineB (zr n) p = true) (hq : lineB (zr n) q = true) : lineB (zr n) (cmP n p q) = true :=
  lsN_nb hn (fun _ h => (it_lt hq (it_lt hp h).2).2) (fun _ _ hi hj e => nb_inj hp hi hj (nb_inj hq (it_lt hp hi).2 (it_lt hp hj).2 e))
theorem bk_it (hp : lineB (zr n) p = true) {k : Nat} (hk : k < n) : itN (bkL n p) (itN p k) = k := by
  unfold bkL
  rw [lsN_it (it_lt hp hk).2, at_it hp hk]
  simp
theorem bk_ti (hn : n ≤ 6) (hp : lineB (zr n) p = true) {a : Nat} (ha : a < n) : itN (bkL n p) a < n ∧ itN p (itN (bkL n p) a) = a := by
  obtain ⟨k, hk, rfl⟩ := it_all hn hp ha
  rw [bk_it hp hk]
  exact ⟨hk, rfl⟩
theorem bk_nb (hn : n ≤ 6) (hp : lineB (zr n) p = true) : lineB (zr n) (bkL n p) = true := by
  have h := fun a (ha : a < n) => bk_ti hn hp ha
  refine lsN_nb hn (fun i hi => ?_) (fun i j hi hj e => ?_)
  · have := (h i hi).1
    unfold bkL at this
    rwa [lsN_it hi] at this
  · have e1 := (h i hi).2
    have e2 := (h j hj).2
    unfold bkL at e1 e2
    rw [lsN_it hi] at e1
    rw [lsN_it hj] at e2
    rw [← e1, ← e2, e]
theorem cm_bk (hp : lineB (zr n) p = true) (hn : n ≤ 6) : cmP n p (bkL n p) = idN n :=
  nb_ext (cm_nb hn hp (bk_nb hn hp)) (id_nb hn) fun i hi => by rw [cm_it hi, bk_it hp hi, id_it hi]
theorem bk_cm (hp : lineB (zr n) p = true) (hn : n ≤ 6) : cmP n (bkL n p) p = idN n :=
  nb_ext (cm_nb hn (bk_nb hn hp) hp) (id_nb hn) fun i hi => by rw [cm_it hi, (bk_ti hn hp hi).2, id_it hi]
end

/-! The order under numberings. -/
theorem rows_ext {E F : List Int} (hE : Sets E) (hF : Sets F) (hl : E.length = F.length) (h : ∀ a b, a < E.length → b < E.length → bitB (E[a]?.getD 0) b = bitB (F[a]?.getD 0) b) : E = F := by
  refine List.ext_getElem hl fun j h1 h2 => ?_
  have e1 := hE.2 j h1
  have e2 := hF.2 j h2
  have hb : ∀ k : Nat, bitB (E[j]?.getD 0) k = bitB (F[j]?.getD 0) k := fun k => by
    by_cases hk : k < E.length
    · exact h j k h1 hk
    · have f1 : bitB (E[j]?.getD 0) k = false := by
        cases e : bitB (E[j]?.getD 0) k with
        | false => rfl
        | true => exact absurd (bitB_lt e1.2 e) hk
      have f2 : bitB (F[j]?.getD 0) k = false := by
        cases e : bitB (F[j]?.getD 0) k with
        | false => rfl
        | true => exact absurd (bitB_lt e2.2 e) (by omega)
      rw [f1, f2]
  have := bitB_ext e1.1 e2.1 hb
  rwa [List.getElem?_eq_getElem h1, List.getElem?_eq_getElem h2, Option.getD_some, Option.getD_some] at this

section
variable {zs : List Int} {p q : List Int}
theorem rn_cm (hz : Sets zs) (hp : lineB (zr zs.length) p = true) (hq : lineB (zr zs.length) q = true) : rnL (rnL zs p) q = rnL zs (cmP zs.length p q) := by
  have hn := hz.1
  have h1 := rnL_sets hz hp
  have l1 := rnL_len zs p
  have hq' : lineB (zr (rnL zs p).length) q = true := by rw [l1]; exact hq
  have hc := cm_nb hn hp hq
  have h2 := rnL_sets h1 hq'
  have l2 := rnL_len (rnL zs p) q
  refine rows_ext h2 (rnL_sets hz hc) (by rw [l2, l1, rnL_len]) fun a b ha hb => ?_
  rw [l2, l1] at ha hb
  obtain ⟨a, ha0, rfl⟩ := it_all hn hc ha
  obtain ⟨b, hb0, rfl⟩ := it_all hn hc hb
  rw [rnL_bit hz hc ha0 hb0, cm_it ha0, cm_it hb0, rnL_bit h1 hq' (by rw [l1]; exact (it_lt hp ha0).2) (by rw [l1]; exact (it_lt hp hb0).2), rnL_bit hz hp ha0 hb0]
theorem rn_id (hz : Sets zs) : rnL zs (idN zs.length) = zs := by
  have hn := hz.1
  have hi := id_nb hn
  refine rows_ext (rnL_sets hz hi) hz (rnL_len _ _) fun a b ha hb => ?_
  rw [rnL_len] at ha hb
  have := rnL_bit hz hi ha hb
  rwa [id_it ha, id_it hb] at this
theorem rn_back (hz : Sets zs) (hp : lineB (zr zs.length) p = true) : rnL (rnL zs p) (bkL zs.length p) = zs := by
  rw [rn_cm hz hp (bk_nb hz.1 hp), cm_bk hp hz.1, rn_id hz]
theorem rn_vo (h : VoP zs) (hp : lineB (zr zs.length) p = true) : VoP (rnL zs p) := by
  have hz := h.sets
  have l1 := rnL_len zs p
  have hs := rnL_sets hz hp
  have tell : ∀ a b, lt (rnL zs p) a b → ∃ x y, itN p x = a ∧ itN p y = b ∧ x < zs.length ∧ y < zs.length ∧ lt zs x y := fun a b hab => by
    obtain ⟨h1, h2⟩ := hab
    have hb := bitB_lt (hs.2 a h1).2 h2
    rw [l1] at h1 hb
    obtain ⟨x, hx, rfl⟩ := it_all hz.1 hp h1
    obtain ⟨y, hy, rfl⟩ := it_all hz.1 hp hb
    rw [rnL_bit hz hp hx hy] at h2
    exact ⟨x, y, rfl, rfl, hx, hy, hx, h2⟩
  refine vo_of_lt hs.1 hs.2 (fun a h1 => ?_) (fun a b c h1 h2 => ?_)
  · obtain ⟨x, y, e1, e2, hx, hy, hxy⟩ := tell a a h1
    rw [nb_inj hp hx hy (e1.trans e2.symm)] at hxy
    exact h.irr hxy
  · obtain ⟨x, y, rfl, rfl, hx, hy, hxy⟩ := tell _ _ h1
    obtain ⟨y', z, e1, rfl, hy', hz', hyz⟩ := tell _ _ h2
    rw [nb_inj hp hy' hy e1] at hyz
    have := h.trans hxy hyz
    exact ⟨by rw [l1]; exact (it_lt hp hx).2, by rw [rnL_bit hz hp hx hz']; exact this.2⟩
theorem rn_du (h : VoP zs) (hp : lineB (zr zs.length) p = true) : rnL (du zs) p = du (rnL zs p) := by
  have hz := h.sets
  have hd := du_sets hz
  have ld := du_len zs
  have hp' : lineB (zr (du zs).length) p = true := by rw [ld]; exact hp
  have hs := rnL_sets hz hp
  have l1 := rnL_len zs p
  have l2 := rnL_len (du zs) p
  refine rows_ext (rnL_sets hd hp') (du_sets hs) (by rw [l2, ld, du_len, l1]) fun a b ha hb => ?_
  rw [l2, ld] at ha hb
  obtain ⟨x, hx, rfl⟩ := it_all hz.1 hp ha
  obtain ⟨y, hy, rfl⟩ := it_all hz.1 hp hb
  rw [rnL_bit hd hp' (by rw [ld]; exact hx) (by rw [ld]; exact hy), du_bit hz, du_bit hs, rnL_bit hz hp hy hx]

/-! How many numberings tell the same order. -/
def numb (zs ys : List Int) : List (List Int) := (alL (zr zs.length)).filter fun t => decide (rnL zs t = ys)
theorem numb_mem {ys t : List Int} : t ∈ numb zs ys ↔ lineB (zr zs.length) t = true ∧ rnL zs t = ys := by
  unfold numb
  rw [List.mem_filter, alL_mem, decide_eq_true_eq]
theorem numb_nodup (zs ys : List Int) : (numb zs ys).Nodup := (alL_nodup _).filter _
theorem numb_same (hz : Sets zs) (hp : lineB (zr zs.length) p = true) : (numb zs (rnL zs p)).length = (numb zs zs).length := by
  have hn := hz.1
  have hbk := bk_nb hn hp
  refine Nat.le_antisymm (inj_len (fun t => cmP zs.length t (bkL zs.length p)) _ _ (numb_nodup _ _) (fun t ht => ?_) (fun t ht u hu e => ?_))
    (inj_len (fun t => cmP zs.length t p) _ _ (numb_nodup _ _) (fun t ht => ?_) (fun t ht u hu e => ?_))
  · obtain ⟨h1, h2⟩ := numb_mem.1 ht
    exact numb_mem.2 ⟨cm_nb hn h1 hbk, by rw [← rn_cm hz h1 hbk, h2, rn_back hz hp]⟩
  · obtain ⟨h1, _⟩ := numb_mem.1 ht
    obtain ⟨h2, _⟩ := numb_mem.1 hu
    refine nb_ext h1 h2 fun i hi => ?_
    have e3 : itN (cmP zs.length t (bkL zs.length p)) i = itN (cmP zs.length u (bkL zs.length p)) i := by rw [e]
    rw [cm_it hi, cm_it hi] at e3
    exact nb_inj hbk (it_lt h1 hi).2 (it_lt h2 hi).2 e3
  · obtain ⟨h1, h2⟩ := numb_mem.1 ht
    exact numb_mem.2 ⟨cm_nb hn h1 hp, by rw [← rn_cm hz h1 hp, h2]⟩
  · obtain ⟨h1, _⟩ := numb_mem.1 ht
    obtain ⟨h2, _⟩ := numb_mem.1 hu
    refine nb_ext h1 h2 fun i hi => ?_
    have e3 : itN (cmP zs.length t p) i = itN (cmP zs.length u p) i := by rw [e]
    rw [cm_it hi, cm_it hi] at e3
    exact nb_inj hp (it_lt h1 hi).2 (it_lt h2 hi).2 e3

theorem len_split {α : Type} (p : α → Bool) : ∀ l : List α, l.length = (l.filter p).length + (l.filter fun b => !p b).length
  | [] => rfl
  | a :: l => by
    have ih := len_split p l
    cases h : p a <;> simp [h] <;> omega
/-- What is parted into parts of c each is a multiple of c. -/
theorem parts_div {α β : Type} [DecidableEq β] (f : α → β) (c : Nat) : ∀ (m : Nat) (l : List α), l.length ≤ m → (∀ a ∈ l, (l.filter fun b => decide (f b = f a)).length = c) → c ∣ l.length
  | _, [], _, _ => ⟨0, by simp⟩
  | 0, a :: l, h, _ => by simp at h
  | m + 1, a :: l, h, hc => by
    have h1 := hc a (by simp)
    have h2 : (a :: l).length = ((a :: l).filter fun b => decide (f b = f a)).length + ((a :: l).filter fun b => !decide (f b = f a)).length := len_split _ _
    have h3 : 1 ≤ ((a :: l).filter fun b => decide (f b = f a)).length := by
      have h4 : a ∈ (a :: l).filter fun b => decide (f b = f a) := List.mem_filter.2 ⟨List.mem_cons_self, decide_eq_true rfl⟩
      exact List.length_pos_of_mem h4
    have ih := parts_div f c m ((a :: l).filter fun b => !decide (f b = f a)) (by simp only [List.length_cons] at h h2; omega) (fun x hx => by
      obtain ⟨hx1, hx2⟩ := List.mem_filter.1 hx
      have hx2 : ¬ f x = f a := by simpa using hx2
      rw [← hc x hx1, List.filter_filter]
      congr 1
      refine List.filter_congr fun b _ => ?_
      by_cases hb : f b = f x
      · simp [hb, hx2]
      · simp [hb])
    rw [h2, h1]
    exact Nat.dvd_add (Nat.dvd_refl c) ih
theorem self_div (hz : Sets zs) : (numb zs zs).length ∣ (alL (zr zs.length)).length :=
  parts_div (fun t => rnL zs t) _ _ _ (Nat.le_refl _) fun _ ht => numb_same hz ((alL_mem _ _).1 ht)
theorem self_one (hz : Sets zs) : 1 ≤ (numb zs zs).length := List.length_pos_of_mem (numb_mem.2 ⟨id_nb hz.1, rn_id hz⟩)
theorem self_du (h : VoP zs) : (numb (du zs) (du zs)).length = (numb zs zs).length := by
  have hz := h.sets
  unfold numb
  rw [du_len]
  congr 1
  refine List.filter_congr fun t ht => ?_
  have ht := (alL_mem _ _).1 ht
  rw [rn_du h ht, decide_eq_decide]
  constructor
  · intro e
    have := congrArg du e
    rwa [du_du (rn_vo h ht), du_du h] at this
  · intro e; rw [e]
/-- An order under a numbering has as many. -/
theorem self_rn (hz : Sets zs) (hp : lineB (zr zs.length) p = true) : (numb (rnL zs p) (rnL zs p)).length = (numb zs zs).length := by
  have hn := hz.1
  have l1 := rnL_len zs p
  have hs := rnL_sets hz hp
  have hbk := bk_nb hn hp
  rw [← numb_same hz hp]
  refine Nat.le_antisymm (inj_len (fun t => cmP zs.length p t) _ _ (numb_nodup _ _) (fun t ht => ?_) (fun t ht u hu e => ?_))
    (inj_len (fun t => cmP zs.length (bkL zs.length p) t) _ _ (numb_nodup _ _) (fun t ht => ?_) (fun t ht u hu e => ?_))
  · obtain ⟨h1, h2⟩ := numb_mem.1 ht
    rw [l1] at h1
    exact numb_mem.2 ⟨cm_nb hn hp h1, by rw [← rn_cm hz hp h1, h2]⟩
  · obtain ⟨h1, _⟩ := numb_mem.1 ht
    obtain ⟨h2, _⟩ := numb_mem.1 hu
    rw [l1] at h1 h2
    refine nb_ext h1 h2 fun i hi => ?_
    obtain ⟨k, hk, rfl⟩ := it_all hn hp hi
    have e3 : itN (cmP zs.length p t) k = itN (cmP zs.length p u) k := by rw [e]
    rwa [cm_it hk, cm_it hk] at e3
  · obtain ⟨h1, h2⟩ := numb_mem.1 ht
    refine numb_mem.2 ⟨by rw [l1]; exact cm_nb hn hbk h1, ?_⟩
    have e4 := rn_cm (zs := rnL zs p) hs (p := bkL zs.length p) (q := t) (by rw [l1]; exact hbk) (by rw [l1]; exact h1)
    rw [l1] at e4
    rw [← e4, rn_back hz hp, h2]
  · obtain ⟨h1, _⟩ := numb_mem.1 ht
    obtain ⟨h2, _⟩ := numb_mem.1 hu
    refine nb_ext h1 h2 fun i hi => ?_
    have hk := it_lt hp hi
    have e3 : itN (cmP zs.length (bkL zs.length p) t) (itN p i) = itN (cmP zs.length (bkL zs.length p) u) (itN p i) := by rw [e]
    rwa [cm_it hk.2, cm_it hk.2, bk_it hp hi] at e3
end
end Go.Proofs.Ytghogabmkbadjaa

/- Whether one row is less, as the laws see it. -/
namespace Go.Proofs.Ytghogabmkbadjaa
open Go.RowKit

theorem lessRB_drop : ∀ (k : Nat) (xs ys : List Int), k ≤ xs.length → k ≤ ys.length → (∀ j, j < k → xs[j]?.getD 0 = ys[j]?.getD 0) → lessRB xs ys = lessRB (xs.drop k) (ys.drop k)
  | 0, _, _, _, _, _ => rfl
  | k + 1, [], _, h, _, _ => by simp at h
  | k + 1, _ :: _, [], _, h, _ => by simp at h
  | k + 1, x :: xs, y :: ys, h1, h2, h => by
    have h0 := h 0 (by omega)
    simp at h0
    subst h0
    have ih := lessRB_drop k xs ys (by simpa using h1) (by simpa using h2) (fun j hj => by simpa using h (j + 1) (by omega))
    show (if x = x then lessRB xs ys else decide (x < x)) = _
    rw [if_pos rfl, ih]
    rfl
theorem lessRB_at {xs ys : List Int} {k : Nat} (h1 : k < xs.length) (h2 : k < ys.length) (h : ∀ j, j < k → xs[j]?.getD 0 = ys[j]?.getD 0) (hne : xs[k]?.getD 0 ≠ ys[k]?.getD 0) : lessRB xs ys = decide (xs[k]?.getD 0 < ys[k]?.getD 0) := by
  rw [lessRB_drop k xs ys (by omega) (by omega) h, List.drop_eq_getElem_cons h1, List.drop_eq_getElem_cons h2]
  rw [List.getElem?_eq_getElem h1, List.getElem?_eq_getElem h2] at hne ⊢
  simp only [Option.getD_some] at hne ⊢
  show (if xs[k] = ys[k] then _ else decide (xs[k] < ys[k])) = _
  rw [if_neg hne]
theorem lessRB_end {xs ys : List Int} {k : Nat} (h1 : k ≤ xs.length) (h2 : k ≤ ys.length) (h3 : k = xs.length ∨ k = ys.length) (h : ∀ j, j < k → xs[j]?.getD 0 = ys[j]?.getD 0) : lessRB xs ys = false := by
  rw [lessRB_drop k xs ys h1 h2 h]
  rcases h3 with e | e
  · have e1 : xs.drop k = [] := List.drop_eq_nil_of_le (by omega)
    rw [e1]; rfl
  · have e1 : ys.drop k = [] := List.drop_eq_nil_of_le (by omega)
    rw [e1]
    cases xs.drop k <;> rfl

set_option maxHeartbeats 1000000 in
theorem lessRow_any (A A' : Option Addr) (n c n' c' B B' : Nat) (xs ys : List Int) (w : World) (hA : Ints w B A n xs) (hA' : Ints w B' A' n' ys) (hbig : n ≤ 1152921504606846976) (hbig' : n' ≤ 1152921504606846976) :
    Calls Try.prog 37 #[.slice A n c, .slice A' n' c'] w fun e w' => e = .returned (.bool (lessRB xs ys)) ∧ ∃ m, w' = w.drewN m := by
  have hlen := Lib.hid hA.len
  have hlen' := Lib.hid hA'.len
  go_enter Try.func37, Try.ntmps37
  go_wp2
  go_loopw [5] (fun i wr => ∃ k m : Nat, k ≤ n ∧ k ≤ n' ∧ i = .int .i64 k ∧ (∀ a, a < k → xs[a]?.getD 0 = ys[a]?.getD 0) ∧ wr = w.drewN m) (fun i _ => n - (intOf i).toNat)
  case atStart => exact ⟨0, 0, by omega, by omega, rfl, fun a ha => by omega, rfl⟩
  case round =>
    obtain ⟨k, m, hk, hk', rfl, hok, rfl⟩ := hrel
    have Hok := Lib.hid hok
    clear hok
    by_cases hlt : k < n
    · by_cases hlt' : k < n'
      · obtain ⟨b, off, rfl, _, hc⟩ := hA.at_ hlt
        obtain ⟨b', off', rfl, _, hc'⟩ := hA'.at_ hlt'
        have hck := hc k hlt
        have hck' := hc' k hlt'
        have Hc := Lib.hid hc
        have Hc' := Lib.hid hc'
        clear hc hc'
        cases hne : (xs[k]?.getD 0 != ys[k]?.getD 0)
        · have Heq := Lib.hid (show xs[k]?.getD 0 = ys[k]?.getD 0 by simpa [bne] using hne)
          go_wp2
          go_quiet (fail)
          go_wp2
          go_roundw
          case rel => exact ⟨k + 1, _, by omega, by omega, by go_num, all_snoc Hok.out Heq.out, rfl⟩
          case measure => simp [intOf]; omega
        · have Hne := Lib.hid (lessRB_at (xs := xs) (ys := ys) (k := k) (by rw [hlen.out]; exact hlt) (by rw [hlen'.out]; exact hlt') Hok.out (by simpa [bne] using hne))
          generalize xs[k]?.getD 0 = x at *
          generalize ys[k]?.getD 0 = y at *
          go_wp2
          go_quiet (fail)
          go_wp2
          go_quiet (fail)
          go_wp2
          go_ret
          exact ⟨ret_bool Hne.out.symm, by first | exact ⟨_, rfl⟩ | exact ⟨_, (congrArg (fun z => World.drewN z _) (World.drewN_drewN ..)).trans (World.drewN_drewN ..)⟩⟩
      · obtain rfl : k = n' := by omega
        have Hf := Lib.hid (lessRB_end (xs := xs) (ys := ys) (k := k) (by rw [hlen.out]; exact hk) (by rw [hlen'.out]; exact Nat.le_refl _) (.inr (by rw [hlen'.out])) Hok.out)
        go_wp2
        go_ret
        exact ⟨ret_bool Hf.out.symm, _, rfl⟩
    · obtain rfl : k = n := by omega
      have Hf := Lib.hid (lessRB_end (xs := xs) (ys := ys) (k := k) (by rw [hlen.out]; exact Nat.le_refl _) (by rw [hlen'.out]; exact hk') (.inl (by rw [hlen.out])) Hok.out)
      go_wp2
      go_ret
      exact ⟨ret_bool Hf.out.symm, _, rfl⟩
end Go.Proofs.Ytghogabmkbadjaa

/- Texts that several claims share, one behind the other. -/
import Derived.Test.YthjmedbjdjkilaaGb
import Derived.Test.YthjmedbjdjkilaaGa
import Derived.Maps.Own
import Derived.ChangeKeysEq
import Derived.Deep.RegionHeld3
import Derived.Maps.OwnIn
/- The order of some items alone, numbered anew: it is an order, and is lined up in as many ways as they are. No program. -/
namespace Go.Proofs.Ythjmedbjdjkilaa

theorem inc_ext : ∀ (l m : List Nat), l.Pairwise (· < ·) → m.Pairwise (· < ·) → (∀ a, a ∈ l ↔ a ∈ m) → l = m
  | [], [], _, _, _ => rfl
  | [], b :: m, _, _, h => by have := (h b).2 (by simp); cases this
  | a :: l, [], _, _, h => by have := (h a).1 (by simp); cases this
  | a :: l, b :: m, hl, hm, h => by
    rw [List.pairwise_cons] at hl hm
    have hab : a = b := by
      rcases List.mem_cons.1 ((h a).1 (by simp)) with e | e
      · exact e
      · rcases List.mem_cons.1 ((h b).2 (by simp)) with e2 | e2
        · exact e2.symm
        · have := hm.1 a e; have := hl.1 b e2; omega
    subst hab
    rw [inc_ext l m hl.2 hm.2 fun x => ?_]
    have hx := h x
    rw [List.mem_cons, List.mem_cons] at hx
    constructor
    · intro e
      rcases hx.1 (.inr e) with e2 | e2
      · have := hl.1 x e; omega
      · exact e2
    · intro e
      rcases hx.2 (.inr e) with e2 | e2
      · have := hm.1 x e; omega
      · exact e2
theorem range_inc (n : Nat) : (List.range n).Pairwise (· < ·) := List.pairwise_lt_range
/-- The numbers of z that l lists, by their places in l, up to k. -/
def rowTo (z : Int) (l : List Nat) : Nat → Int
  | 0 => 0
  | k + 1 => orI (rowTo z l k) (bitI z (l[k]?.getD 0) * powI k)
theorem bitI_mul (z j : Int) (k : Nat) : bitI z j * powI k = if bitB z j then powI k else 0 := by
  unfold bitI; split <;> simp
theorem rowTo_bd (z : Int) (l : List Nat) : ∀ k : Nat, 0 ≤ rowTo z l k ∧ rowTo z l k < powI k
  | 0 => by simp [rowTo, powI]
  | k + 1 => by
    have h := rowTo_bd z l k
    have hp : powI (k : Int) < powI ((k + 1 : Nat) : Int) := powI_lt (by omega)
    have h0 := powI_pos (k : Int)
    have h1 := powI_pos ((k + 1 : Nat) : Int)
    unfold rowTo
    rw [bitI_mul]
    split
    · exact orI_bd h.1 (by omega) (Int.le_of_lt h0) hp
    · exact orI_bd h.1 (by omega) (Int.le_refl _) h1
theorem rowTo_bit (z : Int) (l : List Nat) (j : Nat) : ∀ k : Nat, bitB (rowTo z l k) j = true ↔ j < k ∧ bitB z ((l[j]?.getD 0 : Nat) : Int) = true
  | 0 => by simp [rowTo, bitB_zero]
  | k + 1 => by
    unfold rowTo
    rw [bitI_mul, bitB_or, Bool.or_eq_true, rowTo_bit z l j k]
    have h2 : bitB (if bitB z ((l[k]?.getD 0 : Nat) : Int) then powI (k : Int) else 0) j = true ↔ j = k ∧ bitB z ((l[j]?.getD 0 : Nat) : Int) = true := by
      split
      · rename_i hb
        rw [bitB_pow, decide_eq_true_eq]
        constructor
        · rintro rfl; exact ⟨rfl, hb⟩
        · rintro ⟨rfl, _⟩; rfl
      · rename_i hb
        rw [bitB_zero]
        constructor
        · intro e; cases e
        · rintro ⟨rfl, e⟩; exact absurd e hb
    rw [h2]
    constructor
    · rintro (⟨h, e⟩ | ⟨rfl, e⟩)
      · exact ⟨by omega, e⟩
      · exact ⟨by omega, e⟩
    · rintro ⟨h, e⟩
      by_cases hjk : j = k
      · exact .inr ⟨hjk, e⟩
      · exact .inl ⟨by omega, e⟩
/-- The order of the items of l alone. -/
def ind (zs : List Int) (l : List Nat) : List Int := l.map fun a => rowTo (zs[a]?.getD 0) l l.length
theorem ind_len (zs : List Int) (l : List Nat) : (ind zs l).length = l.length := by simp [ind]
theorem ind_bit {zs : List Int} {l : List Nat} {i j : Nat} (hi : i < l.length) : bitB ((ind zs l)[i]?.getD 0) j = true ↔ j < l.length ∧ bitB (zs[l[i]?.getD 0]?.getD 0) ((l[j]?.getD 0 : Nat) : Int) = true := by
  have e : (ind zs l)[i]?.getD 0 = rowTo (zs[l[i]?.getD 0]?.getD 0) l l.length := by
    unfold ind
    rw [List.getElem?_map, List.getElem?_eq_getElem hi]
    rfl
  rw [e, rowTo_bit]
/-- A list of items of the order, ascending. -/
structure Inc (zs : List Int) (l : List Nat) : Prop where
  inc : l.Pairwise (· < ·)
  lt : ∀ a ∈ l, a < zs.length
theorem Inc.at_lt {zs : List Int} {l : List Nat} (h : Inc zs l) {i : Nat} (hi : i < l.length) : l[i]?.getD 0 < zs.length := by
  rw [List.getElem?_eq_getElem hi]
  exact h.lt _ (List.getElem_mem hi)
theorem Inc.at_inc {zs : List Int} {l : List Nat} (h : Inc zs l) {i j : Nat} (hij : i < j) (hj : j < l.length) : l[i]?.getD 0 < l[j]?.getD 0 := by
  rw [List.getElem?_eq_getElem hj, List.getElem?_eq_getElem (by omega)]
  exact List.pairwise_iff_getElem.1 h.inc i j (by omega) hj hij
theorem Inc.at_inj {zs : List Int} {l : List Nat} (h : Inc zs l) {i j : Nat} (hi : i < l.length) (hj : j < l.length) (e : l[i]?.getD 0 = l[j]?.getD 0) : i = j := by
  rcases Nat.lt_trichotomy i j with h1 | h1 | h1
  · have := h.at_inc h1 hj; omega
  · exact h1
  · have := h.at_inc h1 hi; omega
theorem Inc.len_le {zs : List Int} {l : List Nat} (h : Inc zs l) : l.length ≤ zs.length := pigeon zs.length l (h.inc.imp fun h => by omega) h.lt
theorem ind_lt {zs : List Int} {l : List Nat} (h : Inc zs l) {i j : Nat} : lt (ind zs l) i j ↔ i < l.length ∧ j < l.length ∧ lt zs (l[i]?.getD 0) (l[j]?.getD 0) := by
  unfold lt
  rw [ind_len]
  constructor
  · rintro ⟨h1, h2⟩
    have := (ind_bit h1).1 h2
    exact ⟨h1, this.1, h.at_lt h1, this.2⟩
  · rintro ⟨h1, h2, _, h3⟩
    exact ⟨h1, (ind_bit h1).2 ⟨h2, h3⟩⟩
theorem ind_vo {zs : List Int} (h : VoP zs) {l : List Nat} (hl : Inc zs l) : VoP (ind zs l) := by
  have h6 := h.1
  have hle := hl.len_le
  refine ⟨by rw [ind_len]; omega, fun a ha => ?_, fun a ha b hb => ?_⟩
  · rw [ind_len] at ha ⊢
    have e : (ind zs l)[a]?.getD 0 = rowTo (zs[l[a]?.getD 0]?.getD 0) l l.length := by
      unfold ind; rw [List.getElem?_map, List.getElem?_eq_getElem ha]; rfl
    have hb := rowTo_bd (zs[l[a]?.getD 0]?.getD 0) l l.length
    have h2 : bitB ((ind zs l)[a]?.getD 0) a = false := by
      cases e2 : bitB ((ind zs l)[a]?.getD 0) a
      · rfl
      · have := (ind_lt hl).1 (⟨by rw [ind_len]; exact ha, e2⟩ : lt (ind zs l) a a)
        exact absurd this.2.2 h.irr
    unfold okA inB
    rw [h2, e]
    simp only [Bool.not_false, Bool.and_true, decide_eq_true_eq]
    omega
  · rw [ind_len] at ha hb
    unfold okP
    cases e : bitB ((ind zs l)[a]?.getD 0) b
    · rfl
    · have hab := (ind_lt hl).1 (⟨by rw [ind_len]; exact ha, e⟩ : lt (ind zs l) a b)
      have h1 : lessI ((ind zs l)[b]?.getD 0) ((ind zs l)[a]?.getD 0) = 0 := by
        refine bitB_ext (lessI_bd _ _).1 (Int.le_refl _) fun j => ?_
        rw [bitB_less, bitB_zero]
        cases e1 : bitB ((ind zs l)[b]?.getD 0) j
        · rfl
        · have hbj := (ind_lt hl).1 (⟨by rw [ind_len]; exact hb, e1⟩ : lt (ind zs l) b j)
          have := ((ind_lt hl).2 ⟨ha, hbj.2.1, h.trans hab.2.2 hbj.2.2⟩).2
          rw [this]; rfl
      have h2 : bitB ((ind zs l)[b]?.getD 0) a = false := by
        cases e2 : bitB ((ind zs l)[b]?.getD 0) a
        · rfl
        · have hba := (ind_lt hl).1 (⟨by rw [ind_len]; exact hb, e2⟩ : lt (ind zs l) b a)
          exact absurd (h.trans hab.2.2 hba.2.2) h.irr
      rw [h1, h2]; rfl

/-- The items of zs that a set of places of l tells. -/
def exTo (l : List Nat) (t : Nat) : Nat → Nat
  | 0 => 0
  | k + 1 => exTo l t k ||| (if t.testBit k then 2 ^ (l[k]?.getD 0) else 0)
theorem exTo_bit (l : List Nat) (t a : Nat) : ∀ k : Nat, (exTo l t k).testBit a = true ↔ ∃ i, i < k ∧ t.testBit i = true ∧ l[i]?.getD 0 = a
  | 0 => by simp [exTo]
  | k + 1 => by
    unfold exTo
    rw [Nat.testBit_or, Bool.or_eq_true, exTo_bit l t a k]
    have h2 : (if t.testBit k then 2 ^ (l[k]?.getD 0) else 0).testBit a = true ↔ t.testBit k = true ∧ l[k]?.getD 0 = a := by
      split
      · rename_i hb; rw [Nat.testBit_two_pow, decide_eq_true_eq]; simp [hb]
      · rename_i hb; simp [hb]
    rw [h2]
    constructor
    · rintro (⟨i, hi, e⟩ | e)
      · exact ⟨i, by omega, e⟩
      · exact ⟨k, by omega, e⟩
    · rintro ⟨i, hi, e⟩
      by_cases hik : i = k
      · subst hik; exact .inr e
      · exact .inl ⟨i, by omega, e⟩
def ex (l : List Nat) (t : Nat) : Nat := exTo l t l.length
theorem ex_lt {zs : List Int} {l : List Nat} (h : Inc zs l) (t : Nat) : ex l t < 2 ^ zs.length := Nat.lt_pow_two_of_testBit _ fun i hi => by
  cases e : (ex l t).testBit i
  · rfl
  · obtain ⟨k, hk, _, e2⟩ := (exTo_bit l t i l.length).1 e
    have := h.at_lt hk; omega
theorem ex_at {zs : List Int} {l : List Nat} (h : Inc zs l) {t k : Nat} (hk : k < l.length) : (ex l t).testBit (l[k]?.getD 0) = t.testBit k := by
  rw [Bool.eq_iff_iff]
  unfold ex
  rw [exTo_bit]
  constructor
  · rintro ⟨i, hi, e, e2⟩
    rw [← h.at_inj hi hk e2]; exact e
  · intro e; exact ⟨k, hk, e, rfl⟩
theorem sub_bits {s a j : Nat} (hs : s < 64) (ha : a < 6) (hb : s.testBit a = true) : (s - 2 ^ a).testBit j = (s.testBit j && !decide (a = j)) := by
  have hpa := Nat.two_pow_pos a
  rcases Nat.lt_or_ge j 6 with hj | hj
  · exact sub_bit_fin ⟨s, hs⟩ ⟨a, ha⟩ ⟨j, hj⟩ hb
  · have h1 : s.testBit j = false := Nat.testBit_lt_two_pow (Nat.lt_of_lt_of_le (show s < 2 ^ 6 by omega) (Nat.pow_le_pow_right (by decide) hj))
    have h2 : (s - 2 ^ a).testBit j = false := Nat.testBit_lt_two_pow (Nat.lt_of_lt_of_le (show s - 2 ^ a < 2 ^ 6 by omega) (Nat.pow_le_pow_right (by decide) hj))
    rw [h1, h2]; rfl
theorem ex_sub {zs : List Int} (h6 : zs.length ≤ 6) {l : List Nat} (h : Inc zs l) {t k : Nat} (ht : t < 64) (hk : k < l.length) (hb : t.testBit k = true) : ex l (t - 2 ^ k) = ex l t - 2 ^ (l[k]?.getD 0) := by
  have hle := h.len_le
  have hx : ex l t < 64 := Nat.lt_of_lt_of_le (ex_lt h t) (pow_le64 h6)
  have hlk := h.at_lt hk
  refine Nat.eq_of_testBit_eq fun a => ?_
  rw [sub_bits hx (show l[k]?.getD 0 < 6 by omega) (by rw [ex_at h hk]; exact hb), Bool.eq_iff_iff]
  unfold ex
  rw [exTo_bit, Bool.and_eq_true, exTo_bit, Bool.not_eq_true', decide_eq_false_iff_not]
  constructor
  · rintro ⟨i, hi, e, rfl⟩
    rw [sub_bits ht (by omega) hb, Bool.and_eq_true, Bool.not_eq_true', decide_eq_false_iff_not] at e
    exact ⟨⟨i, hi, e.1, rfl⟩, fun e2 => e.2 (h.at_inj hk hi e2)⟩
  · rintro ⟨⟨i, hi, e, rfl⟩, e2⟩
    refine ⟨i, hi, ?_, rfl⟩
    rw [sub_bits ht (by omega) hb, e]
    have hne : ¬ k = i := fun e3 => e2 (by rw [e3])
    simp [hne]
theorem ex_zero (l : List Nat) : ex l 0 = 0 := Nat.eq_of_testBit_eq fun a => by
  rw [Bool.eq_iff_iff]
  unfold ex
  rw [exTo_bit]
  simp
theorem eF_iff {zs : List Int} (h : VoP zs) {s a : Nat} : eF zs s a = true ↔ s.testBit a = true ∧ ∀ b, s.testBit b = true → bitB (zs[b]?.getD 0) a = false := by
  unfold eF
  rw [Bool.and_eq_true, beq_iff_eq, andI_zero]
  constructor
  · rintro ⟨h1, h2⟩
    exact ⟨h1, fun b hb => by have := h2 b (by rw [bit_cast]; exact hb); rwa [du_bit h.sets] at this⟩
  · rintro ⟨h1, h2⟩
    exact ⟨h1, fun b hb => by rw [du_bit h.sets]; exact h2 b (by rwa [bit_cast] at hb)⟩
theorem bit_none' {zs : List Int} {a b : Nat} (h : bitB (zs[a]?.getD 0) b = true) : a < zs.length := by
  rcases Nat.lt_or_ge a zs.length with h1 | h1
  · exact h1
  · rw [List.getElem?_eq_none (by omega), Option.getD_none, bitB_zero] at h; cases h
theorem next_ind {zs : List Int} (h : VoP zs) {l : List Nat} (hl : Inc zs l) (t : Nat) : nextL zs (ex l t) = (nextL (ind zs l) t).map fun k => l[k]?.getD 0 := by
  have hi := ind_vo h hl
  rw [nextL_is h, nextL_is hi, ind_len]
  refine inc_ext _ _ ((range_inc _).filter _) ?_ fun a => ?_
  · rw [List.pairwise_map]
    refine List.Pairwise.imp_of_mem ?_ ((range_inc _).filter _)
    intro x y hx hy hxy
    rw [List.mem_filter] at hy
    exact hl.at_inc hxy (by simpa using hy.1)
  · rw [List.mem_filter, List.mem_map, List.mem_range, eF_iff h]
    constructor
    · rintro ⟨ha, h1, h2⟩
      obtain ⟨k, hk, hb, e⟩ := (exTo_bit l t a l.length).1 h1
      refine ⟨k, ?_, e⟩
      rw [List.mem_filter, List.mem_range, eF_iff hi]
      refine ⟨hk, hb, fun j hj => ?_⟩
      cases e2 : bitB ((ind zs l)[j]?.getD 0) k
      · rfl
      · have hjl : j < l.length := by
          have := bit_none' e2; rwa [ind_len] at this
        have h3 := (ind_bit hjl).1 e2
        have := h2 (l[j]?.getD 0) (by rw [ex_at hl hjl]; exact hj)
        rw [← e] at this
        rw [this] at h3; cases h3.2
    · rintro ⟨k, hk, e⟩
      rw [List.mem_filter, List.mem_range, eF_iff hi] at hk
      obtain ⟨hk, hb, h2⟩ := hk
      refine ⟨by rw [← e]; exact hl.at_lt hk, by rw [← e, ex_at hl hk]; exact hb, fun b hb2 => ?_⟩
      obtain ⟨j, hj, hjt, e3⟩ := (exTo_bit l t b l.length).1 hb2
      have := h2 j hjt
      cases e4 : bitB (zs[b]?.getD 0) a
      · rfl
      · rw [(ind_bit hj).2 ⟨hk, by rw [e3, e]; exact e4⟩] at this; cases this
/-- The items alone are lined up in as many ways as they are. -/
theorem cF_ind {zs : List Int} (h : VoP zs) {l : List Nat} (hl : Inc zs l) : ∀ (N t : Nat), t ≤ N → t < 2 ^ l.length → cF (ind zs l) t = cF zs (ex l t)
  | N, t, hN, ht => by
    have hi := ind_vo h hl
    have hle := hl.len_le
    have h6 := h.1
    have ht64 : t < 64 := Nat.lt_of_lt_of_le ht (pow_le64 (by omega))
    by_cases h0 : t = 0
    · subst h0; rw [ex_zero, cF_zero, cF_zero]
    · have hx0 : ex l t ≠ 0 := fun e => h0 (Nat.eq_of_testBit_eq fun k => by
        rw [Nat.zero_testBit]
        cases e2 : t.testBit k
        · rfl
        · have hk := bit_lt ht e2
          have := ex_at hl (t := t) hk
          rw [e, e2, Nat.zero_testBit] at this; cases this)
      cases N with
      | zero => omega
      | succ N =>
        rw [← accF_all hi h0, ← accF_all h hx0, next_ind h hl]
        unfold accF
        rw [List.map_map]
        congr 1
        refine List.map_congr_left fun k hk => ?_
        obtain ⟨hkl, hkb⟩ := nextL_mem hi hk
        rw [ind_len] at hkl
        have hp := Nat.two_pow_pos k
        have hge := ge_bit_fin ⟨t, ht64⟩ ⟨k, by omega⟩ hkb
        simp only at hge
        rw [cF_ind h hl N (t - 2 ^ k) (by omega) (by omega), ex_sub h6 hl ht64 hkl hkb]
        rfl
/-- The items of a set, ascending. -/
def leftL (n s : Nat) : List Nat := (List.range n).filter fun j => s.testBit j
theorem leftL_inc (zs : List Int) (s : Nat) : Inc zs (leftL zs.length s) := ⟨(range_inc _).filter _, fun a ha => by
  unfold leftL at ha; rw [List.mem_filter] at ha; simpa using ha.1⟩
theorem ex_left {zs : List Int} {s : Nat} (hs : s < 2 ^ zs.length) : ex (leftL zs.length s) (2 ^ (leftL zs.length s).length - 1) = s := by
  refine Nat.eq_of_testBit_eq fun a => ?_
  rw [Bool.eq_iff_iff]
  unfold ex
  rw [exTo_bit]
  constructor
  · rintro ⟨i, hi, _, rfl⟩
    rw [List.getElem?_eq_getElem hi]
    have := List.getElem_mem hi
    unfold leftL at this
    rw [List.mem_filter] at this
    exact this.2
  · intro e
    have ha : a ∈ leftL zs.length s := by
      unfold leftL
      rw [List.mem_filter, List.mem_range]
      exact ⟨bit_lt hs e, e⟩
    obtain ⟨i, hi, e2⟩ := List.getElem_of_mem ha
    refine ⟨i, hi, ?_, by rw [List.getElem?_eq_getElem hi]; exact e2⟩
    rw [Nat.testBit_two_pow_sub_one]
    simpa using hi
/-- As the model counts what is left. -/
theorem rest_is {zs : List Int} (h : VoP zs) {s : Nat} (hs : s < 2 ^ zs.length) : cG (ind zs (leftL zs.length s)) (2 ^ (leftL zs.length s).length - 1) = cF zs s := by
  have hl := leftL_inc zs s
  have hi := ind_vo h hl
  have hp := Nat.two_pow_pos (leftL zs.length s).length
  have := count_both hi
  rw [ind_len] at this
  rw [this, cF_ind h hl _ _ (Nat.le_refl _) (by omega), ex_left hs]
end Go.Proofs.Ythjmedbjdjkilaa

/- The program's lineup: its making, what is free, all items; an item less. -/
namespace Go.Proofs.Ythjmedbjdjkilaa
open Go.RowKit Go.Shelf

/-- A lineup: the order turned round in block b, the map in block m. -/
def lineV (b m n : Nat) : Value := .agg #[.slice (some ⟨b, 0, none⟩) n n, .map (some m)]

set_option maxRecDepth 100000 in
set_option maxHeartbeats 4000000 in
theorem lineup_any (A : Option Addr) (n c : Nat) (zs : List Int) (hv : Sets zs) (w : World) (h : Ints w w.heap.size A n zs) :
    Calls Try.prog 64 #[.slice A n c] w fun e w' => ∃ b m, e = .returned (lineV b m n) ∧ Arr w' b 65 (du zs) ∧ w'.heap[m]? = some (.map #[] 0) ∧ w.heap.size ≤ b ∧ w.heap.size ≤ m ∧ b ≠ m ∧ Below w.heap.size w w' := by
  have hlen := Lib.hid h.len
  have Hdu := Lib.hid (show downP n (pairsL zs) = du zs by unfold du; rw [hlen.out])
  have hmm := @run_makeMap Try.prog
  go_enter Try.func64, Try.ntmps64
  go_wp2_with fail
  refine (dual_any A n c zs hv _ (h.to ((Below.refl w.heap.size w).alloc (Nat.le_refl _) _) (Nat.le_refl _) (by simp))).mono ?_
  rintro e w2 ⟨rfl, hA2, hB2⟩
  rw [Hdu.out] at hA2
  have hh1 : (w.alloc (.cells #[.slice none 0 0, .map none] 62)).heap[w.heap.size]? = some (.cells #[.slice none 0 0, .map none] 62 (0, 0)) := heap_alloc_new w _
  have hs1 : (w.alloc (.cells #[.slice none 0 0, .map none] 62)).heap.size = w.heap.size + 1 := by simp
  have hC1 : Below w.heap.size w (w.alloc (.cells #[.slice none 0 0, .map none] 62)) := (Below.refl w.heap.size w).alloc (Nat.le_refl _) _
  rw [hs1] at hA2 hB2
  have z2 := hB2.size
  rw [hs1] at z2
  have hh2 := (hB2.block w.heap.size (by omega)).trans hh1
  have hC2 := hC1.trans (hB2.mono (by omega))
  have hh3 := (Below.heap_alloc w2 (.map #[] 0) w.heap.size (by omega)).trans hh2
  have hA3 := hA2.alloc (.map #[] 0)
  have hm3 : (w2.alloc (.map #[] 0)).heap[w2.heap.size]? = some (.map #[] 0) := heap_alloc_new w2 _
  have hC3 := hC2.alloc (by omega) (.map #[] 0)
  have hs3 : (w2.alloc (.map #[] 0)).heap.size = w2.heap.size + 1 := by simp
  have hc0 : (w2.alloc (.map #[] 0)).cell? ⟨w.heap.size, 0, none⟩ = some (.slice none 0 0) := by rw [cell_of_row _ _ 0 _ _ (0, 0) hh3]; rfl
  have hc1 : (w2.alloc (.map #[] 0)).cell? ⟨w.heap.size, 1, none⟩ = some (.map none) := by rw [cell_of_row _ _ 1 _ _ (0, 0) hh3]; rfl
  have hf0 : (w2.alloc (.map #[] 0)).frozen? ⟨w.heap.size, 0, none⟩ = false := frozen_of_row _ _ 0 _ _ hh3
  have hf1 : (w2.alloc (.map #[] 0)).frozen? ⟨w.heap.size, 1, none⟩ = false := frozen_of_row _ _ 1 _ _ hh3
  have hl2 := hA2.lt
  clear hh1 hh2 hC1 hC2 hB2 hA2 h
  obtain ⟨W4, hW4⟩ : ∃ W4, ((w2.alloc (.map #[] 0)).setCell ⟨w.heap.size, 0, none⟩ (.slice (some ⟨w.heap.size + 1, 0, none⟩) n n)).setCell ⟨w.heap.size, 1, none⟩ (.map (some w2.heap.size)) = W4 := ⟨_, rfl⟩
  have kh : W4.heap[w.heap.size]? = some (.cells #[.slice (some ⟨w.heap.size + 1, 0, none⟩) n n, .map (some w2.heap.size)] 62 (0, 0)) := by
    rw [← hW4]
    simp [World.setCell, Array.getElem?_modify, hh3]
  have kA : Arr W4 (w.heap.size + 1) 65 (du zs) := by rw [← hW4]; exact (hA3.far (by simp) _).far (by simp) _
  have km : W4.heap[w2.heap.size]? = some (.map #[] 0) := by
    rw [← hW4, Below.heap_setCell _ _ _ _ (by simp; omega), Below.heap_setCell _ _ _ _ (by simp; omega)]
    exact hm3
  have kC : Below w.heap.size w W4 := by rw [← hW4]; exact (hC3.setCell (p := ⟨w.heap.size, 0, none⟩) (Nat.le_refl _) _).setCell (p := ⟨w.heap.size, 1, none⟩) (Nat.le_refl _) _
  go_wp2
  refine bodyPost_ret (v := lineV (w.heap.size + 1) w2.heap.size n) (results_cell_row rfl _ _ w.heap.size _ _ (0, 0) _ rfl kh Try.underlying62 rfl (by kernel_rfl)) rfl ?_
  exact ⟨w.heap.size + 1, w2.heap.size, rfl, kA, km, by omega, by omega, by omega, kC⟩

theorem without_any (s j : Int) (w : World) (h0 : 0 ≤ s) (h1 : s < 64) (j0 : 0 ≤ j) (j1 : j ≤ 6) :
    Calls Try.prog 108 #[.int .i64 s, .int .i64 j] w fun e w' => e = .returned (.int .i64 (lessI s (powI j))) ∧ w = w' := by
  go_enter Try.func108, Try.ntmps108
  go_wp2
  go_ret
  have hp := powI_le6 j1
  have hq := powI_pos j
  exact ⟨ret_int (by
    have : wrap64 (2 ^ j.toNat) = powI j := IntWalk.wrap64_in _ ⟨by unfold powI at hq; omega, by unfold powI at hp; omega⟩
    rw [this]; exact bits_less h0 (by omega) (by omega) (by omega)), rfl⟩
theorem oall_any (A : Option Addr) (n c : Nat) (w : World) (h1 : n ≤ 6) :
    Calls Try.prog 105 #[.slice A n c] w fun e w' => e = .returned (.int .i64 (powI n - 1)) ∧ w = w' := by
  have hp := powI_le6 (n := (n : Int)) (by omega)
  have hq := powI_pos (n : Int)
  go_enter Try.func105, Try.ntmps105
  go_wp2
  go_ret
  exact ⟨ret_int (by
    have : wrap64 (2 ^ ((n : Int)).toNat) = powI n := IntWalk.wrap64_in _ ⟨by unfold powI at hq; omega, by unfold powI at hp; omega⟩
    simp only [Int.toNat_natCast] at this
    rw [this]; exact IntWalk.wrap64_in _ ⟨by omega, by omega⟩), rfl⟩
theorem lall2_any (b m n : Nat) (w : World) (h1 : n ≤ 6) :
    Calls Try.prog 66 #[lineV b m n] w fun e w' => e = .returned (.int .i64 (powI n - 1)) ∧ Below w.heap.size w w' := by
  unfold lineV
  go_enter Try.func66, Try.ntmps66
  go_wp2_with fail
  refine (oall_any _ _ _ _ h1).mono ?_
  rintro e w' ⟨rfl, rfl⟩
  go_wp2_with fail
  go_ret
  exact ⟨rfl, (Below.refl w.heap.size w).alloc (Nat.le_refl _) _⟩
theorem free_any (b m n : Nat) (zs : List Int) (s : Int) (hv : Sets zs) (w : World) (hA : Ints w w.heap.size (some ⟨b, 0, none⟩) n (du zs)) (h0 : 0 ≤ s) (h1 : s < powI n) :
    Calls Try.prog 106 #[lineV b m n, .int .i64 s] w fun e w' => e = .returned (.int .i64 (topsTo (du zs) s n)) ∧ Below w.heap.size w w' := by
  unfold lineV
  go_enter Try.func106, Try.ntmps106
  go_wp2_with fail
  refine (tops_any _ n _ (du zs) s (du_sets hv) _ (hA.to ((Below.refl w.heap.size w).alloc (Nat.le_refl _) _) (Nat.le_refl _) (by simp)) h0 h1).mono ?_
  rintro e w' ⟨rfl, hB⟩
  go_wp2_with fail
  go_ret
  exact ⟨rfl, ((Below.refl w.heap.size w).alloc (Nat.le_refl _) _).trans (hB.mono (by simp))⟩
end Go.Proofs.Ythjmedbjdjkilaa

/- Marks: a set as six bools in an array; made, read, compared; what is below a set, and whether it is an ideal: the program's. -/
namespace Go.Proofs.Ythjmedbjdjkilaa
open Go.RowKit Go.Shelf
attribute [local go_sem] Oper.semAt_some
attribute [local go_sem, local simp] wide_fn

/-- The six marks of a set. -/
def mkV (s : Int) : Array Value := ((List.range 6).map fun j : Nat => Value.bool (bitB s j)).toArray
theorem mkV_size (s : Int) : (mkV s).size = 6 := by simp [mkV]
theorem mkV_get (s : Int) {j : Nat} (hj : j < 6) : (mkV s)[j]? = some (.bool (bitB s j)) := by
  simp [mkV, hj]
theorem mkV_one (s : Int) : (mkV s).all (·.oneCell') = true := by
  refine Array.all_eq_true.2 fun i hi => ?_
  simp [mkV, Value.oneCell']
theorem mkV_set (s : Int) {k : Nat} (_hk : k < 6) : (mkV s).setIfInBounds k (.bool true) = mkV (orI s (powI k)) := by
  refine Array.ext (by simp [mkV_size]) fun j h1 h2 => ?_
  rw [Array.getElem_setIfInBounds (by simpa using h1)]
  simp only [mkV, List.getElem_toArray, List.getElem_map, List.getElem_range, bitB_or, bitB_pow]
  by_cases h : k = j
  · simp [h]
  · simp [h]
theorem mkV_none : mkV 0 = #[.bool false, .bool false, .bool false, .bool false, .bool false, .bool false] := by
  simp [mkV, bitB_zero, List.range_succ]

section
variable {P : Program} (w : World)
theorem part_mkV {e : TypeId} (he : P.underlying e = some .bool) (s : Int) {i : Nat} (hi : i < 6) : (part e (mkV s) (i * 1)).run P w = .ok (.bool (bitB s i)) w := by
  have h := mkV_get s hi
  have h6 := mkV_size s
  rw [Array.getElem?_eq_getElem (by omega)] at h
  simp only [Option.some.injEq] at h
  simp [part, isAgg, run_underlying he, h6, hi, h]
theorem eqItems_mkV {e : TypeId} (he : P.underlying e = some .bool) (d : Nat) (s t : Int) : ∀ l : List Nat, (∀ i ∈ l, i < 6) →
    (Op.eqItems (d + 1) e 1 (mkV s) (mkV t) l).run P w = .ok (l.all fun i : Nat => bitB s i == bitB t i) w
  | [], _ => by simp [Op.eqItems]
  | i :: l, h => by
    have ih := eqItems_mkV he d s t l (fun j hj => h j (by simp [hj]))
    have hi := h i (by simp)
    simp only [Op.eqItems, Sem.run_bind, part_mkV w he s hi, part_mkV w he t hi, Result.andThen_ok, run_equalIn_bool' w d e _ _ he]
    cases hb : (bitB s i == bitB t i)
    · simp [hb]
    · simp [hb, ih]
theorem run_eql_mkV {t e : TypeId} (hu : P.underlying t = some (.array 6 e)) (he : P.underlying e = some .bool) (hi : (P.info? e).isSome = true) (hc : P.cellsOf e = 1) (x y : Int) (hx0 : 0 ≤ x) (hx : x < 64) (hy0 : 0 ≤ y) (hy : y < 64) :
    (binOp .eql t (.agg (mkV x)) (.agg (mkV y))).run P w = .ok (.bool (x == y)) w := by
  obtain ⟨i, hi⟩ := Option.isSome_iff_exists.1 hi
  rw [run_eql_struct, run_equalIn_array w 9999 _ _ hu hi, hc, eqItems_mkV w he 9998 x y _ (fun i hi => by simpa using hi)]
  have key : ((List.range 6).all fun i : Nat => bitB x i == bitB y i) = (x == y) := by
    rw [Bool.eq_iff_iff, List.all_eq_true, beq_iff_eq]
    constructor
    · intro h
      refine bitB_ext hx0 hy0 fun j => ?_
      rcases Nat.lt_or_ge j 6 with hj | hj
      · simpa using h j (by simpa using hj)
      · have e1 : bitB x j = false := by
          cases e : bitB x j
          · rfl
          · have := bitB_lt (n := 6) hx e; omega
        have e2 : bitB y j = false := by
          cases e : bitB y j
          · rfl
          · have := bitB_lt (n := 6) hy e; omega
        rw [e1, e2]
    · rintro rfl; simp
  rw [key]
  rfl
end

theorem Upd.setRow {R : Nat → Prop} {a w : World} (h : Upd R a w) {g : Nat} (hp : a.heap.size ≤ g ∨ R g) (cs : Array Value) : Upd R a (w.setRow g cs) :=
  ⟨h.os, h.tape, h.output, by simpa using h.size, fun i hi hr => (setRow_other w g i cs (by
    rintro rfl
    rcases hp with hp | hp
    · omega
    · exact hr hp)).trans (h.block i hi hr)⟩

section
variable {F : Fence} {m : Nat} {P : Program} {w : World}
theorem wpListIn_load_row {ops : Array Oper} {rest : List Oper} {o : Oper} {a : Act} {Q : Exit → Act → World → Prop} (hgd : o.guard = none) (ty : TypeId) (x : Operand) (ho : o.op = .load ty x)
    (g : Nat) (hx : a.eval x = .pointer (some ⟨g, 0, none⟩)) (t : TypeId) (cs : Array Value) (fr : Nat × Nat) (d : TypeDesc) (hg : w.heap[g]? = some (.cells cs t fr))
    (hu : P.underlying ty = some d) (hd : (match d with | .struct _ | .array _ _ => true | _ => false) = true) (hi : (P.info? ty).map (·.size) = some cs.size)
    (h : wpListIn F m P ops Q rest (a.put o.dst (.agg cs)) w) : wpListIn F m P ops Q (o :: rest) a w := by
  refine wpListIn_plain hgd fun K hK => ?_
  unfold Oper.wpIn
  refine ⟨?_, ?_⟩
  · simp [Oper.about, ho]
  · rw [Oper.semAt_plain F _ _ (by rw [ho]; intro c hc'; cases hc')]
    simp only [execOp, ho, hx, Instr.loadAt, Instr.sureAddr, Sem.run_bind, Sem.run_pure, Result.andThen_ok, run_loadVar_row w g t ty cs fr d hg hu hd hi]
    exact hK _ _ h
theorem wpListIn_store_row {ops : Array Oper} {rest : List Oper} {o : Oper} {a : Act} {Q : Exit → Act → World → Prop} (hgd : o.guard = none) (ty : TypeId) (x y : Operand) (ho : o.op = .store ty x y)
    (g : Nat) (cells : Array Value) (hx : a.eval x = .pointer (some ⟨g, 0, none⟩)) (hy : a.eval y = .agg cells)
    (t : TypeId) (old : Array Value) (hg : w.heap[g]? = some (.cells old t (0, 0))) (hi : (P.info? ty).map (·.size) = some cells.size)
    (hold : old.size = cells.size) (h1 : cells.all (·.oneCell') = true)
    (h : wpListIn F m P ops Q rest (a.put o.dst undef) (w.setRow g cells)) : wpListIn F m P ops Q (o :: rest) a w := by
  refine wpListIn_plain hgd fun K hK => ?_
  unfold Oper.wpIn
  refine ⟨?_, ?_⟩
  · simp [Oper.about, ho]
  · rw [Oper.semAt_plain F _ _ (by rw [ho]; intro c hc'; cases hc')]
    simp only [execOp, ho, hx, hy, Instr.storeAt, Instr.sureAddr, Sem.run_bind, Sem.run_pure, Result.andThen_ok, run_storeVar_row w g t ty old cells hg hi hold h1]
    exact hK _ _ h
end
/-- In a region that draws its order: a whole variable's load, whose block reads the same in every world met. -/
theorem yieldsIf_load_row {P : Program} {ops : Array Oper} {S : World → Prop} {op : Oper} {a : Act} (hw : Region.wanted op (yielded ops a.tmps) = true) (ty : TypeId) (x : Operand) (ho : op.op = .load ty x)
    (g : Nat) (hx : a.eval x = .pointer (some ⟨g, 0, none⟩)) (t : TypeId) (cs : Array Value) (d : TypeDesc) (hS : ∀ w, S w → w.heap[g]? = some (.cells cs t (0, 0)))
    (hu : P.underlying ty = some d) (hd : (match d with | .struct _ | .array _ _ => true | _ => false) = true) (hi : (P.info? ty).map (·.size) = some cs.size) : YieldsIf P ops S op (.agg cs) a :=
  .inl ⟨hw, fun w hw' => by
    unfold execOp
    simp only [ho, hx, Instr.loadAt, Instr.sureAddr, Sem.run_bind, Sem.run_pure, Result.andThen_ok, run_loadVar_row w g t ty cs (0, 0) d (hS w hw') hu hd hi]⟩
end Go.Proofs.Ythjmedbjdjkilaa

/- How many ways what is left is lined up: the program's count, with what it has counted before in a map. -/
namespace Go.Proofs.Ythjmedbjdjkilaa
open Go.RowKit Go.Shelf
attribute [local go_sem] Oper.semAt_some
attribute [local go_sem, local simp] wide_fn

/-- A set, as a key. -/
def keyN (s : Nat) : Lit := .int .i64 (s : Int)
theorem keyN_wf {s : Nat} (hs : s < 64) : (Lit.int .i64 (s : Int)).wf = true := by
  simp [Lit.wf, IntKind.min, IntKind.max, IntKind.signed, IntKind.bits]; omega
/-- The map in block m, written at most k times, holds counts that are right. -/
def MapOk (zs : List Int) (w : World) (m k : Nat) : Prop := ∃ D : DataW Unit, w.ownsMap Try.prog 65 (plainElem Try.prog 3) m k D ∧
  ∀ s : Nat, s < 64 → Maps.has D (keyN s) = true → ∀ d, D.atKey (keyN s) d = .lit (.int .i64 (cF zs s))
theorem MapOk.lt {zs : List Int} {w : World} {m k : Nat} (h : MapOk zs w m k) : m < w.heap.size := by
  obtain ⟨D, ⟨es, clock, hb, _⟩, _⟩ := h
  exact (Array.getElem?_eq_some_iff.1 hb).1
theorem MapOk.upd {zs : List Int} {w w' : World} {m k : Nat} {R : Nat → Prop} (h : MapOk zs w m k) (hu : Upd R w w') (hr : ¬ R m) : MapOk zs w' m k := by
  have hl := h.lt
  obtain ⟨D, ⟨es, clock, hb, r⟩, hin⟩ := h
  exact ⟨D, ⟨es, clock, (hu.block m hl hr).trans hb, r⟩, hin⟩
theorem MapOk.mono {zs : List Int} {w : World} {m k k' : Nat} (h : MapOk zs w m k) (hk : k ≤ k') : MapOk zs w m k' := by
  obtain ⟨D, h1, h2⟩ := h
  exact ⟨D, h1.mono hk, h2⟩
theorem MapOk.new {zs : List Int} {w : World} {m : Nat} (h : w.heap[m]? = some (.map #[] 0)) : MapOk zs w m 0 := by
  obtain ⟨es, clock, hb, F, hs, hD⟩ := World.ownsMap_made (H := Unit) w Try.prog 65 (plainElem Try.prog 3)
  rw [heap_alloc_new] at hb
  cases hb
  refine ⟨.map [], ⟨#[], 0, h, F, hs, hD⟩, fun s _ hh => ?_⟩
  simp [Maps.has] at hh
theorem keyed : Go.Maps.Keyed Try.prog 65 := Go.Maps.int_keyed Try.underlying65
theorem key_of {s : Nat} (hs : s < 64) : keyOf Try.prog 65 (.int .i64 (s : Int)) = some (keyN s) := Go.Maps.keyOf_int_mk Try.underlying65 (keyN_wf hs)
theorem keyN_lit (s : Nat) : WideAt.IsKeyLit (keyN s) := trivial
theorem MapOk.put {zs : List Int} {w : World} {m k s : Nat} {D : DataW Unit} (h : ∀ t : Nat, t < 64 → Maps.has D (keyN t) = true → ∀ d, D.atKey (keyN t) d = .lit (.int .i64 (cF zs t)))
    (hm : Maps.IsMap D) (hw : w.ownsMap Try.prog 65 (plainElem Try.prog 3) m k (D.put (keyN s) (.lit (.int .i64 (cF zs s))))) : MapOk zs w m k := by
  refine ⟨_, hw, fun t ht hh d => ?_⟩
  by_cases hts : t = s
  · subst hts
    exact Maps.atKey_put_same hm (keyN_lit t) _ _
  · have hne : keyN t ≠ keyN s := fun e => by unfold keyN at e; injection e with _ e; omega
    rw [Maps.atKey_put_other hne]
    rw [Maps.has_put_other hne] at hh
    exact h t ht hh d
theorem zero_int (w : World) : (zeroValue 3).run Try.prog w = .ok (.int .i64 0) w := by kernel_rfl

set_option maxRecDepth 100000 in
set_option maxHeartbeats 4000000 in
theorem lcount_any (zs : List Int) (hvo : VoP zs) (n : Nat) (hlen0 : zs.length = n) (b m : Nat) (hbm : b ≠ m) : ∀ (N s k : Nat) (w : World), s ≤ N → s < 2 ^ n → Arr w b 65 (du zs) → MapOk zs w m k → k + writes s ≤ 100000000 →
    Calls Try.prog 65 #[lineV b m n, .int .i64 (s : Int)] w fun e w' => e = .returned (.int .i64 (cF zs s)) ∧ MapOk zs w' m (k + writes s) ∧ Upd (fun i => i = m) w w' := by
    intro N
    refine Nat.strongRecOn N fun N ih => ?_
    intro s k w hN hs hA hM hk
    have hlen := Lib.hid hlen0
    have hn6 : n ≤ 6 := by have := hvo.1; rw [hlen0] at this; exact this
    have hs64 : s < 64 := Nat.lt_of_lt_of_le hs (pow_le64 hn6)
    have hwr := writes_le hs64
    have hml := hM.lt
    have hbl := hA.lt
    clear hlen0
    have hM0 := hM
    obtain ⟨D, hown, hin⟩ := hM
    have Hin := Lib.hid hin
    clear hin
    unfold lineV
    by_cases h0 : s = 0
    · subst h0
      have Hc := Lib.hid (cF_zero zs)
      go_enter Try.func65, Try.ntmps65
      go_wp2
      go_ret
      exact ⟨ret_int (by rw [Hc.out]; rfl), (hM0.upd (((Upd.refl (fun _ => False) w).alloc _).alloc _) (fun e => e)).mono (by omega), (((Upd.refl _ w).alloc _).alloc _)⟩
    · have hsb : ((s : Int) == 0) = false := by simpa using h0
      have hz : ∀ w, (zeroValue 3).run Try.prog w = .ok (.int .i64 0) w := zero_int
      cases hh : Maps.has D (keyN s)
      · refine (callsIn_wide (n := 9)).1 ?_
        refine callsIn_of_wp_marks Try.func65 rfl trivial ?_ rfl
        simp only [Try.ntmps65, List.size_toArray, List.length_cons, List.length_nil, Nat.reduceAdd, Nat.reduceSub, Array.replicate_succ, Array.replicate_zero, List.push_toArray, List.append_toArray, List.nil_append, List.cons_append]
        have hN := Lib.hid (show powI n = ((2 ^ n : Nat) : Int) by simp [powI])
        have bL : (((w.alloc (.cells #[Value.slice (some ⟨b, 0, none⟩) n n, .map (some m)] 62)).alloc (.cells #[Value.int .i64 (s : Int)] 65)).alloc (.cells #[Value.int .i64 0] 3)).heap[w.heap.size]? = some (.cells #[Value.slice (some ⟨b, 0, none⟩) n n, .map (some m)] 62 (0, 0)) := ((Below.heap_alloc _ _ _ (by simp; omega)).trans (Below.heap_alloc _ _ _ (by simp))).trans (heap_alloc_new w _)
        have bS := (Boxed.new (w.alloc (.cells #[Value.slice (some ⟨b, 0, none⟩) n n, .map (some m)] 62)) 65 (.int .i64 (s : Int))).alloc (.cells #[Value.int .i64 0] 3)
        have bC := Boxed.new ((w.alloc (.cells #[Value.slice (some ⟨b, 0, none⟩) n n, .map (some m)] 62)).alloc (.cells #[Value.int .i64 (s : Int)] 65)) 3 (.int .i64 0)
        have hu0 : Upd (fun _ => False) w (((w.alloc (.cells #[Value.slice (some ⟨b, 0, none⟩) n n, .map (some m)] 62)).alloc (.cells #[Value.int .i64 (s : Int)] 65)).alloc (.cells #[Value.int .i64 0] 3)) := (((Upd.refl _ w).alloc _).alloc _).alloc _
        have hz0 : (((w.alloc (.cells #[Value.slice (some ⟨b, 0, none⟩) n n, .map (some m)] 62)).alloc (.cells #[Value.int .i64 (s : Int)] 65)).alloc (.cells #[Value.int .i64 0] 3)).heap.size = w.heap.size + 3 := by simp
        simp only [World.size_alloc] at bS bC
        gi_wp2_with (first
          | (gi_at_lookup; refine wpListIn_lookup_own_ok_int _ rfl _ _ _ rfl 65 3 .i64 keyed Try.underlying60 Try.underlying3 (zero_int _) m k D rfl ((hown.alloc _).alloc _) _ (keyN s) rfl (key_of hs64) ?_; rw [hh]; intro c hat hwc)
          | (refine wpListIn_load_row rfl _ _ rfl w.heap.size rfl _ _ (0, 0) _ bL Try.underlying62 rfl (by kernel_rfl) ?_))
        clear hat hwc
        obtain ⟨X, hX⟩ : ∃ X, (((w.alloc (.cells #[Value.slice (some ⟨b, 0, none⟩) n n, .map (some m)] 62)).alloc (.cells #[Value.int .i64 (s : Int)] 65)).alloc (.cells #[Value.int .i64 0] 3)) = X := ⟨_, rfl⟩
        rw [hX] at bL bS bC hu0 hz0 ⊢
        clear hX
        have hAX : Arr X b 65 (du zs) := hA.upd hu0 (fun e => e)
        have hpos := powI_pos (n : Int)
        have hNs : (s : Int) < powI n := by rw [hN.out]; omega
        refine (callsIn_wide.2 (free_any b m n zs s hvo.sets X (hAX.ints' hAX.lt (by rw [du_len, hlen.out])) (by omega) hNs)).mono ?_
        rintro e w4 ⟨rfl, hB4⟩
        have z4 := hB4.size
        have hT := topsTo_bd (du zs) (s : Int) n
        have hpn : powI n ≤ 64 := powI_le6 (by omega)
        have Hnx := Lib.hid (show itemsL (topsTo (du zs) (s : Int) n) = nextL zs s by unfold nextL; rw [hlen.out])
        generalize topsTo (du zs) (s : Int) n = T at *
        gi_wp2_with (gi_at_call 107; refine (callsIn_wide.2 (each_any _ _)).mono ?_; rintro e w' ⟨rfl, rfl⟩)
        have bE := Boxed.new w4 65 (.int .i64 T)
        have hu4 : Upd (fun _ => False) X (w4.alloc (.cells #[Value.int .i64 T] 65)) := ((Upd.refl _ X).below hB4 (fun k h1 h2 => by omega)).alloc _
        have hzz : (w4.alloc (.cells #[Value.int .i64 T] 65)).heap.size = w4.heap.size + 1 := by simp
        obtain ⟨W0, hW0⟩ : ∃ W0, w4.alloc (.cells #[Value.int .i64 T] 65) = W0 := ⟨_, rfl⟩
        rw [hW0] at bE hu4 hzz ⊢
        clear hW0
        have hA0 := hAX.upd hu4 (fun e => e)
        have hM1 := (hM0.upd hu0 (fun e => e)).upd hu4 (fun e => e)
        have bL0 := (hu4.block w.heap.size (by omega) (fun e => e)).trans bL
        have bS0 := hu4.boxed bS (fun e => e)
        have bC0 := hu4.boxed bC (fun e => e)
        have hU0 : Upd (fun _ => False) w W0 := hu0.trans' hu4 (fun i hi e => e)
        clear hu0 hu4 bL bS bC hAX hB4
        refine range_out (n := 9) (gf := 132) (lb := #[.pointer (some ⟨w4.heap.size, 0, none⟩)]) rfl (enters_of Try.func132 (by kernel_rfl) rfl) (encs := encI) (L := itemsL T)
          (fun i => i = m ∨ i = w.heap.size + 1 + 1) (fun i e => by omega) (fun _ => rfl)
          (fun W1 l1 hu1 hl1 hl2 => each_iter T hT.1 (by omega) _ _ W1 (hu1.boxed bE (fun e => e)) (fun e => by omega))
          (fun pre D W => Boxed W (w.heap.size + 1 + 1) 3 (.int .i64 (accF zs s pre : Int)) ∧ MapOk zs W m (k + pre.length * (writes s / 7)) ∧ Upd (fun i => i = m ∨ i = w.heap.size + 1 + 1) W0 W)
          (fun _ _ _ _ => False)
          (fun _ D X Y hs hu => ⟨hu.boxed hs.1 (fun e => by omega), hs.2.1.upd hu (fun e => by omega), hs.2.2.trans' hu (fun i hi e => by omega)⟩)
          (fun _ _ _ _ _ hs _ => hs)
          ⟨bC0, by simpa using hM1, Upd.refl _ _⟩ ?owes ?done ?stop
        case owes =>
          rintro l1 pre x D1 W hl1 hl2 hDl hD1 - hpre K hK
          gi_wp2
          refine hK _ _ (Upd.refl _ _) ?_
          rintro Wb hWb - ⟨bC1, hM2, hU⟩
          clear hK
          rw [Hnx.out] at hpre
          obtain ⟨hxn, hxb⟩ := nextL_mem hvo (hpre.subset (by simp : x ∈ pre ++ [x]))
          rw [hlen.out] at hxn
          have hge := ge_bit_fin ⟨s, hs64⟩ ⟨x, by omega⟩ hxb
          simp only at hge
          have hpx := Nat.two_pow_pos x
          have Hacc := Lib.hid (accF_snoc zs s pre x)
          have hab := accF_le hvo h0 (by rw [hlen.out]; exact hs) hpre
          rw [Hacc.out] at hab
          have Hwo := Lib.hid (without_is hs64 (show x < 6 by omega) hxb)
          have hwx := writes_sub hs64 (show x < 6 by omega) hxb
          have hpl : pre.length + 1 ≤ 6 := by
            have h1 := hpre.length_le
            have h2 := nextL_len hvo s
            simp at h1; omega
          have hsb2 := hU.size
          have hsb : w.heap.size + 3 ≤ Wb.heap.size := by omega
          have bC1d : Boxed Wb.drew (w.heap.size + 1 + 1) 3 (.int .i64 (accF zs s pre : Int)) := bC1
          have bSb := hU.boxed bS0 (fun e => by omega)
          have bLb := (hU.block w.heap.size (by omega) (fun e => by omega)).trans bL0
          have hAb : Arr Wb b 65 (du zs) := hA0.upd hU (fun e => by omega)
          have hAd : Arr Wb.drew b 65 (du zs) := hAb
          have hMd : MapOk zs Wb.drew m (k + pre.length * (writes s / 7)) := hM2
          have hw7 : writes s / 7 = writes (s - 2 ^ x) := by omega
          rw [hw7] at hMd
          have hq1 := (writes_le (show s - 2 ^ x < 64 by omega)).1
          have hmul : pre.length * writes (s - 2 ^ x) ≤ 5 * writes (s - 2 ^ x) := Nat.mul_le_mul_right _ (by omega)
          have hrec := fun w' hA' hM' => ih (s - 2 ^ x) (by omega) (s - 2 ^ x) (k + pre.length * writes (s - 2 ^ x)) w' (Nat.le_refl _) (by omega) hA' hM' (by omega)
          have Hw7 := Lib.hid hw7
          have Hlen2 := Lib.hid (show k + pre.length * writes (s - 2 ^ x) + writes (s - 2 ^ x) = k + (pre ++ [x]).length * writes (s - 2 ^ x) by rw [List.length_append, List.length_singleton, Nat.add_mul]; omega)
          clear hw7 hwx
          generalize hacc : accF zs s pre = acc at *
          clear hacc
          obtain ⟨c, hc⟩ : ∃ c, cF zs (s - 2 ^ x) = c := ⟨_, rfl⟩
          rw [hc] at hab Hacc
          simp only [hc] at hrec
          clear hc
          have hsum : IntKind.i64.wrap ((acc : Int) + (c : Int)) = ((acc + c : Nat) : Int) := by rw [IntKind.wrap_i64]; omega
          have hHeld : (fun w' => w'.cell? ⟨w.heap.size + 1 + 1, 0, none⟩ = some (.int .i64 (acc : Int)) ∧ w'.heap[w.heap.size]? = some (.cells #[Value.slice (some ⟨b, 0, none⟩) n n, .map (some m)] 62 (0, 0)) ∧ w'.cell? ⟨w.heap.size + 1, 0, none⟩ = some (.int .i64 (s : Int))) Wb.drew := ⟨bC1.cell, bLb, bSb.cell⟩
          gi_wp2
          refine region_T_round (S := fun w' => w'.cell? ⟨w.heap.size + 1 + 1, 0, none⟩ = some (.int .i64 (acc : Int)) ∧ w'.heap[w.heap.size]? = some (.cells #[Value.slice (some ⟨b, 0, none⟩) n n, .map (some m)] 62 (0, 0)) ∧ w'.cell? ⟨w.heap.size + 1, 0, none⟩ = some (.int .i64 (s : Int))) 7 (by kernel_rfl) (by kernel_rfl) (by rintro ⟨_, _, h⟩; exact h) ?_
          refine anyT_take (i := 0) (oi := ?oi0) (v := ?v0) ?hi0 (by kernel_rfl) ?hq0 ?hy0 (by assumption) ?rest0
          case hi0 => (simp only [List.getElem?_toArray, List.getElem?_cons_zero]; first | done | rfl)
          case hq0 => exact fun _ _ _ h => h
          case hy0 => (refine Or.inl ⟨by rfl, ?_⟩; intro wz hSw; obtain ⟨hSa, hSb, hSc⟩ := hSw; go_simp; first | done | with_reducible rfl)
          try simp only [Act.put, List.setIfInBounds_toArray, List.set_cons_zero, List.set_cons_succ]
          refine anyT_take (i := 1) (oi := ?oi1) (v := .agg #[Value.slice (some ⟨b, 0, none⟩) n n, .map (some m)]) ?hi1 (by kernel_rfl) ?hq1 ?hy1 (by assumption) ?rest1
          case hi1 => (simp only [List.getElem?_toArray, List.getElem?_cons_succ, List.getElem?_cons_zero]; first | done | rfl)
          case hq1 => exact fun _ _ _ h => h
          case hy1 => exact yieldsIf_load_row (by rfl) _ _ rfl _ rfl _ _ _ (fun _ h => h.2.1) Try.underlying62 rfl (by kernel_rfl)
          try simp only [Act.put, List.setIfInBounds_toArray, List.set_cons_zero, List.set_cons_succ]
          refine anyT_take (i := 2) (oi := ?oi2) (v := ?v2) ?hi2 (by kernel_rfl) ?hq2 ?hy2 (by assumption) ?rest2
          case hi2 => (simp only [List.getElem?_toArray, List.getElem?_cons_succ, List.getElem?_cons_zero]; first | done | rfl)
          case hq2 => exact fun _ _ _ h => h
          case hy2 => (refine Or.inl ⟨by rfl, ?_⟩; intro wz hSw; obtain ⟨hSa, hSb, hSc⟩ := hSw; go_simp; first | done | with_reducible rfl)
          try simp only [Act.put, List.setIfInBounds_toArray, List.set_cons_zero, List.set_cons_succ]
          refine anyT_take (i := 3) (oi := ?oi3) (v := ?v3) ?hi3 (by kernel_rfl) ?hq3 ?hy3 (by assumption) ?rest3
          case hi3 => (simp only [List.getElem?_toArray, List.getElem?_cons_succ, List.getElem?_cons_zero]; first | done | rfl)
          case hq3 => exact fun _ _ _ h => h
          case hy3 => (refine Or.inl ⟨by rfl, ?_⟩; intro wz hSw; obtain ⟨hSa, hSb, hSc⟩ := hSw; go_simp; first | done | with_reducible rfl)
          try simp only [Act.put, List.setIfInBounds_toArray, List.set_cons_zero, List.set_cons_succ]
          refine anyT_one (i := 4) (by kernel_rfl) rfl (fun K' hK => ?_)
          go_simp
          refine (without_any _ _ _ (by omega) (by omega) (by omega) (by omega)).mono ?_
          rintro e wq ⟨rfl, rfl⟩
          rw [Hwo.out]
          refine hK.out _ _ (fun _ => hHeld) ?_
          clear hK K'
          try simp only [Act.put, List.setIfInBounds_toArray, List.set_cons_zero, List.set_cons_succ]
          refine anyT_one (i := 5) (by kernel_rfl) rfl (fun K' hK => ?_)
          go_simp
          refine (hrec Wb.drew hAd hMd).mono ?_
          rintro e w6 ⟨rfl, hM6, hU6⟩
          have h6 : (fun w' => w'.cell? ⟨w.heap.size + 1 + 1, 0, none⟩ = some (.int .i64 (acc : Int)) ∧ w'.heap[w.heap.size]? = some (.cells #[Value.slice (some ⟨b, 0, none⟩) n n, .map (some m)] 62 (0, 0)) ∧ w'.cell? ⟨w.heap.size + 1, 0, none⟩ = some (.int .i64 (s : Int))) w6 := ⟨hU6.cell hHeld.1 (by simp; omega), (hU6.block w.heap.size (by have := hsb; simp; omega) (by omega)).trans hHeld.2.1, hU6.cell hHeld.2.2 (by simp; omega)⟩
          refine hK.out _ _ (fun _ => h6) ?_
          clear hK K' hHeld
          have hHeld := h6
          try simp only [Act.put, List.setIfInBounds_toArray, List.set_cons_zero, List.set_cons_succ]
          refine anyT_take (i := 6) (oi := ?oi6) (v := .int .i64 ((acc + c : Nat) : Int)) ?hi6 (by kernel_rfl) ?hq6 ?hy6 (by assumption) ?rest6
          case hi6 => (simp only [List.getElem?_toArray, List.getElem?_cons_succ, List.getElem?_cons_zero]; first | done | rfl)
          case hq6 => exact fun _ _ _ h => h
          case hy6 => (refine Or.inl ⟨by rfl, ?_⟩; intro wz hSw; obtain ⟨hSa, hSb, hSc⟩ := hSw; go_simp; first | done | with_reducible rfl | simp)
          try simp only [Act.put, List.setIfInBounds_toArray, List.set_cons_zero, List.set_cons_succ]
          have hcC6 := h6.1
          have hfC6 := (hU6.boxed (v := .int .i64 (acc : Int)) (t := 3) bC1d (by omega)).frozen
          refine anyT_one (i := 7) (by kernel_rfl) rfl (fun K' hK => ?_)
          go_simp
          refine hK.out _ _ (fun h => absurd rfl h) ?_
          clear hK K'
          try simp only [Act.put, List.setIfInBounds_toArray, List.set_cons_zero, List.set_cons_succ]
          refine anyT_done (by kernel_rfl) ?_ _
          have bC6 : Boxed w6 (w.heap.size + 1 + 1) 3 (.int .i64 (acc : Int)) := hU6.boxed bC1d (by omega)
          have hz6 : Wb.heap.size ≤ w6.heap.size := hU6.size
          have hus : Upd (fun i => i = w.heap.size + 1 + 1) w6 (w6.setCell ⟨w.heap.size + 1 + 1, 0, none⟩ (.int .i64 ((acc + c : Nat) : Int))) := (Upd.refl (fun i => i = w.heap.size + 1 + 1) w6).setCell (p := ⟨w.heap.size + 1 + 1, 0, none⟩) (.inr rfl) _
          have hM7 : MapOk zs w6 m (k + (pre ++ [x]).length * (writes s / 7)) := by rw [Hw7.out, ← Hlen2.out]; exact hM6
          have hU7 : Upd (fun i => i = m ∨ i = w.heap.size + 1 + 1) W0 w6 := hU.drew.trans' hU6 (fun i hi e => .inl e)
          have hV7 : Upd (fun i => (i = m ∨ i = w.heap.size + 1 + 1) ∨ D1 i ∨ W.heap.size ≤ i) Wb w6 := (Upd.refl _ Wb).drew.trans' hU6 (fun i hi e => .inl (.inl e))
          gi_wp2
          exact ⟨D1, ⟨by rw [Hacc.out]; exact bC6.set _, hM7.upd hus (fun e => by omega), hU7.setCell (p := ⟨w.heap.size + 1 + 1, 0, none⟩) (.inr (.inr rfl)) _⟩, hV7.setCell (p := ⟨w.heap.size + 1 + 1, 0, none⟩) (.inr (.inl (.inr rfl))) _, fun k hk => .inl hk⟩
        case done =>
          rintro d D1 W hd ⟨bC1, hM2, hU⟩ hD1 hKd
          rw [Hnx.out] at bC1 hM2
          rw [accF_all hvo h0] at bC1
          have hcf := cF_le hvo (s := s) (by rw [hlen.out]; exact hs)
          have hll := nextL_len hvo s
          have hfin : k + (nextL zs s).length * (writes s / 7) + 1 ≤ k + writes s := by
            by_cases hl0 : (nextL zs s).length = 0
            · rw [hl0, Nat.zero_mul]; omega
            · obtain ⟨x, hx⟩ := List.exists_mem_of_length_pos (show 0 < (nextL zs s).length by omega)
              obtain ⟨hxn, hxb⟩ := nextL_mem hvo hx
              rw [hlen.out] at hxn
              have hwx := writes_sub hs64 (show x < 6 by omega) hxb
              have hge := ge_bit_fin ⟨s, hs64⟩ ⟨x, by omega⟩ hxb
              simp only at hge
              have hpx := Nat.two_pow_pos x
              have hq1 := (writes_le (show s - 2 ^ x < 64 by omega)).1
              have hmul : (nextL zs s).length * (writes s / 7) ≤ 6 * (writes s / 7) := Nat.mul_le_mul_right _ hll
              generalize (nextL zs s).length * (writes s / 7) = P at *
              generalize writes (s - 2 ^ x) = q at *
              omega
          have hlt := (Array.getElem?_eq_some_iff.1 hKd).1
          have bLd := (hU.block w.heap.size (by omega) (fun e => by omega)).trans bL0
          have bSd := hU.boxed bS0 (fun e => by omega)
          have hcL : W.cell? ⟨w.heap.size, 1, none⟩ = some (.map (some m)) := by rw [cell_of_row W _ 1 _ _ (0, 0) bLd]; rfl
          have hcS := bSd.cell
          have hcC := bC1.cell
          have hmW := hM2.lt
          obtain ⟨D', hown', hin'⟩ := hM2
          have Hin' := Lib.hid hin'
          clear hin'
          have hval := plainElem_int (H := Unit) (P := Try.prog) Try.underlying3 (show (Lit.int .i64 (cF zs s : Int)).wf = true by simp [Lit.wf, IntKind.min, IntKind.max, IntKind.signed, IntKind.bits]; omega)
          have hkM : k + (nextL zs s).length * (writes s / 7) < maxLen := by unfold maxLen; omega
          have Hc0 : some m ≠ some (w.heap.size + 1 + 1) := fun e => by cases e; omega
          generalize hcc : cF zs s = cc at *
          have Hcc := Lib.hid hcc
          clear hcc
          gi_wp2_with (gi_at_mapUpdate; refine wpListIn_mapUpdate_own _ rfl _ _ _ _ rfl 65 3 keyed Try.underlying60 _ m _ D' rfl hown' hkM _ _ (keyN s) rfl rfl (key_of hs64) _ [] hval ?_; intro w1 hown1 hg1; have bC2 := bC1.kept hg1 (fun e => by cases e; omega); have hcC2 := bC2.cell)
          rename_i w1
          have hM9 : MapOk zs w1 m (k + (nextL zs s).length * (writes s / 7) + 1) := MapOk.put (s := s) Hin'.out hown'.isMap (by rw [Hcc.out]; exact hown1)
          have hU9 : Upd (fun i => i = m ∨ i = w.heap.size + 1 + 1) W0 w1 := hU.grown hg1 (fun i e => by cases e; exact .inr (.inl rfl))
          have hK9 : w1.heap[d]? = some _ := (hg1.block d hlt (fun e => by cases e; omega)).trans hKd
          refine leaves_marks [d] w1 ⟨by simp, fun e he => ?_⟩ (fun W' hu' => ?_)
          · rw [List.mem_singleton.1 he]
            exact hK9
          · refine ⟨.int .i64 (cc : Int), by simp [results, Try.f65, go_sem], ret_int (by rw [Hcc.out]), (hM9.upd hu' (fun e => by simp at e; omega)).mono hfin, ?_⟩
            exact ((hU0.mono fun _ _ e => e.elim).trans' hU9 (fun i hi e => by omega)).trans' hu' (fun i hi e => by simp at e; omega)
        case stop =>
          rintro d D1 co pre W hd hpre h
          exact h.elim
      · have Hat := Lib.hid (Hin.out s hs64 hh)
        go_enter Try.func65, Try.ntmps65
        go_wp2_with (at_lookup; refine wpList_lookup_own_ok_int _ rfl _ _ _ rfl 65 3 .i64 keyed Try.underlying60 Try.underlying3 (zero_int _) m k D rfl ((hown.alloc _).alloc _) _ (keyN s) rfl (key_of hs64) ?_; rw [hh]; intro c hat hwc)
        go_ret
        refine ⟨ret_int ?_, hM0.upd (((Upd.refl (fun _ => False) w).alloc _).alloc _) (fun e => e) |>.mono (by omega), (((Upd.refl _ w).alloc _).alloc _)⟩
        have := Hat.out (.lit (.int .i64 0))
        rw [hat] at this
        injection this with this
        injection this
end Go.Proofs.Ythjmedbjdjkilaa

/- Tops and ideals: tops stand for all below; what is below a set is an ideal; what an ideal leaves. No program. -/
namespace Go.Proofs.Ythjmedbjdjkilaa

theorem bit_none {zs : List Int} {a b : Nat} (h : bitB (zs[a]?.getD 0) b = true) : a < zs.length := by
  rcases Nat.lt_or_ge a zs.length with h1 | h1
  · exact h1
  · rw [List.getElem?_eq_none (by omega), Option.getD_none, bitB_zero] at h; cases h
theorem top_over {zs : List Int} (h : VoP zs) {s : Int} (h1 : s < powI zs.length) : ∀ (m a : Nat), zs.length - rank zs a ≤ m → bitB s a = true → ∃ t : Nat, bitB (topsTo zs s zs.length) t = true ∧ (a = t ∨ lt zs a t)
  | 0, a, hm, ha => by have := rank_bd h (bitB_lt h1 ha); omega
  | m + 1, a, hm, ha => by
    by_cases hz : andI (zs[a]?.getD 0) s = 0
    · exact ⟨a, (topsTo_bit a _).2 ⟨bitB_lt h1 ha, ha, hz⟩, .inl rfl⟩
    · have : ∃ b : Nat, bitB s b = true ∧ bitB (zs[a]?.getD 0) b = true := by
        refine Classical.byContradiction fun hn => hz (andI_zero.2 fun b hb => ?_)
        cases e : bitB (zs[a]?.getD 0) b
        · rfl
        · exact absurd ⟨b, hb, e⟩ hn
      obtain ⟨b, hb, hab⟩ := this
      have hl : lt zs a b := ⟨bit_none hab, hab⟩
      have hr := rank_lt h hl
      obtain ⟨t, ht, e⟩ := top_over h h1 m b (by omega) hb
      refine ⟨t, ht, .inr ?_⟩
      rcases e with rfl | e
      · exact hl
      · exact h.trans hl e
section
variable {zs : List Int} {s : Int}
theorem tops_in (zs : List Int) (s : Int) : lessI (topsTo zs s zs.length) s = 0 := lessI_none.2 fun _ hj => ((topsTo_bit _ _).1 hj).2.1
theorem tops_ap (h : VoP zs) : apB zs (topsTo zs s zs.length) = true := by
  have hb := topsTo_bd zs s zs.length
  have hp := powI_le6 (n := (zs.length : Int)) (by have := h.1; omega)
  refine (apB_iff (by omega)).2 fun a b ha hb => ?_
  exact andI_zero.1 ((topsTo_bit _ _).1 ha).2.2 b ((topsTo_bit _ _).1 hb).2.1
theorem tops_none (h : VoP zs) (h0 : 0 ≤ s) (h1 : s < powI zs.length) : (topsTo zs s zs.length == 0) = (s == 0) := by
  have hb := topsTo_bd zs s zs.length
  rw [Bool.eq_iff_iff, beq_iff_eq, beq_iff_eq]
  constructor
  · intro e
    refine bitB_ext h0 (Int.le_refl _) fun j => ?_
    rw [bitB_zero]
    cases hj : bitB s j
    · rfl
    · obtain ⟨t, ht, _⟩ := top_over h h1 _ j (Nat.le_refl _) hj
      rw [e, bitB_zero] at ht; cases ht
  · intro e
    refine bitB_ext hb.1 (Int.le_refl _) fun j => ?_
    rw [bitB_zero]
    cases hj : bitB (topsTo zs s zs.length) j
    · rfl
    · have := ((topsTo_bit _ _).1 hj).2.1
      rw [e, bitB_zero] at this; cases this
theorem in_bel (h : Sets zs) (h1 : s < powI zs.length) : lessI s (belI zs s) = 0 := lessI_none.2 fun j hj => (belI_bit h h1 j).2 (.inl hj)
theorem bel_ideal (h : VoP zs) (h0 : 0 ≤ s) (h1 : s < powI zs.length) : idB zs (belI zs s) = true := by
  have hb := belI_bd h.sets h0 h1
  refine (idB_iff h.sets hb.1 hb.2).2 fun a b hb hz => ?_
  rw [belI_bit h.sets h1] at hb ⊢
  rcases hb with hb | ⟨c, hc, hbc⟩
  · exact .inr ⟨b, hb, hz⟩
  · exact .inr ⟨c, hc, (h.trans (a := a) (b := b) (c := c) ⟨bit_none hz, hz⟩ ⟨bit_none hbc, hbc⟩).2⟩
theorem tops_bel (h : VoP zs) (_h0 : 0 ≤ s) (h1 : s < powI zs.length) : topsTo zs (belI zs s) zs.length = topsTo zs s zs.length := by
  refine bitB_ext (topsTo_bd _ _ _).1 (topsTo_bd _ _ _).1 fun j => ?_
  rw [Bool.eq_iff_iff, topsTo_bit, topsTo_bit]
  constructor
  · rintro ⟨hj, hb, hz⟩
    have hz' := andI_zero.1 hz
    refine ⟨hj, ?_, andI_zero.2 fun b hb => hz' b ((belI_bit h.sets h1 b).2 (.inl hb))⟩
    rcases (belI_bit h.sets h1 j).1 hb with e | ⟨c, hc, hjc⟩
    · exact e
    · rw [hz' c ((belI_bit h.sets h1 c).2 (.inl hc))] at hjc; cases hjc
  · rintro ⟨hj, hb, hz⟩
    have hz' := andI_zero.1 hz
    refine ⟨hj, (belI_bit h.sets h1 j).2 (.inl hb), andI_zero.2 fun b hb => ?_⟩
    rcases (belI_bit h.sets h1 b).1 hb with e | ⟨c, hc, hbc⟩
    · exact hz' b e
    · cases e : bitB (zs[j]?.getD 0) b
      · rfl
      · have := (h.trans (a := j) (b := b) (c := c) ⟨bit_none e, e⟩ ⟨bit_none hbc, hbc⟩).2
        rw [hz' c hc] at this; cases this
theorem bel_tops (h : VoP zs) (h0 : 0 ≤ s) (h1 : s < powI zs.length) : belI zs (topsTo zs s zs.length) = belI zs s := by
  have hb := topsTo_bd zs s zs.length
  refine bitB_ext (belI_bd h.sets hb.1 hb.2).1 (belI_bd h.sets h0 h1).1 fun j => ?_
  rw [Bool.eq_iff_iff, belI_bit h.sets hb.2, belI_bit h.sets h1]
  constructor
  · rintro (e | ⟨t, ht, hj⟩)
    · exact .inl ((topsTo_bit _ _).1 e).2.1
    · exact .inr ⟨t, ((topsTo_bit _ _).1 ht).2.1, hj⟩
  · rintro (e | ⟨b, hb, hj⟩)
    · obtain ⟨t, ht, e2⟩ := top_over h h1 _ j (Nat.le_refl _) e
      rcases e2 with rfl | e2
      · exact .inl ht
      · exact .inr ⟨t, ht, e2.2⟩
    · obtain ⟨t, ht, e2⟩ := top_over h h1 _ b (Nat.le_refl _) hb
      rcases e2 with rfl | e2
      · exact .inr ⟨b, ht, hj⟩
      · exact .inr ⟨t, ht, (h.trans (a := j) (b := b) (c := t) ⟨bit_none hj, hj⟩ e2).2⟩
theorem bel_self (h0 : idB zs s = true) : belI zs s = s := by simpa [idB] using h0
theorem all_bits' {n : Nat} : ∀ j : Nat, bitB (powI n - 1) j = decide (j < n) := fun j => by
  have e : (powI (n : Int) - 1).toNat = 2 ^ n - 1 := by
    have : powI (n : Int) = ((2 ^ n : Nat) : Int) := by simp [powI]
    omega
  simp [bitB, e, Nat.testBit_two_pow_sub_one]
theorem left_fin : ∀ n : Fin 7, ∀ k : Fin 64, (k.val : Int) < powI (n.val : Int) → lessI (powI (n.val : Int) - 1) (k.val : Int) = powI (n.val : Int) - 1 - (k.val : Int) := by decide +kernel
theorem left_is {n : Nat} {s : Int} (hn : n ≤ 6) (h0 : 0 ≤ s) (h1 : s < powI n) : lessI (powI n - 1) s = powI n - 1 - s := by
  have hpn := powI_le6 (n := (n : Int)) (by omega)
  obtain ⟨k, rfl⟩ := Int.eq_ofNat_of_zero_le h0
  exact left_fin ⟨n, by omega⟩ ⟨k, by omega⟩ h1
theorem left_ideal (h : VoP zs) (h0 : 0 ≤ s) (h1 : s < powI zs.length) (hi : idB zs s = true) : idB (du zs) (powI zs.length - 1 - s) = true := by
  have hp := powI_pos (zs.length : Int)
  refine (idB_iff (du_sets h.sets) (by omega) (by rw [du_len]; omega)).2 fun a b hb hz => ?_
  rw [← left_is h.1 h0 h1] at hb ⊢
  rw [bitB_less, all_bits', Bool.and_eq_true] at hb ⊢
  rw [du_bit h.sets] at hz
  have ha : a < zs.length := bitB_lt (h.sets.2 b (bit_none hz)).2 hz
  refine ⟨by simpa using ha, ?_⟩
  cases e : bitB s a
  · rfl
  · have := (idB_iff h.sets h0 h1).1 hi b a e hz
    rw [this] at hb; simp at hb
theorem tops_apart (h : VoP zs) (h0 : 0 ≤ s) (h1 : s < powI zs.length) (ha : apB zs s = true) : topsTo zs s zs.length = s := by
  have hp := powI_le6 (n := (zs.length : Int)) (by have := h.1; omega)
  refine bitB_ext (topsTo_bd zs s _).1 h0 fun j => ?_
  have key := topsTo_bit (zs := zs) (s := s) j zs.length
  cases e : bitB s j
  · cases e2 : bitB (topsTo zs s zs.length) j
    · rfl
    · have := (key.1 e2).2.1; rw [e] at this; cases this
  · exact key.2 ⟨bitB_lt h1 e, e, andI_zero.2 fun b hb => (apB_iff (by omega)).1 ha j b e hb⟩
/-- The tops of the next ideal are the lowest items that the one ahead lacks. -/
theorem next_tops (h : VoP zs) (_h0 : 0 ≤ s) (_h1 : s < powI zs.length) : topsTo zs (nextI zs s) zs.length = topsTo (du zs) (powI zs.length - 1 - s) zs.length := by
  have hp := powI_pos (zs.length : Int)
  have hp6 := powI_le6 (n := (zs.length : Int)) (by have := h.1; omega)
  have hb := topsTo_bd (du zs) (powI zs.length - 1 - s) zs.length
  have ha := tops_ap (s := powI zs.length - 1 - s) (du_vo h)
  rw [du_len, du_apB h.sets (by omega)] at ha
  unfold nextI
  rw [tops_bel h hb.1 hb.2, tops_apart h hb.1 hb.2 ha]
end
theorem in_set {zs : List Int} {s : Int} (_h : VoP zs) (h0 : 0 ≤ s) (h1 : s < powI zs.length) : inB s 0 (powI zs.length - 1) = true := by
  simp only [inB, decide_eq_true_eq]; omega
theorem set_parts {zs : List Int} {s : Int} (h : (vo zs && inB s 0 (powI zs.length - 1)) = true) : VoP zs ∧ 0 ≤ s ∧ s < powI zs.length := by
  rw [Bool.and_eq_true] at h
  refine ⟨by simpa [vo] using h.1, ?_⟩
  have := h.2
  simp only [inB, decide_eq_true_eq] at this
  omega
theorem topsR_in {zs : List Int} {s : Int} (h : VoP zs) (h0 : 0 ≤ s) (h1 : s < powI zs.length) : topsR zs s = topsTo zs s zs.length := by
  unfold topsR; rw [vo_true h, in_set h h0 h1]; rfl
theorem belowR_in {zs : List Int} {s : Int} (h : VoP zs) (h0 : 0 ≤ s) (h1 : s < powI zs.length) : belowR zs s = belI zs s := by
  unfold belowR; rw [vo_true h, in_set h h0 h1]; rfl
theorem isIdealR_in {zs : List Int} {s : Int} (h : VoP zs) (h0 : 0 ≤ s) (h1 : s < powI zs.length) : isIdealR zs s = idB zs s := by
  unfold isIdealR; rw [vo_true h, in_set h h0 h1]; rfl
end Go.Proofs.Ythjmedbjdjkilaa

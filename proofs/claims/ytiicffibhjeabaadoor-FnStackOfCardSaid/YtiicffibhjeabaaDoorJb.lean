/- Texts that several claims share, one behind the other. -/
import Derived.Test.YtiicffibhjeabaaDoorJa
import Derived.Maps.Own
import Derived.RegionTactic
import Derived.BigRegion
/- The greatest chain has as many items as the greatest height tells; chains and levels counted. No program. -/
namespace Go.Proofs.YtiicffibhjeabaaDoor

/-- The greatest size of the sets less than k that are counted. -/
def grTo (p : Int → Bool) : Nat → Int
  | 0 => 0
  | k + 1 => if p (k : Int) then max (grTo p k) (popI (k : Int)) else grTo p k
theorem grTo_nn (p : Int → Bool) : ∀ k : Nat, 0 ≤ grTo p k
  | 0 => Int.le_refl _
  | k + 1 => by have := grTo_nn p k; unfold grTo; split <;> omega
theorem grTo_bd (p : Int → Bool) : ∀ k : Nat, k ≤ 64 → grTo p k ≤ 6
  | 0, _ => by simp [grTo]
  | k + 1, h => by
    have h1 := grTo_bd p k (by omega)
    have h2 := popI_bd (s := (k : Int)) (by omega) (by omega)
    unfold grTo; split <;> omega
theorem grTo_ge {p : Int → Bool} {j : Nat} (hp : p (j : Int) = true) : ∀ k : Nat, j < k → popI (j : Int) ≤ grTo p k
  | 0, h => by omega
  | k + 1, h => by
    rcases Nat.lt_or_ge j k with h1 | h1
    · have := grTo_ge hp k h1
      unfold grTo; split <;> omega
    · obtain rfl : j = k := by omega
      unfold grTo; rw [if_pos hp]; omega
theorem grTo_le {p : Int → Bool} {m : Int} (h0 : 0 ≤ m) : ∀ k : Nat, (∀ j : Nat, j < k → p (j : Int) = true → popI (j : Int) ≤ m) → grTo p k ≤ m
  | 0, _ => by simpa [grTo] using h0
  | k + 1, h => by
    have h1 := grTo_le h0 k (fun j hj => h j (by omega))
    unfold grTo
    split
    · rename_i hp; have := h k (by omega) hp; omega
    · exact h1

theorem pigeon1 (k : Nat) : ∀ l : List Nat, l.Pairwise (· ≠ ·) → l.length ≤ (l.filter (· != k)).length + 1
  | [], _ => by simp
  | x :: l, h => by
    rw [List.pairwise_cons] at h
    have ih := pigeon1 k l h.2
    rw [List.filter_cons]
    by_cases hx : x = k
    · subst hx
      have e : l.filter (· != x) = l := List.filter_eq_self.2 fun y hy => by simpa using (fun e => h.1 y hy e.symm : ¬ y = x)
      simp [e]
    · simp [hx]; omega
theorem pigeon : ∀ (k : Nat) (l : List Nat), l.Pairwise (· ≠ ·) → (∀ x ∈ l, x < k) → l.length ≤ k
  | 0, l, _, h => by
    cases l with
    | nil => simp
    | cons x l => have := h x (by simp); omega
  | k + 1, l, hp, h => by
    have h1 := pigeon1 k l hp
    have h2 := pigeon k (l.filter (· != k)) (hp.filter _) (fun x hx => by
      have := List.mem_filter.1 hx
      have h3 := h x this.1
      have h4 : x ≠ k := by simpa using this.2
      omega)
    omega

theorem ChP_iff {zs : List Int} {s : Int} (h1 : s < 64) : ChP zs s ↔ ∀ a b : Nat, bitB s a = true → bitB s b = true → a < b → relB zs a b = true := by
  constructor
  · intro h a b ha hb hab
    have hs := itemsL_sorted s
    obtain ⟨i, hi, rfl⟩ := List.getElem_of_mem ((mem_itemsL h1).2 ha)
    obtain ⟨j, hj, rfl⟩ := List.getElem_of_mem ((mem_itemsL h1).2 hb)
    have hij : i < j := by
      rcases Nat.lt_or_ge i j with h2 | h2
      · exact h2
      · rcases Nat.lt_or_ge j i with h3 | h3
        · have := List.pairwise_iff_getElem.1 hs j i hj hi h3; omega
        · have : i = j := by omega
          subst this; omega
    exact List.pairwise_iff_getElem.1 h i j hi hj hij
  · intro h
    exact (itemsL_sorted s).imp_of_mem fun ha hb hab => h _ _ ((mem_itemsL h1).1 ha) ((mem_itemsL h1).1 hb) hab

/-- One more than the greatest height. -/
def longI (zs : List Int) : Int := maxL (hgt zs) (List.range zs.length)
theorem longI_nn (zs : List Int) : 0 ≤ longI zs := (maxL_ge _ _).1
theorem longI_bd {zs : List Int} (h : VoP zs) : longI zs ≤ zs.length := by
  rcases maxL_eq (hgt zs) (List.range zs.length) with e | ⟨a, ha, e⟩
  · unfold longI; omega
  · have := hgt_bd h (List.mem_range.1 ha)
    unfold longI; omega
theorem longI_gt {zs : List Int} {a : Nat} (ha : a < zs.length) : hgt zs a + 1 ≤ longI zs := (maxL_ge (hgt zs) (List.range zs.length)).2 a (List.mem_range.2 ha)

theorem chain_le {zs : List Int} (h : VoP zs) {s : Int} (h0 : 0 ≤ s) (h1 : s < powI zs.length) (hc : chB zs s = true) : popI s ≤ longI zs := by
  have hpn := powI_le6 (n := (zs.length : Int)) (by have := h.1; omega)
  have hm : ∀ a ∈ itemsL s, a < zs.length := fun a ha => bitB_lt h1 ((mem_itemsL (by omega)).1 ha)
  have hC : ChP zs s := by simpa [chB] using hc
  have hp : ((itemsL s).map fun a => (hgt zs a).toNat).Pairwise (· ≠ ·) := by
    rw [List.pairwise_map]
    refine List.Pairwise.imp_of_mem ?_ hC
    intro a b ha hb hr he
    have hna := hgt_nn zs a
    have hnb := hgt_nn zs b
    simp only [relB, Bool.or_eq_true] at hr
    rcases hr with hr | hr
    · have := hgt_up h ⟨hm a ha, hr⟩; omega
    · have := hgt_up h ⟨hm b hb, hr⟩; omega
  have hk := pigeon (longI zs).toNat _ hp (fun x hx => by
    obtain ⟨a, ha, rfl⟩ := List.mem_map.1 hx
    have h2 := longI_gt (zs := zs) (hm a ha)
    have h3 := hgt_nn zs a
    show (hgt zs a).toNat < _
    omega)
  rw [List.length_map] at hk
  have := longI_nn zs
  rw [popI_items h0 (by omega)]
  omega

theorem popI_or_fin : ∀ k : Fin 64, ∀ j : Fin 6, bitB (k.val : Int) (j.val : Int) = false → popI (orI (k.val : Int) (powI (j.val : Int))) = popI (k.val : Int) + 1 := by decide +kernel
theorem popI_or {s : Int} {j : Nat} (h0 : 0 ≤ s) (h1 : s < 64) (hj : j < 6) (hb : bitB s j = false) : popI (orI s (powI j)) = popI s + 1 := by
  obtain ⟨k, rfl⟩ := Int.eq_ofNat_of_zero_le h0
  exact popI_or_fin ⟨k, by omega⟩ ⟨j, hj⟩ hb
theorem popI_pow_fin : ∀ j : Fin 6, popI (powI (j.val : Int)) = 1 := by decide +kernel

/-- Under each item there is a chain as long as its height tells. -/
theorem chain_ex {zs : List Int} (h : VoP zs) : ∀ (m b : Nat), b < zs.length → hgt zs b = m →
    ∃ s, 0 ≤ s ∧ s < powI zs.length ∧ ChP zs s ∧ popI s = m + 1 ∧ (∀ c : Nat, bitB s c = true → c = b ∨ lt zs c b)
  | 0, b, hb, hm => by
    have h6 := h.1
    refine ⟨powI b, Int.le_of_lt (powI_pos _), powI_lt hb, ?_, by have := popI_pow_fin ⟨b, by omega⟩; simpa using this, fun c hc => ?_⟩
    · have hp6 := powI_lt (k := b) (n := 6) (by omega)
      rw [ChP_iff (by simpa [powI] using hp6)]
      intro a c ha hc hac
      rw [bitB_pow] at ha hc
      have := of_decide_eq_true ha
      have := of_decide_eq_true hc
      omega
    · rw [bitB_pow] at hc
      exact .inl (of_decide_eq_true hc).symm
  | m + 1, b, hb, hm => by
    have h6 := h.1
    have hpn := powI_le6 (n := (zs.length : Int)) (by omega)
    rcases hgt_eq h hb with e | ⟨a, hl, e⟩
    · omega
    · obtain ⟨s, hs0, hs1, hC, hp, hall⟩ := chain_ex h m a hl.1 (by omega)
      have hnb : bitB s b = false := by
        cases hc : bitB s b with
        | false => rfl
        | true =>
          rcases hall b hc with rfl | h2
          · exact absurd hl h.irr
          · exact absurd (h.trans hl h2) h.irr
      have hlb : ∀ c : Nat, bitB s c = true → lt zs c b := fun c hc => by
        rcases hall c hc with rfl | h2
        · exact hl
        · exact h.trans h2 hl
      have hob := orI_bd (n := (zs.length : Int)) hs0 hs1 (Int.le_of_lt (powI_pos _)) (powI_lt hb)
      refine ⟨orI s (powI b), hob.1, hob.2, ?_, by rw [popI_or hs0 (by omega) (by omega) hnb, hp]; omega, fun c hc => ?_⟩
      · rw [ChP_iff (by omega)]
        intro x y hx hy hxy
        rw [bitB_or, bitB_pow] at hx hy
        simp only [Bool.or_eq_true, decide_eq_true_eq] at hx hy
        unfold relB
        rcases hx with hx | rfl <;> rcases hy with hy | rfl
        · exact (ChP_iff (by omega)).1 hC x y hx hy hxy
        · simp [(hlb x hx).2]
        · simp [(hlb y hy).2]
        · omega
      · rw [bitB_or, bitB_pow] at hc
        simp only [Bool.or_eq_true, decide_eq_true_eq] at hc
        rcases hc with hc | rfl
        · exact .inr (hlb c hc)
        · exact .inl rfl

/-- How many sets there are. -/
def setsN (zs : List Int) : Nat := 2 ^ zs.length
theorem setsN_pow (zs : List Int) : powI zs.length = (setsN zs : Int) := by simp [powI, setsN]
theorem gr_long {zs : List Int} (h : VoP zs) : grTo (chB zs) (setsN zs) = longI zs := by
  have hN := setsN_pow zs
  have hle : grTo (chB zs) (setsN zs) ≤ longI zs := grTo_le (longI_nn zs) _ (fun j hj hp => chain_le h (by omega) (by omega) hp)
  have hge : longI zs ≤ grTo (chB zs) (setsN zs) := by
    rcases maxL_eq (hgt zs) (List.range zs.length) with e | ⟨a, ha, e⟩
    · have := grTo_nn (chB zs) (setsN zs); unfold longI; omega
    · have hnn := hgt_nn zs a
      obtain ⟨s, hs0, hs1, hC, hp, -⟩ := chain_ex h (hgt zs a).toNat a (List.mem_range.1 ha) (by omega)
      obtain ⟨k, rfl⟩ := Int.eq_ofNat_of_zero_le hs0
      have := grTo_ge (p := chB zs) (j := k) (by simpa [chB] using hC) (setsN zs) (by omega)
      unfold longI; omega
  omega

/-- How many of the sets less than k of each size are counted. -/
def cntTo (p : Int → Bool) (len : Nat) : Nat → List Int
  | 0 => List.replicate len 0
  | k + 1 => if p (k : Int) then (cntTo p len k).set (popI (k : Int)).toNat ((cntTo p len k)[(popI (k : Int)).toNat]?.getD 0 + 1) else cntTo p len k
theorem cntTo_len (p : Int → Bool) (len : Nat) : ∀ k : Nat, (cntTo p len k).length = len
  | 0 => by simp [cntTo]
  | k + 1 => by unfold cntTo; split <;> simp [cntTo_len p len k]
theorem cntTo_bd (p : Int → Bool) (len : Nat) : ∀ (k i : Nat), 0 ≤ (cntTo p len k)[i]?.getD 0 ∧ (cntTo p len k)[i]?.getD 0 ≤ k
  | 0, i => by
    have : (List.replicate len (0 : Int))[i]?.getD 0 = 0 := by by_cases h : i < len <;> simp [h]
    simp [cntTo, this]
  | k + 1, i => by
    have h1 := cntTo_bd p len k i
    have h2 := cntTo_bd p len k (popI (k : Int)).toNat
    unfold cntTo
    split
    · by_cases hi : (popI (k : Int)).toNat = i
      · subst hi
        by_cases hl : (popI (k : Int)).toNat < (cntTo p len k).length
        · rw [List.getElem?_set_self hl]; simp only [Option.getD_some]; omega
        · rw [List.set_eq_of_length_le (by omega)]; omega
      · rw [List.getElem?_set_ne hi]; omega
    · omega
theorem cntTo_take (p : Int → Bool) {len m : Nat} (hm : m ≤ len) : ∀ k : Nat, (∀ j : Nat, j < k → p (j : Int) = true → (popI (j : Int)).toNat < m) → (cntTo p len k).take m = cntTo p m k
  | 0, _ => by simp [cntTo, List.take_replicate, hm]
  | k + 1, h => by
    have ih := cntTo_take p hm k (fun j hj => h j (by omega))
    unfold cntTo
    split
    · rename_i hp
      have hlt := h k (by omega) hp
      rw [List.take_set, ih, ← ih, List.getElem?_take_of_lt hlt]
    · exact ih
/-- How many chains of each size there are. -/
def chainsR (zs : List Int) : List Int := if vo zs then cntTo (chB zs) ((longI zs).toNat + 1) (setsN zs) else []
theorem chains_take {zs : List Int} (h : VoP zs) : (cntTo (chB zs) (zs.length + 1) (setsN zs)).take ((longI zs).toNat + 1) = cntTo (chB zs) ((longI zs).toNat + 1) (setsN zs) := by
  have hN := setsN_pow zs
  have hb := longI_bd h
  have hn := longI_nn zs
  exact cntTo_take _ (by omega) _ (fun j hj hp => by
    have := chain_le h (s := (j : Int)) (by omega) (by omega) hp
    omega)

/-- The items less than k of each height. -/
def lvTo (zs : List Int) : Nat → List Int
  | 0 => List.replicate (longI zs).toNat 0
  | k + 1 => (lvTo zs k).set (hgt zs k).toNat (orI ((lvTo zs k)[(hgt zs k).toNat]?.getD 0) (powI k))
theorem lvTo_len (zs : List Int) : ∀ k : Nat, (lvTo zs k).length = (longI zs).toNat
  | 0 => by simp [lvTo]
  | k + 1 => by simp [lvTo, lvTo_len zs k]
theorem lvTo_bd (zs : List Int) : ∀ (k i : Nat), 0 ≤ (lvTo zs k)[i]?.getD 0 ∧ (lvTo zs k)[i]?.getD 0 < powI k
  | 0, i => by
    have : (List.replicate (longI zs).toNat (0 : Int))[i]?.getD 0 = 0 := by by_cases h : i < (longI zs).toNat <;> simp [h]
    simp [lvTo, this, powI]
  | k + 1, i => by
    have h1 := lvTo_bd zs k i
    have h2 := lvTo_bd zs k (hgt zs k).toNat
    have hp : powI (k : Int) < powI ((k + 1 : Nat) : Int) := powI_lt (by omega)
    unfold lvTo
    by_cases hi : (hgt zs k).toNat = i
    · subst hi
      by_cases hl : (hgt zs k).toNat < (lvTo zs k).length
      · rw [List.getElem?_set_self hl]
        exact orI_bd h2.1 (by omega) (Int.le_of_lt (powI_pos _)) hp
      · rw [List.set_eq_of_length_le (by omega)]; omega
    · rw [List.getElem?_set_ne hi]; omega
def levelsR (zs : List Int) : List Int := if vo zs then lvTo zs zs.length else []
end Go.Proofs.YtiicffibhjeabaaDoor

/- The order turned round, as plain mathematics: chains, sets apart and pairs of it are as many. No program. -/
namespace Go.Proofs.YtiicffibhjeabaaDoor

/-- The order turned round. -/
def du (zs : List Int) : List Int := downP zs.length (pairsL zs)
theorem du_len (zs : List Int) : (du zs).length = zs.length := downP_len _ _
theorem du_bit {zs : List Int} (h : Sets zs) (a b : Nat) : bitB ((du zs)[b]?.getD 0) a = bitB (zs[a]?.getD 0) b := by
  have hn : ∀ p ∈ pairsL zs, p.2 < zs.length := fun p hp => (h.pair (a := p.1) (b := p.2) hp).2.1
  have key : bitB ((du zs)[b]?.getD 0) a = true ↔ bitB (zs[a]?.getD 0) b = true := by
    unfold du
    rw [downP_bit hn, mem_pairsL]
    constructor
    · exact fun e => e.2.2
    · intro e
      have ha : a < zs.length := by
        rcases Nat.lt_or_ge a zs.length with h1 | h1
        · exact h1
        · rw [List.getElem?_eq_none (by omega), Option.getD_none, bitB_zero] at e; cases e
      have hb := bitB_lt (h.2 a ha).2 e
      have := h.1
      exact ⟨ha, by omega, e⟩
  cases h1 : bitB ((du zs)[b]?.getD 0) a <;> cases h2 : bitB (zs[a]?.getD 0) b <;> simp_all
theorem du_sets {zs : List Int} (h : Sets zs) : Sets (du zs) := down_sets h
theorem du_lt {zs : List Int} (h : VoP zs) (a b : Nat) : lt (du zs) b a ↔ lt zs a b := by
  unfold lt
  rw [du_bit h.sets, du_len]
  constructor
  · rintro ⟨_, e⟩
    refine ⟨?_, e⟩
    rcases Nat.lt_or_ge a zs.length with h1 | h1
    · exact h1
    · rw [List.getElem?_eq_none (by omega), Option.getD_none, bitB_zero] at e; cases e
  · rintro ⟨ha, e⟩
    exact ⟨bitB_lt (h.sets.2 a ha).2 e, e⟩
theorem du_vo {zs : List Int} (h : VoP zs) : VoP (du zs) := by
  have hs := du_sets h.sets
  refine ⟨hs.1, fun a ha => ?_, fun a ha b hb => ?_⟩
  · have h1 := hs.2 a ha
    have h2 : bitB ((du zs)[a]?.getD 0) a = false := by
      rw [du_bit h.sets]
      cases e : bitB (zs[a]?.getD 0) a
      · rfl
      · exact absurd ⟨by rw [du_len] at ha; exact ha, e⟩ (h.irr (a := a))
    unfold okA inB
    rw [h2]
    simp only [Bool.not_false, Bool.and_true, decide_eq_true_eq]
    omega
  · unfold okP
    cases e : bitB ((du zs)[a]?.getD 0) b
    · rfl
    · have hab : lt zs b a := (du_lt h b a).1 ⟨ha, e⟩
      have h1 : lessI ((du zs)[b]?.getD 0) ((du zs)[a]?.getD 0) = 0 := by
        refine bitB_ext (lessI_bd _ _).1 (Int.le_refl _) fun j => ?_
        rw [bitB_less, bitB_zero]
        cases e1 : bitB ((du zs)[b]?.getD 0) j
        · rfl
        · have hjb := (du_lt h j b).1 ⟨hb, e1⟩
          have := ((du_lt h j a).2 (h.trans hjb hab)).2
          rw [this]; rfl
      have h2 : bitB ((du zs)[b]?.getD 0) a = false := by
        cases e2 : bitB ((du zs)[b]?.getD 0) a
        · rfl
        · exact absurd (h.trans hab ((du_lt h a b).1 ⟨hb, e2⟩)) h.irr
      rw [h1, h2]; rfl
theorem du_du {zs : List Int} (h : VoP zs) : du (du zs) = zs := by
  have hl : (du (du zs)).length = zs.length := by rw [du_len, du_len]
  refine List.ext_getElem hl fun j h1 h2 => ?_
  have e1 := (du_vo (du_vo h)).bd j h1
  have e2 := h.bd j h2
  have hb : ∀ k : Nat, bitB ((du (du zs))[j]?.getD 0) k = bitB (zs[j]?.getD 0) k := fun k => by rw [du_bit (du_vo h).sets, du_bit h.sets]
  have := bitB_ext e1.1 e2.1 hb
  rwa [List.getElem?_eq_getElem h1, List.getElem?_eq_getElem h2, Option.getD_some, Option.getD_some] at this

theorem du_rel {zs : List Int} (h : Sets zs) (a b : Nat) : relB (du zs) a b = relB zs a b := by
  unfold relB
  rw [du_bit h, du_bit h, Bool.or_comm]
theorem du_chB {zs : List Int} (h : Sets zs) (s : Int) : chB (du zs) s = chB zs s := by
  unfold chB ChP
  have : (fun a b => relB (du zs) a b = true) = fun a b => relB zs a b = true := by funext a b; rw [du_rel h]
  simp only [this]
theorem du_chBf {zs : List Int} (h : Sets zs) : chB (du zs) = chB zs := funext fun s => du_chB h s
theorem andI_zero {z s : Int} : andI z s = 0 ↔ ∀ b : Nat, bitB s b = true → bitB z b = false := by
  constructor
  · intro e b hb
    have := bitB_and z s b
    rw [e, bitB_zero, hb] at this
    simpa using this.symm
  · intro e
    refine bitB_ext (by unfold andI; omega) (Int.le_refl _) fun j => ?_
    rw [bitB_and, bitB_zero]
    cases e1 : bitB s j
    · simp
    · rw [e j e1]; rfl
theorem apB_iff {zs : List Int} {s : Int} (h1 : s < 64) : apB zs s = true ↔ ∀ a b : Nat, bitB s a = true → bitB s b = true → bitB (zs[a]?.getD 0) b = false := by
  unfold apB
  rw [List.all_eq_true]
  constructor
  · intro e a b ha hb
    have := e a ((mem_itemsL h1).2 ha)
    exact andI_zero.1 (by simpa using this) b hb
  · intro e a ha
    have := (andI_zero (z := zs[a]?.getD 0)).2 (fun b hb => e a b ((mem_itemsL h1).1 ha) hb)
    simpa using this
theorem du_apB {zs : List Int} (h : Sets zs) {s : Int} (h1 : s < 64) : apB (du zs) s = apB zs s := by
  have key : apB (du zs) s = true ↔ apB zs s = true := by
    rw [apB_iff h1, apB_iff h1]
    constructor
    · intro e a b ha hb
      have := e b a hb ha
      rwa [du_bit h] at this
    · intro e a b ha hb
      rw [du_bit h]
      exact e b a hb ha
  cases e1 : apB (du zs) s <;> cases e2 : apB zs s <;> simp_all
theorem grTo_congr {p q : Int → Bool} : ∀ k : Nat, (∀ j : Nat, j < k → p (j : Int) = q (j : Int)) → grTo p k = grTo q k
  | 0, _ => rfl
  | k + 1, h => by
    unfold grTo
    rw [h k (by omega), grTo_congr k fun j hj => h j (by omega)]
theorem setsN_le {zs : List Int} (h : zs.length ≤ 6) : setsN zs ≤ 64 := Nat.pow_le_pow_right (n := 2) (by decide) h
theorem du_setsN (zs : List Int) : setsN (du zs) = setsN zs := by unfold setsN; rw [du_len]
theorem du_wide {zs : List Int} (h : VoP zs) : grTo (apB (du zs)) (setsN zs) = grTo (apB zs) (setsN zs) :=
  grTo_congr _ fun j hj => du_apB h.sets (by have := setsN_le h.1; omega)
theorem du_long {zs : List Int} (h : VoP zs) : longI (du zs) = longI zs := by
  rw [← gr_long (du_vo h), ← gr_long h, du_chBf h.sets, du_setsN]

/-! Pairs. -/
theorem cl_flip (r : Nat → Nat → Bool) : ∀ l : List Nat, (∀ a ∈ l, r a a = false) → cl (fun a b => r b a) l l = cl r l l
  | [], _ => rfl
  | x :: l, h => by
    have h1 := cl_self r (x := x) (l := l) (h x (by simp))
    have h2 : cl (fun a b => r b a) (x :: l) (x :: l) = (l.filter fun a => r a x).length + (l.filter (r x)).length + cl (fun a b => r b a) l l := cl_self (fun a b => r b a) (x := x) (h x (by simp))
    rw [h1, h2, cl_flip r l fun a ha => h a (by simp [ha])]
    omega
/-- b is above a. -/
def upB (zs : List Int) (a b : Nat) : Bool := bitB (zs[a]?.getD 0) b
/-- How many pairs an order has, as mathematics. -/
def prs (zs : List Int) : Nat := cl (upB zs) (List.range zs.length) (List.range zs.length)
theorem popTo_cl {zs : List Int} (h : Sets zs) : ∀ k : Nat, k ≤ zs.length → popTo zs k = cl (upB zs) (List.range k) (List.range zs.length)
  | 0, _ => rfl
  | k + 1, hk => by
    have hb := h.bd k (by omega)
    unfold popTo
    rw [popTo_cl h k (by omega), popI_items hb.1 hb.2, ← itemsTo_all (h.2 k (by omega)).2 h.1]
    unfold cl
    rw [List.range_succ, List.map_append, List.sum_append]
    simp [itemsTo]
    rfl
theorem popTo_prs {zs : List Int} (h : Sets zs) : popTo zs zs.length = prs zs := popTo_cl h _ (Nat.le_refl _)
theorem du_prs {zs : List Int} (h : VoP zs) : prs (du zs) = prs zs := by
  unfold prs
  rw [du_len]
  have : upB (du zs) = fun a b : Nat => upB zs b a := by funext a b; unfold upB; rw [du_bit h.sets]
  rw [this]
  exact cl_flip (upB zs) _ fun a ha => h.irrB (List.mem_range.1 ha)
theorem prs_bd {zs : List Int} (h : VoP zs) : 2 * prs zs + zs.length ≤ zs.length * zs.length := by
  have := (cl_all (upB zs) (List.range zs.length) (fun a ha => h.irrB (List.mem_range.1 ha)) (fun a ha b _ e => h.asym (List.mem_range.1 ha) e)).1
  simpa [prs] using this
theorem prs_none {zs : List Int} (h : VoP zs) (hl : longI zs ≤ 1) : prs zs = 0 := by
  have hno : ∀ a b : Nat, ¬ lt zs a b := fun a b e => by
    have h1 := hgt_up h e
    have h2 := hgt_nn zs a
    have h3 := longI_gt (zs := zs) (h.lt_n e)
    omega
  unfold prs cl
  rw [List.map_congr_left (g := fun _ => 0)]
  · generalize List.range zs.length = l
    induction l with
    | nil => rfl
    | cons x l ih => simpa using ih
  · intro a ha
    rw [List.length_eq_zero_iff, List.filter_eq_nil_iff]
    intro b _ e
    exact hno a b ⟨List.mem_range.1 ha, e⟩

/-! Chains of none, of one and of two items. -/
theorem cnt_get (p : Int → Bool) {len m : Nat} (hm : m < len) : ∀ k : Nat, (cntTo p len k)[m]?.getD 0 = (((List.range k).filter fun j : Nat => p (j : Int) && (popI (j : Int)).toNat == m).length : Int)
  | 0 => by simp [cntTo, hm]
  | k + 1 => by
    have ih := cnt_get p hm k
    rw [List.range_succ, List.filter_append, List.length_append]
    have hl := cntTo_len p len k
    unfold cntTo
    cases hp : p (k : Int)
    · simp [hp, ih]
    · by_cases he : (popI (k : Int)).toNat = m
      · simp [hp, he]
        rw [List.getElem?_eq_getElem (by omega)] at ih
        rw [List.getElem?_set_self (by omega), Option.getD_some, List.getElem?_eq_getElem (by omega), Option.getD_some]
        simp only [Option.getD_some] at ih
        rw [ih]
      · simp [hp, he, ih]
def twos (n : Nat) : List Nat := (List.range n).flatMap fun b => (List.range b).map fun a => 2 ^ a + 2 ^ b
theorem twos_fin : ∀ n : Fin 7, (List.range (2 ^ n.val)).filter (fun j : Nat => (popI (j : Int)).toNat == 2) = twos n.val := by decide +kernel
theorem ones_fin : ∀ n : Fin 7, (List.range (2 ^ n.val)).filter (fun j : Nat => (popI (j : Int)).toNat == 1) = (List.range n.val).map fun a => 2 ^ a := by decide +kernel
theorem noes_fin : ∀ n : Fin 7, (List.range (2 ^ n.val)).filter (fun j : Nat => (popI (j : Int)).toNat == 0) = [0] := by decide +kernel
theorem two_items : ∀ b : Fin 6, ∀ a : Fin b.val, itemsL ((2 ^ a.val + 2 ^ b.val : Nat) : Int) = [a.val, b.val] := by decide +kernel
theorem one_items : ∀ b : Fin 6, itemsL ((2 ^ b.val : Nat) : Int) = [b.val] := by decide +kernel
theorem chB_two (zs : List Int) {a b : Nat} (hab : a < b) (hb : b < 6) : chB zs ((2 ^ a + 2 ^ b : Nat) : Int) = relB zs a b := by
  have h : ChP zs ((2 ^ a + 2 ^ b : Nat) : Int) ↔ relB zs a b = true := by
    unfold ChP
    rw [two_items ⟨b, hb⟩ ⟨a, hab⟩]
    simp
  unfold chB
  cases hr : relB zs a b
  · exact decide_eq_false fun e => by rw [h.1 e] at hr; cases hr
  · exact decide_eq_true (h.2 hr)
theorem chB_one (zs : List Int) {b : Nat} (hb : b < 6) : chB zs ((2 ^ b : Nat) : Int) = true := by
  refine decide_eq_true ?_
  unfold ChP
  rw [one_items ⟨b, hb⟩]
  simp
theorem chB_none (zs : List Int) : chB zs ((0 : Nat) : Int) = true := by
  have : itemsL ((0 : Nat) : Int) = [] := by decide
  refine decide_eq_true ?_
  unfold ChP
  rw [this]
  simp
theorem filter_and {α : Type} (p q : α → Bool) (l : List α) : l.filter (fun j => p j && q j) = (l.filter q).filter p := by rw [List.filter_filter]
theorem or_len (u v : Nat → Bool) : ∀ l : List Nat, (∀ a ∈ l, u a = true → v a = false) → (l.filter fun a => u a || v a).length = (l.filter u).length + (l.filter v).length
  | [], _ => rfl
  | a :: l, h => by
    have ih := or_len u v l fun b hb => h b (by simp [hb])
    have ha := h a (by simp)
    simp only [List.filter_cons]
    cases hu : u a <;> cases hv : v a <;> simp [hu, hv] at ha ⊢ <;> omega
theorem cl_range (r : Nat → Nat → Bool) : ∀ n : Nat, (∀ a, a < n → r a a = false) → cl r (List.range (n + 1)) (List.range (n + 1)) = cl r (List.range n) (List.range n) + ((List.range n).filter (r n)).length + ((List.range n).filter fun a => r a n).length + (if r n n then 1 else 0) := fun n _ => by
  unfold cl
  rw [List.range_succ, List.map_append, List.sum_append]
  have e : ∀ l : List Nat, (l.map fun a => ((List.range n ++ [n]).filter (r a)).length).sum = (l.map fun a => ((List.range n).filter (r a)).length).sum + (l.filter fun a => r a n).length := fun l => by
    induction l with
    | nil => rfl
    | cons a l ih =>
      rw [List.map_cons, List.sum_cons, ih, List.map_cons, List.sum_cons, List.filter_append, List.length_append, List.filter_cons (xs := l)]
      cases h : r a n <;> simp [h] <;> omega
  rw [e]
  cases h : r n n <;> simp [h, List.filter_append] <;> omega
theorem twos_chain {zs : List Int} (h : VoP zs) : ∀ n : Nat, n ≤ zs.length → ((twos n).filter fun j : Nat => chB zs (j : Int)).length = cl (upB zs) (List.range n) (List.range n)
  | 0, _ => rfl
  | n + 1, hn => by
    have h6 := h.1
    have ih := twos_chain h n (by omega)
    rw [cl_range (upB zs) n (fun a ha => h.irrB (show a < zs.length by omega)), ← ih]
    have e1 : twos (n + 1) = twos n ++ (List.range n).map fun a => 2 ^ a + 2 ^ n := by simp [twos, List.range_succ]
    rw [e1, List.filter_append, List.length_append, List.filter_map, List.length_map]
    have e2 : (List.range n).filter ((fun j : Nat => chB zs (j : Int)) ∘ fun a => 2 ^ a + 2 ^ n) = (List.range n).filter fun a => upB zs n a || upB zs a n := by
      refine List.filter_congr fun a ha => ?_
      have := chB_two zs (List.mem_range.1 ha) (show n < 6 by omega)
      simp only [Function.comp]
      rw [this]
      unfold relB upB
      rw [Bool.or_comm]
    have e3 : upB zs n n = false := h.irrB (show n < zs.length by omega)
    rw [e2, or_len (upB zs n) (fun a => upB zs a n) _ (fun a _ e => h.asym (show n < zs.length by omega) e), e3]
    simp
    omega
theorem chains_two {zs : List Int} (h : VoP zs) (hl : 2 ≤ longI zs) : (chainsR zs)[2]?.getD 0 = (prs zs : Int) := by
  have hn := h.1
  unfold chainsR
  rw [vo_true h]
  simp only [if_true]
  rw [cnt_get (chB zs) (len := (longI zs).toNat + 1) (m := 2) (by omega)]
  rw [filter_and (fun j : Nat => chB zs (j : Int)) (fun j : Nat => (popI (j : Int)).toNat == 2)]
  unfold setsN
  rw [twos_fin ⟨zs.length, by omega⟩, twos_chain h _ (Nat.le_refl _)]
  rfl
theorem chains_one {zs : List Int} (h : VoP zs) (hl : 1 ≤ longI zs) : (chainsR zs)[1]?.getD 0 = (zs.length : Int) := by
  have hn := h.1
  unfold chainsR
  rw [vo_true h]
  simp only [if_true]
  rw [cnt_get (chB zs) (len := (longI zs).toNat + 1) (m := 1) (by omega)]
  rw [filter_and (fun j : Nat => chB zs (j : Int)) (fun j : Nat => (popI (j : Int)).toNat == 1)]
  unfold setsN
  rw [ones_fin ⟨zs.length, by omega⟩, List.filter_map, List.length_map, List.filter_eq_self.2]
  · simp
  · intro a ha
    exact chB_one zs (by have := List.mem_range.1 ha; omega)
theorem chains_none {zs : List Int} (h : VoP zs) : (chainsR zs)[0]?.getD 0 = 1 := by
  have hn := h.1
  unfold chainsR
  rw [vo_true h]
  simp only [if_true]
  rw [cnt_get (chB zs) (len := (longI zs).toNat + 1) (m := 0) (by omega)]
  rw [filter_and (fun j : Nat => chB zs (j : Int)) (fun j : Nat => (popI (j : Int)).toNat == 0)]
  unfold setsN
  rw [noes_fin ⟨zs.length, by omega⟩, List.filter_cons, if_pos (chB_none zs)]
  rfl
theorem chains_len {zs : List Int} (h : VoP zs) : (chainsR zs).length = (longI zs).toNat + 1 := by
  unfold chainsR
  rw [vo_true h]
  simp [cntTo_len]
theorem du_chains {zs : List Int} (h : VoP zs) : chainsR (du zs) = chainsR zs := by
  unfold chainsR
  rw [vo_true h, vo_true (du_vo h), du_long h, du_chBf h.sets, du_setsN]
theorem long_pos {zs : List Int} (h : zs.length ≠ 0) : 1 ≤ longI zs := by
  have h1 := longI_gt (zs := zs) (a := 0) (by omega)
  have h2 := hgt_nn zs 0
  omega
end Go.Proofs.YtiicffibhjeabaaDoor

/- Sets that part all items, as the laws see them. -/
namespace Go.Proofs.YtiicffibhjeabaaDoor
open Go.RowKit Go.Shelf

/-- All items of the first k sets. -/
def seenTo (xs : List Int) : Nat → Int
  | 0 => 0
  | k + 1 => orI (seenTo xs k) (xs[k]?.getD 0)
theorem seenTo_bit (xs : List Int) (j : Nat) : ∀ k : Nat, bitB (seenTo xs k) j = true ↔ ∃ i, i < k ∧ bitB (xs[i]?.getD 0) j = true
  | 0 => by simp [seenTo, bitB_zero]
  | k + 1 => by
    unfold seenTo
    rw [bitB_or, Bool.or_eq_true, seenTo_bit xs j k]
    constructor
    · rintro (⟨i, hi, e⟩ | e)
      · exact ⟨i, by omega, e⟩
      · exact ⟨k, by omega, e⟩
    · rintro ⟨i, hi, e⟩
      by_cases hik : i = k
      · subst hik; exact .inr e
      · exact .inl ⟨i, by omega, e⟩
theorem seenTo_bd {xs : List Int} {n : Nat} (h : ∀ i, i < xs.length → 0 ≤ xs[i]?.getD 0 ∧ xs[i]?.getD 0 < powI n) : ∀ k : Nat, k ≤ xs.length → 0 ≤ seenTo xs k ∧ seenTo xs k < powI n
  | 0, _ => ⟨Int.le_refl _, powI_pos _⟩
  | k + 1, hk => by
    have h1 := seenTo_bd h k (by omega)
    have h2 := h k (by omega)
    exact orI_bd h1.1 h1.2 h2.1 h2.2
/-- Each item is in just one of the sets. -/
structure PartsOk (xs : List Int) (n : Nat) : Prop where
  n6 : n ≤ 6
  bd : ∀ i, i < xs.length → 0 ≤ xs[i]?.getD 0 ∧ xs[i]?.getD 0 < powI n
  apart : ∀ i k j : Nat, i < k → k < xs.length → bitB (xs[i]?.getD 0) j = true → bitB (xs[k]?.getD 0) j = true → False
  all : ∀ j : Nat, j < n → ∃ i, i < xs.length ∧ bitB (xs[i]?.getD 0) j = true
theorem all_bits {n : Nat} : ∀ j : Nat, bitB (powI n - 1) j = decide (j < n) := fun j => by
  have e : (powI (n : Int) - 1).toNat = 2 ^ n - 1 := by
    have : powI (n : Int) = ((2 ^ n : Nat) : Int) := by simp [powI]
    omega
  simp [bitB, e, Nat.testBit_two_pow_sub_one]
theorem PartsOk.seen {xs : List Int} {n : Nat} (h : PartsOk xs n) : seenTo xs xs.length = powI n - 1 := by
  have hb := seenTo_bd h.bd xs.length (Nat.le_refl _)
  have hp := powI_pos (n : Int)
  refine bitB_ext hb.1 (by omega) fun j => ?_
  rw [all_bits]
  by_cases hj : j < n
  · have := (seenTo_bit xs j xs.length).2 (h.all j hj)
    rw [this]; simp [hj]
  · cases e : bitB (seenTo xs xs.length) j
    · simp [hj]
    · exact absurd (bitB_lt hb.2 e) hj
theorem PartsOk.no {xs : List Int} {n k : Nat} (h : PartsOk xs n) (hk : k < xs.length) : andI (seenTo xs k) (xs[k]?.getD 0) = 0 := by
  refine bitB_ext (andI_bd _ _).1 (Int.le_refl _) fun j => ?_
  rw [bitB_and, bitB_zero]
  cases e : bitB (seenTo xs k) j
  · rfl
  · cases e2 : bitB (xs[k]?.getD 0) j
    · rfl
    · obtain ⟨i, hi, hb⟩ := (seenTo_bit xs j k).1 e
      exact (h.apart i k j hi hk hb e2).elim

end Go.Proofs.YtiicffibhjeabaaDoor

/- The model's test of sets. -/
namespace Go.Proofs.YtiicffibhjeabaaDoor
open Go.RowKit Go.Shelf
attribute [local go_sem] Oper.semAt_some
attribute [local go_sem, local simp] wide_fn
end Go.Proofs.YtiicffibhjeabaaDoor

/- Tops: words, the model's helper and the program's. -/
namespace Go.Proofs.YtiicffibhjeabaaDoor
open Go.RowKit Go.Shelf
attribute [local go_sem] Oper.semAt_some
attribute [local go_sem, local simp] wide_fn

/-- The items of s less than k above which there is none of s. -/
def topsTo (zs : List Int) (s : Int) : Nat → Int
  | 0 => 0
  | k + 1 => if bitB s k && andI (zs[k]?.getD 0) s == 0 then orI (topsTo zs s k) (powI k) else topsTo zs s k
theorem topsTo_bd (zs : List Int) (s : Int) : ∀ k : Nat, 0 ≤ topsTo zs s k ∧ topsTo zs s k < powI k
  | 0 => by simp [topsTo, powI]
  | k + 1 => by
    have h := topsTo_bd zs s k
    have hp : powI (k : Int) < powI ((k + 1 : Nat) : Int) := powI_lt (by omega)
    unfold topsTo
    split
    · exact orI_bd h.1 (by omega) (Int.le_of_lt (powI_pos _)) hp
    · omega
theorem topsTo_yes {zs : List Int} {s : Int} {k : Nat} (h : bitB s k = true) (h2 : (andI (zs[k]?.getD 0) s == 0) = true) : topsTo zs s (k + 1) = orI (topsTo zs s k) (powI k) := by simp [topsTo, h, h2]
theorem topsTo_no {zs : List Int} {s : Int} {k : Nat} (h : bitB s k = false ∨ (andI (zs[k]?.getD 0) s == 0) = false) : topsTo zs s (k + 1) = topsTo zs s k := by
  rcases h with h | h <;> simp [topsTo, h]
def topsR (zs : List Int) (s : Int) : Int := if vo zs && inB s 0 (powI zs.length - 1) then topsTo zs s zs.length else -1

theorem topsTo_bit {zs : List Int} {s : Int} (j : Nat) : ∀ k : Nat, bitB (topsTo zs s k) j = true ↔ j < k ∧ bitB s j = true ∧ andI (zs[j]?.getD 0) s = 0
  | 0 => by simp [topsTo, bitB_zero]
  | k + 1 => by
    have ih := topsTo_bit (zs := zs) (s := s) j k
    cases hc : (bitB s k && andI (zs[k]?.getD 0) s == 0)
    · have e : topsTo zs s (k + 1) = topsTo zs s k := by simp only [topsTo]; rw [hc]; rfl
      rw [e, ih]
      constructor
      · rintro ⟨h1, h2⟩; exact ⟨by omega, h2⟩
      · rintro ⟨h1, h2, h3⟩
        refine ⟨?_, h2, h3⟩
        by_cases hjk : j = k
        · subst hjk; rw [h2, h3] at hc; cases hc
        · omega
    · have e : topsTo zs s (k + 1) = orI (topsTo zs s k) (powI k) := by simp only [topsTo]; rw [hc]; rfl
      rw [Bool.and_eq_true] at hc
      rw [e, bitB_or, bitB_pow, Bool.or_eq_true, ih, decide_eq_true_eq]
      constructor
      · rintro (⟨h1, h2⟩ | rfl)
        · exact ⟨by omega, h2⟩
        · exact ⟨by omega, hc.1, by simpa using hc.2⟩
      · rintro ⟨h1, h2⟩
        by_cases hjk : k = j
        · exact .inr hjk
        · exact .inl ⟨by omega, h2⟩
/-- What has been gathered when the items of a list are over. -/
def topsL (zs : List Int) (s : Int) (l : List Nat) : Int := l.foldl (fun (t : Int) (i : Nat) => if andI (zs[i]?.getD 0) s == 0 then orI t (powI i) else t) 0
theorem topsL_yes {zs : List Int} {s : Int} {l : List Nat} {i : Nat} (h : (andI (zs[i]?.getD 0) s == 0) = true) : topsL zs s (l ++ [i]) = orI (topsL zs s l) (powI i) := by
  have h' : andI (zs[i]?.getD 0) s = 0 := by simpa using h
  simp [topsL, h']
theorem topsL_no {zs : List Int} {s : Int} {l : List Nat} {i : Nat} (h : (andI (zs[i]?.getD 0) s == 0) = false) : topsL zs s (l ++ [i]) = topsL zs s l := by
  have h' : ¬ andI (zs[i]?.getD 0) s = 0 := by simpa using h
  simp [topsL, h']
theorem topsL_to (zs : List Int) (s : Int) : ∀ k : Nat, topsL zs s (itemsTo s k) = topsTo zs s k
  | 0 => rfl
  | k + 1 => by
    have ih := topsL_to zs s k
    cases hb : bitB s k
    · rw [itemsTo_no hb, topsTo_no (.inl hb), ih]
    · rw [itemsTo_yes hb]
      cases ha : (andI (zs[k]?.getD 0) s == 0)
      · rw [topsL_no ha, topsTo_no (.inr ha), ih]
      · rw [topsL_yes ha, topsTo_yes hb ha, ih]
theorem topsTo_up {zs : List Int} {s : Int} {n : Nat} (h1 : s < powI n) : ∀ d : Nat, topsTo zs s (n + d) = topsTo zs s n
  | 0 => rfl
  | d + 1 => by
    have hb : bitB s ((n + d : Nat) : Int) = false := by
      cases h : bitB s ((n + d : Nat) : Int) with
      | false => rfl
      | true => have := bitB_lt h1 h; omega
    rw [← Nat.add_assoc, topsTo_no (.inl hb), topsTo_up h1 d]
theorem topsL_all {zs : List Int} {s : Int} {n : Nat} (hn : n ≤ 6) (h1 : s < powI n) : topsL zs s (itemsL s) = topsTo zs s n := by
  rw [itemsL, topsL_to, show (6 : Nat) = n + (6 - n) from by omega, topsTo_up h1]

set_option maxRecDepth 100000 in
set_option maxHeartbeats 4000000 in
theorem tops_any (A : Option Addr) (n c : Nat) (zs : List Int) (s : Int) (hv : Sets zs) (w : World) (hA : Ints w w.heap.size A n zs) (h0 : 0 ≤ s) (h1 : s < powI n) :
    Calls Tryd.prog 66 #[.slice A n c, .int .i64 s] w fun e W' => e = .returned (.int .i64 (topsTo zs s n)) ∧ Below w.heap.size w W' := by
  refine (callsIn_wide (n := 9)).1 ?_
  refine callsIn_of_wp_marks Tryd.func66 rfl trivial ?_ rfl
  simp only [Tryd.ntmps66, List.size_toArray, List.length_cons, List.length_nil, Nat.reduceAdd, Nat.reduceSub, Array.replicate_succ, Array.replicate_zero, List.push_toArray, List.append_toArray, List.nil_append, List.cons_append]
  have hlen := Lib.hid hA.len
  have hn6 : n ≤ 6 := by have := hv.1; rw [hlen.out] at this; exact this
  have hpk : powI n ≤ 64 := powI_le6 (by omega)
  gi_wp2_with (gi_at_call 52; refine (callsIn_wide.2 (each_any _ _)).mono ?_; rintro e w' ⟨rfl, rfl⟩)
  have bO := (((Boxed.new w 36 (.slice A n c)).alloc (.cells #[Value.int .i64 s] 48)).alloc (.cells #[Value.int .i64 0] 48)).alloc (.cells #[Value.int .i64 s] 48)
  have bS := ((Boxed.new (w.alloc (.cells #[Value.slice A n c] 36)) 48 (.int .i64 s)).alloc (.cells #[Value.int .i64 0] 48)).alloc (.cells #[Value.int .i64 s] 48)
  have bT := (Boxed.new ((w.alloc (.cells #[Value.slice A n c] 36)).alloc (.cells #[Value.int .i64 s] 48)) 48 (.int .i64 0)).alloc (.cells #[Value.int .i64 s] 48)
  have bE := Boxed.new (((w.alloc (.cells #[Value.slice A n c] 36)).alloc (.cells #[Value.int .i64 s] 48)).alloc (.cells #[Value.int .i64 0] 48)) 48 (.int .i64 s)
  have hu0 : Upd (fun _ => False) w ((((w.alloc (.cells #[Value.slice A n c] 36)).alloc (.cells #[Value.int .i64 s] 48)).alloc (.cells #[Value.int .i64 0] 48)).alloc (.cells #[Value.int .i64 s] 48)) := ((((Upd.refl _ w).alloc _).alloc _).alloc _).alloc _
  have hz0 : ((((w.alloc (.cells #[Value.slice A n c] 36)).alloc (.cells #[Value.int .i64 s] 48)).alloc (.cells #[Value.int .i64 0] 48)).alloc (.cells #[Value.int .i64 s] 48)).heap.size = w.heap.size + 4 := by simp
  simp only [World.size_alloc] at bO bS bT bE
  obtain ⟨W0, hW0⟩ : ∃ W0, ((((w.alloc (.cells #[Value.slice A n c] 36)).alloc (.cells #[Value.int .i64 s] 48)).alloc (.cells #[Value.int .i64 0] 48)).alloc (.cells #[Value.int .i64 s] 48)) = W0 := ⟨_, rfl⟩
  rw [hW0] at bO bS bT bE hu0 hz0 ⊢
  clear hW0
  have hA0 : Ints W0 w.heap.size A n zs := hA.below (hu0.toBelow (fun _ e => e.elim) (Nat.le_refl _))
  refine range_out (n := 9) (gf := 62) (lb := #[.pointer (some ⟨w.heap.size + 1 + 1 + 1, 0, none⟩)]) rfl (enters_of Tryd.func62 (by kernel_rfl) rfl) (encs := encI) (L := itemsL s)
    (fun k => k = w.heap.size + 1 + 1) (fun k e => by omega) (fun _ => rfl)
    (fun W1 l1 hu1 hl1 hl2 => each_iter s h0 (by omega) _ _ W1 (hu1.boxed bE (fun e => e)) (fun e => by omega))
    (fun pre D W => (0 ≤ topsL zs s pre ∧ topsL zs s pre < 64) ∧ Boxed W (w.heap.size + 1 + 1) 48 (.int .i64 (topsL zs s pre)) ∧ Upd (fun k => k = w.heap.size + 1 + 1) W0 W)
    (fun _ _ _ _ => False)
    (fun _ D X Y hs hu => ⟨hs.1, hu.boxed hs.2.1 (fun e => by omega), hs.2.2.trans' hu (fun i hi e => by omega)⟩)
    (fun _ _ _ _ _ hs _ => hs)
    ⟨by simp [topsL], bT, Upd.refl _ _⟩ ?owes ?done ?stop
  case owes =>
    rintro l1 pre x D1 W hl1 hl2 hDl hD1 - hpre K hK
    gi_wp2
    refine hK _ _ (Upd.refl _ _) ?_
    rintro Wb hWb - ⟨htb, bT1, hU⟩
    clear hK
    obtain ⟨hx6, hxb⟩ := mem_itemsTo.1 (hpre.subset (by simp : x ∈ pre ++ [x]))
    have hxn := bitB_lt h1 hxb
    have bO1 := hU.boxed bO (by omega)
    have hcO := bO1.cell
    have hcS := (hU.boxed bS (by omega)).cell
    obtain ⟨ab, off, rfl, hab, hc⟩ := hA0.at_ hxn
    have hcx := hU.cell (hc x hxn) (fun e => by simp at e; omega)
    have zx := hv.bd x (by rw [hlen.out]; exact hxn)
    have hsb := hU.size
    have hcT := bT1.cell
    have hfT := bT1.frozen
    have hszb := hWb.size
    have hand : bits .and .i64 (zs[x]?.getD 0) s = andI (zs[x]?.getD 0) s := bits_and (by omega) (by omega) (by omega) (by omega)
    cases ha : (andI (zs[x]?.getD 0) s == 0)
    · have Hn := Lib.hid (topsL_no (l := pre) ha)
      gi_wp2
      refine region_quiet_round (by kernel_rfl) (by kernel_rfl) (by kernel_rfl) ?_
      repeat (gi_big_quiet_step (fail))
      refine wpQuietIn_nil ?_
      intro _ hw'
      obtain ⟨nq, hw''⟩ := hw'
      subst hw''
      gi_wp2
      exact ⟨D1, ⟨by rw [Hn.out]; exact htb, by rw [Hn.out]; exact bT1, hU.drewN _⟩, (Upd.refl _ _).drewN _, fun k hk => .inl hk⟩
    · have Hn := Lib.hid (topsL_yes (l := pre) ha)
      have hob := orI_bd (a := topsL zs s pre) (b := powI x) (n := 6) htb.1 htb.2 (Int.le_of_lt (powI_pos _)) (powI_lt hx6)
      gi_wp2
      refine region_quiet_round (by kernel_rfl) (by kernel_rfl) (by kernel_rfl) ?_
      repeat (gi_big_quiet_step (fail))
      refine wpQuietIn_nil ?_
      intro _ hw'
      obtain ⟨nq, hw''⟩ := hw'
      subst hw''
      gi_wp2_with (gi_at_call 44; refine (CallsIn.inRound l1 (callsIn_wide.2 (with_any _ _ _ htb.1 htb.2 (by omega) (by omega)))).mono ?_; rintro e w' ⟨rfl, rfl⟩)
      exact ⟨D1, ⟨by rw [Hn.out]; exact hob, by rw [Hn.out]; exact bT1.set _, (hU.drewN _).setCell (p := ⟨w.heap.size + 1 + 1, 0, none⟩) (.inr rfl) _⟩, ((Upd.refl _ _).drewN _).setCell (p := ⟨w.heap.size + 1 + 1, 0, none⟩) (.inr (.inl rfl)) _, fun k hk => .inl hk⟩
  case done =>
    rintro d D1 W hd ⟨htb, bT1, hU⟩ hD1 hKd
    have Ht := Lib.hid (topsL_all (zs := zs) hn6 h1)
    have hcT := bT1.cell
    gi_wp2
    refine leaves_marks [d] _ ⟨by simp, fun b hb => ?_⟩ (fun W' hu' => ?_)
    · rw [List.mem_singleton.1 hb]
      exact hKd
    · exact ⟨.int .i64 (topsL zs s (itemsL s)), by simp [results, Tryd.f66, go_sem], ret_int Ht.out,
        (((hu0.mono fun _ _ e => e.elim).trans' hU (fun i hi e => by omega)).trans' hu' (fun i hi e => by simp at e; omega)).toBelow (R := fun _ => False) (fun _ e => e.elim) (Nat.le_refl _)⟩
  case stop =>
    rintro d D1 co pre W hd hpre h
    exact h.elim
end Go.Proofs.YtiicffibhjeabaaDoor

/- Lines, as plain mathematics: what is lined up, what is left, and when the next item may come. No program. -/
namespace Go.Proofs.YtiicffibhjeabaaDoor

/-- The first k items of the list. -/
def doneTo (ls : List Int) : Nat → Int
  | 0 => 0
  | k + 1 => orI (doneTo ls k) (powI (ls[k]?.getD 0))
/-- All items but the first k of the list. -/
def leftTo (n : Nat) (ls : List Int) : Nat → Int
  | 0 => powI n - 1
  | k + 1 => lessI (leftTo n ls k) (powI (ls[k]?.getD 0))
/-- The item k of the list is one, was not yet there, and all below it were. -/
def stepOk (zs ls : List Int) (k : Nat) : Bool :=
  inB (ls[k]?.getD 0) 0 ((zs.length : Int) - 1) && (!bitB (doneTo ls k) (ls[k]?.getD 0) && (lessI ((du zs)[(ls[k]?.getD 0).toNat]?.getD 0) (doneTo ls k) == 0))
def lineB (zs ls : List Int) : Bool := decide (ls.length = zs.length) && (List.range ls.length).all (stepOk zs ls)
def isLineR (zs ls : List Int) : Bool := vo zs && lineB zs ls

theorem lineB_yes {zs ls : List Int} {m : Nat} (hm : ls.length = m) (hl : m = zs.length) (h : ∀ k, k < m → stepOk zs ls k = true) : lineB zs ls = true := by
  unfold lineB
  rw [Bool.and_eq_true, List.all_eq_true]
  exact ⟨by simp; omega, fun k hk => h k (by rw [← hm]; exact List.mem_range.1 hk)⟩
theorem lineB_len {zs ls : List Int} {m : Nat} (hm : ls.length = m) (hl : m ≠ zs.length) : lineB zs ls = false := by
  unfold lineB
  rw [decide_eq_false (by omega)]
  rfl
theorem lineB_no {zs ls : List Int} {m k : Nat} (hm : ls.length = m) (hk : k < m) (h : stepOk zs ls k = false) : lineB zs ls = false := by
  cases e : lineB zs ls
  · rfl
  · unfold lineB at e
    rw [Bool.and_eq_true, List.all_eq_true] at e
    have := e.2 k (List.mem_range.2 (by omega))
    rw [h] at this
    cases this
theorem stepOk_in {zs ls : List Int} {k : Nat} (h : stepOk zs ls k = true) : 0 ≤ ls[k]?.getD 0 ∧ ls[k]?.getD 0 < zs.length := by
  unfold stepOk at h
  rw [Bool.and_eq_true] at h
  have : (0 : Int) ≤ ls[k]?.getD 0 ∧ ls[k]?.getD 0 ≤ (zs.length : Int) - 1 := by simpa [inB] using h.1
  omega
theorem stepOk_new {zs ls : List Int} {k : Nat} (h : stepOk zs ls k = true) : bitB (doneTo ls k) (ls[k]?.getD 0) = false := by
  unfold stepOk at h
  rw [Bool.and_eq_true, Bool.and_eq_true] at h
  simpa using h.2.1
theorem doneTo_bd {zs ls : List Int} : ∀ k : Nat, (∀ i, i < k → stepOk zs ls i = true) → 0 ≤ doneTo ls k ∧ doneTo ls k < powI zs.length
  | 0, _ => ⟨Int.le_refl _, powI_pos _⟩
  | k + 1, h => by
    have h1 := doneTo_bd k fun i hi => h i (by omega)
    have h2 := stepOk_in (h k (by omega))
    obtain ⟨a, ha⟩ := Int.eq_ofNat_of_zero_le h2.1
    have h3 : powI (a : Int) < powI (zs.length : Int) := powI_lt (by omega)
    have h4 := powI_pos (a : Int)
    unfold doneTo
    rw [ha]
    exact orI_bd h1.1 h1.2 (by omega) h3
theorem leftTo_bd {n : Nat} {ls : List Int} : ∀ k : Nat, 0 ≤ leftTo n ls k ∧ leftTo n ls k < powI n
  | 0 => by have := powI_pos (n : Int); unfold leftTo; omega
  | k + 1 => by
    have h1 := leftTo_bd (n := n) (ls := ls) k
    have h2 := lessI_bd (leftTo n ls k) (powI (ls[k]?.getD 0))
    unfold leftTo
    omega
theorem leftTo_bit {zs ls : List Int} (j : Nat) : ∀ k : Nat, (∀ i, i < k → stepOk zs ls i = true) → bitB (leftTo zs.length ls k) j = (decide (j < zs.length) && !bitB (doneTo ls k) j)
  | 0, _ => by unfold leftTo doneTo; rw [all_bits, bitB_zero]; simp
  | k + 1, h => by
    have ih := leftTo_bit (zs := zs) (ls := ls) j k fun i hi => h i (by omega)
    have h2 := stepOk_in (h k (by omega))
    obtain ⟨a, ha⟩ := Int.eq_ofNat_of_zero_le h2.1
    unfold leftTo doneTo
    rw [ha, bitB_less, bitB_or, bitB_pow, ih]
    cases decide (j < zs.length) <;> cases bitB (doneTo ls k) j <;> cases decide (a = j) <;> rfl
/-- As the program asks it: the item is a top, turned round, of what is left. -/
theorem step_tops {zs ls : List Int} (h : VoP zs) {k : Nat} (hk : ∀ i, i < k → stepOk zs ls i = true) {a : Nat} (ha : ls[k]?.getD 0 = (a : Int)) (hn : a < zs.length) :
    bitB (topsTo (du zs) (leftTo zs.length ls k) zs.length) a = stepOk zs ls k := by
  have hds := (du_sets h.sets).2 a (by rw [du_len]; exact hn)
  rw [du_len] at hds
  have hl := leftTo_bit (zs := zs) (ls := ls) a k hk
  have hin : inB (a : Int) 0 ((zs.length : Int) - 1) = true := by simp [inB]; omega
  have key : bitB (topsTo (du zs) (leftTo zs.length ls k) zs.length) a = true ↔ stepOk zs ls k = true := by
    rw [topsTo_bit]
    unfold stepOk
    rw [ha, hin, hl, Bool.true_and, Int.toNat_natCast]
    simp only [Bool.and_eq_true]
    have e2 : andI ((du zs)[a]?.getD 0) (leftTo zs.length ls k) = 0 ↔ (lessI ((du zs)[a]?.getD 0) (doneTo ls k) == 0) = true := by
      rw [beq_iff_eq, andI_zero]
      constructor
      · intro e
        refine bitB_ext (lessI_bd _ _).1 (Int.le_refl _) fun j => ?_
        rw [bitB_less, bitB_zero]
        cases e1 : bitB ((du zs)[a]?.getD 0) j
        · rfl
        · cases e3 : bitB (doneTo ls k) j
          · have hj := bitB_lt hds.2 e1
            have := e j (by rw [leftTo_bit (zs := zs) (ls := ls) j k hk, e3]; simp [hj])
            rw [e1] at this; cases this
          · rfl
      · intro e j hj
        rw [leftTo_bit (zs := zs) (ls := ls) j k hk, Bool.and_eq_true] at hj
        cases e1 : bitB ((du zs)[a]?.getD 0) j
        · rfl
        · have := bitB_less ((du zs)[a]?.getD 0) (doneTo ls k) j
          rw [e, bitB_zero, e1] at this
          simp at this hj
          rw [this] at hj
          simp at hj
    constructor
    · rintro ⟨_, h1, h2⟩
      exact ⟨h1.2, e2.1 h2⟩
    · rintro ⟨h1, h2⟩
      exact ⟨hn, ⟨by simpa using hn, h1⟩, e2.2 h2⟩
  cases e1 : bitB (topsTo (du zs) (leftTo zs.length ls k) zs.length) a <;> cases e2 : stepOk zs ls k <;> simp_all
end Go.Proofs.YtiicffibhjeabaaDoor

/- The program's lineup: its making, what is free, all items; an item less. -/
namespace Go.Proofs.YtiicffibhjeabaaDoor
open Go.RowKit Go.Shelf

/-- A lineup: the order turned round in block b, the map in block m. -/
def lineV (b m n : Nat) : Value := .agg #[.slice (some ⟨b, 0, none⟩) n n, .map (some m)]

set_option maxRecDepth 100000 in
set_option maxHeartbeats 4000000 in
theorem lineup_any (A : Option Addr) (n c : Nat) (zs : List Int) (hv : Sets zs) (w : World) (h : Ints w w.heap.size A n zs) :
    Calls Tryd.prog 39 #[.slice A n c] w fun e w' => ∃ b m, e = .returned (lineV b m n) ∧ Arr w' b 48 (du zs) ∧ w'.heap[m]? = some (.map #[] 0) ∧ w.heap.size ≤ b ∧ w.heap.size ≤ m ∧ b ≠ m ∧ Below w.heap.size w w' := by
  have hlen := Lib.hid h.len
  have Hdu := Lib.hid (show downP n (pairsL zs) = du zs by unfold du; rw [hlen.out])
  have hmm := @run_makeMap Tryd.prog
  go_enter Tryd.func39, Tryd.ntmps39
  go_wp2_with fail
  refine (dual_any A n c zs hv _ (h.to ((Below.refl w.heap.size w).alloc (Nat.le_refl _) _) (Nat.le_refl _) (by simp))).mono ?_
  rintro e w2 ⟨rfl, hA2, hB2⟩
  rw [Hdu.out] at hA2
  have hh1 : (w.alloc (.cells #[.slice none 0 0, .map none] 60)).heap[w.heap.size]? = some (.cells #[.slice none 0 0, .map none] 60 (0, 0)) := heap_alloc_new w _
  have hs1 : (w.alloc (.cells #[.slice none 0 0, .map none] 60)).heap.size = w.heap.size + 1 := by simp
  have hC1 : Below w.heap.size w (w.alloc (.cells #[.slice none 0 0, .map none] 60)) := (Below.refl w.heap.size w).alloc (Nat.le_refl _) _
  rw [hs1] at hA2 hB2
  have z2 := hB2.size
  rw [hs1] at z2
  have hh2 := (hB2.block w.heap.size (by omega)).trans hh1
  have hC2 := hC1.trans (hB2.mono (by omega))
  have hh3 := (Below.heap_alloc w2 (.map #[] 0) w.heap.size (by omega)).trans hh2
  have hA3 := hA2.alloc (.map #[] 0)
  have hm3 : (w2.alloc (.map #[] 0)).heap[w2.heap.size]? = some (.map #[] 0) := heap_alloc_new w2 _
  have hC3 := hC2.alloc (by omega) (.map #[] 0)
  have hs3 : (w2.alloc (.map #[] 0)).heap.size = w2.heap.size + 1 := by simp
  have hc0 : (w2.alloc (.map #[] 0)).cell? ⟨w.heap.size, 0, none⟩ = some (.slice none 0 0) := by rw [cell_of_row _ _ 0 _ _ (0, 0) hh3]; rfl
  have hc1 : (w2.alloc (.map #[] 0)).cell? ⟨w.heap.size, 1, none⟩ = some (.map none) := by rw [cell_of_row _ _ 1 _ _ (0, 0) hh3]; rfl
  have hf0 : (w2.alloc (.map #[] 0)).frozen? ⟨w.heap.size, 0, none⟩ = false := frozen_of_row _ _ 0 _ _ hh3
  have hf1 : (w2.alloc (.map #[] 0)).frozen? ⟨w.heap.size, 1, none⟩ = false := frozen_of_row _ _ 1 _ _ hh3
  have hl2 := hA2.lt
  clear hh1 hh2 hC1 hC2 hB2 hA2 h
  obtain ⟨W4, hW4⟩ : ∃ W4, ((w2.alloc (.map #[] 0)).setCell ⟨w.heap.size, 0, none⟩ (.slice (some ⟨w.heap.size + 1, 0, none⟩) n n)).setCell ⟨w.heap.size, 1, none⟩ (.map (some w2.heap.size)) = W4 := ⟨_, rfl⟩
  have kh : W4.heap[w.heap.size]? = some (.cells #[.slice (some ⟨w.heap.size + 1, 0, none⟩) n n, .map (some w2.heap.size)] 60 (0, 0)) := by
    rw [← hW4]
    simp [World.setCell, Array.getElem?_modify, hh3]
  have kA : Arr W4 (w.heap.size + 1) 48 (du zs) := by rw [← hW4]; exact (hA3.far (by simp) _).far (by simp) _
  have km : W4.heap[w2.heap.size]? = some (.map #[] 0) := by
    rw [← hW4, Below.heap_setCell _ _ _ _ (by simp; omega), Below.heap_setCell _ _ _ _ (by simp; omega)]
    exact hm3
  have kC : Below w.heap.size w W4 := by rw [← hW4]; exact (hC3.setCell (p := ⟨w.heap.size, 0, none⟩) (Nat.le_refl _) _).setCell (p := ⟨w.heap.size, 1, none⟩) (Nat.le_refl _) _
  go_wp2
  refine bodyPost_ret (v := lineV (w.heap.size + 1) w2.heap.size n) (results_cell_row rfl _ _ w.heap.size _ _ (0, 0) _ rfl kh Tryd.underlying60 rfl (by kernel_rfl)) rfl ?_
  exact ⟨w.heap.size + 1, w2.heap.size, rfl, kA, km, by omega, by omega, by omega, kC⟩

theorem without_any (s j : Int) (w : World) (h0 : 0 ≤ s) (h1 : s < 64) (j0 : 0 ≤ j) (j1 : j ≤ 6) :
    Calls Tryd.prog 42 #[.int .i64 s, .int .i64 j] w fun e w' => e = .returned (.int .i64 (lessI s (powI j))) ∧ w = w' := by
  go_enter Tryd.func42, Tryd.ntmps42
  go_wp2
  go_ret
  have hp := powI_le6 j1
  have hq := powI_pos j
  exact ⟨ret_int (by
    have : wrap64 (2 ^ j.toNat) = powI j := IntWalk.wrap64_in _ ⟨by unfold powI at hq; omega, by unfold powI at hp; omega⟩
    rw [this]; exact bits_less h0 (by omega) (by omega) (by omega)), rfl⟩
theorem oall_any (A : Option Addr) (n c : Nat) (w : World) (h1 : n ≤ 6) :
    Calls Tryd.prog 27 #[.slice A n c] w fun e w' => e = .returned (.int .i64 (powI n - 1)) ∧ w = w' := by
  have hp := powI_le6 (n := (n : Int)) (by omega)
  have hq := powI_pos (n : Int)
  go_enter Tryd.func27, Tryd.ntmps27
  go_wp2
  go_ret
  exact ⟨ret_int (by
    have : wrap64 (2 ^ ((n : Int)).toNat) = powI n := IntWalk.wrap64_in _ ⟨by unfold powI at hq; omega, by unfold powI at hp; omega⟩
    simp only [Int.toNat_natCast] at this
    rw [this]; exact IntWalk.wrap64_in _ ⟨by omega, by omega⟩), rfl⟩
theorem free_any (b m n : Nat) (zs : List Int) (s : Int) (hv : Sets zs) (w : World) (hA : Ints w w.heap.size (some ⟨b, 0, none⟩) n (du zs)) (h0 : 0 ≤ s) (h1 : s < powI n) :
    Calls Tryd.prog 55 #[lineV b m n, .int .i64 s] w fun e w' => e = .returned (.int .i64 (topsTo (du zs) s n)) ∧ Below w.heap.size w w' := by
  unfold lineV
  go_enter Tryd.func55, Tryd.ntmps55
  go_wp2_with fail
  refine (tops_any _ n _ (du zs) s (du_sets hv) _ (hA.to ((Below.refl w.heap.size w).alloc (Nat.le_refl _) _) (Nat.le_refl _) (by simp)) h0 h1).mono ?_
  rintro e w' ⟨rfl, hB⟩
  go_wp2_with fail
  go_ret
  exact ⟨rfl, ((Below.refl w.heap.size w).alloc (Nat.le_refl _) _).trans (hB.mono (by simp))⟩
end Go.Proofs.YtiicffibhjeabaaDoor

/- Orders beside each other, and one above the other: the program's. -/
namespace Go.Proofs.YtiicffibhjeabaaDoor
open Go.RowKit Go.Shelf
attribute [local go_sem] Oper.semAt_some
attribute [local go_sem, local simp] wide_fn

set_option maxRecDepth 100000 in
set_option maxHeartbeats 4000000 in
theorem withBeside_any (b n c : Nat) (zs : List Int) (b' m c' : Nat) (ys : List Int) (w : World) (hA : Arr w b 48 zs) (hA' : Arr w b' 48 ys) (hlen0 : zs.length = n) (hlen0' : ys.length = m) (hvy : VoP ys) (hnm : n + m ≤ 6) :
    Calls Tryd.prog 31 #[.slice (some ⟨b, 0, none⟩) n c, .slice (some ⟨b', 0, none⟩) m c'] w fun e w' => ∃ v, e = .returned v ∧ OwnS (fun k => w.heap.size ≤ k) w' w.heap.size 48 v (zs ++ shl n ys) ∧ Below w.heap.size w w' := by
  obtain ⟨i0, hi0, hz0, hz1, hz2⟩ := info_parts infoItems
  have hlen := Lib.hid hlen0
  have hlen' := Lib.hid hlen0'
  have Hcl := Lib.hid (clone_own b n c zs w hA hlen0 (by omega))
  have Hsl := Lib.hid (shl_len n ys)
  have hpn := powI_le6 (n := (n : Int)) (by omega)
  have hpn0 := powI_pos (n : Int)
  clear hlen0 hlen0'
  go_enter Tryd.func31, Tryd.ntmps31
  go_wp2_with fail
  refine Hcl.out.mono ?_
  rintro e w1 ⟨v1, rfl, hO1, hB1⟩
  have z1 := hB1.size
  have hU1 : Upd (fun k => w.heap.size ≤ k) w w1 := (Below.toUpd hB1).mono fun _ _ e => e
  go_wp2_with fail
  go_loopw [5, 12] (fun v i wr => ∃ j : Nat, j ≤ m ∧ i = .int .i64 j ∧ OwnS (fun k => w.heap.size ≤ k) wr w.heap.size 48 v (zs ++ (shl n ys).take j) ∧ Below w.heap.size w wr) (fun _ i _ => m - (intOf i).toNat)
  case atStart => exact ⟨0, by omega, rfl, by simpa using hO1, hB1⟩
  case round =>
    clear hO1 hB1 hU1
    obtain ⟨j, hj, rfl, hO, hB⟩ := hrel
    rename World => wy
    have zy := hB.size
    by_cases hlt : j < m
    · have hcy := (hA'.below hB hA'.lt).cell (k := j) (by rw [hlen'.out]; exact hlt)
      have hz := hvy.sets.2 j (by rw [hlen'.out]; exact hlt)
      rw [hlen'.out] at hz
      have hsb := shl_bd (n := n) (m := m) hz.1 hz.2 hnm
      have Hsn := Lib.hid (shl_snoc n ys (k := j) (by rw [hlen'.out]; exact hlt))
      have Hln := Lib.hid (show (zs ++ (shl n ys).take j).length = n + j by rw [List.length_append, List.length_take, hlen.out, Hsl.out, hlen'.out]; omega)
      generalize ys[j]?.getD 0 = yj at *
      obtain ⟨q, hq⟩ : ∃ q, yj * powI (n : Int) = q := ⟨_, rfl⟩
      rw [hq] at hsb Hsn
      have hwm : IntKind.i64.wrap (yj * powI (n : Int)) = q := by rw [IntKind.wrap_i64, hq]; omega
      have hwm2 : wrap64 (yj * 2 ^ n) = q := by
        have e : (2 : Int) ^ n = powI (n : Int) := by simp [powI]
        rw [e, hq]; exact IntWalk.wrap64_in _ ⟨by omega, by omega⟩
      clear hq
      go_wp2_with (at_builtin; refine wpList_append1 _ rfl (.tmp 16) (.tmp 21) _ rfl w.heap.size 48 i0 _ 8 Tryd.underlying36 hi0 hz0 hz1 hz2 rfl _ (zs ++ (shl n ys).take j).length _ rfl (hO.2.alloc _) wy.heap.size 1 (.int .i64 q) rfl (cell_new _ _ _) rfl (by rw [Hln.out]; omega) (by rw [Hln.out]; omega) (by simp; omega) ?_; rintro v' w' hown' hg' hv')
      have zg := hg'.size
      simp at zg
      go_roundw
      case rel => exact ⟨j + 1, by omega, by go_num, by rw [Hsn.out, ← List.append_assoc]; exact hO.step hown' hv' (fun k e => e) (fun _ => by omega), ((((Below.toUpd hB).mono (S := fun k => w.heap.size ≤ k) fun _ _ e => e).alloc _).grown hg' (fun k hk => .inl (hO.1 k hk))).toBelow (fun _ e => e) (Nat.le_refl _)⟩
      case measure => simp [intOf]; omega
    · obtain rfl : j = m := by omega
      rw [List.take_of_length_le (by rw [Hsl.out, hlen'.out]; exact Nat.le_refl _)] at hO
      go_wp2_with fail
      go_ret
      exact ⟨_, rfl, hO, hB⟩

/-- What stands when k items have those of the second order above them. -/
def abL (bh : Int) (zs us : List Int) (k : Nat) : List Int := (zs.take k).map (fun z => orI z bh) ++ zs.drop k ++ us
theorem abL_zero (bh : Int) (zs us : List Int) : abL bh zs us 0 = zs ++ us := by simp [abL]
theorem abL_all (bh : Int) (zs us : List Int) {n : Nat} (h : zs.length = n) : abL bh zs us n = zs.map (fun z => orI z bh) ++ us := by subst h; simp [abL]
theorem abL_len (bh : Int) (zs us : List Int) (k : Nat) : (abL bh zs us k).length = zs.length + us.length := by simp [abL]; omega
theorem abL_get (bh : Int) (zs us : List Int) {k : Nat} (h : k < zs.length) : (abL bh zs us k)[k]?.getD 0 = zs[k]?.getD 0 := by
  unfold abL
  rw [List.append_assoc, List.getElem?_append_right (by simp; omega), List.getElem?_append_left (by simp; omega)]
  simp [Nat.min_eq_left (Nat.le_of_lt h)]
theorem abL_step (bh : Int) (zs us : List Int) {k : Nat} (h : k < zs.length) : (abL bh zs us k).set k (orI (zs[k]?.getD 0) bh) = abL bh zs us (k + 1) := by
  unfold abL
  have h1 : ((zs.take k).map (fun z => orI z bh)).length = k := by simp; omega
  rw [List.append_assoc, List.set_append_right _ _ (by omega), h1, Nat.sub_self, List.drop_eq_getElem_cons h, List.cons_append, List.set_cons_zero, List.take_succ_eq_append_getElem h, List.map_append, List.getElem?_eq_getElem h]
  simp
set_option maxRecDepth 100000 in
set_option maxHeartbeats 4000000 in
theorem withAbove_any (b n c : Nat) (zs : List Int) (b' m c' : Nat) (ys : List Int) (w : World) (hA : Arr w b 48 zs) (hA' : Arr w b' 48 ys) (hlen0 : zs.length = n) (hlen0' : ys.length = m) (hvo : VoP zs) (hvy : VoP ys) (hnm : n + m ≤ 6) :
    Calls Tryd.prog 18 #[.slice (some ⟨b, 0, none⟩) n c, .slice (some ⟨b', 0, none⟩) m c'] w fun e w' => ∃ v, e = .returned v ∧ OwnS (fun k => w.heap.size ≤ k) w' w.heap.size 48 v (zs.map (fun z => orI z (behI n m)) ++ shl n ys) ∧ Below w.heap.size w w' := by
  have hlen := Lib.hid hlen0
  have Hwb := Lib.hid (withBeside_any b n c zs b' m c' ys w hA hA' hlen0 hlen0' hvy hnm)
  have hbd := fun j hj => hvo.bd j hj
  rw [hlen0] at hbd
  have Hlu : (shl n ys).length = m := by rw [shl_len]; exact hlen0'
  have hbeh := beh_bd hnm
  have hpn := powI_le6 (n := (n : Int)) (by omega)
  have hpn0 := powI_pos (n : Int)
  have hpm := powI_le6 (n := ((n + m : Nat) : Int)) (by omega)
  have hpm0 := powI_pos ((n + m : Nat) : Int)
  have hless : bits .andNot .i64 (powI ((n + m : Nat) : Int) - 1) (powI (n : Int) - 1) = behI n m := by rw [bits_less (by omega) (by omega) (by omega) (by omega)]; exact beh_less hnm
  have hl0 : (zs ++ shl n ys).length = n + m := by rw [List.length_append, Hlu, hlen0]
  generalize behI n m = bh at *
  generalize shl n ys = us at *
  clear hvo hvy hA hA' hlen0 hlen0'
  go_enter Tryd.func18, Tryd.ntmps18
  go_wp2_with fail
  refine Hwb.out.mono ?_
  rintro e w1 ⟨v1, rfl, hO1, hB1⟩
  clear Hwb
  have z1 := hB1.size
  obtain ⟨A1, c1, rfl, -⟩ := ints_of_own hO1.2
  rw [hl0] at hO1 ⊢
  have hal1 := fun w => oall_any A1 (n + m) c1 w (by omega)
  have hal2 := fun w => oall_any (some ⟨b, 0, none⟩) n c w (by omega)
  obtain ⟨nm, hnm0⟩ : ∃ nm, n + m = nm := ⟨_, rfl⟩
  rw [hnm0] at hl0 hO1 hpm hpm0 hless hal1 hnm ⊢
  have Hnm := Lib.hid hnm0
  have hnle : n ≤ nm := by omega
  clear hnm0
  generalize powI (nm : Int) - 1 = N1 at *
  generalize powI (n : Int) - 1 = N2 at *
  go_wp2_with (first
    | (go_at_call 27; with_reducible refine (hal1 _).mono ?_; rintro e w' ⟨rfl, rfl⟩)
    | (go_at_call 27; with_reducible refine (hal2 _).mono ?_; rintro e w' ⟨rfl, rfl⟩))
  clear hal1 hal2
  go_loopw [18] (fun i wr => ∃ k : Nat, k ≤ n ∧ i = .int .i64 k ∧ OwnS (fun k => w.heap.size ≤ k) wr w.heap.size 48 (.slice A1 nm c1) (abL bh zs us k) ∧ Below w.heap.size w wr) (fun i _ => n - (intOf i).toNat)
  case atStart => exact ⟨0, by omega, rfl, by rw [abL_zero]; exact hO1, hB1⟩
  case round =>
    clear hO1 hB1
    obtain ⟨k, hk, rfl, hO, hB⟩ := hrel
    rename World => wy
    have Hal := Lib.hid (show (abL bh zs us k).length = nm by rw [abL_len, hlen.out, Hlu, Hnm.out])
    have hO2 := hO.2
    rw [Hal.out] at hO2
    by_cases hlt : k < n
    · have hz := hbd k hlt
      have Hg := Lib.hid (abL_get bh zs us (k := k) (by rw [hlen.out]; exact hlt))
      have Hs := Lib.hid (abL_step bh zs us (k := k) (by rw [hlen.out]; exact hlt))
      obtain ⟨g, cap, e1⟩ := own_some hO2 (by omega)
      cases e1
      obtain ⟨hcs, hfs, hgl⟩ := own_cell hO2
      have hck := hcs k (by omega)
      have hfk := hfs k
      rw [Hg.out] at hck
      have hor : bits .or .i64 (zs[k]?.getD 0) bh = orI (zs[k]?.getD 0) bh := bits_or (by omega) (by omega) (by omega) (by omega)
      have hknm : k < nm := by omega
      have hgw : w.heap.size ≤ g := hO.1 g rfl
      clear hcs hfs Hg
      generalize zs[k]?.getD 0 = zk at *
      go_wp2
      go_roundw
      case rel => exact ⟨k + 1, by omega, by go_num, ⟨fun j hj => hO.1 j hj, by rw [← Hs.out, List.length_set, Hal.out, List.map_set]; exact own_set hO2 k _⟩, hB.setCell (p := ⟨g, k, none⟩) hgw _⟩
      case measure => simp [intOf]; omega
    · obtain rfl : k = n := by omega
      have Hal2 := Lib.hid (abL_all bh zs us hlen.out)
      go_wp2
      go_ret
      exact ⟨_, rfl, by rw [← Hal2.out]; exact hO, hB⟩
end Go.Proofs.YtiicffibhjeabaaDoor

/- Orders beside each other, and one above the other: the program's, whole. -/
namespace Go.Proofs.YtiicffibhjeabaaDoor
open Go.RowKit Go.Shelf
attribute [local go_sem] Oper.semAt_some
attribute [local go_sem, local simp] wide_fn
theorem RowV.ofArr {w : World} {lo hi n b : Nat} {xs : List Int} (h : Arr w b 3 xs) (hn : xs.length = n) (hlo : lo ≤ b) (hhi : b < hi) : RowV w lo hi (some ⟨b, 0, none⟩) n xs :=
  ⟨hn, fun _ => ⟨b, _, rfl, hlo, hhi, h, by rw [← hn]; exact List.take_of_length_le (by simp)⟩⟩
theorem bothB_no4 {zs ys : List Int} (h : (vo zs && vo ys) = false) : bothB zs ys = false := by
  unfold bothB
  rw [← Bool.and_assoc, h]; rfl

set_option maxHeartbeats 2000000 in
theorem StackOf_any (A : Option Addr) (n c : Nat) (zs : List Int) (A' : Option Addr) (n' c' : Nat) (ys : List Int) (w : World) (h : Ints w w.heap.size A n zs) (h' : Ints w w.heap.size A' n' ys) (hbig : n ≤ 1152921504606846976) (hbig' : n' ≤ 1152921504606846976) :
    Calls Tryd.prog 5 #[.slice A n c, .slice A' n' c'] w (GivesAtV w (bothR zs ys true) (bothB zs ys)) := by
  have hlen := Lib.hid h.len
  have hlen' := Lib.hid h'.len
  go_enter Tryd.func5, Tryd.ntmps5
  go_wp2_with fail
  refine (readBoth_any A n c zs A' n' c' ys _ h h' hbig hbig').mono ?_
  rintro e w1 ⟨hB1, (⟨hv, hv', b, b', rfl, hAr, hAr'⟩ | ⟨hno, A1, k1, A2, k2, rfl⟩)⟩
  · have hvo : VoP zs := by simpa [vo] using hv
    have hvy : VoP ys := by simpa [vo] using hv'
    have z1 := hB1.size
    clear hv hv'
    have h6 : n ≤ 6 := by have := hvo.1; rw [hlen.out] at this; exact this
    have h6' : n' ≤ 6 := by have := hvy.1; rw [hlen'.out] at this; exact this
    by_cases hnm : n + n' ≤ 6
    · have Hb := Lib.hid (bothB_yes hlen.out hlen'.out hvo hvy hnm)
      have Ht := Lib.hid (bothR_yes (over := true) Hb.out)
      have Hl := Lib.hid (show bothL zs ys true = zs.map (fun z => orI z (behI n n')) ++ shl n ys from by unfold bothL uqL uqS; rw [hlen.out, hlen'.out]; rfl)
      have Hll := Lib.hid (show (bothL zs ys true).length = n + n' by rw [bothL_len, hlen.out, hlen'.out])
      have Hcall := Lib.hid (withAbove_any b n n zs b' n' n' ys _ hAr hAr' hlen.out hlen'.out hvo hvy hnm)
      have hnm2 : (n : Int) + (n' : Int) ≤ 6 := by omega
      clear hAr hAr'
      go_wp2_with fail
      refine Hcall.out.mono ?_
      clear Hcall
      rintro e w2 ⟨v, rfl, hO, hB2⟩
      have z2 := hB2.size
      rw [← Hl.out] at hO
      obtain ⟨A2, c2, rfl, hI⟩ := ints_of_own hO.2
      rw [Hll.out] at hI ⊢
      clear hO Hl
      obtain ⟨N, hN⟩ : ∃ N, n + n' = N := ⟨_, rfl⟩
      rw [hN] at hI ⊢
      have HN := Lib.hid hN
      have hN6 : N ≤ 6 := by omega
      clear hN
      go_wp2_with fail
      refine (list_any _ N c2 _ _ hI (by omega)).mono ?_
      rintro e w3 ⟨rfl, hA3, hB3⟩
      have z3 := hA3.lt
      go_wp2_with fail
      go_ret2
      exact ⟨_, N, N, by rw [Hb.out]; rfl, by rw [Ht.out]; exact RowV.ofArr hA3 (by rw [Hll.out, HN.out]) (by omega) z3, hB1.trans ((hB2.mono z1).trans (hB3.mono (by omega)))⟩
    · have Hb := Lib.hid (bothB_no3 hlen.out hlen'.out hnm)
      have Ht := Lib.hid (bothR_no (over := true) Hb.out)
      have hnm2 : ¬ (n : Int) + (n' : Int) ≤ 6 := by omega
      clear hAr hAr'
      go_wp2_with fail
      go_ret2
      exact ⟨none, 0, 0, by rw [Hb.out]; rfl, by rw [Ht.out]; exact RowV.nil _ _ _ _, hB1⟩
  · have Hb := Lib.hid (bothB_no4 hno)
    have Ht := Lib.hid (bothR_no (over := true) Hb.out)
    clear hno
    go_wp2_with fail
    go_ret2
    exact ⟨none, 0, 0, by rw [Hb.out]; rfl, by rw [Ht.out]; exact RowV.nil _ _ _ _, hB1⟩
end Go.Proofs.YtiicffibhjeabaaDoor

/- Pairs of items of two orders: as both sides tell them. No program. -/
namespace Go.Proofs.YtiicffibhjeabaaDoor
open Go.RowKit

/-- The pair k is above the pair i, or it. -/
def tmA (zs ys : List Int) (m i k : Nat) : Bool := bitB (orI (zs[i / m]?.getD 0) (powI ((i / m : Nat) : Int))) ((k / m : Nat) : Int) && bitB (orI (ys[i % m]?.getD 0) (powI ((i % m : Nat) : Int))) ((k % m : Nat) : Int)
def tmTo (zs ys : List Int) (m i : Nat) : Nat → Int
  | 0 => 0
  | k + 1 => if (i != k && tmA zs ys m i k) = true then orI (tmTo zs ys m i k) (powI (k : Int)) else tmTo zs ys m i k
theorem tmTo_bd (zs ys : List Int) (m i : Nat) : ∀ k : Nat, 0 ≤ tmTo zs ys m i k ∧ tmTo zs ys m i k < powI (k : Int)
  | 0 => ⟨Int.le_refl _, show (0 : Int) < powI ((0 : Nat) : Int) from powI_pos _⟩
  | k + 1 => by
    have ih := tmTo_bd zs ys m i k
    have h1 : powI (k : Int) < powI ((k + 1 : Nat) : Int) := powI_lt (Nat.lt_succ_self k)
    have hp := powI_pos (k : Int)
    unfold tmTo
    split
    · exact orI_bd ih.1 (by omega) (by omega) h1
    · omega
theorem tmTo_bit (zs ys : List Int) (m i j : Nat) : ∀ k : Nat, bitB (tmTo zs ys m i k) (j : Int) = (decide (j < k) && (i != j && tmA zs ys m i j))
  | 0 => by simp [tmTo, bitB_zero]
  | k + 1 => by
    have ih := tmTo_bit zs ys m i j k
    unfold tmTo
    by_cases hjk : j = k
    · subst hjk
      split
      · rename_i h; rw [bitB_or, bitB_pow, h]; simp
      · rename_i h
        rw [ih]
        have h' : (i != j && tmA zs ys m i j) = false := by simpa using h
        rw [h']; simp
    · have e1 : decide (j < k + 1) = decide (j < k) := by
        by_cases h : j < k
        · rw [decide_eq_true h, decide_eq_true (by omega)]
        · rw [decide_eq_false h, decide_eq_false (by omega)]
      rw [e1]
      split
      · rw [bitB_or, ih, bitB_pow, decide_eq_false (p := k = j) (fun e => hjk e.symm), Bool.or_false]
      · exact ih
def tmL (zs ys : List Int) : List Int := (List.range (zs.length * ys.length)).map fun i => tmTo zs ys ys.length i (zs.length * ys.length)
theorem tmL_len (zs ys : List Int) : (tmL zs ys).length = zs.length * ys.length := by simp [tmL]
theorem tmL_get (zs ys : List Int) {n m i : Nat} (hn : zs.length = n) (hm : ys.length = m) (hi : i < n * m) : (tmL zs ys)[i]?.getD 0 = tmTo zs ys m i (n * m) := by
  subst hn; subst hm
  unfold tmL
  rw [List.getElem?_map, List.getElem?_range hi]; rfl
theorem tmL_snoc (zs ys : List Int) {n m i : Nat} (hn : zs.length = n) (hm : ys.length = m) (hi : i < n * m) : (tmL zs ys).take (i + 1) = (tmL zs ys).take i ++ [tmTo zs ys m i (n * m)] := by
  rw [List.take_succ_eq_append_getElem (by rw [tmL_len, hn, hm]; exact hi)]
  have := tmL_get zs ys hn hm hi
  rw [List.getElem?_eq_getElem (by rw [tmL_len, hn, hm]; exact hi)] at this
  rw [← this]; rfl
def timesB (zs ys : List Int) : Bool := vo zs && (vo ys && decide (zs.length * ys.length ≤ 6))
def timesR (zs ys : List Int) : List Int := if timesB zs ys then tmL zs ys else []
theorem timesR_le (zs ys : List Int) : (timesR zs ys).length ≤ 1048576 := by
  unfold timesR
  split
  · rename_i h
    unfold timesB at h
    simp only [Bool.and_eq_true, decide_eq_true_eq] at h
    rw [tmL_len]; omega
  · simp
theorem timesB_parts {zs ys : List Int} (h : timesB zs ys = true) : VoP zs ∧ VoP ys ∧ zs.length * ys.length ≤ 6 := by
  unfold timesB at h
  simp only [Bool.and_eq_true, decide_eq_true_eq] at h
  exact ⟨by simpa [vo] using h.1, by simpa [vo] using h.2.1, h.2.2⟩
end Go.Proofs.YtiicffibhjeabaaDoor

/- Pairs of items of two orders: as the program gathers them. No program. -/
namespace Go.Proofs.YtiicffibhjeabaaDoor
open Go.RowKit

/-- What has been gathered for a pair when the items of a list are over. -/
def accP (m : Nat) (yq : Int) (pre : List Nat) : Int := pre.foldl (fun acc h => orI acc (yq * powI ((h * m : Nat) : Int))) 0
theorem accP_snoc (m : Nat) (yq : Int) (pre : List Nat) (h : Nat) : accP m yq (pre ++ [h]) = orI (accP m yq pre) (yq * powI ((h * m : Nat) : Int)) := by simp [accP]
theorem mulpow_bit {y : Int} (h0 : 0 ≤ y) (d k : Nat) : bitB (y * powI (d : Int)) (k : Int) = (decide (d ≤ k) && bitB y ((k - d : Nat) : Int)) := by
  obtain ⟨u, rfl⟩ := Int.eq_ofNat_of_zero_le h0
  have e : ((u : Int) * powI (d : Int)).toNat = u * 2 ^ d := by
    have : (u : Int) * powI (d : Int) = ((u * 2 ^ d : Nat) : Int) := by simp [powI]
    rw [this, Int.toNat_natCast]
  unfold bitB
  rw [e, Int.toNat_natCast, Int.toNat_natCast, Int.toNat_natCast, Nat.mul_comm, Nat.testBit_two_pow_mul]
theorem mulpow_bd {n m h : Nat} {yq : Int} (h0 : 0 ≤ yq) (h1 : yq < powI (m : Int)) (hh : h < n) : 0 ≤ yq * powI ((h * m : Nat) : Int) ∧ yq * powI ((h * m : Nat) : Int) < powI ((n * m : Nat) : Int) := by
  have hp := powI_pos ((h * m : Nat) : Int)
  refine ⟨Int.mul_nonneg h0 (by omega), ?_⟩
  have h2 : (yq + 1) * powI ((h * m : Nat) : Int) ≤ powI (m : Int) * powI ((h * m : Nat) : Int) := Int.mul_le_mul_of_nonneg_right (by omega) (by omega)
  have e : powI (m : Int) * powI ((h * m : Nat) : Int) = powI ((m + h * m : Nat) : Int) := by unfold powI; rw [Int.toNat_natCast, Int.toNat_natCast, Int.toNat_natCast, Int.pow_add]
  have h3 : powI ((m + h * m : Nat) : Int) ≤ powI ((n * m : Nat) : Int) := powI_le (by
    have : m + h * m = (h + 1) * m := by rw [Nat.add_mul, Nat.one_mul, Nat.add_comm]
    rw [this]
    exact_mod_cast Nat.mul_le_mul_right m hh)
  rw [e, Int.add_mul, Int.one_mul] at h2
  omega
theorem accP_bd {n m : Nat} {yq : Int} (h0 : 0 ≤ yq) (h1 : yq < powI (m : Int)) : ∀ pre : List Nat, (∀ h ∈ pre, h < n) → 0 ≤ accP m yq pre ∧ accP m yq pre < powI ((n * m : Nat) : Int) := fun pre => by
  have key : ∀ l : List Nat, (∀ h ∈ l.reverse, h < n) → 0 ≤ accP m yq l.reverse ∧ accP m yq l.reverse < powI ((n * m : Nat) : Int) := fun l => by
    induction l with
    | nil => intro _; exact ⟨Int.le_refl _, powI_pos _⟩
    | cons x l ih =>
      intro hl
      rw [List.reverse_cons] at hl ⊢
      have ih := ih fun h hh => hl h (by simp at hh ⊢; exact .inl hh)
      have hb := mulpow_bd (n := n) (h := x) h0 h1 (hl x (by simp))
      rw [accP_snoc]
      exact orI_bd ih.1 ih.2 hb.1 hb.2
  intro h
  have := key pre.reverse (by rw [List.reverse_reverse]; exact h)
  rwa [List.reverse_reverse] at this
theorem accP_bit {m : Nat} {yq : Int} (h0 : 0 ≤ yq) (k : Nat) : ∀ pre : List Nat, bitB (accP m yq pre) (k : Int) = pre.any fun h => decide (h * m ≤ k) && bitB yq ((k - h * m : Nat) : Int) := fun pre => by
  have key : ∀ l : List Nat, bitB (accP m yq l.reverse) (k : Int) = l.reverse.any fun h => decide (h * m ≤ k) && bitB yq ((k - h * m : Nat) : Int) := fun l => by
    induction l with
    | nil => simp [accP, bitB_zero]
    | cons x l ih => rw [List.reverse_cons, accP_snoc, bitB_or, ih, mulpow_bit h0, List.any_append]; simp
  have := key pre.reverse
  rwa [List.reverse_reverse] at this
theorem acc_done {zs ys : List Int} {n m a b : Nat} (_hn : zs.length = n) (_hm : ys.length = m) (_hnm : n * m ≤ 6) (hz : 0 ≤ orI (zs[a]?.getD 0) (powI (a : Int)) ∧ orI (zs[a]?.getD 0) (powI (a : Int)) < powI (n : Int)) (hz64 : orI (zs[a]?.getD 0) (powI (a : Int)) < 64)
    (hy : 0 ≤ orI (ys[b]?.getD 0) (powI (b : Int)) ∧ orI (ys[b]?.getD 0) (powI (b : Int)) < powI (m : Int)) (hbm : b < m) :
    lessI (accP m (orI (ys[b]?.getD 0) (powI (b : Int))) (itemsL (orI (zs[a]?.getD 0) (powI (a : Int))))) (powI ((a * m + b : Nat) : Int)) = tmTo zs ys m (a * m + b) (n * m) := by
  have hm0 : 0 < m := by omega
  have hd : (a * m + b) / m = a := by rw [Nat.mul_comm, Nat.mul_add_div hm0, Nat.div_eq_of_lt hbm, Nat.add_zero]
  have hr : (a * m + b) % m = b := by rw [Nat.mul_comm, Nat.mul_add_mod, Nat.mod_eq_of_lt hbm]
  have htb := tmTo_bd zs ys m (a * m + b) (n * m)
  refine bitB_ext (lessI_bd _ _).1 htb.1 fun k => ?_
  rw [bitB_less, bitB_pow, accP_bit hy.1, tmTo_bit]
  unfold tmA
  rw [hd, hr]
  have key : ((itemsL (orI (zs[a]?.getD 0) (powI (a : Int)))).any fun h => decide (h * m ≤ k) && bitB (orI (ys[b]?.getD 0) (powI (b : Int))) ((k - h * m : Nat) : Int)) =
      (bitB (orI (zs[a]?.getD 0) (powI (a : Int))) ((k / m : Nat) : Int) && bitB (orI (ys[b]?.getD 0) (powI (b : Int))) ((k % m : Nat) : Int)) := by
    rw [Bool.eq_iff_iff, List.any_eq_true, Bool.and_eq_true]
    constructor
    · rintro ⟨h, hh, h2⟩
      rw [Bool.and_eq_true, decide_eq_true_eq] at h2
      obtain ⟨r, rfl⟩ : ∃ r, k = h * m + r := ⟨k - h * m, by omega⟩
      have hb := bitB_lt hy.2 h2.2
      rw [Nat.add_sub_cancel_left] at hb h2
      have e1 : (h * m + r) / m = h := by rw [Nat.mul_comm, Nat.mul_add_div hm0, Nat.div_eq_of_lt hb, Nat.add_zero]
      have e2 : (h * m + r) % m = r := by rw [Nat.mul_comm, Nat.mul_add_mod, Nat.mod_eq_of_lt hb]
      rw [e1, e2]
      exact ⟨(mem_itemsL hz64).1 hh, h2.2⟩
    · rintro ⟨h1, h2⟩
      refine ⟨k / m, (mem_itemsL hz64).2 h1, ?_⟩
      rw [Bool.and_eq_true, decide_eq_true_eq]
      have e : k / m * m + k % m = k := by rw [Nat.mul_comm]; exact Nat.div_add_mod k m
      refine ⟨by omega, ?_⟩
      have : k - k / m * m = k % m := by omega
      rw [this]; exact h2
  rw [key]
  cases h1 : bitB (orI (zs[a]?.getD 0) (powI (a : Int))) ((k / m : Nat) : Int)
  · simp
  · have hkn : k / m < n := bitB_lt hz.2 h1
    have hk : k < n * m := (Nat.div_lt_iff_lt_mul hm0).1 hkn
    rw [decide_eq_true hk]
    cases bitB (orI (ys[b]?.getD 0) (powI (b : Int))) ((k % m : Nat) : Int) <;> simp
    by_cases e : a * m + b = k <;> simp [e]
end Go.Proofs.YtiicffibhjeabaaDoor

/- 'listOf': the items of a set. -/
namespace Go.Proofs.YtiicffibhjeabaaDoor
open Go.RowKit

/-- Shifted past all items. -/
theorem shr_over {s : Int} {j : Nat} (h0 : 0 ≤ s) : (0 < s / 2 ^ j) ↔ powI j ≤ s := by
  have hp : (0 : Int) < 2 ^ j := Int.pow_pos (by omega)
  unfold powI
  rw [Int.toNat_natCast]
  constructor
  · intro h
    by_cases hs : 2 ^ j ≤ s
    · exact hs
    · rw [Int.ediv_eq_zero_of_lt h0 (by omega)] at h; omega
  · intro h
    exact Int.lt_iff_add_one_le.2 ((Int.le_ediv_iff_mul_le hp).2 (by omega))

end Go.Proofs.YtiicffibhjeabaaDoor

/- The model's tests of chains and of sets apart. -/
namespace Go.Proofs.YtiicffibhjeabaaDoor
open Go.RowKit

theorem relB_comm (zs : List Int) (a b : Nat) : relB zs a b = relB zs b a := by unfold relB; rw [Bool.or_comm]
/-- The item at place a of a set. -/
def itAt (s : Int) (a : Nat) : Nat := (itemsL s)[a]?.getD 0
theorem itAt_mem {s : Int} {a : Nat} (ha : a < (itemsL s).length) : itAt s a ∈ itemsL s := by
  unfold itAt; rw [List.getElem?_eq_getElem ha]; exact List.getElem_mem ha
theorem itAt_cast {s : Int} {a : Nat} (ha : a < (itemsL s).length) : (((itemsL s).map fun x : Nat => (x : Int))[a]?.getD 0) = (itAt s a : Int) := by
  unfold itAt; rw [List.getElem?_map, List.getElem?_eq_getElem ha]; rfl
theorem itAt_lt {n : Nat} {s : Int} {a : Nat} (hn : n ≤ 6) (h1 : s < powI n) (ha : a < (itemsL s).length) : itAt s a < n := by
  have hpn := powI_le6 (n := (n : Int)) (by omega)
  exact bitB_lt h1 ((mem_itemsL (by omega)).1 (itAt_mem ha))
theorem chB_of {zs : List Int} {s : Int} (h : ∀ a, a < (itemsL s).length → ∀ b, b < a → relB zs (itAt s a) (itAt s b) = true) : chB zs s = true := by
  unfold chB
  rw [decide_eq_true_eq]
  refine List.pairwise_iff_getElem.2 fun i j hi hj hij => ?_
  have := h j hj i hij
  rw [relB_comm] at this
  simpa [itAt, hi, hj] using this
theorem chB_not {zs : List Int} {s : Int} {a b : Nat} (ha : a < (itemsL s).length) (hb : b < a) (h : relB zs (itAt s a) (itAt s b) = false) : chB zs s = false := by
  unfold chB
  rw [decide_eq_false_iff_not]
  intro hc
  have := List.pairwise_iff_getElem.1 hc b a (by omega) ha hb
  rw [relB_comm] at this
  simp [itAt, ha, Nat.lt_trans hb ha] at h
  simp [h] at this
theorem apB_of {zs : List Int} {s : Int} (h : ∀ a, a < (itemsL s).length → (andI (zs[itAt s a]?.getD 0) s == 0) = true) : apB zs s = true := by
  unfold apB
  rw [List.all_eq_true]
  intro x hx
  obtain ⟨i, hi, rfl⟩ := List.getElem_of_mem hx
  have := h i hi
  simpa [itAt, hi] using this
theorem apB_not {zs : List Int} {s : Int} {a : Nat} (ha : a < (itemsL s).length) (h : (andI (zs[itAt s a]?.getD 0) s == 0) = false) : apB zs s = false := by
  unfold apB
  cases hc : (itemsL s).all fun a => andI (zs[a]?.getD 0) s == 0 with
  | false => rfl
  | true => rw [List.all_eq_true.1 hc _ (itAt_mem ha)] at h; cases h

end Go.Proofs.YtiicffibhjeabaaDoor

/- HeightsOf: the model's and the program's. -/
namespace Go.Proofs.YtiicffibhjeabaaDoor
open Go.RowKit Go.Shelf
attribute [local go_sem] Oper.semAt_some
attribute [local go_sem, local simp] wide_fn

theorem swaps_snoc (ps : List (Nat × Nat)) (a b : Nat) : swaps (ps ++ [(a, b)]) = swaps ps ++ [(b, a)] := by simp [swaps]

end Go.Proofs.YtiicffibhjeabaaDoor

/- The program's pairs within a set; its tests of chains and of sets apart. -/
namespace Go.Proofs.YtiicffibhjeabaaDoor
open Go.RowKit Go.Shelf
attribute [local go_sem] Oper.semAt_some
attribute [local go_sem, local simp] wide_fn

set_option maxRecDepth 100000 in
set_option maxHeartbeats 4000000 in
theorem pairsWithin_any (A : Option Addr) (n c : Nat) (zs : List Int) (s : Int) (hv : Sets zs) (w : World) (hA : Ints w w.heap.size A n zs) (h0 : 0 ≤ s) (h1 : s < powI n) :
    Calls Tryd.prog 37 #[.slice A n c, .int .i64 s] w fun e W' => e = .returned (.int .i64 (pwL zs s (itemsL s))) ∧ Below w.heap.size w W' := by
  refine (callsIn_wide (n := 9)).1 ?_
  refine callsIn_of_wp_marks Tryd.func37 rfl trivial ?_ rfl
  simp only [Tryd.ntmps37, List.size_toArray, List.length_cons, List.length_nil, Nat.reduceAdd, Nat.reduceSub, Array.replicate_succ, Array.replicate_zero, List.push_toArray, List.append_toArray, List.nil_append, List.cons_append]
  have hlen := Lib.hid hA.len
  have hn6 : n ≤ 6 := by have := hv.1; rw [hlen.out] at this; exact this
  have hpk : powI n ≤ 64 := powI_le6 (by omega)
  gi_wp2_with (gi_at_call 52; refine (callsIn_wide.2 (each_any _ _)).mono ?_; rintro e w' ⟨rfl, rfl⟩)
  have bO := (((Boxed.new w 36 (.slice A n c)).alloc (.cells #[Value.int .i64 s] 48)).alloc (.cells #[Value.int .i64 0] 3)).alloc (.cells #[Value.int .i64 s] 48)
  have bS := ((Boxed.new (w.alloc (.cells #[Value.slice A n c] 36)) 48 (.int .i64 s)).alloc (.cells #[Value.int .i64 0] 3)).alloc (.cells #[Value.int .i64 s] 48)
  have bT := (Boxed.new ((w.alloc (.cells #[Value.slice A n c] 36)).alloc (.cells #[Value.int .i64 s] 48)) 3 (.int .i64 0)).alloc (.cells #[Value.int .i64 s] 48)
  have bE := Boxed.new (((w.alloc (.cells #[Value.slice A n c] 36)).alloc (.cells #[Value.int .i64 s] 48)).alloc (.cells #[Value.int .i64 0] 3)) 48 (.int .i64 s)
  have hu0 : Upd (fun _ => False) w ((((w.alloc (.cells #[Value.slice A n c] 36)).alloc (.cells #[Value.int .i64 s] 48)).alloc (.cells #[Value.int .i64 0] 3)).alloc (.cells #[Value.int .i64 s] 48)) := ((((Upd.refl _ w).alloc _).alloc _).alloc _).alloc _
  have hz0 : ((((w.alloc (.cells #[Value.slice A n c] 36)).alloc (.cells #[Value.int .i64 s] 48)).alloc (.cells #[Value.int .i64 0] 3)).alloc (.cells #[Value.int .i64 s] 48)).heap.size = w.heap.size + 4 := by simp
  simp only [World.size_alloc] at bO bS bT bE
  obtain ⟨W0, hW0⟩ : ∃ W0, ((((w.alloc (.cells #[Value.slice A n c] 36)).alloc (.cells #[Value.int .i64 s] 48)).alloc (.cells #[Value.int .i64 0] 3)).alloc (.cells #[Value.int .i64 s] 48)) = W0 := ⟨_, rfl⟩
  rw [hW0] at bO bS bT bE hu0 hz0 ⊢
  clear hW0
  have hA0 : Ints W0 w.heap.size A n zs := hA.below (hu0.toBelow (fun _ e => e.elim) (Nat.le_refl _))
  refine range_out (n := 9) (gf := 62) (lb := #[.pointer (some ⟨w.heap.size + 1 + 1 + 1, 0, none⟩)]) rfl (enters_of Tryd.func62 (by kernel_rfl) rfl) (encs := encI) (L := itemsL s)
    (fun k => k = w.heap.size + 1 + 1) (fun k e => by omega) (fun _ => rfl)
    (fun W1 l1 hu1 hl1 hl2 => each_iter s h0 (by omega) _ _ W1 (hu1.boxed bE (fun e => e)) (fun e => by omega))
    (fun pre D W => pre.length ≤ 6 ∧ Boxed W (w.heap.size + 1 + 1) 3 (.int .i64 (pwL zs s pre)) ∧ Upd (fun k => k = w.heap.size + 1 + 1) W0 W)
    (fun _ _ _ _ => False)
    (fun _ D X Y hs hu => ⟨hs.1, hu.boxed hs.2.1 (fun e => by omega), hs.2.2.trans' hu (fun i hi e => by omega)⟩)
    (fun _ _ _ _ _ hs _ => hs)
    ⟨by simp, bT, Upd.refl _ _⟩ ?owes ?done ?stop
  case owes =>
    rintro l1 pre x D1 W hl1 hl2 hDl hD1 - hpre K hK
    gi_wp2
    refine hK _ _ (Upd.refl _ _) ?_
    rintro Wb hWb - ⟨htb, bT1, hU⟩
    clear hK
    obtain ⟨hx6, hxb⟩ := mem_itemsTo.1 (hpre.subset (by simp : x ∈ pre ++ [x]))
    have hpl : (pre ++ [x]).length ≤ 6 := Nat.le_trans hpre.length_le (len_items s)
    have hxn := bitB_lt h1 hxb
    have hpw := pwL_bd zs (s := s) h0 (by omega) pre
    have bO1 := hU.boxed bO (by omega)
    have hcO := bO1.cell
    have hcS := (hU.boxed bS (by omega)).cell
    obtain ⟨ab, off, rfl, hab, hc⟩ := hA0.at_ hxn
    have hcx := hU.cell (hc x hxn) (fun e => by simp at e; omega)
    have zx := hv.bd x (by rw [hlen.out]; exact hxn)
    have hsb := hU.size
    have hcT := bT1.cell
    have hfT := bT1.frozen
    have hszb := hWb.size
    have hand : bits .and .i64 (zs[x]?.getD 0) s = andI (zs[x]?.getD 0) s := bits_and (by omega) (by omega) (by omega) (by omega)
    have hal := andI_lt (a := zs[x]?.getD 0) (s := s) h0 (by omega)
    have hpb := popI_bd hal.1 hal.2
    have Hn := Lib.hid (pwL_snoc zs s pre x)
    clear hc
    gi_wp2
    refine region_tail_round 9 (by kernel_rfl) (by kernel_rfl) (by kernel_rfl) ?_
    simp only [List.take_succ_cons, List.take_zero, List.drop_succ_cons, List.drop_zero]
    repeat (gi_big_quiet_step ((first
      | (gi_at_call 38; exact quietIn_add (size_any _ _ hal.1 hal.2))
      | (gi_at_call 38; exact quietIn_left (size_any _ _ hal.1 hal.2)))))
    refine wpQuietIn_nil ?_
    intro _ hw'
    obtain ⟨nq, hw''⟩ := hw'
    subst hw''
    gi_wp2
    exact ⟨D1, ⟨hpl, by rw [Hn.out]; exact bT1.set _, (hU.drewN _).setCell (p := ⟨w.heap.size + 1 + 1, 0, none⟩) (.inr rfl) _⟩, ((Upd.refl _ _).drewN _).setCell (p := ⟨w.heap.size + 1 + 1, 0, none⟩) (.inr (.inl rfl)) _, fun k hk => .inl hk⟩
  case done =>
    rintro d D1 W hd ⟨htb, bT1, hU⟩ hD1 hKd
    have hcT := bT1.cell
    gi_wp2
    refine leaves_marks [d] _ ⟨by simp, fun b hb => ?_⟩ (fun W' hu' => ?_)
    · rw [List.mem_singleton.1 hb]
      exact hKd
    · exact ⟨.int .i64 (pwL zs s (itemsL s)), by simp [results, Tryd.f37, go_sem], rfl,
        (((hu0.mono fun _ _ e => e.elim).trans' hU (fun i hi e => by omega)).trans' hu' (fun i hi e => by simp at e; omega)).toBelow (R := fun _ => False) (fun _ e => e.elim) (Nat.le_refl _)⟩
  case stop =>
    rintro d D1 co pre W hd hpre h
    exact h.elim

theorem isApart_any (A : Option Addr) (n c : Nat) (zs : List Int) (s : Int) (hv : Sets zs) (w : World) (hA : Ints w w.heap.size A n zs) (h0 : 0 ≤ s) (h1 : s < powI n) :
    Calls Tryd.prog 24 #[.slice A n c, .int .i64 s] w fun e W' => e = .returned (.bool (apB zs s)) ∧ Below w.heap.size w W' := by
  have hn6 : n ≤ 6 := by have := hv.1; rw [hA.len] at this; exact this
  have hpk : powI n ≤ 64 := powI_le6 (by omega)
  have He := Lib.hid (pw_apart (zs := zs) h0 (by omega))
  go_enter Tryd.func24, Tryd.ntmps24
  go_wp2_with (go_at_call 37; refine (pairsWithin_any _ _ _ zs s hv _ hA h0 h1).mono ?_; rintro e w' ⟨rfl, hB⟩)
  go_ret
  exact ⟨ret_bool He.out, hB⟩

theorem isChain_any (A : Option Addr) (n c : Nat) (zs : List Int) (s : Int) (hv : VoP zs) (w : World) (hA : Ints w w.heap.size A n zs) (h0 : 0 ≤ s) (h1 : s < powI n) :
    Calls Tryd.prog 23 #[.slice A n c, .int .i64 s] w fun e W' => e = .returned (.bool (chB zs s)) ∧ Below w.heap.size w W' := by
  have hn6 : n ≤ 6 := by have := hv.1; rw [hA.len] at this; exact this
  have hpk : powI n ≤ 64 := powI_le6 (by omega)
  have He := Lib.hid (pw_chain hv h0 (by rw [hA.len]; exact h1))
  have hpb := popI_bd h0 (by omega)
  have hmul : wrap64 (popI s * (popI s - 1)) = popI s * (popI s - 1) ∧ wrap64 ((popI s * (popI s - 1)).tdiv 2) = (popI s * (popI s - 1)).tdiv 2 := by
    have : popI s = 0 ∨ popI s = 1 ∨ popI s = 2 ∨ popI s = 3 ∨ popI s = 4 ∨ popI s = 5 ∨ popI s = 6 := by omega
    rcases this with h | h | h | h | h | h | h <;> rw [h] <;> exact ⟨IntWalk.wrap64_in _ (by decide), IntWalk.wrap64_in _ (by decide)⟩
  have hw1 := hmul.1
  have hw2 := hmul.2
  clear hmul
  go_enter Tryd.func23, Tryd.ntmps23
  go_wp2_with (first
    | (go_at_call 37; refine (pairsWithin_any _ _ _ zs s hv.sets _ hA h0 h1).mono ?_; rintro e w' ⟨rfl, hB⟩)
    | (go_at_call 38; refine (size_any _ _ h0 (by omega)).mono ?_; rintro e w' ⟨rfl, rfl⟩))
  go_ret
  exact ⟨ret_bool He.out, hB⟩

/-! The iterator over all sets. -/
abbrev encS (j : Nat) : Array Value := #[.int .i64 (j : Int)]
theorem sets_any (A : Option Addr) (n c : Nat) (w : World) :
    Calls Tryd.prog 51 #[.slice A n c] w fun e w' => e = .returned (.func (.func 61) #[] #[.pointer (some ⟨w.heap.size, 0, none⟩)]) ∧ w' = w.alloc (.cells #[.slice A n c] 36) := by
  go_enter Tryd.func51, Tryd.ntmps51
  go_wp2
  go_ret
  exact ⟨rfl, rfl⟩

theorem range_pre {k N : Nat} (h : k < N) : List.range k ++ [k] <+: List.range N := by
  rw [← List.range_succ]
  refine ⟨(List.range N).drop (k + 1), ?_⟩
  have : List.range (k + 1) = (List.range N).take (k + 1) := by rw [List.take_range]; congr 1; omega
  rw [this, List.take_append_drop]

set_option maxRecDepth 100000 in
set_option maxHeartbeats 1000000 in
theorem sets_iter (A : Option Addr) (n c : Nat) (hn : n ≤ 6) (b : Nat) (M : Nat → Prop) (w : World) (hb : Boxed w b 36 (.slice A n c)) :
    Iter Tryd.prog 61 #[.pointer (some ⟨b, 0, none⟩)] encS (List.range (2 ^ n)) M w := fun l J Jx hJ hJx hY h0 => by
  refine (callsIn_wide (n := 9)).1 ?_
  refine callsIn_of_wp Tryd.func61 rfl trivial ?_ rfl
  simp only [Tryd.ntmps61, List.size_toArray, List.length_cons, List.length_nil, Nat.reduceAdd, Nat.reduceSub, Array.replicate_succ, Array.replicate_zero, List.push_toArray, List.append_toArray, List.nil_append, List.cons_append]
  have hc0 := hb.cell
  have hp6 : (2 : Nat) ^ n ≤ 2 ^ 6 := Nat.pow_le_pow_right (by decide) hn
  have hsh : wrap64 (2 ^ n) = ((2 ^ n : Nat) : Int) := by
    have e : ((2 ^ n : Nat) : Int) = 2 ^ n := by simp
    have key : ∀ q : Nat, q ≤ 2 ^ 6 → wrap64 (q : Int) = q := fun q h => IntWalk.wrap64_in _ ⟨by omega, by omega⟩
    rw [← e]
    exact key _ hp6
  generalize hN : (2 : Nat) ^ n = N at *
  clear hN
  gi_wp2
  rw [hsh]
  gi_loopw [7] (fun i wr => ∃ (k : Nat) (D : Nat → Prop), k ≤ N ∧ i = .int .i64 k ∧ J (List.range k) D wr ∧ w.heap.size ≤ wr.heap.size) (fun i _ => N - (intOf i).toNat)
  case atStart => exact ⟨0, _, by omega, rfl, h0, Nat.le_refl _⟩
  case round =>
    obtain ⟨k, D, hk, rfl, hj, hsz⟩ := hrel
    by_cases hlt : k < N
    · have Hj := Lib.hid (List.range_succ (n := k))
      have hpre := range_pre hlt
      obtain ⟨fn, tmps, assign, body, hy, hR⟩ := hY (List.range k) k D wr hj hsz hpre 8
      gi_wp2
      refine hR.mono ?_
      rintro e W3 (⟨rfl, D', hJ3, hU, hD'⟩ | ⟨rfl, D', hJ3, hU, hD'⟩)
      · have hz3 := hU.size
        gi_wp2
        go_roundw
        case rel => exact ⟨k + 1, D', by omega, by go_num, by rw [Hj.out]; exact hJ3, by omega⟩
        case measure => simp [intOf]; omega
      · gi_wp2
        refine bodyPost_ret (results_none rfl _ _ _) rfl ?_
        exact ⟨⟨_, rfl⟩, .inr ⟨_, D', hpre, hJ3⟩⟩
    · obtain rfl : k = N := by omega
      gi_wp2
      go_end0
      exact ⟨⟨_, rfl⟩, .inl ⟨D, hj⟩⟩
end Go.Proofs.YtiicffibhjeabaaDoor

/- The program's count of sets by their sizes, for a test that is handed in. -/
namespace Go.Proofs.YtiicffibhjeabaaDoor
open Go.RowKit Go.Shelf
attribute [local go_sem] Oper.semAt_some
attribute [local go_sem, local simp] wide_fn

/-- The test g, bound to the order: what it answers. -/
def Tests (g : FuncId) (A : Option Addr) (n c : Nat) (zs : List Int) (p : Int → Bool) : Prop :=
  ∀ (s : Int) (w : World), 0 ≤ s → s < powI n → Ints w w.heap.size A n zs → Calls Tryd.prog g #[.slice A n c, .int .i64 s] w fun e W' => e = .returned (.bool (p s)) ∧ Below w.heap.size w W'

theorem cnt_small (p : Int → Bool) (len k : Nat) (hk : k ≤ 64) (i : Nat) : 0 ≤ (cntTo p len k)[i]?.getD 0 ∧ (cntTo p len k)[i]?.getD 0 ≤ 64 := by
  have := cntTo_bd p len k i; omega
theorem popI_le_n_fin : ∀ n : Fin 7, ∀ k : Fin 64, (k.val : Int) < powI (n.val : Int) → popI (k.val : Int) ≤ (n.val : Int) := by decide +kernel
theorem popI_le_n {n : Nat} {s : Int} (hn : n ≤ 6) (h0 : 0 ≤ s) (h1 : s < powI n) : popI s ≤ n := by
  have hpn := powI_le6 (n := (n : Int)) (by omega)
  obtain ⟨k, rfl⟩ := Int.eq_ofNat_of_zero_le h0
  exact popI_le_n_fin ⟨n, by omega⟩ ⟨k, by omega⟩ h1

theorem range_at {N : Nat} {pre : List Nat} {x : Nat} (h : pre ++ [x] <+: List.range N) : x = pre.length ∧ pre.length < N := by
  have hl := h.length_le
  simp at hl
  have e := h.getElem (i := pre.length) (by simp)
  simp at e
  exact ⟨e, by omega⟩

/-- What countSets hands back: the first m numbers of a row of its own. -/
def GivesCut (w : World) (xs : List Int) (m : Nat) (e : Ending) (w' : World) : Prop :=
  ∃ b c, e = .returned (.slice (some ⟨b, 0, none⟩) m c) ∧ Arr w' b 3 xs ∧ w.heap.size ≤ b ∧ m ≤ xs.length ∧ Below w.heap.size w w'

set_option maxRecDepth 100000 in
set_option maxHeartbeats 4000000 in
theorem countSets_any (g : FuncId) (hg : ∀ args w, (callFunc g args).run Tryd.prog w = .ok (.enter g args) w) (A : Option Addr) (n c : Nat) (zs : List Int) (p : Int → Bool) (hn6 : n ≤ 6) (w : World) (hA : Ints w w.heap.size A n zs) (hT : Tests g A n c zs p) :
    Calls Tryd.prog 36 #[.slice A n c, .func (.func g) #[.slice A n c] #[]] w fun e W' => GivesCut w (cntTo p (n + 1) (2 ^ n)) ((grTo p (2 ^ n)).toNat + 1) e W' := by
  refine (callsIn_wide (n := 9)).1 ?_
  refine callsIn_of_wp_marks Tryd.func36 rfl trivial ?_ rfl
  simp only [Tryd.ntmps36, List.size_toArray, List.length_cons, List.length_nil, Nat.reduceAdd, Nat.reduceSub, Array.replicate_succ, Array.replicate_zero, List.push_toArray, List.append_toArray, List.nil_append, List.cons_append]
  have hlen := Lib.hid hA.len
  have hp6 : (2 : Nat) ^ n ≤ 2 ^ 6 := Nat.pow_le_pow_right (by decide) hn6
  have hN := Lib.hid (show powI n = ((2 ^ n : Nat) : Int) by simp [powI])
  have hmk := run_make_row' (P := Tryd.prog) 23 3 (.int .i64 0) 8 Tryd.underlying23 infoInt rfl .i64 .i64 (n + 1) (by omega) (by omega)
  rw [Int.natCast_add, Int.cast_ofNat_Int] at hmk
  gi_wp2_with (gi_at_call 51; refine (callsIn_wide.2 (sets_any _ _ _ _)).mono ?_; rintro e w' ⟨rfl, rfl⟩)
  have bF := ((((Boxed.new w 45 (.func (.func g) #[.slice A n c] #[])).alloc (.cells (madeCells #[Value.int .i64 0] (n + 1)) 3)).alloc (.cells #[Value.slice (some ⟨w.heap.size + 1, 0, none⟩) (n + 1) (n + 1)] 23)).alloc (.cells #[Value.int .i64 0] 3)).alloc (.cells #[Value.slice A n c] 36)
  have aR := (((Arr.new (w.alloc (.cells #[Value.func (.func g) #[.slice A n c] #[]] 45)) 3 (n + 1)).alloc (.cells #[Value.slice (some ⟨w.heap.size + 1, 0, none⟩) (n + 1) (n + 1)] 23)).alloc (.cells #[Value.int .i64 0] 3)).alloc (.cells #[Value.slice A n c] 36)
  have bC := ((Boxed.new ((w.alloc (.cells #[Value.func (.func g) #[.slice A n c] #[]] 45)).alloc (.cells (madeCells #[Value.int .i64 0] (n + 1)) 3)) 23 (.slice (some ⟨w.heap.size + 1, 0, none⟩) (n + 1) (n + 1))).alloc (.cells #[Value.int .i64 0] 3)).alloc (.cells #[Value.slice A n c] 36)
  have bG := (Boxed.new (((w.alloc (.cells #[Value.func (.func g) #[.slice A n c] #[]] 45)).alloc (.cells (madeCells #[Value.int .i64 0] (n + 1)) 3)).alloc (.cells #[Value.slice (some ⟨w.heap.size + 1, 0, none⟩) (n + 1) (n + 1)] 23)) 3 (.int .i64 0)).alloc (.cells #[Value.slice A n c] 36)
  have bE := Boxed.new ((((w.alloc (.cells #[Value.func (.func g) #[.slice A n c] #[]] 45)).alloc (.cells (madeCells #[Value.int .i64 0] (n + 1)) 3)).alloc (.cells #[Value.slice (some ⟨w.heap.size + 1, 0, none⟩) (n + 1) (n + 1)] 23)).alloc (.cells #[Value.int .i64 0] 3)) 36 (.slice A n c)
  have hu0 : Upd (fun _ => False) w (((((w.alloc (.cells #[Value.func (.func g) #[.slice A n c] #[]] 45)).alloc (.cells (madeCells #[Value.int .i64 0] (n + 1)) 3)).alloc (.cells #[Value.slice (some ⟨w.heap.size + 1, 0, none⟩) (n + 1) (n + 1)] 23)).alloc (.cells #[Value.int .i64 0] 3)).alloc (.cells #[Value.slice A n c] 36)) := (((((Upd.refl _ w).alloc _).alloc _).alloc _).alloc _).alloc _
  have hz0 : (((((w.alloc (.cells #[Value.func (.func g) #[.slice A n c] #[]] 45)).alloc (.cells (madeCells #[Value.int .i64 0] (n + 1)) 3)).alloc (.cells #[Value.slice (some ⟨w.heap.size + 1, 0, none⟩) (n + 1) (n + 1)] 23)).alloc (.cells #[Value.int .i64 0] 3)).alloc (.cells #[Value.slice A n c] 36)).heap.size = w.heap.size + 5 := by simp
  simp only [World.size_alloc] at bC bG bE aR
  obtain ⟨W0, hW0⟩ : ∃ W0, (((((w.alloc (.cells #[Value.func (.func g) #[.slice A n c] #[]] 45)).alloc (.cells (madeCells #[Value.int .i64 0] (n + 1)) 3)).alloc (.cells #[Value.slice (some ⟨w.heap.size + 1, 0, none⟩) (n + 1) (n + 1)] 23)).alloc (.cells #[Value.int .i64 0] 3)).alloc (.cells #[Value.slice A n c] 36)) = W0 := ⟨_, rfl⟩
  rw [hW0] at bF bC bG bE aR hu0 hz0 ⊢
  clear hW0 hmk
  have hA0 : Ints W0 w.heap.size A n zs := hA.below (hu0.toBelow (fun _ e => e.elim) (Nat.le_refl _))
  refine range_out (n := 9) (gf := 61) (lb := #[.pointer (some ⟨w.heap.size + 1 + 1 + 1 + 1, 0, none⟩)]) rfl (enters_of Tryd.func61 (by kernel_rfl) rfl) (encs := encS) (L := List.range (2 ^ n))
    (fun k => k = w.heap.size + 1 ∨ k = w.heap.size + 1 + 1 + 1) (fun k e => by omega) (fun _ => rfl)
    (fun W1 l1 hu1 hl1 hl2 => sets_iter _ _ _ hn6 _ _ W1 (hu1.boxed bE (fun e => e)))
    (fun pre D W => Arr W (w.heap.size + 1) 3 (cntTo p (n + 1) pre.length) ∧ Boxed W (w.heap.size + 1 + 1 + 1) 3 (.int .i64 (grTo p pre.length)) ∧ Upd (fun k => w.heap.size ≤ k ∧ (k = w.heap.size + 1 ∨ k = w.heap.size + 1 + 1 + 1)) W0 W)
    (fun _ _ _ _ => False)
    (fun _ D X Y hs hu => ⟨hs.1.upd hu (fun e => by omega), hu.boxed hs.2.1 (fun e => by omega), hs.2.2.trans' hu (fun i hi e => by omega)⟩)
    (fun _ _ _ _ _ hs _ => hs)
    ⟨aR, bG, Upd.refl _ _⟩ ?owes ?done ?stop
  case owes =>
    rintro l1 pre x D1 W hl1 hl2 hDl hD1 - hpre K hK
    gi_wp2
    refine hK _ _ (Upd.refl _ _) ?_
    rintro Wb hWb - ⟨aR1, bG1, hU⟩
    clear hK
    obtain ⟨hx, hxN⟩ := range_at hpre
    subst hx
    have hNo := hN.out
    have hsb := hU.size
    have hszb := hWb.size
    have hcF := (hU.boxed bF (by omega)).cell
    have hcC := (hU.boxed bC (by omega)).cell
    have hx64 : pre.length < 64 := by omega
    have hpb := popI_bd (s := (pre.length : Int)) (by omega) (by omega)
    have hpn := popI_le_n (s := (pre.length : Int)) hn6 (by omega) (by omega)
    clear hpre
    generalize hq : pre.length = q at *
    have Hq := Lib.hid hq
    clear hq
    have hAb : Ints Wb w.heap.size A n zs := hA0.below (hU.toBelow (fun k e => e.1) (by omega))
    gi_wp2
    refine (CallsIn.inRound l1 (callsIn_wide.2 (hT q Wb (by omega) (by omega) (hAb.more (by omega))))).mono ?_
    rintro e W1 ⟨rfl, hB1⟩
    have hz1 := hB1.size
    have hU1 := hU.trans' (Below.toUpd hB1) (R := fun k => w.heap.size ≤ k ∧ (k = w.heap.size + 1 ∨ k = w.heap.size + 1 + 1 + 1)) (fun i hi e => by omega)
    have aR2 := aR1.below hB1 (by omega)
    have bG2 : Boxed W1 (w.heap.size + 1 + 1 + 1) 3 (.int .i64 (grTo p q)) := (hB1.block _ (by omega)).trans bG1
    have hV1 : Upd (fun k => (k = w.heap.size + 1 ∨ k = w.heap.size + 1 + 1 + 1) ∨ D1 k ∨ W.heap.size ≤ k) Wb W1 := (Below.toUpd hB1).mono (fun k hk e => by omega)
    clear hAb
    cases hpq : p (q : Int)
    · have Hc := Lib.hid (show cntTo p (n + 1) (q + 1) = cntTo p (n + 1) q by simp [cntTo, hpq])
      have Hg := Lib.hid (show grTo p (q + 1) = grTo p q by simp [grTo, hpq])
      gi_wp2
      exact ⟨D1, ⟨by rw [List.length_append, List.length_singleton, Hq.out, Hc.out]; exact aR2, by rw [List.length_append, List.length_singleton, Hq.out, Hg.out]; exact bG2, hU1⟩, hV1, fun k hk => .inl hk⟩
    · have Hc := Lib.hid (show cntTo p (n + 1) (q + 1) = (cntTo p (n + 1) q).set (popI (q : Int)).toNat ((cntTo p (n + 1) q)[(popI (q : Int)).toNat]?.getD 0 + 1) by rw [cntTo, if_pos hpq])
      have Hg := Lib.hid (show grTo p (q + 1) = max (grTo p q) (popI (q : Int)) by rw [grTo, if_pos hpq])
      have hlc := cntTo_len p (n + 1) q
      have hcs := aR2.cell (k := (popI (q : Int)).toNat) (by rw [hlc]; omega)
      have hfs := aR2.frozen (popI (q : Int)).toNat
      have hcb := cnt_small p (n + 1) q (by omega) (popI (q : Int)).toNat
      have hcF1 := (hU1.boxed bF (by omega)).cell
      have hcC1 := (hU1.boxed bC (by omega)).cell
      have hgn := grTo_nn p q
      have hgb := grTo_bd p q (by omega)
      obtain ⟨m, hm⟩ := Int.eq_ofNat_of_zero_le hpb.1
      rw [hm] at hcs hfs hcb hpb hpn Hc Hg
      simp only [Int.toNat_natCast] at hcs hfs hcb Hc
      have hsz : ∀ w, Calls Tryd.prog 38 #[.int .i64 (q : Int)] w fun e w' => e = .returned (.int .i64 (m : Int)) ∧ w = w' := fun w => by
        rw [← hm]; exact size_any _ _ (by omega) (by omega)
      generalize cntTo p (n + 1) q = C at *
      generalize grTo p q = G at *
      gi_wp2
      refine region_tail_round 7 (by kernel_rfl) (by kernel_rfl) (by kernel_rfl) ?_
      simp only [List.take_succ_cons, List.take_zero, List.drop_succ_cons, List.drop_zero]
      repeat (gi_big_quiet_step ((first
        | (gi_at_call 38; exact quietIn_add (hsz _))
        | (gi_at_call 38; exact quietIn_left (hsz _)))))
      refine wpQuietIn_nil ?_
      intro _ hw'
      obtain ⟨nq, hw''⟩ := hw'
      subst hw''
      gi_wp2
      have aR3 := (aR2.drewN nq).set m (C[m]?.getD 0 + 1)
      have bG3 : Boxed ((W1.drewN nq).setCell ⟨w.heap.size + 1, m, none⟩ (.int .i64 (C[m]?.getD 0 + 1))) (w.heap.size + 1 + 1 + 1) 3 (.int .i64 G) := (Below.heap_setCell (W1.drewN nq) ⟨w.heap.size + 1, m, none⟩ _ (w.heap.size + 1 + 1 + 1) (by simp; omega)).trans bG2
      have hU3 : Upd (fun k => w.heap.size ≤ k ∧ (k = w.heap.size + 1 ∨ k = w.heap.size + 1 + 1 + 1)) W0 ((W1.drewN nq).setCell ⟨w.heap.size + 1, m, none⟩ (.int .i64 (C[m]?.getD 0 + 1))) := (hU1.drewN nq).setCell (p := ⟨w.heap.size + 1, m, none⟩) (.inr (by simp)) _
      have hV3 : Upd (fun k => (k = w.heap.size + 1 ∨ k = w.heap.size + 1 + 1 + 1) ∨ D1 k ∨ W.heap.size ≤ k) Wb ((W1.drewN nq).setCell ⟨w.heap.size + 1, m, none⟩ (.int .i64 (C[m]?.getD 0 + 1))) := (hV1.drewN nq).setCell (p := ⟨w.heap.size + 1, m, none⟩) (.inr (by simp)) _
      obtain ⟨W3, hW3⟩ : ∃ W3, (W1.drewN nq).setCell ⟨w.heap.size + 1, m, none⟩ (.int .i64 (C[m]?.getD 0 + 1)) = W3 := ⟨_, rfl⟩
      rw [hW3] at aR3 bG3 hU3 hV3 ⊢
      clear hW3 hU1 hV1 aR2 bG2 hcs hfs hcC1 hcF1
      have hcG := bG3.cell
      have hfG := bG3.frozen
      refine region_tail_round 4 (by kernel_rfl) (by kernel_rfl) (by kernel_rfl) ?_
      simp only [List.take_succ_cons, List.take_zero, List.drop_succ_cons, List.drop_zero]
      repeat (gi_big_quiet_step ((first
        | (gi_at_call 38; exact quietIn_add (hsz _))
        | (gi_at_call 38; exact quietIn_left (hsz _)))))
      refine wpQuietIn_nil ?_
      intro _ hw'
      obtain ⟨nr, hw''⟩ := hw'
      subst hw''
      gi_wp2
      all_goals exact ⟨D1, ⟨by rw [List.length_append, List.length_singleton, Hq.out, Hc.out]; exact (aR3.drewN nr).far (by simp) _, by
            rw [List.length_append, List.length_singleton, Hq.out, Hg.out]
            first
              | (rw [Int.max_eq_left (by omega)]; exact Boxed.set (W := W3.drewN nr) (v := .int .i64 G) _ bG3)
              | (rw [Int.max_eq_right (by omega)]; exact Boxed.set (W := W3.drewN nr) (v := .int .i64 G) _ bG3), (hU3.drewN nr).setCell (p := ⟨w.heap.size + 1 + 1 + 1, 0, none⟩) (.inr (by simp; omega)) _⟩,
        (hV3.drewN nr).setCell (p := ⟨w.heap.size + 1 + 1 + 1, 0, none⟩) (.inr (by simp)) _, fun k hk => .inl hk⟩
  case done =>
    rintro d D1 W hd ⟨aR1, bG1, hU⟩ hD1 hKd
    rw [List.length_range] at aR1 bG1
    have hNo := hN.out
    have hcC := (hU.boxed bC (by omega)).cell
    have hcG := bG1.cell
    have hg0 := grTo_nn p (2 ^ n)
    have hgn : grTo p (2 ^ n) ≤ n := grTo_le (by omega) _ (fun j hj _ => popI_le_n hn6 (by omega) (by omega))
    obtain ⟨m, hm⟩ := Int.eq_ofNat_of_zero_le hg0
    have hlc := cntTo_len p (n + 1) (2 ^ n)
    have Hm := Lib.hid hm
    rw [hm] at hcG hgn
    clear hm hg0
    gi_wp2
    refine leaves_marks [d] _ ⟨by simp, fun b hb => ?_⟩ (fun W' hu' => ?_)
    · rw [List.mem_singleton.1 hb]
      exact hKd
    · exact ⟨.slice (some ⟨w.heap.size + 1, 0, none⟩) (m + 1) (n + 1), by simp [results, Tryd.f36, go_sem], w.heap.size + 1, n + 1, by rw [Hm.out]; rfl, aR1.upd hu' (by simp; omega), by omega, by rw [Hm.out, hlc]; simp; omega,
        (((hu0.mono fun _ _ e => e.elim).trans' hU (fun i hi e => by omega)).trans' hu' (fun i hi e => by simp at e; omega)).toBelow (R := fun _ => False) (fun _ e => e.elim) (Nat.le_refl _)⟩
  case stop =>
    rintro d D1 co pre W hd hpre h
    exact h.elim

theorem greatestOf_any (g : FuncId) (hg : ∀ args w, (callFunc g args).run Tryd.prog w = .ok (.enter g args) w) (A : Option Addr) (n c : Nat) (zs : List Int) (p : Int → Bool) (hn6 : n ≤ 6) (w : World) (hA : Ints w w.heap.size A n zs) (hT : Tests g A n c zs p) :
    Calls Tryd.prog 22 #[.slice A n c, .func (.func g) #[.slice A n c] #[]] w fun e W' => e = .returned (.int .i64 (grTo p (2 ^ n))) ∧ Below w.heap.size w W' := by
  have hN := Lib.hid (show powI n = ((2 ^ n : Nat) : Int) by simp [powI])
  have hNo := hN.out
  have hg0 := grTo_nn p (2 ^ n)
  have hgn : grTo p (2 ^ n) ≤ n := grTo_le (by omega) _ (fun j hj _ => popI_le_n hn6 (by omega) (by omega))
  clear hNo
  obtain ⟨m, hm⟩ := Int.eq_ofNat_of_zero_le hg0
  rw [hm] at hgn ⊢
  have hcs := countSets_any g hg A n c zs p hn6 w hA hT
  rw [hm] at hcs
  go_enter Tryd.func22, Tryd.ntmps22
  go_wp2_with (go_at_call 36; refine hcs.mono ?_; rintro e w' ⟨b, c', rfl, hAr, hb, hm', hB⟩)
  go_ret
  exact ⟨ret_int (by simp), hB⟩

/-! Both tests that there are. -/
theorem tests_chain (A : Option Addr) (n c : Nat) (zs : List Int) (hv : VoP zs) : Tests 23 A n c zs (chB zs) := fun s w h0 h1 h => isChain_any A n c zs s hv w h h0 h1
theorem tests_apart (A : Option Addr) (n c : Nat) (zs : List Int) (hv : VoP zs) : Tests 24 A n c zs (apB zs) := fun s w h0 h1 h => isApart_any A n c zs s hv.sets w h h0 h1
theorem enters_chain : ∀ args w, (callFunc 23 args).run Tryd.prog w = .ok (.enter 23 args) w := enters_of Tryd.func23 (by kernel_rfl) rfl
theorem enters_apart : ∀ args w, (callFunc 24 args).run Tryd.prog w = .ok (.enter 24 args) w := enters_of Tryd.func24 (by kernel_rfl) rfl
end Go.Proofs.YtiicffibhjeabaaDoor

/- The longest chain and the widest set apart: words, and the model's helper. -/
namespace Go.Proofs.YtiicffibhjeabaaDoor
open Go.RowKit

theorem maxL_snoc (f : Nat → Int) (l : List Nat) (a : Nat) : maxL f (l ++ [a]) = max (maxL f l) (f a + 1) := by simp [maxL]
theorem maxL_range (f : Nat → Int) (k : Nat) : maxL f (List.range (k + 1)) = max (maxL f (List.range k)) (f k + 1) := by rw [List.range_succ, maxL_snoc]
theorem hgts_get {zs : List Int} {n k : Nat} (hk : k < n) : ((List.range n).map (hgt zs))[k]?.getD 0 = hgt zs k := by simp [hk]

def longR (zs : List Int) : Int := if vo zs then longI zs else -1
def wideR (zs : List Int) : Int := if vo zs then grTo (apB zs) (setsN zs) else -1
end Go.Proofs.YtiicffibhjeabaaDoor

/- Pairs of items of two orders: an order, its greatest chain, turned round (mathematics). No program. -/
namespace Go.Proofs.YtiicffibhjeabaaDoor
open Go.RowKit

/-- At or below. -/
def leq (zs : List Int) (a b : Nat) : Prop := a = b ∨ lt zs a b
theorem lt_irr' {zs : List Int} (h : VoP zs) {a : Nat} : ¬ lt zs a a := h.irr
theorem leq_trans {zs : List Int} (h : VoP zs) {a b c : Nat} (h1 : leq zs a b) (h2 : leq zs b c) : leq zs a c := by
  rcases h1 with rfl | h1
  · exact h2
  · rcases h2 with rfl | h2
    · exact .inr h1
    · exact .inr (h.trans h1 h2)
theorem leq_asym {zs : List Int} (h : VoP zs) {a b : Nat} (h1 : leq zs a b) (h2 : leq zs b a) : a = b := by
  rcases h1 with e | h1
  · exact e
  · rcases h2 with e | h2
    · exact e.symm
    · exact absurd (h.trans h1 h2) h.irr
theorem leq_bit {zs : List Int} {a b : Nat} (ha : a < zs.length) : bitB (orI (zs[a]?.getD 0) (powI (a : Int))) (b : Int) = true ↔ leq zs a b := by
  rw [bitB_or, bitB_pow, Bool.or_eq_true, decide_eq_true_eq]
  unfold leq lt
  constructor
  · rintro (h | h)
    · exact .inr ⟨ha, h⟩
    · exact .inl h
  · rintro (h | h)
    · exact .inr h
    · exact .inl h.2
theorem leq_hgt {zs : List Int} (h : VoP zs) {a b : Nat} (h1 : leq zs a b) : hgt zs a ≤ hgt zs b := by
  rcases h1 with rfl | h1
  · exact Int.le_refl _
  · have := hgt_up h h1; omega
section
variable {zs ys : List Int} {n m : Nat}
theorem tm_lt (hn : zs.length = n) (hm : ys.length = m) {i k : Nat} : lt (tmL zs ys) i k ↔ i < n * m ∧ k < n * m ∧ i ≠ k ∧ leq zs (i / m) (k / m) ∧ leq ys (i % m) (k % m) := by
  unfold lt
  rw [tmL_len, hn, hm]
  constructor
  · rintro ⟨hi, hb⟩
    rw [tmL_get zs ys hn hm hi, tmTo_bit] at hb
    have hm0 : 0 < m := by
      rcases Nat.eq_zero_or_pos m with e | e
      · rw [e, Nat.mul_zero] at hi; omega
      · exact e
    unfold tmA at hb
    simp only [Bool.and_eq_true, decide_eq_true_eq, bne_iff_ne] at hb
    obtain ⟨hk, hne, h1, h2⟩ := hb
    exact ⟨hi, hk, hne, (leq_bit (by rw [hn]; exact (Nat.div_lt_iff_lt_mul hm0).2 hi)).1 h1, (leq_bit (by rw [hm]; exact Nat.mod_lt _ hm0)).1 h2⟩
  · rintro ⟨hi, hk, hne, h1, h2⟩
    have hm0 : 0 < m := by
      rcases Nat.eq_zero_or_pos m with e | e
      · rw [e, Nat.mul_zero] at hi; omega
      · exact e
    refine ⟨hi, ?_⟩
    rw [tmL_get zs ys hn hm hi, tmTo_bit]
    unfold tmA
    simp only [Bool.and_eq_true, decide_eq_true_eq, bne_iff_ne]
    exact ⟨hk, hne, (leq_bit (by rw [hn]; exact (Nat.div_lt_iff_lt_mul hm0).2 hi)).2 h1, (leq_bit (by rw [hm]; exact Nat.mod_lt _ hm0)).2 h2⟩
theorem pair_eq {m i k : Nat} (h1 : i / m = k / m) (h2 : i % m = k % m) : i = k := by
  have e1 := Nat.div_add_mod i m
  have e2 := Nat.div_add_mod k m
  rw [h1, h2] at e1
  omega
theorem tm_bits (hn : zs.length = n) (hm : ys.length = m) {i k : Nat} (hi : i < n * m) : bitB ((tmL zs ys)[i]?.getD 0) (k : Int) = true ↔ lt (tmL zs ys) i k := by
  unfold lt
  rw [tmL_len, hn, hm]
  exact ⟨fun h => ⟨hi, h⟩, fun h => h.2⟩
theorem tm_vo (hn : zs.length = n) (hm : ys.length = m) (hv : VoP zs) (hv' : VoP ys) (h6 : n * m ≤ 6) : VoP (tmL zs ys) := by
  have hl : (tmL zs ys).length = n * m := by rw [tmL_len, hn, hm]
  refine ⟨by rw [hl]; exact h6, fun a ha => ?_, fun a ha b hb => ?_⟩
  · rw [hl] at ha
    have hb := tmTo_bd zs ys m a (n * m)
    have e : bitB ((tmL zs ys)[a]?.getD 0) (a : Int) = false := by
      cases e : bitB ((tmL zs ys)[a]?.getD 0) (a : Int)
      · rfl
      · exact absurd rfl ((tm_lt hn hm).1 ((tm_bits hn hm ha).1 e)).2.2.1
    unfold okA inB
    rw [e, tmL_get zs ys hn hm ha, hl]
    simp only [Bool.not_false, Bool.and_true, decide_eq_true_eq]
    omega
  · rw [hl] at ha hb
    unfold okP
    cases e : bitB ((tmL zs ys)[a]?.getD 0) (b : Int)
    · rfl
    · obtain ⟨_, _, hne, h1, h2⟩ := (tm_lt hn hm).1 ((tm_bits hn hm ha).1 e)
      have hl1 : lessI ((tmL zs ys)[b]?.getD 0) ((tmL zs ys)[a]?.getD 0) = 0 := by
        refine bitB_ext (lessI_bd _ _).1 (Int.le_refl _) fun j => ?_
        rw [bitB_less, bitB_zero]
        cases e1 : bitB ((tmL zs ys)[b]?.getD 0) (j : Int)
        · rfl
        · obtain ⟨_, hj, hne2, h3, h4⟩ := (tm_lt hn hm).1 ((tm_bits hn hm hb).1 e1)
          have : lt (tmL zs ys) a j := (tm_lt hn hm).2 ⟨ha, hj, fun ej => by
            subst ej
            exact hne (pair_eq (leq_asym hv h1 h3) (leq_asym hv' h2 h4)), leq_trans hv h1 h3, leq_trans hv' h2 h4⟩
          rw [(tm_bits hn hm ha).2 this]; rfl
      have h2' : bitB ((tmL zs ys)[b]?.getD 0) (a : Int) = false := by
        cases e2 : bitB ((tmL zs ys)[b]?.getD 0) (a : Int)
        · rfl
        · obtain ⟨_, _, _, h3, h4⟩ := (tm_lt hn hm).1 ((tm_bits hn hm hb).1 e2)
          exact absurd (pair_eq (leq_asym hv h1 h3) (leq_asym hv' h2 h4)) hne
      rw [hl1, h2']; rfl
theorem mk_div {m a b : Nat} (hb : b < m) : (a * m + b) / m = a := by rw [Nat.mul_comm, Nat.mul_add_div (by omega), Nat.div_eq_of_lt hb, Nat.add_zero]
theorem mk_mod {m a b : Nat} (hb : b < m) : (a * m + b) % m = b := by rw [Nat.mul_comm, Nat.mul_add_mod, Nat.mod_eq_of_lt hb]
theorem mk_lt {n m a b : Nat} (ha : a < n) (hb : b < m) : a * m + b < n * m := by
  have h1 : (a + 1) * m ≤ n * m := Nat.mul_le_mul_right m ha
  rw [Nat.add_mul, Nat.one_mul] at h1
  omega
theorem lt_len {zs : List Int} (h : VoP zs) {a b : Nat} (hl : lt zs a b) : a < zs.length ∧ b < zs.length := ⟨hl.1, h.lt_n hl⟩
theorem tm_hgt_ge (hn : zs.length = n) (hm : ys.length = m) (hv : VoP zs) (hv' : VoP ys) (h6 : n * m ≤ 6) : ∀ (d a b : Nat), a < n → b < m → hgt zs a + hgt ys b = (d : Int) → hgt zs a + hgt ys b ≤ hgt (tmL zs ys) (a * m + b)
  | 0, a, b, ha, hb, hd => by have := hgt_nn (tmL zs ys) (a * m + b); omega
  | d + 1, a, b, ha, hb, hd => by
    have hV := tm_vo hn hm hv hv' h6
    rcases hgt_eq hv (b := a) (by rw [hn]; exact ha) with e | ⟨a', h1, h2⟩
    · rcases hgt_eq hv' (b := b) (by rw [hm]; exact hb) with e' | ⟨b', h1, h2⟩
      · omega
      · have hb' := (lt_len hv' h1).1
        rw [hm] at hb'
        have ih := tm_hgt_ge hn hm hv hv' h6 d a b' ha hb' (by omega)
        have hl : lt (tmL zs ys) (a * m + b') (a * m + b) := (tm_lt hn hm).2 ⟨mk_lt ha hb', mk_lt ha hb, fun e => by
          have : b' = b := by omega
          subst this; exact absurd h1 hv'.irr, .inl (by rw [mk_div hb', mk_div hb]), .inr (by rw [mk_mod hb', mk_mod hb]; exact h1)⟩
        have := hgt_up hV hl
        omega
    · have ha' := (lt_len hv h1).1
      rw [hn] at ha'
      have ih := tm_hgt_ge hn hm hv hv' h6 d a' b ha' hb (by omega)
      have hl : lt (tmL zs ys) (a' * m + b) (a * m + b) := (tm_lt hn hm).2 ⟨mk_lt ha' hb, mk_lt ha hb, fun e => by
        have e1 := mk_div (a := a') hb
        rw [e, mk_div hb] at e1
        subst e1; exact absurd h1 hv.irr, .inr (by rw [mk_div hb, mk_div hb]; exact h1), .inl (by rw [mk_mod hb, mk_mod hb])⟩
      have := hgt_up hV hl
      omega
theorem tm_hgt_le (hn : zs.length = n) (hm : ys.length = m) (hv : VoP zs) (hv' : VoP ys) (h6 : n * m ≤ 6) : ∀ (d i : Nat), i < n * m → hgt (tmL zs ys) i = (d : Int) → hgt (tmL zs ys) i ≤ hgt zs (i / m) + hgt ys (i % m)
  | 0, i, hi, hd => by have h1 := hgt_nn zs (i / m); have h2 := hgt_nn ys (i % m); omega
  | d + 1, i, hi, hd => by
    have hV := tm_vo hn hm hv hv' h6
    rcases hgt_eq hV (b := i) (by rw [tmL_len, hn, hm]; exact hi) with e | ⟨j, h1, h2⟩
    · have h1 := hgt_nn zs (i / m); have h2 := hgt_nn ys (i % m); omega
    · obtain ⟨hj, _, hne, h3, h4⟩ := (tm_lt hn hm).1 h1
      have ih := tm_hgt_le hn hm hv hv' h6 d j hj (by omega)
      rcases h3 with e3 | h3
      · rcases h4 with e4 | h4
        · exact absurd (pair_eq e3 e4) hne
        · have := hgt_up hv' h4
          rw [e3] at ih
          omega
      · have := hgt_up hv h3
        have := leq_hgt hv' h4
        omega
theorem tm_hgt (hn : zs.length = n) (hm : ys.length = m) (hv : VoP zs) (hv' : VoP ys) (h6 : n * m ≤ 6) {i : Nat} (hi : i < n * m) : hgt (tmL zs ys) i = hgt zs (i / m) + hgt ys (i % m) := by
  have hm0 : 0 < m := by
    rcases Nat.eq_zero_or_pos m with e | e
    · rw [e, Nat.mul_zero] at hi; omega
    · exact e
  have ha : i / m < n := (Nat.div_lt_iff_lt_mul hm0).2 hi
  have hb : i % m < m := Nat.mod_lt _ hm0
  obtain ⟨d, hd⟩ := Int.eq_ofNat_of_zero_le (hgt_nn (tmL zs ys) i)
  obtain ⟨d', hd'⟩ := Int.eq_ofNat_of_zero_le (show 0 ≤ hgt zs (i / m) + hgt ys (i % m) by have h1 := hgt_nn zs (i / m); have h2 := hgt_nn ys (i % m); omega)
  have h1 := tm_hgt_le hn hm hv hv' h6 d i hi hd
  have h2 := tm_hgt_ge hn hm hv hv' h6 d' (i / m) (i % m) ha hb hd'
  have e : i / m * m + i % m = i := by rw [Nat.mul_comm]; exact Nat.div_add_mod i m
  rw [e] at h2
  omega
theorem tm_long (hn : zs.length = n) (hm : ys.length = m) (hv : VoP zs) (hv' : VoP ys) (h6 : n * m ≤ 6) (h0 : 0 < n * m) : longI (tmL zs ys) = longI zs + longI ys - 1 := by
  have hl : (tmL zs ys).length = n * m := by rw [tmL_len, hn, hm]
  have hm0 : 0 < m := by
    rcases Nat.eq_zero_or_pos m with e | e
    · rw [e, Nat.mul_zero] at h0; omega
    · exact e
  have hn0 : 0 < n := by
    rcases Nat.eq_zero_or_pos n with e | e
    · rw [e, Nat.zero_mul] at h0; omega
    · exact e
  unfold longI
  rw [hl, hn, hm]
  have g1 := maxL_ge (hgt (tmL zs ys)) (List.range (n * m))
  have g2 := maxL_ge (hgt zs) (List.range n)
  have g3 := maxL_ge (hgt ys) (List.range m)
  refine Int.le_antisymm ?_ ?_
  · rcases maxL_eq (hgt (tmL zs ys)) (List.range (n * m)) with e | ⟨i, hi, e⟩
    · have := g1.2 0 (by simpa using h0)
      have := hgt_nn (tmL zs ys) 0
      omega
    · have hi := List.mem_range.1 hi
      rw [e, tm_hgt hn hm hv hv' h6 hi]
      have h1 := g2.2 (i / m) (List.mem_range.2 ((Nat.div_lt_iff_lt_mul hm0).2 hi))
      have h2 := g3.2 (i % m) (List.mem_range.2 (Nat.mod_lt _ hm0))
      omega
  · rcases maxL_eq (hgt zs) (List.range n) with e | ⟨a, ha, e⟩
    · have := g2.2 0 (by simpa using hn0)
      have := hgt_nn zs 0
      omega
    · rcases maxL_eq (hgt ys) (List.range m) with e' | ⟨b, hb, e'⟩
      · have := g3.2 0 (by simpa using hm0)
        have := hgt_nn ys 0
        omega
      · have ha := List.mem_range.1 ha
        have hb := List.mem_range.1 hb
        have h1 := g1.2 (a * m + b) (List.mem_range.2 (mk_lt ha hb))
        rw [tm_hgt hn hm hv hv' h6 (mk_lt ha hb), mk_div hb, mk_mod hb] at h1
        omega
theorem du_leq (h : VoP zs) {a b : Nat} : leq (du zs) a b ↔ leq zs b a := by
  unfold leq
  rw [du_lt h]
  exact ⟨fun e => e.imp Eq.symm id, fun e => e.imp Eq.symm id⟩
theorem tm_du (hn : zs.length = n) (hm : ys.length = m) (hv : VoP zs) (hv' : VoP ys) (h6 : n * m ≤ 6) : du (tmL zs ys) = tmL (du zs) (du ys) := by
  have hV := tm_vo hn hm hv hv' h6
  have hn' : (du zs).length = n := by rw [du_len, hn]
  have hm' : (du ys).length = m := by rw [du_len, hm]
  have hV' := tm_vo hn' hm' (du_vo hv) (du_vo hv') h6
  have hl : (du (tmL zs ys)).length = n * m := by rw [du_len, tmL_len, hn, hm]
  have hl' : (tmL (du zs) (du ys)).length = n * m := by rw [tmL_len, hn', hm']
  refine List.ext_getElem (by rw [hl, hl']) fun i h1 h2 => ?_
  have hi : i < n * m := by rw [← hl]; exact h1
  have e1 := (du_vo hV).bd i h1
  have e2 := hV'.bd i h2
  have hb : ∀ k : Nat, bitB ((du (tmL zs ys))[i]?.getD 0) (k : Int) = bitB ((tmL (du zs) (du ys))[i]?.getD 0) (k : Int) := fun k => by
    have key : lt (du (tmL zs ys)) i k ↔ lt (tmL (du zs) (du ys)) i k := by
      rw [du_lt hV, tm_lt hn hm, tm_lt hn' hm', du_leq hv, du_leq hv']
      constructor
      · rintro ⟨a1, a2, a3, a4, a5⟩; exact ⟨a2, a1, fun e => a3 e.symm, a4, a5⟩
      · rintro ⟨a1, a2, a3, a4, a5⟩; exact ⟨a2, a1, fun e => a3 e.symm, a4, a5⟩
    unfold lt at key
    rw [hl, hl'] at key
    rw [Bool.eq_iff_iff]
    exact ⟨fun e => (key.1 ⟨hi, e⟩).2, fun e => (key.2 ⟨hi, e⟩).2⟩
  have := bitB_ext e1.1 e2.1 hb
  rwa [List.getElem?_eq_getElem h1, List.getElem?_eq_getElem h2, Option.getD_some, Option.getD_some] at this
end
end Go.Proofs.YtiicffibhjeabaaDoor

/- Orders beside each other, and one above the other: orders, their longest chains and widest sets apart (mathematics). No program. -/
namespace Go.Proofs.YtiicffibhjeabaaDoor
open Go.RowKit

theorem onesB_fin : ∀ m : Fin 7, ∀ j : Fin 7, bitB (powI (m.val : Int) - 1) (j.val : Int) = decide (j.val < m.val) := by decide +kernel
theorem onesB_bit {m : Nat} (hm : m ≤ 6) (j : Nat) : bitB (powI (m : Int) - 1) (j : Int) = decide (j < m) := by
  rcases Nat.lt_or_ge j 7 with h | h
  · exact onesB_fin ⟨m, by omega⟩ ⟨j, h⟩
  · have hp := powI_pos (m : Int)
    cases e : bitB (powI (m : Int) - 1) (j : Int)
    · rw [decide_eq_false (by omega)]
    · have := bitB_lt (n := m) (by omega : powI (m : Int) - 1 < powI (m : Int)) e
      omega
section
variable {zs ys : List Int} {n m : Nat} {over : Bool}
theorem both_get1 (hn : zs.length = n) (hm : ys.length = m) {a : Nat} (ha : a < n) : (bothL zs ys over)[a]?.getD 0 = uqS n m over (zs[a]?.getD 0) := by
  unfold bothL
  rw [List.getElem?_append_left (by rw [uqL_len, hn]; exact ha), hn, hm]
  exact uqL_get n m over zs (by rw [hn]; exact ha)
theorem both_get2 (hn : zs.length = n) (hm : ys.length = m) {b : Nat} (hb : b < m) : (bothL zs ys over)[n + b]?.getD 0 = (ys[b]?.getD 0) * powI n := by
  unfold bothL
  rw [List.getElem?_append_right (by rw [uqL_len, hn]; omega), uqL_len, hn, Nat.add_sub_cancel_left]
  exact shl_get n ys (by rw [hm]; exact hb)
theorem beh_bit (h6 : n + m ≤ 6) (j : Nat) : bitB (behI n m) (j : Int) = (decide (n ≤ j) && decide (j - n < m)) := by
  unfold behI
  have hp := powI_pos (m : Int)
  rw [mulpow_bit (by omega), onesB_bit (by omega)]
theorem both_lt (hn : zs.length = n) (hm : ys.length = m) (hv : VoP zs) (hv' : VoP ys) (h6 : n + m ≤ 6) {a b : Nat} :
    lt (bothL zs ys over) a b ↔ (a < n ∧ b < n ∧ lt zs a b) ∨ (n ≤ a ∧ n ≤ b ∧ lt ys (a - n) (b - n)) ∨ (over = true ∧ a < n ∧ n ≤ b ∧ b < n + m) := by
  have hl : (bothL zs ys over).length = n + m := by rw [bothL_len, hn, hm]
  unfold lt
  rw [hl]
  rcases Nat.lt_or_ge a n with ha | ha
  · rw [both_get1 hn hm ha]
    have hz := hv.bd a (by rw [hn]; exact ha)
    have hlt : bitB (zs[a]?.getD 0) (b : Int) = true → b < n := fun e => by
      have := bitB_lt (hv.sets.2 a (by rw [hn]; exact ha)).2 e
      rw [hn] at this; exact this
    cases over
    · unfold uqS
      simp only [Bool.false_eq_true, if_false, false_and, or_false]
      constructor
      · rintro ⟨_, e⟩; exact .inl ⟨ha, hlt e, by rw [hn]; exact ha, e⟩
      · rintro (⟨_, _, _, e⟩ | ⟨h1, _⟩)
        · exact ⟨by omega, e⟩
        · omega
    · unfold uqS
      simp only [if_true, true_and]
      rw [bitB_or, beh_bit h6, Bool.or_eq_true, Bool.and_eq_true, decide_eq_true_eq, decide_eq_true_eq]
      constructor
      · rintro ⟨_, e | ⟨h1, h2⟩⟩
        · exact .inl ⟨ha, hlt e, by rw [hn]; exact ha, e⟩
        · exact .inr (.inr ⟨ha, h1, by omega⟩)
      · rintro (⟨_, _, _, e⟩ | ⟨h1, _⟩ | ⟨_, h1, h2⟩)
        · exact ⟨by omega, .inl e⟩
        · omega
        · exact ⟨by omega, .inr ⟨h1, by omega⟩⟩
  · constructor
    · rintro ⟨h1, e⟩
      obtain ⟨c, rfl⟩ : ∃ c, a = n + c := ⟨a - n, by omega⟩
      have hc : c < m := by omega
      have hy := hv'.bd c (by rw [hm]; exact hc)
      rw [both_get2 hn hm hc, mulpow_bit hy.1, Bool.and_eq_true, decide_eq_true_eq] at e
      exact .inr (.inl ⟨ha, e.1, by rw [Nat.add_sub_cancel_left, hm]; exact hc, by rw [Nat.add_sub_cancel_left]; exact e.2⟩)
    · rintro (⟨h1, _⟩ | ⟨_, h1, h2, e⟩ | ⟨_, h1, _⟩)
      · omega
      · obtain ⟨c, rfl⟩ : ∃ c, a = n + c := ⟨a - n, by omega⟩
        rw [Nat.add_sub_cancel_left] at h2 e
        rw [hm] at h2
        have hy := hv'.bd c (by rw [hm]; exact h2)
        refine ⟨by omega, ?_⟩
        rw [both_get2 hn hm h2, mulpow_bit hy.1, decide_eq_true h1]
        exact e
      · omega
theorem both_bd (hn : zs.length = n) (hm : ys.length = m) (hv : VoP zs) (hv' : VoP ys) (h6 : n + m ≤ 6) {a : Nat} (ha : a < n + m) : 0 ≤ (bothL zs ys over)[a]?.getD 0 ∧ (bothL zs ys over)[a]?.getD 0 < powI ((n + m : Nat) : Int) := by
  have e6 := powI_add6 ⟨n, by omega⟩ ⟨m, by omega⟩
  simp only at e6
  have hle : powI (n : Int) ≤ powI ((n + m : Nat) : Int) := powI_le (by omega)
  have hpn := powI_pos (n : Int)
  rcases Nat.lt_or_ge a n with h | h
  · rw [both_get1 hn hm h]
    have hz := hv.sets.2 a (by rw [hn]; exact h)
    rw [hn] at hz
    unfold uqS
    split
    · have hb := beh_bd h6
      have hb2 : behI n m < powI ((n + m : Nat) : Int) := by
        unfold behI
        rw [Int.sub_mul, Int.one_mul, Int.mul_comm (powI (m : Int)), e6]
        omega
      exact orI_bd hz.1 (by omega) hb.1 hb2
    · omega
  · obtain ⟨c, rfl⟩ : ∃ c, a = n + c := ⟨a - n, by omega⟩
    have hc : c < m := by omega
    have hy := hv'.sets.2 c (by rw [hm]; exact hc)
    rw [hm] at hy
    rw [both_get2 hn hm hc]
    have h2 : (ys[c]?.getD 0 + 1) * powI (n : Int) ≤ powI (m : Int) * powI (n : Int) := Int.mul_le_mul_of_nonneg_right (by omega) (by omega)
    rw [Int.add_mul, Int.one_mul, Int.mul_comm (powI (m : Int)), e6] at h2
    exact ⟨Int.mul_nonneg hy.1 (by omega), by omega⟩
/-- A list of sets whose relation is one of orders is an order. -/
theorem vo_of_lt {B : List Int} (h6 : B.length ≤ 6) (hb : ∀ a, a < B.length → 0 ≤ B[a]?.getD 0 ∧ B[a]?.getD 0 < powI B.length) (hi : ∀ a, ¬ lt B a a) (ht : ∀ a b c, lt B a b → lt B b c → lt B a c) : VoP B := by
  have has : ∀ a b, lt B a b → ¬ lt B b a := fun a b h1 h2 => hi a (ht a b a h1 h2)
  refine ⟨h6, fun a ha => ?_, fun a ha b hb' => ?_⟩
  · have h1 := hb a ha
    have e : bitB (B[a]?.getD 0) (a : Int) = false := by
      cases e : bitB (B[a]?.getD 0) (a : Int)
      · rfl
      · exact absurd ⟨ha, e⟩ (hi a)
    unfold okA inB
    rw [e]
    simp only [Bool.not_false, Bool.and_true, decide_eq_true_eq]
    omega
  · unfold okP
    cases e : bitB (B[a]?.getD 0) (b : Int)
    · rfl
    · have hl1 : lessI (B[b]?.getD 0) (B[a]?.getD 0) = 0 := by
        refine bitB_ext (lessI_bd _ _).1 (Int.le_refl _) fun j => ?_
        rw [bitB_less, bitB_zero]
        cases e1 : bitB (B[b]?.getD 0) (j : Int)
        · rfl
        · rw [(ht a b j ⟨ha, e⟩ ⟨hb', e1⟩).2]; rfl
      have h2' : bitB (B[b]?.getD 0) (a : Int) = false := by
        cases e2 : bitB (B[b]?.getD 0) (a : Int)
        · rfl
        · exact absurd ⟨hb', e2⟩ (has a b ⟨ha, e⟩)
      rw [hl1, h2']; rfl
theorem both_vo (hn : zs.length = n) (hm : ys.length = m) (hv : VoP zs) (hv' : VoP ys) (h6 : n + m ≤ 6) : VoP (bothL zs ys over) := by
  have hl : (bothL zs ys over).length = n + m := by rw [bothL_len, hn, hm]
  refine vo_of_lt (by rw [hl]; exact h6) (fun a ha => by rw [hl] at ha ⊢; exact both_bd hn hm hv hv' h6 ha) (fun a h => ?_) (fun a b c h1 h2 => ?_)
  · rcases (both_lt hn hm hv hv' h6).1 h with ⟨_, _, h⟩ | ⟨_, _, h⟩ | ⟨_, h1, h2, _⟩
    · exact hv.irr h
    · exact hv'.irr h
    · omega
  · rcases (both_lt hn hm hv hv' h6).1 h1 with ⟨a1, a2, a3⟩ | ⟨a1, a2, a3⟩ | ⟨a1, a2, a3, a4⟩
    · rcases (both_lt hn hm hv hv' h6).1 h2 with ⟨b1, b2, b3⟩ | ⟨b1, b2, b3⟩ | ⟨b1, b2, b3, b4⟩
      · exact (both_lt hn hm hv hv' h6).2 (.inl ⟨a1, b2, hv.trans a3 b3⟩)
      · omega
      · exact (both_lt hn hm hv hv' h6).2 (.inr (.inr ⟨b1, a1, b3, b4⟩))
    · rcases (both_lt hn hm hv hv' h6).1 h2 with ⟨b1, b2, b3⟩ | ⟨b1, b2, b3⟩ | ⟨b1, b2, b3, b4⟩
      · omega
      · exact (both_lt hn hm hv hv' h6).2 (.inr (.inl ⟨a1, b2, hv'.trans a3 b3⟩))
      · omega
    · rcases (both_lt hn hm hv hv' h6).1 h2 with ⟨b1, b2, b3⟩ | ⟨b1, b2, b3⟩ | ⟨b1, b2, b3, b4⟩
      · omega
      · have := (lt_len hv' b3).2
        rw [hm] at this
        exact (both_lt hn hm hv hv' h6).2 (.inr (.inr ⟨a1, a2, b2, by omega⟩))
      · omega
end
/-- Heights are told by what they do. -/
theorem hgt_unique {B : List Int} (h : VoP B) (f : Nat → Int) (h0 : ∀ b, 0 ≤ f b) (hu : ∀ a b, lt B a b → f a + 1 ≤ f b) (he : ∀ b, b < B.length → f b = 0 ∨ ∃ a, lt B a b ∧ f b = f a + 1) {b : Nat} (hb : b < B.length) : hgt B b = f b := by
  have k1 : ∀ (d b : Nat), b < B.length → hgt B b = (d : Int) → hgt B b ≤ f b := fun d => by
    induction d with
    | zero => intro b _ hd; have := h0 b; omega
    | succ d ih =>
      intro b hb hd
      rcases hgt_eq h hb with e | ⟨a, h1, h2⟩
      · have := h0 b; omega
      · have := ih a h1.1 (by omega)
        have := hu a b h1
        omega
  have k2 : ∀ (d b : Nat), b < B.length → f b = (d : Int) → f b ≤ hgt B b := fun d => by
    induction d with
    | zero => intro b _ hd; have := hgt_nn B b; omega
    | succ d ih =>
      intro b hb hd
      rcases he b hb with e | ⟨a, h1, h2⟩
      · have := hgt_nn B b; omega
      · have := ih a h1.1 (by omega)
        have := hgt_up h h1
        omega
  obtain ⟨d, hd⟩ := Int.eq_ofNat_of_zero_le (hgt_nn B b)
  obtain ⟨d', hd'⟩ := Int.eq_ofNat_of_zero_le (h0 b)
  have := k1 d b hb hd
  have := k2 d' b hb hd'
  omega
end Go.Proofs.YtiicffibhjeabaaDoor

/- Orders beside each other, and one above the other: longest chains, widest sets apart (mathematics). No program. -/
namespace Go.Proofs.YtiicffibhjeabaaDoor
open Go.RowKit

section
variable {zs ys : List Int} {n m : Nat} {over : Bool}
theorem long_top {zs : List Int} (_h : VoP zs) (h0 : 0 < zs.length) : ∃ a, a < zs.length ∧ longI zs = hgt zs a + 1 := by
  unfold longI
  rcases maxL_eq (hgt zs) (List.range zs.length) with e | ⟨a, ha, e⟩
  · have := (maxL_ge (hgt zs) (List.range zs.length)).2 0 (List.mem_range.2 h0)
    have := hgt_nn zs 0
    omega
  · exact ⟨a, List.mem_range.1 ha, e⟩
theorem long_le {zs : List Int} {a : Nat} (ha : a < zs.length) : hgt zs a + 1 ≤ longI zs := (maxL_ge (hgt zs) (List.range zs.length)).2 a (List.mem_range.2 ha)
theorem long_none {zs : List Int} (h : zs.length = 0) : longI zs = 0 := by unfold longI; rw [h]; rfl
theorem long_is {B : List Int} {k : Int} (h0 : 0 ≤ k) (hle : ∀ a, a < B.length → hgt B a + 1 ≤ k) (hex : 0 < k → ∃ a, a < B.length ∧ hgt B a + 1 = k) : longI B = k := by
  refine Int.le_antisymm ?_ ?_
  · unfold longI
    rcases maxL_eq (hgt B) (List.range B.length) with e | ⟨a, ha, e⟩
    · omega
    · have := hle a (List.mem_range.1 ha); omega
  · rcases Int.lt_or_le 0 k with h | h
    · obtain ⟨a, ha, e⟩ := hex h
      have := long_le ha
      omega
    · have := longI_nn B; omega
theorem both_hgt (hn : zs.length = n) (hm : ys.length = m) (hv : VoP zs) (hv' : VoP ys) (h6 : n + m ≤ 6) {a : Nat} (ha : a < n + m) :
    hgt (bothL zs ys over) a = if a < n then hgt zs a else (if over then longI zs else 0) + hgt ys (a - n) := by
  have hl : (bothL zs ys over).length = n + m := by rw [bothL_len, hn, hm]
  refine hgt_unique (both_vo hn hm hv hv' h6) (fun a => if a < n then hgt zs a else (if over then longI zs else 0) + hgt ys (a - n)) (fun b => ?_) (fun a b h => ?_) (fun b hb => ?_) (by rw [hl]; exact ha)
  · have h1 := hgt_nn zs b
    have h2 := hgt_nn ys (b - n)
    have h3 := longI_nn zs
    try simp only
    split
    · omega
    · split <;> omega
  · rcases (both_lt hn hm hv hv' h6).1 h with ⟨h1, h2, h3⟩ | ⟨h1, h2, h3⟩ | ⟨h1, h2, h3, h4⟩
    · have := hgt_up hv h3
      simp only [if_pos h1, if_pos h2]; omega
    · have := hgt_up hv' h3
      simp only [if_neg (show ¬ a < n by omega), if_neg (show ¬ b < n by omega)]; omega
    · have e1 := long_le (zs := zs) (a := a) (by rw [hn]; exact h2)
      have e2 := hgt_nn ys (b - n)
      simp only [if_pos h2, if_neg (show ¬ b < n by omega), h1, if_true]; omega
  · rw [hl] at hb
    try simp only
    by_cases h1 : b < n
    · rw [if_pos h1]
      rcases hgt_eq hv (b := b) (by rw [hn]; exact h1) with e | ⟨a, h2, h3⟩
      · exact .inl e
      · have ha := h2.1
        rw [hn] at ha
        exact .inr ⟨a, (both_lt hn hm hv hv' h6).2 (.inl ⟨ha, h1, h2⟩), by rw [if_pos ha]; exact h3⟩
    · rw [if_neg h1]
      rcases hgt_eq hv' (b := b - n) (by rw [hm]; omega) with e | ⟨a, h2, h3⟩
      · cases over
        · left; simp only [Bool.false_eq_true, if_false]; omega
        · simp only [if_true]
          rcases Nat.eq_zero_or_pos n with h0 | h0
          · left; rw [long_none (by rw [hn]; exact h0), e]; rfl
          · obtain ⟨a, ha, ea⟩ := long_top hv (by rw [hn]; exact h0)
            rw [hn] at ha
            exact .inr ⟨a, (both_lt hn hm hv hv' h6).2 (.inr (.inr ⟨rfl, ha, by omega, hb⟩)), by rw [if_pos ha, ea, e]; omega⟩
      · have ha := h2.1
        rw [hm] at ha
        refine .inr ⟨n + a, (both_lt hn hm hv hv' h6).2 (.inr (.inl ⟨by omega, by omega, by rw [Nat.add_sub_cancel_left]; exact h2⟩)), ?_⟩
        rw [if_neg (show ¬ n + a < n by omega), Nat.add_sub_cancel_left, h3]
        omega
theorem bes_long (hn : zs.length = n) (hm : ys.length = m) (hv : VoP zs) (hv' : VoP ys) (h6 : n + m ≤ 6) : longI (bothL zs ys false) = max (longI zs) (longI ys) := by
  have hl : (bothL zs ys false).length = n + m := by rw [bothL_len, hn, hm]
  have g1 := longI_nn zs
  have g2 := longI_nn ys
  refine long_is (by omega) (fun a ha => ?_) (fun hk => ?_)
  · rw [hl] at ha
    rw [both_hgt hn hm hv hv' h6 ha]
    split
    · rename_i h; have := long_le (zs := zs) (a := a) (by rw [hn]; exact h); omega
    · rename_i h; have := long_le (zs := ys) (a := a - n) (by rw [hm]; omega)
      simp only [Bool.false_eq_true, if_false]; omega
  · rcases Int.le_total (longI ys) (longI zs) with h | h
    · have h0 : 0 < zs.length := by
        rcases Nat.eq_zero_or_pos zs.length with e | e
        · have := long_none e; omega
        · exact e
      obtain ⟨a, ha, ea⟩ := long_top hv h0
      rw [hn] at ha
      refine ⟨a, by rw [hl]; omega, ?_⟩
      rw [both_hgt hn hm hv hv' h6 (by omega), if_pos ha]; omega
    · have h0 : 0 < ys.length := by
        rcases Nat.eq_zero_or_pos ys.length with e | e
        · have := long_none e; omega
        · exact e
      obtain ⟨a, ha, ea⟩ := long_top hv' h0
      rw [hm] at ha
      refine ⟨n + a, by rw [hl]; omega, ?_⟩
      rw [both_hgt hn hm hv hv' h6 (by omega), if_neg (show ¬ n + a < n by omega), Nat.add_sub_cancel_left]
      simp only [Bool.false_eq_true, if_false]; omega
theorem stk_long (hn : zs.length = n) (hm : ys.length = m) (hv : VoP zs) (hv' : VoP ys) (h6 : n + m ≤ 6) : longI (bothL zs ys true) = longI zs + longI ys := by
  have hl : (bothL zs ys true).length = n + m := by rw [bothL_len, hn, hm]
  have g1 := longI_nn zs
  have g2 := longI_nn ys
  refine long_is (by omega) (fun a ha => ?_) (fun hk => ?_)
  · rw [hl] at ha
    rw [both_hgt hn hm hv hv' h6 ha]
    split
    · rename_i h; have := long_le (zs := zs) (a := a) (by rw [hn]; exact h); omega
    · rename_i h; have := long_le (zs := ys) (a := a - n) (by rw [hm]; omega)
      simp only [if_true]; omega
  · rcases Nat.eq_zero_or_pos ys.length with e | e
    · have hy := long_none e
      have h0 : 0 < zs.length := by
        rcases Nat.eq_zero_or_pos zs.length with e | e
        · have := long_none e; omega
        · exact e
      obtain ⟨a, ha, ea⟩ := long_top hv h0
      rw [hn] at ha
      refine ⟨a, by rw [hl]; omega, ?_⟩
      rw [both_hgt hn hm hv hv' h6 (by omega), if_pos ha]; omega
    · obtain ⟨a, ha, ea⟩ := long_top hv' e
      rw [hm] at ha
      refine ⟨n + a, by rw [hl]; omega, ?_⟩
      rw [both_hgt hn hm hv hv' h6 (by omega), if_neg (show ¬ n + a < n by omega), Nat.add_sub_cancel_left]
      simp only [if_true]; omega

/-! Widest sets apart: a set of both is a set of each. -/
theorem pop_split_fin : ∀ n : Fin 7, ∀ s : Fin 64, popI ((s.val : Nat) : Int) = popI ((s.val % 2 ^ n.val : Nat) : Int) + popI ((s.val / 2 ^ n.val : Nat) : Int) := by decide +kernel
theorem pop_split {n s : Nat} (hn : n ≤ 6) (hs : s < 64) : popI (s : Int) = popI ((s % 2 ^ n : Nat) : Int) + popI ((s / 2 ^ n : Nat) : Int) := pop_split_fin ⟨n, by omega⟩ ⟨s, hs⟩
theorem lo_bit (n s j : Nat) : (s % 2 ^ n).testBit j = (decide (j < n) && s.testBit j) := by rw [Nat.testBit_mod_two_pow]
theorem hi_bit (n s j : Nat) : (s / 2 ^ n).testBit j = s.testBit (n + j) := by rw [Nat.testBit_div_two_pow, Nat.add_comm]
theorem apN {B : List Int} (h6 : B.length ≤ 6) {s : Nat} (hs : s < 2 ^ B.length) : apB B (s : Int) = true ↔ ∀ a b, s.testBit a = true → s.testBit b = true → ¬ lt B a b := by
  have h64 : (2 : Nat) ^ B.length ≤ 64 := Nat.pow_le_pow_right (n := 2) (by decide) h6
  rw [apB_iff (by omega)]
  have hb : ∀ j : Nat, bitB (s : Int) (j : Int) = s.testBit j := fun j => by simp [bitB]
  have hlt : ∀ j, s.testBit j = true → j < B.length := fun j hj => by
    rcases Nat.lt_or_ge j B.length with e | e
    · exact e
    · rw [Nat.testBit_lt_two_pow (Nat.lt_of_lt_of_le hs (Nat.pow_le_pow_right (by decide) e))] at hj; cases hj
  constructor
  · intro h a b ha hb' hl
    have := h a b (by rw [hb]; exact ha) (by rw [hb]; exact hb')
    rw [hl.2] at this; cases this
  · intro h a b ha hb'
    rw [hb] at ha hb'
    cases e : bitB (B[a]?.getD 0) (b : Int)
    · rfl
    · exact absurd ⟨hlt a ha, e⟩ (h a b ha hb')
theorem both_ap (hn : zs.length = n) (hm : ys.length = m) (hv : VoP zs) (hv' : VoP ys) (h6 : n + m ≤ 6) {s : Nat} (hs : s < 2 ^ (n + m)) :
    apB (bothL zs ys over) (s : Int) = true ↔ apB zs ((s % 2 ^ n : Nat) : Int) = true ∧ apB ys ((s / 2 ^ n : Nat) : Int) = true ∧ (over = true → s % 2 ^ n = 0 ∨ s / 2 ^ n = 0) := by
  have hl : (bothL zs ys over).length = n + m := by rw [bothL_len, hn, hm]
  have hp : 0 < (2 : Nat) ^ n := Nat.pow_pos (by decide)
  have hlo : s % 2 ^ n < 2 ^ zs.length := by rw [hn]; exact Nat.mod_lt _ hp
  have hhi : s / 2 ^ n < 2 ^ ys.length := by rw [hm, Nat.div_lt_iff_lt_mul hp, ← Nat.pow_add, Nat.add_comm]; exact hs
  rw [apN (by rw [hl]; exact h6) (by rw [hl]; exact hs), apN (by omega) hlo, apN (by omega) hhi]
  constructor
  · intro h
    refine ⟨fun a b ha hb hab => ?_, fun a b ha hb hab => ?_, fun ho => ?_⟩
    · rw [lo_bit, Bool.and_eq_true, decide_eq_true_eq] at ha hb
      exact h a b ha.2 hb.2 ((both_lt hn hm hv hv' h6).2 (.inl ⟨ha.1, hb.1, hab⟩))
    · rw [hi_bit] at ha hb
      exact h (n + a) (n + b) ha hb ((both_lt hn hm hv hv' h6).2 (.inr (.inl ⟨by omega, by omega, by rw [Nat.add_sub_cancel_left, Nat.add_sub_cancel_left]; exact hab⟩)))
    · rcases Nat.eq_zero_or_pos (s % 2 ^ n) with e | e
      · exact .inl e
      · rcases Nat.eq_zero_or_pos (s / 2 ^ n) with e' | e'
        · exact .inr e'
        · exfalso
          obtain ⟨a, ha⟩ := Nat.exists_testBit_of_ne_zero (Nat.pos_iff_ne_zero.1 e)
          obtain ⟨b, hb⟩ := Nat.exists_testBit_of_ne_zero (Nat.pos_iff_ne_zero.1 e')
          have hbm : b < m := by
            rcases Nat.lt_or_ge b m with h1 | h1
            · exact h1
            · rw [Nat.testBit_lt_two_pow (Nat.lt_of_lt_of_le hhi (Nat.pow_le_pow_right (by decide) (by omega)))] at hb; cases hb
          rw [lo_bit, Bool.and_eq_true, decide_eq_true_eq] at ha
          rw [hi_bit] at hb
          exact h a (n + b) ha.2 hb ((both_lt hn hm hv hv' h6).2 (.inr (.inr ⟨ho, ha.1, by omega, by omega⟩)))
  · rintro ⟨h1, h2, h3⟩ a b ha hb hab
    rcases (both_lt hn hm hv hv' h6).1 hab with ⟨a1, a2, a3⟩ | ⟨a1, a2, a3⟩ | ⟨a1, a2, a3, a4⟩
    · exact h1 a b (by rw [lo_bit, ha, decide_eq_true a1]; rfl) (by rw [lo_bit, hb, decide_eq_true a2]; rfl) a3
    · exact h2 (a - n) (b - n) (by rw [hi_bit, show n + (a - n) = a by omega]; exact ha) (by rw [hi_bit, show n + (b - n) = b by omega]; exact hb) a3
    · rcases h3 a1 with e | e
      · have := lo_bit n s a
        rw [e, ha, decide_eq_true a2] at this; simp at this
      · have := hi_bit n s (b - n)
        rw [e, show n + (b - n) = b by omega, hb] at this; simp at this
theorem grTo_at {p : Int → Bool} (h0 : p 0 = true) : ∀ k : Nat, 0 < k → ∃ j, j < k ∧ p ((j : Nat) : Int) = true ∧ popI ((j : Nat) : Int) = grTo p k
  | 0, h => by omega
  | 1, _ => ⟨0, by omega, h0, by
      have e : p ((0 : Nat) : Int) = true := h0
      rw [grTo, if_pos e]; rfl⟩
  | k + 2, _ => by
    obtain ⟨j, hj, h1, h2⟩ := grTo_at h0 (k + 1) (by omega)
    rw [grTo]
    by_cases e : p ((k + 1 : Nat) : Int) = true
    · rw [if_pos e]
      rcases Int.le_total (grTo p (k + 1)) (popI ((k + 1 : Nat) : Int)) with h | h
      · exact ⟨k + 1, by omega, e, by omega⟩
      · exact ⟨j, by omega, h1, by omega⟩
    · rw [if_neg e]
      exact ⟨j, by omega, h1, h2⟩
theorem ap_none {B : List Int} : apB B 0 = true := by
  have := (apB_iff (zs := B) (s := 0) (by decide)).2 (fun a b ha _ => by rw [bitB_zero] at ha; cases ha)
  exact this
theorem put_lo {n s1 s2 : Nat} (h : s1 < 2 ^ n) : (s1 + 2 ^ n * s2) % 2 ^ n = s1 := by rw [Nat.add_mul_mod_self_left, Nat.mod_eq_of_lt h]
theorem put_hi {n s1 s2 : Nat} (h : s1 < 2 ^ n) : (s1 + 2 ^ n * s2) / 2 ^ n = s2 := by
  rw [Nat.add_mul_div_left _ _ (Nat.pow_pos (by decide)), Nat.div_eq_of_lt h, Nat.zero_add]
theorem put_lt {n m s1 s2 : Nat} (h1 : s1 < 2 ^ n) (h2 : s2 < 2 ^ m) : s1 + 2 ^ n * s2 < 2 ^ (n + m) := by
  have h3 : 2 ^ n * (s2 + 1) ≤ 2 ^ n * 2 ^ m := Nat.mul_le_mul_left _ h2
  rw [Nat.mul_add, Nat.mul_one, ← Nat.pow_add] at h3
  omega
theorem both_split (hn : zs.length = n) (hm : ys.length = m) (hv : VoP zs) (hv' : VoP ys) (h6 : n + m ≤ 6) {s : Nat} (hs : s < 2 ^ (n + m)) (h : apB (bothL zs ys over) (s : Int) = true) :
    popI (s : Int) = popI ((s % 2 ^ n : Nat) : Int) + popI ((s / 2 ^ n : Nat) : Int) ∧ popI ((s % 2 ^ n : Nat) : Int) ≤ grTo (apB zs) (2 ^ n) ∧ popI ((s / 2 ^ n : Nat) : Int) ≤ grTo (apB ys) (2 ^ m) ∧ (over = true → s % 2 ^ n = 0 ∨ s / 2 ^ n = 0) := by
  have h64 : (2 : Nat) ^ (n + m) ≤ 64 := Nat.pow_le_pow_right (n := 2) (by decide) h6
  have hp : 0 < (2 : Nat) ^ n := Nat.pow_pos (by decide)
  obtain ⟨h1, h2, h3⟩ := (both_ap hn hm hv hv' h6 hs).1 h
  exact ⟨pop_split (by omega) (by omega), grTo_ge h1 _ (Nat.mod_lt _ hp), grTo_ge h2 _ (by rw [Nat.div_lt_iff_lt_mul hp, ← Nat.pow_add, Nat.add_comm]; exact hs), h3⟩
theorem both_join (hn : zs.length = n) (hm : ys.length = m) (hv : VoP zs) (hv' : VoP ys) (h6 : n + m ≤ 6) {s1 s2 : Nat} (h1 : s1 < 2 ^ n) (h2 : s2 < 2 ^ m) (a1 : apB zs (s1 : Int) = true) (a2 : apB ys (s2 : Int) = true) (ho : over = true → s1 = 0 ∨ s2 = 0) :
    popI (s1 : Int) + popI (s2 : Int) ≤ grTo (apB (bothL zs ys over)) (2 ^ (n + m)) := by
  have h64 : (2 : Nat) ^ (n + m) ≤ 64 := Nat.pow_le_pow_right (n := 2) (by decide) h6
  have hlt := put_lt h1 h2
  have hap := (both_ap (over := over) hn hm hv hv' h6 hlt).2 ⟨by rw [put_lo h1]; exact a1, by rw [put_hi h1]; exact a2, fun e => by rw [put_lo h1, put_hi h1]; exact ho e⟩
  have e := pop_split (n := n) (s := s1 + 2 ^ n * s2) (by omega) (by omega)
  rw [put_lo h1, put_hi h1] at e
  rw [← e]
  exact grTo_ge hap _ hlt
theorem bes_wide (hn : zs.length = n) (hm : ys.length = m) (hv : VoP zs) (hv' : VoP ys) (h6 : n + m ≤ 6) : grTo (apB (bothL zs ys false)) (2 ^ (n + m)) = grTo (apB zs) (2 ^ n) + grTo (apB ys) (2 ^ m) := by
  have g1 := grTo_nn (apB zs) (2 ^ n)
  have g2 := grTo_nn (apB ys) (2 ^ m)
  refine Int.le_antisymm (grTo_le (by omega) _ fun j hj hp => ?_) ?_
  · obtain ⟨e, e1, e2, _⟩ := both_split hn hm hv hv' h6 hj hp
    omega
  · obtain ⟨s1, h1, a1, e1⟩ := grTo_at (ap_none (B := zs)) (2 ^ n) (Nat.pow_pos (by decide))
    obtain ⟨s2, h2, a2, e2⟩ := grTo_at (ap_none (B := ys)) (2 ^ m) (Nat.pow_pos (by decide))
    rw [← e1, ← e2]
    exact both_join hn hm hv hv' h6 h1 h2 a1 a2 (fun e => by cases e)
theorem stk_wide (hn : zs.length = n) (hm : ys.length = m) (hv : VoP zs) (hv' : VoP ys) (h6 : n + m ≤ 6) : grTo (apB (bothL zs ys true)) (2 ^ (n + m)) = max (grTo (apB zs) (2 ^ n)) (grTo (apB ys) (2 ^ m)) := by
  have g1 := grTo_nn (apB zs) (2 ^ n)
  have g2 := grTo_nn (apB ys) (2 ^ m)
  have p0 : popI ((0 : Nat) : Int) = 0 := rfl
  refine Int.le_antisymm (grTo_le (by omega) _ fun j hj hp => ?_) ?_
  · obtain ⟨e, e1, e2, e3⟩ := both_split hn hm hv hv' h6 hj hp
    rcases e3 rfl with h | h
    · rw [h, p0] at e; omega
    · rw [h, p0] at e; omega
  · obtain ⟨s1, h1, a1, e1⟩ := grTo_at (ap_none (B := zs)) (2 ^ n) (Nat.pow_pos (by decide))
    obtain ⟨s2, h2, a2, e2⟩ := grTo_at (ap_none (B := ys)) (2 ^ m) (Nat.pow_pos (by decide))
    have k1 := both_join (over := true) hn hm hv hv' h6 h1 (show 0 < 2 ^ m from Nat.pow_pos (by decide)) a1 (ap_none (B := ys)) (fun _ => .inr rfl)
    have k2 := both_join (over := true) hn hm hv hv' h6 (show 0 < 2 ^ n from Nat.pow_pos (by decide)) h2 (ap_none (B := zs)) a2 (fun _ => .inl rfl)
    rw [p0] at k1 k2
    omega
end
end Go.Proofs.YtiicffibhjeabaaDoor

/- In how many ways an order is lined up: counted from the first item on, and from the last one back, it is as many. No program. -/
namespace Go.Proofs.YtiicffibhjeabaaDoor

/-! Sums over lists. -/
theorem sum_map_add {α : Type} (f g : α → Nat) : ∀ l : List α, (l.map fun x => f x + g x).sum = (l.map f).sum + (l.map g).sum
  | [] => rfl
  | x :: l => by
    have := sum_map_add f g l
    simp only [List.map_cons, List.sum_cons] at this ⊢
    omega
theorem sum_map_zero {α : Type} : ∀ l : List α, (l.map fun _ => 0).sum = 0
  | [] => rfl
  | _ :: l => by simpa using sum_map_zero l
theorem sum_swap {α β : Type} (f : α → β → Nat) (m : List β) : ∀ l : List α, (l.map fun x => (m.map (f x)).sum).sum = (m.map fun y => (l.map fun x => f x y).sum).sum
  | [] => by simpa using (sum_map_zero m).symm
  | x :: l => by
    rw [List.map_cons, List.sum_cons, sum_swap f m l, ← sum_map_add]
    rfl
theorem sum_mul {α : Type} (c : Nat) (f : α → Nat) : ∀ l : List α, (l.map fun x => c * f x).sum = c * (l.map f).sum
  | [] => rfl
  | x :: l => by rw [List.map_cons, List.sum_cons, List.map_cons, List.sum_cons, sum_mul c f l, Nat.mul_add]
theorem sum_if {α : Type} (p : α → Bool) (f : α → Nat) : ∀ l : List α, (l.map fun x => if p x then f x else 0).sum = ((l.filter p).map f).sum
  | [] => rfl
  | x :: l => by
    rw [List.map_cons, List.sum_cons, sum_if p f l, List.filter_cons]
    cases p x <;> simp
theorem sum_congr {α : Type} {f g : α → Nat} {l : List α} (h : ∀ x ∈ l, f x = g x) : (l.map f).sum = (l.map g).sum := by rw [List.map_congr_left h]

/-- The sets with the item a are those without it, and it. -/
theorem with_item : ∀ n : Fin 7, ∀ a : Fin 6, a.val < n.val → (List.range (2 ^ n.val)).filter (fun s : Nat => s.testBit a.val) = ((List.range (2 ^ n.val)).filter fun s : Nat => !s.testBit a.val).map fun s => s + 2 ^ a.val := by decide +kernel
/-- Edges: by the items s, the item a comes next. -/
def nextE (zs : List Int) (s a : Nat) : Bool := !s.testBit a && (lessI ((du zs)[a]?.getD 0) (s : Int) == 0)
def belowAny (zs : List Int) (s a : Nat) : Bool := (List.range zs.length).any fun b => s.testBit b && bitB ((du zs)[b]?.getD 0) a
/-- As the model asks it: a is one of s, with all below it there, and below none of s. -/
def eG (zs : List Int) (s a : Nat) : Bool := s.testBit a && ((lessI ((du zs)[a]?.getD 0) (s : Int) == 0) && !belowAny zs s a)
/-- As the program asks it: a is one of what is left, of which none is below it. -/
def eF (zs : List Int) (s a : Nat) : Bool := s.testBit a && (andI ((du zs)[a]?.getD 0) (s : Int) == 0)
theorem sub_lt {s a : Nat} (h : ¬ s = 0) : s - 2 ^ a < s := by have := Nat.two_pow_pos a; omega
/-- In how many ways the set s is lined up. -/
def cG (zs : List Int) (s : Nat) : Nat := if h : s = 0 then 1 else ((List.range zs.length).map fun a => if eG zs s a then cG zs (s - 2 ^ a) else 0).sum
termination_by s
decreasing_by exact sub_lt h
/-- In how many ways what is left is lined up. -/
def cF (zs : List Int) (s : Nat) : Nat := if h : s = 0 then 1 else ((List.range zs.length).map fun a => if eF zs s a then cF zs (s - 2 ^ a) else 0).sum
termination_by s
decreasing_by exact sub_lt h
theorem cG_zero (zs : List Int) : cG zs 0 = 1 := by rw [cG]; rfl
theorem cF_zero (zs : List Int) : cF zs 0 = 1 := by rw [cF]; rfl
theorem cG_pos {zs : List Int} {s : Nat} (h : s ≠ 0) : cG zs s = ((List.range zs.length).map fun a => if eG zs s a then cG zs (s - 2 ^ a) else 0).sum := by rw [cG, dif_neg h]
theorem cF_pos {zs : List Int} {s : Nat} (h : s ≠ 0) : cF zs s = ((List.range zs.length).map fun a => if eF zs s a then cF zs (s - 2 ^ a) else 0).sum := by rw [cF, dif_neg h]

/-- All below its items are there. -/
def Ideal (zs : List Int) (s : Nat) : Prop := ∀ a b : Nat, s.testBit b = true → bitB ((du zs)[b]?.getD 0) a = true → s.testBit a = true
theorem bit_cast (s j : Nat) : bitB (s : Int) (j : Int) = s.testBit j := by simp [bitB]
theorem less_zero {d : Int} {s : Nat} : lessI d (s : Int) = 0 ↔ ∀ j : Nat, bitB d j = true → s.testBit j = true := by
  constructor
  · intro e j hj
    have := bitB_less d (s : Int) j
    rw [e, bitB_zero, hj, bit_cast] at this
    simpa using this.symm
  · intro e
    refine bitB_ext (lessI_bd _ _).1 (Int.le_refl _) fun j => ?_
    rw [bitB_less, bitB_zero, bit_cast]
    cases h : bitB d j
    · rfl
    · rw [e j h]; rfl
theorem sub_bit_fin : ∀ s : Fin 64, ∀ a j : Fin 6, s.val.testBit a.val = true → (s.val - 2 ^ a.val).testBit j.val = (s.val.testBit j.val && !decide (a.val = j.val)) := by decide +kernel
theorem add_bit_fin : ∀ s : Fin 64, ∀ a j : Fin 6, s.val.testBit a.val = false → (s.val + 2 ^ a.val).testBit j.val = (s.val.testBit j.val || decide (a.val = j.val)) := by decide +kernel
theorem add_lt_fin : ∀ n : Fin 7, ∀ s : Fin 64, ∀ a : Fin 6, s.val < 2 ^ n.val → a.val < n.val → s.val.testBit a.val = false → s.val + 2 ^ a.val < 2 ^ n.val := by decide +kernel
theorem com_bit_fin : ∀ n : Fin 7, ∀ s : Fin 64, s.val < 2 ^ n.val → ∀ j : Fin 6, (2 ^ n.val - 1 - s.val).testBit j.val = (decide (j.val < n.val) && !s.val.testBit j.val) := by decide +kernel
theorem ge_bit_fin : ∀ s : Fin 64, ∀ a : Fin 6, s.val.testBit a.val = true → 2 ^ a.val ≤ s.val := by decide +kernel
theorem bit_lt {n s j : Nat} (hs : s < 2 ^ n) (h : s.testBit j = true) : j < n := by
  rcases Nat.lt_or_ge j n with h1 | h1
  · exact h1
  · rw [Nat.testBit_lt_two_pow (Nat.lt_of_lt_of_le hs (Nat.pow_le_pow_right (by decide) h1))] at h; cases h
theorem pow_le64 {n : Nat} (h : n ≤ 6) : 2 ^ n ≤ 64 := Nat.pow_le_pow_right (n := 2) (by decide) h
theorem sum_pick (f : Nat → Nat) (c : Nat) : ∀ N : Nat, c < N → ((List.range N).map f).sum = ((List.range N).map fun x => if x = c then 0 else f x).sum + f c
  | N + 1, hc => by
    rw [List.range_succ, List.map_append, List.sum_append, List.map_append, List.sum_append]
    by_cases h : c = N
    · subst h
      have : ((List.range c).map fun x => if x = c then 0 else f x).sum = ((List.range c).map f).sum := sum_congr fun x hx => by
        have := List.mem_range.1 hx
        rw [if_neg (by omega)]
      rw [this]
      simp
    · rw [sum_pick f c N (by omega)]
      have : ¬ N = c := fun e => h e.symm
      simp [this]
      omega
theorem du_small {zs : List Int} (h : VoP zs) {a j : Nat} (hb : bitB ((du zs)[a]?.getD 0) j = true) : j < zs.length ∧ a < zs.length := by
  rcases Nat.lt_or_ge a (du zs).length with h1 | h1
  · have := (du_sets h.sets).2 a h1
    rw [du_len] at this h1
    exact ⟨bitB_lt this.2 hb, h1⟩
  · rw [List.getElem?_eq_none h1, Option.getD_none, bitB_zero] at hb; cases hb
theorem du_irr {zs : List Int} (h : VoP zs) (a : Nat) : bitB ((du zs)[a]?.getD 0) a = false := by
  rw [du_bit h.sets]
  rcases Nat.lt_or_ge a zs.length with h1 | h1
  · exact h.irrB h1
  · rw [List.getElem?_eq_none h1, Option.getD_none, bitB_zero]
theorem sum_ne {α : Type} {f : α → Nat} : ∀ l : List α, (l.map f).sum ≠ 0 → ∃ x ∈ l, f x ≠ 0
  | [], h => absurd rfl h
  | x :: l, h => by
    by_cases hx : f x = 0
    · rw [List.map_cons, List.sum_cons, hx, Nat.zero_add] at h
      obtain ⟨y, hy, e⟩ := sum_ne l h
      exact ⟨y, by simp [hy], e⟩
    · exact ⟨x, by simp, hx⟩
theorem cG_ideal {zs : List Int} (h : VoP zs) : ∀ (k s : Nat), s ≤ k → s < 2 ^ zs.length → cG zs s ≠ 0 → Ideal zs s
  | 0, s, hk, _, _ => by
    obtain rfl : s = 0 := by omega
    intro a b hb _
    simp at hb
  | k + 1, s, hk, hN, hc => by
    by_cases h0 : s = 0
    · exact cG_ideal h k s (by omega) hN hc
    · have h6 := pow_le64 h.1
      rw [cG_pos h0] at hc
      obtain ⟨a, ha, hne⟩ := sum_ne _ hc
      have han := List.mem_range.1 ha
      have hn6 := h.1
      cases he : eG zs s a
      · simp only [he] at hne; exact absurd rfl hne
      · simp only [he, if_true] at hne
        unfold eG at he
        rw [Bool.and_eq_true, Bool.and_eq_true] at he
        obtain ⟨h1, h2, _⟩ := he
        have hge := ge_bit_fin ⟨s, by omega⟩ ⟨a, by omega⟩ h1
        simp only at hge
        have hp := Nat.two_pow_pos a
        have ih := cG_ideal h k (s - 2 ^ a) (by omega) (by omega) hne
        have hsub := less_zero.1 (show lessI ((du zs)[a]?.getD 0) (s : Int) = 0 by simpa using h2)
        have sb : ∀ j, j < 6 → (s - 2 ^ a).testBit j = (s.testBit j && !decide (a = j)) := fun j hj => sub_bit_fin ⟨s, by omega⟩ ⟨a, by omega⟩ ⟨j, hj⟩ h1
        intro x b hb hx
        have hb6 := bit_lt hN hb
        by_cases hba : a = b
        · subst hba; exact hsub x hx
        · have hx6 := (du_small h hx).1
          have := ih x b (by rw [sb b (by omega), hb]; simp [hba]) hx
          rw [sb x (by omega), Bool.and_eq_true] at this
          exact this.1
/-- From what is left back to what is there. -/
theorem cF_next {zs : List Int} (h : VoP zs) {s : Nat} (hN : s < 2 ^ zs.length) (hs : s ≠ 2 ^ zs.length - 1) :
    cF zs (2 ^ zs.length - 1 - s) = ((List.range zs.length).map fun a => if nextE zs s a then cF zs (2 ^ zs.length - 1 - (s + 2 ^ a)) else 0).sum := by
  have h6 := pow_le64 h.1
  have hn6 := h.1
  rw [cF_pos (by omega)]
  refine sum_congr fun a ha => ?_
  have han := List.mem_range.1 ha
  have cb : ∀ j, j < 6 → (2 ^ zs.length - 1 - s).testBit j = (decide (j < zs.length) && !s.testBit j) := fun j hj => com_bit_fin ⟨zs.length, by omega⟩ ⟨s, by omega⟩ hN ⟨j, hj⟩
  have e1 : eF zs (2 ^ zs.length - 1 - s) a = nextE zs s a := by
    unfold eF nextE
    rw [cb a (by omega), decide_eq_true han, Bool.true_and]
    congr 1
    have key : andI ((du zs)[a]?.getD 0) ((2 ^ zs.length - 1 - s : Nat) : Int) = 0 ↔ lessI ((du zs)[a]?.getD 0) (s : Int) = 0 := by
      rw [andI_zero, less_zero]
      constructor
      · intro e j hj
        have hjn := (du_small h hj).1
        cases hc : s.testBit j
        · have := e j (by rw [bit_cast, cb j (by omega), hc]; simp [hjn])
          rw [hj] at this; cases this
        · rfl
      · intro e j hj
        cases hd : bitB ((du zs)[a]?.getD 0) j
        · rfl
        · have hjn := (du_small h hd).1
          rw [bit_cast, cb j (by omega), e j hd] at hj
          simp at hj
    by_cases hk : lessI ((du zs)[a]?.getD 0) (s : Int) = 0
    · rw [hk, key.2 hk]
    · have hk' : ¬ andI ((du zs)[a]?.getD 0) ((2 ^ zs.length - 1 - s : Nat) : Int) = 0 := fun e => hk (key.1 e)
      rw [beq_eq_false_iff_ne.2 hk, beq_eq_false_iff_ne.2 hk']
  rw [e1, Nat.sub_sub]
theorem edge_same {zs : List Int} (h : VoP zs) {s a : Nat} (hN : s < 2 ^ zs.length) (han : a < zs.length) (hb : s.testBit a = false) (X : Nat) :
    (if nextE zs s a then cG zs s * X else 0) = if eG zs (s + 2 ^ a) a then cG zs s * X else 0 := by
  have h6 := pow_le64 h.1
  have hn6 := h.1
  have ab : ∀ j, j < 6 → (s + 2 ^ a).testBit j = (s.testBit j || decide (a = j)) := fun j hj => add_bit_fin ⟨s, by omega⟩ ⟨a, by omega⟩ ⟨j, hj⟩ hb
  by_cases hc : cG zs s = 0
  · rw [hc]; simp
  · have hid := cG_ideal h s s (Nat.le_refl _) hN hc
    have e1 : belowAny zs (s + 2 ^ a) a = false := by
      unfold belowAny
      rw [List.any_eq_false]
      intro b hbr
      have hbn := List.mem_range.1 hbr
      rw [ab b (by omega)]
      intro e
      rw [Bool.and_eq_true, Bool.or_eq_true] at e
      obtain ⟨e1 | e1, e2⟩ := e
      · have := hid a b e1 e2
        rw [hb] at this; cases this
      · have : a = b := by simpa using e1
        subst this
        rw [du_irr h] at e2; cases e2
    have e2 : lessI ((du zs)[a]?.getD 0) ((s + 2 ^ a : Nat) : Int) = 0 ↔ lessI ((du zs)[a]?.getD 0) (s : Int) = 0 := by
      rw [less_zero, less_zero]
      constructor
      · intro e j hj
        have hjn := (du_small h hj).1
        have := e j hj
        rw [ab j (by omega), Bool.or_eq_true] at this
        rcases this with h1 | h1
        · exact h1
        · have : a = j := by simpa using h1
          subst this
          rw [du_irr h] at hj; cases hj
      · intro e j hj
        have hjn := (du_small h hj).1
        rw [ab j (by omega), e j hj]
        rfl
    have e3 : nextE zs s a = eG zs (s + 2 ^ a) a := by
      unfold nextE eG
      rw [hb, ab a (by omega), hb, e1]
      by_cases hk : lessI ((du zs)[a]?.getD 0) (s : Int) = 0
      · rw [hk, e2.2 hk]; simp
      · have hk' : ¬ lessI ((du zs)[a]?.getD 0) ((s + 2 ^ a : Nat) : Int) = 0 := fun e => hk (e2.1 e)
        rw [beq_eq_false_iff_ne.2 hk, beq_eq_false_iff_ne.2 hk']; simp
    rw [e3]
/-- Counted both ways it is as many. -/
theorem count_both {zs : List Int} (h : VoP zs) : cG zs (2 ^ zs.length - 1) = cF zs (2 ^ zs.length - 1) := by
  have h6 := pow_le64 h.1
  have hn6 := h.1
  have hpos := Nat.two_pow_pos zs.length
  have P1 := sum_pick (fun s => cG zs s * cF zs (2 ^ zs.length - 1 - s)) (2 ^ zs.length - 1) (2 ^ zs.length) (by omega)
  have P2 := sum_pick (fun s => cG zs s * cF zs (2 ^ zs.length - 1 - s)) 0 (2 ^ zs.length) hpos
  have hA1 : cG zs (2 ^ zs.length - 1) * cF zs (2 ^ zs.length - 1 - (2 ^ zs.length - 1)) = cG zs (2 ^ zs.length - 1) := by rw [Nat.sub_self, cF_zero, Nat.mul_one]
  have hA2 : cG zs 0 * cF zs (2 ^ zs.length - 1 - 0) = cF zs (2 ^ zs.length - 1) := by rw [cG_zero, Nat.one_mul, Nat.sub_zero]
  rw [hA1] at P1
  rw [hA2] at P2
  have L : ((List.range (2 ^ zs.length)).map fun s => if s = 2 ^ zs.length - 1 then 0 else cG zs s * cF zs (2 ^ zs.length - 1 - s)).sum =
      ((List.range (2 ^ zs.length)).map fun s => ((List.range zs.length).map fun a => if nextE zs s a then cG zs s * cF zs (2 ^ zs.length - 1 - (s + 2 ^ a)) else 0).sum).sum := sum_congr fun s hs => by
    have hN := List.mem_range.1 hs
    by_cases he : s = 2 ^ zs.length - 1
    · rw [if_pos he]
      have : ((List.range zs.length).map fun a => if nextE zs s a then cG zs s * cF zs (2 ^ zs.length - 1 - (s + 2 ^ a)) else 0).sum = ((List.range zs.length).map fun _ => 0).sum := sum_congr fun a ha => by
        have han := List.mem_range.1 ha
        have : nextE zs s a = false := by
          unfold nextE
          rw [he, Nat.testBit_two_pow_sub_one, decide_eq_true han]
          rfl
        rw [this]; rfl
      rw [this, sum_map_zero]
    · rw [if_neg he, cF_next h hN he, ← sum_mul]
      refine sum_congr fun a _ => ?_
      cases nextE zs s a <;> simp
  have R : ((List.range (2 ^ zs.length)).map fun s => if s = 0 then 0 else cG zs s * cF zs (2 ^ zs.length - 1 - s)).sum =
      ((List.range (2 ^ zs.length)).map fun s => ((List.range zs.length).map fun a => if eG zs s a then cG zs (s - 2 ^ a) * cF zs (2 ^ zs.length - 1 - s) else 0).sum).sum := sum_congr fun s hs => by
    by_cases he : s = 0
    · rw [if_pos he]
      have : ((List.range zs.length).map fun a => if eG zs s a then cG zs (s - 2 ^ a) * cF zs (2 ^ zs.length - 1 - s) else 0).sum = ((List.range zs.length).map fun _ => 0).sum := sum_congr fun a _ => by
        have : eG zs s a = false := by unfold eG; rw [he]; simp
        rw [this]; rfl
      rw [this, sum_map_zero]
    · rw [if_neg he, cG_pos he, Nat.mul_comm, ← sum_mul]
      refine sum_congr fun a _ => ?_
      cases eG zs s a <;> simp [Nat.mul_comm]
  have M : ((List.range (2 ^ zs.length)).map fun s => ((List.range zs.length).map fun a => if nextE zs s a then cG zs s * cF zs (2 ^ zs.length - 1 - (s + 2 ^ a)) else 0).sum).sum =
      ((List.range (2 ^ zs.length)).map fun s => ((List.range zs.length).map fun a => if eG zs s a then cG zs (s - 2 ^ a) * cF zs (2 ^ zs.length - 1 - s) else 0).sum).sum := by
    refine (sum_swap _ _ _).trans (Eq.trans ?_ (sum_swap _ _ _).symm)
    refine sum_congr fun a ha => ?_
    have han := List.mem_range.1 ha
    have e1 : ((List.range (2 ^ zs.length)).map fun s => if nextE zs s a then cG zs s * cF zs (2 ^ zs.length - 1 - (s + 2 ^ a)) else 0).sum =
        (((List.range (2 ^ zs.length)).filter fun s : Nat => !s.testBit a).map fun s => if nextE zs s a then cG zs s * cF zs (2 ^ zs.length - 1 - (s + 2 ^ a)) else 0).sum := by
      rw [← sum_if]
      refine sum_congr fun s _ => ?_
      cases hb : s.testBit a
      · rfl
      · have : nextE zs s a = false := by unfold nextE; rw [hb]; rfl
        rw [this]; rfl
    have e2 : ((List.range (2 ^ zs.length)).map fun s => if eG zs s a then cG zs (s - 2 ^ a) * cF zs (2 ^ zs.length - 1 - s) else 0).sum =
        (((List.range (2 ^ zs.length)).filter fun s : Nat => s.testBit a).map fun s => if eG zs s a then cG zs (s - 2 ^ a) * cF zs (2 ^ zs.length - 1 - s) else 0).sum := by
      rw [← sum_if]
      refine sum_congr fun s _ => ?_
      cases hb : s.testBit a
      · have : eG zs s a = false := by unfold eG; rw [hb]; rfl
        rw [this]; rfl
      · rfl
    rw [e1, e2, with_item ⟨zs.length, by omega⟩ ⟨a, by omega⟩ han, List.map_map]
    refine sum_congr fun s hs => ?_
    rw [List.mem_filter] at hs
    have hN := List.mem_range.1 hs.1
    have hb : s.testBit a = false := by simpa using hs.2
    simp only [Function.comp, Nat.add_sub_cancel]
    exact edge_same h hN han hb _
  rw [L] at P1
  rw [R] at P2
  rw [P1, M] at P2
  omega
end Go.Proofs.YtiicffibhjeabaaDoor

/- Rows of rows under way: each row in a block of its own, their slices in a row that grows by append. -/
namespace Go.Proofs.YtiicffibhjeabaaDoor
open Go.RowKit

theorem infoRow_parts : ∃ i : TypeInfo, Tryd.prog.info? 23 = some i ∧ i.zero = some (.slice none 0 0) ∧ i.size = 1 ∧ i.bytes = 24 := by
  have h := infoRow
  cases hi : Tryd.prog.info? 23 with
  | none => rw [hi] at h; cases h
  | some i =>
    rw [hi] at h
    simp only [Option.map_some, Option.some.injEq, Prod.mk.injEq] at h
    exact ⟨i, rfl, h.1, h.2.1, h.2.2⟩

section
variable {w w' : World} {lo hi : Nat}
/-- What turns one block of slices leaves the rows. -/
theorem RowsC.grown : ∀ {lo hi : Nat} {vs : List Value} {rs : List (List Int)}, RowsC w lo hi vs rs → hi ≤ w.heap.size → ∀ {row : Option Nat}, w.grownBy w' row →
    (∀ g, row = some g → ∃ cs, w.heap[g]? = some (.cells cs 23 (0, 0))) → RowsC w' lo hi vs rs
  | _, _, [], [], h, _, _, _, _ => h
  | _, _, _ :: _, _ :: _, ⟨A, c, mid, e, h1, hr, h2⟩, hh, row, hg, ht => by
    refine ⟨A, c, mid, e, h1, ⟨hr.1, fun hn => ?_⟩, h2.grown hh hg ht⟩
    obtain ⟨b, ys, eb, hl, hb, hA⟩ := hr.2 hn
    refine ⟨b, ys, eb, hl, hb, (hg.block b hA.lt (fun e => ?_)).trans hA⟩
    obtain ⟨cs, hcs⟩ := ht b e.symm
    unfold Arr at hA
    rw [hcs] at hA
    cases hA

theorem RowsC.sooner : ∀ {lo lo' hi : Nat} {vs : List Value} {rs : List (List Int)}, RowsC w lo hi vs rs → lo' ≤ lo → RowsC w lo' hi vs rs
  | _, _, _, [], [], h, h' => Nat.le_trans h' h
  | _, _, _, _ :: _, _ :: _, ⟨A, c, mid, e, h1, hr, h2⟩, h' => ⟨A, c, mid, e, Nat.le_trans h' h1, hr.more h' (Nat.le_refl _), h2⟩
theorem RowsR.sooner {lo lo' hi n : Nat} {A : Option Addr} {rs : List (List Int)} (h : RowsR w lo hi A n rs) (hl : lo' ≤ lo) : RowsR w lo' hi A n rs :=
  ⟨h.1, fun hn => by
    obtain ⟨g, vs, cs, e, h1, h2, h3, h4, h5⟩ := h.2 hn
    exact ⟨g, vs, cs, e, by omega, h2, h3, h4, h5.sooner hl⟩⟩

/-- The rows so far: v is their row, all in blocks from B on. -/
def Rowed (w : World) (B : Nat) (v : Value) (rs : List (List Int)) : Prop := ∃ vs, w.ownsRow B 23 1 v rs.length vs ∧ RowsC w B w.heap.size vs rs ∧ B ≤ w.heap.size
theorem Rowed.base {B : Nat} {v : Value} {rs : List (List Int)} (h : Rowed w B v rs) : ∀ k, v.ownBlock = some k → B ≤ k := by
  obtain ⟨vs, h1, _⟩ := h
  exact own_base h1
theorem Rowed.new (w : World) : Rowed (w.alloc (.cells #[] 23)) w.heap.size (.slice (some ⟨w.heap.size, 0, none⟩) 0 0) [] := ⟨[], own_new _ _, by simp [RowsC], by simp⟩
theorem own_block {base n : Nat} {e : TypeId} {v : Value} {xs : List Value} (h : w.ownsRow base e 1 v n xs) : ∀ g, v.ownBlock = some g → ∃ cs, w.heap[g]? = some (.cells cs e (0, 0)) := fun k hk => by
  rcases h.2 with ⟨rfl, _⟩ | ⟨g, cap, cur, rfl, hg, hc, _⟩
  · cases hk
  · cases hk; exact ⟨cur, hc⟩
theorem Rowed.keep {B : Nat} {v : Value} {rs : List (List Int)} {R : Nat → Prop} (h : Rowed w B v rs) (hu : Upd R w w') (hr : ∀ j, R j → j < B ∨ w.heap.size ≤ j) : Rowed w' B v rs := by
  obtain ⟨vs, h1, h2, h3⟩ := h
  refine ⟨vs, ?_, (h2.upd hu hr).more hu.size, Nat.le_trans h3 hu.size⟩
  refine ⟨h1.1, ?_⟩
  rcases h1.2 with e | ⟨g, cap, cur, rfl, hg, hc, hrest⟩
  · exact .inl e
  · exact .inr ⟨g, cap, cur, rfl, hg, (hu.block g (Array.getElem?_eq_some_iff.1 hc).1 (fun e => by have := hr g e; have := (Array.getElem?_eq_some_iff.1 hc).1; omega)).trans hc, hrest⟩
/-- A row of two, and its slice appended. -/
theorem Rowed.step {B n : Nat} {v v' : Value} {rs : List (List Int)} {vs : List Value} {a b : Int} (h1 : w.ownsRow B 23 1 v n vs) (hn : n = rs.length) (h2 : RowsC w B w.heap.size vs rs) (hB : B ≤ w.heap.size)
    (hown : w'.ownsRow B 23 1 v' (n + 1) (vs ++ [.slice (some ⟨w.heap.size, 0, none⟩) 2 2]))
    (hg : ((w.alloc (.cells #[.int .i64 a, .int .i64 b] 3)).alloc (.cells #[.slice (some ⟨w.heap.size, 0, none⟩) 2 2] 23)).grownBy w' v.ownBlock) : Rowed w' B v' (rs ++ [[a, b]]) := by
  have hu : Upd (fun _ => False) w ((w.alloc (.cells #[.int .i64 a, .int .i64 b] 3)).alloc (.cells #[.slice (some ⟨w.heap.size, 0, none⟩) 2 2] 23)) := ((Upd.refl _ w).alloc _).alloc _
  have h3 := h2.upd hu (fun j e => e.elim)
  have hA : Arr (w.alloc (.cells #[.int .i64 a, .int .i64 b] 3)) w.heap.size 3 [a, b] := heap_alloc_new w _
  have h4 := h3.snoc (hi' := w.heap.size + 1 + 1) (r := [a, b]) (c := 2) (Row.of (hA.alloc _) rfl (Nat.le_refl _) (by omega)) (by omega)
  have h5 := h4.grown (by simp) hg (own_block (h1.alloc _ |>.alloc _))
  refine ⟨_, by rw [List.length_append, ← hn]; exact hown, h5.more (by have := hg.size; simpa using this), by have := hg.size; simp at this; omega⟩
/-- At the end. -/
theorem Rowed.rows {B : Nat} {v : Value} {rs : List (List Int)} (h : Rowed w B v rs) : ∃ A c, v = .slice A rs.length c ∧ RowsR w B w.heap.size A rs.length rs := by
  obtain ⟨vs, h1, h2, h3⟩ := h
  rcases h1.2 with ⟨rfl, hn⟩ | ⟨g, cap, cur, rfl, hg, hc, _, _, _, ht⟩
  · obtain rfl : rs = [] := List.eq_nil_of_length_eq_zero hn
    exact ⟨none, 0, rfl, RowsR.nil _ _ _ _⟩
  · refine ⟨_, cap, rfl, rfl, fun _ => ⟨g, vs, cur, rfl, hg, (Array.getElem?_eq_some_iff.1 hc).1, hc, fun j u hj => ?_, h2⟩⟩
    rw [← ht, List.getElem?_take] at hj
    split at hj
    · simpa using hj
    · cases hj
end
end Go.Proofs.YtiicffibhjeabaaDoor

/- CoversOf: the model's and the program's. -/
namespace Go.Proofs.YtiicffibhjeabaaDoor
open Go.RowKit Go.Shelf
attribute [local go_sem] Oper.semAt_some
attribute [local go_sem, local simp] wide_fn

theorem coverTo_bit {zs : List Int} {a x : Nat} : ∀ b : Nat, bitB (coverTo zs a b) x = (bitB (zs[a]?.getD 0) x && (List.range b).all fun y => !(bitB (zs[a]?.getD 0) y && bitB (zs[y]?.getD 0) x))
  | 0 => by simp [coverTo]
  | b + 1 => by
    have ih := coverTo_bit (zs := zs) (a := a) (x := x) b
    rw [List.range_succ, List.all_append, List.all_cons, List.all_nil, Bool.and_true]
    cases h : bitB (zs[a]?.getD 0) b
    · rw [coverTo_no h, ih]; simp
    · rw [coverTo_yes h, bitB_less, ih, Bool.and_assoc]; simp
theorem coverTo_items {zs : List Int} (h : Sets zs) {a : Nat} (ha : a < zs.length) : itemsL (coverTo zs a zs.length) = (itemsL (zs[a]?.getD 0)).filter (nextB zs a) := by
  unfold itemsL itemsTo
  rw [List.filter_filter]
  refine List.filter_congr fun x hx => ?_
  rw [coverTo_bit, Bool.and_comm]
  congr 1
  unfold nextB
  rw [Bool.eq_iff_iff]
  simp only [List.all_eq_true, List.mem_range, Bool.not_eq_true', itemsL, mem_itemsTo, Bool.and_eq_false_iff]
  constructor
  · rintro h1 y ⟨_, hy⟩
    have hyn := bitB_lt (h.2 a ha).2 hy
    rcases h1 y hyn with h2 | h2
    · rw [hy] at h2; cases h2
    · exact h2
  · intro h1 y hy
    cases hb : bitB (zs[a]?.getD 0) y
    · exact .inl rfl
    · exact .inr (h1 y ⟨by have := h.1; omega, hb⟩)

def rowOf (p : Nat × Nat) : List Int := [(p.1 : Int), (p.2 : Int)]
def covTo (zs : List Int) (k : Nat) : List (Nat × Nat) := (List.range k).flatMap fun a => (itemsL (coverTo zs a zs.length)).map fun b => (a, b)
theorem covTo_succ (zs : List Int) (k : Nat) : covTo zs (k + 1) = covTo zs k ++ (itemsL (coverTo zs k zs.length)).map fun b => (k, b) := by simp [covTo, List.range_succ]
theorem covTo_len {zs : List Int} : ∀ k : Nat, (covTo zs k).length ≤ 6 * k
  | 0 => by simp [covTo]
  | k + 1 => by
    have ih := covTo_len (zs := zs) k
    have h1 : (itemsL (coverTo zs k zs.length)).length ≤ 6 := Nat.le_trans (List.length_filter_le _ _) (by simp)
    rw [covTo_succ]
    simp
    omega
def coverB (zs : List Int) (p : Nat × Nat) : Bool := nextB zs p.1 p.2
theorem cov_pairs {zs : List Int} (h : Sets zs) : covTo zs zs.length = (pairsL zs).filter (coverB zs) := by
  have key : ∀ k, k ≤ zs.length → covTo zs k = (pairsTo zs k).filter (coverB zs) := fun k => by
    induction k with
    | zero => intro _; rfl
    | succ k ih =>
      intro hk
      rw [covTo_succ, pairsTo_succ, List.filter_append, ih (by omega), coverTo_items h (by omega), List.filter_map]
      rfl
  exact key _ (Nat.le_refl _)
def coversR (zs : List Int) : List (List Int) := if vo zs then (covTo zs zs.length).map rowOf else []
theorem pairs_len {zs : List Int} (h : zs.length ≤ 6) : (pairsL zs).length ≤ 36 := by
  have key : ∀ k, (pairsTo zs k).length ≤ 6 * k := fun k => by
    induction k with
    | zero => simp [pairsTo]
    | succ k ih =>
      have h1 : (itemsL (zs[k]?.getD 0)).length ≤ 6 := Nat.le_trans (List.length_filter_le _ _) (by simp)
      rw [pairsTo_succ]
      simp
      omega
  have := key zs.length
  unfold pairsL
  omega
def covAt (zs : List Int) (n a j : Nat) : List (List Int) := (covTo zs a).map rowOf ++ ((itemsL (coverTo zs a n)).take j).map fun b => rowOf (a, b)
theorem covAt_zero (zs : List Int) (n a : Nat) : covAt zs n a 0 = (covTo zs a).map rowOf := by simp [covAt]
theorem covAt_all {zs : List Int} {n a : Nat} (h : zs.length = n) : covAt zs n a (itemsL (coverTo zs a n)).length = (covTo zs (a + 1)).map rowOf := by
  subst h
  simp [covAt, covTo_succ, Function.comp_def]
theorem covAt_succ {zs : List Int} {n a j : Nat} (hj : j < (itemsL (coverTo zs a n)).length) : covAt zs n a j ++ [[(a : Int), ((itemsL (coverTo zs a n)).map fun x : Nat => (x : Int))[j]?.getD 0]] = covAt zs n a (j + 1) := by
  rw [covAt, covAt, List.take_succ_eq_append_getElem hj, List.map_append, ← List.append_assoc]
  simp [rowOf, hj]
theorem covAt_len {zs : List Int} {n a j : Nat} (ha : a < 6) : (covAt zs n a j).length ≤ 36 := by
  have h1 := covTo_len (zs := zs) a
  have h2 : (itemsL (coverTo zs a n)).length ≤ 6 := Nat.le_trans (List.length_filter_le _ _) (by simp)
  have h3 : ((itemsL (coverTo zs a n)).take j).length ≤ 6 := by rw [List.length_take]; omega
  simp only [covAt, List.length_append, List.length_map]
  omega

theorem own_lt {w : World} {B : Nat} {v : Value} {rs : List (List Int)} (h : Rowed w B v rs) : ∀ k, v.ownBlock = some k → k < w.heap.size := fun k hk => by
  obtain ⟨vs, h1, _⟩ := h
  obtain ⟨cs, hcs⟩ := own_block h1 k hk
  exact (Array.getElem?_eq_some_iff.1 hcs).1
theorem cell_new2 (w : World) (o : Obj) (e : TypeId) (u : Value) : ((w.alloc o).alloc (.cells #[u] e)).cell? ⟨w.heap.size + 1, 0, none⟩ = some u := by
  have h := cell_new (w.alloc o) e u
  rwa [World.size_alloc] at h
end Go.Proofs.YtiicffibhjeabaaDoor

/- Ideals, as plain mathematics: what is below a set, when a set is an ideal, and how both are found pair by pair. No program. -/
namespace Go.Proofs.YtiicffibhjeabaaDoor

/-- The set with all that is below its items less than k. -/
def belTo (ds : List Int) (s : Int) : Nat → Int
  | 0 => s
  | k + 1 => if bitB s k then orI (belTo ds s k) (ds[k]?.getD 0) else belTo ds s k
theorem belTo_yes {ds : List Int} {s : Int} {k : Nat} (h : bitB s k = true) : belTo ds s (k + 1) = orI (belTo ds s k) (ds[k]?.getD 0) := by simp [belTo, h]
theorem belTo_no {ds : List Int} {s : Int} {k : Nat} (h : bitB s k = false) : belTo ds s (k + 1) = belTo ds s k := by simp [belTo, h]
theorem belTo_bd {ds : List Int} (h : Sets ds) {s : Int} (h0 : 0 ≤ s) (h1 : s < powI ds.length) : ∀ k : Nat, k ≤ ds.length → 0 ≤ belTo ds s k ∧ belTo ds s k < powI ds.length
  | 0, _ => ⟨h0, h1⟩
  | k + 1, hk => by
    have ih := belTo_bd h h0 h1 k (by omega)
    have hz := h.2 k (by omega)
    unfold belTo
    split
    · exact orI_bd ih.1 ih.2 hz.1 hz.2
    · exact ih
theorem belTo_bit (ds : List Int) (s : Int) (j : Nat) : ∀ k : Nat, bitB (belTo ds s k) j = true ↔ bitB s j = true ∨ ∃ b : Nat, b < k ∧ bitB s b = true ∧ bitB (ds[b]?.getD 0) j = true
  | 0 => by simp [belTo]
  | k + 1 => by
    have ih := belTo_bit ds s j k
    cases hb : bitB s k
    · rw [belTo_no hb, ih]
      constructor
      · rintro (h | ⟨b, h1, h2⟩)
        · exact .inl h
        · exact .inr ⟨b, by omega, h2⟩
      · rintro (h | ⟨b, h1, h2, h3⟩)
        · exact .inl h
        · have : b ≠ k := fun e => by rw [e, hb] at h2; cases h2
          exact .inr ⟨b, by omega, h2, h3⟩
    · rw [belTo_yes hb, bitB_or, Bool.or_eq_true, ih]
      constructor
      · rintro ((h | ⟨b, h1, h2⟩) | h)
        · exact .inl h
        · exact .inr ⟨b, by omega, h2⟩
        · exact .inr ⟨k, by omega, hb, h⟩
      · rintro (h | ⟨b, h1, h2, h3⟩)
        · exact .inl (.inl h)
        · by_cases e : b = k
          · rw [e] at h3; exact .inr h3
          · exact .inl (.inr ⟨b, by omega, h2, h3⟩)
/-- The set with all that is below its items. -/
def belI (zs : List Int) (s : Int) : Int := belTo (du zs) s zs.length
theorem belI_bd {zs : List Int} (h : Sets zs) {s : Int} (h0 : 0 ≤ s) (h1 : s < powI zs.length) : 0 ≤ belI zs s ∧ belI zs s < powI zs.length := by
  have := belTo_bd (du_sets h) (s := s) h0 (by rw [du_len]; exact h1) zs.length (by rw [du_len]; exact Nat.le_refl _)
  rwa [du_len] at this
theorem belI_bit {zs : List Int} (h : Sets zs) {s : Int} (h1 : s < powI zs.length) (j : Nat) : bitB (belI zs s) j = true ↔ bitB s j = true ∨ ∃ b : Nat, bitB s b = true ∧ bitB (zs[j]?.getD 0) b = true := by
  unfold belI
  rw [belTo_bit]
  constructor
  · rintro (e | ⟨b, _, h2, h3⟩)
    · exact .inl e
    · exact .inr ⟨b, h2, by rwa [du_bit h] at h3⟩
  · rintro (e | ⟨b, h2, h3⟩)
    · exact .inl e
    · exact .inr ⟨b, bitB_lt h1 h2, h2, by rwa [du_bit h]⟩
/-- Whether the set is an ideal. -/
def idB (zs : List Int) (s : Int) : Bool := belI zs s == s
theorem idB_iff {zs : List Int} (h : Sets zs) {s : Int} (h0 : 0 ≤ s) (h1 : s < powI zs.length) : idB zs s = true ↔ ∀ a b : Nat, bitB s b = true → bitB (zs[a]?.getD 0) b = true → bitB s a = true := by
  unfold idB
  rw [beq_iff_eq]
  constructor
  · intro e a b h2 h3
    rw [← e]
    exact (belI_bit h h1 a).2 (.inr ⟨b, h2, h3⟩)
  · intro e
    refine bitB_ext (belI_bd h h0 h1).1 h0 fun j => ?_
    rw [Bool.eq_iff_iff, belI_bit h h1]
    constructor
    · rintro (e1 | ⟨b, h2, h3⟩)
      · exact e1
      · exact e j b h2 h3
    · exact .inl
/-- The model's test: the items less than k have all below them. -/
def idTo (ds : List Int) (s : Int) (k : Nat) : Bool := (List.range k).all fun a : Nat => !bitB s a || lessI (ds[a]?.getD 0) s == 0
theorem lessI_none {a b : Int} : lessI a b = 0 ↔ ∀ j : Nat, bitB a j = true → bitB b j = true := by
  constructor
  · intro h j hj
    have : bitB (lessI a b) j = false := by rw [h, bitB_zero]
    rw [bitB_less, hj] at this
    simpa using this
  · intro h
    refine bitB_ext (lessI_bd _ _).1 (Int.le_refl _) fun j => ?_
    rw [bitB_less, bitB_zero]
    cases e : bitB a j
    · rfl
    · rw [h j e]; rfl
theorem idTo_all {zs : List Int} (h : Sets zs) {s : Int} (h0 : 0 ≤ s) (h1 : s < powI zs.length) : idTo (du zs) s zs.length = idB zs s := by
  rw [Bool.eq_iff_iff, idB_iff h h0 h1]
  unfold idTo
  rw [List.all_eq_true]
  constructor
  · intro e a b h2 h3
    have hb := bitB_lt h1 h2
    have := e b (by simpa using hb)
    rw [h2] at this
    simp only [Bool.not_true, Bool.false_or, beq_iff_eq] at this
    exact lessI_none.1 this a (by rwa [du_bit h])
  · intro e b _
    cases h2 : bitB s b
    · rfl
    · simp only [Bool.not_true, Bool.false_or, beq_iff_eq]
      exact lessI_none.2 fun j hj => e j b h2 (by rwa [du_bit h] at hj)
theorem idTo_no {ds : List Int} {s : Int} {k n : Nat} (hk : k < n) (h1 : bitB s k = true) (h2 : (lessI (ds[k]?.getD 0) s == 0) = false) : idTo ds s n = false := by
  cases e : idTo ds s n
  · rfl
  · have := List.all_eq_true.1 e k (by simpa using hk)
    rw [h1, h2] at this; cases this
theorem idTo_succ {ds : List Int} {s : Int} {k : Nat} (h : idTo ds s k = true) (h2 : bitB s k = false ∨ (lessI (ds[k]?.getD 0) s == 0) = true) : idTo ds s (k + 1) = true := by
  unfold idTo at h ⊢
  rw [List.range_succ, List.all_append, h]
  rcases h2 with h2 | h2 <;> simp [h2]

/-- What is marked when a list of pairs is over. -/
def mkP (s : Int) (ps : List (Nat × Nat)) : Int := ps.foldl (fun (m : Int) (p : Nat × Nat) => if bitB m p.2 then orI m (powI p.1) else m) s
theorem mkP_yes {s : Int} {ps : List (Nat × Nat)} {a b : Nat} (h : bitB (mkP s ps) b = true) : mkP s (ps ++ [(a, b)]) = orI (mkP s ps) (powI a) := by
  unfold mkP at *
  rw [List.foldl_append]
  simp only [List.foldl_cons, List.foldl_nil]
  rw [if_pos h]
theorem mkP_no {s : Int} {ps : List (Nat × Nat)} {a b : Nat} (h : bitB (mkP s ps) b = false) : mkP s (ps ++ [(a, b)]) = mkP s ps := by
  unfold mkP at *
  rw [List.foldl_append]
  simp only [List.foldl_cons, List.foldl_nil]
  rw [if_neg (by rw [h]; decide)]
theorem mkP_bd {n : Nat} : ∀ (ps : List (Nat × Nat)) {s : Int}, (∀ p ∈ ps, p.1 < n) → 0 ≤ s → s < powI n → 0 ≤ mkP s ps ∧ mkP s ps < powI n
  | [], s, _, h0, h1 => ⟨h0, h1⟩
  | p :: ps, s, h, h0, h1 => by
    have e : mkP s (p :: ps) = mkP (if bitB s p.2 then orI s (powI p.1) else s) ps := rfl
    rw [e]
    have hp := h p (by simp)
    split
    · have := orI_bd (a := s) (b := powI p.1) (n := n) h0 h1 (Int.le_of_lt (powI_pos _)) (powI_lt hp)
      exact mkP_bd ps (fun q hq => h q (by simp [hq])) this.1 this.2
    · exact mkP_bd ps (fun q hq => h q (by simp [hq])) h0 h1
theorem mkP_inv {zs : List Int} (h : VoP zs) {s : Int} : ∀ (ps : List (Nat × Nat)) (m : Int), (∀ p ∈ ps, lt zs p.1 p.2) → (∀ j : Nat, bitB s j = true → bitB m j = true) →
    (∀ j : Nat, bitB m j = true → bitB s j = true ∨ ∃ b : Nat, bitB s b = true ∧ bitB (zs[j]?.getD 0) b = true) →
    (∀ j : Nat, bitB m j = true → bitB (mkP m ps) j = true) ∧ (∀ j : Nat, bitB (mkP m ps) j = true → bitB s j = true ∨ ∃ b : Nat, bitB s b = true ∧ bitB (zs[j]?.getD 0) b = true) ∧ ∀ p ∈ ps, bitB s p.2 = true → bitB (mkP m ps) p.1 = true
  | [], m, _, _, h2 => ⟨fun _ e => e, h2, fun p hp => by cases hp⟩
  | p :: ps, m, hp, h1, h2 => by
    have e : mkP m (p :: ps) = mkP (if bitB m p.2 then orI m (powI p.1) else m) ps := rfl
    rw [e]
    have hlt := hp p (by simp)
    cases hb : bitB m p.2
    · rw [if_neg (by decide)]
      obtain ⟨g1, g2, g3⟩ := mkP_inv h ps m (fun q hq => hp q (by simp [hq])) h1 h2
      refine ⟨g1, g2, fun q hq hs => ?_⟩
      rcases List.mem_cons.1 hq with rfl | hq
      · rw [h1 _ hs] at hb; cases hb
      · exact g3 q hq hs
    · rw [if_pos rfl]
      have hs1 : ∀ j : Nat, bitB m j = true → bitB (orI m (powI p.1)) j = true := fun j hj => by rw [bitB_or, hj]; rfl
      obtain ⟨g1, g2, g3⟩ := mkP_inv h ps (orI m (powI p.1)) (fun q hq => hp q (by simp [hq])) (fun j hj => hs1 j (h1 j hj)) (fun j hj => by
        rw [bitB_or, bitB_pow, Bool.or_eq_true, decide_eq_true_eq] at hj
        rcases hj with hj | rfl
        · exact h2 j hj
        · rcases h2 _ hb with hs | ⟨b, hs, hz⟩
          · exact .inr ⟨p.2, hs, hlt.2⟩
          · refine .inr ⟨b, hs, (h.trans hlt ⟨?_, hz⟩).2⟩
            rcases Nat.lt_or_ge p.2 zs.length with h1 | h1
            · exact h1
            · rw [List.getElem?_eq_none (by omega), Option.getD_none, bitB_zero] at hz; cases hz)
      refine ⟨fun j hj => g1 j (hs1 j hj), g2, fun q hq hs => ?_⟩
      rcases List.mem_cons.1 hq with rfl | hq
      · exact g1 _ (by rw [bitB_or, bitB_pow]; simp)
      · exact g3 q hq hs
theorem mkP_all {zs : List Int} (h : VoP zs) {s : Int} (h0 : 0 ≤ s) (h1 : s < powI zs.length) : mkP s (pairsL zs) = belI zs s := by
  obtain ⟨g1, g2, g3⟩ := mkP_inv h (s := s) (pairsL zs) s (fun p hp => by
    obtain ⟨ha, _, hb⟩ := mem_pairsL.1 (show (p.1, p.2) ∈ pairsL zs from hp)
    exact ⟨ha, hb⟩) (fun _ e => e) (fun _ e => .inl e)
  refine bitB_ext (mkP_bd (n := zs.length) _ (fun p hp => (mem_pairsL.1 (show (p.1, p.2) ∈ pairsL zs from hp)).1) h0 h1).1 (belI_bd h.sets h0 h1).1 fun j => ?_
  rw [Bool.eq_iff_iff, belI_bit h.sets h1]
  constructor
  · exact g2 j
  · rintro (e | ⟨b, hs, hz⟩)
    · exact g1 j e
    · refine g3 (j, b) (mem_pairsL.2 ⟨?_, ?_, hz⟩) hs
      · rcases Nat.lt_or_ge j zs.length with h1 | h1
        · exact h1
        · rw [List.getElem?_eq_none (by omega), Option.getD_none, bitB_zero] at hz; cases hz
      · have := bitB_lt h1 hs; have := h.1; omega

/-! What the functions answer. -/
def isIdealR (zs : List Int) (s : Int) : Bool := (vo zs && inB s 0 (powI zs.length - 1)) && idB zs s
def belowR (zs : List Int) (s : Int) : Int := if vo zs && inB s 0 (powI zs.length - 1) then belI zs s else -1
def nextI (zs : List Int) (s : Int) : Int := belI zs (topsTo (du zs) (powI zs.length - 1 - s) zs.length)
def nextR (zs : List Int) (s : Int) : Int := if isIdealR zs s then nextI zs s else -1
/-- The sets less than k for which p holds, ascending. -/
def setsTo (p : Int → Bool) (k : Nat) : List Int := ((List.range k).filter fun j : Nat => p (j : Int)).map fun j : Nat => (j : Int)
theorem setsTo_yes {p : Int → Bool} {k : Nat} (h : p (k : Int) = true) : setsTo p (k + 1) = setsTo p k ++ [(k : Int)] := by
  simp [setsTo, List.range_succ, h]
theorem setsTo_no {p : Int → Bool} {k : Nat} (h : p (k : Int) = false) : setsTo p (k + 1) = setsTo p k := by
  simp [setsTo, List.range_succ, h]
theorem setsTo_len (p : Int → Bool) (k : Nat) : (setsTo p k).length ≤ k := by
  unfold setsTo
  rw [List.length_map]
  exact Nat.le_trans (List.length_filter_le _ _) (by simp)
def idealsR (zs : List Int) : List Int := if vo zs then setsTo (idB zs) (2 ^ zs.length) else []
def apartsR (zs : List Int) : List Int := if vo zs then setsTo (apB zs) (2 ^ zs.length) else []
end Go.Proofs.YtiicffibhjeabaaDoor

/- Lines counted: no number is great; the table as it fills. No program. -/
namespace Go.Proofs.YtiicffibhjeabaaDoor

theorem sum_le {α : Type} {f : α → Nat} {c : Nat} : ∀ l : List α, (∀ x ∈ l, f x ≤ c) → (l.map f).sum ≤ l.length * c
  | [], _ => by simp
  | x :: l, h => by
    have h1 := h x (by simp)
    have h2 := sum_le l fun y hy => h y (by simp [hy])
    rw [List.map_cons, List.sum_cons, List.length_cons, Nat.add_mul]
    omega
theorem pop_sub_fin : ∀ s : Fin 64, ∀ a : Fin 6, s.val.testBit a.val = true → (popI ((s.val - 2 ^ a.val : Nat) : Int)).toNat + 1 = (popI (s.val : Int)).toNat := by decide +kernel
theorem pop_le_fin : ∀ s : Fin 64, (popI (s.val : Int)).toNat ≤ 6 := by decide +kernel
theorem cG_bd {zs : List Int} (h : VoP zs) : ∀ (k s : Nat), s ≤ k → s < 2 ^ zs.length → cG zs s ≤ 6 ^ (popI (s : Int)).toNat
  | 0, s, hk, _ => by
    obtain rfl : s = 0 := by omega
    rw [cG_zero]; decide
  | k + 1, s, hk, hN => by
    by_cases h0 : s = 0
    · exact cG_bd h k s (by omega) hN
    · have h6 := pow_le64 h.1
      have hn6 := h.1
      rw [cG_pos h0]
      obtain ⟨p, hp⟩ : ∃ p, (popI (s : Int)).toNat = p := ⟨_, rfl⟩
      have hle := sum_le (f := fun a => if eG zs s a then cG zs (s - 2 ^ a) else 0) (c := 6 ^ (p - 1)) (List.range zs.length) fun a ha => by
        have han := List.mem_range.1 ha
        cases he : eG zs s a
        · simp
        · have hb : s.testBit a = true := by unfold eG at he; rw [Bool.and_eq_true] at he; exact he.1
          have hge := ge_bit_fin ⟨s, by omega⟩ ⟨a, by omega⟩ hb
          simp only at hge
          have hpp := Nat.two_pow_pos a
          have ih := cG_bd h k (s - 2 ^ a) (by omega) (by omega)
          have hps := pop_sub_fin ⟨s, by omega⟩ ⟨a, by omega⟩ hb
          simp only at hps
          rw [hp] at hps
          simp only [if_true]
          rw [show p - 1 = (popI ((s - 2 ^ a : Nat) : Int)).toNat by omega]
          exact ih
      rw [List.length_range] at hle
      have hpos : 1 ≤ p := by
        rcases Nat.lt_or_ge 0 p with h1 | h1
        · exact h1
        · exfalso
          have : (popI (s : Int)).toNat = 0 := by omega
          have key : ∀ t : Fin 64, (popI (t.val : Int)).toNat = 0 → t.val = 0 := by decide +kernel
          exact h0 (key ⟨s, by omega⟩ this)
      rw [hp]
      have e : 6 ^ p = 6 * 6 ^ (p - 1) := by rw [← Nat.pow_succ']; congr 1; omega
      rw [e]
      exact Nat.le_trans hle (Nat.mul_le_mul_right _ hn6)
theorem cG_le {zs : List Int} (h : VoP zs) {s : Nat} (hN : s < 2 ^ zs.length) : cG zs s ≤ 46656 := by
  have h6 := pow_le64 h.1
  have h1 := cG_bd h s s (Nat.le_refl _) hN
  have h2 := pop_le_fin ⟨s, by omega⟩
  simp only at h2
  have h3 : 6 ^ (popI (s : Int)).toNat ≤ 6 ^ 6 := Nat.pow_le_pow_right (by decide) h2
  omega
/-- What is summed up of the items less than a. -/
def pg (zs : List Int) (s a : Nat) : Nat := ((List.range a).map fun b => if eG zs s b then cG zs (s - 2 ^ b) else 0).sum
theorem pg_succ (zs : List Int) (s a : Nat) : pg zs s (a + 1) = pg zs s a + (if eG zs s a then cG zs (s - 2 ^ a) else 0) := by
  unfold pg
  rw [List.range_succ, List.map_append, List.sum_append]
  simp
theorem pg_le (zs : List Int) (s : Nat) : ∀ d a : Nat, pg zs s a ≤ pg zs s (a + d)
  | 0, _ => Nat.le_refl _
  | d + 1, a => by
    have := pg_le zs s d a
    rw [show a + (d + 1) = a + d + 1 by omega, pg_succ]
    omega
theorem pg_all {zs : List Int} {s : Nat} (h : s ≠ 0) : pg zs s zs.length = cG zs s := (cG_pos h).symm
theorem pg_bd {zs : List Int} (h : VoP zs) {s a : Nat} (h0 : s ≠ 0) (hN : s < 2 ^ zs.length) (ha : a ≤ zs.length) : pg zs s a ≤ 46656 := by
  have h1 := pg_le zs s (zs.length - a) a
  rw [show a + (zs.length - a) = zs.length by omega, pg_all h0] at h1
  have := cG_le h hN
  omega
def tab (zs : List Int) (s p : Nat) : List Int := (List.range (2 ^ zs.length)).map fun i => if i < s then (cG zs i : Int) else if i = s then (p : Int) else 0
theorem tab_len (zs : List Int) (s p : Nat) : (tab zs s p).length = 2 ^ zs.length := by simp [tab]
theorem tab_get {zs : List Int} {s p i : Nat} (hi : i < 2 ^ zs.length) : (tab zs s p)[i]?.getD 0 = if i < s then (cG zs i : Int) else if i = s then (p : Int) else 0 := by simp [tab, hi]
theorem tab_set {zs : List Int} {s p q : Nat} : (tab zs s p).set s (q : Int) = tab zs s q := by
  refine List.ext_getElem (by simp [tab]) fun i h1 h2 => ?_
  rw [List.length_set, tab_len] at h1
  by_cases hi : s = i
  · subst hi
    rw [List.getElem_set_self]
    simp [tab]
  · rw [List.getElem_set_ne hi]
    have : ¬ i = s := fun e => hi e.symm
    simp [tab, this]
theorem tab_next (zs : List Int) (s : Nat) : tab zs s (cG zs s) = tab zs (s + 1) 0 := by
  unfold tab
  refine List.map_congr_left fun i _ => ?_
  by_cases h1 : i < s
  · rw [if_pos h1, if_pos (by omega)]
  · by_cases h2 : i = s
    · subst h2
      rw [if_neg h1, if_pos rfl, if_pos (by omega)]
    · rw [if_neg h1, if_neg h2, if_neg (by omega)]
      by_cases h3 : i = s + 1
      · rw [if_pos h3]; rfl
      · rw [if_neg h3]
theorem tab_start (zs : List Int) : (List.replicate (2 ^ zs.length) (0 : Int)).set 0 1 = tab zs 1 0 := by
  refine List.ext_getElem (by simp [tab]) fun i h1 h2 => ?_
  by_cases hi : 0 = i
  · subst hi
    rw [List.getElem_set_self]
    simp [tab, cG_zero]
  · rw [List.getElem_set_ne hi]
    simp [tab]
    intro h; omega
/-- In how many ways an order is lined up. -/
def linesR (zs : List Int) : Int := if vo zs then (cG zs (2 ^ zs.length - 1) : Int) else -1
end Go.Proofs.YtiicffibhjeabaaDoor

/- Lines counted of what is left: the sum over the items that may come next; bounds. No program. -/
namespace Go.Proofs.YtiicffibhjeabaaDoor

theorem cF_bd {zs : List Int} (h : VoP zs) : ∀ (k s : Nat), s ≤ k → s < 2 ^ zs.length → cF zs s ≤ 6 ^ (popI (s : Int)).toNat
  | k, s, hk, hN => by
    by_cases h0 : s = 0
    · subst h0
      rw [cF_zero]
      exact Nat.pos_of_ne_zero (by have := Nat.pow_pos (n := (popI ((0 : Nat) : Int)).toNat) (show 0 < 6 by omega); omega)
    · cases k with
      | zero => omega
      | succ k =>
        have h64 := Nat.lt_of_lt_of_le hN (pow_le64 h.1)
        have hn6 := h.1
        rw [cF_pos h0]
        have key : ∀ x ∈ List.range zs.length, (if eF zs s x then cF zs (s - 2 ^ x) else 0) ≤ 6 ^ ((popI (s : Int)).toNat - 1) := fun x hx => by
          have hxn : x < zs.length := by simpa using hx
          split
          · rename_i he
            unfold eF at he
            rw [Bool.and_eq_true] at he
            have hp := pop_sub_fin ⟨s, h64⟩ ⟨x, by omega⟩ he.1
            have hge := ge_bit_fin ⟨s, h64⟩ ⟨x, by omega⟩ he.1
            have hpos := Nat.two_pow_pos x
            have ih := cF_bd h k (s - 2 ^ x) (by simp only at hge; omega) (by omega)
            simp only at hp
            rw [show (popI (s : Int)).toNat - 1 = (popI ((s - 2 ^ x : Nat) : Int)).toNat by omega]
            exact ih
          · exact Nat.zero_le _
        have h1 := sum_le _ key
        have hpp : 1 ≤ (popI (s : Int)).toNat := by
          rcases Nat.lt_or_ge 0 (popI (s : Int)).toNat with h | h
          · exact h
          · exact absurd (pop_zero_fin ⟨s, h64⟩ (by simp only; omega)) h0
        rw [List.length_range] at h1
        have h2 : zs.length * 6 ^ ((popI (s : Int)).toNat - 1) ≤ 6 * 6 ^ ((popI (s : Int)).toNat - 1) := Nat.mul_le_mul_right _ h.1
        have h3 : 6 * 6 ^ ((popI (s : Int)).toNat - 1) = 6 ^ (popI (s : Int)).toNat := by
          rw [← Nat.pow_succ']; exact congrArg (6 ^ ·) (by omega)
        omega
where pop_zero_fin : ∀ s : Fin 64, (popI (s.val : Int)).toNat = 0 → s.val = 0 := by decide +kernel
theorem cF_le {zs : List Int} (h : VoP zs) {s : Nat} (hN : s < 2 ^ zs.length) : cF zs s ≤ 46656 := by
  have h64 := Nat.lt_of_lt_of_le hN (pow_le64 h.1)
  have h1 := cF_bd h s s (Nat.le_refl _) hN
  have h2 := pop_le_fin ⟨s, h64⟩
  exact Nat.le_trans h1 (Nat.pow_le_pow_right (n := 6) (by omega) h2)
/-- The items that may come next, and the sum over them. -/
def nextL (zs : List Int) (s : Nat) : List Nat := itemsL (topsTo (du zs) (s : Int) zs.length)
theorem nextL_is {zs : List Int} (h : VoP zs) (s : Nat) : nextL zs s = (List.range zs.length).filter (eF zs s) := by
  have hb := topsTo_bd (du zs) (s : Int) zs.length
  unfold nextL
  rw [← itemsTo_all hb.2 h.1]
  unfold itemsTo
  refine List.filter_congr fun a ha => ?_
  have han : a < zs.length := by simpa using ha
  rw [Bool.eq_iff_iff, topsTo_bit, bit_cast]
  unfold eF
  simp [han]
theorem nextL_mem {zs : List Int} (h : VoP zs) {s x : Nat} (hx : x ∈ nextL zs s) : x < zs.length ∧ s.testBit x = true := by
  rw [nextL_is h, List.mem_filter] at hx
  unfold eF at hx
  rw [Bool.and_eq_true] at hx
  exact ⟨by simpa using hx.1, hx.2.1⟩
/-- What has been counted when the items of a list are over. -/
def accF (zs : List Int) (s : Nat) (l : List Nat) : Nat := (l.map fun a => cF zs (s - 2 ^ a)).sum
theorem accF_snoc (zs : List Int) (s : Nat) (l : List Nat) (x : Nat) : accF zs s (l ++ [x]) = accF zs s l + cF zs (s - 2 ^ x) := by simp [accF]
theorem accF_all {zs : List Int} (h : VoP zs) {s : Nat} (h0 : s ≠ 0) : accF zs s (nextL zs s) = cF zs s := by
  rw [cF_pos h0, sum_if, nextL_is h]
  rfl
theorem accF_le {zs : List Int} (h : VoP zs) {s : Nat} (h0 : s ≠ 0) (hN : s < 2 ^ zs.length) {l : List Nat} (hl : l <+: nextL zs s) : accF zs s l ≤ 46656 := by
  obtain ⟨t, ht⟩ := hl
  have h1 := accF_all h h0
  have h2 := cF_le h hN
  rw [← ht] at h1
  unfold accF at h1 ⊢
  rw [List.map_append, List.sum_append] at h1
  omega
theorem nextL_len {zs : List Int} (h : VoP zs) (s : Nat) : (nextL zs s).length ≤ 6 := by
  rw [nextL_is h]
  have := List.length_filter_le (eF zs s) (List.range zs.length)
  have := h.1
  rw [List.length_range] at *
  omega
theorem without_fin : ∀ s : Fin 64, ∀ a : Fin 6, s.val.testBit a.val = true → lessI (s.val : Int) (powI (a.val : Int)) = ((s.val - 2 ^ a.val : Nat) : Int) := by decide +kernel
theorem without_is {s a : Nat} (hs : s < 64) (ha : a < 6) (hb : s.testBit a = true) : lessI (s : Int) (powI (a : Int)) = ((s - 2 ^ a : Nat) : Int) := without_fin ⟨s, hs⟩ ⟨a, ha⟩ hb
/-- How often the map is written at most. -/
def writes (s : Nat) : Nat := 7 ^ (popI (s : Int)).toNat
theorem writes_sub {s a : Nat} (hs : s < 64) (ha : a < 6) (hb : s.testBit a = true) : 7 * writes (s - 2 ^ a) = writes s := by
  have hp := pop_sub_fin ⟨s, hs⟩ ⟨a, ha⟩ hb
  simp only at hp
  unfold writes
  rw [← hp, Nat.pow_succ, Nat.mul_comm]
theorem writes_le {s : Nat} (hs : s < 64) : 1 ≤ writes s ∧ writes s ≤ 117649 := by
  have h := pop_le_fin ⟨s, hs⟩
  exact ⟨Nat.pow_pos (by omega), Nat.pow_le_pow_right (n := 7) (by omega) h⟩
end Go.Proofs.YtiicffibhjeabaaDoor

/- IsChain and IsApart: the model's and the program's. -/
namespace Go.Proofs.YtiicffibhjeabaaDoor
open Go.RowKit

def isChainR (zs : List Int) (s : Int) : Bool := (vo zs && inB s 0 (powI zs.length - 1)) && chB zs s
def isApartR (zs : List Int) (s : Int) : Bool := (vo zs && inB s 0 (powI zs.length - 1)) && apB zs s

end Go.Proofs.YtiicffibhjeabaaDoor

/- Chains and sets apart: what is left of them, and when a chain is apart. No program. -/
namespace Go.Proofs.YtiicffibhjeabaaDoor

theorem isChain_is {zs : List Int} {s : Int} (h : VoP zs) (h0 : 0 ≤ s) (h1 : s < powI zs.length) : isChainR zs s = chB zs s := by
  unfold isChainR inB
  rw [vo_true h, decide_eq_true (show (0 : Int) ≤ s ∧ s ≤ powI zs.length - 1 by omega)]
  rfl
theorem isApart_is {zs : List Int} {s : Int} (h : VoP zs) (h0 : 0 ≤ s) (h1 : s < powI zs.length) : isApartR zs s = apB zs s := by
  unfold isApartR inB
  rw [vo_true h, decide_eq_true (show (0 : Int) ≤ s ∧ s ≤ powI zs.length - 1 by omega)]
  rfl
theorem isChain_parts {zs : List Int} {s : Int} (h : isChainR zs s = true) : VoP zs ∧ (0 ≤ s ∧ s < powI zs.length) ∧ chB zs s = true := by
  unfold isChainR at h
  rw [Bool.and_eq_true, Bool.and_eq_true] at h
  obtain ⟨⟨h1, h2⟩, h3⟩ := h
  have h2' : (0 : Int) ≤ s ∧ s ≤ powI zs.length - 1 := by simpa [inB] using h2
  exact ⟨by simpa [vo] using h1, ⟨h2'.1, by omega⟩, h3⟩
theorem isApart_parts {zs : List Int} {s : Int} (h : isApartR zs s = true) : VoP zs ∧ (0 ≤ s ∧ s < powI zs.length) ∧ apB zs s = true := by
  unfold isApartR at h
  rw [Bool.and_eq_true, Bool.and_eq_true] at h
  obtain ⟨⟨h1, h2⟩, h3⟩ := h
  have h2' : (0 : Int) ≤ s ∧ s ≤ powI zs.length - 1 := by simpa [inB] using h2
  exact ⟨by simpa [vo] using h1, ⟨h2'.1, by omega⟩, h3⟩
theorem chB_sub {zs : List Int} {s t : Int} (h1 : s < 64) (h2 : t < 64) (hs : ∀ j : Nat, bitB t j = true → bitB s j = true) (h : chB zs s = true) : chB zs t = true := by
  unfold chB at *
  rw [decide_eq_true_eq] at *
  rw [ChP_iff h2]
  intro a b ha hb hab
  exact (ChP_iff h1).1 h a b (hs a ha) (hs b hb) hab
theorem apB_sub {zs : List Int} {s t : Int} (h1 : s < 64) (h2 : t < 64) (hs : ∀ j : Nat, bitB t j = true → bitB s j = true) (h : apB zs s = true) : apB zs t = true :=
  (apB_iff h2).2 fun a b ha hb => (apB_iff h1).1 h a b (hs a ha) (hs b hb)
/-- The set without its least item, as the program's 's & (s-1)'. -/
theorem less_one {n : Nat} {s : Int} (h0 : 0 ≤ s) (h1 : s < powI n) (hn : n ≤ 6) : ∃ t, bits .and .i64 s (s - 1) = t ∧ 0 ≤ t ∧ t < powI n ∧ ∀ j : Nat, bitB t j = true → bitB s j = true := by
  have hp := powI_le6 (n := (n : Int)) (by omega)
  by_cases hs : s = 0
  · subst hs
    exact ⟨0, by decide, by omega, by omega, fun _ e => e⟩
  · have hb := andI_bd s (s - 1)
    exact ⟨andI s (s - 1), bits_and (by omega) (by omega) (by omega) (by omega), hb.1, by omega, fun j e => by rw [bitB_and, Bool.and_eq_true] at e; exact e.1⟩
theorem du_isChain {zs : List Int} {s : Int} (h : VoP zs) (h0 : 0 ≤ s) (h1 : s < powI zs.length) : isChainR (du zs) s = chB zs s := by
  rw [isChain_is (du_vo h) h0 (by rw [du_len]; exact h1), du_chB h.sets]
theorem du_isApart {zs : List Int} {s : Int} (h : VoP zs) (h0 : 0 ≤ s) (h1 : s < powI zs.length) : isApartR (du zs) s = apB zs s := by
  have hp := powI_le6 (n := (zs.length : Int)) (by have := h.1; omega)
  rw [isApart_is (du_vo h) h0 (by rw [du_len]; exact h1), du_apB h.sets (by omega)]
theorem chain_apart {zs : List Int} {s : Int} (h : VoP zs) (h0 : 0 ≤ s) (h1 : s < powI zs.length) (hc : chB zs s = true) : apB zs s = decide (popI s ≤ 1) := by
  have hp := powI_le6 (n := (zs.length : Int)) (by have := h.1; omega)
  have h64 : s < 64 := by omega
  rw [popI_items h0 h64]
  have hs := itemsL_sorted s
  have hm : ∀ j : Nat, j ∈ itemsL s ↔ bitB s j = true := fun j => mem_itemsL h64
  have hc' : ChP zs s := of_decide_eq_true hc
  unfold ChP at hc'
  clear hc
  match hl : itemsL s with
  | [] =>
    rw [hl] at hm
    have : apB zs s = true := (apB_iff h64).2 fun a b ha hb => by have := (hm a).2 ha; simp at this
    rw [this]; rfl
  | [x] =>
    rw [hl] at hm
    have : apB zs s = true := (apB_iff h64).2 fun a b ha hb => by
      have e1 := (hm a).2 ha
      have e2 := (hm b).2 hb
      simp only [List.mem_singleton] at e1 e2
      subst e1; subst e2
      exact h.irrB (bitB_lt h1 ha)
    rw [this]; rfl
  | x :: y :: l =>
    rw [hl] at hc' hs hm
    have hr : relB zs x y = true := (List.pairwise_cons.1 hc').1 y (by simp)
    have hx := (hm x).1 (by simp)
    have hy := (hm y).1 (by simp)
    have hno : apB zs s = false := by
      cases e : apB zs s
      · rfl
      · have ha := (apB_iff h64).1 e
        unfold relB at hr
        rw [ha x y hx hy, ha y x hy hx] at hr
        cases hr
    rw [hno, decide_eq_false]
    simp only [List.length_cons]
    omega
theorem apart_le {zs : List Int} {s : Int} (h : VoP zs) (h0 : 0 ≤ s) (h1 : s < powI zs.length) (ha : apB zs s = true) : popI s ≤ wideR zs := by
  unfold wideR
  rw [vo_true h]
  obtain ⟨j, rfl⟩ := Int.eq_ofNat_of_zero_le h0
  have hN := setsN_pow zs
  exact grTo_ge ha (setsN zs) (by omega)
end Go.Proofs.YtiicffibhjeabaaDoor

/- The order of some items alone, numbered anew: it is an order, and is lined up in as many ways as they are. No program. -/
namespace Go.Proofs.YtiicffibhjeabaaDoor

theorem inc_ext : ∀ (l m : List Nat), l.Pairwise (· < ·) → m.Pairwise (· < ·) → (∀ a, a ∈ l ↔ a ∈ m) → l = m
  | [], [], _, _, _ => rfl
  | [], b :: m, _, _, h => by have := (h b).2 (by simp); cases this
  | a :: l, [], _, _, h => by have := (h a).1 (by simp); cases this
  | a :: l, b :: m, hl, hm, h => by
    rw [List.pairwise_cons] at hl hm
    have hab : a = b := by
      rcases List.mem_cons.1 ((h a).1 (by simp)) with e | e
      · exact e
      · rcases List.mem_cons.1 ((h b).2 (by simp)) with e2 | e2
        · exact e2.symm
        · have := hm.1 a e; have := hl.1 b e2; omega
    subst hab
    rw [inc_ext l m hl.2 hm.2 fun x => ?_]
    have hx := h x
    rw [List.mem_cons, List.mem_cons] at hx
    constructor
    · intro e
      rcases hx.1 (.inr e) with e2 | e2
      · have := hl.1 x e; omega
      · exact e2
    · intro e
      rcases hx.2 (.inr e) with e2 | e2
      · have := hm.1 x e; omega
      · exact e2
theorem range_inc (n : Nat) : (List.range n).Pairwise (· < ·) := List.pairwise_lt_range
/-- The numbers of z that l lists, by their places in l, up to k. -/
def rowTo (z : Int) (l : List Nat) : Nat → Int
  | 0 => 0
  | k + 1 => orI (rowTo z l k) (bitI z (l[k]?.getD 0) * powI k)
theorem bitI_mul (z j : Int) (k : Nat) : bitI z j * powI k = if bitB z j then powI k else 0 := by
  unfold bitI; split <;> simp
theorem rowTo_bd (z : Int) (l : List Nat) : ∀ k : Nat, 0 ≤ rowTo z l k ∧ rowTo z l k < powI k
  | 0 => by simp [rowTo, powI]
  | k + 1 => by
    have h := rowTo_bd z l k
    have hp : powI (k : Int) < powI ((k + 1 : Nat) : Int) := powI_lt (by omega)
    have h0 := powI_pos (k : Int)
    have h1 := powI_pos ((k + 1 : Nat) : Int)
    unfold rowTo
    rw [bitI_mul]
    split
    · exact orI_bd h.1 (by omega) (Int.le_of_lt h0) hp
    · exact orI_bd h.1 (by omega) (Int.le_refl _) h1
theorem rowTo_bit (z : Int) (l : List Nat) (j : Nat) : ∀ k : Nat, bitB (rowTo z l k) j = true ↔ j < k ∧ bitB z ((l[j]?.getD 0 : Nat) : Int) = true
  | 0 => by simp [rowTo, bitB_zero]
  | k + 1 => by
    unfold rowTo
    rw [bitI_mul, bitB_or, Bool.or_eq_true, rowTo_bit z l j k]
    have h2 : bitB (if bitB z ((l[k]?.getD 0 : Nat) : Int) then powI (k : Int) else 0) j = true ↔ j = k ∧ bitB z ((l[j]?.getD 0 : Nat) : Int) = true := by
      split
      · rename_i hb
        rw [bitB_pow, decide_eq_true_eq]
        constructor
        · rintro rfl; exact ⟨rfl, hb⟩
        · rintro ⟨rfl, _⟩; rfl
      · rename_i hb
        rw [bitB_zero]
        constructor
        · intro e; cases e
        · rintro ⟨rfl, e⟩; exact absurd e hb
    rw [h2]
    constructor
    · rintro (⟨h, e⟩ | ⟨rfl, e⟩)
      · exact ⟨by omega, e⟩
      · exact ⟨by omega, e⟩
    · rintro ⟨h, e⟩
      by_cases hjk : j = k
      · exact .inr ⟨hjk, e⟩
      · exact .inl ⟨by omega, e⟩
/-- The order of the items of l alone. -/
def ind (zs : List Int) (l : List Nat) : List Int := l.map fun a => rowTo (zs[a]?.getD 0) l l.length
theorem ind_len (zs : List Int) (l : List Nat) : (ind zs l).length = l.length := by simp [ind]
theorem ind_bit {zs : List Int} {l : List Nat} {i j : Nat} (hi : i < l.length) : bitB ((ind zs l)[i]?.getD 0) j = true ↔ j < l.length ∧ bitB (zs[l[i]?.getD 0]?.getD 0) ((l[j]?.getD 0 : Nat) : Int) = true := by
  have e : (ind zs l)[i]?.getD 0 = rowTo (zs[l[i]?.getD 0]?.getD 0) l l.length := by
    unfold ind
    rw [List.getElem?_map, List.getElem?_eq_getElem hi]
    rfl
  rw [e, rowTo_bit]
/-- A list of items of the order, ascending. -/
structure Inc (zs : List Int) (l : List Nat) : Prop where
  inc : l.Pairwise (· < ·)
  lt : ∀ a ∈ l, a < zs.length
theorem Inc.at_lt {zs : List Int} {l : List Nat} (h : Inc zs l) {i : Nat} (hi : i < l.length) : l[i]?.getD 0 < zs.length := by
  rw [List.getElem?_eq_getElem hi]
  exact h.lt _ (List.getElem_mem hi)
theorem Inc.at_inc {zs : List Int} {l : List Nat} (h : Inc zs l) {i j : Nat} (hij : i < j) (hj : j < l.length) : l[i]?.getD 0 < l[j]?.getD 0 := by
  rw [List.getElem?_eq_getElem hj, List.getElem?_eq_getElem (by omega)]
  exact List.pairwise_iff_getElem.1 h.inc i j (by omega) hj hij
theorem Inc.at_inj {zs : List Int} {l : List Nat} (h : Inc zs l) {i j : Nat} (hi : i < l.length) (hj : j < l.length) (e : l[i]?.getD 0 = l[j]?.getD 0) : i = j := by
  rcases Nat.lt_trichotomy i j with h1 | h1 | h1
  · have := h.at_inc h1 hj; omega
  · exact h1
  · have := h.at_inc h1 hi; omega
theorem Inc.len_le {zs : List Int} {l : List Nat} (h : Inc zs l) : l.length ≤ zs.length := pigeon zs.length l (h.inc.imp fun h => by omega) h.lt
theorem ind_lt {zs : List Int} {l : List Nat} (h : Inc zs l) {i j : Nat} : lt (ind zs l) i j ↔ i < l.length ∧ j < l.length ∧ lt zs (l[i]?.getD 0) (l[j]?.getD 0) := by
  unfold lt
  rw [ind_len]
  constructor
  · rintro ⟨h1, h2⟩
    have := (ind_bit h1).1 h2
    exact ⟨h1, this.1, h.at_lt h1, this.2⟩
  · rintro ⟨h1, h2, _, h3⟩
    exact ⟨h1, (ind_bit h1).2 ⟨h2, h3⟩⟩
theorem ind_vo {zs : List Int} (h : VoP zs) {l : List Nat} (hl : Inc zs l) : VoP (ind zs l) := by
  have h6 := h.1
  have hle := hl.len_le
  refine ⟨by rw [ind_len]; omega, fun a ha => ?_, fun a ha b hb => ?_⟩
  · rw [ind_len] at ha ⊢
    have e : (ind zs l)[a]?.getD 0 = rowTo (zs[l[a]?.getD 0]?.getD 0) l l.length := by
      unfold ind; rw [List.getElem?_map, List.getElem?_eq_getElem ha]; rfl
    have hb := rowTo_bd (zs[l[a]?.getD 0]?.getD 0) l l.length
    have h2 : bitB ((ind zs l)[a]?.getD 0) a = false := by
      cases e2 : bitB ((ind zs l)[a]?.getD 0) a
      · rfl
      · have := (ind_lt hl).1 (⟨by rw [ind_len]; exact ha, e2⟩ : lt (ind zs l) a a)
        exact absurd this.2.2 h.irr
    unfold okA inB
    rw [h2, e]
    simp only [Bool.not_false, Bool.and_true, decide_eq_true_eq]
    omega
  · rw [ind_len] at ha hb
    unfold okP
    cases e : bitB ((ind zs l)[a]?.getD 0) b
    · rfl
    · have hab := (ind_lt hl).1 (⟨by rw [ind_len]; exact ha, e⟩ : lt (ind zs l) a b)
      have h1 : lessI ((ind zs l)[b]?.getD 0) ((ind zs l)[a]?.getD 0) = 0 := by
        refine bitB_ext (lessI_bd _ _).1 (Int.le_refl _) fun j => ?_
        rw [bitB_less, bitB_zero]
        cases e1 : bitB ((ind zs l)[b]?.getD 0) j
        · rfl
        · have hbj := (ind_lt hl).1 (⟨by rw [ind_len]; exact hb, e1⟩ : lt (ind zs l) b j)
          have := ((ind_lt hl).2 ⟨ha, hbj.2.1, h.trans hab.2.2 hbj.2.2⟩).2
          rw [this]; rfl
      have h2 : bitB ((ind zs l)[b]?.getD 0) a = false := by
        cases e2 : bitB ((ind zs l)[b]?.getD 0) a
        · rfl
        · have hba := (ind_lt hl).1 (⟨by rw [ind_len]; exact hb, e2⟩ : lt (ind zs l) b a)
          exact absurd (h.trans hab.2.2 hba.2.2) h.irr
      rw [h1, h2]; rfl

/-- The items of zs that a set of places of l tells. -/
def exTo (l : List Nat) (t : Nat) : Nat → Nat
  | 0 => 0
  | k + 1 => exTo l t k ||| (if t.testBit k then 2 ^ (l[k]?.getD 0) else 0)
theorem exTo_bit (l : List Nat) (t a : Nat) : ∀ k : Nat, (exTo l t k).testBit a = true ↔ ∃ i, i < k ∧ t.testBit i = true ∧ l[i]?.getD 0 = a
  | 0 => by simp [exTo]
  | k + 1 => by
    unfold exTo
    rw [Nat.testBit_or, Bool.or_eq_true, exTo_bit l t a k]
    have h2 : (if t.testBit k then 2 ^ (l[k]?.getD 0) else 0).testBit a = true ↔ t.testBit k = true ∧ l[k]?.getD 0 = a := by
      split
      · rename_i hb; rw [Nat.testBit_two_pow, decide_eq_true_eq]; simp [hb]
      · rename_i hb; simp [hb]
    rw [h2]
    constructor
    · rintro (⟨i, hi, e⟩ | e)
      · exact ⟨i, by omega, e⟩
      · exact ⟨k, by omega, e⟩
    · rintro ⟨i, hi, e⟩
      by_cases hik : i = k
      · subst hik; exact .inr e
      · exact .inl ⟨i, by omega, e⟩
def ex (l : List Nat) (t : Nat) : Nat := exTo l t l.length
theorem ex_lt {zs : List Int} {l : List Nat} (h : Inc zs l) (t : Nat) : ex l t < 2 ^ zs.length := Nat.lt_pow_two_of_testBit _ fun i hi => by
  cases e : (ex l t).testBit i
  · rfl
  · obtain ⟨k, hk, _, e2⟩ := (exTo_bit l t i l.length).1 e
    have := h.at_lt hk; omega
theorem ex_at {zs : List Int} {l : List Nat} (h : Inc zs l) {t k : Nat} (hk : k < l.length) : (ex l t).testBit (l[k]?.getD 0) = t.testBit k := by
  rw [Bool.eq_iff_iff]
  unfold ex
  rw [exTo_bit]
  constructor
  · rintro ⟨i, hi, e, e2⟩
    rw [← h.at_inj hi hk e2]; exact e
  · intro e; exact ⟨k, hk, e, rfl⟩
theorem sub_bits {s a j : Nat} (hs : s < 64) (ha : a < 6) (hb : s.testBit a = true) : (s - 2 ^ a).testBit j = (s.testBit j && !decide (a = j)) := by
  have hpa := Nat.two_pow_pos a
  rcases Nat.lt_or_ge j 6 with hj | hj
  · exact sub_bit_fin ⟨s, hs⟩ ⟨a, ha⟩ ⟨j, hj⟩ hb
  · have h1 : s.testBit j = false := Nat.testBit_lt_two_pow (Nat.lt_of_lt_of_le (show s < 2 ^ 6 by omega) (Nat.pow_le_pow_right (by decide) hj))
    have h2 : (s - 2 ^ a).testBit j = false := Nat.testBit_lt_two_pow (Nat.lt_of_lt_of_le (show s - 2 ^ a < 2 ^ 6 by omega) (Nat.pow_le_pow_right (by decide) hj))
    rw [h1, h2]; rfl
theorem ex_sub {zs : List Int} (h6 : zs.length ≤ 6) {l : List Nat} (h : Inc zs l) {t k : Nat} (ht : t < 64) (hk : k < l.length) (hb : t.testBit k = true) : ex l (t - 2 ^ k) = ex l t - 2 ^ (l[k]?.getD 0) := by
  have hle := h.len_le
  have hx : ex l t < 64 := Nat.lt_of_lt_of_le (ex_lt h t) (pow_le64 h6)
  have hlk := h.at_lt hk
  refine Nat.eq_of_testBit_eq fun a => ?_
  rw [sub_bits hx (show l[k]?.getD 0 < 6 by omega) (by rw [ex_at h hk]; exact hb), Bool.eq_iff_iff]
  unfold ex
  rw [exTo_bit, Bool.and_eq_true, exTo_bit, Bool.not_eq_true', decide_eq_false_iff_not]
  constructor
  · rintro ⟨i, hi, e, rfl⟩
    rw [sub_bits ht (by omega) hb, Bool.and_eq_true, Bool.not_eq_true', decide_eq_false_iff_not] at e
    exact ⟨⟨i, hi, e.1, rfl⟩, fun e2 => e.2 (h.at_inj hk hi e2)⟩
  · rintro ⟨⟨i, hi, e, rfl⟩, e2⟩
    refine ⟨i, hi, ?_, rfl⟩
    rw [sub_bits ht (by omega) hb, e]
    have hne : ¬ k = i := fun e3 => e2 (by rw [e3])
    simp [hne]
theorem ex_zero (l : List Nat) : ex l 0 = 0 := Nat.eq_of_testBit_eq fun a => by
  rw [Bool.eq_iff_iff]
  unfold ex
  rw [exTo_bit]
  simp
theorem eF_iff {zs : List Int} (h : VoP zs) {s a : Nat} : eF zs s a = true ↔ s.testBit a = true ∧ ∀ b, s.testBit b = true → bitB (zs[b]?.getD 0) a = false := by
  unfold eF
  rw [Bool.and_eq_true, beq_iff_eq, andI_zero]
  constructor
  · rintro ⟨h1, h2⟩
    exact ⟨h1, fun b hb => by have := h2 b (by rw [bit_cast]; exact hb); rwa [du_bit h.sets] at this⟩
  · rintro ⟨h1, h2⟩
    exact ⟨h1, fun b hb => by rw [du_bit h.sets]; exact h2 b (by rwa [bit_cast] at hb)⟩
theorem bit_none' {zs : List Int} {a b : Nat} (h : bitB (zs[a]?.getD 0) b = true) : a < zs.length := by
  rcases Nat.lt_or_ge a zs.length with h1 | h1
  · exact h1
  · rw [List.getElem?_eq_none (by omega), Option.getD_none, bitB_zero] at h; cases h
theorem next_ind {zs : List Int} (h : VoP zs) {l : List Nat} (hl : Inc zs l) (t : Nat) : nextL zs (ex l t) = (nextL (ind zs l) t).map fun k => l[k]?.getD 0 := by
  have hi := ind_vo h hl
  rw [nextL_is h, nextL_is hi, ind_len]
  refine inc_ext _ _ ((range_inc _).filter _) ?_ fun a => ?_
  · rw [List.pairwise_map]
    refine List.Pairwise.imp_of_mem ?_ ((range_inc _).filter _)
    intro x y hx hy hxy
    rw [List.mem_filter] at hy
    exact hl.at_inc hxy (by simpa using hy.1)
  · rw [List.mem_filter, List.mem_map, List.mem_range, eF_iff h]
    constructor
    · rintro ⟨ha, h1, h2⟩
      obtain ⟨k, hk, hb, e⟩ := (exTo_bit l t a l.length).1 h1
      refine ⟨k, ?_, e⟩
      rw [List.mem_filter, List.mem_range, eF_iff hi]
      refine ⟨hk, hb, fun j hj => ?_⟩
      cases e2 : bitB ((ind zs l)[j]?.getD 0) k
      · rfl
      · have hjl : j < l.length := by
          have := bit_none' e2; rwa [ind_len] at this
        have h3 := (ind_bit hjl).1 e2
        have := h2 (l[j]?.getD 0) (by rw [ex_at hl hjl]; exact hj)
        rw [← e] at this
        rw [this] at h3; cases h3.2
    · rintro ⟨k, hk, e⟩
      rw [List.mem_filter, List.mem_range, eF_iff hi] at hk
      obtain ⟨hk, hb, h2⟩ := hk
      refine ⟨by rw [← e]; exact hl.at_lt hk, by rw [← e, ex_at hl hk]; exact hb, fun b hb2 => ?_⟩
      obtain ⟨j, hj, hjt, e3⟩ := (exTo_bit l t b l.length).1 hb2
      have := h2 j hjt
      cases e4 : bitB (zs[b]?.getD 0) a
      · rfl
      · rw [(ind_bit hj).2 ⟨hk, by rw [e3, e]; exact e4⟩] at this; cases this
/-- The items alone are lined up in as many ways as they are. -/
theorem cF_ind {zs : List Int} (h : VoP zs) {l : List Nat} (hl : Inc zs l) : ∀ (N t : Nat), t ≤ N → t < 2 ^ l.length → cF (ind zs l) t = cF zs (ex l t)
  | N, t, hN, ht => by
    have hi := ind_vo h hl
    have hle := hl.len_le
    have h6 := h.1
    have ht64 : t < 64 := Nat.lt_of_lt_of_le ht (pow_le64 (by omega))
    by_cases h0 : t = 0
    · subst h0; rw [ex_zero, cF_zero, cF_zero]
    · have hx0 : ex l t ≠ 0 := fun e => h0 (Nat.eq_of_testBit_eq fun k => by
        rw [Nat.zero_testBit]
        cases e2 : t.testBit k
        · rfl
        · have hk := bit_lt ht e2
          have := ex_at hl (t := t) hk
          rw [e, e2, Nat.zero_testBit] at this; cases this)
      cases N with
      | zero => omega
      | succ N =>
        rw [← accF_all hi h0, ← accF_all h hx0, next_ind h hl]
        unfold accF
        rw [List.map_map]
        congr 1
        refine List.map_congr_left fun k hk => ?_
        obtain ⟨hkl, hkb⟩ := nextL_mem hi hk
        rw [ind_len] at hkl
        have hp := Nat.two_pow_pos k
        have hge := ge_bit_fin ⟨t, ht64⟩ ⟨k, by omega⟩ hkb
        simp only at hge
        rw [cF_ind h hl N (t - 2 ^ k) (by omega) (by omega), ex_sub h6 hl ht64 hkl hkb]
        rfl
/-- The items of a set, ascending. -/
def leftL (n s : Nat) : List Nat := (List.range n).filter fun j => s.testBit j
theorem leftL_inc (zs : List Int) (s : Nat) : Inc zs (leftL zs.length s) := ⟨(range_inc _).filter _, fun a ha => by
  unfold leftL at ha; rw [List.mem_filter] at ha; simpa using ha.1⟩
theorem ex_left {zs : List Int} {s : Nat} (hs : s < 2 ^ zs.length) : ex (leftL zs.length s) (2 ^ (leftL zs.length s).length - 1) = s := by
  refine Nat.eq_of_testBit_eq fun a => ?_
  rw [Bool.eq_iff_iff]
  unfold ex
  rw [exTo_bit]
  constructor
  · rintro ⟨i, hi, _, rfl⟩
    rw [List.getElem?_eq_getElem hi]
    have := List.getElem_mem hi
    unfold leftL at this
    rw [List.mem_filter] at this
    exact this.2
  · intro e
    have ha : a ∈ leftL zs.length s := by
      unfold leftL
      rw [List.mem_filter, List.mem_range]
      exact ⟨bit_lt hs e, e⟩
    obtain ⟨i, hi, e2⟩ := List.getElem_of_mem ha
    refine ⟨i, hi, ?_, by rw [List.getElem?_eq_getElem hi]; exact e2⟩
    rw [Nat.testBit_two_pow_sub_one]
    simpa using hi
/-- As the model counts what is left. -/
theorem rest_is {zs : List Int} (h : VoP zs) {s : Nat} (hs : s < 2 ^ zs.length) : cG (ind zs (leftL zs.length s)) (2 ^ (leftL zs.length s).length - 1) = cF zs s := by
  have hl := leftL_inc zs s
  have hi := ind_vo h hl
  have hp := Nat.two_pow_pos (leftL zs.length s).length
  have := count_both hi
  rw [ind_len] at this
  rw [this, cF_ind h hl _ _ (Nat.le_refl _) (by omega), ex_left hs]
end Go.Proofs.YtiicffibhjeabaaDoor

/- Tops and ideals: tops stand for all below; what is below a set is an ideal; what an ideal leaves. No program. -/
namespace Go.Proofs.YtiicffibhjeabaaDoor

theorem bit_none {zs : List Int} {a b : Nat} (h : bitB (zs[a]?.getD 0) b = true) : a < zs.length := by
  rcases Nat.lt_or_ge a zs.length with h1 | h1
  · exact h1
  · rw [List.getElem?_eq_none (by omega), Option.getD_none, bitB_zero] at h; cases h
theorem top_over {zs : List Int} (h : VoP zs) {s : Int} (h1 : s < powI zs.length) : ∀ (m a : Nat), zs.length - rank zs a ≤ m → bitB s a = true → ∃ t : Nat, bitB (topsTo zs s zs.length) t = true ∧ (a = t ∨ lt zs a t)
  | 0, a, hm, ha => by have := rank_bd h (bitB_lt h1 ha); omega
  | m + 1, a, hm, ha => by
    by_cases hz : andI (zs[a]?.getD 0) s = 0
    · exact ⟨a, (topsTo_bit a _).2 ⟨bitB_lt h1 ha, ha, hz⟩, .inl rfl⟩
    · have : ∃ b : Nat, bitB s b = true ∧ bitB (zs[a]?.getD 0) b = true := by
        refine Classical.byContradiction fun hn => hz (andI_zero.2 fun b hb => ?_)
        cases e : bitB (zs[a]?.getD 0) b
        · rfl
        · exact absurd ⟨b, hb, e⟩ hn
      obtain ⟨b, hb, hab⟩ := this
      have hl : lt zs a b := ⟨bit_none hab, hab⟩
      have hr := rank_lt h hl
      obtain ⟨t, ht, e⟩ := top_over h h1 m b (by omega) hb
      refine ⟨t, ht, .inr ?_⟩
      rcases e with rfl | e
      · exact hl
      · exact h.trans hl e
section
variable {zs : List Int} {s : Int}
theorem tops_in (zs : List Int) (s : Int) : lessI (topsTo zs s zs.length) s = 0 := lessI_none.2 fun _ hj => ((topsTo_bit _ _).1 hj).2.1
theorem tops_ap (h : VoP zs) : apB zs (topsTo zs s zs.length) = true := by
  have hb := topsTo_bd zs s zs.length
  have hp := powI_le6 (n := (zs.length : Int)) (by have := h.1; omega)
  refine (apB_iff (by omega)).2 fun a b ha hb => ?_
  exact andI_zero.1 ((topsTo_bit _ _).1 ha).2.2 b ((topsTo_bit _ _).1 hb).2.1
theorem tops_none (h : VoP zs) (h0 : 0 ≤ s) (h1 : s < powI zs.length) : (topsTo zs s zs.length == 0) = (s == 0) := by
  have hb := topsTo_bd zs s zs.length
  rw [Bool.eq_iff_iff, beq_iff_eq, beq_iff_eq]
  constructor
  · intro e
    refine bitB_ext h0 (Int.le_refl _) fun j => ?_
    rw [bitB_zero]
    cases hj : bitB s j
    · rfl
    · obtain ⟨t, ht, _⟩ := top_over h h1 _ j (Nat.le_refl _) hj
      rw [e, bitB_zero] at ht; cases ht
  · intro e
    refine bitB_ext hb.1 (Int.le_refl _) fun j => ?_
    rw [bitB_zero]
    cases hj : bitB (topsTo zs s zs.length) j
    · rfl
    · have := ((topsTo_bit _ _).1 hj).2.1
      rw [e, bitB_zero] at this; cases this
theorem in_bel (h : Sets zs) (h1 : s < powI zs.length) : lessI s (belI zs s) = 0 := lessI_none.2 fun j hj => (belI_bit h h1 j).2 (.inl hj)
theorem bel_ideal (h : VoP zs) (h0 : 0 ≤ s) (h1 : s < powI zs.length) : idB zs (belI zs s) = true := by
  have hb := belI_bd h.sets h0 h1
  refine (idB_iff h.sets hb.1 hb.2).2 fun a b hb hz => ?_
  rw [belI_bit h.sets h1] at hb ⊢
  rcases hb with hb | ⟨c, hc, hbc⟩
  · exact .inr ⟨b, hb, hz⟩
  · exact .inr ⟨c, hc, (h.trans (a := a) (b := b) (c := c) ⟨bit_none hz, hz⟩ ⟨bit_none hbc, hbc⟩).2⟩
theorem tops_bel (h : VoP zs) (_h0 : 0 ≤ s) (h1 : s < powI zs.length) : topsTo zs (belI zs s) zs.length = topsTo zs s zs.length := by
  refine bitB_ext (topsTo_bd _ _ _).1 (topsTo_bd _ _ _).1 fun j => ?_
  rw [Bool.eq_iff_iff, topsTo_bit, topsTo_bit]
  constructor
  · rintro ⟨hj, hb, hz⟩
    have hz' := andI_zero.1 hz
    refine ⟨hj, ?_, andI_zero.2 fun b hb => hz' b ((belI_bit h.sets h1 b).2 (.inl hb))⟩
    rcases (belI_bit h.sets h1 j).1 hb with e | ⟨c, hc, hjc⟩
    · exact e
    · rw [hz' c ((belI_bit h.sets h1 c).2 (.inl hc))] at hjc; cases hjc
  · rintro ⟨hj, hb, hz⟩
    have hz' := andI_zero.1 hz
    refine ⟨hj, (belI_bit h.sets h1 j).2 (.inl hb), andI_zero.2 fun b hb => ?_⟩
    rcases (belI_bit h.sets h1 b).1 hb with e | ⟨c, hc, hbc⟩
    · exact hz' b e
    · cases e : bitB (zs[j]?.getD 0) b
      · rfl
      · have := (h.trans (a := j) (b := b) (c := c) ⟨bit_none e, e⟩ ⟨bit_none hbc, hbc⟩).2
        rw [hz' c hc] at this; cases this
theorem bel_tops (h : VoP zs) (h0 : 0 ≤ s) (h1 : s < powI zs.length) : belI zs (topsTo zs s zs.length) = belI zs s := by
  have hb := topsTo_bd zs s zs.length
  refine bitB_ext (belI_bd h.sets hb.1 hb.2).1 (belI_bd h.sets h0 h1).1 fun j => ?_
  rw [Bool.eq_iff_iff, belI_bit h.sets hb.2, belI_bit h.sets h1]
  constructor
  · rintro (e | ⟨t, ht, hj⟩)
    · exact .inl ((topsTo_bit _ _).1 e).2.1
    · exact .inr ⟨t, ((topsTo_bit _ _).1 ht).2.1, hj⟩
  · rintro (e | ⟨b, hb, hj⟩)
    · obtain ⟨t, ht, e2⟩ := top_over h h1 _ j (Nat.le_refl _) e
      rcases e2 with rfl | e2
      · exact .inl ht
      · exact .inr ⟨t, ht, e2.2⟩
    · obtain ⟨t, ht, e2⟩ := top_over h h1 _ b (Nat.le_refl _) hb
      rcases e2 with rfl | e2
      · exact .inr ⟨b, ht, hj⟩
      · exact .inr ⟨t, ht, (h.trans (a := j) (b := b) (c := t) ⟨bit_none hj, hj⟩ e2).2⟩
theorem bel_self (h0 : idB zs s = true) : belI zs s = s := by simpa [idB] using h0
theorem all_bits' {n : Nat} : ∀ j : Nat, bitB (powI n - 1) j = decide (j < n) := fun j => by
  have e : (powI (n : Int) - 1).toNat = 2 ^ n - 1 := by
    have : powI (n : Int) = ((2 ^ n : Nat) : Int) := by simp [powI]
    omega
  simp [bitB, e, Nat.testBit_two_pow_sub_one]
theorem left_fin : ∀ n : Fin 7, ∀ k : Fin 64, (k.val : Int) < powI (n.val : Int) → lessI (powI (n.val : Int) - 1) (k.val : Int) = powI (n.val : Int) - 1 - (k.val : Int) := by decide +kernel
theorem left_is {n : Nat} {s : Int} (hn : n ≤ 6) (h0 : 0 ≤ s) (h1 : s < powI n) : lessI (powI n - 1) s = powI n - 1 - s := by
  have hpn := powI_le6 (n := (n : Int)) (by omega)
  obtain ⟨k, rfl⟩ := Int.eq_ofNat_of_zero_le h0
  exact left_fin ⟨n, by omega⟩ ⟨k, by omega⟩ h1
theorem left_ideal (h : VoP zs) (h0 : 0 ≤ s) (h1 : s < powI zs.length) (hi : idB zs s = true) : idB (du zs) (powI zs.length - 1 - s) = true := by
  have hp := powI_pos (zs.length : Int)
  refine (idB_iff (du_sets h.sets) (by omega) (by rw [du_len]; omega)).2 fun a b hb hz => ?_
  rw [← left_is h.1 h0 h1] at hb ⊢
  rw [bitB_less, all_bits', Bool.and_eq_true] at hb ⊢
  rw [du_bit h.sets] at hz
  have ha : a < zs.length := bitB_lt (h.sets.2 b (bit_none hz)).2 hz
  refine ⟨by simpa using ha, ?_⟩
  cases e : bitB s a
  · rfl
  · have := (idB_iff h.sets h0 h1).1 hi b a e hz
    rw [this] at hb; simp at hb
theorem tops_apart (h : VoP zs) (h0 : 0 ≤ s) (h1 : s < powI zs.length) (ha : apB zs s = true) : topsTo zs s zs.length = s := by
  have hp := powI_le6 (n := (zs.length : Int)) (by have := h.1; omega)
  refine bitB_ext (topsTo_bd zs s _).1 h0 fun j => ?_
  have key := topsTo_bit (zs := zs) (s := s) j zs.length
  cases e : bitB s j
  · cases e2 : bitB (topsTo zs s zs.length) j
    · rfl
    · have := (key.1 e2).2.1; rw [e] at this; cases this
  · exact key.2 ⟨bitB_lt h1 e, e, andI_zero.2 fun b hb => (apB_iff (by omega)).1 ha j b e hb⟩
/-- The tops of the next ideal are the lowest items that the one ahead lacks. -/
theorem next_tops (h : VoP zs) (_h0 : 0 ≤ s) (_h1 : s < powI zs.length) : topsTo zs (nextI zs s) zs.length = topsTo (du zs) (powI zs.length - 1 - s) zs.length := by
  have hp := powI_pos (zs.length : Int)
  have hp6 := powI_le6 (n := (zs.length : Int)) (by have := h.1; omega)
  have hb := topsTo_bd (du zs) (powI zs.length - 1 - s) zs.length
  have ha := tops_ap (s := powI zs.length - 1 - s) (du_vo h)
  rw [du_len, du_apB h.sets (by omega)] at ha
  unfold nextI
  rw [tops_bel h hb.1 hb.2, tops_apart h hb.1 hb.2 ha]
end
theorem in_set {zs : List Int} {s : Int} (_h : VoP zs) (h0 : 0 ≤ s) (h1 : s < powI zs.length) : inB s 0 (powI zs.length - 1) = true := by
  simp only [inB, decide_eq_true_eq]; omega
theorem set_parts {zs : List Int} {s : Int} (h : (vo zs && inB s 0 (powI zs.length - 1)) = true) : VoP zs ∧ 0 ≤ s ∧ s < powI zs.length := by
  rw [Bool.and_eq_true] at h
  refine ⟨by simpa [vo] using h.1, ?_⟩
  have := h.2
  simp only [inB, decide_eq_true_eq] at this
  omega
theorem topsR_in {zs : List Int} {s : Int} (h : VoP zs) (h0 : 0 ≤ s) (h1 : s < powI zs.length) : topsR zs s = topsTo zs s zs.length := by
  unfold topsR; rw [vo_true h, in_set h h0 h1]; rfl
theorem belowR_in {zs : List Int} {s : Int} (h : VoP zs) (h0 : 0 ≤ s) (h1 : s < powI zs.length) : belowR zs s = belI zs s := by
  unfold belowR; rw [vo_true h, in_set h h0 h1]; rfl
theorem isIdealR_in {zs : List Int} {s : Int} (h : VoP zs) (h0 : 0 ≤ s) (h1 : s < powI zs.length) : isIdealR zs s = idB zs s := by
  unfold isIdealR; rw [vo_true h, in_set h h0 h1]; rfl
end Go.Proofs.YtiicffibhjeabaaDoor

/- Joins, what all of a set have above them, cuts, items with one next below, and orders of some items: as both sides tell them. No program. -/
namespace Go.Proofs.YtiicffibhjeabaaDoor

/-- What is at or above an item. -/
def atUp (zs : List Int) (a : Nat) : Int := orI (zs[a]?.getD 0) (powI a)
theorem atUp_bd {zs : List Int} (h : Sets zs) {a : Nat} (ha : a < zs.length) : 0 ≤ atUp zs a ∧ atUp zs a < powI zs.length := by
  have hz := h.2 a ha
  exact orI_bd hz.1 hz.2 (Int.le_of_lt (powI_pos _)) (powI_lt ha)
theorem atUp_bit (zs : List Int) (a j : Nat) : bitB (atUp zs a) j = (bitB (zs[a]?.getD 0) j || decide (a = j)) := by unfold atUp; rw [bitB_or, bitB_pow]
/-- The items that are at or above all those of s less than k. -/
def comTo (zs : List Int) (s : Int) : Nat → Int
  | 0 => powI zs.length - 1
  | k + 1 => if bitB s k then andI (comTo zs s k) (atUp zs k) else comTo zs s k
theorem comTo_yes {zs : List Int} {s : Int} {k : Nat} (h : bitB s k = true) : comTo zs s (k + 1) = andI (comTo zs s k) (atUp zs k) := by simp [comTo, h]
theorem comTo_no {zs : List Int} {s : Int} {k : Nat} (h : bitB s k = false) : comTo zs s (k + 1) = comTo zs s k := by simp [comTo, h]
theorem comTo_bd (zs : List Int) (s : Int) : ∀ k : Nat, 0 ≤ comTo zs s k ∧ comTo zs s k < powI zs.length
  | 0 => by have := powI_pos (zs.length : Int); simp only [comTo]; omega
  | k + 1 => by
    have h := comTo_bd zs s k
    unfold comTo
    split
    · have := andI_bd (comTo zs s k) (atUp zs k); omega
    · exact h
theorem comTo_bit (zs : List Int) (s : Int) (j : Nat) : ∀ k : Nat, bitB (comTo zs s k) j = true ↔ j < zs.length ∧ ∀ a : Nat, a < k → bitB s a = true → bitB (atUp zs a) j = true
  | 0 => by
    unfold comTo
    rw [all_bits', decide_eq_true_eq]
    exact ⟨fun h => ⟨h, fun a ha => by omega⟩, fun h => h.1⟩
  | k + 1 => by
    cases hb : bitB s k
    · rw [comTo_no hb, comTo_bit zs s j k]
      refine ⟨fun h => ⟨h.1, fun a ha hs => ?_⟩, fun h => ⟨h.1, fun a ha hs => h.2 a (by omega) hs⟩⟩
      by_cases e : a = k
      · subst e; rw [hb] at hs; cases hs
      · exact h.2 a (by omega) hs
    · rw [comTo_yes hb, bitB_and, Bool.and_eq_true, comTo_bit zs s j k]
      refine ⟨fun h => ⟨h.1.1, fun a ha hs => ?_⟩, fun h => ⟨⟨h.1, fun a ha hs => h.2 a (by omega) hs⟩, h.2 k (by omega) hb⟩⟩
      by_cases e : a = k
      · subst e; exact h.2
      · exact h.1.2 a (by omega) hs
/-- The same, item by item of a list. -/
def comL (zs : List Int) (l : List Nat) : Int := l.foldl (fun (t : Int) (i : Nat) => andI t (atUp zs i)) (powI zs.length - 1)
theorem comL_snoc (zs : List Int) (l : List Nat) (i : Nat) : comL zs (l ++ [i]) = andI (comL zs l) (atUp zs i) := by simp [comL]
theorem comL_to (zs : List Int) (s : Int) : ∀ k : Nat, comL zs (itemsTo s k) = comTo zs s k
  | 0 => rfl
  | k + 1 => by
    have ih := comL_to zs s k
    cases hb : bitB s k
    · rw [itemsTo_no hb, comTo_no hb, ih]
    · rw [itemsTo_yes hb, comL_snoc, comTo_yes hb, ih]
theorem comTo_up {zs : List Int} {s : Int} {n : Nat} (h1 : s < powI n) : ∀ d : Nat, comTo zs s (n + d) = comTo zs s n
  | 0 => rfl
  | d + 1 => by
    have hb : bitB s ((n + d : Nat) : Int) = false := by
      cases h : bitB s ((n + d : Nat) : Int) with
      | false => rfl
      | true => have := bitB_lt h1 h; omega
    rw [← Nat.add_assoc, comTo_no hb, comTo_up h1 d]
theorem comL_all {zs : List Int} {s : Int} {n : Nat} (hn : n ≤ 6) (h1 : s < powI n) : comL zs (itemsL s) = comTo zs s n := by
  rw [itemsL, comL_to, show (6 : Nat) = n + (6 - n) from by omega, comTo_up h1]
/-- At or above both. -/
def upR (zs : List Int) (a b : Nat) : Int := andI (atUp zs a) (atUp zs b)
theorem upR_bd {zs : List Int} (h : Sets zs) {a b : Nat} (ha : a < zs.length) : 0 ≤ upR zs a b ∧ upR zs a b < powI zs.length := by
  have h1 := andI_bd (atUp zs a) (atUp zs b)
  have h2 := atUp_bd h ha
  unfold upR
  omega
/-- Two items as a set. -/
def twoS (a b : Nat) : Int := orI (orI 0 (powI a)) (powI b)
theorem twoS_bd {n a b : Nat} (ha : a < n) (hb : b < n) : 0 ≤ twoS a b ∧ twoS a b < powI n := by
  have h1 := orI_bd (a := 0) (b := powI a) (n := n) (Int.le_refl _) (powI_pos _) (Int.le_of_lt (powI_pos _)) (powI_lt ha)
  exact orI_bd h1.1 h1.2 (Int.le_of_lt (powI_pos _)) (powI_lt hb)
theorem twoS_bit (a b j : Nat) : bitB (twoS a b) j = (decide (a = j) || decide (b = j)) := by
  unfold twoS; rw [bitB_or, bitB_or, bitB_zero, bitB_pow, bitB_pow]; simp
theorem com_two {zs : List Int} (h : Sets zs) {a b : Nat} (ha : a < zs.length) (hb : b < zs.length) : comTo zs (twoS a b) zs.length = upR zs a b := by
  refine bitB_ext (comTo_bd _ _ _).1 (upR_bd h ha).1 fun j => ?_
  rw [Bool.eq_iff_iff, comTo_bit]
  unfold upR
  rw [bitB_and, Bool.and_eq_true]
  constructor
  · rintro ⟨hj, h2⟩
    exact ⟨h2 a ha (by rw [twoS_bit]; simp), h2 b hb (by rw [twoS_bit]; simp)⟩
  · rintro ⟨h1, h2⟩
    refine ⟨bitB_lt (atUp_bd h ha).2 h1, fun x _ hx => ?_⟩
    rw [twoS_bit, Bool.or_eq_true, decide_eq_true_eq, decide_eq_true_eq] at hx
    rcases hx with rfl | rfl
    · exact h1
    · exact h2
/-- An item of s that all of s are at or above. -/
def jnB (zs : List Int) (s : Int) (c : Nat) : Bool := bitB s c && lessI s (atUp zs c) == 0
theorem less_less (s p z : Int) : (lessI (lessI s p) z == 0) = (lessI s (orI z p) == 0) := by
  rw [Bool.eq_iff_iff, beq_iff_eq, beq_iff_eq, lessI_none, lessI_none]
  constructor
  · intro h j hj
    rw [bitB_or]
    cases hp : bitB p j
    · have := h j (by rw [bitB_less, hj, hp]; rfl)
      rw [this]; rfl
    · simp
  · intro h j hj
    rw [bitB_less, Bool.and_eq_true, Bool.not_eq_true'] at hj
    have := h j hj.1
    rw [bitB_or, hj.2, Bool.or_false] at this
    exact this
def jnI (zs : List Int) (s : Int) : Int := match (List.range zs.length).find? (jnB zs s) with | none => -1 | some c => (c : Int)
theorem jnI_at {zs : List Int} {s : Int} {c : Nat} (hc : c < zs.length) (hb : jnB zs s c = true) (hn : ∀ j, j < c → jnB zs s j = false) : jnI zs s = c := by
  have : (List.range zs.length).find? (jnB zs s) = some c := by
    rw [List.find?_range_eq_some]
    exact ⟨hb, by simpa using hc, fun j hj => by simpa using hn j hj⟩
  unfold jnI
  rw [this]
theorem jnI_none {zs : List Int} {s : Int} (hn : ∀ j, j < zs.length → jnB zs s j = false) : jnI zs s = -1 := by
  have : (List.range zs.length).find? (jnB zs s) = none := by
    rw [List.find?_eq_none]
    intro x hx
    rw [hn x (by simpa using hx)]
    simp
  unfold jnI
  rw [this]
theorem jnI_cases {zs : List Int} {s : Int} : (jnI zs s = -1 ∧ ∀ j, j < zs.length → jnB zs s j = false) ∨ ∃ c : Nat, jnI zs s = c ∧ c < zs.length ∧ jnB zs s c = true := by
  unfold jnI
  cases h : (List.range zs.length).find? (jnB zs s) with
  | none => exact .inl ⟨rfl, fun j hj => by
      have := List.find?_eq_none.1 h j (by simpa using hj)
      simpa using this⟩
  | some c => exact .inr ⟨c, rfl, by have := List.mem_of_find?_eq_some h; simpa using this, List.find?_some h⟩
theorem jnI_bd (zs : List Int) (s : Int) : -1 ≤ jnI zs s ∧ jnI zs s < zs.length := by
  rcases jnI_cases (zs := zs) (s := s) with h | ⟨c, h, hc, _⟩ <;> omega
/-- The join, -1 for none. -/
def joinI (zs : List Int) (a b : Nat) : Int := jnI zs (upR zs a b)
theorem joinI_bd (zs : List Int) (a b : Nat) : -1 ≤ joinI zs a b ∧ joinI zs a b < zs.length := jnI_bd _ _
def isIt (zs : List Int) (a : Int) : Bool := inB a 0 ((zs.length : Int) - 1)
def joinR (zs : List Int) (a b : Int) : Int := if vo zs && (isIt zs a && isIt zs b) then joinI zs a.toNat b.toNat else -1
def meetR (zs : List Int) (a b : Int) : Int := if vo zs && (isIt zs a && isIt zs b) then joinI (du zs) a.toNat b.toNat else -1

/-- The items with one item next below. -/
def snB (zs : List Int) (a : Nat) : Bool := popI (topsTo zs ((du zs)[a]?.getD 0) zs.length) == 1
def snTo (zs : List Int) : Nat → Int
  | 0 => 0
  | a + 1 => if snB zs a then orI (snTo zs a) (powI a) else snTo zs a
theorem snTo_yes {zs : List Int} {a : Nat} (h : snB zs a = true) : snTo zs (a + 1) = orI (snTo zs a) (powI a) := by simp [snTo, h]
theorem snTo_no {zs : List Int} {a : Nat} (h : snB zs a = false) : snTo zs (a + 1) = snTo zs a := by simp [snTo, h]
theorem snTo_bd (zs : List Int) : ∀ k : Nat, 0 ≤ snTo zs k ∧ snTo zs k < powI k
  | 0 => by simp [snTo, powI]
  | k + 1 => by
    have h := snTo_bd zs k
    have hp : powI (k : Int) < powI ((k + 1 : Nat) : Int) := powI_lt (by omega)
    unfold snTo
    split
    · exact orI_bd h.1 (by omega) (Int.le_of_lt (powI_pos _)) hp
    · omega
theorem snTo_bit (zs : List Int) (j : Nat) : ∀ k : Nat, bitB (snTo zs k) j = (decide (j < k) && snB zs j)
  | 0 => by simp [snTo, bitB_zero]
  | k + 1 => by
    have ih := snTo_bit zs j k
    cases hs : snB zs k
    · rw [snTo_no hs, ih]
      by_cases e : j = k
      · subst e; simp [hs]
      · have : (j < k + 1) ↔ (j < k) := by omega
        simp [this]
    · rw [snTo_yes hs, bitB_or, ih, bitB_pow]
      by_cases e : j = k
      · subst e; simp [hs]
      · have h1 : (j < k + 1) ↔ (j < k) := by omega
        have h2 : ¬ k = j := by omega
        simp [h1, h2]
def singlesR (zs : List Int) : Int := if vo zs then snTo zs zs.length else -1
/-- What is next below an item: as the model takes it, and the tops of all below it. -/
theorem next_below {zs : List Int} (h : VoP zs) {a : Nat} (ha : a < zs.length) : coverTo (du zs) a zs.length = topsTo zs ((du zs)[a]?.getD 0) zs.length := by
  have hd := du_sets h.sets
  have hb := coverTo_bd hd (a := a) (by rw [du_len]; exact ha) zs.length
  refine bitB_ext hb.1 (topsTo_bd _ _ _).1 fun j => ?_
  rw [Bool.eq_iff_iff, coverTo_bit, topsTo_bit, Bool.and_eq_true, List.all_eq_true, andI_zero]
  constructor
  · rintro ⟨h1, h2⟩
    refine ⟨by rw [du_bit h.sets] at h1; exact bit_none h1, h1, fun b hb => ?_⟩
    have hbn : b < zs.length := by rw [du_bit h.sets] at hb; exact bit_none hb
    have := h2 b (by simpa using hbn)
    rw [hb, du_bit h.sets] at this
    simpa using this
  · rintro ⟨h1, h2, h3⟩
    refine ⟨h2, fun y hy => ?_⟩
    cases hb : bitB ((du zs)[a]?.getD 0) y
    · rfl
    · have := h3 y hb
      rw [du_bit h.sets, this]
      rfl

/-- A set of just the items at or below all those at or above all of it. -/
def cutI (zs : List Int) (s : Int) : Int := comTo (du zs) (comTo zs s zs.length) zs.length
def cutB (zs : List Int) (s : Int) : Bool := cutI zs s == s
def cutsR (zs : List Int) : List Int := if vo zs then setsTo (cutB zs) (2 ^ zs.length) else []

/-- The place of an item of s. -/
def plN (s : Nat) (a : Nat) : Nat := (popI (andI (s : Int) (powI a - 1))).toNat
theorem plN_fin : ∀ s : Fin 64, ∀ a : Fin 7, (popI (andI (s.val : Int) (powI (a.val : Int) - 1))).toNat = ((List.range a.val).filter fun j => s.val.testBit j).length := by decide +kernel
theorem plN_is {s a : Nat} (hs : s < 64) (ha : a ≤ 6) : plN s a = (leftL a s).length := plN_fin ⟨s, hs⟩ ⟨a, by omega⟩
theorem leftL_split {n s a : Nat} (ha : a < n) (hb : s.testBit a = true) : ∃ t, leftL n s = leftL a s ++ a :: t := by
  refine ⟨((List.range (n - (a + 1))).map (fun x => a + 1 + x)).filter fun j => s.testBit j, ?_⟩
  unfold leftL
  have e : List.range n = List.range a ++ a :: (List.range (n - (a + 1))).map (fun x => a + 1 + x) := by
    have h1 : n = (a + 1) + (n - (a + 1)) := by omega
    conv => lhs; rw [h1, List.range_add, List.range_succ]
    simp
  rw [e, List.filter_append, List.filter_cons, if_pos hb]
theorem pl_at {n s a : Nat} (hs : s < 64) (hn : n ≤ 6) (ha : a < n) (hb : s.testBit a = true) : plN s a < (leftL n s).length ∧ (leftL n s)[plN s a]?.getD 0 = a := by
  obtain ⟨t, e⟩ := leftL_split ha hb
  rw [e, plN_is hs (by omega)]
  simp
theorem left_pop_fin : ∀ n : Fin 7, ∀ s : Fin 64, s.val < 2 ^ n.val → (popI (s.val : Int)).toNat = ((List.range n.val).filter fun j => s.val.testBit j).length := by decide +kernel
theorem left_pop {n s : Nat} (hn : n ≤ 6) (hs : s < 2 ^ n) : popI (s : Int) = (leftL n s).length := by
  have h64 := Nat.lt_of_lt_of_le hs (pow_le64 hn)
  have h1 := left_pop_fin ⟨n, by omega⟩ ⟨s, h64⟩ hs
  have h2 := (popI_bd (s := (s : Int)) (by omega) (by omega)).1
  simp only at h1
  unfold leftL
  omega
/-- The pairs of a list of which s has both. -/
def ptB (s : Int) (p : Nat × Nat) : Bool := bitB s p.1 && bitB s p.2
def ptP (s : Nat) (ps : List (Nat × Nat)) : List (Nat × Nat) := (ps.filter (ptB s)).map fun p => (plN s p.2, plN s p.1)
theorem ptP_yes {s : Nat} {ps : List (Nat × Nat)} {a b : Nat} (h1 : bitB s a = true) (h2 : bitB s b = true) : ptP s (ps ++ [(a, b)]) = ptP s ps ++ [(plN s b, plN s a)] := by
  simp [ptP, ptB, List.filter_append, h1, h2]
theorem ptP_no {s : Nat} {ps : List (Nat × Nat)} {a b : Nat} (h : bitB s a = false ∨ bitB s b = false) : ptP s (ps ++ [(a, b)]) = ptP s ps := by
  rcases h with h | h <;> simp [ptP, ptB, List.filter_append, h]
def partR (zs : List Int) (s : Int) : List Int := if vo zs && inB s 0 (powI zs.length - 1) then ind zs (leftL zs.length s.toNat) else []
theorem part_is {zs : List Int} (h : VoP zs) {s : Nat} (hs : s < 2 ^ zs.length) : downP (leftL zs.length s).length (ptP s (pairsL zs)) = ind zs (leftL zs.length s) := by
  have h6 := h.1
  have h64 := Nat.lt_of_lt_of_le hs (pow_le64 h6)
  have hi := leftL_inc zs s
  have hps : ∀ p ∈ ptP s (pairsL zs), p.1 < (leftL zs.length s).length ∧ p.2 < (leftL zs.length s).length := by
    intro p hp
    unfold ptP at hp
    rw [List.mem_map] at hp
    obtain ⟨⟨x, y⟩, hxy, rfl⟩ := hp
    rw [List.mem_filter] at hxy
    obtain ⟨h1, h2⟩ := hxy
    unfold ptB at h2
    rw [Bool.and_eq_true, bit_cast, bit_cast] at h2
    exact ⟨(pl_at h64 h6 (bit_lt hs h2.2) h2.2).1, (pl_at h64 h6 (bit_lt hs h2.1) h2.1).1⟩
  refine List.ext_getElem? fun i => ?_
  rcases Nat.lt_or_ge i (leftL zs.length s).length with hil | hil
  · have e1 : (downP (leftL zs.length s).length (ptP s (pairsL zs)))[i]? = some ((downP (leftL zs.length s).length (ptP s (pairsL zs)))[i]?.getD 0) := by
      rw [List.getElem?_eq_getElem (by rw [downP_len]; exact hil)]; rfl
    have e2 : (ind zs (leftL zs.length s))[i]? = some ((ind zs (leftL zs.length s))[i]?.getD 0) := by
      rw [List.getElem?_eq_getElem (by rw [ind_len]; exact hil)]; rfl
    rw [e1, e2]
    congr 1
    refine bitB_ext (downP_bd (fun p hp => (hps p hp).1) i).1 ?_ fun j => ?_
    · have := (ind_vo h hi).bd i (by rw [ind_len]; exact hil); exact this.1
    · rw [Bool.eq_iff_iff, downP_bit (fun p hp => (hps p hp).2), ind_bit hil]
      unfold ptP
      rw [List.mem_map]
      constructor
      · rintro ⟨⟨x, y⟩, hxy, e⟩
        rw [List.mem_filter] at hxy
        obtain ⟨h1, h2⟩ := hxy
        unfold ptB at h2
        rw [Bool.and_eq_true, bit_cast, bit_cast] at h2
        have hx := pl_at h64 h6 (bit_lt hs h2.1) h2.1
        have hy := pl_at h64 h6 (bit_lt hs h2.2) h2.2
        injection e with e3 e4
        rw [← e3, ← e4]
        exact ⟨hy.1, by rw [hx.2, hy.2]; exact (mem_pairsL.1 h1).2.2⟩
      · rintro ⟨hj, hb⟩
        have hx : s.testBit ((leftL zs.length s)[i]?.getD 0) = true ∧ (leftL zs.length s)[i]?.getD 0 < zs.length := by
          have := List.getElem_mem (l := leftL zs.length s) hil
          rw [List.getElem?_eq_getElem hil]
          unfold leftL at this ⊢
          rw [List.mem_filter] at this
          exact ⟨this.2, by simpa using this.1⟩
        have hy : s.testBit ((leftL zs.length s)[j]?.getD 0) = true ∧ (leftL zs.length s)[j]?.getD 0 < zs.length := by
          have := List.getElem_mem (l := leftL zs.length s) hj
          rw [List.getElem?_eq_getElem hj]
          unfold leftL at this ⊢
          rw [List.mem_filter] at this
          exact ⟨this.2, by simpa using this.1⟩
        refine ⟨((leftL zs.length s)[i]?.getD 0, (leftL zs.length s)[j]?.getD 0), ?_, ?_⟩
        · rw [List.mem_filter]
          refine ⟨mem_pairsL.2 ⟨hx.2, by omega, hb⟩, ?_⟩
          unfold ptB
          rw [Bool.and_eq_true, bit_cast, bit_cast]
          exact ⟨hx.1, hy.1⟩
        · have h1 := pl_at h64 h6 hx.2 hx.1
          have h2 := pl_at h64 h6 hy.2 hy.1
          have e1 := hi.at_inj h1.1 hil h1.2
          have e2 := hi.at_inj h2.1 hj h2.2
          simp only
          rw [e1, e2]
  · rw [List.getElem?_eq_none (by rw [downP_len]; exact hil), List.getElem?_eq_none (by rw [ind_len]; exact hil)]
end Go.Proofs.YtiicffibhjeabaaDoor

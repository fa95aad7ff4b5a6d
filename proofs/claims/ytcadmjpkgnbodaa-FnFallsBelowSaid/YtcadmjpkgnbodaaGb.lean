/- Texts that several claims share, one behind the other. -/
import Derived.Test.YtcadmjpkgnbodaaGa
import Derived.RegionTactic
import Derived.BigRegion
import Derived.Maps.Own
import Derived.ChangeKeysEq
import Derived.Deep.RegionHeld3
/- The order turned round, as plain mathematics: chains, sets apart and pairs of it are as many. No program. -/
namespace Go.Proofs.Ytcadmjpkgnbodaa

/-- The order turned round. -/
def du (zs : List Int) : List Int := downP zs.length (pairsL zs)
theorem du_len (zs : List Int) : (du zs).length = zs.length := downP_len _ _
theorem du_bit {zs : List Int} (h : Sets zs) (a b : Nat) : bitB ((du zs)[b]?.getD 0) a = bitB (zs[a]?.getD 0) b := by
  have hn : ∀ p ∈ pairsL zs, p.2 < zs.length := fun p hp => (h.pair (a := p.1) (b := p.2) hp).2.1
  have key : bitB ((du zs)[b]?.getD 0) a = true ↔ bitB (zs[a]?.getD 0) b = true := by
    unfold du
    rw [downP_bit hn, mem_pairsL]
    constructor
    · exact fun e => e.2.2
    · intro e
      have ha : a < zs.length := by
        rcases Nat.lt_or_ge a zs.length with h1 | h1
        · exact h1
        · rw [List.getElem?_eq_none (by omega), Option.getD_none, bitB_zero] at e; cases e
      have hb := bitB_lt (h.2 a ha).2 e
      have := h.1
      exact ⟨ha, by omega, e⟩
  cases h1 : bitB ((du zs)[b]?.getD 0) a <;> cases h2 : bitB (zs[a]?.getD 0) b <;> simp_all
theorem du_sets {zs : List Int} (h : Sets zs) : Sets (du zs) := down_sets h
theorem du_lt {zs : List Int} (h : VoP zs) (a b : Nat) : lt (du zs) b a ↔ lt zs a b := by
  unfold lt
  rw [du_bit h.sets, du_len]
  constructor
  · rintro ⟨_, e⟩
    refine ⟨?_, e⟩
    rcases Nat.lt_or_ge a zs.length with h1 | h1
    · exact h1
    · rw [List.getElem?_eq_none (by omega), Option.getD_none, bitB_zero] at e; cases e
  · rintro ⟨ha, e⟩
    exact ⟨bitB_lt (h.sets.2 a ha).2 e, e⟩
theorem du_vo {zs : List Int} (h : VoP zs) : VoP (du zs) := by
  have hs := du_sets h.sets
  refine ⟨hs.1, fun a ha => ?_, fun a ha b hb => ?_⟩
  · have h1 := hs.2 a ha
    have h2 : bitB ((du zs)[a]?.getD 0) a = false := by
      rw [du_bit h.sets]
      cases e : bitB (zs[a]?.getD 0) a
      · rfl
      · exact absurd ⟨by rw [du_len] at ha; exact ha, e⟩ (h.irr (a := a))
    unfold okA inB
    rw [h2]
    simp only [Bool.not_false, Bool.and_true, decide_eq_true_eq]
    omega
  · unfold okP
    cases e : bitB ((du zs)[a]?.getD 0) b
    · rfl
    · have hab : lt zs b a := (du_lt h b a).1 ⟨ha, e⟩
      have h1 : lessI ((du zs)[b]?.getD 0) ((du zs)[a]?.getD 0) = 0 := by
        refine bitB_ext (lessI_bd _ _).1 (Int.le_refl _) fun j => ?_
        rw [bitB_less, bitB_zero]
        cases e1 : bitB ((du zs)[b]?.getD 0) j
        · rfl
        · have hjb := (du_lt h j b).1 ⟨hb, e1⟩
          have := ((du_lt h j a).2 (h.trans hjb hab)).2
          rw [this]; rfl
      have h2 : bitB ((du zs)[b]?.getD 0) a = false := by
        cases e2 : bitB ((du zs)[b]?.getD 0) a
        · rfl
        · exact absurd (h.trans hab ((du_lt h a b).1 ⟨hb, e2⟩)) h.irr
      rw [h1, h2]; rfl
theorem du_du {zs : List Int} (h : VoP zs) : du (du zs) = zs := by
  have hl : (du (du zs)).length = zs.length := by rw [du_len, du_len]
  refine List.ext_getElem hl fun j h1 h2 => ?_
  have e1 := (du_vo (du_vo h)).bd j h1
  have e2 := h.bd j h2
  have hb : ∀ k : Nat, bitB ((du (du zs))[j]?.getD 0) k = bitB (zs[j]?.getD 0) k := fun k => by rw [du_bit (du_vo h).sets, du_bit h.sets]
  have := bitB_ext e1.1 e2.1 hb
  rwa [List.getElem?_eq_getElem h1, List.getElem?_eq_getElem h2, Option.getD_some, Option.getD_some] at this

theorem du_rel {zs : List Int} (h : Sets zs) (a b : Nat) : relB (du zs) a b = relB zs a b := by
  unfold relB
  rw [du_bit h, du_bit h, Bool.or_comm]
theorem du_chB {zs : List Int} (h : Sets zs) (s : Int) : chB (du zs) s = chB zs s := by
  unfold chB ChP
  have : (fun a b => relB (du zs) a b = true) = fun a b => relB zs a b = true := by funext a b; rw [du_rel h]
  simp only [this]
theorem du_chBf {zs : List Int} (h : Sets zs) : chB (du zs) = chB zs := funext fun s => du_chB h s
theorem andI_zero {z s : Int} : andI z s = 0 ↔ ∀ b : Nat, bitB s b = true → bitB z b = false := by
  constructor
  · intro e b hb
    have := bitB_and z s b
    rw [e, bitB_zero, hb] at this
    simpa using this.symm
  · intro e
    refine bitB_ext (by unfold andI; omega) (Int.le_refl _) fun j => ?_
    rw [bitB_and, bitB_zero]
    cases e1 : bitB s j
    · simp
    · rw [e j e1]; rfl
theorem apB_iff {zs : List Int} {s : Int} (h1 : s < 64) : apB zs s = true ↔ ∀ a b : Nat, bitB s a = true → bitB s b = true → bitB (zs[a]?.getD 0) b = false := by
  unfold apB
  rw [List.all_eq_true]
  constructor
  · intro e a b ha hb
    have := e a ((mem_itemsL h1).2 ha)
    exact andI_zero.1 (by simpa using this) b hb
  · intro e a ha
    have := (andI_zero (z := zs[a]?.getD 0)).2 (fun b hb => e a b ((mem_itemsL h1).1 ha) hb)
    simpa using this
theorem du_apB {zs : List Int} (h : Sets zs) {s : Int} (h1 : s < 64) : apB (du zs) s = apB zs s := by
  have key : apB (du zs) s = true ↔ apB zs s = true := by
    rw [apB_iff h1, apB_iff h1]
    constructor
    · intro e a b ha hb
      have := e b a hb ha
      rwa [du_bit h] at this
    · intro e a b ha hb
      rw [du_bit h]
      exact e b a hb ha
  cases e1 : apB (du zs) s <;> cases e2 : apB zs s <;> simp_all
theorem grTo_congr {p q : Int → Bool} : ∀ k : Nat, (∀ j : Nat, j < k → p (j : Int) = q (j : Int)) → grTo p k = grTo q k
  | 0, _ => rfl
  | k + 1, h => by
    unfold grTo
    rw [h k (by omega), grTo_congr k fun j hj => h j (by omega)]
theorem setsN_le {zs : List Int} (h : zs.length ≤ 6) : setsN zs ≤ 64 := Nat.pow_le_pow_right (n := 2) (by decide) h
theorem du_setsN (zs : List Int) : setsN (du zs) = setsN zs := by unfold setsN; rw [du_len]
theorem du_wide {zs : List Int} (h : VoP zs) : grTo (apB (du zs)) (setsN zs) = grTo (apB zs) (setsN zs) :=
  grTo_congr _ fun j hj => du_apB h.sets (by have := setsN_le h.1; omega)
theorem du_long {zs : List Int} (h : VoP zs) : longI (du zs) = longI zs := by
  rw [← gr_long (du_vo h), ← gr_long h, du_chBf h.sets, du_setsN]

/-! Pairs. -/
theorem cl_flip (r : Nat → Nat → Bool) : ∀ l : List Nat, (∀ a ∈ l, r a a = false) → cl (fun a b => r b a) l l = cl r l l
  | [], _ => rfl
  | x :: l, h => by
    have h1 := cl_self r (x := x) (l := l) (h x (by simp))
    have h2 : cl (fun a b => r b a) (x :: l) (x :: l) = (l.filter fun a => r a x).length + (l.filter (r x)).length + cl (fun a b => r b a) l l := cl_self (fun a b => r b a) (x := x) (h x (by simp))
    rw [h1, h2, cl_flip r l fun a ha => h a (by simp [ha])]
    omega
/-- b is above a. -/
def upB (zs : List Int) (a b : Nat) : Bool := bitB (zs[a]?.getD 0) b
/-- How many pairs an order has, as mathematics. -/
def prs (zs : List Int) : Nat := cl (upB zs) (List.range zs.length) (List.range zs.length)
theorem popTo_cl {zs : List Int} (h : Sets zs) : ∀ k : Nat, k ≤ zs.length → popTo zs k = cl (upB zs) (List.range k) (List.range zs.length)
  | 0, _ => rfl
  | k + 1, hk => by
    have hb := h.bd k (by omega)
    unfold popTo
    rw [popTo_cl h k (by omega), popI_items hb.1 hb.2, ← itemsTo_all (h.2 k (by omega)).2 h.1]
    unfold cl
    rw [List.range_succ, List.map_append, List.sum_append]
    simp [itemsTo]
    rfl
theorem popTo_prs {zs : List Int} (h : Sets zs) : popTo zs zs.length = prs zs := popTo_cl h _ (Nat.le_refl _)
theorem du_prs {zs : List Int} (h : VoP zs) : prs (du zs) = prs zs := by
  unfold prs
  rw [du_len]
  have : upB (du zs) = fun a b : Nat => upB zs b a := by funext a b; unfold upB; rw [du_bit h.sets]
  rw [this]
  exact cl_flip (upB zs) _ fun a ha => h.irrB (List.mem_range.1 ha)
theorem prs_bd {zs : List Int} (h : VoP zs) : 2 * prs zs + zs.length ≤ zs.length * zs.length := by
  have := (cl_all (upB zs) (List.range zs.length) (fun a ha => h.irrB (List.mem_range.1 ha)) (fun a ha b _ e => h.asym (List.mem_range.1 ha) e)).1
  simpa [prs] using this
theorem prs_none {zs : List Int} (h : VoP zs) (hl : longI zs ≤ 1) : prs zs = 0 := by
  have hno : ∀ a b : Nat, ¬ lt zs a b := fun a b e => by
    have h1 := hgt_up h e
    have h2 := hgt_nn zs a
    have h3 := longI_gt (zs := zs) (h.lt_n e)
    omega
  unfold prs cl
  rw [List.map_congr_left (g := fun _ => 0)]
  · generalize List.range zs.length = l
    induction l with
    | nil => rfl
    | cons x l ih => simpa using ih
  · intro a ha
    rw [List.length_eq_zero_iff, List.filter_eq_nil_iff]
    intro b _ e
    exact hno a b ⟨List.mem_range.1 ha, e⟩

/-! Chains of none, of one and of two items. -/
theorem cnt_get (p : Int → Bool) {len m : Nat} (hm : m < len) : ∀ k : Nat, (cntTo p len k)[m]?.getD 0 = (((List.range k).filter fun j : Nat => p (j : Int) && (popI (j : Int)).toNat == m).length : Int)
  | 0 => by simp [cntTo, hm]
  | k + 1 => by
    have ih := cnt_get p hm k
    rw [List.range_succ, List.filter_append, List.length_append]
    have hl := cntTo_len p len k
    unfold cntTo
    cases hp : p (k : Int)
    · simp [hp, ih]
    · by_cases he : (popI (k : Int)).toNat = m
      · simp [hp, he]
        rw [List.getElem?_eq_getElem (by omega)] at ih
        rw [List.getElem?_set_self (by omega), Option.getD_some, List.getElem?_eq_getElem (by omega), Option.getD_some]
        simp only [Option.getD_some] at ih
        rw [ih]
      · simp [hp, he, ih]
def twos (n : Nat) : List Nat := (List.range n).flatMap fun b => (List.range b).map fun a => 2 ^ a + 2 ^ b
theorem twos_fin : ∀ n : Fin 7, (List.range (2 ^ n.val)).filter (fun j : Nat => (popI (j : Int)).toNat == 2) = twos n.val := by decide +kernel
theorem ones_fin : ∀ n : Fin 7, (List.range (2 ^ n.val)).filter (fun j : Nat => (popI (j : Int)).toNat == 1) = (List.range n.val).map fun a => 2 ^ a := by decide +kernel
theorem noes_fin : ∀ n : Fin 7, (List.range (2 ^ n.val)).filter (fun j : Nat => (popI (j : Int)).toNat == 0) = [0] := by decide +kernel
theorem two_items : ∀ b : Fin 6, ∀ a : Fin b.val, itemsL ((2 ^ a.val + 2 ^ b.val : Nat) : Int) = [a.val, b.val] := by decide +kernel
theorem one_items : ∀ b : Fin 6, itemsL ((2 ^ b.val : Nat) : Int) = [b.val] := by decide +kernel
theorem chB_two (zs : List Int) {a b : Nat} (hab : a < b) (hb : b < 6) : chB zs ((2 ^ a + 2 ^ b : Nat) : Int) = relB zs a b := by
  have h : ChP zs ((2 ^ a + 2 ^ b : Nat) : Int) ↔ relB zs a b = true := by
    unfold ChP
    rw [two_items ⟨b, hb⟩ ⟨a, hab⟩]
    simp
  unfold chB
  cases hr : relB zs a b
  · exact decide_eq_false fun e => by rw [h.1 e] at hr; cases hr
  · exact decide_eq_true (h.2 hr)
theorem chB_one (zs : List Int) {b : Nat} (hb : b < 6) : chB zs ((2 ^ b : Nat) : Int) = true := by
  refine decide_eq_true ?_
  unfold ChP
  rw [one_items ⟨b, hb⟩]
  simp
theorem chB_none (zs : List Int) : chB zs ((0 : Nat) : Int) = true := by
  have : itemsL ((0 : Nat) : Int) = [] := by decide
  refine decide_eq_true ?_
  unfold ChP
  rw [this]
  simp
theorem filter_and {α : Type} (p q : α → Bool) (l : List α) : l.filter (fun j => p j && q j) = (l.filter q).filter p := by rw [List.filter_filter]
theorem or_len (u v : Nat → Bool) : ∀ l : List Nat, (∀ a ∈ l, u a = true → v a = false) → (l.filter fun a => u a || v a).length = (l.filter u).length + (l.filter v).length
  | [], _ => rfl
  | a :: l, h => by
    have ih := or_len u v l fun b hb => h b (by simp [hb])
    have ha := h a (by simp)
    simp only [List.filter_cons]
    cases hu : u a <;> cases hv : v a <;> simp [hu, hv] at ha ⊢ <;> omega
theorem cl_range (r : Nat → Nat → Bool) : ∀ n : Nat, (∀ a, a < n → r a a = false) → cl r (List.range (n + 1)) (List.range (n + 1)) = cl r (List.range n) (List.range n) + ((List.range n).filter (r n)).length + ((List.range n).filter fun a => r a n).length + (if r n n then 1 else 0) := fun n _ => by
  unfold cl
  rw [List.range_succ, List.map_append, List.sum_append]
  have e : ∀ l : List Nat, (l.map fun a => ((List.range n ++ [n]).filter (r a)).length).sum = (l.map fun a => ((List.range n).filter (r a)).length).sum + (l.filter fun a => r a n).length := fun l => by
    induction l with
    | nil => rfl
    | cons a l ih =>
      rw [List.map_cons, List.sum_cons, ih, List.map_cons, List.sum_cons, List.filter_append, List.length_append, List.filter_cons (xs := l)]
      cases h : r a n <;> simp [h] <;> omega
  rw [e]
  cases h : r n n <;> simp [h, List.filter_append] <;> omega
theorem twos_chain {zs : List Int} (h : VoP zs) : ∀ n : Nat, n ≤ zs.length → ((twos n).filter fun j : Nat => chB zs (j : Int)).length = cl (upB zs) (List.range n) (List.range n)
  | 0, _ => rfl
  | n + 1, hn => by
    have h6 := h.1
    have ih := twos_chain h n (by omega)
    rw [cl_range (upB zs) n (fun a ha => h.irrB (show a < zs.length by omega)), ← ih]
    have e1 : twos (n + 1) = twos n ++ (List.range n).map fun a => 2 ^ a + 2 ^ n := by simp [twos, List.range_succ]
    rw [e1, List.filter_append, List.length_append, List.filter_map, List.length_map]
    have e2 : (List.range n).filter ((fun j : Nat => chB zs (j : Int)) ∘ fun a => 2 ^ a + 2 ^ n) = (List.range n).filter fun a => upB zs n a || upB zs a n := by
      refine List.filter_congr fun a ha => ?_
      have := chB_two zs (List.mem_range.1 ha) (show n < 6 by omega)
      simp only [Function.comp]
      rw [this]
      unfold relB upB
      rw [Bool.or_comm]
    have e3 : upB zs n n = false := h.irrB (show n < zs.length by omega)
    rw [e2, or_len (upB zs n) (fun a => upB zs a n) _ (fun a _ e => h.asym (show n < zs.length by omega) e), e3]
    simp
    omega
theorem chains_two {zs : List Int} (h : VoP zs) (hl : 2 ≤ longI zs) : (chainsR zs)[2]?.getD 0 = (prs zs : Int) := by
  have hn := h.1
  unfold chainsR
  rw [vo_true h]
  simp only [if_true]
  rw [cnt_get (chB zs) (len := (longI zs).toNat + 1) (m := 2) (by omega)]
  rw [filter_and (fun j : Nat => chB zs (j : Int)) (fun j : Nat => (popI (j : Int)).toNat == 2)]
  unfold setsN
  rw [twos_fin ⟨zs.length, by omega⟩, twos_chain h _ (Nat.le_refl _)]
  rfl
theorem chains_one {zs : List Int} (h : VoP zs) (hl : 1 ≤ longI zs) : (chainsR zs)[1]?.getD 0 = (zs.length : Int) := by
  have hn := h.1
  unfold chainsR
  rw [vo_true h]
  simp only [if_true]
  rw [cnt_get (chB zs) (len := (longI zs).toNat + 1) (m := 1) (by omega)]
  rw [filter_and (fun j : Nat => chB zs (j : Int)) (fun j : Nat => (popI (j : Int)).toNat == 1)]
  unfold setsN
  rw [ones_fin ⟨zs.length, by omega⟩, List.filter_map, List.length_map, List.filter_eq_self.2]
  · simp
  · intro a ha
    exact chB_one zs (by have := List.mem_range.1 ha; omega)
theorem chains_none {zs : List Int} (h : VoP zs) : (chainsR zs)[0]?.getD 0 = 1 := by
  have hn := h.1
  unfold chainsR
  rw [vo_true h]
  simp only [if_true]
  rw [cnt_get (chB zs) (len := (longI zs).toNat + 1) (m := 0) (by omega)]
  rw [filter_and (fun j : Nat => chB zs (j : Int)) (fun j : Nat => (popI (j : Int)).toNat == 0)]
  unfold setsN
  rw [noes_fin ⟨zs.length, by omega⟩, List.filter_cons, if_pos (chB_none zs)]
  rfl
theorem chains_len {zs : List Int} (h : VoP zs) : (chainsR zs).length = (longI zs).toNat + 1 := by
  unfold chainsR
  rw [vo_true h]
  simp [cntTo_len]
theorem du_chains {zs : List Int} (h : VoP zs) : chainsR (du zs) = chainsR zs := by
  unfold chainsR
  rw [vo_true h, vo_true (du_vo h), du_long h, du_chBf h.sets, du_setsN]
theorem long_pos {zs : List Int} (h : zs.length ≠ 0) : 1 ≤ longI zs := by
  have h1 := longI_gt (zs := zs) (a := 0) (by omega)
  have h2 := hgt_nn zs 0
  omega
end Go.Proofs.Ytcadmjpkgnbodaa

/- The model's test of sets. -/
namespace Go.Proofs.Ytcadmjpkgnbodaa
open Go.RowKit Go.Shelf
attribute [local go_sem] Oper.semAt_some
attribute [local go_sem, local simp] wide_fn
end Go.Proofs.Ytcadmjpkgnbodaa

/- Tops: words, the model's helper and the program's. -/
namespace Go.Proofs.Ytcadmjpkgnbodaa
open Go.RowKit Go.Shelf
attribute [local go_sem] Oper.semAt_some
attribute [local go_sem, local simp] wide_fn

/-- The items of s less than k above which there is none of s. -/
def topsTo (zs : List Int) (s : Int) : Nat → Int
  | 0 => 0
  | k + 1 => if bitB s k && andI (zs[k]?.getD 0) s == 0 then orI (topsTo zs s k) (powI k) else topsTo zs s k
theorem topsTo_bd (zs : List Int) (s : Int) : ∀ k : Nat, 0 ≤ topsTo zs s k ∧ topsTo zs s k < powI k
  | 0 => by simp [topsTo, powI]
  | k + 1 => by
    have h := topsTo_bd zs s k
    have hp : powI (k : Int) < powI ((k + 1 : Nat) : Int) := powI_lt (by omega)
    unfold topsTo
    split
    · exact orI_bd h.1 (by omega) (Int.le_of_lt (powI_pos _)) hp
    · omega
theorem topsTo_yes {zs : List Int} {s : Int} {k : Nat} (h : bitB s k = true) (h2 : (andI (zs[k]?.getD 0) s == 0) = true) : topsTo zs s (k + 1) = orI (topsTo zs s k) (powI k) := by simp [topsTo, h, h2]
theorem topsTo_no {zs : List Int} {s : Int} {k : Nat} (h : bitB s k = false ∨ (andI (zs[k]?.getD 0) s == 0) = false) : topsTo zs s (k + 1) = topsTo zs s k := by
  rcases h with h | h <;> simp [topsTo, h]
def topsR (zs : List Int) (s : Int) : Int := if vo zs && inB s 0 (powI zs.length - 1) then topsTo zs s zs.length else -1

theorem topsTo_bit {zs : List Int} {s : Int} (j : Nat) : ∀ k : Nat, bitB (topsTo zs s k) j = true ↔ j < k ∧ bitB s j = true ∧ andI (zs[j]?.getD 0) s = 0
  | 0 => by simp [topsTo, bitB_zero]
  | k + 1 => by
    have ih := topsTo_bit (zs := zs) (s := s) j k
    cases hc : (bitB s k && andI (zs[k]?.getD 0) s == 0)
    · have e : topsTo zs s (k + 1) = topsTo zs s k := by simp only [topsTo]; rw [hc]; rfl
      rw [e, ih]
      constructor
      · rintro ⟨h1, h2⟩; exact ⟨by omega, h2⟩
      · rintro ⟨h1, h2, h3⟩
        refine ⟨?_, h2, h3⟩
        by_cases hjk : j = k
        · subst hjk; rw [h2, h3] at hc; cases hc
        · omega
    · have e : topsTo zs s (k + 1) = orI (topsTo zs s k) (powI k) := by simp only [topsTo]; rw [hc]; rfl
      rw [Bool.and_eq_true] at hc
      rw [e, bitB_or, bitB_pow, Bool.or_eq_true, ih, decide_eq_true_eq]
      constructor
      · rintro (⟨h1, h2⟩ | rfl)
        · exact ⟨by omega, h2⟩
        · exact ⟨by omega, hc.1, by simpa using hc.2⟩
      · rintro ⟨h1, h2⟩
        by_cases hjk : k = j
        · exact .inr hjk
        · exact .inl ⟨by omega, h2⟩
/-- What has been gathered when the items of a list are over. -/
def topsL (zs : List Int) (s : Int) (l : List Nat) : Int := l.foldl (fun (t : Int) (i : Nat) => if andI (zs[i]?.getD 0) s == 0 then orI t (powI i) else t) 0
theorem topsL_yes {zs : List Int} {s : Int} {l : List Nat} {i : Nat} (h : (andI (zs[i]?.getD 0) s == 0) = true) : topsL zs s (l ++ [i]) = orI (topsL zs s l) (powI i) := by
  have h' : andI (zs[i]?.getD 0) s = 0 := by simpa using h
  simp [topsL, h']
theorem topsL_no {zs : List Int} {s : Int} {l : List Nat} {i : Nat} (h : (andI (zs[i]?.getD 0) s == 0) = false) : topsL zs s (l ++ [i]) = topsL zs s l := by
  have h' : ¬ andI (zs[i]?.getD 0) s = 0 := by simpa using h
  simp [topsL, h']
theorem topsL_to (zs : List Int) (s : Int) : ∀ k : Nat, topsL zs s (itemsTo s k) = topsTo zs s k
  | 0 => rfl
  | k + 1 => by
    have ih := topsL_to zs s k
    cases hb : bitB s k
    · rw [itemsTo_no hb, topsTo_no (.inl hb), ih]
    · rw [itemsTo_yes hb]
      cases ha : (andI (zs[k]?.getD 0) s == 0)
      · rw [topsL_no ha, topsTo_no (.inr ha), ih]
      · rw [topsL_yes ha, topsTo_yes hb ha, ih]
theorem topsTo_up {zs : List Int} {s : Int} {n : Nat} (h1 : s < powI n) : ∀ d : Nat, topsTo zs s (n + d) = topsTo zs s n
  | 0 => rfl
  | d + 1 => by
    have hb : bitB s ((n + d : Nat) : Int) = false := by
      cases h : bitB s ((n + d : Nat) : Int) with
      | false => rfl
      | true => have := bitB_lt h1 h; omega
    rw [← Nat.add_assoc, topsTo_no (.inl hb), topsTo_up h1 d]
theorem topsL_all {zs : List Int} {s : Int} {n : Nat} (hn : n ≤ 6) (h1 : s < powI n) : topsL zs s (itemsL s) = topsTo zs s n := by
  rw [itemsL, topsL_to, show (6 : Nat) = n + (6 - n) from by omega, topsTo_up h1]

set_option maxRecDepth 100000 in
set_option maxHeartbeats 4000000 in
theorem tops_any (A : Option Addr) (n c : Nat) (zs : List Int) (s : Int) (hv : Sets zs) (w : World) (hA : Ints w w.heap.size A n zs) (h0 : 0 ≤ s) (h1 : s < powI n) :
    Calls Try.prog 123 #[.slice A n c, .int .i64 s] w fun e W' => e = .returned (.int .i64 (topsTo zs s n)) ∧ Below w.heap.size w W' := by
  refine (callsIn_wide (n := 9)).1 ?_
  refine callsIn_of_wp_marks Try.func123 rfl trivial ?_ rfl
  simp only [Try.ntmps123, List.size_toArray, List.length_cons, List.length_nil, Nat.reduceAdd, Nat.reduceSub, Array.replicate_succ, Array.replicate_zero, List.push_toArray, List.append_toArray, List.nil_append, List.cons_append]
  have hlen := Lib.hid hA.len
  have hn6 : n ≤ 6 := by have := hv.1; rw [hlen.out] at this; exact this
  have hpk : powI n ≤ 64 := powI_le6 (by omega)
  gi_wp2_with (gi_at_call 98; refine (callsIn_wide.2 (each_any _ _)).mono ?_; rintro e w' ⟨rfl, rfl⟩)
  have bO := (((Boxed.new w 38 (.slice A n c)).alloc (.cells #[Value.int .i64 s] 46)).alloc (.cells #[Value.int .i64 0] 46)).alloc (.cells #[Value.int .i64 s] 46)
  have bS := ((Boxed.new (w.alloc (.cells #[Value.slice A n c] 38)) 46 (.int .i64 s)).alloc (.cells #[Value.int .i64 0] 46)).alloc (.cells #[Value.int .i64 s] 46)
  have bT := (Boxed.new ((w.alloc (.cells #[Value.slice A n c] 38)).alloc (.cells #[Value.int .i64 s] 46)) 46 (.int .i64 0)).alloc (.cells #[Value.int .i64 s] 46)
  have bE := Boxed.new (((w.alloc (.cells #[Value.slice A n c] 38)).alloc (.cells #[Value.int .i64 s] 46)).alloc (.cells #[Value.int .i64 0] 46)) 46 (.int .i64 s)
  have hu0 : Upd (fun _ => False) w ((((w.alloc (.cells #[Value.slice A n c] 38)).alloc (.cells #[Value.int .i64 s] 46)).alloc (.cells #[Value.int .i64 0] 46)).alloc (.cells #[Value.int .i64 s] 46)) := ((((Upd.refl _ w).alloc _).alloc _).alloc _).alloc _
  have hz0 : ((((w.alloc (.cells #[Value.slice A n c] 38)).alloc (.cells #[Value.int .i64 s] 46)).alloc (.cells #[Value.int .i64 0] 46)).alloc (.cells #[Value.int .i64 s] 46)).heap.size = w.heap.size + 4 := by simp
  simp only [World.size_alloc] at bO bS bT bE
  obtain ⟨W0, hW0⟩ : ∃ W0, ((((w.alloc (.cells #[Value.slice A n c] 38)).alloc (.cells #[Value.int .i64 s] 46)).alloc (.cells #[Value.int .i64 0] 46)).alloc (.cells #[Value.int .i64 s] 46)) = W0 := ⟨_, rfl⟩
  rw [hW0] at bO bS bT bE hu0 hz0 ⊢
  clear hW0
  have hA0 : Ints W0 w.heap.size A n zs := hA.below (hu0.toBelow (fun _ e => e.elim) (Nat.le_refl _))
  refine range_out (n := 9) (gf := 124) (lb := #[.pointer (some ⟨w.heap.size + 1 + 1 + 1, 0, none⟩)]) rfl (enters_of Try.func124 (by kernel_rfl) rfl) (encs := encI) (L := itemsL s)
    (fun k => k = w.heap.size + 1 + 1) (fun k e => by omega) (fun _ => rfl)
    (fun W1 l1 hu1 hl1 hl2 => each_iter s h0 (by omega) _ _ W1 (hu1.boxed bE (fun e => e)) (fun e => by omega))
    (fun pre D W => (0 ≤ topsL zs s pre ∧ topsL zs s pre < 64) ∧ Boxed W (w.heap.size + 1 + 1) 46 (.int .i64 (topsL zs s pre)) ∧ Upd (fun k => k = w.heap.size + 1 + 1) W0 W)
    (fun _ _ _ _ => False)
    (fun _ D X Y hs hu => ⟨hs.1, hu.boxed hs.2.1 (fun e => by omega), hs.2.2.trans' hu (fun i hi e => by omega)⟩)
    (fun _ _ _ _ _ hs _ => hs)
    ⟨by simp [topsL], bT, Upd.refl _ _⟩ ?owes ?done ?stop
  case owes =>
    rintro l1 pre x D1 W hl1 hl2 hDl hD1 - hpre K hK
    gi_wp2
    refine hK _ _ (Upd.refl _ _) ?_
    rintro Wb hWb - ⟨htb, bT1, hU⟩
    clear hK
    obtain ⟨hx6, hxb⟩ := mem_itemsTo.1 (hpre.subset (by simp : x ∈ pre ++ [x]))
    have hxn := bitB_lt h1 hxb
    have bO1 := hU.boxed bO (by omega)
    have hcO := bO1.cell
    have hcS := (hU.boxed bS (by omega)).cell
    obtain ⟨ab, off, rfl, hab, hc⟩ := hA0.at_ hxn
    have hcx := hU.cell (hc x hxn) (fun e => by simp at e; omega)
    have zx := hv.bd x (by rw [hlen.out]; exact hxn)
    have hsb := hU.size
    have hcT := bT1.cell
    have hfT := bT1.frozen
    have hszb := hWb.size
    have hand : bits .and .i64 (zs[x]?.getD 0) s = andI (zs[x]?.getD 0) s := bits_and (by omega) (by omega) (by omega) (by omega)
    cases ha : (andI (zs[x]?.getD 0) s == 0)
    · have Hn := Lib.hid (topsL_no (l := pre) ha)
      gi_wp2
      refine region_quiet_round (by kernel_rfl) (by kernel_rfl) (by kernel_rfl) ?_
      repeat (gi_big_quiet_step (fail))
      refine wpQuietIn_nil ?_
      intro _ hw'
      obtain ⟨nq, hw''⟩ := hw'
      subst hw''
      gi_wp2
      exact ⟨D1, ⟨by rw [Hn.out]; exact htb, by rw [Hn.out]; exact bT1, hU.drewN _⟩, (Upd.refl _ _).drewN _, fun k hk => .inl hk⟩
    · have Hn := Lib.hid (topsL_yes (l := pre) ha)
      have hob := orI_bd (a := topsL zs s pre) (b := powI x) (n := 6) htb.1 htb.2 (Int.le_of_lt (powI_pos _)) (powI_lt hx6)
      gi_wp2
      refine region_quiet_round (by kernel_rfl) (by kernel_rfl) (by kernel_rfl) ?_
      repeat (gi_big_quiet_step (fail))
      refine wpQuietIn_nil ?_
      intro _ hw'
      obtain ⟨nq, hw''⟩ := hw'
      subst hw''
      gi_wp2_with (gi_at_call 79; refine (CallsIn.inRound l1 (callsIn_wide.2 (with_any _ _ _ htb.1 htb.2 (by omega) (by omega)))).mono ?_; rintro e w' ⟨rfl, rfl⟩)
      exact ⟨D1, ⟨by rw [Hn.out]; exact hob, by rw [Hn.out]; exact bT1.set _, (hU.drewN _).setCell (p := ⟨w.heap.size + 1 + 1, 0, none⟩) (.inr rfl) _⟩, ((Upd.refl _ _).drewN _).setCell (p := ⟨w.heap.size + 1 + 1, 0, none⟩) (.inr (.inl rfl)) _, fun k hk => .inl hk⟩
  case done =>
    rintro d D1 W hd ⟨htb, bT1, hU⟩ hD1 hKd
    have Ht := Lib.hid (topsL_all (zs := zs) hn6 h1)
    have hcT := bT1.cell
    gi_wp2
    refine leaves_marks [d] _ ⟨by simp, fun b hb => ?_⟩ (fun W' hu' => ?_)
    · rw [List.mem_singleton.1 hb]
      exact hKd
    · exact ⟨.int .i64 (topsL zs s (itemsL s)), by simp [results, Try.f123, go_sem], ret_int Ht.out,
        (((hu0.mono fun _ _ e => e.elim).trans' hU (fun i hi e => by omega)).trans' hu' (fun i hi e => by simp at e; omega)).toBelow (R := fun _ => False) (fun _ e => e.elim) (Nat.le_refl _)⟩
  case stop =>
    rintro d D1 co pre W hd hpre h
    exact h.elim
end Go.Proofs.Ytcadmjpkgnbodaa

/- Ideals, as plain mathematics: what is below a set, when a set is an ideal, and how both are found pair by pair. No program. -/
namespace Go.Proofs.Ytcadmjpkgnbodaa

/-- The set with all that is below its items less than k. -/
def belTo (ds : List Int) (s : Int) : Nat → Int
  | 0 => s
  | k + 1 => if bitB s k then orI (belTo ds s k) (ds[k]?.getD 0) else belTo ds s k
theorem belTo_yes {ds : List Int} {s : Int} {k : Nat} (h : bitB s k = true) : belTo ds s (k + 1) = orI (belTo ds s k) (ds[k]?.getD 0) := by simp [belTo, h]
theorem belTo_no {ds : List Int} {s : Int} {k : Nat} (h : bitB s k = false) : belTo ds s (k + 1) = belTo ds s k := by simp [belTo, h]
theorem belTo_bd {ds : List Int} (h : Sets ds) {s : Int} (h0 : 0 ≤ s) (h1 : s < powI ds.length) : ∀ k : Nat, k ≤ ds.length → 0 ≤ belTo ds s k ∧ belTo ds s k < powI ds.length
  | 0, _ => ⟨h0, h1⟩
  | k + 1, hk => by
    have ih := belTo_bd h h0 h1 k (by omega)
    have hz := h.2 k (by omega)
    unfold belTo
    split
    · exact orI_bd ih.1 ih.2 hz.1 hz.2
    · exact ih
theorem belTo_bit (ds : List Int) (s : Int) (j : Nat) : ∀ k : Nat, bitB (belTo ds s k) j = true ↔ bitB s j = true ∨ ∃ b : Nat, b < k ∧ bitB s b = true ∧ bitB (ds[b]?.getD 0) j = true
  | 0 => by simp [belTo]
  | k + 1 => by
    have ih := belTo_bit ds s j k
    cases hb : bitB s k
    · rw [belTo_no hb, ih]
      constructor
      · rintro (h | ⟨b, h1, h2⟩)
        · exact .inl h
        · exact .inr ⟨b, by omega, h2⟩
      · rintro (h | ⟨b, h1, h2, h3⟩)
        · exact .inl h
        · have : b ≠ k := fun e => by rw [e, hb] at h2; cases h2
          exact .inr ⟨b, by omega, h2, h3⟩
    · rw [belTo_yes hb, bitB_or, Bool.or_eq_true, ih]
      constructor
      · rintro ((h | ⟨b, h1, h2⟩) | h)
        · exact .inl h
        · exact .inr ⟨b, by omega, h2⟩
        · exact .inr ⟨k, by omega, hb, h⟩
      · rintro (h | ⟨b, h1, h2, h3⟩)
        · exact .inl (.inl h)
        · by_cases e : b = k
          · rw [e] at h3; exact .inr h3
          · exact .inl (.inr ⟨b, by omega, h2, h3⟩)
/-- The set with all that is below its items. -/
def belI (zs : List Int) (s : Int) : Int := belTo (du zs) s zs.length
theorem belI_bd {zs : List Int} (h : Sets zs) {s : Int} (h0 : 0 ≤ s) (h1 : s < powI zs.length) : 0 ≤ belI zs s ∧ belI zs s < powI zs.length := by
  have := belTo_bd (du_sets h) (s := s) h0 (by rw [du_len]; exact h1) zs.length (by rw [du_len]; exact Nat.le_refl _)
  rwa [du_len] at this
theorem belI_bit {zs : List Int} (h : Sets zs) {s : Int} (h1 : s < powI zs.length) (j : Nat) : bitB (belI zs s) j = true ↔ bitB s j = true ∨ ∃ b : Nat, bitB s b = true ∧ bitB (zs[j]?.getD 0) b = true := by
  unfold belI
  rw [belTo_bit]
  constructor
  · rintro (e | ⟨b, _, h2, h3⟩)
    · exact .inl e
    · exact .inr ⟨b, h2, by rwa [du_bit h] at h3⟩
  · rintro (e | ⟨b, h2, h3⟩)
    · exact .inl e
    · exact .inr ⟨b, bitB_lt h1 h2, h2, by rwa [du_bit h]⟩
/-- Whether the set is an ideal. -/
def idB (zs : List Int) (s : Int) : Bool := belI zs s == s
theorem idB_iff {zs : List Int} (h : Sets zs) {s : Int} (h0 : 0 ≤ s) (h1 : s < powI zs.length) : idB zs s = true ↔ ∀ a b : Nat, bitB s b = true → bitB (zs[a]?.getD 0) b = true → bitB s a = true := by
  unfold idB
  rw [beq_iff_eq]
  constructor
  · intro e a b h2 h3
    rw [← e]
    exact (belI_bit h h1 a).2 (.inr ⟨b, h2, h3⟩)
  · intro e
    refine bitB_ext (belI_bd h h0 h1).1 h0 fun j => ?_
    rw [Bool.eq_iff_iff, belI_bit h h1]
    constructor
    · rintro (e1 | ⟨b, h2, h3⟩)
      · exact e1
      · exact e j b h2 h3
    · exact .inl
/-- The model's test: the items less than k have all below them. -/
def idTo (ds : List Int) (s : Int) (k : Nat) : Bool := (List.range k).all fun a : Nat => !bitB s a || lessI (ds[a]?.getD 0) s == 0
theorem lessI_none {a b : Int} : lessI a b = 0 ↔ ∀ j : Nat, bitB a j = true → bitB b j = true := by
  constructor
  · intro h j hj
    have : bitB (lessI a b) j = false := by rw [h, bitB_zero]
    rw [bitB_less, hj] at this
    simpa using this
  · intro h
    refine bitB_ext (lessI_bd _ _).1 (Int.le_refl _) fun j => ?_
    rw [bitB_less, bitB_zero]
    cases e : bitB a j
    · rfl
    · rw [h j e]; rfl
theorem idTo_all {zs : List Int} (h : Sets zs) {s : Int} (h0 : 0 ≤ s) (h1 : s < powI zs.length) : idTo (du zs) s zs.length = idB zs s := by
  rw [Bool.eq_iff_iff, idB_iff h h0 h1]
  unfold idTo
  rw [List.all_eq_true]
  constructor
  · intro e a b h2 h3
    have hb := bitB_lt h1 h2
    have := e b (by simpa using hb)
    rw [h2] at this
    simp only [Bool.not_true, Bool.false_or, beq_iff_eq] at this
    exact lessI_none.1 this a (by rwa [du_bit h])
  · intro e b _
    cases h2 : bitB s b
    · rfl
    · simp only [Bool.not_true, Bool.false_or, beq_iff_eq]
      exact lessI_none.2 fun j hj => e j b h2 (by rwa [du_bit h] at hj)
theorem idTo_no {ds : List Int} {s : Int} {k n : Nat} (hk : k < n) (h1 : bitB s k = true) (h2 : (lessI (ds[k]?.getD 0) s == 0) = false) : idTo ds s n = false := by
  cases e : idTo ds s n
  · rfl
  · have := List.all_eq_true.1 e k (by simpa using hk)
    rw [h1, h2] at this; cases this
theorem idTo_succ {ds : List Int} {s : Int} {k : Nat} (h : idTo ds s k = true) (h2 : bitB s k = false ∨ (lessI (ds[k]?.getD 0) s == 0) = true) : idTo ds s (k + 1) = true := by
  unfold idTo at h ⊢
  rw [List.range_succ, List.all_append, h]
  rcases h2 with h2 | h2 <;> simp [h2]

/-- What is marked when a list of pairs is over. -/
def mkP (s : Int) (ps : List (Nat × Nat)) : Int := ps.foldl (fun (m : Int) (p : Nat × Nat) => if bitB m p.2 then orI m (powI p.1) else m) s
theorem mkP_yes {s : Int} {ps : List (Nat × Nat)} {a b : Nat} (h : bitB (mkP s ps) b = true) : mkP s (ps ++ [(a, b)]) = orI (mkP s ps) (powI a) := by
  unfold mkP at *
  rw [List.foldl_append]
  simp only [List.foldl_cons, List.foldl_nil]
  rw [if_pos h]
theorem mkP_no {s : Int} {ps : List (Nat × Nat)} {a b : Nat} (h : bitB (mkP s ps) b = false) : mkP s (ps ++ [(a, b)]) = mkP s ps := by
  unfold mkP at *
  rw [List.foldl_append]
  simp only [List.foldl_cons, List.foldl_nil]
  rw [if_neg (by rw [h]; decide)]
theorem mkP_bd {n : Nat} : ∀ (ps : List (Nat × Nat)) {s : Int}, (∀ p ∈ ps, p.1 < n) → 0 ≤ s → s < powI n → 0 ≤ mkP s ps ∧ mkP s ps < powI n
  | [], s, _, h0, h1 => ⟨h0, h1⟩
  | p :: ps, s, h, h0, h1 => by
    have e : mkP s (p :: ps) = mkP (if bitB s p.2 then orI s (powI p.1) else s) ps := rfl
    rw [e]
    have hp := h p (by simp)
    split
    · have := orI_bd (a := s) (b := powI p.1) (n := n) h0 h1 (Int.le_of_lt (powI_pos _)) (powI_lt hp)
      exact mkP_bd ps (fun q hq => h q (by simp [hq])) this.1 this.2
    · exact mkP_bd ps (fun q hq => h q (by simp [hq])) h0 h1
theorem mkP_inv {zs : List Int} (h : VoP zs) {s : Int} : ∀ (ps : List (Nat × Nat)) (m : Int), (∀ p ∈ ps, lt zs p.1 p.2) → (∀ j : Nat, bitB s j = true → bitB m j = true) →
    (∀ j : Nat, bitB m j = true → bitB s j = true ∨ ∃ b : Nat, bitB s b = true ∧ bitB (zs[j]?.getD 0) b = true) →
    (∀ j : Nat, bitB m j = true → bitB (mkP m ps) j = true) ∧ (∀ j : Nat, bitB (mkP m ps) j = true → bitB s j = true ∨ ∃ b : Nat, bitB s b = true ∧ bitB (zs[j]?.getD 0) b = true) ∧ ∀ p ∈ ps, bitB s p.2 = true → bitB (mkP m ps) p.1 = true
  | [], m, _, _, h2 => ⟨fun _ e => e, h2, fun p hp => by cases hp⟩
  | p :: ps, m, hp, h1, h2 => by
    have e : mkP m (p :: ps) = mkP (if bitB m p.2 then orI m (powI p.1) else m) ps := rfl
    rw [e]
    have hlt := hp p (by simp)
    cases hb : bitB m p.2
    · rw [if_neg (by decide)]
      obtain ⟨g1, g2, g3⟩ := mkP_inv h ps m (fun q hq => hp q (by simp [hq])) h1 h2
      refine ⟨g1, g2, fun q hq hs => ?_⟩
      rcases List.mem_cons.1 hq with rfl | hq
      · rw [h1 _ hs] at hb; cases hb
      · exact g3 q hq hs
    · rw [if_pos rfl]
      have hs1 : ∀ j : Nat, bitB m j = true → bitB (orI m (powI p.1)) j = true := fun j hj => by rw [bitB_or, hj]; rfl
      obtain ⟨g1, g2, g3⟩ := mkP_inv h ps (orI m (powI p.1)) (fun q hq => hp q (by simp [hq])) (fun j hj => hs1 j (h1 j hj)) (fun j hj => by
        rw [bitB_or, bitB_pow, Bool.or_eq_true, decide_eq_true_eq] at hj
        rcases hj with hj | rfl
        · exact h2 j hj
        · rcases h2 _ hb with hs | ⟨b, hs, hz⟩
          · exact .inr ⟨p.2, hs, hlt.2⟩
          · refine .inr ⟨b, hs, (h.trans hlt ⟨?_, hz⟩).2⟩
            rcases Nat.lt_or_ge p.2 zs.length with h1 | h1
            · exact h1
            · rw [List.getElem?_eq_none (by omega), Option.getD_none, bitB_zero] at hz; cases hz)
      refine ⟨fun j hj => g1 j (hs1 j hj), g2, fun q hq hs => ?_⟩
      rcases List.mem_cons.1 hq with rfl | hq
      · exact g1 _ (by rw [bitB_or, bitB_pow]; simp)
      · exact g3 q hq hs
theorem mkP_all {zs : List Int} (h : VoP zs) {s : Int} (h0 : 0 ≤ s) (h1 : s < powI zs.length) : mkP s (pairsL zs) = belI zs s := by
  obtain ⟨g1, g2, g3⟩ := mkP_inv h (s := s) (pairsL zs) s (fun p hp => by
    obtain ⟨ha, _, hb⟩ := mem_pairsL.1 (show (p.1, p.2) ∈ pairsL zs from hp)
    exact ⟨ha, hb⟩) (fun _ e => e) (fun _ e => .inl e)
  refine bitB_ext (mkP_bd (n := zs.length) _ (fun p hp => (mem_pairsL.1 (show (p.1, p.2) ∈ pairsL zs from hp)).1) h0 h1).1 (belI_bd h.sets h0 h1).1 fun j => ?_
  rw [Bool.eq_iff_iff, belI_bit h.sets h1]
  constructor
  · exact g2 j
  · rintro (e | ⟨b, hs, hz⟩)
    · exact g1 j e
    · refine g3 (j, b) (mem_pairsL.2 ⟨?_, ?_, hz⟩) hs
      · rcases Nat.lt_or_ge j zs.length with h1 | h1
        · exact h1
        · rw [List.getElem?_eq_none (by omega), Option.getD_none, bitB_zero] at hz; cases hz
      · have := bitB_lt h1 hs; have := h.1; omega

/-! What the functions answer. -/
def isIdealR (zs : List Int) (s : Int) : Bool := (vo zs && inB s 0 (powI zs.length - 1)) && idB zs s
def belowR (zs : List Int) (s : Int) : Int := if vo zs && inB s 0 (powI zs.length - 1) then belI zs s else -1
def nextI (zs : List Int) (s : Int) : Int := belI zs (topsTo (du zs) (powI zs.length - 1 - s) zs.length)
def nextR (zs : List Int) (s : Int) : Int := if isIdealR zs s then nextI zs s else -1
/-- The sets less than k for which p holds, ascending. -/
def setsTo (p : Int → Bool) (k : Nat) : List Int := ((List.range k).filter fun j : Nat => p (j : Int)).map fun j : Nat => (j : Int)
theorem setsTo_yes {p : Int → Bool} {k : Nat} (h : p (k : Int) = true) : setsTo p (k + 1) = setsTo p k ++ [(k : Int)] := by
  simp [setsTo, List.range_succ, h]
theorem setsTo_no {p : Int → Bool} {k : Nat} (h : p (k : Int) = false) : setsTo p (k + 1) = setsTo p k := by
  simp [setsTo, List.range_succ, h]
theorem setsTo_len (p : Int → Bool) (k : Nat) : (setsTo p k).length ≤ k := by
  unfold setsTo
  rw [List.length_map]
  exact Nat.le_trans (List.length_filter_le _ _) (by simp)
def idealsR (zs : List Int) : List Int := if vo zs then setsTo (idB zs) (2 ^ zs.length) else []
def apartsR (zs : List Int) : List Int := if vo zs then setsTo (apB zs) (2 ^ zs.length) else []
end Go.Proofs.Ytcadmjpkgnbodaa

/- Sets that part all items, as the laws see them. -/
namespace Go.Proofs.Ytcadmjpkgnbodaa
open Go.RowKit Go.Shelf

/-- All items of the first k sets. -/
def seenTo (xs : List Int) : Nat → Int
  | 0 => 0
  | k + 1 => orI (seenTo xs k) (xs[k]?.getD 0)
theorem seenTo_bit (xs : List Int) (j : Nat) : ∀ k : Nat, bitB (seenTo xs k) j = true ↔ ∃ i, i < k ∧ bitB (xs[i]?.getD 0) j = true
  | 0 => by simp [seenTo, bitB_zero]
  | k + 1 => by
    unfold seenTo
    rw [bitB_or, Bool.or_eq_true, seenTo_bit xs j k]
    constructor
    · rintro (⟨i, hi, e⟩ | e)
      · exact ⟨i, by omega, e⟩
      · exact ⟨k, by omega, e⟩
    · rintro ⟨i, hi, e⟩
      by_cases hik : i = k
      · subst hik; exact .inr e
      · exact .inl ⟨i, by omega, e⟩
theorem seenTo_bd {xs : List Int} {n : Nat} (h : ∀ i, i < xs.length → 0 ≤ xs[i]?.getD 0 ∧ xs[i]?.getD 0 < powI n) : ∀ k : Nat, k ≤ xs.length → 0 ≤ seenTo xs k ∧ seenTo xs k < powI n
  | 0, _ => ⟨Int.le_refl _, powI_pos _⟩
  | k + 1, hk => by
    have h1 := seenTo_bd h k (by omega)
    have h2 := h k (by omega)
    exact orI_bd h1.1 h1.2 h2.1 h2.2
/-- Each item is in just one of the sets. -/
structure PartsOk (xs : List Int) (n : Nat) : Prop where
  n6 : n ≤ 6
  bd : ∀ i, i < xs.length → 0 ≤ xs[i]?.getD 0 ∧ xs[i]?.getD 0 < powI n
  apart : ∀ i k j : Nat, i < k → k < xs.length → bitB (xs[i]?.getD 0) j = true → bitB (xs[k]?.getD 0) j = true → False
  all : ∀ j : Nat, j < n → ∃ i, i < xs.length ∧ bitB (xs[i]?.getD 0) j = true
theorem all_bits {n : Nat} : ∀ j : Nat, bitB (powI n - 1) j = decide (j < n) := fun j => by
  have e : (powI (n : Int) - 1).toNat = 2 ^ n - 1 := by
    have : powI (n : Int) = ((2 ^ n : Nat) : Int) := by simp [powI]
    omega
  simp [bitB, e, Nat.testBit_two_pow_sub_one]
theorem PartsOk.seen {xs : List Int} {n : Nat} (h : PartsOk xs n) : seenTo xs xs.length = powI n - 1 := by
  have hb := seenTo_bd h.bd xs.length (Nat.le_refl _)
  have hp := powI_pos (n : Int)
  refine bitB_ext hb.1 (by omega) fun j => ?_
  rw [all_bits]
  by_cases hj : j < n
  · have := (seenTo_bit xs j xs.length).2 (h.all j hj)
    rw [this]; simp [hj]
  · cases e : bitB (seenTo xs xs.length) j
    · simp [hj]
    · exact absurd (bitB_lt hb.2 e) hj
theorem PartsOk.no {xs : List Int} {n k : Nat} (h : PartsOk xs n) (hk : k < xs.length) : andI (seenTo xs k) (xs[k]?.getD 0) = 0 := by
  refine bitB_ext (andI_bd _ _).1 (Int.le_refl _) fun j => ?_
  rw [bitB_and, bitB_zero]
  cases e : bitB (seenTo xs k) j
  · rfl
  · cases e2 : bitB (xs[k]?.getD 0) j
    · rfl
    · obtain ⟨i, hi, hb⟩ := (seenTo_bit xs j k).1 e
      exact (h.apart i k j hi hk hb e2).elim

theorem lall_any (n : Nat) (w : World) (h1 : n ≤ 6) :
    Calls Try.prog 65 #[.int .i64 (n : Int)] w fun e w' => e = .returned (.int .i64 (powI n - 1)) ∧ w = w' := by
  have hp := powI_le6 (n := (n : Int)) (by omega)
  have hq := powI_pos (n : Int)
  go_enter Try.func65, Try.ntmps65
  go_wp2
  go_ret
  exact ⟨ret_int (by
    have : wrap64 (2 ^ ((n : Int)).toNat) = powI n := IntWalk.wrap64_in _ ⟨by unfold powI at hq; omega, by unfold powI at hp; omega⟩
    simp only [Int.toNat_natCast] at this
    rw [this]; exact IntWalk.wrap64_in _ ⟨by omega, by omega⟩), rfl⟩

set_option maxHeartbeats 1000000 in
theorem parts_any (A : Option Addr) (m c B n : Nat) (xs : List Int) (w : World) (h : Ints w B A m xs) (hp : PartsOk xs n) (hm : m ≤ 1048576) :
    Calls Try.prog 31 #[.slice A m c, .int .i64 (n : Int)] w fun e w' => e = .returned (.bool true) ∧ ∃ q, w' = w.drewN q := by
  have hlen := Lib.hid h.len
  have hn6 := hp.n6
  have hp64 := powI_le6 (n := (n : Int)) (by omega)
  go_enter Try.func31, Try.ntmps31
  go_wp2
  go_loopw [5, 6] (fun s i wr => ∃ k q : Nat, k ≤ m ∧ i = .int .i64 k ∧ s = .int .i64 (seenTo xs k) ∧ wr = w.drewN q) (fun _ i _ => m - (intOf i).toNat)
  case atStart => exact ⟨0, 0, by omega, rfl, rfl, rfl⟩
  case round =>
    obtain ⟨k, q, hk, rfl, rfl, rfl⟩ := hrel
    have hsb := seenTo_bd hp.bd k (by rw [hlen.out]; exact hk)
    by_cases hlt : k < m
    · obtain ⟨b, off, rfl, _, hc⟩ := h.at_ hlt
      have hck := hc k hlt
      have hxb := hp.bd k (by rw [hlen.out]; exact hlt)
      have hno := hp.no (k := k) (by rw [hlen.out]; exact hlt)
      have Hs := Lib.hid (show seenTo xs (k + 1) = orI (seenTo xs k) (xs[k]?.getD 0) from rfl)
      clear hc h
      generalize seenTo xs k = s at *
      generalize xs[k]?.getD 0 = x at *
      have e1 : bits .and .i64 s x = 0 := by rw [bits_and (by omega) (by omega) (by omega) (by omega)]; exact hno
      have e2 := Lib.hid (bits_or (a := s) (b := x) (by omega) (by omega) (by omega) (by omega))
      clear hno
      go_wp2
      go_roundw
      case rel => exact ⟨k + 1, _, by omega, by go_num, by rw [Hs.out, ← e2.out], rfl⟩
      case measure => simp [intOf]; omega
    · obtain rfl : k = m := by omega
      have Hall := Lib.hid hp.seen
      rw [hlen.out] at Hall
      go_wp2_with (go_at_call 65; refine (lall_any _ _ hn6).mono ?_; rintro e w' ⟨rfl, rfl⟩)
      go_ret
      exact ⟨ret_bool (by rw [Hall.out]; simp), _, rfl⟩
end Go.Proofs.Ytcadmjpkgnbodaa

/- Lines, as plain mathematics: what is lined up, what is left, and when the next item may come. No program. -/
namespace Go.Proofs.Ytcadmjpkgnbodaa

/-- The first k items of the list. -/
def doneTo (ls : List Int) : Nat → Int
  | 0 => 0
  | k + 1 => orI (doneTo ls k) (powI (ls[k]?.getD 0))
/-- All items but the first k of the list. -/
def leftTo (n : Nat) (ls : List Int) : Nat → Int
  | 0 => powI n - 1
  | k + 1 => lessI (leftTo n ls k) (powI (ls[k]?.getD 0))
/-- The item k of the list is one, was not yet there, and all below it were. -/
def stepOk (zs ls : List Int) (k : Nat) : Bool :=
  inB (ls[k]?.getD 0) 0 ((zs.length : Int) - 1) && (!bitB (doneTo ls k) (ls[k]?.getD 0) && (lessI ((du zs)[(ls[k]?.getD 0).toNat]?.getD 0) (doneTo ls k) == 0))
def lineB (zs ls : List Int) : Bool := decide (ls.length = zs.length) && (List.range ls.length).all (stepOk zs ls)
def isLineR (zs ls : List Int) : Bool := vo zs && lineB zs ls

theorem lineB_yes {zs ls : List Int} {m : Nat} (hm : ls.length = m) (hl : m = zs.length) (h : ∀ k, k < m → stepOk zs ls k = true) : lineB zs ls = true := by
  unfold lineB
  rw [Bool.and_eq_true, List.all_eq_true]
  exact ⟨by simp; omega, fun k hk => h k (by rw [← hm]; exact List.mem_range.1 hk)⟩
theorem lineB_len {zs ls : List Int} {m : Nat} (hm : ls.length = m) (hl : m ≠ zs.length) : lineB zs ls = false := by
  unfold lineB
  rw [decide_eq_false (by omega)]
  rfl
theorem lineB_no {zs ls : List Int} {m k : Nat} (hm : ls.length = m) (hk : k < m) (h : stepOk zs ls k = false) : lineB zs ls = false := by
  cases e : lineB zs ls
  · rfl
  · unfold lineB at e
    rw [Bool.and_eq_true, List.all_eq_true] at e
    have := e.2 k (List.mem_range.2 (by omega))
    rw [h] at this
    cases this
theorem stepOk_in {zs ls : List Int} {k : Nat} (h : stepOk zs ls k = true) : 0 ≤ ls[k]?.getD 0 ∧ ls[k]?.getD 0 < zs.length := by
  unfold stepOk at h
  rw [Bool.and_eq_true] at h
  have : (0 : Int) ≤ ls[k]?.getD 0 ∧ ls[k]?.getD 0 ≤ (zs.length : Int) - 1 := by simpa [inB] using h.1
  omega
theorem stepOk_new {zs ls : List Int} {k : Nat} (h : stepOk zs ls k = true) : bitB (doneTo ls k) (ls[k]?.getD 0) = false := by
  unfold stepOk at h
  rw [Bool.and_eq_true, Bool.and_eq_true] at h
  simpa using h.2.1
theorem doneTo_bd {zs ls : List Int} : ∀ k : Nat, (∀ i, i < k → stepOk zs ls i = true) → 0 ≤ doneTo ls k ∧ doneTo ls k < powI zs.length
  | 0, _ => ⟨Int.le_refl _, powI_pos _⟩
  | k + 1, h => by
    have h1 := doneTo_bd k fun i hi => h i (by omega)
    have h2 := stepOk_in (h k (by omega))
    obtain ⟨a, ha⟩ := Int.eq_ofNat_of_zero_le h2.1
    have h3 : powI (a : Int) < powI (zs.length : Int) := powI_lt (by omega)
    have h4 := powI_pos (a : Int)
    unfold doneTo
    rw [ha]
    exact orI_bd h1.1 h1.2 (by omega) h3
theorem leftTo_bd {n : Nat} {ls : List Int} : ∀ k : Nat, 0 ≤ leftTo n ls k ∧ leftTo n ls k < powI n
  | 0 => by have := powI_pos (n : Int); unfold leftTo; omega
  | k + 1 => by
    have h1 := leftTo_bd (n := n) (ls := ls) k
    have h2 := lessI_bd (leftTo n ls k) (powI (ls[k]?.getD 0))
    unfold leftTo
    omega
theorem leftTo_bit {zs ls : List Int} (j : Nat) : ∀ k : Nat, (∀ i, i < k → stepOk zs ls i = true) → bitB (leftTo zs.length ls k) j = (decide (j < zs.length) && !bitB (doneTo ls k) j)
  | 0, _ => by unfold leftTo doneTo; rw [all_bits, bitB_zero]; simp
  | k + 1, h => by
    have ih := leftTo_bit (zs := zs) (ls := ls) j k fun i hi => h i (by omega)
    have h2 := stepOk_in (h k (by omega))
    obtain ⟨a, ha⟩ := Int.eq_ofNat_of_zero_le h2.1
    unfold leftTo doneTo
    rw [ha, bitB_less, bitB_or, bitB_pow, ih]
    cases decide (j < zs.length) <;> cases bitB (doneTo ls k) j <;> cases decide (a = j) <;> rfl
/-- As the program asks it: the item is a top, turned round, of what is left. -/
theorem step_tops {zs ls : List Int} (h : VoP zs) {k : Nat} (hk : ∀ i, i < k → stepOk zs ls i = true) {a : Nat} (ha : ls[k]?.getD 0 = (a : Int)) (hn : a < zs.length) :
    bitB (topsTo (du zs) (leftTo zs.length ls k) zs.length) a = stepOk zs ls k := by
  have hds := (du_sets h.sets).2 a (by rw [du_len]; exact hn)
  rw [du_len] at hds
  have hl := leftTo_bit (zs := zs) (ls := ls) a k hk
  have hin : inB (a : Int) 0 ((zs.length : Int) - 1) = true := by simp [inB]; omega
  have key : bitB (topsTo (du zs) (leftTo zs.length ls k) zs.length) a = true ↔ stepOk zs ls k = true := by
    rw [topsTo_bit]
    unfold stepOk
    rw [ha, hin, hl, Bool.true_and, Int.toNat_natCast]
    simp only [Bool.and_eq_true]
    have e2 : andI ((du zs)[a]?.getD 0) (leftTo zs.length ls k) = 0 ↔ (lessI ((du zs)[a]?.getD 0) (doneTo ls k) == 0) = true := by
      rw [beq_iff_eq, andI_zero]
      constructor
      · intro e
        refine bitB_ext (lessI_bd _ _).1 (Int.le_refl _) fun j => ?_
        rw [bitB_less, bitB_zero]
        cases e1 : bitB ((du zs)[a]?.getD 0) j
        · rfl
        · cases e3 : bitB (doneTo ls k) j
          · have hj := bitB_lt hds.2 e1
            have := e j (by rw [leftTo_bit (zs := zs) (ls := ls) j k hk, e3]; simp [hj])
            rw [e1] at this; cases this
          · rfl
      · intro e j hj
        rw [leftTo_bit (zs := zs) (ls := ls) j k hk, Bool.and_eq_true] at hj
        cases e1 : bitB ((du zs)[a]?.getD 0) j
        · rfl
        · have := bitB_less ((du zs)[a]?.getD 0) (doneTo ls k) j
          rw [e, bitB_zero, e1] at this
          simp at this hj
          rw [this] at hj
          simp at hj
    constructor
    · rintro ⟨_, h1, h2⟩
      exact ⟨h1.2, e2.1 h2⟩
    · rintro ⟨h1, h2⟩
      exact ⟨hn, ⟨by simpa using hn, h1⟩, e2.2 h2⟩
  cases e1 : bitB (topsTo (du zs) (leftTo zs.length ls k) zs.length) a <;> cases e2 : stepOk zs ls k <;> simp_all
end Go.Proofs.Ytcadmjpkgnbodaa

/- In how many ways an order is lined up: counted from the first item on, and from the last one back, it is as many. No program. -/
namespace Go.Proofs.Ytcadmjpkgnbodaa

/-! Sums over lists. -/
theorem sum_map_add {α : Type} (f g : α → Nat) : ∀ l : List α, (l.map fun x => f x + g x).sum = (l.map f).sum + (l.map g).sum
  | [] => rfl
  | x :: l => by
    have := sum_map_add f g l
    simp only [List.map_cons, List.sum_cons] at this ⊢
    omega
theorem sum_map_zero {α : Type} : ∀ l : List α, (l.map fun _ => 0).sum = 0
  | [] => rfl
  | _ :: l => by simpa using sum_map_zero l
theorem sum_swap {α β : Type} (f : α → β → Nat) (m : List β) : ∀ l : List α, (l.map fun x => (m.map (f x)).sum).sum = (m.map fun y => (l.map fun x => f x y).sum).sum
  | [] => by simpa using (sum_map_zero m).symm
  | x :: l => by
    rw [List.map_cons, List.sum_cons, sum_swap f m l, ← sum_map_add]
    rfl
theorem sum_mul {α : Type} (c : Nat) (f : α → Nat) : ∀ l : List α, (l.map fun x => c * f x).sum = c * (l.map f).sum
  | [] => rfl
  | x :: l => by rw [List.map_cons, List.sum_cons, List.map_cons, List.sum_cons, sum_mul c f l, Nat.mul_add]
theorem sum_if {α : Type} (p : α → Bool) (f : α → Nat) : ∀ l : List α, (l.map fun x => if p x then f x else 0).sum = ((l.filter p).map f).sum
  | [] => rfl
  | x :: l => by
    rw [List.map_cons, List.sum_cons, sum_if p f l, List.filter_cons]
    cases p x <;> simp
theorem sum_congr {α : Type} {f g : α → Nat} {l : List α} (h : ∀ x ∈ l, f x = g x) : (l.map f).sum = (l.map g).sum := by rw [List.map_congr_left h]

/-- The sets with the item a are those without it, and it. -/
theorem with_item : ∀ n : Fin 7, ∀ a : Fin 6, a.val < n.val → (List.range (2 ^ n.val)).filter (fun s : Nat => s.testBit a.val) = ((List.range (2 ^ n.val)).filter fun s : Nat => !s.testBit a.val).map fun s => s + 2 ^ a.val := by decide +kernel
/-- Edges: by the items s, the item a comes next. -/
def nextE (zs : List Int) (s a : Nat) : Bool := !s.testBit a && (lessI ((du zs)[a]?.getD 0) (s : Int) == 0)
def belowAny (zs : List Int) (s a : Nat) : Bool := (List.range zs.length).any fun b => s.testBit b && bitB ((du zs)[b]?.getD 0) a
/-- As the model asks it: a is one of s, with all below it there, and below none of s. -/
def eG (zs : List Int) (s a : Nat) : Bool := s.testBit a && ((lessI ((du zs)[a]?.getD 0) (s : Int) == 0) && !belowAny zs s a)
/-- As the program asks it: a is one of what is left, of which none is below it. -/
def eF (zs : List Int) (s a : Nat) : Bool := s.testBit a && (andI ((du zs)[a]?.getD 0) (s : Int) == 0)
theorem sub_lt {s a : Nat} (h : ¬ s = 0) : s - 2 ^ a < s := by have := Nat.two_pow_pos a; omega
/-- In how many ways the set s is lined up. -/
def cG (zs : List Int) (s : Nat) : Nat := if h : s = 0 then 1 else ((List.range zs.length).map fun a => if eG zs s a then cG zs (s - 2 ^ a) else 0).sum
termination_by s
decreasing_by exact sub_lt h
/-- In how many ways what is left is lined up. -/
def cF (zs : List Int) (s : Nat) : Nat := if h : s = 0 then 1 else ((List.range zs.length).map fun a => if eF zs s a then cF zs (s - 2 ^ a) else 0).sum
termination_by s
decreasing_by exact sub_lt h
theorem cG_zero (zs : List Int) : cG zs 0 = 1 := by rw [cG]; rfl
theorem cF_zero (zs : List Int) : cF zs 0 = 1 := by rw [cF]; rfl
theorem cG_pos {zs : List Int} {s : Nat} (h : s ≠ 0) : cG zs s = ((List.range zs.length).map fun a => if eG zs s a then cG zs (s - 2 ^ a) else 0).sum := by rw [cG, dif_neg h]
theorem cF_pos {zs : List Int} {s : Nat} (h : s ≠ 0) : cF zs s = ((List.range zs.length).map fun a => if eF zs s a then cF zs (s - 2 ^ a) else 0).sum := by rw [cF, dif_neg h]

/-- All below its items are there. -/
def Ideal (zs : List Int) (s : Nat) : Prop := ∀ a b : Nat, s.testBit b = true → bitB ((du zs)[b]?.getD 0) a = true → s.testBit a = true
theorem bit_cast (s j : Nat) : bitB (s : Int) (j : Int) = s.testBit j := by simp [bitB]
theorem less_zero {d : Int} {s : Nat} : lessI d (s : Int) = 0 ↔ ∀ j : Nat, bitB d j = true → s.testBit j = true := by
  constructor
  · intro e j hj
    have := bitB_less d (s : Int) j
    rw [e, bitB_zero, hj, bit_cast] at this
    simpa using this.symm
  · intro e
    refine bitB_ext (lessI_bd _ _).1 (Int.le_refl _) fun j => ?_
    rw [bitB_less, bitB_zero, bit_cast]
    cases h : bitB d j
    · rfl
    · rw [e j h]; rfl
theorem sub_bit_fin : ∀ s : Fin 64, ∀ a j : Fin 6, s.val.testBit a.val = true → (s.val - 2 ^ a.val).testBit j.val = (s.val.testBit j.val && !decide (a.val = j.val)) := by decide +kernel
theorem add_bit_fin : ∀ s : Fin 64, ∀ a j : Fin 6, s.val.testBit a.val = false → (s.val + 2 ^ a.val).testBit j.val = (s.val.testBit j.val || decide (a.val = j.val)) := by decide +kernel
theorem add_lt_fin : ∀ n : Fin 7, ∀ s : Fin 64, ∀ a : Fin 6, s.val < 2 ^ n.val → a.val < n.val → s.val.testBit a.val = false → s.val + 2 ^ a.val < 2 ^ n.val := by decide +kernel
theorem com_bit_fin : ∀ n : Fin 7, ∀ s : Fin 64, s.val < 2 ^ n.val → ∀ j : Fin 6, (2 ^ n.val - 1 - s.val).testBit j.val = (decide (j.val < n.val) && !s.val.testBit j.val) := by decide +kernel
theorem ge_bit_fin : ∀ s : Fin 64, ∀ a : Fin 6, s.val.testBit a.val = true → 2 ^ a.val ≤ s.val := by decide +kernel
theorem bit_lt {n s j : Nat} (hs : s < 2 ^ n) (h : s.testBit j = true) : j < n := by
  rcases Nat.lt_or_ge j n with h1 | h1
  · exact h1
  · rw [Nat.testBit_lt_two_pow (Nat.lt_of_lt_of_le hs (Nat.pow_le_pow_right (by decide) h1))] at h; cases h
theorem pow_le64 {n : Nat} (h : n ≤ 6) : 2 ^ n ≤ 64 := Nat.pow_le_pow_right (n := 2) (by decide) h
theorem sum_pick (f : Nat → Nat) (c : Nat) : ∀ N : Nat, c < N → ((List.range N).map f).sum = ((List.range N).map fun x => if x = c then 0 else f x).sum + f c
  | N + 1, hc => by
    rw [List.range_succ, List.map_append, List.sum_append, List.map_append, List.sum_append]
    by_cases h : c = N
    · subst h
      have : ((List.range c).map fun x => if x = c then 0 else f x).sum = ((List.range c).map f).sum := sum_congr fun x hx => by
        have := List.mem_range.1 hx
        rw [if_neg (by omega)]
      rw [this]
      simp
    · rw [sum_pick f c N (by omega)]
      have : ¬ N = c := fun e => h e.symm
      simp [this]
      omega
theorem du_small {zs : List Int} (h : VoP zs) {a j : Nat} (hb : bitB ((du zs)[a]?.getD 0) j = true) : j < zs.length ∧ a < zs.length := by
  rcases Nat.lt_or_ge a (du zs).length with h1 | h1
  · have := (du_sets h.sets).2 a h1
    rw [du_len] at this h1
    exact ⟨bitB_lt this.2 hb, h1⟩
  · rw [List.getElem?_eq_none h1, Option.getD_none, bitB_zero] at hb; cases hb
theorem du_irr {zs : List Int} (h : VoP zs) (a : Nat) : bitB ((du zs)[a]?.getD 0) a = false := by
  rw [du_bit h.sets]
  rcases Nat.lt_or_ge a zs.length with h1 | h1
  · exact h.irrB h1
  · rw [List.getElem?_eq_none h1, Option.getD_none, bitB_zero]
theorem sum_ne {α : Type} {f : α → Nat} : ∀ l : List α, (l.map f).sum ≠ 0 → ∃ x ∈ l, f x ≠ 0
  | [], h => absurd rfl h
  | x :: l, h => by
    by_cases hx : f x = 0
    · rw [List.map_cons, List.sum_cons, hx, Nat.zero_add] at h
      obtain ⟨y, hy, e⟩ := sum_ne l h
      exact ⟨y, by simp [hy], e⟩
    · exact ⟨x, by simp, hx⟩
theorem cG_ideal {zs : List Int} (h : VoP zs) : ∀ (k s : Nat), s ≤ k → s < 2 ^ zs.length → cG zs s ≠ 0 → Ideal zs s
  | 0, s, hk, _, _ => by
    obtain rfl : s = 0 := by omega
    intro a b hb _
    simp at hb
  | k + 1, s, hk, hN, hc => by
    by_cases h0 : s = 0
    · exact cG_ideal h k s (by omega) hN hc
    · have h6 := pow_le64 h.1
      rw [cG_pos h0] at hc
      obtain ⟨a, ha, hne⟩ := sum_ne _ hc
      have han := List.mem_range.1 ha
      have hn6 := h.1
      cases he : eG zs s a
      · simp only [he] at hne; exact absurd rfl hne
      · simp only [he, if_true] at hne
        unfold eG at he
        rw [Bool.and_eq_true, Bool.and_eq_true] at he
        obtain ⟨h1, h2, _⟩ := he
        have hge := ge_bit_fin ⟨s, by omega⟩ ⟨a, by omega⟩ h1
        simp only at hge
        have hp := Nat.two_pow_pos a
        have ih := cG_ideal h k (s - 2 ^ a) (by omega) (by omega) hne
        have hsub := less_zero.1 (show lessI ((du zs)[a]?.getD 0) (s : Int) = 0 by simpa using h2)
        have sb : ∀ j, j < 6 → (s - 2 ^ a).testBit j = (s.testBit j && !decide (a = j)) := fun j hj => sub_bit_fin ⟨s, by omega⟩ ⟨a, by omega⟩ ⟨j, hj⟩ h1
        intro x b hb hx
        have hb6 := bit_lt hN hb
        by_cases hba : a = b
        · subst hba; exact hsub x hx
        · have hx6 := (du_small h hx).1
          have := ih x b (by rw [sb b (by omega), hb]; simp [hba]) hx
          rw [sb x (by omega), Bool.and_eq_true] at this
          exact this.1
/-- From what is left back to what is there. -/
theorem cF_next {zs : List Int} (h : VoP zs) {s : Nat} (hN : s < 2 ^ zs.length) (hs : s ≠ 2 ^ zs.length - 1) :
    cF zs (2 ^ zs.length - 1 - s) = ((List.range zs.length).map fun a => if nextE zs s a then cF zs (2 ^ zs.length - 1 - (s + 2 ^ a)) else 0).sum := by
  have h6 := pow_le64 h.1
  have hn6 := h.1
  rw [cF_pos (by omega)]
  refine sum_congr fun a ha => ?_
  have han := List.mem_range.1 ha
  have cb : ∀ j, j < 6 → (2 ^ zs.length - 1 - s).testBit j = (decide (j < zs.length) && !s.testBit j) := fun j hj => com_bit_fin ⟨zs.length, by omega⟩ ⟨s, by omega⟩ hN ⟨j, hj⟩
  have e1 : eF zs (2 ^ zs.length - 1 - s) a = nextE zs s a := by
    unfold eF nextE
    rw [cb a (by omega), decide_eq_true han, Bool.true_and]
    congr 1
    have key : andI ((du zs)[a]?.getD 0) ((2 ^ zs.length - 1 - s : Nat) : Int) = 0 ↔ lessI ((du zs)[a]?.getD 0) (s : Int) = 0 := by
      rw [andI_zero, less_zero]
      constructor
      · intro e j hj
        have hjn := (du_small h hj).1
        cases hc : s.testBit j
        · have := e j (by rw [bit_cast, cb j (by omega), hc]; simp [hjn])
          rw [hj] at this; cases this
        · rfl
      · intro e j hj
        cases hd : bitB ((du zs)[a]?.getD 0) j
        · rfl
        · have hjn := (du_small h hd).1
          rw [bit_cast, cb j (by omega), e j hd] at hj
          simp at hj
    by_cases hk : lessI ((du zs)[a]?.getD 0) (s : Int) = 0
    · rw [hk, key.2 hk]
    · have hk' : ¬ andI ((du zs)[a]?.getD 0) ((2 ^ zs.length - 1 - s : Nat) : Int) = 0 := fun e => hk (key.1 e)
      rw [beq_eq_false_iff_ne.2 hk, beq_eq_false_iff_ne.2 hk']
  rw [e1, Nat.sub_sub]
theorem edge_same {zs : List Int} (h : VoP zs) {s a : Nat} (hN : s < 2 ^ zs.length) (han : a < zs.length) (hb : s.testBit a = false) (X : Nat) :
    (if nextE zs s a then cG zs s * X else 0) = if eG zs (s + 2 ^ a) a then cG zs s * X else 0 := by
  have h6 := pow_le64 h.1
  have hn6 := h.1
  have ab : ∀ j, j < 6 → (s + 2 ^ a).testBit j = (s.testBit j || decide (a = j)) := fun j hj => add_bit_fin ⟨s, by omega⟩ ⟨a, by omega⟩ ⟨j, hj⟩ hb
  by_cases hc : cG zs s = 0
  · rw [hc]; simp
  · have hid := cG_ideal h s s (Nat.le_refl _) hN hc
    have e1 : belowAny zs (s + 2 ^ a) a = false := by
      unfold belowAny
      rw [List.any_eq_false]
      intro b hbr
      have hbn := List.mem_range.1 hbr
      rw [ab b (by omega)]
      intro e
      rw [Bool.and_eq_true, Bool.or_eq_true] at e
      obtain ⟨e1 | e1, e2⟩ := e
      · have := hid a b e1 e2
        rw [hb] at this; cases this
      · have : a = b := by simpa using e1
        subst this
        rw [du_irr h] at e2; cases e2
    have e2 : lessI ((du zs)[a]?.getD 0) ((s + 2 ^ a : Nat) : Int) = 0 ↔ lessI ((du zs)[a]?.getD 0) (s : Int) = 0 := by
      rw [less_zero, less_zero]
      constructor
      · intro e j hj
        have hjn := (du_small h hj).1
        have := e j hj
        rw [ab j (by omega), Bool.or_eq_true] at this
        rcases this with h1 | h1
        · exact h1
        · have : a = j := by simpa using h1
          subst this
          rw [du_irr h] at hj; cases hj
      · intro e j hj
        have hjn := (du_small h hj).1
        rw [ab j (by omega), e j hj]
        rfl
    have e3 : nextE zs s a = eG zs (s + 2 ^ a) a := by
      unfold nextE eG
      rw [hb, ab a (by omega), hb, e1]
      by_cases hk : lessI ((du zs)[a]?.getD 0) (s : Int) = 0
      · rw [hk, e2.2 hk]; simp
      · have hk' : ¬ lessI ((du zs)[a]?.getD 0) ((s + 2 ^ a : Nat) : Int) = 0 := fun e => hk (e2.1 e)
        rw [beq_eq_false_iff_ne.2 hk, beq_eq_false_iff_ne.2 hk']; simp
    rw [e3]
/-- Counted both ways it is as many. -/
theorem count_both {zs : List Int} (h : VoP zs) : cG zs (2 ^ zs.length - 1) = cF zs (2 ^ zs.length - 1) := by
  have h6 := pow_le64 h.1
  have hn6 := h.1
  have hpos := Nat.two_pow_pos zs.length
  have P1 := sum_pick (fun s => cG zs s * cF zs (2 ^ zs.length - 1 - s)) (2 ^ zs.length - 1) (2 ^ zs.length) (by omega)
  have P2 := sum_pick (fun s => cG zs s * cF zs (2 ^ zs.length - 1 - s)) 0 (2 ^ zs.length) hpos
  have hA1 : cG zs (2 ^ zs.length - 1) * cF zs (2 ^ zs.length - 1 - (2 ^ zs.length - 1)) = cG zs (2 ^ zs.length - 1) := by rw [Nat.sub_self, cF_zero, Nat.mul_one]
  have hA2 : cG zs 0 * cF zs (2 ^ zs.length - 1 - 0) = cF zs (2 ^ zs.length - 1) := by rw [cG_zero, Nat.one_mul, Nat.sub_zero]
  rw [hA1] at P1
  rw [hA2] at P2
  have L : ((List.range (2 ^ zs.length)).map fun s => if s = 2 ^ zs.length - 1 then 0 else cG zs s * cF zs (2 ^ zs.length - 1 - s)).sum =
      ((List.range (2 ^ zs.length)).map fun s => ((List.range zs.length).map fun a => if nextE zs s a then cG zs s * cF zs (2 ^ zs.length - 1 - (s + 2 ^ a)) else 0).sum).sum := sum_congr fun s hs => by
    have hN := List.mem_range.1 hs
    by_cases he : s = 2 ^ zs.length - 1
    · rw [if_pos he]
      have : ((List.range zs.length).map fun a => if nextE zs s a then cG zs s * cF zs (2 ^ zs.length - 1 - (s + 2 ^ a)) else 0).sum = ((List.range zs.length).map fun _ => 0).sum := sum_congr fun a ha => by
        have han := List.mem_range.1 ha
        have : nextE zs s a = false := by
          unfold nextE
          rw [he, Nat.testBit_two_pow_sub_one, decide_eq_true han]
          rfl
        rw [this]; rfl
      rw [this, sum_map_zero]
    · rw [if_neg he, cF_next h hN he, ← sum_mul]
      refine sum_congr fun a _ => ?_
      cases nextE zs s a <;> simp
  have R : ((List.range (2 ^ zs.length)).map fun s => if s = 0 then 0 else cG zs s * cF zs (2 ^ zs.length - 1 - s)).sum =
      ((List.range (2 ^ zs.length)).map fun s => ((List.range zs.length).map fun a => if eG zs s a then cG zs (s - 2 ^ a) * cF zs (2 ^ zs.length - 1 - s) else 0).sum).sum := sum_congr fun s hs => by
    by_cases he : s = 0
    · rw [if_pos he]
      have : ((List.range zs.length).map fun a => if eG zs s a then cG zs (s - 2 ^ a) * cF zs (2 ^ zs.length - 1 - s) else 0).sum = ((List.range zs.length).map fun _ => 0).sum := sum_congr fun a _ => by
        have : eG zs s a = false := by unfold eG; rw [he]; simp
        rw [this]; rfl
      rw [this, sum_map_zero]
    · rw [if_neg he, cG_pos he, Nat.mul_comm, ← sum_mul]
      refine sum_congr fun a _ => ?_
      cases eG zs s a <;> simp [Nat.mul_comm]
  have M : ((List.range (2 ^ zs.length)).map fun s => ((List.range zs.length).map fun a => if nextE zs s a then cG zs s * cF zs (2 ^ zs.length - 1 - (s + 2 ^ a)) else 0).sum).sum =
      ((List.range (2 ^ zs.length)).map fun s => ((List.range zs.length).map fun a => if eG zs s a then cG zs (s - 2 ^ a) * cF zs (2 ^ zs.length - 1 - s) else 0).sum).sum := by
    refine (sum_swap _ _ _).trans (Eq.trans ?_ (sum_swap _ _ _).symm)
    refine sum_congr fun a ha => ?_
    have han := List.mem_range.1 ha
    have e1 : ((List.range (2 ^ zs.length)).map fun s => if nextE zs s a then cG zs s * cF zs (2 ^ zs.length - 1 - (s + 2 ^ a)) else 0).sum =
        (((List.range (2 ^ zs.length)).filter fun s : Nat => !s.testBit a).map fun s => if nextE zs s a then cG zs s * cF zs (2 ^ zs.length - 1 - (s + 2 ^ a)) else 0).sum := by
      rw [← sum_if]
      refine sum_congr fun s _ => ?_
      cases hb : s.testBit a
      · rfl
      · have : nextE zs s a = false := by unfold nextE; rw [hb]; rfl
        rw [this]; rfl
    have e2 : ((List.range (2 ^ zs.length)).map fun s => if eG zs s a then cG zs (s - 2 ^ a) * cF zs (2 ^ zs.length - 1 - s) else 0).sum =
        (((List.range (2 ^ zs.length)).filter fun s : Nat => s.testBit a).map fun s => if eG zs s a then cG zs (s - 2 ^ a) * cF zs (2 ^ zs.length - 1 - s) else 0).sum := by
      rw [← sum_if]
      refine sum_congr fun s _ => ?_
      cases hb : s.testBit a
      · have : eG zs s a = false := by unfold eG; rw [hb]; rfl
        rw [this]; rfl
      · rfl
    rw [e1, e2, with_item ⟨zs.length, by omega⟩ ⟨a, by omega⟩ han, List.map_map]
    refine sum_congr fun s hs => ?_
    rw [List.mem_filter] at hs
    have hN := List.mem_range.1 hs.1
    have hb : s.testBit a = false := by simpa using hs.2
    simp only [Function.comp, Nat.add_sub_cancel]
    exact edge_same h hN han hb _
  rw [L] at P1
  rw [R] at P2
  rw [P1, M] at P2
  omega
end Go.Proofs.Ytcadmjpkgnbodaa

/- Lines counted: no number is great; the table as it fills. No program. -/
namespace Go.Proofs.Ytcadmjpkgnbodaa

theorem sum_le {α : Type} {f : α → Nat} {c : Nat} : ∀ l : List α, (∀ x ∈ l, f x ≤ c) → (l.map f).sum ≤ l.length * c
  | [], _ => by simp
  | x :: l, h => by
    have h1 := h x (by simp)
    have h2 := sum_le l fun y hy => h y (by simp [hy])
    rw [List.map_cons, List.sum_cons, List.length_cons, Nat.add_mul]
    omega
theorem pop_sub_fin : ∀ s : Fin 64, ∀ a : Fin 6, s.val.testBit a.val = true → (popI ((s.val - 2 ^ a.val : Nat) : Int)).toNat + 1 = (popI (s.val : Int)).toNat := by decide +kernel
theorem pop_le_fin : ∀ s : Fin 64, (popI (s.val : Int)).toNat ≤ 6 := by decide +kernel
theorem cG_bd {zs : List Int} (h : VoP zs) : ∀ (k s : Nat), s ≤ k → s < 2 ^ zs.length → cG zs s ≤ 6 ^ (popI (s : Int)).toNat
  | 0, s, hk, _ => by
    obtain rfl : s = 0 := by omega
    rw [cG_zero]; decide
  | k + 1, s, hk, hN => by
    by_cases h0 : s = 0
    · exact cG_bd h k s (by omega) hN
    · have h6 := pow_le64 h.1
      have hn6 := h.1
      rw [cG_pos h0]
      obtain ⟨p, hp⟩ : ∃ p, (popI (s : Int)).toNat = p := ⟨_, rfl⟩
      have hle := sum_le (f := fun a => if eG zs s a then cG zs (s - 2 ^ a) else 0) (c := 6 ^ (p - 1)) (List.range zs.length) fun a ha => by
        have han := List.mem_range.1 ha
        cases he : eG zs s a
        · simp
        · have hb : s.testBit a = true := by unfold eG at he; rw [Bool.and_eq_true] at he; exact he.1
          have hge := ge_bit_fin ⟨s, by omega⟩ ⟨a, by omega⟩ hb
          simp only at hge
          have hpp := Nat.two_pow_pos a
          have ih := cG_bd h k (s - 2 ^ a) (by omega) (by omega)
          have hps := pop_sub_fin ⟨s, by omega⟩ ⟨a, by omega⟩ hb
          simp only at hps
          rw [hp] at hps
          simp only [if_true]
          rw [show p - 1 = (popI ((s - 2 ^ a : Nat) : Int)).toNat by omega]
          exact ih
      rw [List.length_range] at hle
      have hpos : 1 ≤ p := by
        rcases Nat.lt_or_ge 0 p with h1 | h1
        · exact h1
        · exfalso
          have : (popI (s : Int)).toNat = 0 := by omega
          have key : ∀ t : Fin 64, (popI (t.val : Int)).toNat = 0 → t.val = 0 := by decide +kernel
          exact h0 (key ⟨s, by omega⟩ this)
      rw [hp]
      have e : 6 ^ p = 6 * 6 ^ (p - 1) := by rw [← Nat.pow_succ']; congr 1; omega
      rw [e]
      exact Nat.le_trans hle (Nat.mul_le_mul_right _ hn6)
theorem cG_le {zs : List Int} (h : VoP zs) {s : Nat} (hN : s < 2 ^ zs.length) : cG zs s ≤ 46656 := by
  have h6 := pow_le64 h.1
  have h1 := cG_bd h s s (Nat.le_refl _) hN
  have h2 := pop_le_fin ⟨s, by omega⟩
  simp only at h2
  have h3 : 6 ^ (popI (s : Int)).toNat ≤ 6 ^ 6 := Nat.pow_le_pow_right (by decide) h2
  omega
/-- What is summed up of the items less than a. -/
def pg (zs : List Int) (s a : Nat) : Nat := ((List.range a).map fun b => if eG zs s b then cG zs (s - 2 ^ b) else 0).sum
theorem pg_succ (zs : List Int) (s a : Nat) : pg zs s (a + 1) = pg zs s a + (if eG zs s a then cG zs (s - 2 ^ a) else 0) := by
  unfold pg
  rw [List.range_succ, List.map_append, List.sum_append]
  simp
theorem pg_le (zs : List Int) (s : Nat) : ∀ d a : Nat, pg zs s a ≤ pg zs s (a + d)
  | 0, _ => Nat.le_refl _
  | d + 1, a => by
    have := pg_le zs s d a
    rw [show a + (d + 1) = a + d + 1 by omega, pg_succ]
    omega
theorem pg_all {zs : List Int} {s : Nat} (h : s ≠ 0) : pg zs s zs.length = cG zs s := (cG_pos h).symm
theorem pg_bd {zs : List Int} (h : VoP zs) {s a : Nat} (h0 : s ≠ 0) (hN : s < 2 ^ zs.length) (ha : a ≤ zs.length) : pg zs s a ≤ 46656 := by
  have h1 := pg_le zs s (zs.length - a) a
  rw [show a + (zs.length - a) = zs.length by omega, pg_all h0] at h1
  have := cG_le h hN
  omega
def tab (zs : List Int) (s p : Nat) : List Int := (List.range (2 ^ zs.length)).map fun i => if i < s then (cG zs i : Int) else if i = s then (p : Int) else 0
theorem tab_len (zs : List Int) (s p : Nat) : (tab zs s p).length = 2 ^ zs.length := by simp [tab]
theorem tab_get {zs : List Int} {s p i : Nat} (hi : i < 2 ^ zs.length) : (tab zs s p)[i]?.getD 0 = if i < s then (cG zs i : Int) else if i = s then (p : Int) else 0 := by simp [tab, hi]
theorem tab_set {zs : List Int} {s p q : Nat} : (tab zs s p).set s (q : Int) = tab zs s q := by
  refine List.ext_getElem (by simp [tab]) fun i h1 h2 => ?_
  rw [List.length_set, tab_len] at h1
  by_cases hi : s = i
  · subst hi
    rw [List.getElem_set_self]
    simp [tab]
  · rw [List.getElem_set_ne hi]
    have : ¬ i = s := fun e => hi e.symm
    simp [tab, this]
theorem tab_next (zs : List Int) (s : Nat) : tab zs s (cG zs s) = tab zs (s + 1) 0 := by
  unfold tab
  refine List.map_congr_left fun i _ => ?_
  by_cases h1 : i < s
  · rw [if_pos h1, if_pos (by omega)]
  · by_cases h2 : i = s
    · subst h2
      rw [if_neg h1, if_pos rfl, if_pos (by omega)]
    · rw [if_neg h1, if_neg h2, if_neg (by omega)]
      by_cases h3 : i = s + 1
      · rw [if_pos h3]; rfl
      · rw [if_neg h3]
theorem tab_start (zs : List Int) : (List.replicate (2 ^ zs.length) (0 : Int)).set 0 1 = tab zs 1 0 := by
  refine List.ext_getElem (by simp [tab]) fun i h1 h2 => ?_
  by_cases hi : 0 = i
  · subst hi
    rw [List.getElem_set_self]
    simp [tab, cG_zero]
  · rw [List.getElem_set_ne hi]
    simp [tab]
    intro h; omega
/-- In how many ways an order is lined up. -/
def linesR (zs : List Int) : Int := if vo zs then (cG zs (2 ^ zs.length - 1) : Int) else -1
end Go.Proofs.Ytcadmjpkgnbodaa

/- Lines counted of what is left: the sum over the items that may come next; bounds. No program. -/
namespace Go.Proofs.Ytcadmjpkgnbodaa

theorem cF_bd {zs : List Int} (h : VoP zs) : ∀ (k s : Nat), s ≤ k → s < 2 ^ zs.length → cF zs s ≤ 6 ^ (popI (s : Int)).toNat
  | k, s, hk, hN => by
    by_cases h0 : s = 0
    · subst h0
      rw [cF_zero]
      exact Nat.pos_of_ne_zero (by have := Nat.pow_pos (n := (popI ((0 : Nat) : Int)).toNat) (show 0 < 6 by omega); omega)
    · cases k with
      | zero => omega
      | succ k =>
        have h64 := Nat.lt_of_lt_of_le hN (pow_le64 h.1)
        have hn6 := h.1
        rw [cF_pos h0]
        have key : ∀ x ∈ List.range zs.length, (if eF zs s x then cF zs (s - 2 ^ x) else 0) ≤ 6 ^ ((popI (s : Int)).toNat - 1) := fun x hx => by
          have hxn : x < zs.length := by simpa using hx
          split
          · rename_i he
            unfold eF at he
            rw [Bool.and_eq_true] at he
            have hp := pop_sub_fin ⟨s, h64⟩ ⟨x, by omega⟩ he.1
            have hge := ge_bit_fin ⟨s, h64⟩ ⟨x, by omega⟩ he.1
            have hpos := Nat.two_pow_pos x
            have ih := cF_bd h k (s - 2 ^ x) (by simp only at hge; omega) (by omega)
            simp only at hp
            rw [show (popI (s : Int)).toNat - 1 = (popI ((s - 2 ^ x : Nat) : Int)).toNat by omega]
            exact ih
          · exact Nat.zero_le _
        have h1 := sum_le _ key
        have hpp : 1 ≤ (popI (s : Int)).toNat := by
          rcases Nat.lt_or_ge 0 (popI (s : Int)).toNat with h | h
          · exact h
          · exact absurd (pop_zero_fin ⟨s, h64⟩ (by simp only; omega)) h0
        rw [List.length_range] at h1
        have h2 : zs.length * 6 ^ ((popI (s : Int)).toNat - 1) ≤ 6 * 6 ^ ((popI (s : Int)).toNat - 1) := Nat.mul_le_mul_right _ h.1
        have h3 : 6 * 6 ^ ((popI (s : Int)).toNat - 1) = 6 ^ (popI (s : Int)).toNat := by
          rw [← Nat.pow_succ']; exact congrArg (6 ^ ·) (by omega)
        omega
where pop_zero_fin : ∀ s : Fin 64, (popI (s.val : Int)).toNat = 0 → s.val = 0 := by decide +kernel
theorem cF_le {zs : List Int} (h : VoP zs) {s : Nat} (hN : s < 2 ^ zs.length) : cF zs s ≤ 46656 := by
  have h64 := Nat.lt_of_lt_of_le hN (pow_le64 h.1)
  have h1 := cF_bd h s s (Nat.le_refl _) hN
  have h2 := pop_le_fin ⟨s, h64⟩
  exact Nat.le_trans h1 (Nat.pow_le_pow_right (n := 6) (by omega) h2)
/-- The items that may come next, and the sum over them. -/
def nextL (zs : List Int) (s : Nat) : List Nat := itemsL (topsTo (du zs) (s : Int) zs.length)
theorem nextL_is {zs : List Int} (h : VoP zs) (s : Nat) : nextL zs s = (List.range zs.length).filter (eF zs s) := by
  have hb := topsTo_bd (du zs) (s : Int) zs.length
  unfold nextL
  rw [← itemsTo_all hb.2 h.1]
  unfold itemsTo
  refine List.filter_congr fun a ha => ?_
  have han : a < zs.length := by simpa using ha
  rw [Bool.eq_iff_iff, topsTo_bit, bit_cast]
  unfold eF
  simp [han]
theorem nextL_mem {zs : List Int} (h : VoP zs) {s x : Nat} (hx : x ∈ nextL zs s) : x < zs.length ∧ s.testBit x = true := by
  rw [nextL_is h, List.mem_filter] at hx
  unfold eF at hx
  rw [Bool.and_eq_true] at hx
  exact ⟨by simpa using hx.1, hx.2.1⟩
/-- What has been counted when the items of a list are over. -/
def accF (zs : List Int) (s : Nat) (l : List Nat) : Nat := (l.map fun a => cF zs (s - 2 ^ a)).sum
theorem accF_snoc (zs : List Int) (s : Nat) (l : List Nat) (x : Nat) : accF zs s (l ++ [x]) = accF zs s l + cF zs (s - 2 ^ x) := by simp [accF]
theorem accF_all {zs : List Int} (h : VoP zs) {s : Nat} (h0 : s ≠ 0) : accF zs s (nextL zs s) = cF zs s := by
  rw [cF_pos h0, sum_if, nextL_is h]
  rfl
theorem accF_le {zs : List Int} (h : VoP zs) {s : Nat} (h0 : s ≠ 0) (hN : s < 2 ^ zs.length) {l : List Nat} (hl : l <+: nextL zs s) : accF zs s l ≤ 46656 := by
  obtain ⟨t, ht⟩ := hl
  have h1 := accF_all h h0
  have h2 := cF_le h hN
  rw [← ht] at h1
  unfold accF at h1 ⊢
  rw [List.map_append, List.sum_append] at h1
  omega
theorem nextL_len {zs : List Int} (h : VoP zs) (s : Nat) : (nextL zs s).length ≤ 6 := by
  rw [nextL_is h]
  have := List.length_filter_le (eF zs s) (List.range zs.length)
  have := h.1
  rw [List.length_range] at *
  omega
theorem without_fin : ∀ s : Fin 64, ∀ a : Fin 6, s.val.testBit a.val = true → lessI (s.val : Int) (powI (a.val : Int)) = ((s.val - 2 ^ a.val : Nat) : Int) := by decide +kernel
theorem without_is {s a : Nat} (hs : s < 64) (ha : a < 6) (hb : s.testBit a = true) : lessI (s : Int) (powI (a : Int)) = ((s - 2 ^ a : Nat) : Int) := without_fin ⟨s, hs⟩ ⟨a, ha⟩ hb
/-- How often the map is written at most. -/
def writes (s : Nat) : Nat := 7 ^ (popI (s : Int)).toNat
theorem writes_sub {s a : Nat} (hs : s < 64) (ha : a < 6) (hb : s.testBit a = true) : 7 * writes (s - 2 ^ a) = writes s := by
  have hp := pop_sub_fin ⟨s, hs⟩ ⟨a, ha⟩ hb
  simp only at hp
  unfold writes
  rw [← hp, Nat.pow_succ, Nat.mul_comm]
theorem writes_le {s : Nat} (hs : s < 64) : 1 ≤ writes s ∧ writes s ≤ 117649 := by
  have h := pop_le_fin ⟨s, hs⟩
  exact ⟨Nat.pow_pos (by omega), Nat.pow_le_pow_right (n := 7) (by omega) h⟩
end Go.Proofs.Ytcadmjpkgnbodaa

/- The model's tests of chains and of sets apart. -/
namespace Go.Proofs.Ytcadmjpkgnbodaa
open Go.RowKit

theorem relB_comm (zs : List Int) (a b : Nat) : relB zs a b = relB zs b a := by unfold relB; rw [Bool.or_comm]
/-- The item at place a of a set. -/
def itAt (s : Int) (a : Nat) : Nat := (itemsL s)[a]?.getD 0
theorem itAt_mem {s : Int} {a : Nat} (ha : a < (itemsL s).length) : itAt s a ∈ itemsL s := by
  unfold itAt; rw [List.getElem?_eq_getElem ha]; exact List.getElem_mem ha
theorem itAt_cast {s : Int} {a : Nat} (ha : a < (itemsL s).length) : (((itemsL s).map fun x : Nat => (x : Int))[a]?.getD 0) = (itAt s a : Int) := by
  unfold itAt; rw [List.getElem?_map, List.getElem?_eq_getElem ha]; rfl
theorem itAt_lt {n : Nat} {s : Int} {a : Nat} (hn : n ≤ 6) (h1 : s < powI n) (ha : a < (itemsL s).length) : itAt s a < n := by
  have hpn := powI_le6 (n := (n : Int)) (by omega)
  exact bitB_lt h1 ((mem_itemsL (by omega)).1 (itAt_mem ha))
theorem chB_of {zs : List Int} {s : Int} (h : ∀ a, a < (itemsL s).length → ∀ b, b < a → relB zs (itAt s a) (itAt s b) = true) : chB zs s = true := by
  unfold chB
  rw [decide_eq_true_eq]
  refine List.pairwise_iff_getElem.2 fun i j hi hj hij => ?_
  have := h j hj i hij
  rw [relB_comm] at this
  simpa [itAt, hi, hj] using this
theorem chB_not {zs : List Int} {s : Int} {a b : Nat} (ha : a < (itemsL s).length) (hb : b < a) (h : relB zs (itAt s a) (itAt s b) = false) : chB zs s = false := by
  unfold chB
  rw [decide_eq_false_iff_not]
  intro hc
  have := List.pairwise_iff_getElem.1 hc b a (by omega) ha hb
  rw [relB_comm] at this
  simp [itAt, ha, Nat.lt_trans hb ha] at h
  simp [h] at this
theorem apB_of {zs : List Int} {s : Int} (h : ∀ a, a < (itemsL s).length → (andI (zs[itAt s a]?.getD 0) s == 0) = true) : apB zs s = true := by
  unfold apB
  rw [List.all_eq_true]
  intro x hx
  obtain ⟨i, hi, rfl⟩ := List.getElem_of_mem hx
  have := h i hi
  simpa [itAt, hi] using this
theorem apB_not {zs : List Int} {s : Int} {a : Nat} (ha : a < (itemsL s).length) (h : (andI (zs[itAt s a]?.getD 0) s == 0) = false) : apB zs s = false := by
  unfold apB
  cases hc : (itemsL s).all fun a => andI (zs[a]?.getD 0) s == 0 with
  | false => rfl
  | true => rw [List.all_eq_true.1 hc _ (itAt_mem ha)] at h; cases h

end Go.Proofs.Ytcadmjpkgnbodaa

/- HeightsOf: the model's and the program's. -/
namespace Go.Proofs.Ytcadmjpkgnbodaa
open Go.RowKit Go.Shelf
attribute [local go_sem] Oper.semAt_some
attribute [local go_sem, local simp] wide_fn

theorem swaps_snoc (ps : List (Nat × Nat)) (a b : Nat) : swaps (ps ++ [(a, b)]) = swaps ps ++ [(b, a)] := by simp [swaps]

end Go.Proofs.Ytcadmjpkgnbodaa

/- The program's pairs within a set; its tests of chains and of sets apart. -/
namespace Go.Proofs.Ytcadmjpkgnbodaa
open Go.RowKit Go.Shelf
attribute [local go_sem] Oper.semAt_some
attribute [local go_sem, local simp] wide_fn

set_option maxRecDepth 100000 in
set_option maxHeartbeats 4000000 in
theorem pairsWithin_any (A : Option Addr) (n c : Nat) (zs : List Int) (s : Int) (hv : Sets zs) (w : World) (hA : Ints w w.heap.size A n zs) (h0 : 0 ≤ s) (h1 : s < powI n) :
    Calls Try.prog 90 #[.slice A n c, .int .i64 s] w fun e W' => e = .returned (.int .i64 (pwL zs s (itemsL s))) ∧ Below w.heap.size w W' := by
  refine (callsIn_wide (n := 9)).1 ?_
  refine callsIn_of_wp_marks Try.func90 rfl trivial ?_ rfl
  simp only [Try.ntmps90, List.size_toArray, List.length_cons, List.length_nil, Nat.reduceAdd, Nat.reduceSub, Array.replicate_succ, Array.replicate_zero, List.push_toArray, List.append_toArray, List.nil_append, List.cons_append]
  have hlen := Lib.hid hA.len
  have hn6 : n ≤ 6 := by have := hv.1; rw [hlen.out] at this; exact this
  have hpk : powI n ≤ 64 := powI_le6 (by omega)
  gi_wp2_with (gi_at_call 98; refine (callsIn_wide.2 (each_any _ _)).mono ?_; rintro e w' ⟨rfl, rfl⟩)
  have bO := (((Boxed.new w 38 (.slice A n c)).alloc (.cells #[Value.int .i64 s] 46)).alloc (.cells #[Value.int .i64 0] 3)).alloc (.cells #[Value.int .i64 s] 46)
  have bS := ((Boxed.new (w.alloc (.cells #[Value.slice A n c] 38)) 46 (.int .i64 s)).alloc (.cells #[Value.int .i64 0] 3)).alloc (.cells #[Value.int .i64 s] 46)
  have bT := (Boxed.new ((w.alloc (.cells #[Value.slice A n c] 38)).alloc (.cells #[Value.int .i64 s] 46)) 3 (.int .i64 0)).alloc (.cells #[Value.int .i64 s] 46)
  have bE := Boxed.new (((w.alloc (.cells #[Value.slice A n c] 38)).alloc (.cells #[Value.int .i64 s] 46)).alloc (.cells #[Value.int .i64 0] 3)) 46 (.int .i64 s)
  have hu0 : Upd (fun _ => False) w ((((w.alloc (.cells #[Value.slice A n c] 38)).alloc (.cells #[Value.int .i64 s] 46)).alloc (.cells #[Value.int .i64 0] 3)).alloc (.cells #[Value.int .i64 s] 46)) := ((((Upd.refl _ w).alloc _).alloc _).alloc _).alloc _
  have hz0 : ((((w.alloc (.cells #[Value.slice A n c] 38)).alloc (.cells #[Value.int .i64 s] 46)).alloc (.cells #[Value.int .i64 0] 3)).alloc (.cells #[Value.int .i64 s] 46)).heap.size = w.heap.size + 4 := by simp
  simp only [World.size_alloc] at bO bS bT bE
  obtain ⟨W0, hW0⟩ : ∃ W0, ((((w.alloc (.cells #[Value.slice A n c] 38)).alloc (.cells #[Value.int .i64 s] 46)).alloc (.cells #[Value.int .i64 0] 3)).alloc (.cells #[Value.int .i64 s] 46)) = W0 := ⟨_, rfl⟩
  rw [hW0] at bO bS bT bE hu0 hz0 ⊢
  clear hW0
  have hA0 : Ints W0 w.heap.size A n zs := hA.below (hu0.toBelow (fun _ e => e.elim) (Nat.le_refl _))
  refine range_out (n := 9) (gf := 124) (lb := #[.pointer (some ⟨w.heap.size + 1 + 1 + 1, 0, none⟩)]) rfl (enters_of Try.func124 (by kernel_rfl) rfl) (encs := encI) (L := itemsL s)
    (fun k => k = w.heap.size + 1 + 1) (fun k e => by omega) (fun _ => rfl)
    (fun W1 l1 hu1 hl1 hl2 => each_iter s h0 (by omega) _ _ W1 (hu1.boxed bE (fun e => e)) (fun e => by omega))
    (fun pre D W => pre.length ≤ 6 ∧ Boxed W (w.heap.size + 1 + 1) 3 (.int .i64 (pwL zs s pre)) ∧ Upd (fun k => k = w.heap.size + 1 + 1) W0 W)
    (fun _ _ _ _ => False)
    (fun _ D X Y hs hu => ⟨hs.1, hu.boxed hs.2.1 (fun e => by omega), hs.2.2.trans' hu (fun i hi e => by omega)⟩)
    (fun _ _ _ _ _ hs _ => hs)
    ⟨by simp, bT, Upd.refl _ _⟩ ?owes ?done ?stop
  case owes =>
    rintro l1 pre x D1 W hl1 hl2 hDl hD1 - hpre K hK
    gi_wp2
    refine hK _ _ (Upd.refl _ _) ?_
    rintro Wb hWb - ⟨htb, bT1, hU⟩
    clear hK
    obtain ⟨hx6, hxb⟩ := mem_itemsTo.1 (hpre.subset (by simp : x ∈ pre ++ [x]))
    have hpl : (pre ++ [x]).length ≤ 6 := Nat.le_trans hpre.length_le (len_items s)
    have hxn := bitB_lt h1 hxb
    have hpw := pwL_bd zs (s := s) h0 (by omega) pre
    have bO1 := hU.boxed bO (by omega)
    have hcO := bO1.cell
    have hcS := (hU.boxed bS (by omega)).cell
    obtain ⟨ab, off, rfl, hab, hc⟩ := hA0.at_ hxn
    have hcx := hU.cell (hc x hxn) (fun e => by simp at e; omega)
    have zx := hv.bd x (by rw [hlen.out]; exact hxn)
    have hsb := hU.size
    have hcT := bT1.cell
    have hfT := bT1.frozen
    have hszb := hWb.size
    have hand : bits .and .i64 (zs[x]?.getD 0) s = andI (zs[x]?.getD 0) s := bits_and (by omega) (by omega) (by omega) (by omega)
    have hal := andI_lt (a := zs[x]?.getD 0) (s := s) h0 (by omega)
    have hpb := popI_bd hal.1 hal.2
    have Hn := Lib.hid (pwL_snoc zs s pre x)
    clear hc
    gi_wp2
    refine region_tail_round 9 (by kernel_rfl) (by kernel_rfl) (by kernel_rfl) ?_
    simp only [List.take_succ_cons, List.take_zero, List.drop_succ_cons, List.drop_zero]
    repeat (gi_big_quiet_step ((first
      | (gi_at_call 92; exact quietIn_add (size_any _ _ hal.1 hal.2))
      | (gi_at_call 92; exact quietIn_left (size_any _ _ hal.1 hal.2)))))
    refine wpQuietIn_nil ?_
    intro _ hw'
    obtain ⟨nq, hw''⟩ := hw'
    subst hw''
    gi_wp2
    exact ⟨D1, ⟨hpl, by rw [Hn.out]; exact bT1.set _, (hU.drewN _).setCell (p := ⟨w.heap.size + 1 + 1, 0, none⟩) (.inr rfl) _⟩, ((Upd.refl _ _).drewN _).setCell (p := ⟨w.heap.size + 1 + 1, 0, none⟩) (.inr (.inl rfl)) _, fun k hk => .inl hk⟩
  case done =>
    rintro d D1 W hd ⟨htb, bT1, hU⟩ hD1 hKd
    have hcT := bT1.cell
    gi_wp2
    refine leaves_marks [d] _ ⟨by simp, fun b hb => ?_⟩ (fun W' hu' => ?_)
    · rw [List.mem_singleton.1 hb]
      exact hKd
    · exact ⟨.int .i64 (pwL zs s (itemsL s)), by simp [results, Try.f90, go_sem], rfl,
        (((hu0.mono fun _ _ e => e.elim).trans' hU (fun i hi e => by omega)).trans' hu' (fun i hi e => by simp at e; omega)).toBelow (R := fun _ => False) (fun _ e => e.elim) (Nat.le_refl _)⟩
  case stop =>
    rintro d D1 co pre W hd hpre h
    exact h.elim

theorem isApart_any (A : Option Addr) (n c : Nat) (zs : List Int) (s : Int) (hv : Sets zs) (w : World) (hA : Ints w w.heap.size A n zs) (h0 : 0 ≤ s) (h1 : s < powI n) :
    Calls Try.prog 61 #[.slice A n c, .int .i64 s] w fun e W' => e = .returned (.bool (apB zs s)) ∧ Below w.heap.size w W' := by
  have hn6 : n ≤ 6 := by have := hv.1; rw [hA.len] at this; exact this
  have hpk : powI n ≤ 64 := powI_le6 (by omega)
  have He := Lib.hid (pw_apart (zs := zs) h0 (by omega))
  go_enter Try.func61, Try.ntmps61
  go_wp2_with (go_at_call 90; refine (pairsWithin_any _ _ _ zs s hv _ hA h0 h1).mono ?_; rintro e w' ⟨rfl, hB⟩)
  go_ret
  exact ⟨ret_bool He.out, hB⟩

theorem isChain_any (A : Option Addr) (n c : Nat) (zs : List Int) (s : Int) (hv : VoP zs) (w : World) (hA : Ints w w.heap.size A n zs) (h0 : 0 ≤ s) (h1 : s < powI n) :
    Calls Try.prog 64 #[.slice A n c, .int .i64 s] w fun e W' => e = .returned (.bool (chB zs s)) ∧ Below w.heap.size w W' := by
  have hn6 : n ≤ 6 := by have := hv.1; rw [hA.len] at this; exact this
  have hpk : powI n ≤ 64 := powI_le6 (by omega)
  have He := Lib.hid (pw_chain hv h0 (by rw [hA.len]; exact h1))
  have hpb := popI_bd h0 (by omega)
  have hmul : wrap64 (popI s * (popI s - 1)) = popI s * (popI s - 1) ∧ wrap64 ((popI s * (popI s - 1)).tdiv 2) = (popI s * (popI s - 1)).tdiv 2 := by
    have : popI s = 0 ∨ popI s = 1 ∨ popI s = 2 ∨ popI s = 3 ∨ popI s = 4 ∨ popI s = 5 ∨ popI s = 6 := by omega
    rcases this with h | h | h | h | h | h | h <;> rw [h] <;> exact ⟨IntWalk.wrap64_in _ (by decide), IntWalk.wrap64_in _ (by decide)⟩
  have hw1 := hmul.1
  have hw2 := hmul.2
  clear hmul
  go_enter Try.func64, Try.ntmps64
  go_wp2_with (first
    | (go_at_call 90; refine (pairsWithin_any _ _ _ zs s hv.sets _ hA h0 h1).mono ?_; rintro e w' ⟨rfl, hB⟩)
    | (go_at_call 92; refine (size_any _ _ h0 (by omega)).mono ?_; rintro e w' ⟨rfl, rfl⟩))
  go_ret
  exact ⟨ret_bool He.out, hB⟩

/-! The iterator over all sets. -/
abbrev encS (j : Nat) : Array Value := #[.int .i64 (j : Int)]
theorem sets_any (A : Option Addr) (n c : Nat) (w : World) :
    Calls Try.prog 120 #[.slice A n c] w fun e w' => e = .returned (.func (.func 136) #[] #[.pointer (some ⟨w.heap.size, 0, none⟩)]) ∧ w' = w.alloc (.cells #[.slice A n c] 38) := by
  go_enter Try.func120, Try.ntmps120
  go_wp2
  go_ret
  exact ⟨rfl, rfl⟩

theorem range_pre {k N : Nat} (h : k < N) : List.range k ++ [k] <+: List.range N := by
  rw [← List.range_succ]
  refine ⟨(List.range N).drop (k + 1), ?_⟩
  have : List.range (k + 1) = (List.range N).take (k + 1) := by rw [List.take_range]; congr 1; omega
  rw [this, List.take_append_drop]

set_option maxRecDepth 100000 in
set_option maxHeartbeats 1000000 in
theorem sets_iter (A : Option Addr) (n c : Nat) (hn : n ≤ 6) (b : Nat) (M : Nat → Prop) (w : World) (hb : Boxed w b 38 (.slice A n c)) :
    Iter Try.prog 136 #[.pointer (some ⟨b, 0, none⟩)] encS (List.range (2 ^ n)) M w := fun l J Jx hJ hJx hY h0 => by
  refine (callsIn_wide (n := 9)).1 ?_
  refine callsIn_of_wp Try.func136 rfl trivial ?_ rfl
  simp only [Try.ntmps136, List.size_toArray, List.length_cons, List.length_nil, Nat.reduceAdd, Nat.reduceSub, Array.replicate_succ, Array.replicate_zero, List.push_toArray, List.append_toArray, List.nil_append, List.cons_append]
  have hc0 := hb.cell
  have hp6 : (2 : Nat) ^ n ≤ 2 ^ 6 := Nat.pow_le_pow_right (by decide) hn
  have hsh : wrap64 (2 ^ n) = ((2 ^ n : Nat) : Int) := by
    have e : ((2 ^ n : Nat) : Int) = 2 ^ n := by simp
    have key : ∀ q : Nat, q ≤ 2 ^ 6 → wrap64 (q : Int) = q := fun q h => IntWalk.wrap64_in _ ⟨by omega, by omega⟩
    rw [← e]
    exact key _ hp6
  generalize hN : (2 : Nat) ^ n = N at *
  clear hN
  gi_wp2
  rw [hsh]
  gi_loopw [7] (fun i wr => ∃ (k : Nat) (D : Nat → Prop), k ≤ N ∧ i = .int .i64 k ∧ J (List.range k) D wr ∧ w.heap.size ≤ wr.heap.size) (fun i _ => N - (intOf i).toNat)
  case atStart => exact ⟨0, _, by omega, rfl, h0, Nat.le_refl _⟩
  case round =>
    obtain ⟨k, D, hk, rfl, hj, hsz⟩ := hrel
    by_cases hlt : k < N
    · have Hj := Lib.hid (List.range_succ (n := k))
      have hpre := range_pre hlt
      obtain ⟨fn, tmps, assign, body, hy, hR⟩ := hY (List.range k) k D wr hj hsz hpre 8
      gi_wp2
      refine hR.mono ?_
      rintro e W3 (⟨rfl, D', hJ3, hU, hD'⟩ | ⟨rfl, D', hJ3, hU, hD'⟩)
      · have hz3 := hU.size
        gi_wp2
        go_roundw
        case rel => exact ⟨k + 1, D', by omega, by go_num, by rw [Hj.out]; exact hJ3, by omega⟩
        case measure => simp [intOf]; omega
      · gi_wp2
        refine bodyPost_ret (results_none rfl _ _ _) rfl ?_
        exact ⟨⟨_, rfl⟩, .inr ⟨_, D', hpre, hJ3⟩⟩
    · obtain rfl : k = N := by omega
      gi_wp2
      go_end0
      exact ⟨⟨_, rfl⟩, .inl ⟨D, hj⟩⟩
end Go.Proofs.Ytcadmjpkgnbodaa

/- The program's count of sets by their sizes, for a test that is handed in. -/
namespace Go.Proofs.Ytcadmjpkgnbodaa
open Go.RowKit Go.Shelf
attribute [local go_sem] Oper.semAt_some
attribute [local go_sem, local simp] wide_fn

/-- The test g, bound to the order: what it answers. -/
def Tests (g : FuncId) (A : Option Addr) (n c : Nat) (zs : List Int) (p : Int → Bool) : Prop :=
  ∀ (s : Int) (w : World), 0 ≤ s → s < powI n → Ints w w.heap.size A n zs → Calls Try.prog g #[.slice A n c, .int .i64 s] w fun e W' => e = .returned (.bool (p s)) ∧ Below w.heap.size w W'

theorem cnt_small (p : Int → Bool) (len k : Nat) (hk : k ≤ 64) (i : Nat) : 0 ≤ (cntTo p len k)[i]?.getD 0 ∧ (cntTo p len k)[i]?.getD 0 ≤ 64 := by
  have := cntTo_bd p len k i; omega
theorem popI_le_n_fin : ∀ n : Fin 7, ∀ k : Fin 64, (k.val : Int) < powI (n.val : Int) → popI (k.val : Int) ≤ (n.val : Int) := by decide +kernel
theorem popI_le_n {n : Nat} {s : Int} (hn : n ≤ 6) (h0 : 0 ≤ s) (h1 : s < powI n) : popI s ≤ n := by
  have hpn := powI_le6 (n := (n : Int)) (by omega)
  obtain ⟨k, rfl⟩ := Int.eq_ofNat_of_zero_le h0
  exact popI_le_n_fin ⟨n, by omega⟩ ⟨k, by omega⟩ h1

theorem range_at {N : Nat} {pre : List Nat} {x : Nat} (h : pre ++ [x] <+: List.range N) : x = pre.length ∧ pre.length < N := by
  have hl := h.length_le
  simp at hl
  have e := h.getElem (i := pre.length) (by simp)
  simp at e
  exact ⟨e, by omega⟩

/-- What countSets hands back: the first m numbers of a row of its own. -/
def GivesCut (w : World) (xs : List Int) (m : Nat) (e : Ending) (w' : World) : Prop :=
  ∃ b c, e = .returned (.slice (some ⟨b, 0, none⟩) m c) ∧ Arr w' b 3 xs ∧ w.heap.size ≤ b ∧ m ≤ xs.length ∧ Below w.heap.size w w'

set_option maxRecDepth 100000 in
set_option maxHeartbeats 4000000 in
theorem countSets_any (g : FuncId) (hg : ∀ args w, (callFunc g args).run Try.prog w = .ok (.enter g args) w) (A : Option Addr) (n c : Nat) (zs : List Int) (p : Int → Bool) (hn6 : n ≤ 6) (w : World) (hA : Ints w w.heap.size A n zs) (hT : Tests g A n c zs p) :
    Calls Try.prog 89 #[.slice A n c, .func (.func g) #[.slice A n c] #[]] w fun e W' => GivesCut w (cntTo p (n + 1) (2 ^ n)) ((grTo p (2 ^ n)).toNat + 1) e W' := by
  refine (callsIn_wide (n := 9)).1 ?_
  refine callsIn_of_wp_marks Try.func89 rfl trivial ?_ rfl
  simp only [Try.ntmps89, List.size_toArray, List.length_cons, List.length_nil, Nat.reduceAdd, Nat.reduceSub, Array.replicate_succ, Array.replicate_zero, List.push_toArray, List.append_toArray, List.nil_append, List.cons_append]
  have hlen := Lib.hid hA.len
  have hp6 : (2 : Nat) ^ n ≤ 2 ^ 6 := Nat.pow_le_pow_right (by decide) hn6
  have hN := Lib.hid (show powI n = ((2 ^ n : Nat) : Int) by simp [powI])
  have hmk := run_make_row' (P := Try.prog) 22 3 (.int .i64 0) 8 Try.underlying22 infoInt rfl .i64 .i64 (n + 1) (by omega) (by omega)
  rw [Int.natCast_add, Int.cast_ofNat_Int] at hmk
  gi_wp2_with (gi_at_call 120; refine (callsIn_wide.2 (sets_any _ _ _ _)).mono ?_; rintro e w' ⟨rfl, rfl⟩)
  have bF := ((((Boxed.new w 59 (.func (.func g) #[.slice A n c] #[])).alloc (.cells (madeCells #[Value.int .i64 0] (n + 1)) 3)).alloc (.cells #[Value.slice (some ⟨w.heap.size + 1, 0, none⟩) (n + 1) (n + 1)] 22)).alloc (.cells #[Value.int .i64 0] 3)).alloc (.cells #[Value.slice A n c] 38)
  have aR := (((Arr.new (w.alloc (.cells #[Value.func (.func g) #[.slice A n c] #[]] 59)) 3 (n + 1)).alloc (.cells #[Value.slice (some ⟨w.heap.size + 1, 0, none⟩) (n + 1) (n + 1)] 22)).alloc (.cells #[Value.int .i64 0] 3)).alloc (.cells #[Value.slice A n c] 38)
  have bC := ((Boxed.new ((w.alloc (.cells #[Value.func (.func g) #[.slice A n c] #[]] 59)).alloc (.cells (madeCells #[Value.int .i64 0] (n + 1)) 3)) 22 (.slice (some ⟨w.heap.size + 1, 0, none⟩) (n + 1) (n + 1))).alloc (.cells #[Value.int .i64 0] 3)).alloc (.cells #[Value.slice A n c] 38)
  have bG := (Boxed.new (((w.alloc (.cells #[Value.func (.func g) #[.slice A n c] #[]] 59)).alloc (.cells (madeCells #[Value.int .i64 0] (n + 1)) 3)).alloc (.cells #[Value.slice (some ⟨w.heap.size + 1, 0, none⟩) (n + 1) (n + 1)] 22)) 3 (.int .i64 0)).alloc (.cells #[Value.slice A n c] 38)
  have bE := Boxed.new ((((w.alloc (.cells #[Value.func (.func g) #[.slice A n c] #[]] 59)).alloc (.cells (madeCells #[Value.int .i64 0] (n + 1)) 3)).alloc (.cells #[Value.slice (some ⟨w.heap.size + 1, 0, none⟩) (n + 1) (n + 1)] 22)).alloc (.cells #[Value.int .i64 0] 3)) 38 (.slice A n c)
  have hu0 : Upd (fun _ => False) w (((((w.alloc (.cells #[Value.func (.func g) #[.slice A n c] #[]] 59)).alloc (.cells (madeCells #[Value.int .i64 0] (n + 1)) 3)).alloc (.cells #[Value.slice (some ⟨w.heap.size + 1, 0, none⟩) (n + 1) (n + 1)] 22)).alloc (.cells #[Value.int .i64 0] 3)).alloc (.cells #[Value.slice A n c] 38)) := (((((Upd.refl _ w).alloc _).alloc _).alloc _).alloc _).alloc _
  have hz0 : (((((w.alloc (.cells #[Value.func (.func g) #[.slice A n c] #[]] 59)).alloc (.cells (madeCells #[Value.int .i64 0] (n + 1)) 3)).alloc (.cells #[Value.slice (some ⟨w.heap.size + 1, 0, none⟩) (n + 1) (n + 1)] 22)).alloc (.cells #[Value.int .i64 0] 3)).alloc (.cells #[Value.slice A n c] 38)).heap.size = w.heap.size + 5 := by simp
  simp only [World.size_alloc] at bC bG bE aR
  obtain ⟨W0, hW0⟩ : ∃ W0, (((((w.alloc (.cells #[Value.func (.func g) #[.slice A n c] #[]] 59)).alloc (.cells (madeCells #[Value.int .i64 0] (n + 1)) 3)).alloc (.cells #[Value.slice (some ⟨w.heap.size + 1, 0, none⟩) (n + 1) (n + 1)] 22)).alloc (.cells #[Value.int .i64 0] 3)).alloc (.cells #[Value.slice A n c] 38)) = W0 := ⟨_, rfl⟩
  rw [hW0] at bF bC bG bE aR hu0 hz0 ⊢
  clear hW0 hmk
  have hA0 : Ints W0 w.heap.size A n zs := hA.below (hu0.toBelow (fun _ e => e.elim) (Nat.le_refl _))
  refine range_out (n := 9) (gf := 136) (lb := #[.pointer (some ⟨w.heap.size + 1 + 1 + 1 + 1, 0, none⟩)]) rfl (enters_of Try.func136 (by kernel_rfl) rfl) (encs := encS) (L := List.range (2 ^ n))
    (fun k => k = w.heap.size + 1 ∨ k = w.heap.size + 1 + 1 + 1) (fun k e => by omega) (fun _ => rfl)
    (fun W1 l1 hu1 hl1 hl2 => sets_iter _ _ _ hn6 _ _ W1 (hu1.boxed bE (fun e => e)))
    (fun pre D W => Arr W (w.heap.size + 1) 3 (cntTo p (n + 1) pre.length) ∧ Boxed W (w.heap.size + 1 + 1 + 1) 3 (.int .i64 (grTo p pre.length)) ∧ Upd (fun k => w.heap.size ≤ k ∧ (k = w.heap.size + 1 ∨ k = w.heap.size + 1 + 1 + 1)) W0 W)
    (fun _ _ _ _ => False)
    (fun _ D X Y hs hu => ⟨hs.1.upd hu (fun e => by omega), hu.boxed hs.2.1 (fun e => by omega), hs.2.2.trans' hu (fun i hi e => by omega)⟩)
    (fun _ _ _ _ _ hs _ => hs)
    ⟨aR, bG, Upd.refl _ _⟩ ?owes ?done ?stop
  case owes =>
    rintro l1 pre x D1 W hl1 hl2 hDl hD1 - hpre K hK
    gi_wp2
    refine hK _ _ (Upd.refl _ _) ?_
    rintro Wb hWb - ⟨aR1, bG1, hU⟩
    clear hK
    obtain ⟨hx, hxN⟩ := range_at hpre
    subst hx
    have hNo := hN.out
    have hsb := hU.size
    have hszb := hWb.size
    have hcF := (hU.boxed bF (by omega)).cell
    have hcC := (hU.boxed bC (by omega)).cell
    have hx64 : pre.length < 64 := by omega
    have hpb := popI_bd (s := (pre.length : Int)) (by omega) (by omega)
    have hpn := popI_le_n (s := (pre.length : Int)) hn6 (by omega) (by omega)
    clear hpre
    generalize hq : pre.length = q at *
    have Hq := Lib.hid hq
    clear hq
    have hAb : Ints Wb w.heap.size A n zs := hA0.below (hU.toBelow (fun k e => e.1) (by omega))
    gi_wp2
    refine (CallsIn.inRound l1 (callsIn_wide.2 (hT q Wb (by omega) (by omega) (hAb.more (by omega))))).mono ?_
    rintro e W1 ⟨rfl, hB1⟩
    have hz1 := hB1.size
    have hU1 := hU.trans' (Below.toUpd hB1) (R := fun k => w.heap.size ≤ k ∧ (k = w.heap.size + 1 ∨ k = w.heap.size + 1 + 1 + 1)) (fun i hi e => by omega)
    have aR2 := aR1.below hB1 (by omega)
    have bG2 : Boxed W1 (w.heap.size + 1 + 1 + 1) 3 (.int .i64 (grTo p q)) := (hB1.block _ (by omega)).trans bG1
    have hV1 : Upd (fun k => (k = w.heap.size + 1 ∨ k = w.heap.size + 1 + 1 + 1) ∨ D1 k ∨ W.heap.size ≤ k) Wb W1 := (Below.toUpd hB1).mono (fun k hk e => by omega)
    clear hAb
    cases hpq : p (q : Int)
    · have Hc := Lib.hid (show cntTo p (n + 1) (q + 1) = cntTo p (n + 1) q by simp [cntTo, hpq])
      have Hg := Lib.hid (show grTo p (q + 1) = grTo p q by simp [grTo, hpq])
      gi_wp2
      exact ⟨D1, ⟨by rw [List.length_append, List.length_singleton, Hq.out, Hc.out]; exact aR2, by rw [List.length_append, List.length_singleton, Hq.out, Hg.out]; exact bG2, hU1⟩, hV1, fun k hk => .inl hk⟩
    · have Hc := Lib.hid (show cntTo p (n + 1) (q + 1) = (cntTo p (n + 1) q).set (popI (q : Int)).toNat ((cntTo p (n + 1) q)[(popI (q : Int)).toNat]?.getD 0 + 1) by rw [cntTo, if_pos hpq])
      have Hg := Lib.hid (show grTo p (q + 1) = max (grTo p q) (popI (q : Int)) by rw [grTo, if_pos hpq])
      have hlc := cntTo_len p (n + 1) q
      have hcs := aR2.cell (k := (popI (q : Int)).toNat) (by rw [hlc]; omega)
      have hfs := aR2.frozen (popI (q : Int)).toNat
      have hcb := cnt_small p (n + 1) q (by omega) (popI (q : Int)).toNat
      have hcF1 := (hU1.boxed bF (by omega)).cell
      have hcC1 := (hU1.boxed bC (by omega)).cell
      have hgn := grTo_nn p q
      have hgb := grTo_bd p q (by omega)
      obtain ⟨m, hm⟩ := Int.eq_ofNat_of_zero_le hpb.1
      rw [hm] at hcs hfs hcb hpb hpn Hc Hg
      simp only [Int.toNat_natCast] at hcs hfs hcb Hc
      have hsz : ∀ w, Calls Try.prog 92 #[.int .i64 (q : Int)] w fun e w' => e = .returned (.int .i64 (m : Int)) ∧ w = w' := fun w => by
        rw [← hm]; exact size_any _ _ (by omega) (by omega)
      generalize cntTo p (n + 1) q = C at *
      generalize grTo p q = G at *
      gi_wp2
      refine region_tail_round 7 (by kernel_rfl) (by kernel_rfl) (by kernel_rfl) ?_
      simp only [List.take_succ_cons, List.take_zero, List.drop_succ_cons, List.drop_zero]
      repeat (gi_big_quiet_step ((first
        | (gi_at_call 92; exact quietIn_add (hsz _))
        | (gi_at_call 92; exact quietIn_left (hsz _)))))
      refine wpQuietIn_nil ?_
      intro _ hw'
      obtain ⟨nq, hw''⟩ := hw'
      subst hw''
      gi_wp2
      have aR3 := (aR2.drewN nq).set m (C[m]?.getD 0 + 1)
      have bG3 : Boxed ((W1.drewN nq).setCell ⟨w.heap.size + 1, m, none⟩ (.int .i64 (C[m]?.getD 0 + 1))) (w.heap.size + 1 + 1 + 1) 3 (.int .i64 G) := (Below.heap_setCell (W1.drewN nq) ⟨w.heap.size + 1, m, none⟩ _ (w.heap.size + 1 + 1 + 1) (by simp; omega)).trans bG2
      have hU3 : Upd (fun k => w.heap.size ≤ k ∧ (k = w.heap.size + 1 ∨ k = w.heap.size + 1 + 1 + 1)) W0 ((W1.drewN nq).setCell ⟨w.heap.size + 1, m, none⟩ (.int .i64 (C[m]?.getD 0 + 1))) := (hU1.drewN nq).setCell (p := ⟨w.heap.size + 1, m, none⟩) (.inr (by simp)) _
      have hV3 : Upd (fun k => (k = w.heap.size + 1 ∨ k = w.heap.size + 1 + 1 + 1) ∨ D1 k ∨ W.heap.size ≤ k) Wb ((W1.drewN nq).setCell ⟨w.heap.size + 1, m, none⟩ (.int .i64 (C[m]?.getD 0 + 1))) := (hV1.drewN nq).setCell (p := ⟨w.heap.size + 1, m, none⟩) (.inr (by simp)) _
      obtain ⟨W3, hW3⟩ : ∃ W3, (W1.drewN nq).setCell ⟨w.heap.size + 1, m, none⟩ (.int .i64 (C[m]?.getD 0 + 1)) = W3 := ⟨_, rfl⟩
      rw [hW3] at aR3 bG3 hU3 hV3 ⊢
      clear hW3 hU1 hV1 aR2 bG2 hcs hfs hcC1 hcF1
      have hcG := bG3.cell
      have hfG := bG3.frozen
      refine region_tail_round 4 (by kernel_rfl) (by kernel_rfl) (by kernel_rfl) ?_
      simp only [List.take_succ_cons, List.take_zero, List.drop_succ_cons, List.drop_zero]
      repeat (gi_big_quiet_step ((first
        | (gi_at_call 92; exact quietIn_add (hsz _))
        | (gi_at_call 92; exact quietIn_left (hsz _)))))
      refine wpQuietIn_nil ?_
      intro _ hw'
      obtain ⟨nr, hw''⟩ := hw'
      subst hw''
      gi_wp2
      all_goals exact ⟨D1, ⟨by rw [List.length_append, List.length_singleton, Hq.out, Hc.out]; exact (aR3.drewN nr).far (by simp) _, by
            rw [List.length_append, List.length_singleton, Hq.out, Hg.out]
            first
              | (rw [Int.max_eq_left (by omega)]; exact Boxed.set (W := W3.drewN nr) (v := .int .i64 G) _ bG3)
              | (rw [Int.max_eq_right (by omega)]; exact Boxed.set (W := W3.drewN nr) (v := .int .i64 G) _ bG3), (hU3.drewN nr).setCell (p := ⟨w.heap.size + 1 + 1 + 1, 0, none⟩) (.inr (by simp; omega)) _⟩,
        (hV3.drewN nr).setCell (p := ⟨w.heap.size + 1 + 1 + 1, 0, none⟩) (.inr (by simp)) _, fun k hk => .inl hk⟩
  case done =>
    rintro d D1 W hd ⟨aR1, bG1, hU⟩ hD1 hKd
    rw [List.length_range] at aR1 bG1
    have hNo := hN.out
    have hcC := (hU.boxed bC (by omega)).cell
    have hcG := bG1.cell
    have hg0 := grTo_nn p (2 ^ n)
    have hgn : grTo p (2 ^ n) ≤ n := grTo_le (by omega) _ (fun j hj _ => popI_le_n hn6 (by omega) (by omega))
    obtain ⟨m, hm⟩ := Int.eq_ofNat_of_zero_le hg0
    have hlc := cntTo_len p (n + 1) (2 ^ n)
    have Hm := Lib.hid hm
    rw [hm] at hcG hgn
    clear hm hg0
    gi_wp2
    refine leaves_marks [d] _ ⟨by simp, fun b hb => ?_⟩ (fun W' hu' => ?_)
    · rw [List.mem_singleton.1 hb]
      exact hKd
    · exact ⟨.slice (some ⟨w.heap.size + 1, 0, none⟩) (m + 1) (n + 1), by simp [results, Try.f89, go_sem], w.heap.size + 1, n + 1, by rw [Hm.out]; rfl, aR1.upd hu' (by simp; omega), by omega, by rw [Hm.out, hlc]; simp; omega,
        (((hu0.mono fun _ _ e => e.elim).trans' hU (fun i hi e => by omega)).trans' hu' (fun i hi e => by simp at e; omega)).toBelow (R := fun _ => False) (fun _ e => e.elim) (Nat.le_refl _)⟩
  case stop =>
    rintro d D1 co pre W hd hpre h
    exact h.elim

theorem greatestOf_any (g : FuncId) (hg : ∀ args w, (callFunc g args).run Try.prog w = .ok (.enter g args) w) (A : Option Addr) (n c : Nat) (zs : List Int) (p : Int → Bool) (hn6 : n ≤ 6) (w : World) (hA : Ints w w.heap.size A n zs) (hT : Tests g A n c zs p) :
    Calls Try.prog 60 #[.slice A n c, .func (.func g) #[.slice A n c] #[]] w fun e W' => e = .returned (.int .i64 (grTo p (2 ^ n))) ∧ Below w.heap.size w W' := by
  have hN := Lib.hid (show powI n = ((2 ^ n : Nat) : Int) by simp [powI])
  have hNo := hN.out
  have hg0 := grTo_nn p (2 ^ n)
  have hgn : grTo p (2 ^ n) ≤ n := grTo_le (by omega) _ (fun j hj _ => popI_le_n hn6 (by omega) (by omega))
  clear hNo
  obtain ⟨m, hm⟩ := Int.eq_ofNat_of_zero_le hg0
  rw [hm] at hgn ⊢
  have hcs := countSets_any g hg A n c zs p hn6 w hA hT
  rw [hm] at hcs
  go_enter Try.func60, Try.ntmps60
  go_wp2_with (go_at_call 89; refine hcs.mono ?_; rintro e w' ⟨b, c', rfl, hAr, hb, hm', hB⟩)
  go_ret
  exact ⟨ret_int (by simp), hB⟩

/-! Both tests that there are. -/
theorem tests_chain (A : Option Addr) (n c : Nat) (zs : List Int) (hv : VoP zs) : Tests 64 A n c zs (chB zs) := fun s w h0 h1 h => isChain_any A n c zs s hv w h h0 h1
theorem tests_apart (A : Option Addr) (n c : Nat) (zs : List Int) (hv : VoP zs) : Tests 61 A n c zs (apB zs) := fun s w h0 h1 h => isApart_any A n c zs s hv.sets w h h0 h1
theorem enters_chain : ∀ args w, (callFunc 64 args).run Try.prog w = .ok (.enter 64 args) w := enters_of Try.func64 (by kernel_rfl) rfl
theorem enters_apart : ∀ args w, (callFunc 61 args).run Try.prog w = .ok (.enter 61 args) w := enters_of Try.func61 (by kernel_rfl) rfl
end Go.Proofs.Ytcadmjpkgnbodaa

/- IsChain and IsApart: the model's and the program's. -/
namespace Go.Proofs.Ytcadmjpkgnbodaa
open Go.RowKit

def isChainR (zs : List Int) (s : Int) : Bool := (vo zs && inB s 0 (powI zs.length - 1)) && chB zs s
def isApartR (zs : List Int) (s : Int) : Bool := (vo zs && inB s 0 (powI zs.length - 1)) && apB zs s

theorem IsChain_any (A : Option Addr) (n c : Nat) (zs : List Int) (s : Int) (w : World) (h : Ints w w.heap.size A n zs) (hbig : n ≤ 1152921504606846976) :
    Calls Try.prog 30 #[.slice A n c, .int .i64 s] w fun e w' => e = .returned (.bool (isChainR zs s)) ∧ Below w.heap.size w w' := by
  have hlen := Lib.hid h.len
  cases hv : vo zs
  · have Ht := Lib.hid (show isChainR zs s = false by unfold isChainR; rw [hv]; rfl)
    have Hv := Lib.hid hv
    clear hv
    go_enter Try.func30, Try.ntmps30
    go_wp2_with fail
    refine (readOrder_any _ _ _ zs _ h hbig).mono ?_
    rintro e w' ⟨hB, (⟨hv, b, rfl, _, _⟩ | ⟨_, rfl⟩)⟩
    · rw [Hv.out] at hv; cases hv
    · go_wp2_with fail
      go_ret
      exact ⟨ret_bool Ht.out.symm, hB⟩
  · have hvo : VoP zs := by simpa [vo] using hv
    have Hv := Lib.hid hv
    clear hv
    have hn6 : n ≤ 6 := by have := hvo.1; rw [hlen.out] at this; exact this
    cases hq : inB s 0 (powI n - 1)
    · have Ht := Lib.hid (show isChainR zs s = false by unfold isChainR; rw [hlen.out, hq]; simp)
      go_enter Try.func30, Try.ntmps30
      go_wp2_with fail
      refine (readOrder_any _ _ _ zs _ h hbig).mono ?_
      rintro e w' ⟨hB, (⟨_, b, rfl, _, _⟩ | ⟨hv, _⟩)⟩
      · go_wp2_with (go_at_call 63; refine (isSetOf_any _ _ _ (by omega) (by omega)).mono ?_; rintro e w2 ⟨rfl, rfl⟩)
        go_ret
        exact ⟨ret_bool Ht.out.symm, hB⟩
      · rw [Hv.out] at hv; cases hv
    · have Ht := Lib.hid (show isChainR zs s = chB zs s by unfold isChainR; rw [hlen.out, hq, Hv.out]; rfl)
      have hs : 0 ≤ s ∧ s < powI n := by unfold inB at hq; simp at hq; omega
      go_enter Try.func30, Try.ntmps30
      go_wp2_with fail
      refine (readOrder_any _ _ _ zs _ h hbig).mono ?_
      rintro e w' ⟨hB, (⟨_, b, rfl, hb, hAr⟩ | ⟨hv, _⟩)⟩
      · go_wp2_with (first
          | (go_at_call 63; refine (isSetOf_any _ _ _ (by omega) (by omega)).mono ?_; rintro e w2 ⟨rfl, rfl⟩)
          | (go_at_call 64; refine (isChain_any _ _ _ zs s hvo _ (hAr.ints' hAr.lt hlen.out) hs.1 hs.2).mono ?_; rintro e w2 ⟨rfl, hB2⟩))
        go_ret
        exact ⟨ret_bool Ht.out.symm, hB.trans (hB2.mono hB.size)⟩
      · rw [Hv.out] at hv; cases hv

end Go.Proofs.Ytcadmjpkgnbodaa

/- The longest chain and the widest set apart: words, and the model's helper. -/
namespace Go.Proofs.Ytcadmjpkgnbodaa
open Go.RowKit

theorem maxL_snoc (f : Nat → Int) (l : List Nat) (a : Nat) : maxL f (l ++ [a]) = max (maxL f l) (f a + 1) := by simp [maxL]
theorem maxL_range (f : Nat → Int) (k : Nat) : maxL f (List.range (k + 1)) = max (maxL f (List.range k)) (f k + 1) := by rw [List.range_succ, maxL_snoc]
theorem hgts_get {zs : List Int} {n k : Nat} (hk : k < n) : ((List.range n).map (hgt zs))[k]?.getD 0 = hgt zs k := by simp [hk]

def longR (zs : List Int) : Int := if vo zs then longI zs else -1
def wideR (zs : List Int) : Int := if vo zs then grTo (apB zs) (setsN zs) else -1
end Go.Proofs.Ytcadmjpkgnbodaa

/- Chains and sets apart: what is left of them, and when a chain is apart. No program. -/
namespace Go.Proofs.Ytcadmjpkgnbodaa

theorem isChain_is {zs : List Int} {s : Int} (h : VoP zs) (h0 : 0 ≤ s) (h1 : s < powI zs.length) : isChainR zs s = chB zs s := by
  unfold isChainR inB
  rw [vo_true h, decide_eq_true (show (0 : Int) ≤ s ∧ s ≤ powI zs.length - 1 by omega)]
  rfl
theorem isApart_is {zs : List Int} {s : Int} (h : VoP zs) (h0 : 0 ≤ s) (h1 : s < powI zs.length) : isApartR zs s = apB zs s := by
  unfold isApartR inB
  rw [vo_true h, decide_eq_true (show (0 : Int) ≤ s ∧ s ≤ powI zs.length - 1 by omega)]
  rfl
theorem isChain_parts {zs : List Int} {s : Int} (h : isChainR zs s = true) : VoP zs ∧ (0 ≤ s ∧ s < powI zs.length) ∧ chB zs s = true := by
  unfold isChainR at h
  rw [Bool.and_eq_true, Bool.and_eq_true] at h
  obtain ⟨⟨h1, h2⟩, h3⟩ := h
  have h2' : (0 : Int) ≤ s ∧ s ≤ powI zs.length - 1 := by simpa [inB] using h2
  exact ⟨by simpa [vo] using h1, ⟨h2'.1, by omega⟩, h3⟩
theorem isApart_parts {zs : List Int} {s : Int} (h : isApartR zs s = true) : VoP zs ∧ (0 ≤ s ∧ s < powI zs.length) ∧ apB zs s = true := by
  unfold isApartR at h
  rw [Bool.and_eq_true, Bool.and_eq_true] at h
  obtain ⟨⟨h1, h2⟩, h3⟩ := h
  have h2' : (0 : Int) ≤ s ∧ s ≤ powI zs.length - 1 := by simpa [inB] using h2
  exact ⟨by simpa [vo] using h1, ⟨h2'.1, by omega⟩, h3⟩
theorem chB_sub {zs : List Int} {s t : Int} (h1 : s < 64) (h2 : t < 64) (hs : ∀ j : Nat, bitB t j = true → bitB s j = true) (h : chB zs s = true) : chB zs t = true := by
  unfold chB at *
  rw [decide_eq_true_eq] at *
  rw [ChP_iff h2]
  intro a b ha hb hab
  exact (ChP_iff h1).1 h a b (hs a ha) (hs b hb) hab
theorem apB_sub {zs : List Int} {s t : Int} (h1 : s < 64) (h2 : t < 64) (hs : ∀ j : Nat, bitB t j = true → bitB s j = true) (h : apB zs s = true) : apB zs t = true :=
  (apB_iff h2).2 fun a b ha hb => (apB_iff h1).1 h a b (hs a ha) (hs b hb)
/-- The set without its least item, as the program's 's & (s-1)'. -/
theorem less_one {n : Nat} {s : Int} (h0 : 0 ≤ s) (h1 : s < powI n) (hn : n ≤ 6) : ∃ t, bits .and .i64 s (s - 1) = t ∧ 0 ≤ t ∧ t < powI n ∧ ∀ j : Nat, bitB t j = true → bitB s j = true := by
  have hp := powI_le6 (n := (n : Int)) (by omega)
  by_cases hs : s = 0
  · subst hs
    exact ⟨0, by decide, by omega, by omega, fun _ e => e⟩
  · have hb := andI_bd s (s - 1)
    exact ⟨andI s (s - 1), bits_and (by omega) (by omega) (by omega) (by omega), hb.1, by omega, fun j e => by rw [bitB_and, Bool.and_eq_true] at e; exact e.1⟩
theorem du_isChain {zs : List Int} {s : Int} (h : VoP zs) (h0 : 0 ≤ s) (h1 : s < powI zs.length) : isChainR (du zs) s = chB zs s := by
  rw [isChain_is (du_vo h) h0 (by rw [du_len]; exact h1), du_chB h.sets]
theorem du_isApart {zs : List Int} {s : Int} (h : VoP zs) (h0 : 0 ≤ s) (h1 : s < powI zs.length) : isApartR (du zs) s = apB zs s := by
  have hp := powI_le6 (n := (zs.length : Int)) (by have := h.1; omega)
  rw [isApart_is (du_vo h) h0 (by rw [du_len]; exact h1), du_apB h.sets (by omega)]
theorem chain_apart {zs : List Int} {s : Int} (h : VoP zs) (h0 : 0 ≤ s) (h1 : s < powI zs.length) (hc : chB zs s = true) : apB zs s = decide (popI s ≤ 1) := by
  have hp := powI_le6 (n := (zs.length : Int)) (by have := h.1; omega)
  have h64 : s < 64 := by omega
  rw [popI_items h0 h64]
  have hs := itemsL_sorted s
  have hm : ∀ j : Nat, j ∈ itemsL s ↔ bitB s j = true := fun j => mem_itemsL h64
  have hc' : ChP zs s := of_decide_eq_true hc
  unfold ChP at hc'
  clear hc
  match hl : itemsL s with
  | [] =>
    rw [hl] at hm
    have : apB zs s = true := (apB_iff h64).2 fun a b ha hb => by have := (hm a).2 ha; simp at this
    rw [this]; rfl
  | [x] =>
    rw [hl] at hm
    have : apB zs s = true := (apB_iff h64).2 fun a b ha hb => by
      have e1 := (hm a).2 ha
      have e2 := (hm b).2 hb
      simp only [List.mem_singleton] at e1 e2
      subst e1; subst e2
      exact h.irrB (bitB_lt h1 ha)
    rw [this]; rfl
  | x :: y :: l =>
    rw [hl] at hc' hs hm
    have hr : relB zs x y = true := (List.pairwise_cons.1 hc').1 y (by simp)
    have hx := (hm x).1 (by simp)
    have hy := (hm y).1 (by simp)
    have hno : apB zs s = false := by
      cases e : apB zs s
      · rfl
      · have ha := (apB_iff h64).1 e
        unfold relB at hr
        rw [ha x y hx hy, ha y x hy hx] at hr
        cases hr
    rw [hno, decide_eq_false]
    simp only [List.length_cons]
    omega
theorem apart_le {zs : List Int} {s : Int} (h : VoP zs) (h0 : 0 ≤ s) (h1 : s < powI zs.length) (ha : apB zs s = true) : popI s ≤ wideR zs := by
  unfold wideR
  rw [vo_true h]
  obtain ⟨j, rfl⟩ := Int.eq_ofNat_of_zero_le h0
  have hN := setsN_pow zs
  exact grTo_ge ha (setsN zs) (by omega)
end Go.Proofs.Ytcadmjpkgnbodaa

/- The order of some items alone, numbered anew: it is an order, and is lined up in as many ways as they are. No program. -/
namespace Go.Proofs.Ytcadmjpkgnbodaa

theorem inc_ext : ∀ (l m : List Nat), l.Pairwise (· < ·) → m.Pairwise (· < ·) → (∀ a, a ∈ l ↔ a ∈ m) → l = m
  | [], [], _, _, _ => rfl
  | [], b :: m, _, _, h => by have := (h b).2 (by simp); cases this
  | a :: l, [], _, _, h => by have := (h a).1 (by simp); cases this
  | a :: l, b :: m, hl, hm, h => by
    rw [List.pairwise_cons] at hl hm
    have hab : a = b := by
      rcases List.mem_cons.1 ((h a).1 (by simp)) with e | e
      · exact e
      · rcases List.mem_cons.1 ((h b).2 (by simp)) with e2 | e2
        · exact e2.symm
        · have := hm.1 a e; have := hl.1 b e2; omega
    subst hab
    rw [inc_ext l m hl.2 hm.2 fun x => ?_]
    have hx := h x
    rw [List.mem_cons, List.mem_cons] at hx
    constructor
    · intro e
      rcases hx.1 (.inr e) with e2 | e2
      · have := hl.1 x e; omega
      · exact e2
    · intro e
      rcases hx.2 (.inr e) with e2 | e2
      · have := hm.1 x e; omega
      · exact e2
theorem range_inc (n : Nat) : (List.range n).Pairwise (· < ·) := List.pairwise_lt_range
/-- The numbers of z that l lists, by their places in l, up to k. -/
def rowTo (z : Int) (l : List Nat) : Nat → Int
  | 0 => 0
  | k + 1 => orI (rowTo z l k) (bitI z (l[k]?.getD 0) * powI k)
theorem bitI_mul (z j : Int) (k : Nat) : bitI z j * powI k = if bitB z j then powI k else 0 := by
  unfold bitI; split <;> simp
theorem rowTo_bd (z : Int) (l : List Nat) : ∀ k : Nat, 0 ≤ rowTo z l k ∧ rowTo z l k < powI k
  | 0 => by simp [rowTo, powI]
  | k + 1 => by
    have h := rowTo_bd z l k
    have hp : powI (k : Int) < powI ((k + 1 : Nat) : Int) := powI_lt (by omega)
    have h0 := powI_pos (k : Int)
    have h1 := powI_pos ((k + 1 : Nat) : Int)
    unfold rowTo
    rw [bitI_mul]
    split
    · exact orI_bd h.1 (by omega) (Int.le_of_lt h0) hp
    · exact orI_bd h.1 (by omega) (Int.le_refl _) h1
theorem rowTo_bit (z : Int) (l : List Nat) (j : Nat) : ∀ k : Nat, bitB (rowTo z l k) j = true ↔ j < k ∧ bitB z ((l[j]?.getD 0 : Nat) : Int) = true
  | 0 => by simp [rowTo, bitB_zero]
  | k + 1 => by
    unfold rowTo
    rw [bitI_mul, bitB_or, Bool.or_eq_true, rowTo_bit z l j k]
    have h2 : bitB (if bitB z ((l[k]?.getD 0 : Nat) : Int) then powI (k : Int) else 0) j = true ↔ j = k ∧ bitB z ((l[j]?.getD 0 : Nat) : Int) = true := by
      split
      · rename_i hb
        rw [bitB_pow, decide_eq_true_eq]
        constructor
        · rintro rfl; exact ⟨rfl, hb⟩
        · rintro ⟨rfl, _⟩; rfl
      · rename_i hb
        rw [bitB_zero]
        constructor
        · intro e; cases e
        · rintro ⟨rfl, e⟩; exact absurd e hb
    rw [h2]
    constructor
    · rintro (⟨h, e⟩ | ⟨rfl, e⟩)
      · exact ⟨by omega, e⟩
      · exact ⟨by omega, e⟩
    · rintro ⟨h, e⟩
      by_cases hjk : j = k
      · exact .inr ⟨hjk, e⟩
      · exact .inl ⟨by omega, e⟩
/-- The order of the items of l alone. -/
def ind (zs : List Int) (l : List Nat) : List Int := l.map fun a => rowTo (zs[a]?.getD 0) l l.length
theorem ind_len (zs : List Int) (l : List Nat) : (ind zs l).length = l.length := by simp [ind]
theorem ind_bit {zs : List Int} {l : List Nat} {i j : Nat} (hi : i < l.length) : bitB ((ind zs l)[i]?.getD 0) j = true ↔ j < l.length ∧ bitB (zs[l[i]?.getD 0]?.getD 0) ((l[j]?.getD 0 : Nat) : Int) = true := by
  have e : (ind zs l)[i]?.getD 0 = rowTo (zs[l[i]?.getD 0]?.getD 0) l l.length := by
    unfold ind
    rw [List.getElem?_map, List.getElem?_eq_getElem hi]
    rfl
  rw [e, rowTo_bit]
/-- A list of items of the order, ascending. -/
structure Inc (zs : List Int) (l : List Nat) : Prop where
  inc : l.Pairwise (· < ·)
  lt : ∀ a ∈ l, a < zs.length
theorem Inc.at_lt {zs : List Int} {l : List Nat} (h : Inc zs l) {i : Nat} (hi : i < l.length) : l[i]?.getD 0 < zs.length := by
  rw [List.getElem?_eq_getElem hi]
  exact h.lt _ (List.getElem_mem hi)
theorem Inc.at_inc {zs : List Int} {l : List Nat} (h : Inc zs l) {i j : Nat} (hij : i < j) (hj : j < l.length) : l[i]?.getD 0 < l[j]?.getD 0 := by
  rw [List.getElem?_eq_getElem hj, List.getElem?_eq_getElem (by omega)]
  exact List.pairwise_iff_getElem.1 h.inc i j (by omega) hj hij
theorem Inc.at_inj {zs : List Int} {l : List Nat} (h : Inc zs l) {i j : Nat} (hi : i < l.length) (hj : j < l.length) (e : l[i]?.getD 0 = l[j]?.getD 0) : i = j := by
  rcases Nat.lt_trichotomy i j with h1 | h1 | h1
  · have := h.at_inc h1 hj; omega
  · exact h1
  · have := h.at_inc h1 hi; omega
theorem Inc.len_le {zs : List Int} {l : List Nat} (h : Inc zs l) : l.length ≤ zs.length := pigeon zs.length l (h.inc.imp fun h => by omega) h.lt
theorem ind_lt {zs : List Int} {l : List Nat} (h : Inc zs l) {i j : Nat} : lt (ind zs l) i j ↔ i < l.length ∧ j < l.length ∧ lt zs (l[i]?.getD 0) (l[j]?.getD 0) := by
  unfold lt
  rw [ind_len]
  constructor
  · rintro ⟨h1, h2⟩
    have := (ind_bit h1).1 h2
    exact ⟨h1, this.1, h.at_lt h1, this.2⟩
  · rintro ⟨h1, h2, _, h3⟩
    exact ⟨h1, (ind_bit h1).2 ⟨h2, h3⟩⟩
theorem ind_vo {zs : List Int} (h : VoP zs) {l : List Nat} (hl : Inc zs l) : VoP (ind zs l) := by
  have h6 := h.1
  have hle := hl.len_le
  refine ⟨by rw [ind_len]; omega, fun a ha => ?_, fun a ha b hb => ?_⟩
  · rw [ind_len] at ha ⊢
    have e : (ind zs l)[a]?.getD 0 = rowTo (zs[l[a]?.getD 0]?.getD 0) l l.length := by
      unfold ind; rw [List.getElem?_map, List.getElem?_eq_getElem ha]; rfl
    have hb := rowTo_bd (zs[l[a]?.getD 0]?.getD 0) l l.length
    have h2 : bitB ((ind zs l)[a]?.getD 0) a = false := by
      cases e2 : bitB ((ind zs l)[a]?.getD 0) a
      · rfl
      · have := (ind_lt hl).1 (⟨by rw [ind_len]; exact ha, e2⟩ : lt (ind zs l) a a)
        exact absurd this.2.2 h.irr
    unfold okA inB
    rw [h2, e]
    simp only [Bool.not_false, Bool.and_true, decide_eq_true_eq]
    omega
  · rw [ind_len] at ha hb
    unfold okP
    cases e : bitB ((ind zs l)[a]?.getD 0) b
    · rfl
    · have hab := (ind_lt hl).1 (⟨by rw [ind_len]; exact ha, e⟩ : lt (ind zs l) a b)
      have h1 : lessI ((ind zs l)[b]?.getD 0) ((ind zs l)[a]?.getD 0) = 0 := by
        refine bitB_ext (lessI_bd _ _).1 (Int.le_refl _) fun j => ?_
        rw [bitB_less, bitB_zero]
        cases e1 : bitB ((ind zs l)[b]?.getD 0) j
        · rfl
        · have hbj := (ind_lt hl).1 (⟨by rw [ind_len]; exact hb, e1⟩ : lt (ind zs l) b j)
          have := ((ind_lt hl).2 ⟨ha, hbj.2.1, h.trans hab.2.2 hbj.2.2⟩).2
          rw [this]; rfl
      have h2 : bitB ((ind zs l)[b]?.getD 0) a = false := by
        cases e2 : bitB ((ind zs l)[b]?.getD 0) a
        · rfl
        · have hba := (ind_lt hl).1 (⟨by rw [ind_len]; exact hb, e2⟩ : lt (ind zs l) b a)
          exact absurd (h.trans hab.2.2 hba.2.2) h.irr
      rw [h1, h2]; rfl

/-- The items of zs that a set of places of l tells. -/
def exTo (l : List Nat) (t : Nat) : Nat → Nat
  | 0 => 0
  | k + 1 => exTo l t k ||| (if t.testBit k then 2 ^ (l[k]?.getD 0) else 0)
theorem exTo_bit (l : List Nat) (t a : Nat) : ∀ k : Nat, (exTo l t k).testBit a = true ↔ ∃ i, i < k ∧ t.testBit i = true ∧ l[i]?.getD 0 = a
  | 0 => by simp [exTo]
  | k + 1 => by
    unfold exTo
    rw [Nat.testBit_or, Bool.or_eq_true, exTo_bit l t a k]
    have h2 : (if t.testBit k then 2 ^ (l[k]?.getD 0) else 0).testBit a = true ↔ t.testBit k = true ∧ l[k]?.getD 0 = a := by
      split
      · rename_i hb; rw [Nat.testBit_two_pow, decide_eq_true_eq]; simp [hb]
      · rename_i hb; simp [hb]
    rw [h2]
    constructor
    · rintro (⟨i, hi, e⟩ | e)
      · exact ⟨i, by omega, e⟩
      · exact ⟨k, by omega, e⟩
    · rintro ⟨i, hi, e⟩
      by_cases hik : i = k
      · subst hik; exact .inr e
      · exact .inl ⟨i, by omega, e⟩
def ex (l : List Nat) (t : Nat) : Nat := exTo l t l.length
theorem ex_lt {zs : List Int} {l : List Nat} (h : Inc zs l) (t : Nat) : ex l t < 2 ^ zs.length := Nat.lt_pow_two_of_testBit _ fun i hi => by
  cases e : (ex l t).testBit i
  · rfl
  · obtain ⟨k, hk, _, e2⟩ := (exTo_bit l t i l.length).1 e
    have := h.at_lt hk; omega
theorem ex_at {zs : List Int} {l : List Nat} (h : Inc zs l) {t k : Nat} (hk : k < l.length) : (ex l t).testBit (l[k]?.getD 0) = t.testBit k := by
  rw [Bool.eq_iff_iff]
  unfold ex
  rw [exTo_bit]
  constructor
  · rintro ⟨i, hi, e, e2⟩
    rw [← h.at_inj hi hk e2]; exact e
  · intro e; exact ⟨k, hk, e, rfl⟩
theorem sub_bits {s a j : Nat} (hs : s < 64) (ha : a < 6) (hb : s.testBit a = true) : (s - 2 ^ a).testBit j = (s.testBit j && !decide (a = j)) := by
  have hpa := Nat.two_pow_pos a
  rcases Nat.lt_or_ge j 6 with hj | hj
  · exact sub_bit_fin ⟨s, hs⟩ ⟨a, ha⟩ ⟨j, hj⟩ hb
  · have h1 : s.testBit j = false := Nat.testBit_lt_two_pow (Nat.lt_of_lt_of_le (show s < 2 ^ 6 by omega) (Nat.pow_le_pow_right (by decide) hj))
    have h2 : (s - 2 ^ a).testBit j = false := Nat.testBit_lt_two_pow (Nat.lt_of_lt_of_le (show s - 2 ^ a < 2 ^ 6 by omega) (Nat.pow_le_pow_right (by decide) hj))
    rw [h1, h2]; rfl
theorem ex_sub {zs : List Int} (h6 : zs.length ≤ 6) {l : List Nat} (h : Inc zs l) {t k : Nat} (ht : t < 64) (hk : k < l.length) (hb : t.testBit k = true) : ex l (t - 2 ^ k) = ex l t - 2 ^ (l[k]?.getD 0) := by
  have hle := h.len_le
  have hx : ex l t < 64 := Nat.lt_of_lt_of_le (ex_lt h t) (pow_le64 h6)
  have hlk := h.at_lt hk
  refine Nat.eq_of_testBit_eq fun a => ?_
  rw [sub_bits hx (show l[k]?.getD 0 < 6 by omega) (by rw [ex_at h hk]; exact hb), Bool.eq_iff_iff]
  unfold ex
  rw [exTo_bit, Bool.and_eq_true, exTo_bit, Bool.not_eq_true', decide_eq_false_iff_not]
  constructor
  · rintro ⟨i, hi, e, rfl⟩
    rw [sub_bits ht (by omega) hb, Bool.and_eq_true, Bool.not_eq_true', decide_eq_false_iff_not] at e
    exact ⟨⟨i, hi, e.1, rfl⟩, fun e2 => e.2 (h.at_inj hk hi e2)⟩
  · rintro ⟨⟨i, hi, e, rfl⟩, e2⟩
    refine ⟨i, hi, ?_, rfl⟩
    rw [sub_bits ht (by omega) hb, e]
    have hne : ¬ k = i := fun e3 => e2 (by rw [e3])
    simp [hne]
theorem ex_zero (l : List Nat) : ex l 0 = 0 := Nat.eq_of_testBit_eq fun a => by
  rw [Bool.eq_iff_iff]
  unfold ex
  rw [exTo_bit]
  simp
theorem eF_iff {zs : List Int} (h : VoP zs) {s a : Nat} : eF zs s a = true ↔ s.testBit a = true ∧ ∀ b, s.testBit b = true → bitB (zs[b]?.getD 0) a = false := by
  unfold eF
  rw [Bool.and_eq_true, beq_iff_eq, andI_zero]
  constructor
  · rintro ⟨h1, h2⟩
    exact ⟨h1, fun b hb => by have := h2 b (by rw [bit_cast]; exact hb); rwa [du_bit h.sets] at this⟩
  · rintro ⟨h1, h2⟩
    exact ⟨h1, fun b hb => by rw [du_bit h.sets]; exact h2 b (by rwa [bit_cast] at hb)⟩
theorem bit_none' {zs : List Int} {a b : Nat} (h : bitB (zs[a]?.getD 0) b = true) : a < zs.length := by
  rcases Nat.lt_or_ge a zs.length with h1 | h1
  · exact h1
  · rw [List.getElem?_eq_none (by omega), Option.getD_none, bitB_zero] at h; cases h
theorem next_ind {zs : List Int} (h : VoP zs) {l : List Nat} (hl : Inc zs l) (t : Nat) : nextL zs (ex l t) = (nextL (ind zs l) t).map fun k => l[k]?.getD 0 := by
  have hi := ind_vo h hl
  rw [nextL_is h, nextL_is hi, ind_len]
  refine inc_ext _ _ ((range_inc _).filter _) ?_ fun a => ?_
  · rw [List.pairwise_map]
    refine List.Pairwise.imp_of_mem ?_ ((range_inc _).filter _)
    intro x y hx hy hxy
    rw [List.mem_filter] at hy
    exact hl.at_inc hxy (by simpa using hy.1)
  · rw [List.mem_filter, List.mem_map, List.mem_range, eF_iff h]
    constructor
    · rintro ⟨ha, h1, h2⟩
      obtain ⟨k, hk, hb, e⟩ := (exTo_bit l t a l.length).1 h1
      refine ⟨k, ?_, e⟩
      rw [List.mem_filter, List.mem_range, eF_iff hi]
      refine ⟨hk, hb, fun j hj => ?_⟩
      cases e2 : bitB ((ind zs l)[j]?.getD 0) k
      · rfl
      · have hjl : j < l.length := by
          have := bit_none' e2; rwa [ind_len] at this
        have h3 := (ind_bit hjl).1 e2
        have := h2 (l[j]?.getD 0) (by rw [ex_at hl hjl]; exact hj)
        rw [← e] at this
        rw [this] at h3; cases h3.2
    · rintro ⟨k, hk, e⟩
      rw [List.mem_filter, List.mem_range, eF_iff hi] at hk
      obtain ⟨hk, hb, h2⟩ := hk
      refine ⟨by rw [← e]; exact hl.at_lt hk, by rw [← e, ex_at hl hk]; exact hb, fun b hb2 => ?_⟩
      obtain ⟨j, hj, hjt, e3⟩ := (exTo_bit l t b l.length).1 hb2
      have := h2 j hjt
      cases e4 : bitB (zs[b]?.getD 0) a
      · rfl
      · rw [(ind_bit hj).2 ⟨hk, by rw [e3, e]; exact e4⟩] at this; cases this
/-- The items alone are lined up in as many ways as they are. -/
theorem cF_ind {zs : List Int} (h : VoP zs) {l : List Nat} (hl : Inc zs l) : ∀ (N t : Nat), t ≤ N → t < 2 ^ l.length → cF (ind zs l) t = cF zs (ex l t)
  | N, t, hN, ht => by
    have hi := ind_vo h hl
    have hle := hl.len_le
    have h6 := h.1
    have ht64 : t < 64 := Nat.lt_of_lt_of_le ht (pow_le64 (by omega))
    by_cases h0 : t = 0
    · subst h0; rw [ex_zero, cF_zero, cF_zero]
    · have hx0 : ex l t ≠ 0 := fun e => h0 (Nat.eq_of_testBit_eq fun k => by
        rw [Nat.zero_testBit]
        cases e2 : t.testBit k
        · rfl
        · have hk := bit_lt ht e2
          have := ex_at hl (t := t) hk
          rw [e, e2, Nat.zero_testBit] at this; cases this)
      cases N with
      | zero => omega
      | succ N =>
        rw [← accF_all hi h0, ← accF_all h hx0, next_ind h hl]
        unfold accF
        rw [List.map_map]
        congr 1
        refine List.map_congr_left fun k hk => ?_
        obtain ⟨hkl, hkb⟩ := nextL_mem hi hk
        rw [ind_len] at hkl
        have hp := Nat.two_pow_pos k
        have hge := ge_bit_fin ⟨t, ht64⟩ ⟨k, by omega⟩ hkb
        simp only at hge
        rw [cF_ind h hl N (t - 2 ^ k) (by omega) (by omega), ex_sub h6 hl ht64 hkl hkb]
        rfl
/-- The items of a set, ascending. -/
def leftL (n s : Nat) : List Nat := (List.range n).filter fun j => s.testBit j
theorem leftL_inc (zs : List Int) (s : Nat) : Inc zs (leftL zs.length s) := ⟨(range_inc _).filter _, fun a ha => by
  unfold leftL at ha; rw [List.mem_filter] at ha; simpa using ha.1⟩
theorem ex_left {zs : List Int} {s : Nat} (hs : s < 2 ^ zs.length) : ex (leftL zs.length s) (2 ^ (leftL zs.length s).length - 1) = s := by
  refine Nat.eq_of_testBit_eq fun a => ?_
  rw [Bool.eq_iff_iff]
  unfold ex
  rw [exTo_bit]
  constructor
  · rintro ⟨i, hi, _, rfl⟩
    rw [List.getElem?_eq_getElem hi]
    have := List.getElem_mem hi
    unfold leftL at this
    rw [List.mem_filter] at this
    exact this.2
  · intro e
    have ha : a ∈ leftL zs.length s := by
      unfold leftL
      rw [List.mem_filter, List.mem_range]
      exact ⟨bit_lt hs e, e⟩
    obtain ⟨i, hi, e2⟩ := List.getElem_of_mem ha
    refine ⟨i, hi, ?_, by rw [List.getElem?_eq_getElem hi]; exact e2⟩
    rw [Nat.testBit_two_pow_sub_one]
    simpa using hi
/-- As the model counts what is left. -/
theorem rest_is {zs : List Int} (h : VoP zs) {s : Nat} (hs : s < 2 ^ zs.length) : cG (ind zs (leftL zs.length s)) (2 ^ (leftL zs.length s).length - 1) = cF zs s := by
  have hl := leftL_inc zs s
  have hi := ind_vo h hl
  have hp := Nat.two_pow_pos (leftL zs.length s).length
  have := count_both hi
  rw [ind_len] at this
  rw [this, cF_ind h hl _ _ (Nat.le_refl _) (by omega), ex_left hs]
end Go.Proofs.Ytcadmjpkgnbodaa

/- Tops and ideals: tops stand for all below; what is below a set is an ideal; what an ideal leaves. No program. -/
namespace Go.Proofs.Ytcadmjpkgnbodaa

theorem bit_none {zs : List Int} {a b : Nat} (h : bitB (zs[a]?.getD 0) b = true) : a < zs.length := by
  rcases Nat.lt_or_ge a zs.length with h1 | h1
  · exact h1
  · rw [List.getElem?_eq_none (by omega), Option.getD_none, bitB_zero] at h; cases h
theorem top_over {zs : List Int} (h : VoP zs) {s : Int} (h1 : s < powI zs.length) : ∀ (m a : Nat), zs.length - rank zs a ≤ m → bitB s a = true → ∃ t : Nat, bitB (topsTo zs s zs.length) t = true ∧ (a = t ∨ lt zs a t)
  | 0, a, hm, ha => by have := rank_bd h (bitB_lt h1 ha); omega
  | m + 1, a, hm, ha => by
    by_cases hz : andI (zs[a]?.getD 0) s = 0
    · exact ⟨a, (topsTo_bit a _).2 ⟨bitB_lt h1 ha, ha, hz⟩, .inl rfl⟩
    · have : ∃ b : Nat, bitB s b = true ∧ bitB (zs[a]?.getD 0) b = true := by
        refine Classical.byContradiction fun hn => hz (andI_zero.2 fun b hb => ?_)
        cases e : bitB (zs[a]?.getD 0) b
        · rfl
        · exact absurd ⟨b, hb, e⟩ hn
      obtain ⟨b, hb, hab⟩ := this
      have hl : lt zs a b := ⟨bit_none hab, hab⟩
      have hr := rank_lt h hl
      obtain ⟨t, ht, e⟩ := top_over h h1 m b (by omega) hb
      refine ⟨t, ht, .inr ?_⟩
      rcases e with rfl | e
      · exact hl
      · exact h.trans hl e
section
variable {zs : List Int} {s : Int}
theorem tops_in (zs : List Int) (s : Int) : lessI (topsTo zs s zs.length) s = 0 := lessI_none.2 fun _ hj => ((topsTo_bit _ _).1 hj).2.1
theorem tops_ap (h : VoP zs) : apB zs (topsTo zs s zs.length) = true := by
  have hb := topsTo_bd zs s zs.length
  have hp := powI_le6 (n := (zs.length : Int)) (by have := h.1; omega)
  refine (apB_iff (by omega)).2 fun a b ha hb => ?_
  exact andI_zero.1 ((topsTo_bit _ _).1 ha).2.2 b ((topsTo_bit _ _).1 hb).2.1
theorem tops_none (h : VoP zs) (h0 : 0 ≤ s) (h1 : s < powI zs.length) : (topsTo zs s zs.length == 0) = (s == 0) := by
  have hb := topsTo_bd zs s zs.length
  rw [Bool.eq_iff_iff, beq_iff_eq, beq_iff_eq]
  constructor
  · intro e
    refine bitB_ext h0 (Int.le_refl _) fun j => ?_
    rw [bitB_zero]
    cases hj : bitB s j
    · rfl
    · obtain ⟨t, ht, _⟩ := top_over h h1 _ j (Nat.le_refl _) hj
      rw [e, bitB_zero] at ht; cases ht
  · intro e
    refine bitB_ext hb.1 (Int.le_refl _) fun j => ?_
    rw [bitB_zero]
    cases hj : bitB (topsTo zs s zs.length) j
    · rfl
    · have := ((topsTo_bit _ _).1 hj).2.1
      rw [e, bitB_zero] at this; cases this
theorem in_bel (h : Sets zs) (h1 : s < powI zs.length) : lessI s (belI zs s) = 0 := lessI_none.2 fun j hj => (belI_bit h h1 j).2 (.inl hj)
theorem bel_ideal (h : VoP zs) (h0 : 0 ≤ s) (h1 : s < powI zs.length) : idB zs (belI zs s) = true := by
  have hb := belI_bd h.sets h0 h1
  refine (idB_iff h.sets hb.1 hb.2).2 fun a b hb hz => ?_
  rw [belI_bit h.sets h1] at hb ⊢
  rcases hb with hb | ⟨c, hc, hbc⟩
  · exact .inr ⟨b, hb, hz⟩
  · exact .inr ⟨c, hc, (h.trans (a := a) (b := b) (c := c) ⟨bit_none hz, hz⟩ ⟨bit_none hbc, hbc⟩).2⟩
theorem tops_bel (h : VoP zs) (_h0 : 0 ≤ s) (h1 : s < powI zs.length) : topsTo zs (belI zs s) zs.length = topsTo zs s zs.length := by
  refine bitB_ext (topsTo_bd _ _ _).1 (topsTo_bd _ _ _).1 fun j => ?_
  rw [Bool.eq_iff_iff, topsTo_bit, topsTo_bit]
  constructor
  · rintro ⟨hj, hb, hz⟩
    have hz' := andI_zero.1 hz
    refine ⟨hj, ?_, andI_zero.2 fun b hb => hz' b ((belI_bit h.sets h1 b).2 (.inl hb))⟩
    rcases (belI_bit h.sets h1 j).1 hb with e | ⟨c, hc, hjc⟩
    · exact e
    · rw [hz' c ((belI_bit h.sets h1 c).2 (.inl hc))] at hjc; cases hjc
  · rintro ⟨hj, hb, hz⟩
    have hz' := andI_zero.1 hz
    refine ⟨hj, (belI_bit h.sets h1 j).2 (.inl hb), andI_zero.2 fun b hb => ?_⟩
    rcases (belI_bit h.sets h1 b).1 hb with e | ⟨c, hc, hbc⟩
    · exact hz' b e
    · cases e : bitB (zs[j]?.getD 0) b
      · rfl
      · have := (h.trans (a := j) (b := b) (c := c) ⟨bit_none e, e⟩ ⟨bit_none hbc, hbc⟩).2
        rw [hz' c hc] at this; cases this
theorem bel_tops (h : VoP zs) (h0 : 0 ≤ s) (h1 : s < powI zs.length) : belI zs (topsTo zs s zs.length) = belI zs s := by
  have hb := topsTo_bd zs s zs.length
  refine bitB_ext (belI_bd h.sets hb.1 hb.2).1 (belI_bd h.sets h0 h1).1 fun j => ?_
  rw [Bool.eq_iff_iff, belI_bit h.sets hb.2, belI_bit h.sets h1]
  constructor
  · rintro (e | ⟨t, ht, hj⟩)
    · exact .inl ((topsTo_bit _ _).1 e).2.1
    · exact .inr ⟨t, ((topsTo_bit _ _).1 ht).2.1, hj⟩
  · rintro (e | ⟨b, hb, hj⟩)
    · obtain ⟨t, ht, e2⟩ := top_over h h1 _ j (Nat.le_refl _) e
      rcases e2 with rfl | e2
      · exact .inl ht
      · exact .inr ⟨t, ht, e2.2⟩
    · obtain ⟨t, ht, e2⟩ := top_over h h1 _ b (Nat.le_refl _) hb
      rcases e2 with rfl | e2
      · exact .inr ⟨b, ht, hj⟩
      · exact .inr ⟨t, ht, (h.trans (a := j) (b := b) (c := t) ⟨bit_none hj, hj⟩ e2).2⟩
theorem bel_self (h0 : idB zs s = true) : belI zs s = s := by simpa [idB] using h0
theorem all_bits' {n : Nat} : ∀ j : Nat, bitB (powI n - 1) j = decide (j < n) := fun j => by
  have e : (powI (n : Int) - 1).toNat = 2 ^ n - 1 := by
    have : powI (n : Int) = ((2 ^ n : Nat) : Int) := by simp [powI]
    omega
  simp [bitB, e, Nat.testBit_two_pow_sub_one]
theorem left_fin : ∀ n : Fin 7, ∀ k : Fin 64, (k.val : Int) < powI (n.val : Int) → lessI (powI (n.val : Int) - 1) (k.val : Int) = powI (n.val : Int) - 1 - (k.val : Int) := by decide +kernel
theorem left_is {n : Nat} {s : Int} (hn : n ≤ 6) (h0 : 0 ≤ s) (h1 : s < powI n) : lessI (powI n - 1) s = powI n - 1 - s := by
  have hpn := powI_le6 (n := (n : Int)) (by omega)
  obtain ⟨k, rfl⟩ := Int.eq_ofNat_of_zero_le h0
  exact left_fin ⟨n, by omega⟩ ⟨k, by omega⟩ h1
theorem left_ideal (h : VoP zs) (h0 : 0 ≤ s) (h1 : s < powI zs.length) (hi : idB zs s = true) : idB (du zs) (powI zs.length - 1 - s) = true := by
  have hp := powI_pos (zs.length : Int)
  refine (idB_iff (du_sets h.sets) (by omega) (by rw [du_len]; omega)).2 fun a b hb hz => ?_
  rw [← left_is h.1 h0 h1] at hb ⊢
  rw [bitB_less, all_bits', Bool.and_eq_true] at hb ⊢
  rw [du_bit h.sets] at hz
  have ha : a < zs.length := bitB_lt (h.sets.2 b (bit_none hz)).2 hz
  refine ⟨by simpa using ha, ?_⟩
  cases e : bitB s a
  · rfl
  · have := (idB_iff h.sets h0 h1).1 hi b a e hz
    rw [this] at hb; simp at hb
theorem tops_apart (h : VoP zs) (h0 : 0 ≤ s) (h1 : s < powI zs.length) (ha : apB zs s = true) : topsTo zs s zs.length = s := by
  have hp := powI_le6 (n := (zs.length : Int)) (by have := h.1; omega)
  refine bitB_ext (topsTo_bd zs s _).1 h0 fun j => ?_
  have key := topsTo_bit (zs := zs) (s := s) j zs.length
  cases e : bitB s j
  · cases e2 : bitB (topsTo zs s zs.length) j
    · rfl
    · have := (key.1 e2).2.1; rw [e] at this; cases this
  · exact key.2 ⟨bitB_lt h1 e, e, andI_zero.2 fun b hb => (apB_iff (by omega)).1 ha j b e hb⟩
/-- The tops of the next ideal are the lowest items that the one ahead lacks. -/
theorem next_tops (h : VoP zs) (_h0 : 0 ≤ s) (_h1 : s < powI zs.length) : topsTo zs (nextI zs s) zs.length = topsTo (du zs) (powI zs.length - 1 - s) zs.length := by
  have hp := powI_pos (zs.length : Int)
  have hp6 := powI_le6 (n := (zs.length : Int)) (by have := h.1; omega)
  have hb := topsTo_bd (du zs) (powI zs.length - 1 - s) zs.length
  have ha := tops_ap (s := powI zs.length - 1 - s) (du_vo h)
  rw [du_len, du_apB h.sets (by omega)] at ha
  unfold nextI
  rw [tops_bel h hb.1 hb.2, tops_apart h hb.1 hb.2 ha]
end
theorem in_set {zs : List Int} {s : Int} (_h : VoP zs) (h0 : 0 ≤ s) (h1 : s < powI zs.length) : inB s 0 (powI zs.length - 1) = true := by
  simp only [inB, decide_eq_true_eq]; omega
theorem set_parts {zs : List Int} {s : Int} (h : (vo zs && inB s 0 (powI zs.length - 1)) = true) : VoP zs ∧ 0 ≤ s ∧ s < powI zs.length := by
  rw [Bool.and_eq_true] at h
  refine ⟨by simpa [vo] using h.1, ?_⟩
  have := h.2
  simp only [inB, decide_eq_true_eq] at this
  omega
theorem topsR_in {zs : List Int} {s : Int} (h : VoP zs) (h0 : 0 ≤ s) (h1 : s < powI zs.length) : topsR zs s = topsTo zs s zs.length := by
  unfold topsR; rw [vo_true h, in_set h h0 h1]; rfl
theorem belowR_in {zs : List Int} {s : Int} (h : VoP zs) (h0 : 0 ≤ s) (h1 : s < powI zs.length) : belowR zs s = belI zs s := by
  unfold belowR; rw [vo_true h, in_set h h0 h1]; rfl
theorem isIdealR_in {zs : List Int} {s : Int} (h : VoP zs) (h0 : 0 ≤ s) (h1 : s < powI zs.length) : isIdealR zs s = idB zs s := by
  unfold isIdealR; rw [vo_true h, in_set h h0 h1]; rfl
end Go.Proofs.Ytcadmjpkgnbodaa

/- Joins, what all of a set have above them, cuts, items with one next below, and orders of some items: as both sides tell them. No program. -/
namespace Go.Proofs.Ytcadmjpkgnbodaa

/-- What is at or above an item. -/
def atUp (zs : List Int) (a : Nat) : Int := orI (zs[a]?.getD 0) (powI a)
theorem atUp_bd {zs : List Int} (h : Sets zs) {a : Nat} (ha : a < zs.length) : 0 ≤ atUp zs a ∧ atUp zs a < powI zs.length := by
  have hz := h.2 a ha
  exact orI_bd hz.1 hz.2 (Int.le_of_lt (powI_pos _)) (powI_lt ha)
theorem atUp_bit (zs : List Int) (a j : Nat) : bitB (atUp zs a) j = (bitB (zs[a]?.getD 0) j || decide (a = j)) := by unfold atUp; rw [bitB_or, bitB_pow]
/-- The items that are at or above all those of s less than k. -/
def comTo (zs : List Int) (s : Int) : Nat → Int
  | 0 => powI zs.length - 1
  | k + 1 => if bitB s k then andI (comTo zs s k) (atUp zs k) else comTo zs s k
theorem comTo_yes {zs : List Int} {s : Int} {k : Nat} (h : bitB s k = true) : comTo zs s (k + 1) = andI (comTo zs s k) (atUp zs k) := by simp [comTo, h]
theorem comTo_no {zs : List Int} {s : Int} {k : Nat} (h : bitB s k = false) : comTo zs s (k + 1) = comTo zs s k := by simp [comTo, h]
theorem comTo_bd (zs : List Int) (s : Int) : ∀ k : Nat, 0 ≤ comTo zs s k ∧ comTo zs s k < powI zs.length
  | 0 => by have := powI_pos (zs.length : Int); simp only [comTo]; omega
  | k + 1 => by
    have h := comTo_bd zs s k
    unfold comTo
    split
    · have := andI_bd (comTo zs s k) (atUp zs k); omega
    · exact h
theorem comTo_bit (zs : List Int) (s : Int) (j : Nat) : ∀ k : Nat, bitB (comTo zs s k) j = true ↔ j < zs.length ∧ ∀ a : Nat, a < k → bitB s a = true → bitB (atUp zs a) j = true
  | 0 => by
    unfold comTo
    rw [all_bits', decide_eq_true_eq]
    exact ⟨fun h => ⟨h, fun a ha => by omega⟩, fun h => h.1⟩
  | k + 1 => by
    cases hb : bitB s k
    · rw [comTo_no hb, comTo_bit zs s j k]
      refine ⟨fun h => ⟨h.1, fun a ha hs => ?_⟩, fun h => ⟨h.1, fun a ha hs => h.2 a (by omega) hs⟩⟩
      by_cases e : a = k
      · subst e; rw [hb] at hs; cases hs
      · exact h.2 a (by omega) hs
    · rw [comTo_yes hb, bitB_and, Bool.and_eq_true, comTo_bit zs s j k]
      refine ⟨fun h => ⟨h.1.1, fun a ha hs => ?_⟩, fun h => ⟨⟨h.1, fun a ha hs => h.2 a (by omega) hs⟩, h.2 k (by omega) hb⟩⟩
      by_cases e : a = k
      · subst e; exact h.2
      · exact h.1.2 a (by omega) hs
/-- The same, item by item of a list. -/
def comL (zs : List Int) (l : List Nat) : Int := l.foldl (fun (t : Int) (i : Nat) => andI t (atUp zs i)) (powI zs.length - 1)
theorem comL_snoc (zs : List Int) (l : List Nat) (i : Nat) : comL zs (l ++ [i]) = andI (comL zs l) (atUp zs i) := by simp [comL]
theorem comL_to (zs : List Int) (s : Int) : ∀ k : Nat, comL zs (itemsTo s k) = comTo zs s k
  | 0 => rfl
  | k + 1 => by
    have ih := comL_to zs s k
    cases hb : bitB s k
    · rw [itemsTo_no hb, comTo_no hb, ih]
    · rw [itemsTo_yes hb, comL_snoc, comTo_yes hb, ih]
theorem comTo_up {zs : List Int} {s : Int} {n : Nat} (h1 : s < powI n) : ∀ d : Nat, comTo zs s (n + d) = comTo zs s n
  | 0 => rfl
  | d + 1 => by
    have hb : bitB s ((n + d : Nat) : Int) = false := by
      cases h : bitB s ((n + d : Nat) : Int) with
      | false => rfl
      | true => have := bitB_lt h1 h; omega
    rw [← Nat.add_assoc, comTo_no hb, comTo_up h1 d]
theorem comL_all {zs : List Int} {s : Int} {n : Nat} (hn : n ≤ 6) (h1 : s < powI n) : comL zs (itemsL s) = comTo zs s n := by
  rw [itemsL, comL_to, show (6 : Nat) = n + (6 - n) from by omega, comTo_up h1]
/-- At or above both. -/
def upR (zs : List Int) (a b : Nat) : Int := andI (atUp zs a) (atUp zs b)
theorem upR_bd {zs : List Int} (h : Sets zs) {a b : Nat} (ha : a < zs.length) : 0 ≤ upR zs a b ∧ upR zs a b < powI zs.length := by
  have h1 := andI_bd (atUp zs a) (atUp zs b)
  have h2 := atUp_bd h ha
  unfold upR
  omega
/-- Two items as a set. -/
def twoS (a b : Nat) : Int := orI (orI 0 (powI a)) (powI b)
theorem twoS_bd {n a b : Nat} (ha : a < n) (hb : b < n) : 0 ≤ twoS a b ∧ twoS a b < powI n := by
  have h1 := orI_bd (a := 0) (b := powI a) (n := n) (Int.le_refl _) (powI_pos _) (Int.le_of_lt (powI_pos _)) (powI_lt ha)
  exact orI_bd h1.1 h1.2 (Int.le_of_lt (powI_pos _)) (powI_lt hb)
theorem twoS_bit (a b j : Nat) : bitB (twoS a b) j = (decide (a = j) || decide (b = j)) := by
  unfold twoS; rw [bitB_or, bitB_or, bitB_zero, bitB_pow, bitB_pow]; simp
theorem com_two {zs : List Int} (h : Sets zs) {a b : Nat} (ha : a < zs.length) (hb : b < zs.length) : comTo zs (twoS a b) zs.length = upR zs a b := by
  refine bitB_ext (comTo_bd _ _ _).1 (upR_bd h ha).1 fun j => ?_
  rw [Bool.eq_iff_iff, comTo_bit]
  unfold upR
  rw [bitB_and, Bool.and_eq_true]
  constructor
  · rintro ⟨hj, h2⟩
    exact ⟨h2 a ha (by rw [twoS_bit]; simp), h2 b hb (by rw [twoS_bit]; simp)⟩
  · rintro ⟨h1, h2⟩
    refine ⟨bitB_lt (atUp_bd h ha).2 h1, fun x _ hx => ?_⟩
    rw [twoS_bit, Bool.or_eq_true, decide_eq_true_eq, decide_eq_true_eq] at hx
    rcases hx with rfl | rfl
    · exact h1
    · exact h2
/-- An item of s that all of s are at or above. -/
def jnB (zs : List Int) (s : Int) (c : Nat) : Bool := bitB s c && lessI s (atUp zs c) == 0
theorem less_less (s p z : Int) : (lessI (lessI s p) z == 0) = (lessI s (orI z p) == 0) := by
  rw [Bool.eq_iff_iff, beq_iff_eq, beq_iff_eq, lessI_none, lessI_none]
  constructor
  · intro h j hj
    rw [bitB_or]
    cases hp : bitB p j
    · have := h j (by rw [bitB_less, hj, hp]; rfl)
      rw [this]; rfl
    · simp
  · intro h j hj
    rw [bitB_less, Bool.and_eq_true, Bool.not_eq_true'] at hj
    have := h j hj.1
    rw [bitB_or, hj.2, Bool.or_false] at this
    exact this
def jnI (zs : List Int) (s : Int) : Int := match (List.range zs.length).find? (jnB zs s) with | none => -1 | some c => (c : Int)
theorem jnI_at {zs : List Int} {s : Int} {c : Nat} (hc : c < zs.length) (hb : jnB zs s c = true) (hn : ∀ j, j < c → jnB zs s j = false) : jnI zs s = c := by
  have : (List.range zs.length).find? (jnB zs s) = some c := by
    rw [List.find?_range_eq_some]
    exact ⟨hb, by simpa using hc, fun j hj => by simpa using hn j hj⟩
  unfold jnI
  rw [this]
theorem jnI_none {zs : List Int} {s : Int} (hn : ∀ j, j < zs.length → jnB zs s j = false) : jnI zs s = -1 := by
  have : (List.range zs.length).find? (jnB zs s) = none := by
    rw [List.find?_eq_none]
    intro x hx
    rw [hn x (by simpa using hx)]
    simp
  unfold jnI
  rw [this]
theorem jnI_cases {zs : List Int} {s : Int} : (jnI zs s = -1 ∧ ∀ j, j < zs.length → jnB zs s j = false) ∨ ∃ c : Nat, jnI zs s = c ∧ c < zs.length ∧ jnB zs s c = true := by
  unfold jnI
  cases h : (List.range zs.length).find? (jnB zs s) with
  | none => exact .inl ⟨rfl, fun j hj => by
      have := List.find?_eq_none.1 h j (by simpa using hj)
      simpa using this⟩
  | some c => exact .inr ⟨c, rfl, by have := List.mem_of_find?_eq_some h; simpa using this, List.find?_some h⟩
theorem jnI_bd (zs : List Int) (s : Int) : -1 ≤ jnI zs s ∧ jnI zs s < zs.length := by
  rcases jnI_cases (zs := zs) (s := s) with h | ⟨c, h, hc, _⟩ <;> omega
/-- The join, -1 for none. -/
def joinI (zs : List Int) (a b : Nat) : Int := jnI zs (upR zs a b)
theorem joinI_bd (zs : List Int) (a b : Nat) : -1 ≤ joinI zs a b ∧ joinI zs a b < zs.length := jnI_bd _ _
def isIt (zs : List Int) (a : Int) : Bool := inB a 0 ((zs.length : Int) - 1)
def joinR (zs : List Int) (a b : Int) : Int := if vo zs && (isIt zs a && isIt zs b) then joinI zs a.toNat b.toNat else -1
def meetR (zs : List Int) (a b : Int) : Int := if vo zs && (isIt zs a && isIt zs b) then joinI (du zs) a.toNat b.toNat else -1

/-- The items with one item next below. -/
def snB (zs : List Int) (a : Nat) : Bool := popI (topsTo zs ((du zs)[a]?.getD 0) zs.length) == 1
def snTo (zs : List Int) : Nat → Int
  | 0 => 0
  | a + 1 => if snB zs a then orI (snTo zs a) (powI a) else snTo zs a
theorem snTo_yes {zs : List Int} {a : Nat} (h : snB zs a = true) : snTo zs (a + 1) = orI (snTo zs a) (powI a) := by simp [snTo, h]
theorem snTo_no {zs : List Int} {a : Nat} (h : snB zs a = false) : snTo zs (a + 1) = snTo zs a := by simp [snTo, h]
theorem snTo_bd (zs : List Int) : ∀ k : Nat, 0 ≤ snTo zs k ∧ snTo zs k < powI k
  | 0 => by simp [snTo, powI]
  | k + 1 => by
    have h := snTo_bd zs k
    have hp : powI (k : Int) < powI ((k + 1 : Nat) : Int) := powI_lt (by omega)
    unfold snTo
    split
    · exact orI_bd h.1 (by omega) (Int.le_of_lt (powI_pos _)) hp
    · omega
theorem snTo_bit (zs : List Int) (j : Nat) : ∀ k : Nat, bitB (snTo zs k) j = (decide (j < k) && snB zs j)
  | 0 => by simp [snTo, bitB_zero]
  | k + 1 => by
    have ih := snTo_bit zs j k
    cases hs : snB zs k
    · rw [snTo_no hs, ih]
      by_cases e : j = k
      · subst e; simp [hs]
      · have : (j < k + 1) ↔ (j < k) := by omega
        simp [this]
    · rw [snTo_yes hs, bitB_or, ih, bitB_pow]
      by_cases e : j = k
      · subst e; simp [hs]
      · have h1 : (j < k + 1) ↔ (j < k) := by omega
        have h2 : ¬ k = j := by omega
        simp [h1, h2]
def singlesR (zs : List Int) : Int := if vo zs then snTo zs zs.length else -1
/-- What is next below an item: as the model takes it, and the tops of all below it. -/
theorem next_below {zs : List Int} (h : VoP zs) {a : Nat} (ha : a < zs.length) : coverTo (du zs) a zs.length = topsTo zs ((du zs)[a]?.getD 0) zs.length := by
  have hd := du_sets h.sets
  have hb := coverTo_bd hd (a := a) (by rw [du_len]; exact ha) zs.length
  refine bitB_ext hb.1 (topsTo_bd _ _ _).1 fun j => ?_
  rw [Bool.eq_iff_iff, coverTo_bit, topsTo_bit, Bool.and_eq_true, List.all_eq_true, andI_zero]
  constructor
  · rintro ⟨h1, h2⟩
    refine ⟨by rw [du_bit h.sets] at h1; exact bit_none h1, h1, fun b hb => ?_⟩
    have hbn : b < zs.length := by rw [du_bit h.sets] at hb; exact bit_none hb
    have := h2 b (by simpa using hbn)
    rw [hb, du_bit h.sets] at this
    simpa using this
  · rintro ⟨h1, h2, h3⟩
    refine ⟨h2, fun y hy => ?_⟩
    cases hb : bitB ((du zs)[a]?.getD 0) y
    · rfl
    · have := h3 y hb
      rw [du_bit h.sets, this]
      rfl

/-- A set of just the items at or below all those at or above all of it. -/
def cutI (zs : List Int) (s : Int) : Int := comTo (du zs) (comTo zs s zs.length) zs.length
def cutB (zs : List Int) (s : Int) : Bool := cutI zs s == s
def cutsR (zs : List Int) : List Int := if vo zs then setsTo (cutB zs) (2 ^ zs.length) else []

/-- The place of an item of s. -/
def plN (s : Nat) (a : Nat) : Nat := (popI (andI (s : Int) (powI a - 1))).toNat
theorem plN_fin : ∀ s : Fin 64, ∀ a : Fin 7, (popI (andI (s.val : Int) (powI (a.val : Int) - 1))).toNat = ((List.range a.val).filter fun j => s.val.testBit j).length := by decide +kernel
theorem plN_is {s a : Nat} (hs : s < 64) (ha : a ≤ 6) : plN s a = (leftL a s).length := plN_fin ⟨s, hs⟩ ⟨a, by omega⟩
theorem leftL_split {n s a : Nat} (ha : a < n) (hb : s.testBit a = true) : ∃ t, leftL n s = leftL a s ++ a :: t := by
  refine ⟨((List.range (n - (a + 1))).map (fun x => a + 1 + x)).filter fun j => s.testBit j, ?_⟩
  unfold leftL
  have e : List.range n = List.range a ++ a :: (List.range (n - (a + 1))).map (fun x => a + 1 + x) := by
    have h1 : n = (a + 1) + (n - (a + 1)) := by omega
    conv => lhs; rw [h1, List.range_add, List.range_succ]
    simp
  rw [e, List.filter_append, List.filter_cons, if_pos hb]
theorem pl_at {n s a : Nat} (hs : s < 64) (hn : n ≤ 6) (ha : a < n) (hb : s.testBit a = true) : plN s a < (leftL n s).length ∧ (leftL n s)[plN s a]?.getD 0 = a := by
  obtain ⟨t, e⟩ := leftL_split ha hb
  rw [e, plN_is hs (by omega)]
  simp
theorem left_pop_fin : ∀ n : Fin 7, ∀ s : Fin 64, s.val < 2 ^ n.val → (popI (s.val : Int)).toNat = ((List.range n.val).filter fun j => s.val.testBit j).length := by decide +kernel
theorem left_pop {n s : Nat} (hn : n ≤ 6) (hs : s < 2 ^ n) : popI (s : Int) = (leftL n s).length := by
  have h64 := Nat.lt_of_lt_of_le hs (pow_le64 hn)
  have h1 := left_pop_fin ⟨n, by omega⟩ ⟨s, h64⟩ hs
  have h2 := (popI_bd (s := (s : Int)) (by omega) (by omega)).1
  simp only at h1
  unfold leftL
  omega
/-- The pairs of a list of which s has both. -/
def ptB (s : Int) (p : Nat × Nat) : Bool := bitB s p.1 && bitB s p.2
def ptP (s : Nat) (ps : List (Nat × Nat)) : List (Nat × Nat) := (ps.filter (ptB s)).map fun p => (plN s p.2, plN s p.1)
theorem ptP_yes {s : Nat} {ps : List (Nat × Nat)} {a b : Nat} (h1 : bitB s a = true) (h2 : bitB s b = true) : ptP s (ps ++ [(a, b)]) = ptP s ps ++ [(plN s b, plN s a)] := by
  simp [ptP, ptB, List.filter_append, h1, h2]
theorem ptP_no {s : Nat} {ps : List (Nat × Nat)} {a b : Nat} (h : bitB s a = false ∨ bitB s b = false) : ptP s (ps ++ [(a, b)]) = ptP s ps := by
  rcases h with h | h <;> simp [ptP, ptB, List.filter_append, h]
def partR (zs : List Int) (s : Int) : List Int := if vo zs && inB s 0 (powI zs.length - 1) then ind zs (leftL zs.length s.toNat) else []
theorem part_is {zs : List Int} (h : VoP zs) {s : Nat} (hs : s < 2 ^ zs.length) : downP (leftL zs.length s).length (ptP s (pairsL zs)) = ind zs (leftL zs.length s) := by
  have h6 := h.1
  have h64 := Nat.lt_of_lt_of_le hs (pow_le64 h6)
  have hi := leftL_inc zs s
  have hps : ∀ p ∈ ptP s (pairsL zs), p.1 < (leftL zs.length s).length ∧ p.2 < (leftL zs.length s).length := by
    intro p hp
    unfold ptP at hp
    rw [List.mem_map] at hp
    obtain ⟨⟨x, y⟩, hxy, rfl⟩ := hp
    rw [List.mem_filter] at hxy
    obtain ⟨h1, h2⟩ := hxy
    unfold ptB at h2
    rw [Bool.and_eq_true, bit_cast, bit_cast] at h2
    exact ⟨(pl_at h64 h6 (bit_lt hs h2.2) h2.2).1, (pl_at h64 h6 (bit_lt hs h2.1) h2.1).1⟩
  refine List.ext_getElem? fun i => ?_
  rcases Nat.lt_or_ge i (leftL zs.length s).length with hil | hil
  · have e1 : (downP (leftL zs.length s).length (ptP s (pairsL zs)))[i]? = some ((downP (leftL zs.length s).length (ptP s (pairsL zs)))[i]?.getD 0) := by
      rw [List.getElem?_eq_getElem (by rw [downP_len]; exact hil)]; rfl
    have e2 : (ind zs (leftL zs.length s))[i]? = some ((ind zs (leftL zs.length s))[i]?.getD 0) := by
      rw [List.getElem?_eq_getElem (by rw [ind_len]; exact hil)]; rfl
    rw [e1, e2]
    congr 1
    refine bitB_ext (downP_bd (fun p hp => (hps p hp).1) i).1 ?_ fun j => ?_
    · have := (ind_vo h hi).bd i (by rw [ind_len]; exact hil); exact this.1
    · rw [Bool.eq_iff_iff, downP_bit (fun p hp => (hps p hp).2), ind_bit hil]
      unfold ptP
      rw [List.mem_map]
      constructor
      · rintro ⟨⟨x, y⟩, hxy, e⟩
        rw [List.mem_filter] at hxy
        obtain ⟨h1, h2⟩ := hxy
        unfold ptB at h2
        rw [Bool.and_eq_true, bit_cast, bit_cast] at h2
        have hx := pl_at h64 h6 (bit_lt hs h2.1) h2.1
        have hy := pl_at h64 h6 (bit_lt hs h2.2) h2.2
        injection e with e3 e4
        rw [← e3, ← e4]
        exact ⟨hy.1, by rw [hx.2, hy.2]; exact (mem_pairsL.1 h1).2.2⟩
      · rintro ⟨hj, hb⟩
        have hx : s.testBit ((leftL zs.length s)[i]?.getD 0) = true ∧ (leftL zs.length s)[i]?.getD 0 < zs.length := by
          have := List.getElem_mem (l := leftL zs.length s) hil
          rw [List.getElem?_eq_getElem hil]
          unfold leftL at this ⊢
          rw [List.mem_filter] at this
          exact ⟨this.2, by simpa using this.1⟩
        have hy : s.testBit ((leftL zs.length s)[j]?.getD 0) = true ∧ (leftL zs.length s)[j]?.getD 0 < zs.length := by
          have := List.getElem_mem (l := leftL zs.length s) hj
          rw [List.getElem?_eq_getElem hj]
          unfold leftL at this ⊢
          rw [List.mem_filter] at this
          exact ⟨this.2, by simpa using this.1⟩
        refine ⟨((leftL zs.length s)[i]?.getD 0, (leftL zs.length s)[j]?.getD 0), ?_, ?_⟩
        · rw [List.mem_filter]
          refine ⟨mem_pairsL.2 ⟨hx.2, by omega, hb⟩, ?_⟩
          unfold ptB
          rw [Bool.and_eq_true, bit_cast, bit_cast]
          exact ⟨hx.1, hy.1⟩
        · have h1 := pl_at h64 h6 hx.2 hx.1
          have h2 := pl_at h64 h6 hy.2 hy.1
          have e1 := hi.at_inj h1.1 hil h1.2
          have e2 := hi.at_inj h2.1 hj h2.2
          simp only
          rw [e1, e2]
  · rw [List.getElem?_eq_none (by rw [downP_len]; exact hil), List.getElem?_eq_none (by rw [ind_len]; exact hil)]
end Go.Proofs.Ytcadmjpkgnbodaa

/- The program's lineup: its making, what is free, all items; an item less. -/
namespace Go.Proofs.Ytcadmjpkgnbodaa
open Go.RowKit Go.Shelf

/-- A lineup: the order turned round in block b, the map in block m. -/
def lineV (b m n : Nat) : Value := .agg #[.slice (some ⟨b, 0, none⟩) n n, .map (some m)]

set_option maxRecDepth 100000 in
set_option maxHeartbeats 4000000 in
theorem lineup_any (A : Option Addr) (n c : Nat) (zs : List Int) (hv : Sets zs) (w : World) (h : Ints w w.heap.size A n zs) :
    Calls Try.prog 66 #[.slice A n c] w fun e w' => ∃ b m, e = .returned (lineV b m n) ∧ Arr w' b 46 (du zs) ∧ w'.heap[m]? = some (.map #[] 0) ∧ w.heap.size ≤ b ∧ w.heap.size ≤ m ∧ b ≠ m ∧ Below w.heap.size w w' := by
  have hlen := Lib.hid h.len
  have Hdu := Lib.hid (show downP n (pairsL zs) = du zs by unfold du; rw [hlen.out])
  have hmm := @run_makeMap Try.prog
  go_enter Try.func66, Try.ntmps66
  go_wp2_with fail
  refine (dual_any A n c zs hv _ (h.to ((Below.refl w.heap.size w).alloc (Nat.le_refl _) _) (Nat.le_refl _) (by simp))).mono ?_
  rintro e w2 ⟨rfl, hA2, hB2⟩
  rw [Hdu.out] at hA2
  have hh1 : (w.alloc (.cells #[.slice none 0 0, .map none] 64)).heap[w.heap.size]? = some (.cells #[.slice none 0 0, .map none] 64 (0, 0)) := heap_alloc_new w _
  have hs1 : (w.alloc (.cells #[.slice none 0 0, .map none] 64)).heap.size = w.heap.size + 1 := by simp
  have hC1 : Below w.heap.size w (w.alloc (.cells #[.slice none 0 0, .map none] 64)) := (Below.refl w.heap.size w).alloc (Nat.le_refl _) _
  rw [hs1] at hA2 hB2
  have z2 := hB2.size
  rw [hs1] at z2
  have hh2 := (hB2.block w.heap.size (by omega)).trans hh1
  have hC2 := hC1.trans (hB2.mono (by omega))
  have hh3 := (Below.heap_alloc w2 (.map #[] 0) w.heap.size (by omega)).trans hh2
  have hA3 := hA2.alloc (.map #[] 0)
  have hm3 : (w2.alloc (.map #[] 0)).heap[w2.heap.size]? = some (.map #[] 0) := heap_alloc_new w2 _
  have hC3 := hC2.alloc (by omega) (.map #[] 0)
  have hs3 : (w2.alloc (.map #[] 0)).heap.size = w2.heap.size + 1 := by simp
  have hc0 : (w2.alloc (.map #[] 0)).cell? ⟨w.heap.size, 0, none⟩ = some (.slice none 0 0) := by rw [cell_of_row _ _ 0 _ _ (0, 0) hh3]; rfl
  have hc1 : (w2.alloc (.map #[] 0)).cell? ⟨w.heap.size, 1, none⟩ = some (.map none) := by rw [cell_of_row _ _ 1 _ _ (0, 0) hh3]; rfl
  have hf0 : (w2.alloc (.map #[] 0)).frozen? ⟨w.heap.size, 0, none⟩ = false := frozen_of_row _ _ 0 _ _ hh3
  have hf1 : (w2.alloc (.map #[] 0)).frozen? ⟨w.heap.size, 1, none⟩ = false := frozen_of_row _ _ 1 _ _ hh3
  have hl2 := hA2.lt
  clear hh1 hh2 hC1 hC2 hB2 hA2 h
  obtain ⟨W4, hW4⟩ : ∃ W4, ((w2.alloc (.map #[] 0)).setCell ⟨w.heap.size, 0, none⟩ (.slice (some ⟨w.heap.size + 1, 0, none⟩) n n)).setCell ⟨w.heap.size, 1, none⟩ (.map (some w2.heap.size)) = W4 := ⟨_, rfl⟩
  have kh : W4.heap[w.heap.size]? = some (.cells #[.slice (some ⟨w.heap.size + 1, 0, none⟩) n n, .map (some w2.heap.size)] 64 (0, 0)) := by
    rw [← hW4]
    simp [World.setCell, Array.getElem?_modify, hh3]
  have kA : Arr W4 (w.heap.size + 1) 46 (du zs) := by rw [← hW4]; exact (hA3.far (by simp) _).far (by simp) _
  have km : W4.heap[w2.heap.size]? = some (.map #[] 0) := by
    rw [← hW4, Below.heap_setCell _ _ _ _ (by simp; omega), Below.heap_setCell _ _ _ _ (by simp; omega)]
    exact hm3
  have kC : Below w.heap.size w W4 := by rw [← hW4]; exact (hC3.setCell (p := ⟨w.heap.size, 0, none⟩) (Nat.le_refl _) _).setCell (p := ⟨w.heap.size, 1, none⟩) (Nat.le_refl _) _
  go_wp2
  refine bodyPost_ret (v := lineV (w.heap.size + 1) w2.heap.size n) (results_cell_row rfl _ _ w.heap.size _ _ (0, 0) _ rfl kh Try.underlying64 rfl (by kernel_rfl)) rfl ?_
  exact ⟨w.heap.size + 1, w2.heap.size, rfl, kA, km, by omega, by omega, by omega, kC⟩

theorem without_any (s j : Int) (w : World) (h0 : 0 ≤ s) (h1 : s < 64) (j0 : 0 ≤ j) (j1 : j ≤ 6) :
    Calls Try.prog 97 #[.int .i64 s, .int .i64 j] w fun e w' => e = .returned (.int .i64 (lessI s (powI j))) ∧ w = w' := by
  go_enter Try.func97, Try.ntmps97
  go_wp2
  go_ret
  have hp := powI_le6 j1
  have hq := powI_pos j
  exact ⟨ret_int (by
    have : wrap64 (2 ^ j.toNat) = powI j := IntWalk.wrap64_in _ ⟨by unfold powI at hq; omega, by unfold powI at hp; omega⟩
    rw [this]; exact bits_less h0 (by omega) (by omega) (by omega)), rfl⟩
theorem oall_any (A : Option Addr) (n c : Nat) (w : World) (h1 : n ≤ 6) :
    Calls Try.prog 85 #[.slice A n c] w fun e w' => e = .returned (.int .i64 (powI n - 1)) ∧ w = w' := by
  have hp := powI_le6 (n := (n : Int)) (by omega)
  have hq := powI_pos (n : Int)
  go_enter Try.func85, Try.ntmps85
  go_wp2
  go_ret
  exact ⟨ret_int (by
    have : wrap64 (2 ^ ((n : Int)).toNat) = powI n := IntWalk.wrap64_in _ ⟨by unfold powI at hq; omega, by unfold powI at hp; omega⟩
    simp only [Int.toNat_natCast] at this
    rw [this]; exact IntWalk.wrap64_in _ ⟨by omega, by omega⟩), rfl⟩
theorem lall2_any (b m n : Nat) (w : World) (h1 : n ≤ 6) :
    Calls Try.prog 93 #[lineV b m n] w fun e w' => e = .returned (.int .i64 (powI n - 1)) ∧ Below w.heap.size w w' := by
  unfold lineV
  go_enter Try.func93, Try.ntmps93
  go_wp2_with fail
  refine (oall_any _ _ _ _ h1).mono ?_
  rintro e w' ⟨rfl, rfl⟩
  go_wp2_with fail
  go_ret
  exact ⟨rfl, (Below.refl w.heap.size w).alloc (Nat.le_refl _) _⟩
theorem free_any (b m n : Nat) (zs : List Int) (s : Int) (hv : Sets zs) (w : World) (hA : Ints w w.heap.size (some ⟨b, 0, none⟩) n (du zs)) (h0 : 0 ≤ s) (h1 : s < powI n) :
    Calls Try.prog 95 #[lineV b m n, .int .i64 s] w fun e w' => e = .returned (.int .i64 (topsTo (du zs) s n)) ∧ Below w.heap.size w w' := by
  unfold lineV
  go_enter Try.func95, Try.ntmps95
  go_wp2_with fail
  refine (tops_any _ n _ (du zs) s (du_sets hv) _ (hA.to ((Below.refl w.heap.size w).alloc (Nat.le_refl _) _) (Nat.le_refl _) (by simp)) h0 h1).mono ?_
  rintro e w' ⟨rfl, hB⟩
  go_wp2_with fail
  go_ret
  exact ⟨rfl, ((Below.refl w.heap.size w).alloc (Nat.le_refl _) _).trans (hB.mono (by simp))⟩
end Go.Proofs.Ytcadmjpkgnbodaa

/- Joins: what their own laws ask. No program. -/
namespace Go.Proofs.Ytcadmjpkgnbodaa

theorem up_swap (zs : List Int) (a b : Nat) : upR zs a b = upR zs b a := by
  unfold upR andI
  rw [Nat.and_comm]
theorem join_swap (zs : List Int) (a b : Nat) : joinI zs a b = joinI zs b a := by unfold joinI; rw [up_swap]
theorem join_bits {zs : List Int} {a b c : Nat} (h : joinI zs a b = c) : c < zs.length ∧ bitB (atUp zs a) c = true ∧ bitB (atUp zs b) c = true := by
  rcases jnI_cases (zs := zs) (s := upR zs a b) with ⟨e, _⟩ | ⟨d, e, hd, hb⟩
  · exfalso
    have : joinI zs a b = -1 := e
    omega
  · have : joinI zs a b = (d : Int) := e
    obtain rfl : d = c := by omega
    unfold jnB at hb
    rw [Bool.and_eq_true] at hb
    have h1 := hb.1
    unfold upR at h1
    rw [bitB_and, Bool.and_eq_true] at h1
    exact ⟨hd, h1⟩
theorem at_or {zs : List Int} {a c : Nat} (h : bitB (atUp zs a) c = true) (hne : c ≠ a) : bitB (zs[a]?.getD 0) c = true := by
  rw [atUp_bit, Bool.or_eq_true, decide_eq_true_eq] at h
  rcases h with h | h
  · exact h
  · exact absurd h.symm hne
/-- Where there is one, all stand in range. -/
theorem join_parts {zs ds : List Int} {a b J : Int} (hJ : (if vo zs && (isIt zs a && isIt zs b) then joinI ds a.toNat b.toNat else -1) = J) (h0 : 0 ≤ J) :
    VoP zs ∧ ∃ x y c : Nat, a = x ∧ b = y ∧ J = c ∧ x < zs.length ∧ y < zs.length ∧ joinI ds x y = c := by
  cases e : (vo zs && (isIt zs a && isIt zs b))
  · rw [e] at hJ
    simp only [Bool.false_eq_true, if_false] at hJ
    omega
  · rw [e, if_pos rfl] at hJ
    rw [Bool.and_eq_true, Bool.and_eq_true] at e
    obtain ⟨hv, ha, hb⟩ := e
    unfold isIt inB at ha hb
    rw [decide_eq_true_eq] at ha hb
    refine ⟨by simpa [vo] using hv, a.toNat, b.toNat, J.toNat, by omega, by omega, by omega, by omega, by omega, by omega⟩
theorem isIt_cast {zs : List Int} {x : Nat} (h : x < zs.length) : isIt zs (x : Int) = true := by unfold isIt inB; rw [decide_eq_true_eq]; omega
theorem joinR_cast {zs : List Int} (h : VoP zs) {x y : Nat} (hx : x < zs.length) (hy : y < zs.length) : joinR zs x y = joinI zs x y := by
  unfold joinR; rw [vo_true h, isIt_cast hx, isIt_cast hy]; rfl
theorem meetR_cast {zs : List Int} (h : VoP zs) {x y : Nat} (hx : x < zs.length) (hy : y < zs.length) : meetR zs x y = joinI (du zs) x y := by
  unfold meetR; rw [vo_true h, isIt_cast hx, isIt_cast hy]; rfl
end Go.Proofs.Ytcadmjpkgnbodaa

/- Cuts: ideals, closed under meeting, ascending, as many as those of the order turned round, at least as many as items. No program. -/
namespace Go.Proofs.Ytcadmjpkgnbodaa

theorem inj_len {α β : Type} [DecidableEq β] (f : α → β) : ∀ (l : List α) (m : List β), l.Nodup → (∀ x ∈ l, f x ∈ m) → (∀ x ∈ l, ∀ y ∈ l, f x = f y → x = y) → l.length ≤ m.length
  | [], _, _, _, _ => Nat.zero_le _
  | a :: t, m, hn, hm, hi => by
    have ha := hm a (by simp)
    rw [List.nodup_cons] at hn
    have := inj_len f t (m.erase (f a)) hn.2 (fun x hx => by
      refine (List.mem_erase_of_ne fun e => ?_).2 (hm x (by simp [hx]))
      have := hi x (by simp [hx]) a (by simp) e
      subst this
      exact hn.1 hx) (fun x hx y hy => hi x (by simp [hx]) y (by simp [hy]))
    rw [List.length_erase_of_mem ha] at this
    have := List.length_pos_of_mem ha
    simp only [List.length_cons]
    omega
theorem setsTo_mem {p : Int → Bool} {k : Nat} {x : Int} : x ∈ setsTo p k ↔ ∃ j : Nat, j < k ∧ p (j : Int) = true ∧ (j : Int) = x := by
  simp [setsTo, and_assoc]
theorem setsTo_asc (p : Int → Bool) (k : Nat) : (setsTo p k).Pairwise (· < ·) := by
  unfold setsTo
  rw [List.pairwise_map]
  refine (List.pairwise_lt_range.filter _).imp fun h => by omega
theorem setsTo_nodup (p : Int → Bool) (k : Nat) : (setsTo p k).Nodup := (setsTo_asc p k).imp fun h => by omega
theorem setsTo_at {p : Int → Bool} {k i : Nat} (hi : i < (setsTo p k).length) : ∃ j : Nat, j < k ∧ p (j : Int) = true ∧ (setsTo p k)[i]?.getD 0 = (j : Int) := by
  obtain ⟨j, h1, h2, h3⟩ := setsTo_mem.1 (List.getElem_mem hi)
  exact ⟨j, h1, h2, by rw [List.getElem?_eq_getElem hi]; exact h3.symm⟩
theorem setsTo_less {p : Int → Bool} {k i : Nat} (h0 : 0 < i) (hi : i < (setsTo p k).length) : (setsTo p k)[i - 1]?.getD 0 < (setsTo p k)[i]?.getD 0 := by
  rw [List.getElem?_eq_getElem hi, List.getElem?_eq_getElem (by omega)]
  exact List.pairwise_iff_getElem.1 (setsTo_asc p k) (i - 1) i (by omega) hi (by omega)
/-- At or above. -/
theorem at_du {zs : List Int} (h : Sets zs) (a b : Nat) : bitB (atUp (du zs) a) b = bitB (atUp zs b) a := by
  rw [atUp_bit, atUp_bit, du_bit h]
  congr 1
  exact decide_eq_decide.2 ⟨Eq.symm, Eq.symm⟩
theorem at_self (zs : List Int) (a : Nat) : bitB (atUp zs a) a = true := by rw [atUp_bit]; simp
theorem at_trans {zs : List Int} (h : VoP zs) {a b c : Nat} (h1 : bitB (atUp zs a) b = true) (h2 : bitB (atUp zs b) c = true) : bitB (atUp zs a) c = true := by
  rw [atUp_bit, Bool.or_eq_true, decide_eq_true_eq] at h1 h2
  rcases h1 with h1 | rfl
  · rcases h2 with h2 | rfl
    · rw [atUp_bit, (h.trans ⟨bit_none h1, h1⟩ ⟨bit_none h2, h2⟩).2]; rfl
    · rw [atUp_bit, h1]; rfl
  · rw [atUp_bit, Bool.or_eq_true, decide_eq_true_eq]; exact h2
theorem at_asym {zs : List Int} (h : VoP zs) {a b : Nat} (h1 : bitB (atUp zs a) b = true) (h2 : bitB (atUp zs b) a = true) : a = b := by
  rw [atUp_bit, Bool.or_eq_true, decide_eq_true_eq] at h1 h2
  rcases h1 with h1 | h1
  · rcases h2 with h2 | h2
    · rw [h.asym (bit_none h1) h1] at h2; cases h2
    · exact h2.symm
  · exact h1
/-- The cut of a set: what is at or below all that is at or above all of it. -/
theorem cut_bit {zs : List Int} (h : Sets zs) (s : Int) (i : Nat) : bitB (cutI zs s) i = true ↔ i < zs.length ∧ ∀ j : Nat, j < zs.length → (∀ a : Nat, a < zs.length → bitB s a = true → bitB (atUp zs a) j = true) → bitB (atUp zs i) j = true := by
  unfold cutI
  rw [comTo_bit, du_len]
  refine and_congr_right fun _ => ⟨fun g j hj ha => ?_, fun g j hj hb => ?_⟩
  · rw [← at_du h]; exact g j hj ((comTo_bit _ _ _ _).2 ⟨hj, ha⟩)
  · rw [at_du h]; exact g j hj ((comTo_bit _ _ _ _).1 hb).2
theorem cut_bd (zs : List Int) (s : Int) : 0 ≤ cutI zs s ∧ cutI zs s < powI zs.length := by
  have := comTo_bd (du zs) (comTo zs s zs.length) zs.length
  rwa [du_len] at this
theorem cut_in {zs : List Int} (h : Sets zs) {s : Int} (h1 : s < powI zs.length) {i : Nat} (hb : bitB s i = true) : bitB (cutI zs s) i = true :=
  (cut_bit h s i).2 ⟨bitB_lt h1 hb, fun _ _ ha => ha i (bitB_lt h1 hb) hb⟩
theorem cut_mono {zs : List Int} (h : Sets zs) {s t : Int} (hst : ∀ i : Nat, bitB s i = true → bitB t i = true) {i : Nat} (hb : bitB (cutI zs s) i = true) : bitB (cutI zs t) i = true := by
  rw [cut_bit h] at hb ⊢
  exact ⟨hb.1, fun j hj ha => hb.2 j hj fun a ha1 hs => ha a ha1 (hst a hs)⟩
theorem cutB_iff {zs : List Int} (h : Sets zs) {s : Int} (h0 : 0 ≤ s) (h1 : s < powI zs.length) : cutB zs s = true ↔ ∀ i : Nat, bitB (cutI zs s) i = true → bitB s i = true := by
  unfold cutB
  rw [beq_iff_eq]
  refine ⟨fun e i hb => by rwa [e] at hb, fun g => bitB_ext (cut_bd zs s).1 h0 fun i => ?_⟩
  rw [Bool.eq_iff_iff]
  exact ⟨g i, cut_in h h1⟩
theorem cut_inter {zs : List Int} (h : Sets zs) {s t : Int} (s0 : 0 ≤ s) (s1 : s < powI zs.length) (_t0 : 0 ≤ t) (t1 : t < powI zs.length) (hs : cutB zs s = true) (ht : cutB zs t = true) :
    0 ≤ andI s t ∧ andI s t < powI zs.length ∧ cutB zs (andI s t) = true := by
  have h0 : 0 ≤ andI s t := by unfold andI; omega
  have hle : andI s t < powI zs.length := by
    have := andI_bd s t
    omega
  refine ⟨h0, hle, (cutB_iff h h0 hle).2 fun i hb => ?_⟩
  rw [bitB_and, Bool.and_eq_true]
  exact ⟨(cutB_iff h s0 s1).1 hs i (cut_mono h (fun j hj => by rw [bitB_and, Bool.and_eq_true] at hj; exact hj.1) hb),
    (cutB_iff h _t0 t1).1 ht i (cut_mono h (fun j hj => by rw [bitB_and, Bool.and_eq_true] at hj; exact hj.2) hb)⟩
theorem cut_ideal {zs : List Int} (h : VoP zs) {s : Int} (h0 : 0 ≤ s) (h1 : s < powI zs.length) (hs : cutB zs s = true) : idB zs s = true := by
  refine (idB_iff h.sets h0 h1).2 fun a b hb hz => (cutB_iff h.sets h0 h1).1 hs a ?_
  have hc := cut_in h.sets h1 hb
  rw [cut_bit h.sets] at hc ⊢
  refine ⟨bit_none hz, fun j hj ha => at_trans h (b := b) ?_ (hc.2 j hj ha)⟩
  rw [atUp_bit, hz]; rfl
theorem cut_all {zs : List Int} (h : Sets zs) : cutB zs (powI zs.length - 1) = true := by
  have hp := powI_pos (zs.length : Int)
  refine (cutB_iff h (by omega) (by omega)).2 fun i hb => ?_
  rw [all_bits', decide_eq_true_eq]
  exact ((cut_bit h _ i).1 hb).1
/-- What is at or below an item is a cut. -/
theorem cut_one {zs : List Int} (h : VoP zs) {a : Nat} (ha : a < zs.length) : 0 ≤ atUp (du zs) a ∧ atUp (du zs) a < powI zs.length ∧ cutB zs (atUp (du zs) a) = true := by
  have hb := atUp_bd (du_sets h.sets) (a := a) (by rw [du_len]; exact ha)
  rw [du_len] at hb
  refine ⟨hb.1, hb.2, (cutB_iff h.sets hb.1 hb.2).2 fun i hi => ?_⟩
  rw [at_du h.sets]
  refine ((cut_bit h.sets _ i).1 hi).2 a ha fun c _ hc => ?_
  rwa [at_du h.sets] at hc
theorem pow_cast (n : Nat) : powI (n : Int) = ((2 ^ n : Nat) : Int) := by simp [powI]
theorem mem_cuts {zs : List Int} (h : VoP zs) {x : Int} : x ∈ cutsR zs ↔ 0 ≤ x ∧ x < powI zs.length ∧ cutB zs x = true := by
  unfold cutsR
  rw [vo_true h, if_pos rfl, setsTo_mem, pow_cast]
  refine ⟨?_, fun ⟨h0, h1, h2⟩ => ⟨x.toNat, by omega, by rwa [Int.toNat_of_nonneg h0], Int.toNat_of_nonneg h0⟩⟩
  rintro ⟨j, h1, h2, rfl⟩
  exact ⟨by omega, by omega, h2⟩
theorem cuts_nodup (zs : List Int) : (cutsR zs).Nodup := by
  unfold cutsR
  split
  · exact setsTo_nodup _ _
  · exact List.nodup_nil
theorem cuts_many {zs : List Int} (h : VoP zs) : zs.length ≤ (cutsR zs).length := by
  have := inj_len (fun a : Nat => atUp (du zs) a) (List.range zs.length) (cutsR zs) List.nodup_range (fun a ha => (mem_cuts h).2 (cut_one h (by simpa using ha)))
    (fun a _ b _ e => at_asym h (by rw [← at_du h.sets, ← (show atUp (du zs) a = atUp (du zs) b from e)]; exact at_self _ _) (by rw [← at_du h.sets, (show atUp (du zs) a = atUp (du zs) b from e)]; exact at_self _ _))
  simpa using this
theorem cuts_du_le {zs : List Int} (h : VoP zs) : (cutsR zs).length ≤ (cutsR (du zs)).length := by
  refine inj_len (fun s => comTo zs s zs.length) _ _ (cuts_nodup zs) (fun s hs => ?_) (fun s hs t ht e => ?_)
  · obtain ⟨h0, h1, h2⟩ := (mem_cuts h).1 hs
    have hb := comTo_bd zs s zs.length
    refine (mem_cuts (du_vo h)).2 ⟨hb.1, by rw [du_len]; exact hb.2, ?_⟩
    unfold cutB at h2 ⊢
    rw [beq_iff_eq] at h2 ⊢
    unfold cutI at h2 ⊢
    rw [du_len, du_du h, h2]
  · have h2 := ((mem_cuts h).1 hs).2.2
    have h3 := ((mem_cuts h).1 ht).2.2
    unfold cutB at h2 h3
    rw [beq_iff_eq] at h2 h3
    rw [← h2, ← h3]
    unfold cutI
    rw [show comTo zs s zs.length = comTo zs t zs.length from e]
theorem cuts_du {zs : List Int} (h : VoP zs) : (cutsR (du zs)).length = (cutsR zs).length := by
  have h1 := cuts_du_le h
  have h2 := cuts_du_le (du_vo h)
  rw [du_du h] at h2
  omega
theorem cuts_last {zs : List Int} (h : VoP zs) {m : Nat} (hm : (cutsR zs).length = m + 1) : (cutsR zs)[m]?.getD 0 = powI zs.length - 1 := by
  have hp := powI_pos (zs.length : Int)
  have hin := (mem_cuts h).2 ⟨by omega, by omega, cut_all h.sets⟩
  obtain ⟨i, hi, e⟩ := List.getElem_of_mem hin
  have hl := (mem_cuts h).1 (List.getElem_mem (l := cutsR zs) (n := m) (by omega))
  rw [List.getElem?_eq_getElem (by omega), Option.getD_some]
  by_cases him : i = m
  · subst him; exact e
  · have hp : (cutsR zs).Pairwise (· < ·) := by
      unfold cutsR
      split
      · exact setsTo_asc _ _
      · exact List.Pairwise.nil
    have := List.pairwise_iff_getElem.1 hp i m hi (by omega) (by omega)
    omega
theorem cuts_pos {zs : List Int} (h : VoP zs) : 0 < (cutsR zs).length := by
  have hp := powI_pos (zs.length : Int)
  exact List.length_pos_of_mem ((mem_cuts h).2 ⟨by omega, by omega, cut_all h.sets⟩)
/-- What the cuts' own law asks of each. -/
theorem cuts_each {zs : List Int} (h : VoP zs) {i j : Nat} (hi : i < (cutsR zs).length) (hj : j < (cutsR zs).length) :
    isIdealR zs ((cutsR zs)[i]?.getD 0) = true ∧ andI ((cutsR zs)[i]?.getD 0) ((cutsR zs)[j]?.getD 0) ∈ cutsR zs := by
  rw [List.getElem?_eq_getElem hi, List.getElem?_eq_getElem hj, Option.getD_some, Option.getD_some]
  obtain ⟨a0, a1, a2⟩ := (mem_cuts h).1 (List.getElem_mem hi)
  obtain ⟨b0, b1, b2⟩ := (mem_cuts h).1 (List.getElem_mem hj)
  exact ⟨by rw [isIdealR_in h a0 a1]; exact cut_ideal h a0 a1 a2, (mem_cuts h).2 (cut_inter h.sets a0 a1 b0 b1 a2 b2)⟩
theorem cuts_asc (zs : List Int) {i : Nat} (h0 : 0 < i) (hi : i < (cutsR zs).length) : (cutsR zs)[i - 1]?.getD 0 < (cutsR zs)[i]?.getD 0 := by
  have hp : (cutsR zs).Pairwise (· < ·) := by
    unfold cutsR
    split
    · exact setsTo_asc _ _
    · exact List.Pairwise.nil
  rw [List.getElem?_eq_getElem hi, List.getElem?_eq_getElem (by omega)]
  exact List.pairwise_iff_getElem.1 hp (i - 1) i (by omega) hi (by omega)
end Go.Proofs.Ytcadmjpkgnbodaa

/- Sums: of the first k, of all sets, split at an item. No program. -/
namespace Go.Proofs.Ytcadmjpkgnbodaa

/-- The sum of the first k. -/
def smTo (g : Nat → Int) : Nat → Int
  | 0 => 0
  | k + 1 => smTo g k + g k
theorem smTo_succ (g : Nat → Int) (k : Nat) : smTo g (k + 1) = smTo g k + g k := rfl
theorem smTo_congr {g h : Nat → Int} : ∀ k : Nat, (∀ c, c < k → g c = h c) → smTo g k = smTo h k
  | 0, _ => rfl
  | k + 1, H => by rw [smTo_succ, smTo_succ, smTo_congr k fun c hc => H c (by omega), H k (by omega)]
theorem smTo_add (g h : Nat → Int) : ∀ k : Nat, smTo (fun c => g c + h c) k = smTo g k + smTo h k
  | 0 => rfl
  | k + 1 => by rw [smTo_succ, smTo_succ, smTo_succ, smTo_add g h k]; omega
theorem smTo_nil {g : Nat → Int} {k : Nat} (h : ∀ c, c < k → g c = 0) : smTo g k = 0 := by
  rw [smTo_congr (h := fun _ => 0) k h]
  clear h
  induction k with
  | zero => rfl
  | succ k ih => rw [smTo_succ, ih]; rfl
theorem smTo_neg (g : Nat → Int) : ∀ k : Nat, smTo (fun c => - g c) k = - smTo g k
  | 0 => rfl
  | k + 1 => by rw [smTo_succ, smTo_succ, smTo_neg g k]; omega
theorem smTo_mul (g : Nat → Int) (x : Int) : ∀ k : Nat, smTo (fun c => g c * x) k = smTo g k * x
  | 0 => by simp [smTo]
  | k + 1 => by rw [smTo_succ, smTo_succ, smTo_mul g x k, Int.add_mul]
theorem smTo_mul' (g : Nat → Int) (x : Int) : ∀ k : Nat, smTo (fun c => x * g c) k = x * smTo g k
  | 0 => by simp [smTo]
  | k + 1 => by rw [smTo_succ, smTo_succ, smTo_mul' g x k, Int.mul_add]
theorem smTo_swap (g : Nat → Nat → Int) (m : Nat) : ∀ k : Nat, smTo (fun a => smTo (g a) m) k = smTo (fun b => smTo (fun a => g a b) k) m
  | 0 => by rw [smTo_nil (g := fun b => smTo (fun a => g a b) 0) (k := m) fun _ _ => rfl]; rfl
  | k + 1 => by rw [smTo_succ, smTo_swap g m k, ← smTo_add]; rfl
/-- What all but one add is nothing. -/
theorem smTo_one {g : Nat → Int} {c : Nat} : ∀ {k : Nat}, c < k → (∀ j, j < k → j ≠ c → g j = 0) → smTo g k = g c
  | k + 1, hc, H => by
    rw [smTo_succ]
    rcases Nat.lt_or_ge c k with h | h
    · rw [smTo_one h fun j hj hn => H j (by omega) hn, H k (by omega) (by omega)]; omega
    · obtain rfl : c = k := by omega
      rw [smTo_nil fun j hj => H j (by omega) (by omega)]; omega
theorem smTo_bd {g : Nat → Int} {B : Int} (_hB : 0 ≤ B) : ∀ k : Nat, (∀ c, c < k → - B ≤ g c ∧ g c ≤ B) → - (k * B) ≤ smTo g k ∧ smTo g k ≤ k * B
  | 0, _ => by simp [smTo]
  | k + 1, H => by
    obtain ⟨h1, h2⟩ := smTo_bd _hB k fun c hc => H c (by omega)
    obtain ⟨h3, h4⟩ := H k (by omega)
    rw [smTo_succ]
    have e : ((k + 1 : Nat) : Int) * B = k * B + B := by rw [Int.natCast_add, Int.add_mul]; simp
    rw [e]
    generalize (k : Int) * B = q at *
    omega

/-! Of lists. -/
def lsum (g : Nat → Int) (l : List Nat) : Int := l.foldr (fun x y => g x + y) 0
theorem lsum_cons (g : Nat → Int) (x : Nat) (l : List Nat) : lsum g (x :: l) = g x + lsum g l := rfl
theorem lsum_app (g : Nat → Int) (m : List Nat) : ∀ l : List Nat, lsum g (l ++ m) = lsum g l + lsum g m
  | [] => by simp [lsum]
  | x :: l => by rw [List.cons_append, lsum_cons, lsum_cons, lsum_app g m l]; omega
theorem lsum_perm (g : Nat → Int) {l m : List Nat} (h : l.Perm m) : lsum g l = lsum g m := by
  induction h with
  | nil => rfl
  | cons x _ ih => rw [lsum_cons, lsum_cons, ih]
  | swap x y l => simp only [lsum_cons]; omega
  | trans _ _ h1 h2 => rw [h1, h2]
theorem lsum_range (g : Nat → Int) : ∀ k : Nat, lsum g (List.range k) = smTo g k
  | 0 => rfl
  | k + 1 => by rw [List.range_succ, lsum_app, lsum_range g k, smTo_succ]; simp [lsum]
theorem lsum_two (g : Nat → Int) (p : Nat → Bool) (t : Nat → Nat) : ∀ l : List Nat, lsum g ((l.filter p).flatMap fun s => [s, t s]) = lsum (fun s => if p s then g s + g (t s) else 0) l
  | [] => rfl
  | x :: l => by
    have ih := lsum_two g p t l
    rw [List.filter_cons, lsum_cons]
    cases hp : p x
    · simp [ih]
    · simp only [if_true, List.flatMap_cons, List.cons_append, List.nil_append, lsum_cons, ih]; omega
def halves (n c : Nat) : List Nat := ((List.range (2 ^ n)).filter fun s => !s.testBit c).flatMap fun s => [s, s ||| 2 ^ c]
theorem halves_fin : ∀ n : Fin 7, ∀ c : Fin 6, c.val < n.val → (List.range (2 ^ n.val)).isPerm (halves n.val c.val) = true := by decide +kernel
/-- All sets: those without an item, and these with it. -/
theorem smTo_half (g : Nat → Int) {n c : Nat} (hn : n ≤ 6) (hc : c < n) : smTo g (2 ^ n) = smTo (fun s => if s.testBit c then 0 else g s + g (s ||| 2 ^ c)) (2 ^ n) := by
  have h := List.isPerm_iff.1 (halves_fin ⟨n, by omega⟩ ⟨c, by omega⟩ hc)
  have e := lsum_perm g h
  rw [lsum_range] at e
  rw [e, ← lsum_range]
  unfold halves
  rw [lsum_two]
  congr 1
  funext s
  cases s.testBit c <;> rfl
end Go.Proofs.Ytcadmjpkgnbodaa

/- The number of two items, and sums over chains: they are one (mathematics). -/
namespace Go.Proofs.Ytcadmjpkgnbodaa

def upw (zs : List Int) (a b : Nat) : Bool := bitB (zs[a]?.getD 0) b
theorem upw_lt {zs : List Int} {a b : Nat} : upw zs a b = true ↔ lt zs a b := ⟨fun h => ⟨bit_none h, h⟩, fun h => h.2⟩
def muC (zs : List Int) (a b c : Nat) : Bool := c == a || (upw zs a c && upw zs c b)
def muF (zs : List Int) : Nat → Nat → Nat → Int
  | 0, _, _ => 0
  | f + 1, a, b => if a = b then 1 else if upw zs a b then - smTo (fun c => if muC zs a b c then muF zs f a c else 0) zs.length else 0
def muI (zs : List Int) (a b : Nat) : Int := muF zs 7 a b
theorem muF_bd {zs : List Int} (hn : zs.length ≤ 6) : ∀ (f a b : Nat), - (6 ^ f : Int) ≤ muF zs f a b ∧ muF zs f a b ≤ 6 ^ f
  | 0, a, b => by simp [muF]
  | f + 1, a, b => by
    have hp : (1 : Int) ≤ 6 ^ f := by have : (0 : Int) < 6 ^ f := Int.pow_pos (by decide); omega
    have e : (6 : Int) ^ (f + 1) = 6 ^ f * 6 := Int.pow_succ _ _
    have hb := smTo_bd (g := fun c => if muC zs a b c then muF zs f a c else 0) (B := 6 ^ f) (by omega) zs.length fun c _ => by
      skip
      split
      · exact muF_bd hn f a c
      · omega
    have hm : (zs.length : Int) * 6 ^ f ≤ 6 ^ f * 6 := by
      rw [Int.mul_comm]
      exact Int.mul_le_mul_of_nonneg_left (by omega) (by omega)
    rw [e, muF]
    split
    · omega
    · split <;> omega
theorem muI_bd {zs : List Int} (hn : zs.length ≤ 6) (a b : Nat) : -279936 ≤ muI zs a b ∧ muI zs a b ≤ 279936 := muF_bd hn 7 a b
theorem muF_same {zs : List Int} (h : VoP zs) : ∀ (f f' a b : Nat), rank zs b < f → rank zs b < f' → muF zs f a b = muF zs f' a b
  | f + 1, f' + 1, a, b, h1, h2 => by
    rw [muF, muF]
    by_cases hab : a = b
    · rw [if_pos hab, if_pos hab]
    · rw [if_neg hab, if_neg hab]
      cases hu : upw zs a b
      · rfl
      · simp only [if_true]
        congr 1
        refine smTo_congr _ fun c _ => ?_
        cases hm : muC zs a b c
        · rfl
        · simp only [if_true]
          have hc : rank zs c < rank zs b := by
            simp only [muC, Bool.or_eq_true, beq_iff_eq, Bool.and_eq_true] at hm
            rcases hm with rfl | ⟨-, hm⟩
            · exact rank_lt h (upw_lt.1 hu)
            · exact rank_lt h (upw_lt.1 hm)
          exact muF_same h f f' a c (by omega) (by omega)
theorem rank_le6 {zs : List Int} (h : VoP zs) (b : Nat) : rank zs b < 7 := by
  have h1 : (below zs b).length ≤ (List.range zs.length).length := List.length_filter_le _ _
  have h2 := h.1
  rw [List.length_range] at h1
  unfold rank; omega
theorem muI_eq {zs : List Int} (h : VoP zs) {f a b : Nat} (hf : rank zs b < f) : muF zs f a b = muI zs a b := muF_same h _ _ a b hf (rank_le6 h b)
theorem muI_self (zs : List Int) (a : Nat) : muI zs a a = 1 := by unfold muI; rw [muF, if_pos rfl]
theorem muI_no {zs : List Int} {a b : Nat} (hab : a ≠ b) (hu : upw zs a b = false) : muI zs a b = 0 := by unfold muI; rw [muF, if_neg hab, hu]; rfl
theorem muI_rec {zs : List Int} (h : VoP zs) {a b : Nat} (hl : lt zs a b) : muI zs a b = - smTo (fun c => if muC zs a b c then muI zs a c else 0) zs.length := by
  have hab : a ≠ b := fun e => h.irr (e ▸ hl)
  have e : muI zs a b = muF zs (7 + 1) a b := (muI_eq h (by have := rank_le6 h b; omega)).symm
  rw [e, muF, if_neg hab, upw_lt.2 hl]
  simp only [if_true]
  congr 1

/-! Chains between two items. -/
/-- One for an odd number of items, less one for an even one. -/
def par (s : Nat) : Int := 2 * (popI (s : Int) % 2) - 1
def opB (zs : List Int) (s : Nat) (a b : Nat) : Bool := (List.range 6).all fun x => !s.testBit x || (upw zs a x && upw zs x b)
theorem tb_lt {s x : Nat} (h1 : s < 64) (h : s.testBit x = true) : x < 6 := by
  rcases Nat.lt_or_ge x 6 with h2 | h2
  · exact h2
  · rw [Nat.testBit_lt_two_pow (Nat.lt_of_lt_of_le h1 (Nat.pow_le_pow_right (n := 2) (by decide) h2 : 2 ^ 6 ≤ 2 ^ x))] at h
    simp at h
theorem opB_iff {zs : List Int} {s a b : Nat} (h1 : s < 64) : opB zs s a b = true ↔ ∀ x : Nat, s.testBit x = true → lt zs a x ∧ lt zs x b := by
  unfold opB
  rw [List.all_eq_true]
  constructor
  · intro h x hx
    have := h x (List.mem_range.2 (tb_lt h1 hx))
    simp only [hx, Bool.not_true, Bool.false_or, Bool.and_eq_true] at this
    exact ⟨upw_lt.1 this.1, upw_lt.1 this.2⟩
  · intro h x _
    cases hx : s.testBit x
    · rfl
    · obtain ⟨h2, h3⟩ := h x hx
      simp [upw_lt.2 h2, upw_lt.2 h3]
def chS (zs : List Int) (a b s : Nat) : Int := if opB zs s a b && chB zs (s : Int) then par s else 0
/-- The sum over the chains strictly between two items. -/
def chI (zs : List Int) (a b : Nat) : Int := smTo (chS zs a b) (2 ^ zs.length)
theorem chB_iff' {zs : List Int} {s : Nat} (h1 : s < 64) : chB zs (s : Int) = true ↔ ∀ x y : Nat, s.testBit x = true → s.testBit y = true → x ≠ y → lt zs x y ∨ lt zs y x := by
  unfold chB
  rw [decide_eq_true_iff, ChP_iff (by omega)]
  have hb : ∀ x : Nat, bitB (s : Int) (x : Int) = s.testBit x := fun x => by simp [bitB]
  simp only [hb]
  have hr : ∀ x y : Nat, relB zs x y = true ↔ lt zs x y ∨ lt zs y x := fun x y => by
    have := @upw_lt zs x y; have := @upw_lt zs y x
    unfold upw at *
    unfold relB
    rw [Bool.or_eq_true]
    simp only [*]
  simp only [hr]
  constructor
  · intro h x y hx hy hn
    rcases Nat.lt_or_gt_of_ne hn with hlt | hlt
    · exact h x y hx hy hlt
    · exact (h y x hy hx hlt).symm
  · intro h x y hx hy hlt
    exact h x y hx hy (by omega)

/-- c is the top of the chain s, which lies between a and b. -/
def tpB (zs : List Int) (a b s c : Nat) : Bool := (s.testBit c && (upw zs a c && upw zs c b)) && (((List.range 6).all fun x => !s.testBit x || (x == c || (upw zs a x && upw zs x c))) && chB zs (s : Int))
theorem tpB_iff {zs : List Int} {a b s c : Nat} (h1 : s < 64) : tpB zs a b s c = true ↔ s.testBit c = true ∧ lt zs a c ∧ lt zs c b ∧ (∀ x : Nat, s.testBit x = true → x ≠ c → lt zs a x ∧ lt zs x c) ∧ chB zs (s : Int) = true := by
  unfold tpB
  simp only [Bool.and_eq_true, List.all_eq_true, List.mem_range, Bool.or_eq_true, Bool.not_eq_true', beq_iff_eq, upw_lt]
  constructor
  · rintro ⟨⟨h2, h3, h4⟩, h5, h6⟩
    refine ⟨h2, h3, h4, fun x hx hn => ?_, h6⟩
    rcases h5 x (tb_lt h1 hx) with h | h | h
    · rw [hx] at h; simp at h
    · exact absurd h hn
    · exact h
  · rintro ⟨h2, h3, h4, h5, h6⟩
    refine ⟨⟨h2, h3, h4⟩, fun x _ => ?_, h6⟩
    cases hx : s.testBit x
    · exact .inl rfl
    · by_cases hn : x = c
      · exact .inr (.inl hn)
      · exact .inr (.inr (h5 x hx hn))
theorem top_of {zs : List Int} (h : VoP zs) {s : Nat} (h1 : s < 2 ^ zs.length) (h0 : s ≠ 0) (hc : chB zs (s : Int) = true) : ∃ c : Nat, s.testBit c = true ∧ ∀ x : Nat, s.testBit x = true → x ≠ c → lt zs x c := by
  have hs : (s : Int) < powI zs.length := by rw [pow_cast]; omega
  have h64 : s < 64 := by have := powI_le6 (n := (zs.length : Int)) (by have := h.1; omega); omega
  have ht := tops_none h (s := (s : Int)) (by omega) hs
  have hne : topsTo zs (s : Int) zs.length ≠ 0 := by
    intro e
    rw [e] at ht
    simp at ht
    omega
  have hex : ∃ c : Nat, bitB (topsTo zs (s : Int) zs.length) c = true := by
    apply Classical.byContradiction
    intro hno
    refine hne (bitB_ext ?_ (by omega) fun j => ?_)
    · exact (topsTo_bd zs _ _).1
    · rw [bitB_zero]
      cases hj : bitB (topsTo zs (s : Int) zs.length) j
      · rfl
      · exact absurd ⟨j, hj⟩ hno
  obtain ⟨c, hcb⟩ := hex
  obtain ⟨-, h3, h4⟩ := (topsTo_bit c _).1 hcb
  have hb : ∀ x : Nat, bitB (s : Int) (x : Int) = s.testBit x := fun x => by simp [bitB]
  rw [hb] at h3
  refine ⟨c, h3, fun x hx hn => ?_⟩
  rcases (chB_iff' h64).1 hc x c hx h3 hn with hl | hl
  · exact hl
  · have := andI_zero.1 h4 x (by rw [hb]; exact hx)
    rw [hl.2] at this
    simp at this
theorem par_fin : ∀ s : Fin 64, ∀ c : Fin 6, s.val.testBit c.val = false → popI ((s.val ||| 2 ^ c.val : Nat) : Int) = popI (s.val : Int) + 1 ∧ 0 ≤ popI (s.val : Int) := by decide +kernel
theorem par_more {s c : Nat} (hs : s < 64) (hc : c < 6) (h : s.testBit c = false) : par (s ||| 2 ^ c) = - par s := by
  obtain ⟨h1, h2⟩ := par_fin ⟨s, hs⟩ ⟨c, hc⟩ h
  unfold par
  rw [show popI ((s ||| 2 ^ c : Nat) : Int) = popI (s : Int) + 1 from h1]
  have h2' : 0 ≤ popI (s : Int) := h2
  omega
theorem or_bit (s c x : Nat) : (s ||| 2 ^ c).testBit x = (s.testBit x || decide (c = x)) := by rw [Nat.testBit_or, Nat.testBit_two_pow]
theorem or_lt {s c n : Nat} (hs : s < 2 ^ n) (hc : c < n) : s ||| 2 ^ c < 2 ^ n := Nat.or_lt_two_pow hs (Nat.pow_lt_pow_right (by decide) hc)
/-- All chains between two items with one top. -/
theorem ch_top {zs : List Int} (h : VoP zs) {a b c : Nat} (h1 : lt zs a c) (h2 : lt zs c b) : smTo (fun s => if tpB zs a b s c then par s else 0) (2 ^ zs.length) = - chI zs a c := by
  have hn := h.1
  have hc := h.lt_n h1
  have h64 : 2 ^ zs.length ≤ 64 := Nat.pow_le_pow_right (n := 2) (by decide) hn
  rw [smTo_half _ hn hc, chI, ← smTo_neg]
  refine smTo_congr _ fun s hs => ?_
  have hs' : s < 64 := by omega
  have ho := or_lt hs hc
  skip
  cases hb : s.testBit c
  · have e1 : tpB zs a b s c = false := by unfold tpB; rw [hb]; rfl
    have e2 : tpB zs a b (s ||| 2 ^ c) c = (opB zs s a c && chB zs (s : Int)) := by
      rw [Bool.eq_iff_iff, tpB_iff (by omega), Bool.and_eq_true, opB_iff hs', chB_iff' (by omega), chB_iff' hs']
      constructor
      · rintro ⟨-, -, -, h5, h6⟩
        refine ⟨fun x hx => h5 x (by rw [or_bit, hx]; rfl) fun e => ?_, fun x y hx hy hxy => h6 x y (by rw [or_bit, hx]; rfl) (by rw [or_bit, hy]; rfl) hxy⟩
        subst e
        rw [hb] at hx
        simp at hx
      · rintro ⟨h5, h6⟩
        have hin : ∀ x : Nat, (s ||| 2 ^ c).testBit x = true → x ≠ c → s.testBit x = true := fun x hx hn => by
          rw [or_bit] at hx
          simpa [show c ≠ x from fun e => hn e.symm] using hx
        refine ⟨by rw [or_bit]; simp, h1, h2, fun x hx hn => h5 x (hin x hx hn), fun x y hx hy hxy => ?_⟩
        by_cases ex : x = c
        · subst ex; exact .inr (h5 y (hin y hy fun e => hxy e.symm)).2
        · by_cases ey : y = c
          · subst ey; exact .inl (h5 x (hin x hx ex)).2
          · exact h6 x y (hin x hx ex) (hin y hy ey) hxy
    rw [e1, e2, par_more hs' (by omega) hb]
    unfold chS
    cases opB zs s a c && chB zs (s : Int) <;> simp
  · have : opB zs s a c = false := by
      cases e : opB zs s a c
      · rfl
      · exact absurd ((opB_iff hs').1 e c hb).2 h.irr
    unfold chS
    rw [this]; rfl
theorem ch_rec {zs : List Int} (h : VoP zs) {a b : Nat} (hl : lt zs a b) : chI zs a b = - smTo (fun c => if muC zs a b c then (if a = c then 1 else chI zs a c) else 0) zs.length := by
  have hn := h.1
  have ha : a < zs.length := hl.1
  have h64 : 2 ^ zs.length ≤ 64 := Nat.pow_le_pow_right (n := 2) (by decide) hn
  have step : ∀ s, s < 2 ^ zs.length → chS zs a b s = (if s = 0 then (-1 : Int) else 0) + smTo (fun c => if upw zs a c && upw zs c b then (if tpB zs a b s c then par s else 0) else 0) zs.length := fun s hs => by
    have hs' : s < 64 := by omega
    by_cases h0 : s = 0
    · subst h0
      rw [smTo_nil fun c _ => ?_]
      · unfold chS
        rw [(opB_iff (by decide)).2 (by simp), (chB_iff' (by decide)).2 (by simp)]
        decide
      · rw [show tpB zs a b 0 c = false from by unfold tpB; simp]
        simp
    · rw [if_neg h0]
      cases hop : (opB zs s a b && chB zs (s : Int))
      · rw [smTo_nil fun c _ => ?_]
        · unfold chS; rw [hop]; rfl
        · split
          · cases ht : tpB zs a b s c
            · rfl
            · obtain ⟨t1, t2, t3, t4, t5⟩ := (tpB_iff hs').1 ht
              rw [t5, Bool.and_true] at hop
              rw [(opB_iff hs').2 fun x hx => ?_] at hop
              · simp at hop
              · by_cases hxc : x = c
                · subst hxc; exact ⟨t2, t3⟩
                · exact ⟨(t4 x hx hxc).1, h.trans (t4 x hx hxc).2 t3⟩
          · rfl
      · rw [Bool.and_eq_true, opB_iff hs'] at hop
        obtain ⟨c, hc1, hc2⟩ := top_of h hs h0 hop.2
        obtain ⟨q1, q2⟩ := hop.1 c hc1
        have hT : tpB zs a b s c = true := (tpB_iff hs').2 ⟨hc1, q1, q2, fun x hx hxc => ⟨(hop.1 x hx).1, hc2 x hx hxc⟩, hop.2⟩
        rw [smTo_one (c := c) (h.lt_n q1) fun j _ hj => ?_]
        · unfold chS
          rw [(opB_iff hs').2 hop.1, hop.2, hT, upw_lt.2 q1, upw_lt.2 q2]
          simp
        · split
          · cases ht : tpB zs a b s j
            · rfl
            · obtain ⟨t1, -, -, t4, -⟩ := (tpB_iff hs').1 ht
              exact absurd (h.trans (t4 c hc1 fun e => hj e.symm).2 (hc2 j t1 hj)) h.irr
          · rfl
  have hz : smTo (fun s => if s = 0 then (-1 : Int) else 0) (2 ^ zs.length) = -1 := by
    rw [smTo_one (c := 0) (Nat.pow_pos (by decide)) fun j _ hj => if_neg hj, if_pos rfl]
  have h1 : smTo (fun c => if muC zs a b c then (if a = c then 1 else chI zs a c) else 0) zs.length = 1 + smTo (fun c => if upw zs a c && upw zs c b then chI zs a c else 0) zs.length := by
    rw [smTo_congr (h := fun c => (if c = a then (1 : Int) else 0) + (if upw zs a c && upw zs c b then chI zs a c else 0)) _ fun c _ => ?_]
    · rw [smTo_add, smTo_one (c := a) ha fun j _ hj => if_neg hj, if_pos rfl]
    · skip
      by_cases hca : c = a
      · subst hca
        have : upw zs c c = false := by
          cases e : upw zs c c
          · rfl
          · exact absurd (upw_lt.1 e) h.irr
        simp [muC, this]
      · have : a ≠ c := fun e => hca e.symm
        simp [muC, hca, this]
  rw [h1]
  unfold chI
  rw [smTo_congr (g := chS zs a b) _ step, smTo_add, hz, smTo_swap]
  have h2 : smTo (fun c => smTo (fun s => if upw zs a c && upw zs c b then (if tpB zs a b s c then par s else 0) else 0) (2 ^ zs.length)) zs.length = smTo (fun c => - (if upw zs a c && upw zs c b then smTo (chS zs a c) (2 ^ zs.length) else 0)) zs.length := by
    refine smTo_congr _ fun c _ => ?_
    skip
    cases hu : (upw zs a c && upw zs c b)
    · simp only [Bool.false_eq_true, if_false]
      rw [smTo_nil fun _ _ => rfl]; rfl
    · rw [Bool.and_eq_true, upw_lt, upw_lt] at hu
      simp only [if_true]
      exact ch_top h hu.1 hu.2
  rw [h2, smTo_neg]
  omega
/-- The number of two items is the sum over chains. -/
theorem mu_ch {zs : List Int} (h : VoP zs) : ∀ (f a b : Nat), rank zs b < f → muI zs a b = if a = b then 1 else if upw zs a b then chI zs a b else 0
  | f + 1, a, b, hf => by
    by_cases hab : a = b
    · rw [if_pos hab, hab, muI_self]
    · rw [if_neg hab]
      cases hu : upw zs a b
      · rw [muI_no hab hu]; rfl
      · have hl := upw_lt.1 hu
        rw [if_pos rfl, muI_rec h hl, ch_rec h hl]
        congr 1
        refine smTo_congr _ fun c _ => ?_
        cases hm : muC zs a b c
        · rfl
        · simp only [if_true]
          have hm' := hm
          simp only [muC, Bool.or_eq_true, beq_iff_eq, Bool.and_eq_true] at hm'
          have hc : rank zs c < rank zs b := by
            rcases hm' with rfl | ⟨-, hm'⟩
            · exact rank_lt h hl
            · exact rank_lt h (upw_lt.1 hm')
          rw [mu_ch h f a c (by omega)]
          by_cases hac : a = c
          · rw [if_pos hac, if_pos hac]
          · rw [if_neg hac, if_neg hac, show upw zs a c = true from hm'.elim (fun e => absurd e.symm hac) (·.1)]
            rfl
theorem mu_is {zs : List Int} (h : VoP zs) (a b : Nat) : muI zs a b = if a = b then 1 else if upw zs a b then chI zs a b else 0 := mu_ch h 7 a b (rank_le6 h b)
theorem du_upw {zs : List Int} (h : Sets zs) (a b : Nat) : upw (du zs) b a = upw zs a b := du_bit h a b
theorem all_congr' {p q : Nat → Bool} (l : List Nat) (h : ∀ x, p x = q x) : l.all p = l.all q := by rw [show p = q from funext h]
theorem du_chI {zs : List Int} (h : VoP zs) (a b : Nat) : chI (du zs) b a = chI zs a b := by
  unfold chI
  rw [du_len]
  refine smTo_congr _ fun s _ => ?_
  unfold chS
  rw [du_chB h.sets]
  have e : opB (du zs) s b a = opB zs s a b := by
    unfold opB
    refine all_congr' _ fun x => ?_
    rw [du_upw h.sets, du_upw h.sets, Bool.and_comm (upw zs x b)]
  rw [e]
/-- The order turned round has the same numbers. -/
theorem du_mu {zs : List Int} (h : VoP zs) (a b : Nat) : muI (du zs) b a = muI zs a b := by
  rw [mu_is (du_vo h), mu_is h, du_upw h.sets, du_chI h]
  by_cases hab : a = b
  · rw [if_pos hab, if_pos hab.symm]
  · rw [if_neg hab, if_neg fun e => hab e.symm]

/-! What sums do. -/
def leB (zs : List Int) (a b : Nat) : Bool := a == b || upw zs a b
theorem mu_le {zs : List Int} {a b : Nat} (h : leB zs a b = false) : muI zs a b = 0 := by
  simp only [leB, Bool.or_eq_false_iff, beq_eq_false_iff_ne] at h
  exact muI_no h.1 h.2
/-- Over what is between two items, the numbers from the lower one up are none. -/
theorem mu_up {zs : List Int} (h : VoP zs) {a c : Nat} (hc : c < zs.length) : smTo (fun b => if leB zs c b && leB zs b a then muI zs c b else 0) zs.length = if c = a then 1 else 0 := by
  by_cases hca : c = a
  · subst hca
    rw [if_pos rfl, smTo_one (c := c) hc fun b _ hb => ?_]
    · simp [leB, muI_self]
    · have : (leB zs c b && leB zs b c) = false := by
        cases e : (leB zs c b && leB zs b c)
        · rfl
        · have hb' : c ≠ b := fun e => hb e.symm
          simp only [leB, Bool.and_eq_true, Bool.or_eq_true, beq_iff_eq, upw_lt] at e
          exact absurd (h.trans (e.1.resolve_left hb') (e.2.resolve_left hb)) h.irr
      rw [this]; rfl
  · rw [if_neg hca]
    cases hu : upw zs c a
    · refine smTo_nil fun b _ => ?_
      have : (leB zs c b && leB zs b a) = false := by
        cases e : (leB zs c b && leB zs b a)
        · rfl
        · simp only [leB, Bool.and_eq_true, Bool.or_eq_true, beq_iff_eq, upw_lt] at e
          have hno : ¬ lt zs c a := fun q => by rw [upw_lt.2 q] at hu; simp at hu
          rcases e with ⟨rfl | e1, rfl | e2⟩
          · exact absurd rfl hca
          · exact absurd e2 hno
          · exact absurd e1 hno
          · exact absurd (h.trans e1 e2) hno
      rw [this]; rfl
    · have hl := upw_lt.1 hu
      have ha := h.lt_n hl
      have hr := muI_rec h hl
      rw [smTo_congr (h := fun b => (if b = a then muI zs c a else 0) + if muC zs c a b then muI zs c b else 0) _ fun b _ => ?_]
      · rw [smTo_add, smTo_one (c := a) ha fun j _ hj => if_neg hj, if_pos rfl, hr]
        omega
      · skip
        by_cases hba : b = a
        · subst hba
          have h1 : muC zs c b b = false := by
            have : upw zs b b = false := by
              cases e : upw zs b b
              · rfl
              · exact absurd (upw_lt.1 e) h.irr
            have h2 : (b == c) = false := by simpa using fun e => hca e.symm
            simp [muC, this, h2]
          have h3 : leB zs c b = true := by simp [leB, hu]
          have h4 : leB zs b b = true := by simp [leB]
          rw [h1, h3, h4]; simp
        · have h1 : (leB zs c b && leB zs b a) = muC zs c a b := by
            have e : (b == a) = false := by simpa using hba
            unfold leB muC
            rw [e, Bool.false_or]
            by_cases hbc : b = c
            · subst hbc; simp [hu]
            · have e1 : (b == c) = false := by simpa using hbc
              have e2 : (c == b) = false := by simpa using fun e => hbc e.symm
              rw [e1, e2]; rfl
          rw [h1, if_neg hba]; omega
theorem du_le {zs : List Int} (h : Sets zs) (a b : Nat) : leB (du zs) b a = leB zs a b := by
  unfold leB
  rw [du_upw h, Bool.eq_iff_iff]
  simp only [Bool.or_eq_true, beq_iff_eq]
  exact ⟨fun q => q.imp Eq.symm id, fun q => q.imp Eq.symm id⟩
theorem mu_down {zs : List Int} (h : VoP zs) {a c : Nat} (ha : a < zs.length) : smTo (fun b => if leB zs c b && leB zs b a then muI zs b a else 0) zs.length = if c = a then 1 else 0 := by
  have e := mu_up (du_vo h) (a := c) (c := a) (by rw [du_len]; exact ha)
  rw [du_len] at e
  rw [smTo_congr (h := fun b => if leB (du zs) a b && leB (du zs) b c then muI (du zs) a b else 0) _ fun b _ => ?_, e]
  · by_cases hca : c = a
    · rw [if_pos hca, if_pos hca.symm]
    · rw [if_neg hca, if_neg fun e => hca e.symm]
  · skip
    rw [du_le h.sets, du_le h.sets, du_mu h, Bool.and_comm]
/-- The sum of the values of an item and all below it. -/
def sbI (zs vs : List Int) (a : Nat) : Int := smTo (fun b => if leB zs b a then vs[b]?.getD 0 else 0) zs.length
/-- What is undone at an item. -/
def usI (zs vs : List Int) (a : Nat) : Int := smTo (fun b => vs[b]?.getD 0 * muI zs b a) zs.length
def sumsL (zs vs : List Int) : List Int := (List.range zs.length).map (sbI zs vs)
def undoL (zs vs : List Int) : List Int := (List.range zs.length).map (usI zs vs)
theorem sumsL_get {zs vs : List Int} {b : Nat} (hb : b < zs.length) : (sumsL zs vs)[b]?.getD 0 = sbI zs vs b := by simp [sumsL, hb]
theorem undoL_get {zs vs : List Int} {b : Nat} (hb : b < zs.length) : (undoL zs vs)[b]?.getD 0 = usI zs vs b := by simp [undoL, hb]
theorem sumsL_len (zs vs : List Int) : (sumsL zs vs).length = zs.length := by simp [sumsL]
theorem undoL_len (zs vs : List Int) : (undoL zs vs).length = zs.length := by simp [undoL]
theorem list_at {zs vs : List Int} (hl : vs.length = zs.length) (g : Nat → Int) (hg : ∀ a, a < zs.length → g a = vs[a]?.getD 0) : (List.range zs.length).map g = vs := by
  apply List.ext_getElem
  · simp [hl]
  · intro i h1 h2
    simp only [List.getElem_map, List.getElem_range]
    rw [hg i (by omega)]
    simp [h2]
theorem undo_sums {zs vs : List Int} (h : VoP zs) (hl : vs.length = zs.length) : undoL zs (sumsL zs vs) = vs := by
  refine list_at hl _ fun a ha => ?_
  unfold usI
  rw [smTo_congr (h := fun b => smTo (fun c => vs[c]?.getD 0 * if leB zs c b && leB zs b a then muI zs b a else 0) zs.length) _ fun b hb => ?_]
  · rw [smTo_swap, smTo_congr (h := fun c => vs[c]?.getD 0 * if c = a then 1 else 0) _ fun c _ => ?_]
    · rw [smTo_one (c := a) ha fun j _ hj => by rw [if_neg hj]; simp, if_pos rfl]
      simp
    · skip
      rw [smTo_mul', mu_down h ha]
  · skip
    rw [sumsL_get hb]
    unfold sbI
    rw [← smTo_mul]
    refine smTo_congr _ fun c _ => ?_
    skip
    cases h1 : leB zs c b
    · simp
    · cases h2 : leB zs b a
      · rw [mu_le h2]; simp
      · simp
theorem sums_undo {zs vs : List Int} (h : VoP zs) (hl : vs.length = zs.length) : sumsL zs (undoL zs vs) = vs := by
  refine list_at hl _ fun a ha => ?_
  unfold sbI
  rw [smTo_congr (h := fun b => smTo (fun c => vs[c]?.getD 0 * if leB zs c b && leB zs b a then muI zs c b else 0) zs.length) _ fun b hb => ?_]
  · rw [smTo_swap, smTo_congr (h := fun c => vs[c]?.getD 0 * if c = a then 1 else 0) _ fun c hc => ?_]
    · rw [smTo_one (c := a) ha fun j _ hj => by rw [if_neg hj]; simp, if_pos rfl]
      simp
    · skip
      rw [smTo_mul', mu_up h hc]
  · skip
    rw [undoL_get hb]
    cases h2 : leB zs b a
    · simp only [Bool.and_false, Bool.false_eq_true, if_false]
      rw [smTo_nil fun _ _ => by simp]
    · simp only [Bool.and_true, if_true]
      unfold usI
      refine smTo_congr _ fun c _ => ?_
      skip
      cases h1 : leB zs c b
      · rw [mu_le h1]; simp
      · simp
end Go.Proofs.Ytcadmjpkgnbodaa

/- Marks: a set as six bools in an array; made, read, compared; what is below a set, and whether it is an ideal: the program's. -/
namespace Go.Proofs.Ytcadmjpkgnbodaa
open Go.RowKit Go.Shelf
attribute [local go_sem] Oper.semAt_some
attribute [local go_sem, local simp] wide_fn

/-- The six marks of a set. -/
def mkV (s : Int) : Array Value := ((List.range 6).map fun j : Nat => Value.bool (bitB s j)).toArray
theorem mkV_size (s : Int) : (mkV s).size = 6 := by simp [mkV]
theorem mkV_get (s : Int) {j : Nat} (hj : j < 6) : (mkV s)[j]? = some (.bool (bitB s j)) := by
  simp [mkV, hj]
theorem mkV_one (s : Int) : (mkV s).all (·.oneCell') = true := by
  refine Array.all_eq_true.2 fun i hi => ?_
  simp [mkV, Value.oneCell']
theorem mkV_set (s : Int) {k : Nat} (_hk : k < 6) : (mkV s).setIfInBounds k (.bool true) = mkV (orI s (powI k)) := by
  refine Array.ext (by simp [mkV_size]) fun j h1 h2 => ?_
  rw [Array.getElem_setIfInBounds (by simpa using h1)]
  simp only [mkV, List.getElem_toArray, List.getElem_map, List.getElem_range, bitB_or, bitB_pow]
  by_cases h : k = j
  · simp [h]
  · simp [h]
theorem mkV_none : mkV 0 = #[.bool false, .bool false, .bool false, .bool false, .bool false, .bool false] := by
  simp [mkV, bitB_zero, List.range_succ]

section
variable {P : Program} (w : World)
theorem part_mkV {e : TypeId} (he : P.underlying e = some .bool) (s : Int) {i : Nat} (hi : i < 6) : (part e (mkV s) (i * 1)).run P w = .ok (.bool (bitB s i)) w := by
  have h := mkV_get s hi
  have h6 := mkV_size s
  rw [Array.getElem?_eq_getElem (by omega)] at h
  simp only [Option.some.injEq] at h
  simp [part, isAgg, run_underlying he, h6, hi, h]
theorem eqItems_mkV {e : TypeId} (he : P.underlying e = some .bool) (d : Nat) (s t : Int) : ∀ l : List Nat, (∀ i ∈ l, i < 6) →
    (Op.eqItems (d + 1) e 1 (mkV s) (mkV t) l).run P w = .ok (l.all fun i : Nat => bitB s i == bitB t i) w
  | [], _ => by simp [Op.eqItems]
  | i :: l, h => by
    have ih := eqItems_mkV he d s t l (fun j hj => h j (by simp [hj]))
    have hi := h i (by simp)
    simp only [Op.eqItems, Sem.run_bind, part_mkV w he s hi, part_mkV w he t hi, Result.andThen_ok, run_equalIn_bool' w d e _ _ he]
    cases hb : (bitB s i == bitB t i)
    · simp [hb]
    · simp [hb, ih]
theorem run_eql_mkV {t e : TypeId} (hu : P.underlying t = some (.array 6 e)) (he : P.underlying e = some .bool) (hi : (P.info? e).isSome = true) (hc : P.cellsOf e = 1) (x y : Int) (hx0 : 0 ≤ x) (hx : x < 64) (hy0 : 0 ≤ y) (hy : y < 64) :
    (binOp .eql t (.agg (mkV x)) (.agg (mkV y))).run P w = .ok (.bool (x == y)) w := by
  obtain ⟨i, hi⟩ := Option.isSome_iff_exists.1 hi
  rw [run_eql_struct, run_equalIn_array w 9999 _ _ hu hi, hc, eqItems_mkV w he 9998 x y _ (fun i hi => by simpa using hi)]
  have key : ((List.range 6).all fun i : Nat => bitB x i == bitB y i) = (x == y) := by
    rw [Bool.eq_iff_iff, List.all_eq_true, beq_iff_eq]
    constructor
    · intro h
      refine bitB_ext hx0 hy0 fun j => ?_
      rcases Nat.lt_or_ge j 6 with hj | hj
      · simpa using h j (by simpa using hj)
      · have e1 : bitB x j = false := by
          cases e : bitB x j
          · rfl
          · have := bitB_lt (n := 6) hx e; omega
        have e2 : bitB y j = false := by
          cases e : bitB y j
          · rfl
          · have := bitB_lt (n := 6) hy e; omega
        rw [e1, e2]
    · rintro rfl; simp
  rw [key]
  rfl
end

theorem Upd.setRow {R : Nat → Prop} {a w : World} (h : Upd R a w) {g : Nat} (hp : a.heap.size ≤ g ∨ R g) (cs : Array Value) : Upd R a (w.setRow g cs) :=
  ⟨h.os, h.tape, h.output, by simpa using h.size, fun i hi hr => (setRow_other w g i cs (by
    rintro rfl
    rcases hp with hp | hp
    · omega
    · exact hr hp)).trans (h.block i hi hr)⟩

section
variable {F : Fence} {m : Nat} {P : Program} {w : World}
theorem wpListIn_load_row {ops : Array Oper} {rest : List Oper} {o : Oper} {a : Act} {Q : Exit → Act → World → Prop} (hgd : o.guard = none) (ty : TypeId) (x : Operand) (ho : o.op = .load ty x)
    (g : Nat) (hx : a.eval x = .pointer (some ⟨g, 0, none⟩)) (t : TypeId) (cs : Array Value) (fr : Nat × Nat) (d : TypeDesc) (hg : w.heap[g]? = some (.cells cs t fr))
    (hu : P.underlying ty = some d) (hd : (match d with | .struct _ | .array _ _ => true | _ => false) = true) (hi : (P.info? ty).map (·.size) = some cs.size)
    (h : wpListIn F m P ops Q rest (a.put o.dst (.agg cs)) w) : wpListIn F m P ops Q (o :: rest) a w := by
  refine wpListIn_plain hgd fun K hK => ?_
  unfold Oper.wpIn
  refine ⟨?_, ?_⟩
  · simp [Oper.about, ho]
  · rw [Oper.semAt_plain F _ _ (by rw [ho]; intro c hc'; cases hc')]
    simp only [execOp, ho, hx, Instr.loadAt, Instr.sureAddr, Sem.run_bind, Sem.run_pure, Result.andThen_ok, run_loadVar_row w g t ty cs fr d hg hu hd hi]
    exact hK _ _ h
theorem wpListIn_store_row {ops : Array Oper} {rest : List Oper} {o : Oper} {a : Act} {Q : Exit → Act → World → Prop} (hgd : o.guard = none) (ty : TypeId) (x y : Operand) (ho : o.op = .store ty x y)
    (g : Nat) (cells : Array Value) (hx : a.eval x = .pointer (some ⟨g, 0, none⟩)) (hy : a.eval y = .agg cells)
    (t : TypeId) (old : Array Value) (hg : w.heap[g]? = some (.cells old t (0, 0))) (hi : (P.info? ty).map (·.size) = some cells.size)
    (hold : old.size = cells.size) (h1 : cells.all (·.oneCell') = true)
    (h : wpListIn F m P ops Q rest (a.put o.dst undef) (w.setRow g cells)) : wpListIn F m P ops Q (o :: rest) a w := by
  refine wpListIn_plain hgd fun K hK => ?_
  unfold Oper.wpIn
  refine ⟨?_, ?_⟩
  · simp [Oper.about, ho]
  · rw [Oper.semAt_plain F _ _ (by rw [ho]; intro c hc'; cases hc')]
    simp only [execOp, ho, hx, hy, Instr.storeAt, Instr.sureAddr, Sem.run_bind, Sem.run_pure, Result.andThen_ok, run_storeVar_row w g t ty old cells hg hi hold h1]
    exact hK _ _ h
end
/-- In a region that draws its order: a whole variable's load, whose block reads the same in every world met. -/
theorem yieldsIf_load_row {P : Program} {ops : Array Oper} {S : World → Prop} {op : Oper} {a : Act} (hw : Region.wanted op (yielded ops a.tmps) = true) (ty : TypeId) (x : Operand) (ho : op.op = .load ty x)
    (g : Nat) (hx : a.eval x = .pointer (some ⟨g, 0, none⟩)) (t : TypeId) (cs : Array Value) (d : TypeDesc) (hS : ∀ w, S w → w.heap[g]? = some (.cells cs t (0, 0)))
    (hu : P.underlying ty = some d) (hd : (match d with | .struct _ | .array _ _ => true | _ => false) = true) (hi : (P.info? ty).map (·.size) = some cs.size) : YieldsIf P ops S op (.agg cs) a :=
  .inl ⟨hw, fun w hw' => by
    unfold execOp
    simp only [ho, hx, Instr.loadAt, Instr.sureAddr, Sem.run_bind, Sem.run_pure, Result.andThen_ok, run_loadVar_row w g t ty cs (0, 0) d (hS w hw') hu hd hi]⟩
end Go.Proofs.Ytcadmjpkgnbodaa

/- Marks and ideals: the program's. -/
namespace Go.Proofs.Ytcadmjpkgnbodaa
open Go.RowKit Go.Shelf
attribute [local go_sem] Oper.semAt_some
attribute [local go_sem, local simp] wide_fn

/-- What is marked when the items of a list are over. -/
def mkL (l : List Nat) : Int := l.foldl (fun (t : Int) (i : Nat) => orI t (powI i)) 0
theorem mkL_snoc (l : List Nat) (i : Nat) : mkL (l ++ [i]) = orI (mkL l) (powI i) := by simp [mkL]
theorem mkL_fin : ∀ k : Fin 64, mkL (itemsL (k.val : Int)) = (k.val : Int) := by decide +kernel
theorem mkL_all {s : Int} (h0 : 0 ≤ s) (h1 : s < 64) : mkL (itemsL s) = s := by
  obtain ⟨k, rfl⟩ := Int.eq_ofNat_of_zero_le h0
  exact mkL_fin ⟨k, by omega⟩

/-- Block b is just the marks of s. -/
def Mks (w : World) (b : Nat) (s : Int) : Prop := w.heap[b]? = some (.cells (mkV s) 128 (0, 0))
section
variable {w w' : World} {b : Nat} {s : Int} {R : Nat → Prop}
theorem Mks.lt (h : Mks w b s) : b < w.heap.size := (Array.getElem?_eq_some_iff.1 h).1
theorem Mks.upd (h : Mks w b s) (hu : Upd R w w') (hr : ¬ R b) : Mks w' b s := (hu.block b h.lt hr).trans h
theorem Mks.drewN (h : Mks w b s) (n : Nat) : Mks (w.drewN n) b s := h
theorem Mks.alloc (h : Mks w b s) (o : Obj) : Mks (w.alloc o) b s := (Below.heap_alloc w o b h.lt).trans h
theorem Mks.cell (h : Mks w b s) {k : Nat} (hk : k < 6) : w.cell? ⟨b, k, none⟩ = some (.bool (bitB s k)) := by
  rw [cell_of_row w b k _ _ (0, 0) h, mkV_get s hk]
theorem Mks.frozen (h : Mks w b s) (k : Nat) : w.frozen? ⟨b, k, none⟩ = false := by
  unfold Mks at h
  simp [World.frozen?, h]
theorem Mks.set (h : Mks w b s) {k : Nat} (hk : k < 6) : Mks (w.setCell ⟨b, k, none⟩ (.bool true)) b (orI s (powI k)) := by
  unfold Mks at h ⊢
  rw [← mkV_set s hk]
  simp [World.setCell, Array.getElem?_modify, h]
theorem Mks.new (w : World) (s : Int) : Mks (w.alloc (.cells (mkV s) 128)) w.heap.size s := heap_alloc_new w _
end

set_option maxRecDepth 100000 in
set_option maxHeartbeats 4000000 in
theorem marks_any (s : Int) (h0 : 0 ≤ s) (h1 : s < 64) (w : World) :
    Calls Try.prog 139 #[.int .i64 s] w fun e W' => e = .returned (.agg (mkV s)) ∧ Below w.heap.size w W' := by
  refine (callsIn_wide (n := 9)).1 ?_
  refine callsIn_of_wp_marks Try.func139 rfl trivial ?_ rfl
  simp only [Try.ntmps139, List.size_toArray, List.length_cons, List.length_nil, Nat.reduceAdd, Nat.reduceSub, Array.replicate_succ, Array.replicate_zero, List.push_toArray, List.append_toArray, List.nil_append, List.cons_append]
  gi_wp2_with (gi_at_call 98; refine (callsIn_wide.2 (each_any _ _)).mono ?_; rintro e w' ⟨rfl, rfl⟩)
  rw [← mkV_none]
  have bR := ((Mks.new w 0).alloc (.cells (mkV 0) 128)).alloc (.cells #[Value.int .i64 s] 46)
  have bM := (Mks.new (w.alloc (.cells (mkV 0) 128)) 0).alloc (.cells #[Value.int .i64 s] 46)
  have bE := Boxed.new ((w.alloc (.cells (mkV 0) 128)).alloc (.cells (mkV 0) 128)) 46 (.int .i64 s)
  have hu0 : Upd (fun _ => False) w (((w.alloc (.cells (mkV 0) 128)).alloc (.cells (mkV 0) 128)).alloc (.cells #[Value.int .i64 s] 46)) := (((Upd.refl _ w).alloc _).alloc _).alloc _
  have hz0 : (((w.alloc (.cells (mkV 0) 128)).alloc (.cells (mkV 0) 128)).alloc (.cells #[Value.int .i64 s] 46)).heap.size = w.heap.size + 3 := by simp
  simp only [World.size_alloc] at bM bE
  obtain ⟨W0, hW0⟩ : ∃ W0, (((w.alloc (.cells (mkV 0) 128)).alloc (.cells (mkV 0) 128)).alloc (.cells #[Value.int .i64 s] 46)) = W0 := ⟨_, rfl⟩
  rw [hW0] at bR bM bE hu0 hz0 ⊢
  clear hW0
  refine range_out (n := 9) (gf := 124) (lb := #[.pointer (some ⟨w.heap.size + 1 + 1, 0, none⟩)]) rfl (enters_of Try.func124 (by kernel_rfl) rfl) (encs := encI) (L := itemsL s)
    (fun k => k = w.heap.size + 1) (fun k e => by omega) (fun _ => rfl)
    (fun W1 l1 hu1 hl1 hl2 => each_iter s h0 (by omega) _ _ W1 (hu1.boxed bE (fun e => e)) (fun e => by omega))
    (fun pre D W => Mks W (w.heap.size + 1) (mkL pre) ∧ Upd (fun k => k = w.heap.size + 1) W0 W)
    (fun _ _ _ _ => False)
    (fun _ D X Y hs hu => ⟨hs.1.upd hu (fun e => by omega), hs.2.trans' hu (fun i hi e => by omega)⟩)
    (fun _ _ _ _ _ hs _ => hs)
    ⟨bM, Upd.refl _ _⟩ ?owes ?done ?stop
  case owes =>
    rintro l1 pre x D1 W hl1 hl2 hDl hD1 - hpre K hK
    gi_wp2
    refine hK _ _ (Upd.refl _ _) ?_
    rintro Wb hWb - ⟨bM1, hU⟩
    clear hK
    obtain ⟨hx6, hxb⟩ := mem_itemsTo.1 (hpre.subset (by simp : x ∈ pre ++ [x]))
    have hcx := bM1.cell hx6
    have hfx := bM1.frozen x
    have Hn := Lib.hid (mkL_snoc pre x)
    gi_wp2
    exact ⟨D1, ⟨by rw [Hn.out]; exact bM1.set hx6, hU.setCell (p := ⟨w.heap.size + 1, x, none⟩) (.inr rfl) _⟩, (Upd.refl _ _).setCell (p := ⟨w.heap.size + 1, x, none⟩) (.inr (.inl rfl)) _, fun k hk => .inl hk⟩
  case done =>
    rintro d D1 W hd ⟨bM1, hU⟩ hD1 hKd
    rw [mkL_all h0 h1] at bM1
    have bR1 := hU.block w.heap.size (by omega) (by omega)
    have hgR : W.heap[w.heap.size]? = some (.cells (mkV 0) 128 (0, 0)) := bR1.trans bR
    clear bR1
    gi_wp2_with (first
      | (refine wpListIn_load_row rfl _ _ rfl (w.heap.size + 1) rfl _ (mkV s) (0, 0) _ bM1 Try.underlying128 rfl (by rw [mkV_size]; kernel_rfl) ?_)
      | (refine wpListIn_store_row rfl _ _ _ rfl w.heap.size (mkV s) rfl rfl _ (mkV 0) hgR (by rw [mkV_size]; kernel_rfl) (by rw [mkV_size, mkV_size]) (mkV_one s) ?_))
    have hKd2 := (setRow_other W w.heap.size d (mkV s) (by omega)).trans hKd
    have bS : Mks (W.setRow w.heap.size (mkV s)) w.heap.size s := setRow_heap _ _ _ _ _ _ hgR
    have hU2 : Upd (fun k => w.heap.size ≤ k) W0 (W.setRow w.heap.size (mkV s)) := (hU.mono (fun k _ e => by omega)).setRow (.inr (Nat.le_refl _)) _
    obtain ⟨W2, hW2⟩ : ∃ W2, W.setRow w.heap.size (mkV s) = W2 := ⟨_, rfl⟩
    rw [hW2] at hKd2 bS hU2 ⊢
    clear hW2
    refine leaves_marks [d] W2 ⟨by simp, fun b hb => ?_⟩ (fun W' hu' => ?_)
    · rw [List.mem_singleton.1 hb]
      exact hKd2
    · refine ⟨.agg (mkV s), results_cell_row rfl _ _ w.heap.size _ (mkV s) (0, 0) _ rfl (bS.upd hu' (by simp; omega)) Try.underlying128 rfl (by rw [mkV_size]; kernel_rfl), rfl,
        (((hu0.mono fun _ _ e => e.elim).trans' hU2 (fun i hi e => by omega)).trans' hu' (fun i hi e => by simp at e; omega)).toBelow (R := fun _ => False) (fun _ e => e.elim) (Nat.le_refl _)⟩
  case stop =>
    rintro d D1 co pre W hd hpre h
    exact h.elim

theorem idx_mkV (s : Int) {k : Nat} (hk : k < 6) (w : World) : (Instr.index 128 (.agg (mkV s)) (.int .i64 k)).run Try.prog w = .ok (.bool (bitB s k)) w := by
  have i0 : ∀ w : World, (Instr.index 128 (.agg (mkV s)) (.int .i64 ((0 : Nat) : Int))).run Try.prog w = .ok (.bool (bitB s ((0 : Nat) : Int))) w := fun _ => by kernel_rfl
  have i1 : ∀ w : World, (Instr.index 128 (.agg (mkV s)) (.int .i64 ((1 : Nat) : Int))).run Try.prog w = .ok (.bool (bitB s ((1 : Nat) : Int))) w := fun _ => by kernel_rfl
  have i2 : ∀ w : World, (Instr.index 128 (.agg (mkV s)) (.int .i64 ((2 : Nat) : Int))).run Try.prog w = .ok (.bool (bitB s ((2 : Nat) : Int))) w := fun _ => by kernel_rfl
  have i3 : ∀ w : World, (Instr.index 128 (.agg (mkV s)) (.int .i64 ((3 : Nat) : Int))).run Try.prog w = .ok (.bool (bitB s ((3 : Nat) : Int))) w := fun _ => by kernel_rfl
  have i4 : ∀ w : World, (Instr.index 128 (.agg (mkV s)) (.int .i64 ((4 : Nat) : Int))).run Try.prog w = .ok (.bool (bitB s ((4 : Nat) : Int))) w := fun _ => by kernel_rfl
  have i5 : ∀ w : World, (Instr.index 128 (.agg (mkV s)) (.int .i64 ((5 : Nat) : Int))).run Try.prog w = .ok (.bool (bitB s ((5 : Nat) : Int))) w := fun _ => by kernel_rfl
  have h : k = 0 ∨ k = 1 ∨ k = 2 ∨ k = 3 ∨ k = 4 ∨ k = 5 := by omega
  rcases h with rfl | rfl | rfl | rfl | rfl | rfl
  · exact i0 w
  · exact i1 w
  · exact i2 w
  · exact i3 w
  · exact i4 w
  · exact i5 w
/-- The items less than k of a set. -/
def upTo (s : Int) (k : Nat) : Int := mkL (itemsTo s k)
theorem upTo_yes {s : Int} {k : Nat} (h : bitB s k = true) : upTo s (k + 1) = orI (upTo s k) (powI k) := by unfold upTo; rw [itemsTo_yes h, mkL_snoc]
theorem upTo_no {s : Int} {k : Nat} (h : bitB s k = false) : upTo s (k + 1) = upTo s k := by unfold upTo; rw [itemsTo_no h]
theorem upTo_bd (s : Int) : ∀ k : Nat, 0 ≤ upTo s k ∧ upTo s k < powI k
  | 0 => by simp [upTo, itemsTo, mkL, powI]
  | k + 1 => by
    have ih := upTo_bd s k
    have hp : powI (k : Int) < powI ((k + 1 : Nat) : Int) := powI_lt (by omega)
    cases h : bitB s k
    · rw [upTo_no h]; omega
    · rw [upTo_yes h]; exact orI_bd ih.1 (by omega) (Int.le_of_lt (powI_pos _)) hp

set_option maxRecDepth 100000 in
set_option maxHeartbeats 4000000 in
theorem markBelow_any (A : Option Addr) (n c : Nat) (zs : List Int) (s : Int) (hvo : VoP zs) (w : World) (hA : Ints w w.heap.size A n zs) (h0 : 0 ≤ s) (h1 : s < powI n) :
    Calls Try.prog 140 #[.slice A n c, .agg (mkV s)] w fun e W' => e = .returned (.agg (mkV (belI zs s))) ∧ Below w.heap.size w W' := by
  refine (callsIn_wide (n := 9)).1 ?_
  refine callsIn_of_wp_marks Try.func140 rfl trivial ?_ rfl
  simp only [Try.ntmps140, List.size_toArray, List.length_cons, List.length_nil, Nat.reduceAdd, Nat.reduceSub, Array.replicate_succ, Array.replicate_zero, List.push_toArray, List.append_toArray, List.nil_append, List.cons_append]
  gi_wp2_with (gi_at_call 91; refine (callsIn_wide.2 (pairs_any _ _ _ _)).mono ?_; rintro e w' ⟨rfl, rfl⟩)
  rw [← mkV_none]
  have bM := ((Mks.new w s).alloc (.cells (mkV 0) 128)).alloc (.cells #[Value.slice A n c] 38)
  have bR := (Mks.new (w.alloc (.cells (mkV s) 128)) 0).alloc (.cells #[Value.slice A n c] 38)
  have bP := Boxed.new ((w.alloc (.cells (mkV s) 128)).alloc (.cells (mkV 0) 128)) 38 (.slice A n c)
  have hu0 : Upd (fun _ => False) w (((w.alloc (.cells (mkV s) 128)).alloc (.cells (mkV 0) 128)).alloc (.cells #[Value.slice A n c] 38)) := (((Upd.refl _ w).alloc _).alloc _).alloc _
  have hz0 : (((w.alloc (.cells (mkV s) 128)).alloc (.cells (mkV 0) 128)).alloc (.cells #[Value.slice A n c] 38)).heap.size = w.heap.size + 3 := by simp
  simp only [World.size_alloc] at bR bP
  obtain ⟨W0, hW0⟩ : ∃ W0, (((w.alloc (.cells (mkV s) 128)).alloc (.cells (mkV 0) 128)).alloc (.cells #[Value.slice A n c] 38)) = W0 := ⟨_, rfl⟩
  rw [hW0] at bR bM bP hu0 hz0 ⊢
  clear hW0
  have hlen := Lib.hid hA.len
  have hn6 : n ≤ 6 := by have := hvo.1; rw [hlen.out] at this; exact this
  have hpn : powI n ≤ 64 := powI_le6 (by omega)
  have hA0 : Ints W0 w.heap.size A n zs := hA.below (hu0.toBelow (fun _ e => e.elim) (Nat.le_refl _))
  refine range_out (n := 9) (gf := 121) (lb := #[.pointer (some ⟨w.heap.size + 1 + 1, 0, none⟩)]) rfl (enters_of Try.func121 (by kernel_rfl) rfl) (encs := encP) (L := pairsL zs)
    (fun k => k = w.heap.size) (fun k e => by omega) (fun _ => rfl)
    (fun W1 l1 hu1 hl1 hl2 => pairs_iter_at hvo.sets bP (fun k e => by omega) (by omega) hA0 (by omega) (fun k e => by omega) hu1 hl1 hl2)
    (fun pre D W => Mks W w.heap.size (mkP s pre) ∧ Upd (fun k => k = w.heap.size) W0 W)
    (fun _ _ _ _ => False)
    (fun _ D X Y hs hu => ⟨hs.1.upd hu (fun e => by omega), hs.2.trans' hu (fun i hi e => by omega)⟩)
    (fun _ _ _ _ _ hs _ => hs)
    ⟨bM, Upd.refl _ _⟩ ?owes ?done ?stop
  case owes =>
    rintro l1 pre ⟨lo, hi⟩ D1 W hl1 hl2 hDl hD1 - hpre K hK
    gi_wp2
    refine hK _ _ (Upd.refl _ _) ?_
    rintro Wb hWb - ⟨bM1, hU⟩
    clear hK
    obtain ⟨hlo, hhi, hbit⟩ := hvo.sets.pair (a := lo) (b := hi) (hpre.subset (by simp))
    rw [hlen.out] at hlo hhi
    have hch := bM1.cell (k := hi) (by omega)
    have hcl := bM1.cell (k := lo) (by omega)
    have hfl := bM1.frozen lo
    cases hb : bitB (mkP s pre) hi
    · have Hn := Lib.hid (mkP_no (a := lo) hb)
      gi_wp2
      exact ⟨D1, ⟨by rw [Hn.out]; exact bM1, hU⟩, Upd.refl _ _, fun k hk => .inl hk⟩
    · have Hn := Lib.hid (mkP_yes (a := lo) hb)
      gi_wp2
      exact ⟨D1, ⟨by rw [Hn.out]; exact bM1.set (by omega), hU.setCell (p := ⟨w.heap.size, lo, none⟩) (.inr rfl) _⟩, (Upd.refl _ _).setCell (p := ⟨w.heap.size, lo, none⟩) (.inr (.inl rfl)) _, fun k hk => .inl hk⟩
  case done =>
    rintro d D1 W hd ⟨bM1, hU⟩ hD1 hKd
    rw [mkP_all hvo h0 (by rw [hlen.out]; exact h1)] at bM1
    have bR1 := hU.block (w.heap.size + 1) (by omega) (by omega)
    have hgR : W.heap[w.heap.size + 1]? = some (.cells (mkV 0) 128 (0, 0)) := bR1.trans bR
    clear bR1
    gi_wp2_with (first
      | (refine wpListIn_load_row rfl _ _ rfl w.heap.size rfl _ (mkV (belI zs s)) (0, 0) _ bM1 Try.underlying128 rfl (by rw [mkV_size]; kernel_rfl) ?_)
      | (refine wpListIn_store_row rfl _ _ _ rfl (w.heap.size + 1) (mkV (belI zs s)) rfl rfl _ (mkV 0) hgR (by rw [mkV_size]; kernel_rfl) (by rw [mkV_size, mkV_size]) (mkV_one _) ?_))
    have hKd2 := (setRow_other W (w.heap.size + 1) d (mkV (belI zs s)) (by omega)).trans hKd
    have bS : Mks (W.setRow (w.heap.size + 1) (mkV (belI zs s))) (w.heap.size + 1) (belI zs s) := setRow_heap _ _ _ _ _ _ hgR
    have hU2 : Upd (fun k => w.heap.size ≤ k) W0 (W.setRow (w.heap.size + 1) (mkV (belI zs s))) := (hU.mono (fun k _ e => by omega)).setRow (.inr (by omega)) _
    obtain ⟨W2, hW2⟩ : ∃ W2, W.setRow (w.heap.size + 1) (mkV (belI zs s)) = W2 := ⟨_, rfl⟩
    rw [hW2] at hKd2 bS hU2 ⊢
    clear hW2
    refine leaves_marks [d] W2 ⟨by simp, fun b hb => ?_⟩ (fun W' hu' => ?_)
    · rw [List.mem_singleton.1 hb]
      exact hKd2
    · refine ⟨.agg (mkV (belI zs s)), results_cell_row rfl _ _ (w.heap.size + 1) _ (mkV (belI zs s)) (0, 0) _ rfl (bS.upd hu' (by simp; omega)) Try.underlying128 rfl (by rw [mkV_size]; kernel_rfl), rfl,
        (((hu0.mono fun _ _ e => e.elim).trans' hU2 (fun i hi e => by omega)).trans' hu' (fun i hi e => by simp at e; omega)).toBelow (R := fun _ => False) (fun _ e => e.elim) (Nat.le_refl _)⟩
  case stop =>
    rintro d D1 co pre W hd hpre h
    exact h.elim

set_option maxHeartbeats 1000000 in
theorem oisIdeal_any (A : Option Addr) (n c : Nat) (zs : List Int) (s : Int) (hvo : VoP zs) (w : World) (hA : Ints w w.heap.size A n zs) (h0 : 0 ≤ s) (h1 : s < powI n) :
    Calls Try.prog 125 #[.slice A n c, .int .i64 s] w fun e W' => e = .returned (.bool (idB zs s)) ∧ Below w.heap.size w W' := by
  have hlen := Lib.hid hA.len
  have hn6 : n ≤ 6 := by have := hvo.1; rw [hlen.out] at this; exact this
  have hpn : powI n ≤ 64 := powI_le6 (by omega)
  have hbd := belI_bd hvo.sets h0 (by rw [hlen.out]; exact h1)
  rw [hlen.out] at hbd
  go_enter Try.func125, Try.ntmps125
  go_wp2_with fail
  refine (marks_any s h0 (by omega) _).mono ?_
  rintro e w1 ⟨rfl, hB1⟩
  have z1 := hB1.size
  have hw0 : (w1.alloc (.cells (mkV 0) 128)).heap[w1.heap.size]? = some (.cells (mkV 0) 128 (0, 0)) := heap_alloc_new w1 _
  rw [mkV_none] at hw0
  go_wp2_with (refine wpList_store_row rfl _ _ _ rfl w1.heap.size (mkV s) rfl rfl _ _ hw0 (by rw [mkV_size]; kernel_rfl) (by rw [mkV_size]; rfl) (mkV_one s) ?_)
  rw [← mkV_none] at hw0 ⊢
  have hs0 : ((w1.alloc (.cells (mkV 0) 128)).setRow w1.heap.size (mkV s)).heap[w1.heap.size]? = some (.cells (mkV s) 128 (0, 0)) := setRow_heap _ _ _ _ _ _ hw0
  have hU1 : Upd (fun _ => False) w1 ((w1.alloc (.cells (mkV 0) 128)).setRow w1.heap.size (mkV s)) := ((Upd.refl _ w1).alloc _).setRow (.inl (Nat.le_refl _)) _
  obtain ⟨W2, hW2⟩ : ∃ W2, ((w1.alloc (.cells (mkV 0) 128)).setRow w1.heap.size (mkV s)) = W2 := ⟨_, rfl⟩
  rw [hW2] at hs0 hU1 ⊢
  clear hW2 hw0
  have hB2 : Below w.heap.size w W2 := hB1.trans (hU1.toBelow (fun _ e => e.elim) z1)
  have zU := hU1.size
  have zl : w1.heap.size < W2.heap.size := (Array.getElem?_eq_some_iff.1 hs0).1
  clear hU1
  have hI2 : Ints W2.drew W2.drew.heap.size A n zs := hA.to hB2 (Nat.le_refl _) (by show _ ≤ W2.heap.size; omega)
  have hB3 : Below w.heap.size w W2.drew := below_drewN hB2 1
  have zl' : w1.heap.size < W2.drew.heap.size := zl
  have hs1 : W2.drew.heap[w1.heap.size]? = some (.cells (mkV s) 128 (0, 0)) := hs0
  refine wp_region_held_drew (S := fun w' => w'.heap[w1.heap.size]? = some (.cells (mkV s) 128 (0, 0))) (by kernel_rfl) hs1 (fun hHeld => ?_)
  refine wpAnyH_take (i := 0) (oi := ?oia0) (v := ?va0) ?hia0 (by kernel_rfl) (by kernel_rfl) (by kernel_rfl) ?hqa0 ?hya0 (by assumption) ?resta0
  case hia0 => (simp only [List.getElem?_toArray, List.getElem?_cons_zero]; first | done | rfl)
  case hqa0 => exact fun _ _ _ h => h
  case hya0 => (refine Or.inl ⟨by rfl, ?_⟩; intro wz hSw; (try dsimp only at hSw); go_simp; first | done | with_reducible rfl)
  try simp only [Act.put, List.setIfInBounds_toArray, List.set_cons_zero, List.set_cons_succ]
  refine wpAnyH_take (i := 1) (oi := ?oia1) (v := .agg (mkV s)) ?hia1 (by kernel_rfl) (by kernel_rfl) (by kernel_rfl) ?hqa1 ?hya1 (by assumption) ?resta1
  case hia1 => (simp only [List.getElem?_toArray, List.getElem?_cons_succ, List.getElem?_cons_zero]; first | done | rfl)
  case hqa1 => exact fun _ _ _ h => h
  case hya1 => exact yieldsIf_load_row (by rfl) _ _ rfl _ rfl _ _ _ (fun _ h => h) Try.underlying128 rfl (by rw [mkV_size]; kernel_rfl)
  try simp only [Act.put, List.setIfInBounds_toArray, List.set_cons_zero, List.set_cons_succ]
  refine wpAnyH_take (i := 3) (oi := ?oia3) (v := .agg (mkV s)) ?hia3 (by kernel_rfl) (by kernel_rfl) (by kernel_rfl) ?hqa3 ?hya3 (by assumption) ?resta3
  case hia3 => (simp only [List.getElem?_toArray, List.getElem?_cons_succ, List.getElem?_cons_zero]; first | done | rfl)
  case hqa3 => exact fun _ _ _ h => h
  case hya3 => exact yieldsIf_load_row (by rfl) _ _ rfl _ rfl _ _ _ (fun _ h => h) Try.underlying128 rfl (by rw [mkV_size]; kernel_rfl)
  try simp only [Act.put, List.setIfInBounds_toArray, List.set_cons_zero, List.set_cons_succ]
  refine wpAnyH_ready (rs := [2]) (by kernel_rfl) (by simp) ?_
  refine AllReadyH.cons rfl (fun K' hK => ?_) AllReadyH.nil
  go_simp
  refine (markBelow_any A n c zs s hvo _ hI2 h0 h1).mono ?_
  rintro e w4 ⟨rfl, hB4⟩
  have hs4 := (hB4.block w1.heap.size zl').trans hs1
  have C4 := hB3.trans (hB4.mono hB3.size)
  refine hK.out _ _ hs4 (fun hNew => ?_)
  clear hK K' hHeld
  have hHeld := hNew
  clear hNew
  try simp only [Act.put, List.setIfInBounds_toArray, List.set_cons_zero, List.set_cons_succ]
  have hql : ∀ w', (binOp .eql 128 (.agg (mkV (belI zs s))) (.agg (mkV s))).run Try.prog w' = .ok (.bool (idB zs s)) w' := fun w' => run_eql_mkV w' Try.underlying128 Try.underlying4 (by kernel_rfl) (by kernel_rfl) _ _ hbd.1 (by omega) h0 (by omega)
  refine wpAnyH_take (i := 4) (oi := ?oia4) (v := ?va4) ?hia4 (by kernel_rfl) (by kernel_rfl) (by kernel_rfl) ?hqa4 ?hya4 (by assumption) ?resta4
  case hia4 => (simp only [List.getElem?_toArray, List.getElem?_cons_succ, List.getElem?_cons_zero]; first | done | rfl)
  case hqa4 => exact fun _ _ _ h => h
  case hya4 => (refine Or.inl ⟨by rfl, ?_⟩; intro wz hSw; (try dsimp only at hSw); go_simp; first | done | with_reducible rfl)
  try simp only [Act.put, List.setIfInBounds_toArray, List.set_cons_zero, List.set_cons_succ]
  refine wpAnyH_take (i := 5) (oi := ?oia5) (v := ?va5) ?hia5 (by kernel_rfl) (by kernel_rfl) (by kernel_rfl) ?hqa5 ?hya5 (by assumption) ?resta5
  case hia5 => (simp only [List.getElem?_toArray, List.getElem?_cons_succ, List.getElem?_cons_zero]; first | done | rfl)
  case hqa5 => exact fun _ _ _ h => h
  case hya5 => (refine Or.inl ⟨by rfl, ?_⟩; intro wz hSw; (try dsimp only at hSw); go_simp; first | done | with_reducible rfl)
  try simp only [Act.put, List.setIfInBounds_toArray, List.set_cons_zero, List.set_cons_succ]
  refine wpAnyH_done (by kernel_rfl) ?_ _
  go_wp2_with fail
  go_ret
  exact ⟨rfl, C4⟩
end Go.Proofs.Ytcadmjpkgnbodaa

/- Between two items: the program's. -/
namespace Go.Proofs.Ytcadmjpkgnbodaa
open Go.RowKit Go.Shelf
attribute [local go_sem] Oper.semAt_some
attribute [local go_sem, local simp] wide_fn

/-- The items at or above the one that are at or below the other. -/
def btw (zs : List Int) (a b : Nat) : Int := andI (atUp zs a) (belI zs (orI 0 (powI b)))
theorem one_bd {n b : Nat} (hb : b < n) : 0 ≤ orI 0 (powI (b : Int)) ∧ orI 0 (powI (b : Int)) < powI n := by
  refine orI_bd (by omega) (powI_pos _) (Int.le_of_lt (powI_pos _)) (powI_lt hb)
theorem one_bit (b j : Nat) : bitB (orI 0 (powI (b : Int))) j = decide (b = j) := by rw [bitB_or, bitB_zero, bitB_pow]; rfl
theorem btw_bit {zs : List Int} (h : VoP zs) {a b : Nat} (hb : b < zs.length) (j : Nat) : bitB (btw zs a b) j = (leB zs a j && leB zs j b) := by
  unfold btw
  rw [bitB_and, atUp_bit, Bool.eq_iff_iff, Bool.and_eq_true, Bool.and_eq_true, belI_bit h.sets (one_bd hb).2, one_bit]
  unfold leB upw
  simp only [Bool.or_eq_true, decide_eq_true_eq, beq_iff_eq]
  constructor
  · rintro ⟨h1, h2⟩
    refine ⟨h1.symm, h2.imp Eq.symm ?_⟩
    rintro ⟨c, hc, h3⟩
    rw [one_bit, decide_eq_true_iff] at hc
    subst hc
    exact h3
  · rintro ⟨h1, h2⟩
    exact ⟨h1.symm, h2.imp Eq.symm fun h3 => ⟨b, by rw [one_bit]; simp, h3⟩⟩
theorem btw_bd {zs : List Int} (h : VoP zs) {a b : Nat} (ha : a < zs.length) : 0 ≤ btw zs a b ∧ btw zs a b < powI zs.length := by
  have h1 := andI_bd (atUp zs a) (belI zs (orI 0 (powI b)))
  have h2 := atUp_bd h.sets ha
  unfold btw
  omega

end Go.Proofs.Ytcadmjpkgnbodaa

/- Sums over the chains with both ends: they are the number of two items. No program. -/
namespace Go.Proofs.Ytcadmjpkgnbodaa

/-- A chain from the one item to the other, with both. -/
def clB (zs : List Int) (a b : Nat) (s : Nat) : Bool := (lessI (twoS a b) (s : Int) == 0 && lessI (s : Int) (btw zs a b) == 0) && chB zs (s : Int)
def clS (zs : List Int) (a b s : Nat) : Int := if clB zs a b s then par s else 0
theorem lsum_filter (g : Nat → Int) (p : Nat → Bool) : ∀ l : List Nat, lsum g (l.filter p) = lsum (fun s => if p s then g s else 0) l
  | [] => rfl
  | x :: l => by
    have ih := lsum_filter g p l
    rw [List.filter_cons, lsum_cons]
    cases p x <;> simp [ih, lsum_cons]
theorem clB_iff {zs : List Int} (h : VoP zs) {a b s : Nat} (hb : b < zs.length) : clB zs a b s = true ↔ (s.testBit a = true ∧ s.testBit b = true) ∧ (∀ x : Nat, s.testBit x = true → leB zs a x = true ∧ leB zs x b = true) ∧ chB zs (s : Int) = true := by
  unfold clB
  rw [Bool.and_eq_true, Bool.and_eq_true, beq_iff_eq, beq_iff_eq, lessI_none, lessI_none]
  simp only [bit_cast, twoS_bit, btw_bit h hb, Bool.or_eq_true, decide_eq_true_eq, Bool.and_eq_true]
  constructor
  · rintro ⟨⟨h1, h2⟩, h3⟩
    exact ⟨⟨h1 a (.inl rfl), h1 b (.inr rfl)⟩, h2, h3⟩
  · rintro ⟨⟨h1, h2⟩, h3, h4⟩
    exact ⟨⟨fun j hj => hj.elim (fun e => e ▸ h1) (fun e => e ▸ h2), h3⟩, h4⟩
theorem one_bits {a x : Nat} : (2 ^ a : Nat).testBit x = true ↔ a = x := by rw [Nat.testBit_two_pow]; simp
theorem par_one : ∀ a : Fin 6, par (2 ^ a.val) = 1 := by decide +kernel
theorem cl_self' {zs : List Int} (h : VoP zs) {a : Nat} (ha : a < zs.length) : smTo (clS zs a a) (2 ^ zs.length) = 1 := by
  have hn := h.1
  have h64 : (2 : Nat) ^ zs.length ≤ 64 := Nat.pow_le_pow_right (n := 2) (by decide) hn
  have hlt : (2 : Nat) ^ a < 2 ^ zs.length := Nat.pow_lt_pow_right (by decide) ha
  rw [smTo_one (c := 2 ^ a) hlt fun s hs hne => ?_]
  · have : clB zs a a (2 ^ a) = true := (clB_iff h ha).2 ⟨⟨one_bits.2 rfl, one_bits.2 rfl⟩, fun x hx => by
      rw [one_bits] at hx
      subst hx
      simp [leB], (chB_iff' (by omega)).2 fun x y hx hy hxy => by
      rw [one_bits] at hx hy
      omega⟩
    unfold clS
    rw [this, if_pos rfl]
    exact par_one ⟨a, by omega⟩
  · unfold clS
    cases hc : clB zs a a s
    · rfl
    · obtain ⟨⟨h1, -⟩, h2, -⟩ := (clB_iff h ha).1 hc
      exfalso
      refine hne (Nat.eq_of_testBit_eq fun j => ?_)
      rw [Bool.eq_iff_iff, one_bits]
      constructor
      · intro hj
        obtain ⟨h3, h4⟩ := h2 j hj
        simp only [leB, Bool.or_eq_true, beq_iff_eq, upw_lt] at h3 h4
        rcases h3 with h3 | h3
        · exact h3
        · rcases h4 with h4 | h4
          · exact h4.symm
          · exact absurd (h.trans h3 h4) h.irr
      · rintro rfl; exact h1
theorem cl_none' {zs : List Int} (h : VoP zs) {a b : Nat} (hb : b < zs.length) (hl : leB zs a b = false) : smTo (clS zs a b) (2 ^ zs.length) = 0 := smTo_nil fun s _ => by
  unfold clS
  cases hc : clB zs a b s
  · rfl
  · obtain ⟨⟨h1, h1'⟩, h2, -⟩ := (clB_iff h hb).1 hc
    have := (h2 a h1).2
    rw [hl] at this; cases this
theorem cl_lt {zs : List Int} (h : VoP zs) {a b : Nat} (hl : lt zs a b) : smTo (clS zs a b) (2 ^ zs.length) = chI zs a b := by
  have hn := h.1
  have ha : a < zs.length := hl.1
  have hb := h.lt_n hl
  have hab : a ≠ b := fun e => h.irr (e ▸ hl)
  have h64 : (2 : Nat) ^ zs.length ≤ 64 := Nat.pow_le_pow_right (n := 2) (by decide) hn
  have hno : ∀ s, s.testBit a = false ∨ s.testBit b = false → clS zs a b s = 0 := fun s hs => by
    unfold clS
    cases hc : clB zs a b s
    · rfl
    · obtain ⟨⟨h1, h2⟩, -⟩ := (clB_iff h hb).1 hc
      rcases hs with e | e
      · rw [h1] at e; cases e
      · rw [h2] at e; cases e
  rw [smTo_half _ hn ha, smTo_half _ hn hb, chI]
  refine smTo_congr _ fun s hs => ?_
  have hs' : s < 64 := by omega
  have hob := or_lt hs hb
  have hoa := or_lt hob ha
  cases hsb : s.testBit b
  · cases hsa : s.testBit a
    · have e1 : (s ||| 2 ^ b).testBit a = false := by rw [or_bit, hsa]; simpa using fun e => hab e.symm
      have e2 : clS zs a b s = 0 := hno s (.inl hsa)
      have e3 : clS zs a b (s ||| 2 ^ a) = 0 := hno _ (.inr (by rw [or_bit, hsb]; simpa using hab))
      have e4 : clS zs a b (s ||| 2 ^ b) = 0 := hno _ (.inl e1)
      have e5 : clB zs a b ((s ||| 2 ^ b) ||| 2 ^ a) = (opB zs s a b && chB zs (s : Int)) := by
        have hbit : ∀ x, ((s ||| 2 ^ b) ||| 2 ^ a).testBit x = true ↔ s.testBit x = true ∨ x = b ∨ x = a := fun x => by
          rw [or_bit, or_bit]
          simp only [Bool.or_eq_true, decide_eq_true_eq]
          constructor
          · rintro ((h1 | h1) | h1)
            · exact .inl h1
            · exact .inr (.inl h1.symm)
            · exact .inr (.inr h1.symm)
          · rintro (h1 | h1 | h1)
            · exact .inl (.inl h1)
            · exact .inl (.inr h1.symm)
            · exact .inr h1.symm
        have hul := upw_lt.2 hl
        rw [Bool.eq_iff_iff, clB_iff h hb, Bool.and_eq_true, opB_iff hs', chB_iff' (by omega), chB_iff' hs']
        constructor
        · rintro ⟨-, h2, h3⟩
          refine ⟨fun x hx => ?_, fun x y hx hy hxy => h3 x y ((hbit x).2 (.inl hx)) ((hbit y).2 (.inl hy)) hxy⟩
          obtain ⟨h4, h5⟩ := h2 x ((hbit x).2 (.inl hx))
          simp only [leB, Bool.or_eq_true, beq_iff_eq, upw_lt] at h4 h5
          have xa : a ≠ x := fun e => by subst e; rw [hx] at hsa; cases hsa
          have xb : x ≠ b := fun e => by subst e; rw [hx] at hsb; cases hsb
          exact ⟨h4.resolve_left xa, h5.resolve_left xb⟩
        · rintro ⟨h2, h3⟩
          refine ⟨⟨(hbit a).2 (.inr (.inr rfl)), (hbit b).2 (.inr (.inl rfl))⟩, fun x hx => ?_, fun x y hx hy hxy => ?_⟩
          · simp only [leB, Bool.or_eq_true, beq_iff_eq, upw_lt]
            rcases (hbit x).1 hx with h4 | rfl | rfl
            · exact ⟨.inr (h2 x h4).1, .inr (h2 x h4).2⟩
            · exact ⟨.inr hl, .inl rfl⟩
            · exact ⟨.inl rfl, .inr hl⟩
          · rcases (hbit x).1 hx with h4 | rfl | rfl
            · rcases (hbit y).1 hy with h5 | rfl | rfl
              · exact h3 x y h4 h5 hxy
              · exact .inl (h2 x h4).2
              · exact .inr (h2 x h4).1
            · rcases (hbit y).1 hy with h5 | rfl | rfl
              · exact .inr (h2 y h5).2
              · exact absurd rfl hxy
              · exact .inr hl
            · rcases (hbit y).1 hy with h5 | rfl | rfl
              · exact .inl (h2 y h5).1
              · exact .inl hl
              · exact absurd rfl hxy
      have e6 : par ((s ||| 2 ^ b) ||| 2 ^ a) = par s := by rw [par_more (by omega) (by omega) e1, par_more hs' (by omega) hsb, Int.neg_neg]
      have e7 : clS zs a b ((s ||| 2 ^ b) ||| 2 ^ a) = chS zs a b s := by unfold clS chS; rw [e5, e6]
      simp only [e1, e2, e3, e4, e7, Bool.false_eq_true, if_false]
      omega
    · have e1 : (s ||| 2 ^ b).testBit a = true := by rw [or_bit, hsa]; rfl
      have : opB zs s a b = false := by
        cases e : opB zs s a b
        · rfl
        · exact absurd ((opB_iff hs').1 e a hsa).1 h.irr
      simp only [e1, Bool.false_eq_true, if_false, if_true]
      unfold chS
      rw [this]; rfl
  · have : opB zs s a b = false := by
      cases e : opB zs s a b
      · rfl
      · exact absurd ((opB_iff hs').1 e b hsb).2 h.irr
    simp only [if_true]
    unfold chS
    rw [this]; rfl
/-- The chains with both ends: their sum. -/
def clL (zs : List Int) (a b : Nat) : List Nat := (List.range (2 ^ zs.length)).filter (clB zs a b)
theorem clL_sum {zs : List Int} (h : VoP zs) {a b : Nat} (ha : a < zs.length) (hb : b < zs.length) : lsum par (clL zs a b) = muI zs a b := by
  unfold clL
  rw [lsum_filter, lsum_range, mu_is h]
  show smTo (clS zs a b) _ = _
  by_cases hab : a = b
  · subst hab
    rw [if_pos rfl, cl_self' h ha]
  · rw [if_neg hab]
    cases hu : upw zs a b
    · rw [cl_none' h hb (by simp [leB, hab, hu])]; rfl
    · rw [cl_lt h (upw_lt.1 hu)]; rfl
end Go.Proofs.Ytcadmjpkgnbodaa

/- sumOver: the sum over all that a function yields, of what another function tells (over whole numbers). -/
namespace Go.Proofs.Ytcadmjpkgnbodaa
open Go.RowKit Go.Shelf
attribute [local go_sem] Oper.semAt_some
attribute [local go_sem, local simp] wide_fn

theorem lsum_snoc (g : Nat → Int) (l : List Nat) (x : Nat) : lsum g (l ++ [x]) = lsum g l + g x := by rw [lsum_app]; simp [lsum]

end Go.Proofs.Ytcadmjpkgnbodaa

/- The order turned round, as plain mathematics: chains, sets apart and pairs of it are as many. No program. -/
import Derived.Test.YtipdmaggfbfnlaaChTall
set_option linter.unusedVariables false
set_option linter.unusedSimpArgs false
namespace Go.Proofs.Ytipdmaggfbfnlaa

/-- The order turned round. -/
def du (zs : List Int) : List Int := downP zs.length (pairsL zs)
theorem du_len (zs : List Int) : (du zs).length = zs.length := downP_len _ _
theorem du_bit {zs : List Int} (h : Sets zs) (a b : Nat) : bitB ((du zs)[b]?.getD 0) a = bitB (zs[a]?.getD 0) b := by
  have hn : ∀ p ∈ pairsL zs, p.2 < zs.length := fun p hp => (h.pair (a := p.1) (b := p.2) hp).2.1
  have key : bitB ((du zs)[b]?.getD 0) a = true ↔ bitB (zs[a]?.getD 0) b = true := by
    unfold du
    rw [downP_bit hn, mem_pairsL]
    constructor
    · exact fun e => e.2.2
    · intro e
      have ha : a < zs.length := by
        rcases Nat.lt_or_ge a zs.length with h1 | h1
        · exact h1
        · rw [List.getElem?_eq_none (by omega), Option.getD_none, bitB_zero] at e; cases e
      have hb := bitB_lt (h.2 a ha).2 e
      have := h.1
      exact ⟨ha, by omega, e⟩
  cases h1 : bitB ((du zs)[b]?.getD 0) a <;> cases h2 : bitB (zs[a]?.getD 0) b <;> simp_all
theorem du_sets {zs : List Int} (h : Sets zs) : Sets (du zs) := down_sets h
theorem du_lt {zs : List Int} (h : VoP zs) (a b : Nat) : lt (du zs) b a ↔ lt zs a b := by
  unfold lt
  rw [du_bit h.sets, du_len]
  constructor
  · rintro ⟨_, e⟩
    refine ⟨?_, e⟩
    rcases Nat.lt_or_ge a zs.length with h1 | h1
    · exact h1
    · rw [List.getElem?_eq_none (by omega), Option.getD_none, bitB_zero] at e; cases e
  · rintro ⟨ha, e⟩
    exact ⟨bitB_lt (h.sets.2 a ha).2 e, e⟩
theorem du_vo {zs : List Int} (h : VoP zs) : VoP (du zs) := by
  have hs := du_sets h.sets
  refine ⟨hs.1, fun a ha => ?_, fun a ha b hb => ?_⟩
  · have h1 := hs.2 a ha
    have h2 : bitB ((du zs)[a]?.getD 0) a = false := by
      rw [du_bit h.sets]
      cases e : bitB (zs[a]?.getD 0) a
      · rfl
      · exact absurd ⟨by rw [du_len] at ha; exact ha, e⟩ (h.irr (a := a))
    unfold okA inB
    rw [h2]
    simp only [Bool.not_false, Bool.and_true, decide_eq_true_eq]
    omega
  · unfold okP
    cases e : bitB ((du zs)[a]?.getD 0) b
    · rfl
    · have hab : lt zs b a := (du_lt h b a).1 ⟨ha, e⟩
      have h1 : lessI ((du zs)[b]?.getD 0) ((du zs)[a]?.getD 0) = 0 := by
        refine bitB_ext (lessI_bd _ _).1 (Int.le_refl _) fun j => ?_
        rw [bitB_less, bitB_zero]
        cases e1 : bitB ((du zs)[b]?.getD 0) j
        · rfl
        · have hjb := (du_lt h j b).1 ⟨hb, e1⟩
          have := ((du_lt h j a).2 (h.trans hjb hab)).2
          rw [this]; rfl
      have h2 : bitB ((du zs)[b]?.getD 0) a = false := by
        cases e2 : bitB ((du zs)[b]?.getD 0) a
        · rfl
        · exact absurd (h.trans hab ((du_lt h a b).1 ⟨hb, e2⟩)) h.irr
      rw [h1, h2]; rfl
theorem du_du {zs : List Int} (h : VoP zs) : du (du zs) = zs := by
  have hl : (du (du zs)).length = zs.length := by rw [du_len, du_len]
  refine List.ext_getElem hl fun j h1 h2 => ?_
  have e1 := (du_vo (du_vo h)).bd j h1
  have e2 := h.bd j h2
  have hb : ∀ k : Nat, bitB ((du (du zs))[j]?.getD 0) k = bitB (zs[j]?.getD 0) k := fun k => by rw [du_bit (du_vo h).sets, du_bit h.sets]
  have := bitB_ext e1.1 e2.1 hb
  rwa [List.getElem?_eq_getElem h1, List.getElem?_eq_getElem h2, Option.getD_some, Option.getD_some] at this

theorem du_rel {zs : List Int} (h : Sets zs) (a b : Nat) : relB (du zs) a b = relB zs a b := by
  unfold relB
  rw [du_bit h, du_bit h, Bool.or_comm]
theorem du_chB {zs : List Int} (h : Sets zs) (s : Int) : chB (du zs) s = chB zs s := by
  unfold chB ChP
  have : (fun a b => relB (du zs) a b = true) = fun a b => relB zs a b = true := by funext a b; rw [du_rel h]
  simp only [this]
theorem du_chBf {zs : List Int} (h : Sets zs) : chB (du zs) = chB zs := funext fun s => du_chB h s
theorem andI_zero {z s : Int} : andI z s = 0 ↔ ∀ b : Nat, bitB s b = true → bitB z b = false := by
  constructor
  · intro e b hb
    have := bitB_and z s b
    rw [e, bitB_zero, hb] at this
    simpa using this.symm
  · intro e
    refine bitB_ext (by unfold andI; omega) (Int.le_refl _) fun j => ?_
    rw [bitB_and, bitB_zero]
    cases e1 : bitB s j
    · simp
    · rw [e j e1]; rfl
theorem apB_iff {zs : List Int} {s : Int} (h1 : s < 64) : apB zs s = true ↔ ∀ a b : Nat, bitB s a = true → bitB s b = true → bitB (zs[a]?.getD 0) b = false := by
  unfold apB
  rw [List.all_eq_true]
  constructor
  · intro e a b ha hb
    have := e a ((mem_itemsL h1).2 ha)
    exact andI_zero.1 (by simpa using this) b hb
  · intro e a ha
    have := (andI_zero (z := zs[a]?.getD 0)).2 (fun b hb => e a b ((mem_itemsL h1).1 ha) hb)
    simpa using this
theorem du_apB {zs : List Int} (h : Sets zs) {s : Int} (h1 : s < 64) : apB (du zs) s = apB zs s := by
  have key : apB (du zs) s = true ↔ apB zs s = true := by
    rw [apB_iff h1, apB_iff h1]
    constructor
    · intro e a b ha hb
      have := e b a hb ha
      rwa [du_bit h] at this
    · intro e a b ha hb
      rw [du_bit h]
      exact e b a hb ha
  cases e1 : apB (du zs) s <;> cases e2 : apB zs s <;> simp_all
theorem grTo_congr {p q : Int → Bool} : ∀ k : Nat, (∀ j : Nat, j < k → p (j : Int) = q (j : Int)) → grTo p k = grTo q k
  | 0, _ => rfl
  | k + 1, h => by
    unfold grTo
    rw [h k (by omega), grTo_congr k fun j hj => h j (by omega)]
theorem setsN_le {zs : List Int} (h : zs.length ≤ 6) : setsN zs ≤ 64 := Nat.pow_le_pow_right (n := 2) (by decide) h
theorem du_setsN (zs : List Int) : setsN (du zs) = setsN zs := by unfold setsN; rw [du_len]
theorem du_wide {zs : List Int} (h : VoP zs) : grTo (apB (du zs)) (setsN zs) = grTo (apB zs) (setsN zs) :=
  grTo_congr _ fun j hj => du_apB h.sets (by have := setsN_le h.1; omega)
theorem du_long {zs : List Int} (h : VoP zs) : longI (du zs) = longI zs := by
  rw [← gr_long (du_vo h), ← gr_long h, du_chBf h.sets, du_setsN]

/-! Pairs. -/
theorem cl_flip (r : Nat → Nat → Bool) : ∀ l : List Nat, (∀ a ∈ l, r a a = false) → cl (fun a b => r b a) l l = cl r l l
  | [], _ => rfl
  | x :: l, h => by
    have h1 := cl_self r (x := x) (l := l) (h x (by simp))
    have h2 : cl (fun a b => r b a) (x :: l) (x :: l) = (l.filter fun a => r a x).length + (l.filter (r x)).length + cl (fun a b => r b a) l l := cl_self (fun a b => r b a) (x := x) (h x (by simp))
    rw [h1, h2, cl_flip r l fun a ha => h a (by simp [ha])]
    omega
/-- b is above a. -/
def upB (zs : List Int) (a b : Nat) : Bool := bitB (zs[a]?.getD 0) b
/-- How many pairs an order has, as mathematics. -/
def prs (zs : List Int) : Nat := cl (upB zs) (List.range zs.length) (List.range zs.length)
theorem popTo_cl {zs : List Int} (h : Sets zs) : ∀ k : Nat, k ≤ zs.length → popTo zs k = cl (upB zs) (List.range k) (List.range zs.length)
  | 0, _ => rfl
  | k + 1, hk => by
    have hb := h.bd k (by omega)
    unfold popTo
    rw [popTo_cl h k (by omega), popI_items hb.1 hb.2, ← itemsTo_all (h.2 k (by omega)).2 h.1]
    unfold cl
    rw [List.range_succ, List.map_append, List.sum_append]
    simp [itemsTo]
    rfl
theorem popTo_prs {zs : List Int} (h : Sets zs) : popTo zs zs.length = prs zs := popTo_cl h _ (Nat.le_refl _)
theorem du_prs {zs : List Int} (h : VoP zs) : prs (du zs) = prs zs := by
  unfold prs
  rw [du_len]
  have : upB (du zs) = fun a b : Nat => upB zs b a := by funext a b; unfold upB; rw [du_bit h.sets]
  rw [this]
  exact cl_flip (upB zs) _ fun a ha => h.irrB (List.mem_range.1 ha)
theorem prs_bd {zs : List Int} (h : VoP zs) : 2 * prs zs + zs.length ≤ zs.length * zs.length := by
  have := (cl_all (upB zs) (List.range zs.length) (fun a ha => h.irrB (List.mem_range.1 ha)) (fun a ha b _ e => h.asym (List.mem_range.1 ha) e)).1
  simpa [prs] using this
theorem prs_none {zs : List Int} (h : VoP zs) (hl : longI zs ≤ 1) : prs zs = 0 := by
  have hno : ∀ a b : Nat, ¬ lt zs a b := fun a b e => by
    have h1 := hgt_up h e
    have h2 := hgt_nn zs a
    have h3 := longI_gt (zs := zs) (h.lt_n e)
    omega
  unfold prs cl
  rw [List.map_congr_left (g := fun _ => 0)]
  · generalize List.range zs.length = l
    induction l with
    | nil => rfl
    | cons x l ih => simpa using ih
  · intro a ha
    rw [List.length_eq_zero_iff, List.filter_eq_nil_iff]
    intro b _ e
    exact hno a b ⟨List.mem_range.1 ha, e⟩

/-! Chains of none, of one and of two items. -/
theorem cnt_get (p : Int → Bool) {len m : Nat} (hm : m < len) : ∀ k : Nat, (cntTo p len k)[m]?.getD 0 = (((List.range k).filter fun j : Nat => p (j : Int) && (popI (j : Int)).toNat == m).length : Int)
  | 0 => by simp [cntTo, hm]
  | k + 1 => by
    have ih := cnt_get p hm k
    rw [List.range_succ, List.filter_append, List.length_append]
    have hl := cntTo_len p len k
    unfold cntTo
    cases hp : p (k : Int)
    · simp [hp, ih]
    · by_cases he : (popI (k : Int)).toNat = m
      · simp [hp, he]
        rw [List.getElem?_eq_getElem (by omega)] at ih
        rw [List.getElem?_set_self (by omega), Option.getD_some, List.getElem?_eq_getElem (by omega), Option.getD_some]
        simp only [Option.getD_some] at ih
        rw [ih]
      · simp [hp, he, ih]
def twos (n : Nat) : List Nat := (List.range n).flatMap fun b => (List.range b).map fun a => 2 ^ a + 2 ^ b
theorem twos_fin : ∀ n : Fin 7, (List.range (2 ^ n.val)).filter (fun j : Nat => (popI (j : Int)).toNat == 2) = twos n.val := by decide +kernel
theorem ones_fin : ∀ n : Fin 7, (List.range (2 ^ n.val)).filter (fun j : Nat => (popI (j : Int)).toNat == 1) = (List.range n.val).map fun a => 2 ^ a := by decide +kernel
theorem noes_fin : ∀ n : Fin 7, (List.range (2 ^ n.val)).filter (fun j : Nat => (popI (j : Int)).toNat == 0) = [0] := by decide +kernel
theorem two_items : ∀ b : Fin 6, ∀ a : Fin b.val, itemsL ((2 ^ a.val + 2 ^ b.val : Nat) : Int) = [a.val, b.val] := by decide +kernel
theorem one_items : ∀ b : Fin 6, itemsL ((2 ^ b.val : Nat) : Int) = [b.val] := by decide +kernel
theorem chB_two (zs : List Int) {a b : Nat} (hab : a < b) (hb : b < 6) : chB zs ((2 ^ a + 2 ^ b : Nat) : Int) = relB zs a b := by
  have h : ChP zs ((2 ^ a + 2 ^ b : Nat) : Int) ↔ relB zs a b = true := by
    unfold ChP
    rw [two_items ⟨b, hb⟩ ⟨a, hab⟩]
    simp
  unfold chB
  cases hr : relB zs a b
  · exact decide_eq_false fun e => by rw [h.1 e] at hr; cases hr
  · exact decide_eq_true (h.2 hr)
theorem chB_one (zs : List Int) {b : Nat} (hb : b < 6) : chB zs ((2 ^ b : Nat) : Int) = true := by
  refine decide_eq_true ?_
  unfold ChP
  rw [one_items ⟨b, hb⟩]
  simp
theorem chB_none (zs : List Int) : chB zs ((0 : Nat) : Int) = true := by
  have : itemsL ((0 : Nat) : Int) = [] := by decide
  refine decide_eq_true ?_
  unfold ChP
  rw [this]
  simp
theorem filter_and {α : Type} (p q : α → Bool) (l : List α) : l.filter (fun j => p j && q j) = (l.filter q).filter p := by rw [List.filter_filter]
theorem or_len (u v : Nat → Bool) : ∀ l : List Nat, (∀ a ∈ l, u a = true → v a = false) → (l.filter fun a => u a || v a).length = (l.filter u).length + (l.filter v).length
  | [], _ => rfl
  | a :: l, h => by
    have ih := or_len u v l fun b hb => h b (by simp [hb])
    have ha := h a (by simp)
    simp only [List.filter_cons]
    cases hu : u a <;> cases hv : v a <;> simp [hu, hv] at ha ⊢ <;> omega
theorem cl_range (r : Nat → Nat → Bool) : ∀ n : Nat, (∀ a, a < n → r a a = false) → cl r (List.range (n + 1)) (List.range (n + 1)) = cl r (List.range n) (List.range n) + ((List.range n).filter (r n)).length + ((List.range n).filter fun a => r a n).length + (if r n n then 1 else 0) := fun n _ => by
  unfold cl
  rw [List.range_succ, List.map_append, List.sum_append]
  have e : ∀ l : List Nat, (l.map fun a => ((List.range n ++ [n]).filter (r a)).length).sum = (l.map fun a => ((List.range n).filter (r a)).length).sum + (l.filter fun a => r a n).length := fun l => by
    induction l with
    | nil => rfl
    | cons a l ih =>
      rw [List.map_cons, List.sum_cons, ih, List.map_cons, List.sum_cons, List.filter_append, List.length_append, List.filter_cons (xs := l)]
      cases h : r a n <;> simp [h] <;> omega
  rw [e]
  cases h : r n n <;> simp [h, List.filter_append] <;> omega
theorem twos_chain {zs : List Int} (h : VoP zs) : ∀ n : Nat, n ≤ zs.length → ((twos n).filter fun j : Nat => chB zs (j : Int)).length = cl (upB zs) (List.range n) (List.range n)
  | 0, _ => rfl
  | n + 1, hn => by
    have h6 := h.1
    have ih := twos_chain h n (by omega)
    rw [cl_range (upB zs) n (fun a ha => h.irrB (show a < zs.length by omega)), ← ih]
    have e1 : twos (n + 1) = twos n ++ (List.range n).map fun a => 2 ^ a + 2 ^ n := by simp [twos, List.range_succ]
    rw [e1, List.filter_append, List.length_append, List.filter_map, List.length_map]
    have e2 : (List.range n).filter ((fun j : Nat => chB zs (j : Int)) ∘ fun a => 2 ^ a + 2 ^ n) = (List.range n).filter fun a => upB zs n a || upB zs a n := by
      refine List.filter_congr fun a ha => ?_
      have := chB_two zs (List.mem_range.1 ha) (show n < 6 by omega)
      simp only [Function.comp]
      rw [this]
      unfold relB upB
      rw [Bool.or_comm]
    have e3 : upB zs n n = false := h.irrB (show n < zs.length by omega)
    rw [e2, or_len (upB zs n) (fun a => upB zs a n) _ (fun a _ e => h.asym (show n < zs.length by omega) e), e3]
    simp
    omega
theorem chains_two {zs : List Int} (h : VoP zs) (hl : 2 ≤ longI zs) : (chainsR zs)[2]?.getD 0 = (prs zs : Int) := by
  have hn := h.1
  unfold chainsR
  rw [vo_true h]
  simp only [if_true]
  rw [cnt_get (chB zs) (len := (longI zs).toNat + 1) (m := 2) (by omega)]
  rw [filter_and (fun j : Nat => chB zs (j : Int)) (fun j : Nat => (popI (j : Int)).toNat == 2)]
  unfold setsN
  rw [twos_fin ⟨zs.length, by omega⟩, twos_chain h _ (Nat.le_refl _)]
  rfl
theorem chains_one {zs : List Int} (h : VoP zs) (hl : 1 ≤ longI zs) : (chainsR zs)[1]?.getD 0 = (zs.length : Int) := by
  have hn := h.1
  unfold chainsR
  rw [vo_true h]
  simp only [if_true]
  rw [cnt_get (chB zs) (len := (longI zs).toNat + 1) (m := 1) (by omega)]
  rw [filter_and (fun j : Nat => chB zs (j : Int)) (fun j : Nat => (popI (j : Int)).toNat == 1)]
  unfold setsN
  rw [ones_fin ⟨zs.length, by omega⟩, List.filter_map, List.length_map, List.filter_eq_self.2]
  · simp
  · intro a ha
    exact chB_one zs (by have := List.mem_range.1 ha; omega)
theorem chains_none {zs : List Int} (h : VoP zs) : (chainsR zs)[0]?.getD 0 = 1 := by
  have hn := h.1
  unfold chainsR
  rw [vo_true h]
  simp only [if_true]
  rw [cnt_get (chB zs) (len := (longI zs).toNat + 1) (m := 0) (by omega)]
  rw [filter_and (fun j : Nat => chB zs (j : Int)) (fun j : Nat => (popI (j : Int)).toNat == 0)]
  unfold setsN
  rw [noes_fin ⟨zs.length, by omega⟩, List.filter_cons, if_pos (chB_none zs)]
  rfl
theorem chains_len {zs : List Int} (h : VoP zs) : (chainsR zs).length = (longI zs).toNat + 1 := by
  unfold chainsR
  rw [vo_true h]
  simp [cntTo_len]
theorem du_chains {zs : List Int} (h : VoP zs) : chainsR (du zs) = chainsR zs := by
  unfold chainsR
  rw [vo_true h, vo_true (du_vo h), du_long h, du_chBf h.sets, du_setsN]
theorem long_pos {zs : List Int} (h : zs.length ≠ 0) : 1 ≤ longI zs := by
  have h1 := longI_gt (zs := zs) (a := 0) (by omega)
  have h2 := hgt_nn zs 0
  omega
end Go.Proofs.Ytipdmaggfbfnlaa

/- The widest set apart and the fewest chains: each item hangs on a lowest one; items that hang on one are a chain; so no more are apart than chains; what the sets of the chains are. No program. -/
import Derived.Test.YtghogabmkbadjabDilM
import Derived.Test.YtghogabmkbadjabLkM
import Derived.Test.YtghogabmkbadjabDfM
import Derived.Test.YtghogabmkbadjabGb
import Derived.Test.YtghogabmkbadjabGc
import Derived.Test.YtghogabmkbadjabSetM
import Derived.Test.YtghogabmkbadjabChpS
set_option linter.unusedVariables false
set_option linter.unusedSimpArgs false
namespace Go.Proofs.Ytghogabmkbadjab

theorem chB_iffD {zs : List Int} {s : Nat} (h1 : s < 64) : chB zs (s : Int) = true ↔ ∀ x y : Nat, s.testBit x = true → s.testBit y = true → x ≠ y → lt zs x y ∨ lt zs y x := by
  unfold chB
  rw [decide_eq_true_iff, ChP_iff (by omega)]
  have hb : ∀ x : Nat, bitB (s : Int) (x : Int) = s.testBit x := fun x => by simp [bitB]
  simp only [hb]
  have hl : ∀ x y : Nat, bitB (zs[x]?.getD 0) y = true ↔ lt zs x y := fun x y => by
    refine ⟨fun e => ⟨?_, e⟩, fun e => e.2⟩
    rcases Nat.lt_or_ge x zs.length with h | h
    · exact h
    · rw [List.getElem?_eq_none h, Option.getD_none, bitB_zero] at e; cases e
  have hr : ∀ x y : Nat, relB zs x y = true ↔ lt zs x y ∨ lt zs y x := fun x y => by
    unfold relB
    rw [Bool.or_eq_true, hl, hl]
  simp only [hr]
  constructor
  · intro h x y hx hy hn
    rcases Nat.lt_or_gt_of_ne hn with hlt | hlt
    · exact h x y hx hy hlt
    · exact (h y x hy hx hlt).symm
  · intro h x y hx hy hlt
    exact h x y hx hy (by omega)
/-- Who has an item, and who has him, k times. -/
def dnM (has : List Int) : Nat → Nat → Option Nat
  | 0, x => some x
  | k + 1, x => if has[x]?.getD 0 < 0 then none else dnM has k (has[x]?.getD 0).toNat
theorem dn_back {has : List Int} : ∀ {k x r : Nat}, dnM has (k + 1) x = some r → ∃ z, dnM has k x = some z ∧ has[z]?.getD 0 = (r : Int)
  | 0, x, r, h => by
    unfold dnM at h
    split at h
    · cases h
    · rename_i c
      have e : (has[x]?.getD 0).toNat = r := by simpa [dnM] using h
      exact ⟨x, rfl, by omega⟩
  | k + 1, x, r, h => by
    unfold dnM at h
    split at h
    · cases h
    · rename_i c
      obtain ⟨z, h1, h2⟩ := dn_back h
      exact ⟨z, by rw [dnM, if_neg c]; exact h1, h2⟩
theorem dn_snoc {has : List Int} : ∀ {k x z r : Nat}, dnM has k x = some z → has[z]?.getD 0 = (r : Int) → dnM has (k + 1) x = some r
  | 0, x, z, r, h, e => by
    have hx : x = z := by simpa [dnM] using h
    subst hx
    rw [dnM, if_neg (by omega), e]
    rfl
  | k + 1, x, z, r, h, e => by
    unfold dnM at h
    split at h
    · cases h
    · rename_i c
      rw [dnM, if_neg c]
      exact dn_snoc h e

section
variable {zs has : List Int}
/-- What is told of a matching. -/
structure Mat (zs has : List Int) : Prop where
  ok : OkH zs.length has
  rel : RelH zs has
  once : ∀ y : Int, 0 ≤ y → has.count y ≤ 1
theorem mat_of (zs : List Int) : Mat zs (matesTo zs zs.length) := ⟨matesTo_ok zs _ (Nat.le_refl _), matesTo_rel zs _, (matesTo_once zs _ (Nat.le_refl _)).1⟩
theorem Mat.blw (h : Mat zs has) {x : Nat} (hx : x < zs.length) (h0 : ¬ has[x]?.getD 0 < 0) : lt zs (has[x]?.getD 0).toNat x := by
  have h1 := h.ok.2 x hx
  exact ⟨by omega, h.rel x (by rw [h.ok.1]; exact hx) (by omega)⟩
theorem Mat.dn (hv : VoP zs) (h : Mat zs has) : ∀ {k x z : Nat}, x < zs.length → dnM has k x = some z → z < zs.length ∧ (z = x ∨ lt zs z x) ∧ hgt zs z + k ≤ hgt zs x
  | 0, x, z, hx, e => by
    have : x = z := by simpa [dnM] using e
    subst this
    exact ⟨hx, .inl rfl, by simp⟩
  | k + 1, x, z, hx, e => by
    unfold dnM at e
    split at e
    · cases e
    · rename_i c
      have hl := h.blw hx c
      obtain ⟨h1, h2, h3⟩ := h.dn hv hl.1 e
      have hu := hgt_up hv hl
      refine ⟨h1, .inr ?_, by omega⟩
      rcases h2 with h2 | h2
      · rw [h2]; exact hl
      · exact hv.trans h2 hl
theorem Mat.root (hv : VoP zs) (h : Mat zs has) : ∀ (m x : Nat), x < zs.length → hgt zs x < (m : Int) → ∃ k r, dnM has k x = some r ∧ has[r]?.getD 0 < 0
  | 0, x, hx, hm => by have := hgt_nn zs x; omega
  | m + 1, x, hx, hm => by
    by_cases c : has[x]?.getD 0 < 0
    · exact ⟨0, x, rfl, c⟩
    · have hl := h.blw hx c
      have hu := hgt_up hv hl
      obtain ⟨k, r, h1, h2⟩ := h.root hv m _ hl.1 (by omega)
      exact ⟨k + 1, r, by rw [dnM, if_neg c]; exact h1, h2⟩
theorem Mat.same (hv : VoP zs) (h : Mat zs has) : ∀ {i j x y r : Nat}, x < zs.length → y < zs.length → dnM has i x = some r → dnM has j y = some r → i ≤ j → dnM has (j - i) y = some x
  | 0, j, x, y, r, hx, hy, e1, e2, _ => by
    have : x = r := by simpa [dnM] using e1
    subst this
    exact e2
  | i + 1, j, x, y, r, hx, hy, e1, e2, hij => by
    obtain ⟨j, rfl⟩ : ∃ j', j = j' + 1 := ⟨j - 1, by omega⟩
    obtain ⟨z1, a1, b1⟩ := dn_back e1
    obtain ⟨z2, a2, b2⟩ := dn_back e2
    have l1 := (h.dn hv hx a1).1
    have l2 := (h.dn hv hy a2).1
    have : z1 = z2 := count_at (h.once (r : Int) (by omega)) (by rw [h.ok.1]; exact l1) (by rw [h.ok.1]; exact l2) b1 b2
    subst this
    have := h.same hv hx hy a1 a2 (by omega)
    rwa [show j + 1 - (i + 1) = j - i by omega]
theorem Mat.comp (hv : VoP zs) (h : Mat zs has) {i j x y r : Nat} (hx : x < zs.length) (hy : y < zs.length) (e1 : dnM has i x = some r) (e2 : dnM has j y = some r) : x = y ∨ lt zs x y ∨ lt zs y x := by
  rcases Nat.le_total i j with hij | hij
  · rcases (h.dn hv hy (h.same hv hx hy e1 e2 hij)).2.1 with e | e
    · exact .inl e
    · exact .inr (.inl e)
  · rcases (h.dn hv hx (h.same hv hy hx e2 e1 hij)).2.1 with e | e
    · exact .inl e.symm
    · exact .inr (.inr e)
theorem Mat.one (hv : VoP zs) (h : Mat zs has) {i j x r s : Nat} (hx : x < zs.length) (e1 : dnM has i x = some r) (e2 : dnM has j x = some s) (hr : has[r]?.getD 0 < 0) (hs : has[s]?.getD 0 < 0) : r = s := by
  have key : ∀ {i j x r s : Nat}, dnM has i x = some r → dnM has j x = some s → has[r]?.getD 0 < 0 → has[s]?.getD 0 < 0 → r = s := by
    intro i
    induction i with
    | zero =>
      intro j x r s e1 e2 hr hs
      have : x = r := by simpa [dnM] using e1
      subst this
      cases j with
      | zero => simpa [dnM] using e2
      | succ j => rw [dnM, if_pos hr] at e2; cases e2
    | succ i ih =>
      intro j x r s e1 e2 hr hs
      unfold dnM at e1
      split at e1
      · cases e1
      · rename_i c
        cases j with
        | zero =>
          have : x = s := by simpa [dnM] using e2
          subst this
          exact absurd hs c
        | succ j =>
          rw [dnM, if_neg c] at e2
          exact ih e1 e2 hr hs
  exact key e1 e2 hr hs
end

/-- No more items are apart than there are chains. -/
theorem wide_le {zs : List Int} (h : VoP zs) : wideR zs ≤ (noneTo (matesTo zs zs.length) zs.length : Int) := by
  have h6 := h.1
  have hm := mat_of zs
  rw [noneTo_len]
  generalize matesTo zs zs.length = has at *
  unfold wideR
  rw [vo_true h, if_pos rfl]
  refine grTo_le (by omega) _ fun s hs hap => ?_
  have hpw := setsN_pow zs
  have hp6 := powI_le6 (n := (zs.length : Int)) (by omega)
  have hbd : ((s : Nat) : Int) < powI zs.length := by omega
  obtain ⟨f, hf⟩ := Classical.axiomOfChoice (r := fun (x : Nat) (r : Nat) => x < zs.length → ∃ k, dnM has k x = some r ∧ has[r]?.getD 0 < 0) (fun x => by
    by_cases hx : x < zs.length
    · obtain ⟨k, r, h1, h2⟩ := hm.root h (hgt zs x).toNat.succ x hx (by have := hgt_nn zs x; omega)
      exact ⟨r, fun _ => ⟨k, h1, h2⟩⟩
    · exact ⟨0, fun e => absurd e hx⟩)
  rw [popI_items (by omega) (by omega)]
  have hmem : ∀ x, x ∈ itemsL ((s : Nat) : Int) → x < zs.length ∧ bitB ((s : Nat) : Int) (x : Int) = true := fun x hx => by
    have hb := (mem_itemsL (by omega)).1 hx
    exact ⟨bitB_lt hbd hb, hb⟩
  refine Int.ofNat_le.2 (inj_lenD f _ _ (by unfold itemsL itemsTo; exact List.nodup_range.filter _) (fun x hx => ?_) (fun x hx y hy e => ?_))
  · obtain ⟨k, h1, h2⟩ := hf x (hmem x hx).1
    exact List.mem_filter.2 ⟨List.mem_range.2 (hm.dn h (hmem x hx).1 h1).1, by simpa using h2⟩
  · obtain ⟨k, h1, h2⟩ := hf x (hmem x hx).1
    obtain ⟨j, h3, h4⟩ := hf y (hmem y hy).1
    rw [e] at h1
    have hno := (apB_iff (by omega)).1 hap
    rcases hm.comp h (hmem x hx).1 (hmem y hy).1 h1 h3 with e2 | e2 | e2
    · exact e2
    · have := e2.2; rw [hno x y (hmem x hx).2 (hmem y hy).2] at this; cases this
    · have := e2.2; rw [hno y x (hmem y hy).2 (hmem x hx).2] at this; cases this
/-- The widest set apart is as many as the fewest chains. -/
theorem wide_few {zs : List Int} (h : VoP zs) : wideR zs = fewestR zs := by
  have h1 := wide_ge h
  have h2 := wide_le h
  unfold fewestR
  rw [vo_true h, if_pos rfl]
  omega

/-- Whom an item is followed by, k times. -/
def upK (nx : Nat → Option Nat) : Nat → Nat → Option Nat
  | 0, i => some i
  | k + 1, i => match nx i with
    | none => none
    | some j => upK nx k j
theorem chT_bit (nx : Nat → Option Nat) (j : Nat) : ∀ (f i : Nat) (acc : Int), bitB (chT nx f i acc) j = true ↔ bitB acc j = true ∨ ∃ k, k < f ∧ upK nx k i = some j
  | 0, i, acc => by simp [chT]
  | f + 1, i, acc => by
    have hor : bitB (orI acc (powI (i : Int))) j = true ↔ bitB acc j = true ∨ i = j := by rw [bitB_or, bitB_pow, Bool.or_eq_true, decide_eq_true_eq]
    unfold chT
    cases e : nx i with
    | none =>
      simp only
      rw [hor]
      constructor
      · rintro (h | h)
        · exact .inl h
        · exact .inr ⟨0, by omega, by rw [upK, h]⟩
      · rintro (h | ⟨k, hk, h⟩)
        · exact .inl h
        · cases k with
          | zero => exact .inr (by simpa [upK] using h)
          | succ k => rw [upK, e] at h; cases h
    | some q =>
      simp only
      rw [chT_bit nx j f q, hor]
      constructor
      · rintro ((h | h) | ⟨k, hk, h⟩)
        · exact .inl h
        · exact .inr ⟨0, by omega, by rw [upK, h]⟩
        · exact .inr ⟨k + 1, by omega, by rw [upK, e]; exact h⟩
      · rintro (h | ⟨k, hk, h⟩)
        · exact .inl (.inl h)
        · cases k with
          | zero => exact .inl (.inr (by simpa [upK] using h))
          | succ k => rw [upK, e] at h; exact .inr ⟨k, by omega, h⟩
theorem nxT_some {has : List Int} {i z : Nat} : ∀ {k : Nat}, z < k → has[z]?.getD 0 = (i : Int) → ∃ q, nxT has i k = some q
  | 0, h, _ => by omega
  | k + 1, h, e => by
    unfold nxT
    by_cases c : has[k]?.getD 0 = (i : Int)
    · exact ⟨k, by rw [if_pos c]⟩
    · rw [if_neg c]
      exact nxT_some (k := k) (by
        rcases Nat.lt_or_ge z k with h1 | h1
        · exact h1
        · obtain rfl : z = k := by omega
          exact absurd e c) e
section
variable {zs : List Int}
theorem up_dn (has : List Int) (n : Nat) : ∀ {k i j : Nat}, upK (fun i => nxT has i n) k i = some j → dnM has k j = some i
  | 0, i, j, h => by
    have : i = j := by simpa [upK] using h
    subst this; rfl
  | k + 1, i, j, h => by
    unfold upK at h
    cases e : nxT has i n with
    | none => simp only [e] at h; cases h
    | some q =>
      simp only [e] at h
      exact dn_snoc (up_dn has n h) (nxT_is e).2
theorem dn_up (hv : VoP zs) {has : List Int} (hm : Mat zs has) : ∀ {k i j : Nat}, j < zs.length → dnM has k j = some i → upK (fun i => nxT has i zs.length) k i = some j
  | 0, i, j, hj, h => by
    have : j = i := by simpa [dnM] using h
    subst this; rfl
  | k + 1, i, j, hj, h => by
    obtain ⟨z, h1, h2⟩ := dn_back h
    have hz := (hm.dn hv hj h1).1
    obtain ⟨q, hq⟩ := nxT_some (k := zs.length) hz h2
    obtain ⟨hq1, hq2⟩ := nxT_is hq
    have : q = z := count_at (hm.once (i : Int) (by omega)) (by rw [hm.ok.1]; exact hq1) (by rw [hm.ok.1]; exact hz) hq2 h2
    subst this
    unfold upK
    simp only [hq]
    exact dn_up hv hm hj h1
/-- Whom the chain of a lowest item has. -/
theorem chSt_bit (hv : VoP zs) {i : Nat} (hi : i < zs.length) (j : Nat) : bitB (chSt zs i) j = true ↔ j < zs.length ∧ ∃ k, dnM (matesTo zs zs.length) k j = some i := by
  have hm := mat_of zs
  unfold chSt
  rw [chT_bit, bitB_zero]
  constructor
  · rintro (h | ⟨k, hk, h⟩)
    · cases h
    · have h1 := up_dn _ _ h
      refine ⟨?_, k, h1⟩
      cases k with
      | zero =>
        have : i = j := by simpa [upK] using h
        omega
      | succ k =>
        unfold dnM at h1
        split at h1
        · cases h1
        · rename_i c
          rcases Nat.lt_or_ge j zs.length with h2 | h2
          · exact h2
          · exfalso
            have e0 : (matesTo zs zs.length)[j]?.getD 0 = 0 := by rw [List.getElem?_eq_none (by rw [hm.ok.1]; exact h2)]; rfl
            -- up from i: each step stays below the number of items
            have hup : ∀ {k i j : Nat}, upK (fun i => nxT (matesTo zs zs.length) i zs.length) (k + 1) i = some j → j < zs.length := by
              intro k
              induction k with
              | zero =>
                intro i j e
                unfold upK at e
                cases e2 : nxT (matesTo zs zs.length) i zs.length with
                | none => simp only [e2] at e; cases e
                | some q =>
                  simp only [e2] at e
                  have : q = j := by simpa [upK] using e
                  subst this
                  exact (nxT_is e2).1
              | succ k ih =>
                intro i j e
                unfold upK at e
                cases e2 : nxT (matesTo zs zs.length) i zs.length with
                | none => simp only [e2] at e; cases e
                | some q => simp only [e2] at e; exact ih e
            have := hup h
            omega
  · rintro ⟨hj, k, hk⟩
    have h1 := (hm.dn hv hj hk).2.2
    have h2 := hgt_bd hv hj
    have h3 := hgt_nn zs i
    have h4 := hv.1
    exact .inr ⟨k, by omega, dn_up hv hm hj hk⟩
theorem lowL_mem {has : List Int} : ∀ {k i : Nat}, i ∈ lowL has k ↔ i < k ∧ has[i]?.getD 0 < 0
  | 0, i => by simp [lowL]
  | k + 1, i => by
    unfold lowL
    split
    · rename_i c
      rw [List.mem_append, lowL_mem, List.mem_singleton]
      constructor
      · rintro (⟨h1, h2⟩ | rfl)
        · exact ⟨by omega, h2⟩
        · exact ⟨by omega, c⟩
      · rintro ⟨h1, h2⟩
        rcases Nat.lt_or_ge i k with h3 | h3
        · exact .inl ⟨h3, h2⟩
        · exact .inr (by omega)
    · rename_i c
      rw [lowL_mem]
      constructor
      · rintro ⟨h1, h2⟩; exact ⟨by omega, h2⟩
      · rintro ⟨h1, h2⟩
        refine ⟨?_, h2⟩
        rcases Nat.lt_or_ge i k with h3 | h3
        · exact h3
        · obtain rfl : i = k := by omega
          exact absurd h2 c
theorem lowL_nodup (has : List Int) : ∀ k : Nat, (lowL has k).Nodup
  | 0 => by simp [lowL]
  | k + 1 => by
    unfold lowL
    split
    · refine List.nodup_append.2 ⟨lowL_nodup has k, by simp, fun a ha b hb e => ?_⟩
      have := (lowL_mem.1 ha).1
      simp at hb
      omega
    · exact lowL_nodup has k
theorem chSt_bd (hv : VoP zs) {i : Nat} (hi : i < zs.length) : 0 ≤ chSt zs i ∧ chSt zs i < powI zs.length := by
  have h6 := hv.1
  have hb := chT_bd (fun i => nxT (matesTo zs zs.length) i zs.length) zs.length h6 (fun i j _ e => (nxT_is e).1) 7 i 0 hi (Int.le_refl _) (powI_pos _)
  have hb' : 0 ≤ chSt zs i ∧ chSt zs i < powI 6 := hb
  refine ⟨hb'.1, ?_⟩
  obtain ⟨s, hs⟩ := Int.eq_ofNat_of_zero_le hb'.1
  have hlt : s < 2 ^ zs.length := Nat.lt_pow_two_of_testBit _ fun j hj => by
    cases e : s.testBit j
    · rfl
    · have : bitB (chSt zs i) j = true := by rw [hs]; simpa [bitB] using e
      have := ((chSt_bit hv hi j).1 this).1
      omega
  rw [hs, show powI (zs.length : Int) = ((2 ^ zs.length : Nat) : Int) by simp [powI]]
  exact Int.ofNat_lt.2 hlt
/-- The chains part all. -/
theorem ch_facts (hv : VoP zs) : (∀ s, s ∈ chR zs → 0 ≤ s ∧ s < powI zs.length ∧ s ≠ 0 ∧ chB zs s = true) ∧ PartsOk (chR zs) zs.length ∧ (∀ i : Nat, 0 < i → i < (chR zs).length → (chR zs)[i - 1]?.getD 0 < (chR zs)[i]?.getD 0) ∧ ((chR zs).length : Int) = fewestR zs := by
  have h6 := hv.1
  have hp6 := powI_le6 (n := (zs.length : Int)) (by omega)
  have hm := mat_of zs
  have hR : chR zs = sortL (chL zs) := by unfold chR; rw [vo_true hv]; rfl
  have hmem : ∀ s, s ∈ chR zs ↔ ∃ i, i < zs.length ∧ (matesTo zs zs.length)[i]?.getD 0 < 0 ∧ chSt zs i = s := fun s => by
    rw [hR, (sortL_perm _).mem_iff]
    unfold chL
    rw [List.mem_map]
    constructor
    · rintro ⟨i, hi, e⟩; have := lowL_mem.1 hi; exact ⟨i, this.1, this.2, e⟩
    · rintro ⟨i, hi, h0, e⟩; exact ⟨i, lowL_mem.2 ⟨hi, h0⟩, e⟩
  have hself : ∀ i, i < zs.length → bitB (chSt zs i) i = true := fun i hi => (chSt_bit hv hi i).2 ⟨hi, 0, rfl⟩
  have hone : ∀ i k j : Nat, i < zs.length → k < zs.length → (matesTo zs zs.length)[i]?.getD 0 < 0 → (matesTo zs zs.length)[k]?.getD 0 < 0 → bitB (chSt zs i) j = true → bitB (chSt zs k) j = true → i = k := fun i k j hi hk h1 h2 e1 e2 => by
    obtain ⟨hj, p, hp⟩ := (chSt_bit hv hi j).1 e1
    obtain ⟨_, q, hq⟩ := (chSt_bit hv hk j).1 e2
    exact hm.one hv hj hp hq h1 h2
  have hnd : (chR zs).Nodup := by
    rw [hR, (sortL_perm _).nodup_iff]
    unfold chL
    refine List.pairwise_map.2 ((lowL_nodup _ _).imp_of_mem fun {i k} hi hk hne e => hne ?_)
    have h1 := lowL_mem.1 hi
    have h2 := lowL_mem.1 hk
    exact hone i k i h1.1 h2.1 h1.2 h2.2 (hself i h1.1) (by rw [← e]; exact hself i h1.1)
  have hs : (chR zs).Pairwise (· ≤ ·) := by rw [hR]; exact sortL_sorted _
  have hlt : ∀ i k : Nat, i < k → k < (chR zs).length → (chR zs)[i]?.getD 0 < (chR zs)[k]?.getD 0 := fun i k hik hk => by
    have h1 := List.pairwise_iff_getElem.1 hs i k (by omega) hk hik
    have h2 : (chR zs)[i] ≠ (chR zs)[k] := List.pairwise_iff_getElem.1 hnd i k (by omega) hk hik
    rw [List.getElem?_eq_getElem (by omega : i < (chR zs).length), List.getElem?_eq_getElem hk, Option.getD_some, Option.getD_some]
    omega
  have hat : ∀ i, i < (chR zs).length → (chR zs)[i]?.getD 0 ∈ chR zs := fun i hi => by rw [List.getElem?_eq_getElem hi]; exact List.getElem_mem hi
  refine ⟨fun s hs => ?_, ⟨h6, fun i hi => ?_, fun i k j hik hk e1 e2 => ?_, fun j hj => ?_⟩, fun i h0 hi => hlt (i - 1) i (by omega) hi, ?_⟩
  · obtain ⟨i, hi, h0, rfl⟩ := (hmem s).1 hs
    have hb := chSt_bd hv hi
    refine ⟨hb.1, hb.2, fun e => ?_, ?_⟩
    · have := hself i hi
      rw [e, bitB_zero] at this; cases this
    · obtain ⟨t, ht⟩ := Int.eq_ofNat_of_zero_le hb.1
      have hbit : ∀ x : Nat, t.testBit x = true → x < zs.length ∧ ∃ k, dnM (matesTo zs zs.length) k x = some i := fun x hx => (chSt_bit hv hi x).1 (by rw [ht]; simpa [bitB] using hx)
      rw [ht]
      refine (chB_iffD (by omega)).2 fun x y hx hy hne => ?_
      obtain ⟨hxl, p, hp⟩ := hbit x hx
      obtain ⟨hyl, q, hq⟩ := hbit y hy
      rcases hm.comp hv hxl hyl hp hq with e | e
      · exact absurd e hne
      · exact e
  · obtain ⟨q, hq, h0, e⟩ := (hmem _).1 (hat i hi)
    rw [← e]
    exact chSt_bd hv hq
  · obtain ⟨p, hp, h0, e⟩ := (hmem _).1 (hat i (by omega))
    obtain ⟨q, hq, h1, e'⟩ := (hmem _).1 (hat k hk)
    rw [← e] at e1
    rw [← e'] at e2
    have := hone p q j hp hq h0 h1 e1 e2
    subst this
    have := hlt i k hik hk
    rw [← e, ← e'] at this
    omega
  · obtain ⟨k, r, h1, h2⟩ := hm.root hv (hgt zs j).toNat.succ j hj (by have := hgt_nn zs j; omega)
    have hr := (hm.dn hv hj h1).1
    have : chSt zs r ∈ chR zs := (hmem _).2 ⟨r, hr, h2, rfl⟩
    obtain ⟨i, hi, e⟩ := List.mem_iff_getElem.1 this
    exact ⟨i, hi, by rw [List.getElem?_eq_getElem hi, Option.getD_some, e]; exact (chSt_bit hv hr j).2 ⟨hj, k, h1⟩⟩
  · unfold fewestR
    rw [vo_true hv, if_pos rfl, hR, sortL_len]
    unfold chL
    rw [List.length_map, lowL_len]
end
end Go.Proofs.Ytghogabmkbadjab

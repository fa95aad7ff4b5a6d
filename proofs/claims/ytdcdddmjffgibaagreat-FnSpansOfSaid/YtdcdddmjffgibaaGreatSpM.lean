/- Orders without two pairs: what is above items is nested, and tells spans (mathematics). No program. -/
import Derived.Test.YtdcdddmjffgibaaGreatTwO
import Derived.Test.YtdcdddmjffgibaaGreatDfM
set_option linter.unusedVariables false
set_option linter.unusedSimpArgs false
namespace Go.Proofs.YtdcdddmjffgibaaGreat
open Go.RowKit

theorem ilt_or_ge (a b : Int) : a < b ∨ b ≤ a := by omega
/-! Sets within sets. -/
theorem sub_less {a b : Int} (h : ∀ j : Nat, bitB a j = true → bitB b j = true) : lessI a b = 0 := by
  have h0 := lessI_bd a b
  refine bitB_ext h0.1 (by omega) fun j => ?_
  rw [bitB_less, bitB_zero]
  cases e : bitB a j with
  | false => rfl
  | true => rw [h j e]; rfl
theorem popw_sub_fin : ∀ a b : Fin 64, lessI a.val b.val = 0 → popI (a.val : Int) ≤ popI (b.val : Int) ∧ (popI (b.val : Int) ≤ popI (a.val : Int) → a = b) := by decide +kernel
theorem popw_sub {a b : Int} (ha0 : 0 ≤ a) (ha : a < 64) (hb0 : 0 ≤ b) (hb : b < 64) (h : ∀ j : Nat, bitB a j = true → bitB b j = true) : popI a ≤ popI b ∧ (popI b ≤ popI a → a = b) := by
  obtain ⟨x, rfl⟩ := Int.eq_ofNat_of_zero_le ha0
  obtain ⟨y, rfl⟩ := Int.eq_ofNat_of_zero_le hb0
  have h1 := sub_less h
  obtain ⟨h2, h3⟩ := popw_sub_fin ⟨x, by omega⟩ ⟨y, by omega⟩ h1
  refine ⟨h2, fun h4 => ?_⟩
  have := h3 h4
  rw [Fin.mk.injEq] at this
  rw [this]

/-- How many items are above an item. -/
def pU (zs : List Int) (c : Nat) : Int := popI (zs[c]?.getD 0)
abbrev bt (zs : List Int) (a b : Nat) : Prop := bitB (zs[a]?.getD 0) b = true
theorem VoP.tr {zs : List Int} (h : VoP zs) {a b c : Nat} (ha : a < zs.length) (h1 : bt zs a b) (h2 : bt zs b c) : bt zs a c := (h.trans ⟨ha, h1⟩ ⟨h.lt_n ⟨ha, h1⟩, h2⟩).2
theorem nested {zs : List Int} (h : VoP zs) (ht : twoB zs = false) {a c : Nat} (ha : a < zs.length) (hc : c < zs.length) :
    (∀ j : Nat, bt zs a j → bt zs c j) ∨ (∀ j : Nat, bt zs c j → bt zs a j) := by
  refine Classical.byContradiction fun hn => ?_
  rw [not_or] at hn
  obtain ⟨h1, h2⟩ := hn
  have h1 : ∃ b : Nat, bt zs a b ∧ ¬ bt zs c b := Classical.byContradiction fun hh => h1 fun j hj => Classical.byContradiction fun hj' => hh ⟨j, hj, hj'⟩
  have h2 : ∃ d : Nat, bt zs c d ∧ ¬ bt zs a d := Classical.byContradiction fun hh => h2 fun j hj => Classical.byContradiction fun hj' => hh ⟨j, hj, hj'⟩
  obtain ⟨b, hab, hcb⟩ := h1
  obtain ⟨d, hcd, had⟩ := h2
  have hb := h.lt_n ⟨ha, hab⟩
  have hd := h.lt_n ⟨hc, hcd⟩
  have n1 : a ≠ c := fun e => by subst e; exact hcb hab
  have n2 : a ≠ d := fun e => by subst e; exact hcb (h.tr hc hcd hab)
  have n3 : b ≠ c := fun e => by subst e; exact had (h.tr ha hab hcd)
  have n4 : b ≠ d := fun e => by subst e; exact hcb hcd
  have rel : ∀ {x y : Nat}, ¬ bt zs x y → ¬ bt zs y x → relB zs x y = false := fun hx hy => by
    unfold relB
    rw [Bool.or_eq_false_iff]
    exact ⟨by simpa using hx, by simpa using hy⟩
  have r1 : relB zs a c = false := rel (fun e => had (h.tr ha e hcd)) (fun e => hcb (h.tr hc e hab))
  have r2 : relB zs a d = false := rel had (fun e => hcb (h.tr hc (h.tr hc hcd e) hab))
  have r3 : relB zs b c = false := rel (fun e => had (h.tr ha (h.tr ha hab e) hcd)) hcb
  have r4 : relB zs b d = false := rel (fun e => had (h.tr ha hab e)) (fun e => hcb (h.tr hc hcd e))
  have : twoB zs = true := by
    unfold twoB
    refine any4_some ha hb hc hd ?_
    simp only [tstTwo, Bool.and_eq_true, Bool.not_eq_true', beq_eq_false_iff_ne]
    exact ⟨hab, hcd, n1, n2, n3, n4, r1, r2, r3, r4⟩
  rw [ht] at this; cases this
theorem ups_sub {zs : List Int} (h : VoP zs) {a c : Nat} (ha : a < zs.length) (hc : c < zs.length) (hs : ∀ j : Nat, bt zs a j → bt zs c j) : pU zs a ≤ pU zs c ∧ (pU zs c ≤ pU zs a → zs[a]?.getD 0 = zs[c]?.getD 0) := by
  have h1 := h.bd a ha
  have h2 := h.bd c hc
  exact popw_sub h1.1 h1.2 h2.1 h2.2 hs
theorem ups_inj {zs : List Int} (h : VoP zs) (ht : twoB zs = false) {a c : Nat} (ha : a < zs.length) (hc : c < zs.length) (he : pU zs a = pU zs c) : zs[a]?.getD 0 = zs[c]?.getD 0 := by
  rcases nested h ht ha hc with hs | hs
  · exact (ups_sub h ha hc hs).2 (by omega)
  · exact ((ups_sub h hc ha hs).2 (by omega)).symm
/-- What has an item above that another one lacks has more above. -/
theorem ups_more {zs : List Int} (h : VoP zs) (ht : twoB zs = false) {a c : Nat} (ha : a < zs.length) (hc : c < zs.length) {b : Nat} (h1 : bt zs a b) (h2 : ¬ bt zs c b) : pU zs c < pU zs a := by
  rcases nested h ht ha hc with hs | hs
  · exact absurd (hs b h1) h2
  · have h3 := ups_sub h hc ha hs
    rcases ilt_or_ge (pU zs c) (pU zs a) with h4 | h4
    · exact h4
    · have := h3.2 h4
      unfold bt at h1 h2
      rw [this] at h2
      exact absurd h1 h2
theorem ups_ex {zs : List Int} (h : VoP zs) (ht : twoB zs = false) {a c : Nat} (ha : a < zs.length) (hc : c < zs.length) (hl : pU zs a < pU zs c) : ∃ b : Nat, bt zs c b ∧ ¬ bt zs a b := by
  refine Classical.byContradiction fun hn => ?_
  have hs : ∀ j : Nat, bt zs c j → bt zs a j := fun j hj => Classical.byContradiction fun hj' => hn ⟨j, hj, hj'⟩
  have := (ups_sub h hc ha hs).1
  omega
theorem pU_nn {zs : List Int} (h : VoP zs) {c : Nat} (hc : c < zs.length) : 0 ≤ pU zs c := by
  have := h.bd c hc
  exact (popI_bd this.1 this.2).1

/-! The number that tells what is below an item. -/
/-- The most that is above an item that the set lacks. -/
def tauI (zs : List Int) (d : Int) : Int := maxL (pU zs) ((List.range zs.length).filter fun c : Nat => !bitB d c) - 1
theorem tau_col {zs : List Int} (h : VoP zs) (ht : twoB zs = false) {b : Nat} (hb : b < zs.length) :
    (∃ c, c < zs.length ∧ pU zs c = tauI zs ((du zs)[b]?.getD 0)) ∧ ∀ c, c < zs.length → (bt zs c b ↔ tauI zs ((du zs)[b]?.getD 0) < pU zs c) := by
  have hmem : ∀ c : Nat, c ∈ ((List.range zs.length).filter fun c : Nat => !bitB ((du zs)[b]?.getD 0) c) ↔ c < zs.length ∧ ¬ bt zs c b := fun c => by
    rw [List.mem_filter, List.mem_range, Bool.not_eq_true', du_bit h.sets]
    unfold bt
    rw [Bool.not_eq_true]
  unfold tauI
  generalize hl : ((List.range zs.length).filter fun c : Nat => !bitB ((du zs)[b]?.getD 0) c) = l at *
  have hge := maxL_ge (pU zs) l
  have hbl : b ∈ l := (hmem b).2 ⟨hb, fun e => by rw [bt, h.irrB hb] at e; cases e⟩
  have hex : ∃ c ∈ l, maxL (pU zs) l = pU zs c + 1 := by
    rcases maxL_eq (pU zs) l with e | e
    · have h1 := hge.2 b hbl
      have h2 := pU_nn h hb
      omega
    · exact e
  obtain ⟨c0, hc0, e0⟩ := hex
  obtain ⟨hc0n, hc0b⟩ := (hmem c0).1 hc0
  refine ⟨⟨c0, hc0n, by omega⟩, fun c hc => ⟨fun hcb => ?_, fun hlt => ?_⟩⟩
  · have := ups_more h ht hc hc0n hcb hc0b
    omega
  · refine Classical.byContradiction fun hn => ?_
    have := hge.2 c ((hmem c).2 ⟨hc, hn⟩)
    omega
abbrev tC (zs : List Int) (b : Nat) : Int := tauI zs ((du zs)[b]?.getD 0)
theorem tau_inj {zs : List Int} (h : VoP zs) (ht : twoB zs = false) {b d : Nat} (hb : b < zs.length) (hd : d < zs.length) (he : tC zs b = tC zs d) : (du zs)[b]?.getD 0 = (du zs)[d]?.getD 0 := by
  have h1 := (tau_col h ht hb).2
  have h2 := (tau_col h ht hd).2
  have hD := du_vo h
  refine bitB_ext (hD.bd b (by rw [du_len]; exact hb)).1 (hD.bd d (by rw [du_len]; exact hd)).1 fun c => ?_
  rw [du_bit h.sets, du_bit h.sets, Bool.eq_iff_iff]
  by_cases hc : c < zs.length
  · have h3 := h1 c hc
    have h4 := h2 c hc
    unfold bt at h3 h4
    unfold tC at he
    rw [h3, h4, he]
  · have hz : zs[c]?.getD 0 = 0 := by rw [List.getElem?_eq_none (by omega)]; rfl
    rw [hz, bitB_zero, bitB_zero]
/-- What is below items: more of it where the number is less. -/
theorem col_lt {zs : List Int} (h : VoP zs) (ht : twoB zs = false) {b d : Nat} (hb : b < zs.length) (hd : d < zs.length) :
    popI ((du zs)[d]?.getD 0) < popI ((du zs)[b]?.getD 0) ↔ tC zs b < tC zs d := by
  have hD := du_vo h
  have key : ∀ {b d : Nat}, b < zs.length → d < zs.length → tC zs b < tC zs d → popI ((du zs)[d]?.getD 0) < popI ((du zs)[b]?.getD 0) := fun {b d} hb hd hlt => by
    obtain ⟨⟨c0, hc0, e0⟩, hdc⟩ := tau_col h ht hd
    have hbc := (tau_col h ht hb).2
    unfold tC at hlt
    have hB := hD.bd b (by rw [du_len]; exact hb)
    have hDd := hD.bd d (by rw [du_len]; exact hd)
    have hs : ∀ j : Nat, bitB ((du zs)[d]?.getD 0) j = true → bitB ((du zs)[b]?.getD 0) j = true := fun j hj => by
      rw [du_bit h.sets] at hj ⊢
      have hjn : j < zs.length := by
        rcases Nat.lt_or_ge j zs.length with h9 | h9
        · exact h9
        · rw [List.getElem?_eq_none (by omega)] at hj; simp [bitB_zero] at hj
      have h5 := (hdc j hjn).1 hj
      exact (hbc j hjn).2 (by omega)
    obtain ⟨h6, h7⟩ := popw_sub hDd.1 hDd.2 hB.1 hB.2 hs
    rcases ilt_or_ge (popI ((du zs)[d]?.getD 0)) (popI ((du zs)[b]?.getD 0)) with h8 | h8
    · exact h8
    · exfalso
      have e := h7 h8
      have h9 : bt zs c0 b := (hbc c0 hc0).2 (by omega)
      have h10 : bt zs c0 d := by
        unfold bt at h9 ⊢
        rw [← du_bit h.sets, e, du_bit h.sets]; exact h9
      have := (hdc c0 hc0).1 h10
      omega
  constructor
  · intro hp
    rcases ilt_or_ge (tC zs b) (tC zs d) with h1 | h1
    · exact h1
    · exfalso
      rcases ilt_or_ge (tC zs d) (tC zs b) with h2 | h2
      · have := key hd hb h2; omega
      · have := tau_inj h ht hb hd (by omega)
        rw [this] at hp; omega
  · exact key hb hd
/-- Each number of items above is one that tells what is below an item. -/
theorem tau_all {zs : List Int} (h : VoP zs) (ht : twoB zs = false) {a : Nat} (ha : a < zs.length) : ∃ b, b < zs.length ∧ tC zs b = pU zs a := by
  by_cases hmax : ∀ c, c < zs.length → pU zs c ≤ pU zs a
  · refine ⟨a, ha, ?_⟩
    obtain ⟨⟨c0, hc0, e0⟩, hac⟩ := tau_col h ht ha
    have h1 := hmax c0 hc0
    have h2 : ¬ bt zs a a := fun e => by rw [bt, h.irrB ha] at e; cases e
    have h3 := mt (hac a ha).2 h2
    unfold tC
    omega
  · have hex : ∃ c, c < zs.length ∧ pU zs a < pU zs c := by
      refine Classical.byContradiction fun hn => hmax fun c hc => ?_
      refine Int.not_lt.1 fun h1 => hn ⟨c, hc, h1⟩
    have hmin : ∀ k : Nat, ∀ c, c < zs.length → pU zs a < pU zs c → (pU zs c).toNat ≤ k → ∃ m, m < zs.length ∧ pU zs a < pU zs m ∧ ∀ q, q < zs.length → pU zs a < pU zs q → pU zs m ≤ pU zs q := fun k => by
      induction k with
      | zero => intro c hc h1 h2; have := pU_nn h ha; omega
      | succ k ih =>
        intro c hc h1 h2
        by_cases hs : ∃ q, q < zs.length ∧ pU zs a < pU zs q ∧ pU zs q < pU zs c
        · obtain ⟨q, hq, h3, h4⟩ := hs
          exact ih q hq h3 (by omega)
        · exact ⟨c, hc, h1, fun q hq h3 => Int.not_lt.1 fun h4 => hs ⟨q, hq, h3, h4⟩⟩
    obtain ⟨c, hc, hac⟩ := hex
    obtain ⟨m, hm, ham, hmm⟩ := hmin _ c hc hac (Nat.le_refl _)
    obtain ⟨b, hmb, hab⟩ := ups_ex h ht ha hm ham
    have hb := h.lt_n ⟨hm, hmb⟩
    obtain ⟨⟨c0, hc0, e0⟩, hcol⟩ := tau_col h ht hb
    have h1 := (hcol m hm).1 hmb
    have h2 := mt (hcol a ha).2 hab
    refine ⟨b, hb, ?_⟩
    unfold tC
    rcases ilt_or_ge (pU zs a) (pU zs c0) with h3 | h3
    · have := hmm c0 hc0 h3; omega
    · omega

/-! Both lists of numbers. -/
def valU (zs : List Int) : List Int := (difA zs).map popI
def valD (zs : List Int) : List Int := (difA (du zs)).map (tauI zs)
theorem mem_at {zs : List Int} {y : Int} : y ∈ zs ↔ ∃ a, a < zs.length ∧ zs[a]?.getD 0 = y := by
  constructor
  · intro h
    obtain ⟨i, hi, e⟩ := List.getElem_of_mem h
    exact ⟨i, hi, by rw [List.getElem?_eq_getElem hi]; exact e⟩
  · rintro ⟨a, ha, rfl⟩
    rw [List.getElem?_eq_getElem ha]; exact List.getElem_mem ha
theorem valU_mem (zs : List Int) (v : Int) : v ∈ valU zs ↔ ∃ a, a < zs.length ∧ pU zs a = v := by
  unfold valU
  rw [List.mem_map]
  constructor
  · rintro ⟨y, hy, rfl⟩
    rw [difA_mem] at hy
    obtain ⟨a, ha, rfl⟩ := mem_at.1 hy
    exact ⟨a, ha, rfl⟩
  · rintro ⟨a, ha, rfl⟩
    exact ⟨_, (difA_mem _ _).2 (mem_at.2 ⟨a, ha, rfl⟩), rfl⟩
theorem valD_mem (zs : List Int) (v : Int) : v ∈ valD zs ↔ ∃ b, b < zs.length ∧ tC zs b = v := by
  unfold valD
  rw [List.mem_map]
  constructor
  · rintro ⟨y, hy, rfl⟩
    rw [difA_mem] at hy
    obtain ⟨a, ha, rfl⟩ := mem_at.1 hy
    exact ⟨a, by rwa [du_len] at ha, rfl⟩
  · rintro ⟨a, ha, rfl⟩
    exact ⟨_, (difA_mem _ _).2 (mem_at.2 ⟨a, by rw [du_len]; exact ha, rfl⟩), rfl⟩
theorem valU_nodup {zs : List Int} (h : VoP zs) (ht : twoB zs = false) : (valU zs).Nodup := by
  unfold valU List.Nodup
  rw [List.pairwise_map]
  refine (difA_nodup zs).imp_of_mem ?_
  intro x y hx hy hne e
  rw [difA_mem] at hx hy
  obtain ⟨a, ha, rfl⟩ := mem_at.1 hx
  obtain ⟨c, hc, rfl⟩ := mem_at.1 hy
  exact hne (ups_inj h ht ha hc e)
theorem valD_nodup {zs : List Int} (h : VoP zs) (ht : twoB zs = false) : (valD zs).Nodup := by
  unfold valD List.Nodup
  rw [List.pairwise_map]
  refine (difA_nodup (du zs)).imp_of_mem ?_
  intro x y hx hy hne e
  rw [difA_mem] at hx hy
  obtain ⟨a, ha, rfl⟩ := mem_at.1 hx
  obtain ⟨c, hc, rfl⟩ := mem_at.1 hy
  rw [du_len] at ha hc
  exact hne (tau_inj h ht ha hc e)
theorem val_perm {zs : List Int} (h : VoP zs) (ht : twoB zs = false) : (valD zs).Perm (valU zs) := by
  refine (List.perm_ext_iff_of_nodup (valD_nodup h ht) (valU_nodup h ht)).2 fun v => ?_
  rw [valD_mem, valU_mem]
  constructor
  · rintro ⟨b, hb, rfl⟩
    exact (tau_col h ht hb).1
  · rintro ⟨a, ha, rfl⟩
    exact tau_all h ht ha
theorem ups_downs {zs : List Int} (h : VoP zs) (ht : twoB zs = false) : (difA (du zs)).length = (difA zs).length := by
  have := (val_perm h ht).length_eq
  unfold valD valU at this
  simpa using this

/-! Spans. -/
/-- How many different sets below items are less than that below the item. -/
def firR (zs : List Int) (b : Nat) : Nat := ((difA (du zs)).filter fun d => decide (popI d < popI ((du zs)[b]?.getD 0))).length
/-- How many different sets above items are greater than that above the item. -/
def lasR (zs : List Int) (a : Nat) : Nat := ((difA zs).filter fun u => decide (popI (zs[a]?.getD 0) < popI u)).length
def gtN (l : List Int) (t : Int) : Nat := (l.filter fun v => decide (t < v)).length
theorem filter_map_len {α β : Type} (f : α → β) (p : β → Bool) (q : α → Bool) : ∀ l : List α, (∀ x ∈ l, p (f x) = q x) → ((l.map f).filter p).length = (l.filter q).length
  | [], _ => rfl
  | x :: l, h => by
    have ih := filter_map_len f p q l (fun y hy => h y (by simp [hy]))
    rw [List.map_cons, List.filter_cons, List.filter_cons, h x (by simp)]
    split <;> simp [ih]
theorem las_gt (zs : List Int) (a : Nat) : lasR zs a = gtN (valU zs) (pU zs a) := by
  unfold lasR gtN valU
  exact (filter_map_len popI (fun v => decide (pU zs a < v)) (fun u => decide (popI (zs[a]?.getD 0) < popI u)) _ (fun _ _ => rfl)).symm
theorem fir_gt {zs : List Int} (h : VoP zs) (ht : twoB zs = false) {b : Nat} (hb : b < zs.length) : firR zs b = gtN (valU zs) (tC zs b) := by
  have h1 : firR zs b = gtN (valD zs) (tC zs b) := by
    unfold firR gtN valD
    refine (filter_map_len (tauI zs) _ _ _ (fun x hx => ?_)).symm
    rw [difA_mem] at hx
    obtain ⟨d, hd, rfl⟩ := mem_at.1 hx
    rw [du_len] at hd
    have := col_lt h ht hb hd
    rw [Bool.eq_iff_iff, decide_eq_true_eq, decide_eq_true_eq]
    exact this.symm
  rw [h1]
  unfold gtN
  exact ((val_perm h ht).filter _).length_eq
theorem gt_mono (l : List Int) {s t : Int} (h : s ≤ t) : gtN l t ≤ gtN l s := by
  unfold gtN
  induction l with
  | nil => simp
  | cons x l ih =>
    rw [List.filter_cons, List.filter_cons]
    by_cases h1 : t < x
    · rw [if_pos (by simpa using h1), if_pos (by simp; omega)]; simp; exact ih
    · rw [if_neg (by simpa using h1)]
      split
      · simp; omega
      · exact ih
theorem gt_strict {l : List Int} {t v : Int} (hv : v ∈ l) (h : t < v) : gtN l v < gtN l t := by
  induction l with
  | nil => cases hv
  | cons x l ih =>
    have hm := gt_mono l (show t ≤ v by omega)
    unfold gtN at *
    rw [List.filter_cons, List.filter_cons]
    rcases List.mem_cons.1 hv with rfl | hv
    · rw [if_neg (by simp), if_pos (by simpa using h)]; simp; omega
    · have := ih hv
      by_cases h1 : v < x
      · rw [if_pos (by simpa using h1), if_pos (by simp; omega)]; simp; exact this
      · rw [if_neg (by simpa using h1)]
        split
        · simp; omega
        · exact this
theorem gt_len {l : List Int} {v : Int} (hv : v ∈ l) : gtN l v < l.length := by
  have h1 := gt_strict hv (show v - 1 < v by omega)
  have h2 : gtN l (v - 1) ≤ l.length := List.length_filter_le _ _
  omega
theorem span_lt {zs : List Int} (h : VoP zs) (ht : twoB zs = false) {a b : Nat} (ha : a < zs.length) (hb : b < zs.length) : bitB (zs[a]?.getD 0) b = decide (lasR zs a < firR zs b) := by
  rw [las_gt, fir_gt h ht hb, Bool.eq_iff_iff, decide_eq_true_eq]
  have h1 := (tau_col h ht hb).2 a ha
  constructor
  · intro h2
    exact gt_strict ((valU_mem _ _).2 ⟨a, ha, rfl⟩) (h1.1 h2)
  · intro h2
    refine h1.2 (Int.not_le.1 fun h3 => ?_)
    exact absurd h2 (Nat.not_lt.2 (gt_mono (valU zs) h3))
theorem span_ok {zs : List Int} (h : VoP zs) (ht : twoB zs = false) {a : Nat} (ha : a < zs.length) : firR zs a ≤ lasR zs a ∧ lasR zs a < (difA zs).length := by
  have h1 := span_lt h ht ha ha
  rw [h.irrB ha] at h1
  have h2 : ¬ lasR zs a < firR zs a := by simpa using h1.symm
  refine ⟨by omega, ?_⟩
  have h3 := gt_len ((valU_mem zs (pU zs a)).2 ⟨a, ha, rfl⟩)
  rw [las_gt]
  unfold valU at h3 ⊢
  rwa [List.length_map] at h3
end Go.Proofs.YtdcdddmjffgibaaGreat

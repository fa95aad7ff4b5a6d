/- Heights: raising by pairs, round after round, comes to one and the same, in whatever order the pairs stand. No program. -/
import Derived.Test.YtipdmaggfbfnlaaDual
set_option linter.unusedVariables false
set_option linter.unusedSimpArgs false
namespace Go.Proofs.Ytipdmaggfbfnlaa

/-- a is below b. -/
def lt (zs : List Int) (a b : Nat) : Prop := a < zs.length ∧ bitB (zs[a]?.getD 0) b = true
theorem VoP.irr {zs : List Int} (h : VoP zs) {a : Nat} : ¬ lt zs a a := fun ⟨h1, h2⟩ => by
  have := h.2.1 a h1
  simp [okA, h2] at this
theorem VoP.lt_n {zs : List Int} (h : VoP zs) {a b : Nat} (hl : lt zs a b) : b < zs.length := bitB_lt (h.sets.2 a hl.1).2 hl.2
theorem VoP.trans {zs : List Int} (h : VoP zs) {a b c : Nat} (h1 : lt zs a b) (h2 : lt zs b c) : lt zs a c := by
  have hb := h.lt_n h1
  have hp := h.2.2 a h1.1 b hb
  simp only [okP, h1.2, Bool.not_true, Bool.false_or, Bool.and_eq_true, beq_iff_eq] at hp
  exact ⟨h1.1, lessI_zero hp.1 c h2.2⟩

def below (zs : List Int) (b : Nat) : List Nat := (List.range zs.length).filter fun a => bitB (zs[a]?.getD 0) b
theorem mem_below {zs : List Int} {a b : Nat} : a ∈ below zs b ↔ lt zs a b := by simp [below, lt]

theorem filter_lt {p q : Nat → Bool} {x : Nat} : ∀ l : List Nat, (∀ y ∈ l, p y = true → q y = true) → x ∈ l → q x = true → p x = false → (l.filter p).length < (l.filter q).length
  | [], _, hx, _, _ => by cases hx
  | y :: l, hpq, hx, hq, hp => by
    have hle : (l.filter p).length ≤ (l.filter q).length := by
      clear hx
      induction l with
      | nil => simp
      | cons z l ih =>
        have ih := ih (fun y hy => hpq y (by simp at hy ⊢; rcases hy with h | h <;> simp [h]))
        have hz := hpq z (by simp)
        cases h1 : p z <;> cases h2 : q z <;> simp [h1, h2] at hz ⊢ <;> omega
    rcases List.mem_cons.1 hx with rfl | hx
    · simp [hq, hp]; omega
    · have ih := filter_lt l (fun y hy => hpq y (by simp [hy])) hx hq hp
      have hy := hpq y (by simp)
      cases h1 : p y <;> cases h2 : q y <;> simp [h1, h2] at hy ⊢ <;> omega
def rank (zs : List Int) (b : Nat) : Nat := (below zs b).length
theorem rank_lt {zs : List Int} (h : VoP zs) {a b : Nat} (hl : lt zs a b) : rank zs a < rank zs b := by
  refine filter_lt (x := a) _ (fun y hy hp => ?_) (List.mem_range.2 hl.1) hl.2 ?_
  · exact (h.trans ⟨List.mem_range.1 hy, hp⟩ hl).2
  · cases hb : bitB (zs[a]?.getD 0) a with
    | false => rfl
    | true => exact absurd ⟨hl.1, hb⟩ h.irr
theorem rank_bd {zs : List Int} (h : VoP zs) {b : Nat} (hb : b < zs.length) : rank zs b < zs.length := by
  have : (below zs b).length < ((List.range zs.length).filter fun _ => true).length := by
    refine filter_lt (x := b) _ (fun _ _ _ => rfl) (List.mem_range.2 hb) rfl ?_
    cases hc : bitB (zs[b]?.getD 0) b with
    | false => rfl
    | true => exact absurd ⟨hb, hc⟩ h.irr
  rw [List.filter_eq_self.2 (fun _ _ => rfl), List.length_range] at this
  exact this

def maxL (f : Nat → Int) (l : List Nat) : Int := l.foldl (fun m a => max m (f a + 1)) 0
theorem maxL_ge (f : Nat → Int) : ∀ (l : List Nat), 0 ≤ maxL f l ∧ ∀ a ∈ l, f a + 1 ≤ maxL f l := by
  have key : ∀ (l : List Nat) (m : Int), m ≤ l.foldl (fun m a => max m (f a + 1)) m ∧ ∀ a ∈ l, f a + 1 ≤ l.foldl (fun m a => max m (f a + 1)) m := fun l => by
    induction l with
    | nil => exact fun m => ⟨Int.le_refl _, fun _ h => by cases h⟩
    | cons x l ih =>
      intro m
      have h := ih (max m (f x + 1))
      refine ⟨by simp only [List.foldl_cons]; omega, fun a ha => ?_⟩
      simp only [List.foldl_cons]
      rcases List.mem_cons.1 ha with rfl | ha
      · omega
      · exact h.2 a ha
  exact fun l => key l 0
theorem maxL_eq (f : Nat → Int) : ∀ (l : List Nat), maxL f l = 0 ∨ ∃ a ∈ l, maxL f l = f a + 1 := by
  have key : ∀ (l : List Nat) (m : Int), l.foldl (fun m a => max m (f a + 1)) m = m ∨ ∃ a ∈ l, l.foldl (fun m a => max m (f a + 1)) m = f a + 1 := fun l => by
    induction l with
    | nil => exact fun m => .inl rfl
    | cons x l ih =>
      intro m
      simp only [List.foldl_cons]
      rcases ih (max m (f x + 1)) with h | ⟨a, ha, h⟩
      · rcases Int.le_total m (f x + 1) with h1 | h1
        · exact .inr ⟨x, by simp, by rw [h]; omega⟩
        · exact .inl (by rw [h]; omega)
      · exact .inr ⟨a, by simp [ha], h⟩
  exact fun l => key l 0
theorem maxL_congr {f g : Nat → Int} {l : List Nat} (h : ∀ a ∈ l, f a = g a) : maxL f l = maxL g l := by
  have key : ∀ (l : List Nat) (m : Int), (∀ a ∈ l, f a = g a) → l.foldl (fun m a => max m (f a + 1)) m = l.foldl (fun m a => max m (g a + 1)) m := fun l => by
    induction l with
    | nil => exact fun m _ => rfl
    | cons x l ih =>
      intro m hl
      simp only [List.foldl_cons]
      rw [hl x (by simp)]
      exact ih _ (fun a ha => hl a (by simp [ha]))
  exact key l 0 h

def hF (zs : List Int) : Nat → Nat → Int
  | 0, _ => 0
  | k + 1, b => maxL (hF zs k) (below zs b)
theorem hF_stable {zs : List Int} (h : VoP zs) : ∀ (k b : Nat), rank zs b < k → hF zs (k + 1) b = hF zs k b
  | 0, b, hk => by omega
  | k + 1, b, hk => by
    show maxL (hF zs (k + 1)) (below zs b) = maxL (hF zs k) (below zs b)
    refine maxL_congr fun a ha => hF_stable h k a ?_
    have := rank_lt h (mem_below.1 ha)
    omega
theorem hF_rank {zs : List Int} (h : VoP zs) : ∀ (k b : Nat), hF zs k b ≤ rank zs b
  | 0, b => by simp [hF]
  | k + 1, b => by
    rcases maxL_eq (hF zs k) (below zs b) with e | ⟨a, ha, e⟩
    · show maxL (hF zs k) (below zs b) ≤ _; omega
    · have h1 := hF_rank h k a
      have h2 := rank_lt h (mem_below.1 ha)
      show maxL (hF zs k) (below zs b) ≤ _; omega

/-- The height of an item. -/
def hgt (zs : List Int) (b : Nat) : Int := hF zs 6 b
theorem hgt_up {zs : List Int} (h : VoP zs) {a b : Nat} (hl : lt zs a b) : hgt zs a + 1 ≤ hgt zs b := by
  have hb := h.lt_n hl
  have hr := rank_bd h hb
  have h6 := h.1
  have e : hgt zs b = maxL (hF zs 6) (below zs b) := (hF_stable h 6 b (by omega)).symm
  rw [e]
  exact (maxL_ge (hF zs 6) (below zs b)).2 a (mem_below.2 hl)
theorem hgt_eq {zs : List Int} (h : VoP zs) {b : Nat} (hb : b < zs.length) : hgt zs b = 0 ∨ ∃ a, lt zs a b ∧ hgt zs b = hgt zs a + 1 := by
  have hr := rank_bd h hb
  have h6 := h.1
  have e : hgt zs b = maxL (hF zs 6) (below zs b) := (hF_stable h 6 b (by omega)).symm
  rw [e]
  rcases maxL_eq (hF zs 6) (below zs b) with e | ⟨a, ha, e⟩
  · exact .inl e
  · exact .inr ⟨a, mem_below.1 ha, e⟩
theorem hgt_nn (zs : List Int) (b : Nat) : 0 ≤ hgt zs b := (maxL_ge (hF zs 5) (below zs b)).1
theorem hgt_bd {zs : List Int} (h : VoP zs) {b : Nat} (hb : b < zs.length) : hgt zs b < zs.length := by
  have h1 := hF_rank h 6 b
  have h2 := rank_bd h hb
  unfold hgt
  omega

/-- One pair raises the second item. -/
def up1 (S : List Int) (p : Nat × Nat) : List Int := S.set p.2 (max (S[p.2]?.getD 0) (S[p.1]?.getD 0 + 1))
def upL (S : List Int) (ps : List (Nat × Nat)) : List Int := ps.foldl up1 S
def upN (ps : List (Nat × Nat)) : Nat → List Int → List Int
  | 0, S => S
  | k + 1, S => upL (upN ps k S) ps
theorem upL_snoc (S : List Int) (ps : List (Nat × Nat)) (p : Nat × Nat) : upL S (ps ++ [p]) = up1 (upL S ps) p := by simp [upL]
theorem up1_len (S : List Int) (p : Nat × Nat) : (up1 S p).length = S.length := by simp [up1]
theorem upL_len (ps : List (Nat × Nat)) : ∀ S : List Int, (upL S ps).length = S.length := by
  induction ps with
  | nil => exact fun _ => rfl
  | cons p ps ih => intro S; show (upL (up1 S p) ps).length = _; rw [ih, up1_len]
theorem upN_len (ps : List (Nat × Nat)) (S : List Int) : ∀ k : Nat, (upN ps k S).length = S.length
  | 0 => rfl
  | k + 1 => by rw [upN, upL_len, upN_len ps S k]

/-- The state is of numbers from 0 up to the heights. -/
def Low (zs S : List Int) : Prop := S.length = zs.length ∧ ∀ b, b < zs.length → 0 ≤ S[b]?.getD 0 ∧ S[b]?.getD 0 ≤ hgt zs b
theorem up1_get {S : List Int} {p : Nat × Nat} {b : Nat} (hp : p.2 < S.length) : (up1 S p)[b]?.getD 0 = if p.2 = b then max (S[p.2]?.getD 0) (S[p.1]?.getD 0 + 1) else S[b]?.getD 0 := by
  unfold up1
  by_cases h : p.2 = b
  · subst h
    rw [List.getElem?_set_self hp, if_pos rfl]; rfl
  · rw [List.getElem?_set_ne h, if_neg h]
theorem up1_low {zs S : List Int} (h : VoP zs) (hS : Low zs S) {p : Nat × Nat} (hl : lt zs p.1 p.2) : Low zs (up1 S p) ∧ ∀ b, b < zs.length → S[b]?.getD 0 ≤ (up1 S p)[b]?.getD 0 := by
  have hb := h.lt_n hl
  have hu := hgt_up h hl
  have h1 := hS.2 _ hl.1
  have hp : p.2 < S.length := by rw [hS.1]; exact hb
  refine ⟨⟨by rw [up1_len, hS.1], fun b hbb => ?_⟩, fun b hbb => ?_⟩
  · rw [up1_get hp]
    have h2 := hS.2 b hbb
    split
    · rename_i e; subst e; omega
    · exact h2
  · rw [up1_get hp]
    split
    · rename_i e; subst e; omega
    · exact Int.le_refl _
theorem upL_low {zs : List Int} (h : VoP zs) : ∀ (ps : List (Nat × Nat)) (S : List Int), Low zs S → (∀ p ∈ ps, lt zs p.1 p.2) →
    Low zs (upL S ps) ∧ (∀ b, b < zs.length → S[b]?.getD 0 ≤ (upL S ps)[b]?.getD 0) ∧ ∀ p ∈ ps, S[p.1]?.getD 0 + 1 ≤ (upL S ps)[p.2]?.getD 0
  | [], S, hS, _ => ⟨hS, fun _ _ => Int.le_refl _, fun _ hp => by cases hp⟩
  | p :: ps, S, hS, hps => by
    have hl := hps p (by simp)
    obtain ⟨h1, h2⟩ := up1_low h hS hl
    obtain ⟨h3, h4, h5⟩ := upL_low h ps (up1 S p) h1 (fun q hq => hps q (by simp [hq]))
    have hb := h.lt_n hl
    refine ⟨h3, fun b hbb => Int.le_trans (h2 b hbb) (h4 b hbb), fun q hq => ?_⟩
    rcases List.mem_cons.1 hq with rfl | hq
    · have h6 := h4 q.2 hb
      have h7 : (up1 S q)[q.2]?.getD 0 = max (S[q.2]?.getD 0) (S[q.1]?.getD 0 + 1) := by rw [up1_get (by rw [hS.1]; exact hb), if_pos rfl]
      show _ ≤ (upL (up1 S q) ps)[q.2]?.getD 0
      omega
    · have hq1 := hps q (by simp [hq])
      have h6 := h5 q hq
      have h7 := h2 q.1 hq1.1
      show _ ≤ (upL (up1 S p) ps)[q.2]?.getD 0
      omega
theorem upN_low {zs : List Int} (h : VoP zs) {ps : List (Nat × Nat)} (hps : ∀ p ∈ ps, lt zs p.1 p.2) : ∀ k : Nat, Low zs (upN ps k (List.replicate zs.length 0))
  | 0 => ⟨by simp [upN], fun b hb => by simp [upN, hb]; exact hgt_nn _ _⟩
  | k + 1 => (upL_low h ps _ (upN_low h hps k) hps).1
theorem upN_reach {zs : List Int} (h : VoP zs) {ps : List (Nat × Nat)} (hps : ∀ p ∈ ps, lt zs p.1 p.2) (hall : ∀ a b, lt zs a b → (a, b) ∈ ps) :
    ∀ (k b : Nat), b < zs.length → min (hgt zs b) (k : Int) ≤ (upN ps k (List.replicate zs.length 0))[b]?.getD 0
  | 0, b, hb => by
    have := ((upN_low h hps 0).2 b hb).1
    omega
  | k + 1, b, hb => by
    have hL := upN_low h hps k
    obtain ⟨h1, h2, h3⟩ := upL_low h ps _ hL hps
    have h0 := (h1.2 b hb).1
    show _ ≤ (upL (upN ps k (List.replicate zs.length 0)) ps)[b]?.getD 0
    rcases hgt_eq h hb with e | ⟨a, hl, e⟩
    · omega
    · have h4 := upN_reach h hps hall k a hl.1
      have h5 := h3 (a, b) (hall a b hl)
      simp only at h5
      omega
theorem upN_all {zs : List Int} (h : VoP zs) {ps : List (Nat × Nat)} (hps : ∀ p ∈ ps, lt zs p.1 p.2) (hall : ∀ a b, lt zs a b → (a, b) ∈ ps) :
    upN ps zs.length (List.replicate zs.length 0) = (List.range zs.length).map (hgt zs) := by
  have hlen : (upN ps zs.length (List.replicate zs.length 0)).length = zs.length := by rw [upN_len]; simp
  refine List.ext_getElem (by rw [hlen]; simp) fun b h1 h2 => ?_
  rw [hlen] at h1
  have h3 := upN_reach h hps hall zs.length b h1
  have h4 := ((upN_low h hps zs.length).2 b h1).2
  have h5 := hgt_bd h h1
  rw [List.getElem?_eq_getElem (by rw [hlen]; exact h1)] at h3 h4
  simp only [Option.getD_some] at h3 h4
  simp only [List.getElem_map, List.getElem_range]
  omega

theorem lt_pairs {zs : List Int} {p : Nat × Nat} (hp : p ∈ pairsL zs) : lt zs p.1 p.2 := by
  obtain ⟨a, b⟩ := p
  have := mem_pairsL.1 hp
  exact ⟨this.1, this.2.2⟩
theorem pairs_lt {zs : List Int} (h : VoP zs) {a b : Nat} (hl : lt zs a b) : (a, b) ∈ pairsL zs := mem_pairsL.2 ⟨hl.1, by have := h.lt_n hl; have := h.1; omega, hl.2⟩

/-- What is turned round holds just the pairs. -/
theorem downP_bit {n : Nat} {ps : List (Nat × Nat)} (hps : ∀ p ∈ ps, p.2 < n) (a b : Nat) : bitB ((downP n ps)[b]?.getD 0) a = true ↔ (a, b) ∈ ps := by
  have key : ∀ (ps : List (Nat × Nat)) (d : List Int), d.length = n → (∀ p ∈ ps, p.2 < n) →
      (bitB ((ps.foldl (fun (d : List Int) (p : Nat × Nat) => d.set p.2 (orI (d[p.2]?.getD 0) (powI p.1))) d)[b]?.getD 0) a = true ↔ bitB (d[b]?.getD 0) a = true ∨ (a, b) ∈ ps) := fun ps => by
    induction ps with
    | nil => intro d _ _; simp
    | cons p ps ih =>
      intro d hd hp
      rw [List.foldl_cons, ih _ (by simpa using hd) (fun q hq => hp q (by simp [hq]))]
      have hp2 := hp p (by simp)
      obtain ⟨x, y⟩ := p
      simp only at hp2
      by_cases hy : y = b
      · subst hy
        rw [List.getElem?_set_self (by omega), Option.getD_some, bitB_or, bitB_pow]
        by_cases hx : x = a
        · simp [hx]
        · have hx' : ¬ a = x := fun e => hx e.symm
          simp [hx, hx']
      · have hy' : ¬ b = y := fun e => hy e.symm
        rw [List.getElem?_set_ne hy]
        simp [hy']
  unfold downP
  rw [key ps _ (by simp) hps]
  by_cases hb : b < n
  · simp [hb, bitB_zero]
  · simp [hb, bitB_zero]
theorem down_sets {zs : List Int} (h : Sets zs) : Sets (downP zs.length (pairsL zs)) := ⟨by rw [downP_len]; exact h.1, fun a _ => by
  rw [downP_len]
  exact downP_bd (fun p hp => (h.pair (a := p.1) (b := p.2) hp).1) a⟩
theorem down_lt {zs : List Int} (h : VoP zs) {a b : Nat} : (b, a) ∈ pairsL (downP zs.length (pairsL zs)) ↔ lt zs a b := by
  have hn : ∀ p ∈ pairsL zs, p.2 < zs.length := fun p hp => (h.sets.pair (a := p.1) (b := p.2) hp).2.1
  rw [mem_pairsL, downP_len, downP_bit hn]
  constructor
  · rintro ⟨_, _, h3⟩
    exact lt_pairs h3
  · intro hl
    exact ⟨h.lt_n hl, by have := hl.1; have := h.1; omega, pairs_lt h hl⟩

def heightsR (zs : List Int) : List Int := if vo zs then (List.range zs.length).map (hgt zs) else []
theorem heightsR_le (zs : List Int) : (heightsR zs).length ≤ 1048576 := by
  unfold heightsR
  cases hv : vo zs
  · simp
  · have hvo : VoP zs := by simpa [vo] using hv
    have := hvo.1
    simp
    omega
def swaps (ps : List (Nat × Nat)) : List (Nat × Nat) := ps.map fun p => (p.2, p.1)
theorem swaps_lt {zs : List Int} (h : VoP zs) : ∀ p ∈ swaps (pairsL (downP zs.length (pairsL zs))), lt zs p.1 p.2 := fun p hp => by
  obtain ⟨q, hq, rfl⟩ := List.mem_map.1 hp
  exact (down_lt h).1 hq
theorem lt_swaps {zs : List Int} (h : VoP zs) (a b : Nat) (hl : lt zs a b) : (a, b) ∈ swaps (pairsL (downP zs.length (pairsL zs))) :=
  List.mem_map.2 ⟨(b, a), (down_lt h).2 hl, rfl⟩
end Go.Proofs.Ytipdmaggfbfnlaa

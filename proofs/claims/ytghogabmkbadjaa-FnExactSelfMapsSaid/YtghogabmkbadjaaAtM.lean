/- LineAt, as plain mathematics: the line of a rank, item by item. No program. -/
import Derived.Test.YtghogabmkbadjaaRankM
set_option linter.unusedVariables false
set_option linter.unusedSimpArgs false
namespace Go.Proofs.Ytghogabmkbadjaa

theorem rkIn_all {zs : List Int} (h : VoP zs) {D : Nat} (hD : D < 2 ^ zs.length) (h0 : 2 ^ zs.length - 1 - D ≠ 0) : rkIn zs D zs.length = cF zs (2 ^ zs.length - 1 - D) := by
  rw [← accR_all h hD (Nat.le_refl _), ← accF_all h h0]
  unfold accR accF
  rw [List.filter_eq_self.2]
  intro a ha
  simpa using (nextL_mem h ha).1
theorem rkIn_mono (zs : List Int) (D : Nat) : ∀ d a : Nat, rkIn zs D a ≤ rkIn zs D (a + d)
  | 0, _ => Nat.le_refl _
  | d + 1, a => by
    have := rkIn_mono zs D d a
    rw [← Nat.add_assoc, rkIn_succ]; omega
theorem rkIn_mono' {zs : List Int} {D a b : Nat} (h : a ≤ b) : rkIn zs D a ≤ rkIn zs D b := by
  have := rkIn_mono zs D (b - a) a
  rwa [show a + (b - a) = b by omega] at this
/-- The first item such that there are more lines up to it than the rank tells. -/
def pk (zs : List Int) (D r : Nat) : Nat := ((List.range zs.length).find? fun a => decide (r < rkIn zs D (a + 1))).getD 0
theorem pk_ok {zs : List Int} {D r : Nat} (hr : r < rkIn zs D zs.length) : pk zs D r < zs.length ∧ rkIn zs D (pk zs D r) ≤ r ∧ r < rkIn zs D (pk zs D r + 1) := by
  have h0 : zs.length ≠ 0 := by intro h; rw [h] at hr; simp [rkIn] at hr
  cases e : (List.range zs.length).find? fun a => decide (r < rkIn zs D (a + 1)) with
  | none =>
    exfalso
    rw [List.find?_eq_none] at e
    have h1 := e (zs.length - 1) (by rw [List.mem_range]; omega)
    rw [show zs.length - 1 + 1 = zs.length by omega] at h1
    exact h1 (decide_eq_true hr)
  | some a =>
    have hp : pk zs D r = a := by unfold pk; rw [e]; rfl
    rw [List.find?_range_eq_some] at e
    obtain ⟨h1, h2, h3⟩ := e
    rw [hp]
    refine ⟨List.mem_range.1 h2, ?_, of_decide_eq_true h1⟩
    rcases Nat.eq_zero_or_pos a with rfl | ha
    · simp [rkIn]
    · have := h3 (a - 1) (by omega)
      rw [show a - 1 + 1 = a by omega] at this
      simpa using this
theorem pk_next {zs : List Int} {D r : Nat} (hr : r < rkIn zs D zs.length) : nextE zs D (pk zs D r) = true := by
  have h := pk_ok hr
  cases e : nextE zs D (pk zs D r)
  · have := rkIn_succ zs D (pk zs D r)
    rw [e] at this
    simp at this
    omega
  · rfl
theorem pk_cnt {zs : List Int} {D r : Nat} (hr : r < rkIn zs D zs.length) : r - rkIn zs D (pk zs D r) < cF zs (2 ^ zs.length - 1 - (D + 2 ^ pk zs D r)) := by
  have h := pk_ok hr
  have := rkIn_succ zs D (pk zs D r)
  rw [pk_next hr] at this
  simp only [if_true] at this
  omega
/-- What is done, and the rank that is left, after k items. -/
def stA (zs : List Int) (r : Nat) : Nat → Nat × Nat
  | 0 => (0, r)
  | k + 1 => ((stA zs r k).1 + 2 ^ pk zs (stA zs r k).1 (stA zs r k).2, (stA zs r k).2 - rkIn zs (stA zs r k).1 (pk zs (stA zs r k).1 (stA zs r k).2))
def atL (zs : List Int) (r : Nat) : Nat → List Int
  | 0 => []
  | k + 1 => atL zs r k ++ [(pk zs (stA zs r k).1 (stA zs r k).2 : Int)]
theorem atL_len (zs : List Int) (r : Nat) : ∀ k : Nat, (atL zs r k).length = k
  | 0 => rfl
  | k + 1 => by simp [atL, atL_len zs r k]
theorem pop_add_fin : ∀ s : Fin 64, ∀ a : Fin 6, s.val.testBit a.val = false → popI ((s.val + 2 ^ a.val : Nat) : Int) = popI (s.val : Int) + 1 := by decide +kernel
theorem pop_full_fin : ∀ n : Fin 7, ∀ s : Fin 64, s.val < 2 ^ n.val → popI (s.val : Int) < (n.val : Int) → 2 ^ n.val - 1 - s.val ≠ 0 := by decide +kernel
theorem nextE_new {zs : List Int} {D a : Nat} (h : nextE zs D a = true) : D.testBit a = false ∧ (lessI ((du zs)[a]?.getD 0) (D : Int) == 0) = true := by
  unfold nextE at h
  rw [Bool.and_eq_true] at h
  exact ⟨by simpa using h.1, h.2⟩
theorem stA_ok {zs : List Int} (h : VoP zs) {r : Nat} (hr : r < cF zs (2 ^ zs.length - 1)) : ∀ k : Nat, k ≤ zs.length → (stA zs r k).1 < 2 ^ zs.length ∧ popI ((stA zs r k).1 : Int) = k ∧ (stA zs r k).2 < cF zs (2 ^ zs.length - 1 - (stA zs r k).1)
  | 0, _ => ⟨Nat.two_pow_pos _, (by decide +kernel : popI ((0 : Nat) : Int) = ((0 : Nat) : Int)), by simpa [stA] using hr⟩
  | k + 1, hk => by
    have hn6 := h.1
    have hp64 := pow_le64 hn6
    obtain ⟨h1, h2, h3⟩ := stA_ok h hr k (by omega)
    have h0 := pop_full_fin ⟨zs.length, by omega⟩ ⟨(stA zs r k).1, by omega⟩ h1 (by show popI ((stA zs r k).1 : Int) < (zs.length : Int); omega)
    simp only at h0
    have hx : (stA zs r k).2 < rkIn zs (stA zs r k).1 zs.length := by rw [rkIn_all h h1 h0]; exact h3
    have ho := pk_ok hx
    have hnw := (nextE_new (pk_next hx)).1
    refine ⟨add_lt hn6 h1 ho.1 hnw, ?_, pk_cnt hx⟩
    have := pop_add_fin ⟨(stA zs r k).1, by omega⟩ ⟨pk zs (stA zs r k).1 (stA zs r k).2, by omega⟩ hnw
    simp only [stA]
    simp only at this
    rw [this, h2]; omega
/-- All that a walk needs in round k. -/
theorem stA_step {zs : List Int} (h : VoP zs) {r : Nat} (hr : r < cF zs (2 ^ zs.length - 1)) {k : Nat} (hk : k < zs.length) : (stA zs r k).1 < 2 ^ zs.length ∧ (stA zs r k).2 ≤ 46656 ∧ (stA zs r k).2 < rkIn zs (stA zs r k).1 zs.length := by
  have hn6 := h.1
  have hp64 := pow_le64 hn6
  obtain ⟨h1, h2, h3⟩ := stA_ok h hr k (by omega)
  have h0 := pop_full_fin ⟨zs.length, by omega⟩ ⟨(stA zs r k).1, by omega⟩ h1 (by show popI ((stA zs r k).1 : Int) < (zs.length : Int); omega)
  simp only at h0
  have h4 := cF_le h (s := 2 ^ zs.length - 1 - (stA zs r k).1) (by omega)
  exact ⟨h1, by omega, by rw [rkIn_all h h1 h0]; exact h3⟩
theorem less_sorted {l pre : List Nat} {y : Nat} (hl : l.Pairwise (· < ·)) (hp : pre ++ [y] <+: l) : l.filter (fun a => decide (a < y)) = pre := by
  obtain ⟨t, rfl⟩ := hp
  rw [List.append_assoc, List.pairwise_append] at hl
  obtain ⟨_, h2, h3⟩ := hl
  rw [List.append_assoc, List.filter_append, List.filter_eq_self.2 (fun a ha => by simpa using h3 a ha y (by simp)), List.filter_eq_nil_iff.2, List.append_nil]
  intro a ha
  simp only [List.singleton_append] at h2 ha
  rw [List.pairwise_cons] at h2
  rcases List.mem_cons.1 ha with rfl | ha
  · simp
  · have := h2.1 a ha
    simp; omega
theorem nextL_inc {zs : List Int} (h : VoP zs) (s : Nat) : (nextL zs s).Pairwise (· < ·) := by
  rw [nextL_is h]; exact (range_inc _).filter _
/-- What stands ahead of an item that may come next. -/
theorem accF_at {zs : List Int} (h : VoP zs) {D y : Nat} (hD : D < 2 ^ zs.length) {pre : List Nat} (hp : pre ++ [y] <+: nextL zs (2 ^ zs.length - 1 - D)) : accF zs (2 ^ zs.length - 1 - D) pre = rkIn zs D y := by
  have hy := (nextL_mem h (hp.subset (by simp : y ∈ pre ++ [y]))).1
  rw [← accR_all h hD (Nat.le_of_lt hy)]
  unfold accR accF
  rw [less_sorted (nextL_inc h _) hp]
theorem next_mem {zs : List Int} (h : VoP zs) {D x : Nat} (hD : D < 2 ^ zs.length) (hx : x < zs.length) (hn : nextE zs D x = true) : x ∈ nextL zs (2 ^ zs.length - 1 - D) := by
  rw [nextL_is h, List.mem_filter, List.mem_range]
  exact ⟨hx, by rw [← nextE_eF h hD hx]; exact hn⟩
theorem le_of_first {l pre : List Nat} {x y : Nat} (hl : l.Pairwise (· < ·)) (hp : pre ++ [y] <+: l) (hx : x ∈ l) (hn : x ∉ pre) : y ≤ x := by
  obtain ⟨t, rfl⟩ := hp
  rw [List.append_assoc, List.pairwise_append] at hl
  obtain ⟨_, h2, _⟩ := hl
  simp only [List.singleton_append, List.pairwise_cons] at h2
  simp only [List.append_assoc, List.singleton_append, List.mem_append, List.mem_cons] at hx
  rcases hx with hx | rfl | hx
  · exact absurd hx hn
  · exact Nat.le_refl _
  · exact Nat.le_of_lt (h2.1 x hx)
/-- The answer: no line, or the line of the rank. -/
def hasAt (zs : List Int) (r : Int) : Bool := vo zs && (decide (0 ≤ r) && decide (r < (cF zs (2 ^ zs.length - 1) : Int)))
def atR (zs : List Int) (r : Int) : List Int := if hasAt zs r then atL zs r.toNat zs.length else []
end Go.Proofs.Ytghogabmkbadjaa

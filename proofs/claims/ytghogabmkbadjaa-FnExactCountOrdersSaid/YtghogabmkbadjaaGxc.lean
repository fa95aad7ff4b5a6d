/- Texts that several claims share, one behind the other. -/
import Derived.Test.YtghogabmkbadjaaGc
import Derived.Test.YtghogabmkbadjaaGa
set_option linter.unusedVariables false
set_option linter.unusedSimpArgs false
/- The program's count of sets by their sizes, for a test that is handed in. -/
namespace Go.Proofs.Ytghogabmkbadjaa
open Go.RowKit Go.Shelf
attribute [local go_sem] Oper.semAt_some
attribute [local go_sem, local simp] wide_fn

/-- The test g, bound to the order: what it answers. -/
def Tests (g : FuncId) (A : Option Addr) (n c : Nat) (zs : List Int) (p : Int → Bool) : Prop :=
  ∀ (s : Int) (w : World), 0 ≤ s → s < powI n → Ints w w.heap.size A n zs → Calls Try.prog g #[.slice A n c, .int .i64 s] w fun e W' => e = .returned (.bool (p s)) ∧ Below w.heap.size w W'

theorem cnt_small (p : Int → Bool) (len k : Nat) (hk : k ≤ 64) (i : Nat) : 0 ≤ (cntTo p len k)[i]?.getD 0 ∧ (cntTo p len k)[i]?.getD 0 ≤ 64 := by
  have := cntTo_bd p len k i; omega
theorem popI_le_n_fin : ∀ n : Fin 7, ∀ k : Fin 64, (k.val : Int) < powI (n.val : Int) → popI (k.val : Int) ≤ (n.val : Int) := by decide +kernel
theorem popI_le_n {n : Nat} {s : Int} (hn : n ≤ 6) (h0 : 0 ≤ s) (h1 : s < powI n) : popI s ≤ n := by
  have hpn := powI_le6 (n := (n : Int)) (by omega)
  obtain ⟨k, rfl⟩ := Int.eq_ofNat_of_zero_le h0
  exact popI_le_n_fin ⟨n, by omega⟩ ⟨k, by omega⟩ h1

theorem range_at {N : Nat} {pre : List Nat} {x : Nat} (h : pre ++ [x] <+: List.range N) : x = pre.length ∧ pre.length < N := by
  have hl := h.length_le
  simp at hl
  have e := h.getElem (i := pre.length) (by simp)
  simp at e
  exact ⟨e, by omega⟩

/-- What countSets hands back: the first m numbers of a row of its own. -/
def GivesCut (w : World) (xs : List Int) (m : Nat) (e : Ending) (w' : World) : Prop :=
  ∃ b c, e = .returned (.slice (some ⟨b, 0, none⟩) m c) ∧ Arr w' b 3 xs ∧ w.heap.size ≤ b ∧ m ≤ xs.length ∧ Below w.heap.size w w'

/-! Both tests that there are. -/
end Go.Proofs.Ytghogabmkbadjaa

/- All lines as the program tells them: what is left, and which item is next. No program. -/
namespace Go.Proofs.Ytghogabmkbadjaa

/-- What is lined up (s), and what is left, of which there are k. -/
structure Lft (n : Nat) (s left : Int) (k : Nat) : Prop where
  s0 : 0 ≤ s
  s1 : s < powI n
  l0 : 0 ≤ left
  l1 : left < powI n
  bit : ∀ j : Nat, bitB left j = (decide (j < n) && !bitB s j)
  pop : popI left = k
theorem pop_all_fin : ∀ n : Fin 7, popI (powI (n.val : Int) - 1) = (n.val : Int) := by decide +kernel
theorem pop_less1_fin : ∀ s : Fin 64, ∀ a : Fin 6, bitB (s.val : Int) (a.val : Int) = true → popI (lessI (s.val : Int) (powI (a.val : Int))) = popI (s.val : Int) - 1 := by decide +kernel
theorem pop_zero_fin : ∀ s : Fin 64, popI (s.val : Int) = 0 ↔ (s.val : Int) = 0 := by decide +kernel
theorem lft_start {n : Nat} (hn : n ≤ 6) : Lft n 0 (powI n - 1) n := by
  have hp := powI_pos (n : Int)
  refine ⟨by omega, hp, by omega, by omega, fun j => ?_, pop_all_fin ⟨n, by omega⟩⟩
  rw [all_bits, bitB_zero]
  simp
theorem lft_zero {n k : Nat} {s left : Int} (hn : n ≤ 6) (h : Lft n s left k) : left = 0 ↔ k = 0 := by
  have hp := powI_le6 (n := (n : Int)) (by omega)
  have h1 := h.l1
  have h2 := h.pop
  obtain ⟨t, rfl⟩ := Int.eq_ofNat_of_zero_le h.l0
  have := pop_zero_fin ⟨t, by omega⟩
  simp only at this
  rw [← this, h2]
  omega
theorem lft_step {zs : List Int} {n k a : Nat} {s left : Int} (hlen : zs.length = n) (hn : n ≤ 6) (h : Lft n s left (k + 1)) (ha : a < n) (hs : stA2 zs s a = true) : Lft n (orI s (powI a)) (lessI left (powI a)) k := by
  have hp := powI_le6 (n := (n : Int)) (by omega)
  have hpa : powI (a : Int) < powI (n : Int) := powI_lt (by omega)
  have hp0 := powI_pos (a : Int)
  have ho := orI_bd h.s0 h.s1 (by omega) hpa
  have hl := lessI_bd left (powI a)
  have h0 := h.l0
  have h1 := h.l1
  have hsa : bitB s (a : Int) = false := by
    unfold stA2 at hs
    rw [Bool.and_eq_true, Bool.and_eq_true] at hs
    simpa using hs.2.1
  have hba : bitB left (a : Int) = true := by rw [h.bit a, hsa]; simp [ha]
  refine ⟨ho.1, ho.2, hl.1, by omega, fun j => ?_, ?_⟩
  · rw [bitB_less, bitB_or, bitB_pow, h.bit j]
    cases decide (j < n) <;> cases bitB s j <;> cases decide (a = j) <;> rfl
  · obtain ⟨t, ht⟩ := Int.eq_ofNat_of_zero_le h0
    have h2 := h.pop
    subst ht
    have := pop_less1_fin ⟨t, by omega⟩ ⟨a, by omega⟩ hba
    simp only at this
    rw [this, h2]
    omega
theorem next_bit {zs : List Int} {n k a : Nat} {s left : Int} (hvo : VoP zs) (hlen : zs.length = n) (h : Lft n s left k) (ha : a < n) : bitB (topsTo (du zs) left n) (a : Int) = stA2 zs s a := by
  have hds := (du_sets hvo.sets).2 a (by rw [du_len, hlen]; exact ha)
  rw [du_len, hlen] at hds
  have hl := h.bit a
  have hin : inB (a : Int) 0 ((zs.length : Int) - 1) = true := by simp [inB]; omega
  have key : bitB (topsTo (du zs) left n) (a : Int) = true ↔ stA2 zs s a = true := by
    rw [topsTo_bit]
    unfold stA2
    rw [hin, hl, Bool.true_and, Int.toNat_natCast]
    simp only [Bool.and_eq_true]
    have e2 : andI ((du zs)[a]?.getD 0) left = 0 ↔ (lessI ((du zs)[a]?.getD 0) s == 0) = true := by
      rw [beq_iff_eq, andI_zero]
      constructor
      · intro e
        refine bitB_ext (lessI_bd _ _).1 (Int.le_refl _) fun j => ?_
        rw [bitB_less, bitB_zero]
        cases e1 : bitB ((du zs)[a]?.getD 0) j
        · rfl
        · cases e3 : bitB s j
          · have hj := bitB_lt hds.2 e1
            have := e j (by rw [h.bit j, e3]; simp [hj])
            rw [e1] at this; cases this
          · rfl
      · intro e j hj
        rw [h.bit j, Bool.and_eq_true] at hj
        cases e1 : bitB ((du zs)[a]?.getD 0) j
        · rfl
        · have := bitB_less ((du zs)[a]?.getD 0) s j
          rw [e, bitB_zero, e1] at this
          simp at this hj
          rw [this] at hj
          simp at hj
    constructor
    · rintro ⟨_, h1, h2⟩
      exact ⟨h1.2, e2.1 h2⟩
    · rintro ⟨h1, h2⟩
      exact ⟨ha, ⟨by simpa using ha, h1⟩, e2.2 h2⟩
  cases e1 : bitB (topsTo (du zs) left n) (a : Int) <;> cases e2 : stA2 zs s a <;> simp_all
theorem filter_more {p : Nat → Bool} {n : Nat} (h : ∀ a, n ≤ a → p a = false) : ∀ d : Nat, (List.range (n + d)).filter p = (List.range n).filter p
  | 0 => rfl
  | d + 1 => by
    rw [← Nat.add_assoc, List.range_succ, List.filter_append, filter_more h d]
    simp [h (n + d) (by omega)]
/-- The items that may be next, as both sides find them. -/
def nxA (zs : List Int) (s : Int) : List Nat := (List.range zs.length).filter fun a => stA2 zs s a
theorem next_items {zs : List Int} {n k : Nat} {s left : Int} (hvo : VoP zs) (hlen : zs.length = n) (hn : n ≤ 6) (h : Lft n s left k) : itemsL (topsTo (du zs) left n) = nxA zs s := by
  unfold itemsL itemsTo nxA
  have h1 := filter_more (p := fun a => bitB (topsTo (du zs) left n) (a : Int)) (n := n) (fun a ha => by
    cases e : bitB (topsTo (du zs) left n) (a : Int)
    · rfl
    · have := ((topsTo_bit a n).1 e).1; omega) (6 - n)
  rw [show n + (6 - n) = 6 by omega] at h1
  rw [h1, hlen]
  exact List.filter_congr fun a ha => next_bit hvo hlen h (List.mem_range.1 ha)
theorem flat_if {α : Type} (p : Nat → Bool) (f : Nat → List α) : ∀ l : List Nat, (l.flatMap fun a => if p a then f a else []) = (l.filter p).flatMap f
  | [] => rfl
  | a :: l => by
    rw [List.flatMap_cons, List.filter_cons, flat_if p f l]
    cases p a
    · simp
    · simp [List.flatMap_cons]
/-- The lines behind the items of xs, one after the other. -/
def alX (zs : List Int) (k : Nat) (so : List Int) (s : Int) (xs : List Nat) : List (List Int) := xs.flatMap fun a : Nat => alG zs k (so ++ [(a : Int)]) (orI s (powI a))
theorem alX_nil (zs : List Int) (k : Nat) (so : List Int) (s : Int) : alX zs k so s [] = [] := rfl
theorem alX_snoc (zs : List Int) (k : Nat) (so : List Int) (s : Int) (xs : List Nat) (a : Nat) : alX zs k so s (xs ++ [a]) = alX zs k so s xs ++ alG zs k (so ++ [(a : Int)]) (orI s (powI a)) := by
  unfold alX; rw [List.flatMap_append]; simp
theorem alX_all (zs : List Int) (k : Nat) (so : List Int) (s : Int) : alX zs k so s (nxA zs s) = alG zs (k + 1) so s := by
  unfold alX nxA
  rw [alG, flat_if]
theorem alX_pre (zs : List Int) (k : Nat) (so : List Int) (s : Int) {xs : List Nat} (h : xs <+: nxA zs s) : alX zs k so s xs <+: alG zs (k + 1) so s := by
  obtain ⟨t, e⟩ := h
  rw [← alX_all, ← e]
  unfold alX
  rw [List.flatMap_append]
  exact List.prefix_append _ _
theorem nxA_mem {zs : List Int} {s : Int} {a : Nat} (h : a ∈ nxA zs s) : a < zs.length ∧ stA2 zs s a = true := by
  unfold nxA at h
  rw [List.mem_filter, List.mem_range] at h
  exact h
theorem alG_len (zs : List Int) : ∀ (k : Nat) (so : List Int) (s : Int) (l : List Int), l ∈ alG zs k so s → l.length = so.length + k := by
  intro k so s l h
  obtain ⟨t, h1, rfl, _⟩ := (alG_mem zs k so s l).1 h
  rw [List.length_append, h1]
end Go.Proofs.Ytghogabmkbadjaa

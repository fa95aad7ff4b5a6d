/- The program's count of sets by their sizes, for a test that is handed in. -/
import Derived.Test.YtmlihbcffndnbaaDoorGb
set_option linter.unusedVariables false
set_option linter.unusedSimpArgs false
namespace Go.Proofs.YtmlihbcffndnbaaDoor
open Go.RowKit Go.Shelf
attribute [local go_sem] Oper.semAt_some
attribute [local go_sem, local simp] wide_fn

/-- The test g, bound to the order: what it answers. -/
def Tests (g : FuncId) (A : Option Addr) (n c : Nat) (zs : List Int) (p : Int → Bool) : Prop :=
  ∀ (s : Int) (w : World), 0 ≤ s → s < powI n → Ints w w.heap.size A n zs → Calls Tryd.prog g #[.slice A n c, .int .i64 s] w fun e W' => e = .returned (.bool (p s)) ∧ Below w.heap.size w W'

theorem cnt_small (p : Int → Bool) (len k : Nat) (hk : k ≤ 64) (i : Nat) : 0 ≤ (cntTo p len k)[i]?.getD 0 ∧ (cntTo p len k)[i]?.getD 0 ≤ 64 := by
  have := cntTo_bd p len k i; omega
theorem popI_le_n_fin : ∀ n : Fin 7, ∀ k : Fin 64, (k.val : Int) < powI (n.val : Int) → popI (k.val : Int) ≤ (n.val : Int) := by decide +kernel
theorem popI_le_n {n : Nat} {s : Int} (hn : n ≤ 6) (h0 : 0 ≤ s) (h1 : s < powI n) : popI s ≤ n := by
  have hpn := powI_le6 (n := (n : Int)) (by omega)
  obtain ⟨k, rfl⟩ := Int.eq_ofNat_of_zero_le h0
  exact popI_le_n_fin ⟨n, by omega⟩ ⟨k, by omega⟩ h1

theorem range_at {N : Nat} {pre : List Nat} {x : Nat} (h : pre ++ [x] <+: List.range N) : x = pre.length ∧ pre.length < N := by
  have hl := h.length_le
  simp at hl
  have e := h.getElem (i := pre.length) (by simp)
  simp at e
  exact ⟨e, by omega⟩

/-- What countSets hands back: the first m numbers of a row of its own. -/
def GivesCut (w : World) (xs : List Int) (m : Nat) (e : Ending) (w' : World) : Prop :=
  ∃ b c, e = .returned (.slice (some ⟨b, 0, none⟩) m c) ∧ Arr w' b 3 xs ∧ w.heap.size ≤ b ∧ m ≤ xs.length ∧ Below w.heap.size w w'

/-! Both tests that there are. -/
end Go.Proofs.YtmlihbcffndnbaaDoor

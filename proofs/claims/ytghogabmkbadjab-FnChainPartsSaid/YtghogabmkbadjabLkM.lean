/- Chains of links: whom an item is followed by is above it; the sets of the chains (mathematics). -/
import Derived.Test.YtghogabmkbadjabLkC
import Derived.Test.YtghogabmkbadjabMatR
import Derived.Test.YtghogabmkbadjabGa
set_option linter.unusedVariables false
set_option linter.unusedSimpArgs false
namespace Go.Proofs.Ytghogabmkbadjab

theorem nxT_is {has : List Int} {i j : Nat} : ∀ {k : Nat}, nxT has i k = some j → j < k ∧ has[j]?.getD 0 = (i : Int)
  | 0, h => by cases h
  | k + 1, h => by
    unfold nxT at h
    split at h
    · rename_i e
      cases h
      exact ⟨by omega, e⟩
    · have := nxT_is h
      exact ⟨by omega, this.2⟩
/-- How far up an item may be followed. -/
def rkC (zs : List Int) (i : Nat) : Nat := (6 - hgt zs i).toNat
theorem rkC_lt (zs : List Int) (i : Nat) : rkC zs i < 7 := by
  have := hgt_nn zs i
  unfold rkC
  omega
theorem nx_up {zs : List Int} (h : VoP zs) {i j : Nat} (hi : i < zs.length) (e : nxT (matesTo zs zs.length) i zs.length = some j) : j < zs.length ∧ rkC zs j < rkC zs i := by
  obtain ⟨hj, hh⟩ := nxT_is e
  have hl := matesTo_ok zs zs.length (Nat.le_refl _)
  have hr := matesTo_rel zs zs.length j (by rw [hl.1]; exact hj) (by rw [hh]; omega)
  rw [hh] at hr
  have hlt : lt zs i j := ⟨hi, by simpa using hr⟩
  have h1 := hgt_up h hlt
  have h2 := hgt_bd h hj
  have h3 := h.1
  refine ⟨hj, ?_⟩
  unfold rkC
  omega
/-- The set of the chain from an item up. -/
def chSt (zs : List Int) (i : Nat) : Int := chT (fun i => nxT (matesTo zs zs.length) i zs.length) 7 i 0
/-- The sets of all chains, by their lowest items. -/
def chL (zs : List Int) : List Int := (lowL (matesTo zs zs.length) zs.length).map (chSt zs)
theorem lowL_lt {has : List Int} : ∀ {k : Nat}, ∀ i ∈ lowL has k, i < k
  | 0, i, h => by simp [lowL] at h
  | k + 1, i, h => by
    unfold lowL at h
    split at h
    · rcases List.mem_append.1 h with h | h
      · have := lowL_lt i h; omega
      · simp at h; omega
    · have := lowL_lt i h; omega
theorem chT_bd (nx : Nat → Option Nat) (n : Nat) (hn : n ≤ 6) (hnx : ∀ i j, i < n → nx i = some j → j < n) : ∀ (f i : Nat) (acc : Int), i < n → 0 ≤ acc → acc < powI 6 → 0 ≤ chT nx f i acc ∧ chT nx f i acc < powI 6
  | 0, _, _, _, h0, h1 => ⟨h0, h1⟩
  | f + 1, i, acc, hi, h0, h1 => by
    have hpp := powI_pos (i : Int)
    have hpb : powI (i : Int) < powI 6 := by
      have h1 := powI_le6 (n := ((i + 1 : Nat) : Int)) (by omega)
      have h2 : powI ((i + 1 : Nat) : Int) = 2 * powI i := by rw [show ((i + 1 : Nat) : Int) = (i : Int) + 1 by omega]; exact powI_succ (by omega)
      rw [show powI 6 = 64 from rfl]
      omega
    have hbd := orI_bd (n := 6) h0 h1 (Int.le_of_lt hpp) hpb
    unfold chT
    cases e : nx i with
    | none => exact hbd
    | some j => exact chT_bd nx n hn hnx f j _ (hnx i j hi e) hbd.1 hbd.2
end Go.Proofs.Ytghogabmkbadjab

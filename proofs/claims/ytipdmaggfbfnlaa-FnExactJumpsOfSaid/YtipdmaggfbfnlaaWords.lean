/- Words for memory: a slice of numbers that reads as a list; orders as lists. -/
import Derived.Test.YtipdmaggfbfnlaaMath
import Derived.Below
import Derived.Laws.OwnMore
import Derived.Deep.Draws
import Derived.Lib.Hide
namespace Go.Proofs.Ytipdmaggfbfnlaa
open Go.RowKit

/-- The slice '.slice A n c' reads as zs, and lies below block B. -/
def Ints (w : World) (B : Nat) (A : Option Addr) (n : Nat) (zs : List Int) : Prop :=
  zs.length = n ∧ (0 < n → ∃ b off, A = some ⟨b, off, none⟩ ∧ b < B ∧ ∀ j, j < n → w.cell? ⟨b, off + j, none⟩ = some (.int .i64 (zs[j]?.getD 0)))

section
variable {w w' : World} {B B' n : Nat} {A : Option Addr} {zs : List Int}
theorem Ints.len (h : Ints w B A n zs) : zs.length = n := h.1
theorem Ints.at_ {k : Nat} (h : Ints w B A n zs) (hk : k < n) : ∃ b off, A = some ⟨b, off, none⟩ ∧ b < B ∧ ∀ j, j < n → w.cell? ⟨b, off + j, none⟩ = some (.int .i64 (zs[j]?.getD 0)) := h.2 (by omega)
theorem Ints.keep (h : Ints w B A n zs) (hk : ∀ p : Addr, p.block < B → w'.cell? p = w.cell? p) : Ints w' B A n zs :=
  ⟨h.1, fun hn => by
    obtain ⟨b, off, e, hb, hc⟩ := h.2 hn
    exact ⟨b, off, e, hb, fun j hj => (hk _ hb).trans (hc j hj)⟩⟩
theorem Ints.more (h : Ints w B A n zs) (hB : B ≤ B') : Ints w B' A n zs :=
  ⟨h.1, fun hn => by
    obtain ⟨b, off, e, hb, hc⟩ := h.2 hn
    exact ⟨b, off, e, by omega, hc⟩⟩
theorem Ints.below (h : Ints w B A n zs) (hb : Below B w w') : Ints w' B A n zs := h.keep fun _ hp => hb.cell hp
theorem Ints.drewN (h : Ints w B A n zs) (k : Nat) : Ints (w.drewN k) B A n zs := h
theorem Ints.nil (w : World) (B : Nat) (A : Option Addr) : Ints w B A 0 [] := ⟨rfl, fun h => absurd h (by omega)⟩
end

/-- The item's set is one of the n items, without itself. -/
def okA (n : Int) (zs : List Int) (a : Nat) : Bool := inB (zs[a]?.getD 0) 0 (powI n - 1) && !bitB (zs[a]?.getD 0) a
/-- What is above b is above a, if b is, and a is not above b. -/
def okP (zs : List Int) (a b : Nat) : Bool := !bitB (zs[a]?.getD 0) b || (lessI (zs[b]?.getD 0) (zs[a]?.getD 0) == 0 && !bitB (zs[b]?.getD 0) a)
def VoP (zs : List Int) : Prop := zs.length ≤ 6 ∧ (∀ a, a < zs.length → okA zs.length zs a = true) ∧ (∀ a, a < zs.length → ∀ b, b < zs.length → okP zs a b = true)
instance (zs : List Int) : Decidable (VoP zs) := by unfold VoP; infer_instance
def vo (zs : List Int) : Bool := decide (VoP zs)
theorem vo_true {zs : List Int} (h : VoP zs) : vo zs = true := by simp [vo, h]
theorem vo_false {zs : List Int} (h : ¬ VoP zs) : vo zs = false := by simp [vo, h]
theorem okA_bd {n : Int} {zs : List Int} {a : Nat} (hn : n ≤ 6) (h : okA n zs a = true) : 0 ≤ zs[a]?.getD 0 ∧ zs[a]?.getD 0 < 64 := by
  have := powI_le6 hn
  simp [okA, inB] at h
  omega
/-- At most six sets, of no more items than there are. -/
def Sets (zs : List Int) : Prop := zs.length ≤ 6 ∧ ∀ a, a < zs.length → 0 ≤ zs[a]?.getD 0 ∧ zs[a]?.getD 0 < powI zs.length
theorem Sets.bd {zs : List Int} (h : Sets zs) (a : Nat) (ha : a < zs.length) : 0 ≤ zs[a]?.getD 0 ∧ zs[a]?.getD 0 < 64 := by
  have h1 := h.2 a ha
  have h2 : powI zs.length ≤ 64 := powI_le6 (by have := h.1; omega)
  omega
theorem VoP.sets {zs : List Int} (h : VoP zs) : Sets zs := ⟨h.1, fun a ha => by
  have := h.2.1 a ha
  simp [okA, inB] at this
  omega⟩
theorem VoP.bd {zs : List Int} (h : VoP zs) (a : Nat) (ha : a < zs.length) : 0 ≤ zs[a]?.getD 0 ∧ zs[a]?.getD 0 < 64 :=
  okA_bd (by have := h.1; omega) (h.2.1 a ha)
theorem VoP_not_A {zs : List Int} {k : Nat} (hk : k < zs.length) (h : okA zs.length zs k = false) : ¬ VoP zs := fun hv => by
  have := hv.2.1 k hk
  rw [h] at this; cases this
theorem VoP_not_P {zs : List Int} {k j : Nat} (hk : k < zs.length) (hj : j < zs.length) (h : okP zs k j = false) : ¬ VoP zs := fun hv => by
  have := hv.2.2 k hk j hj
  rw [h] at this; cases this
theorem okA_yes {n : Int} {zs : List Int} {k : Nat} (h1 : inB (zs[k]?.getD 0) 0 (powI n - 1) = true) (h2 : bitB (zs[k]?.getD 0) k = false) : okA n zs k = true := by simp [okA, h1, h2]
theorem all_snoc {p : Nat → Prop} {k : Nat} (h : ∀ a, a < k → p a) (hk : p k) : ∀ a, a < k + 1 → p a := fun a ha => by
  rcases Nat.lt_or_ge a k with h1 | h1
  · exact h a h1
  · rw [show a = k from by omega]; exact hk

end Go.Proofs.Ytipdmaggfbfnlaa

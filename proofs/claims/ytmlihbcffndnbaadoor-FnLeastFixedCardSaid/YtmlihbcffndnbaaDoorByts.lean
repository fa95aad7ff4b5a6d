/- A slice of bytes that reads as a list. -/
import Derived.Test.YtmlihbcffndnbaaDoorGa
set_option linter.unusedVariables false
set_option linter.unusedSimpArgs false
namespace Go.Proofs.YtmlihbcffndnbaaDoor
open Go.RowKit

/-- The slice '.slice A n c' reads as the bytes bs, and lies below block B. -/
def Byts (w : World) (B : Nat) (A : Option Addr) (n : Nat) (bs : List Int) : Prop :=
  bs.length = n ∧ (∀ j : Nat, 0 ≤ bs[j]?.getD 0 ∧ bs[j]?.getD 0 < 256) ∧ (0 < n → ∃ b off, A = some ⟨b, off, none⟩ ∧ b < B ∧ ∀ j, j < n → w.cell? ⟨b, off + j, none⟩ = some (.int .u8 (bs[j]?.getD 0)))
section
variable {w w' : World} {B B' n : Nat} {A : Option Addr} {bs : List Int}
theorem Byts.len (h : Byts w B A n bs) : bs.length = n := h.1
theorem Byts.bd (h : Byts w B A n bs) (j : Nat) : 0 ≤ bs[j]?.getD 0 ∧ bs[j]?.getD 0 < 256 := h.2.1 j
theorem Byts.at_ {k : Nat} (h : Byts w B A n bs) (hk : k < n) : ∃ b off, A = some ⟨b, off, none⟩ ∧ b < B ∧ ∀ j, j < n → w.cell? ⟨b, off + j, none⟩ = some (.int .u8 (bs[j]?.getD 0)) := h.2.2 (by omega)
theorem Byts.keep (h : Byts w B A n bs) (hk : ∀ p : Addr, p.block < B → w'.cell? p = w.cell? p) : Byts w' B A n bs :=
  ⟨h.1, h.2.1, fun hn => by
    obtain ⟨b, off, e, hb, hc⟩ := h.2.2 hn
    exact ⟨b, off, e, hb, fun j hj => (hk _ hb).trans (hc j hj)⟩⟩
theorem Byts.below (h : Byts w B A n bs) (hb : Below B w w') : Byts w' B A n bs := h.keep fun _ hp => hb.cell hp
theorem Byts.more (h : Byts w B A n bs) (hB : B ≤ B') : Byts w B' A n bs :=
  ⟨h.1, h.2.1, fun hn => by
    obtain ⟨b, off, e, hb, hc⟩ := h.2.2 hn
    exact ⟨b, off, e, by omega, hc⟩⟩
theorem Byts.take (h : Byts w B A n bs) {m : Nat} (hm : m ≤ n) : Byts w B A m (bs.take m) :=
  ⟨by rw [List.length_take, h.1]; omega, fun j => by
    rw [List.getElem?_take]
    split
    · exact h.2.1 j
    · simp, fun hn => by
    obtain ⟨b, off, e, hb, hc⟩ := h.2.2 (by omega)
    exact ⟨b, off, e, hb, fun j hj => by rw [List.getElem?_take_of_lt hj]; exact hc j (by omega)⟩⟩
end
end Go.Proofs.YtmlihbcffndnbaaDoor

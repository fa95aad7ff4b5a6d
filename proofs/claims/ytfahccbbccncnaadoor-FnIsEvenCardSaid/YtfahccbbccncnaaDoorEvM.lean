/- Even lattices: as both sides tell them. No program. -/
import Derived.Test.YtfahccbbccncnaaDoorGb
namespace Go.Proofs.YtfahccbbccncnaaDoor

def goesOver (zs : List Int) (a b c : Nat) : Bool := joinI (du zs) a (joinI zs b c).toNat == joinI zs (joinI (du zs) a b).toNat (joinI (du zs) a c).toNat
def EvenAll (zs : List Int) : Prop := ∀ a, a < zs.length → ∀ b, b < zs.length → ∀ c, c < zs.length → goesOver zs a b c = true
instance (zs : List Int) : Decidable (EvenAll zs) := by unfold EvenAll; exact inferInstance
def evenR (zs : List Int) : Bool := latR zs && decide (EvenAll zs)
theorem joins_at {ds : List Int} {n : Nat} (h : JoinsOk ds) (hl : ds.length = n) {a b : Nat} (ha : a < n) (hb : b < n) : ∃ j : Nat, joinI ds a b = j ∧ j < n := by
  have h1 := h a (by omega) b (by omega)
  have h2 := joinI_bd ds a b
  exact ⟨(joinI ds a b).toNat, by omega, by omega⟩
theorem lat_parts {zs : List Int} (h : latR zs = true) : VoP zs ∧ 0 < zs.length ∧ JoinsOk zs ∧ JoinsOk (du zs) := by
  unfold latR latB at h
  rw [Bool.and_eq_true, Bool.and_eq_true, Bool.and_eq_true, decide_eq_true_eq, decide_eq_true_eq, decide_eq_true_eq] at h
  exact ⟨by simpa [vo] using h.1, h.2.1, h.2.2.1, h.2.2.2⟩
end Go.Proofs.YtfahccbbccncnaaDoor

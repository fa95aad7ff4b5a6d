/- Zigzags as the program asks for them: two pairs of four items within which there are three relations. No program. -/
import Derived.Test.YtghogabmkbadjabGc
set_option linter.unusedVariables false
set_option linter.unusedSimpArgs false
namespace Go.Proofs.Ytghogabmkbadjab
open Go.RowKit

def frI (a b c d : Nat) : Int := orI (orI (prI a b) (powI c)) (powI d)
def tstZg (zs : List Int) (p q : Nat × Nat) : Bool := popI (frI p.1 p.2 q.1 q.2) == 4 && (bitB (zs[q.1]?.getD 0) p.2 && (pwL zs (frI p.1 p.2 q.1 q.2) (itemsL (frI p.1 p.2 q.1 q.2)) == 3))
def inZg (zs : List Int) (p : Nat × Nat) (l : List (Nat × Nat)) : Bool := l.any (tstZg zs p)
def ouZg (zs : List Int) (l : List (Nat × Nat)) : Bool := l.any fun p => inZg zs p (pairsL zs)

set_option maxRecDepth 100000 in
theorem pop_four : ∀ a b c d : Fin 6, (popI (frI a.val b.val c.val d.val) == 4) = decide (a.val ≠ b.val ∧ a.val ≠ c.val ∧ a.val ≠ d.val ∧ b.val ≠ c.val ∧ b.val ≠ d.val ∧ c.val ≠ d.val) := by decide +kernel
set_option maxRecDepth 100000 in
theorem perm_four : ∀ a b c d : Fin 6, (!(popI (frI a.val b.val c.val d.val) == 4) || (itemsL (frI a.val b.val c.val d.val)).isPerm [a.val, b.val, c.val, d.val]) = true := by decide +kernel

theorem sum_permN {l m : List Nat} (h : l.Perm m) : l.sum = m.sum := by
  induction h with
  | nil => rfl
  | cons x _ ih => simp [ih]
  | swap x y l => simp; omega
  | trans _ _ ih1 ih2 => exact ih1.trans ih2
theorem cl_perm (r : Nat → Nat → Bool) {l m : List Nat} (h : l.Perm m) : cl r l l = cl r m m := by
  unfold cl
  rw [show (l.map fun a => (l.filter (r a)).length) = (l.map fun a => (m.filter (r a)).length) from List.map_congr_left fun a _ => (h.filter _).length_eq]
  exact sum_permN (h.map _)

theorem cl_four {r : Nat → Nat → Bool} {a b c d : Nat} (haa : r a a = false) (hbb : r b b = false) (hcc : r c c = false) (hdd : r d d = false) (hab : r a b = true) (hba : r b a = false) (hcb : r c b = true) (hbc : r b c = false) (hcd : r c d = true) (hdc : r d c = false) :
    cl r [a, b, c, d] [a, b, c, d] = 3 ↔ (r a c || r c a) = false ∧ (r b d || r d b) = false ∧ (r a d || r d a) = false := by
  unfold cl
  simp only [List.map_cons, List.map_nil, List.filter_cons, List.filter_nil, haa, hbb, hcc, hdd, hab, hba, hcb, hbc, hcd, hdc]
  cases r a c <;> cases r c a <;> cases r b d <;> cases r d b <;> cases r a d <;> cases r d a <;> simp

theorem frI_bd {n a b c d : Nat} (ha : a < n) (hb : b < n) (hc : c < n) (hd : d < n) : 0 ≤ frI a b c d ∧ frI a b c d < powI n := by
  have hq := prI_bd ha hb
  have h1 := powI_pos (c : Int)
  have h2 := powI_pos (d : Int)
  have h3 := orI_bd hq.1 hq.2 (by omega) (powI_lt hc)
  exact orI_bd h3.1 h3.2 (by omega) (powI_lt hd)

theorem zg_fwd {zs : List Int} (h : VoP zs) {a b c d : Nat} (ha : a < zs.length) (hb : b < zs.length) (hc : c < zs.length) (hd : d < zs.length) (hab : bitB (zs[a]?.getD 0) b = true) (hcd : bitB (zs[c]?.getD 0) d = true) :
    tstZg zs (a, b) (c, d) = tstZig zs a b c d := by
  have h6 := h.1
  have hp6 := powI_le6 (n := (zs.length : Int)) (by omega)
  have hf := frI_bd ha hb hc hd
  have e1 := pop_four ⟨a, by omega⟩ ⟨b, by omega⟩ ⟨c, by omega⟩ ⟨d, by omega⟩
  have e2 := perm_four ⟨a, by omega⟩ ⟨b, by omega⟩ ⟨c, by omega⟩ ⟨d, by omega⟩
  dsimp only at e1 e2
  have nab : a ≠ b := fun e => by rw [← e, h.irrB ha] at hab; cases hab
  have ncd : c ≠ d := fun e => by rw [← e, h.irrB hc] at hcd; cases hcd
  unfold tstZg tstZig
  dsimp only
  rw [e1, hab, hcd]
  rw [e1] at e2
  by_cases hdis : a ≠ b ∧ a ≠ c ∧ a ≠ d ∧ b ≠ c ∧ b ≠ d ∧ c ≠ d
  · rw [decide_eq_true hdis] at e2 ⊢
    have hperm := List.isPerm_iff.1 (by simpa using e2)
    obtain ⟨_, nac, nad, nbc, nbd, _⟩ := hdis
    rw [pwL_eq zs hf.1 (by omega), cl_perm _ hperm]
    cases hcb : bitB (zs[c]?.getD 0) b
    · rfl
    · have key := cl_four (r := fun x y => bitB (zs[x]?.getD 0) y) (h.irrB ha) (h.irrB hb) (h.irrB hc) (h.irrB hd) hab (h.asym ha hab) hcb (h.asym hc hcb) hcd (h.asym hc hcd)
      have e3 : (((cl (fun x y => bitB (zs[x]?.getD 0) y) [a, b, c, d] [a, b, c, d] : Nat) : Int) == 3) = true ↔ (bitB (zs[a]?.getD 0) c || bitB (zs[c]?.getD 0) a) = false ∧ (bitB (zs[b]?.getD 0) d || bitB (zs[d]?.getD 0) b) = false ∧ (bitB (zs[a]?.getD 0) d || bitB (zs[d]?.getD 0) a) = false := by
        rw [beq_iff_eq, ← key]; omega
      simp only [relB]
      rw [show (a == c) = false by simpa using nac, show (b == d) = false by simpa using nbd]
      rw [Bool.eq_iff_iff]
      simp only [Bool.true_and, Bool.and_eq_true, Bool.not_eq_true', Bool.not_false, e3]
  · rw [decide_eq_false hdis]
    cases hcb : bitB (zs[c]?.getD 0) b
    · rfl
    · have nbc : b ≠ c := fun e => by rw [← e, h.irrB hb] at hcb; cases hcb
      by_cases nac : a = c
      · simp [nac]
      · by_cases nbd : b = d
        · simp [nbd]
        · have nad : a = d := by
            refine Classical.byContradiction fun nad => hdis ⟨nab, nac, nad, nbc, nbd, ncd⟩
          subst nad
          have : relB zs b a = true := by unfold relB; rw [hab]; simp
          simp [this]

theorem two_zig {zs : List Int} (h : VoP zs) : ouZg zs (pairsL zs) = zigB zs := by
  have h6 := h.1
  rw [Bool.eq_iff_iff]
  unfold ouZg inZg zigB
  rw [any4_iff, List.any_eq_true]
  constructor
  · rintro ⟨⟨a, b⟩, hp, ht⟩
    obtain ⟨⟨c, d⟩, hq, ht⟩ := List.any_eq_true.1 ht
    obtain ⟨ha, hb, hab⟩ := h.sets.pair hp
    obtain ⟨hc, hd, hcd⟩ := h.sets.pair hq
    exact ⟨a, b, c, d, ha, hb, hc, hd, (zg_fwd h ha hb hc hd hab hcd).symm.trans ht⟩
  · rintro ⟨a, b, c, d, ha, hb, hc, hd, ht⟩
    have ht2 := ht
    simp only [tstZig, Bool.and_eq_true] at ht2
    have hab := ht2.1
    have hcd := ht2.2.2.1
    exact ⟨(a, b), mem_pairsL.2 ⟨ha, by omega, hab⟩, List.any_eq_true.2 ⟨(c, d), mem_pairsL.2 ⟨hc, by omega, hcd⟩, (zg_fwd h ha hb hc hd hab hcd).trans ht⟩⟩
end Go.Proofs.Ytghogabmkbadjab

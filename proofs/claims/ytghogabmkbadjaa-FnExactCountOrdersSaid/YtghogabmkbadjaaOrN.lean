/- All orders of n items: as the model tells them one item after the other, as the program does by one number. No program. -/
import Derived.Test.YtghogabmkbadjaaGxi
set_option linter.unusedVariables false
set_option linter.unusedSimpArgs false
namespace Go.Proofs.Ytghogabmkbadjaa

/-- The model's: all orders that begin with some sets, k items being left. -/
def odG (n : Nat) : Nat → List Int → List (List Int)
  | 0, h => if vo h then [h] else []
  | k + 1, h => (List.range (2 ^ n)).flatMap fun s => if s.testBit h.length then [] else odG n k (h ++ [(s : Int)])
/-- The sets of k items that a number tells, those of the first item by its highest bits. -/
def chK (n k c : Nat) : List Int := (List.range k).map fun i => ((c / 2 ^ (n * (k - 1 - i)) % 2 ^ n : Nat) : Int)
theorem chK_len (n k c : Nat) : (chK n k c).length = k := by simp [chK]
theorem chK_succ (n k s c : Nat) (hs : s < 2 ^ n) (hc : c < 2 ^ (n * k)) : chK n (k + 1) (s * 2 ^ (n * k) + c) = (s : Int) :: chK n k c := by
  have hp : 0 < 2 ^ (n * k) := Nat.two_pow_pos _
  unfold chK
  rw [List.range_succ_eq_map, List.map_cons, List.map_map]
  congr 1
  · have : (s * 2 ^ (n * k) + c) / 2 ^ (n * (k + 1 - 1 - 0)) = s := by
      rw [show k + 1 - 1 - 0 = k by omega, Nat.mul_comm s, Nat.mul_add_div hp, Nat.div_eq_of_lt hc, Nat.add_zero]
    rw [this, Nat.mod_eq_of_lt hs]
  · refine List.map_congr_left fun i hi => ?_
    have hi := List.mem_range.1 hi
    simp only [Function.comp, Nat.succ_eq_add_one]
    congr 1
    have e1 : k + 1 - 1 - (i + 1) = k - 1 - i := by omega
    rw [e1]
    obtain ⟨d, hd⟩ : ∃ d, k - 1 - i = d := ⟨_, rfl⟩
    rw [hd]
    have hdk : d < k := by omega
    have e2 : 2 ^ (n * k) = 2 ^ (n * d) * (2 ^ n * 2 ^ (n * (k - d - 1))) := by
      rw [← Nat.pow_add, ← Nat.pow_add]
      congr 1
      have : k = d + (1 + (k - d - 1)) := by omega
      conv => lhs; rw [this, Nat.mul_add, Nat.mul_add, Nat.mul_one]
    rw [e2, show s * (2 ^ (n * d) * (2 ^ n * 2 ^ (n * (k - d - 1)))) = 2 ^ (n * d) * (s * (2 ^ n * 2 ^ (n * (k - d - 1)))) by rw [Nat.mul_left_comm], Nat.mul_add_div (Nat.two_pow_pos _),
      show s * (2 ^ n * 2 ^ (n * (k - d - 1))) = 2 ^ n * (s * 2 ^ (n * (k - d - 1))) by rw [Nat.mul_left_comm], Nat.mul_add_mod]

theorem range_mul (a b : Nat) : List.range (a * b) = (List.range a).flatMap fun s => (List.range b).map fun c => s * b + c := by
  induction a with
  | zero => simp
  | succ a ih =>
    rw [Nat.succ_mul, List.range_add, ih, List.range_succ, List.flatMap_append]
    simp
theorem filter_flat {α β : Type} (p : β → Bool) (f : α → List β) (l : List α) : (l.flatMap f).filter p = l.flatMap fun a => (f a).filter p := by
  induction l with
  | nil => rfl
  | cons a l ih => simp [List.flatMap_cons, List.filter_append, ih]
theorem odG_all (n : Nat) : ∀ (k : Nat) (h : List Int), odG n k h = ((List.range (2 ^ (n * k))).map fun c => h ++ chK n k c).filter vo
  | 0, h => by
    rw [odG, Nat.mul_zero, Nat.pow_zero]
    simp only [List.range_one, List.map_cons, List.map_nil]
    rw [show chK n 0 0 = [] from rfl, List.append_nil]
    cases e : vo h <;> simp [e]
  | k + 1, h => by
    rw [odG, show n * (k + 1) = n + n * k by rw [Nat.mul_add, Nat.mul_one, Nat.add_comm], Nat.pow_add, range_mul, List.map_flatMap, filter_flat]
    have key : ∀ s ∈ List.range (2 ^ n), (if s.testBit h.length then [] else odG n k (h ++ [(s : Int)])) = (((List.range (2 ^ (n * k))).map fun c => s * 2 ^ (n * k) + c).map fun c => h ++ chK n (k + 1) c).filter vo := fun s hs => by
      have hs := List.mem_range.1 hs
      rw [List.map_map]
      have e1 : ((List.range (2 ^ (n * k))).map ((fun c => h ++ chK n (k + 1) c) ∘ fun c => s * 2 ^ (n * k) + c)) = (List.range (2 ^ (n * k))).map fun c => (h ++ [(s : Int)]) ++ chK n k c :=
        List.map_congr_left fun c hc => by
          simp only [Function.comp]
          rw [chK_succ n k s c hs (List.mem_range.1 hc)]
          simp
      rw [e1]
      by_cases hb : s.testBit h.length = true
      · rw [if_pos hb]
        refine (List.filter_eq_nil_iff.2 fun r hr => ?_).symm
        obtain ⟨c, _, rfl⟩ := List.mem_map.1 hr
        intro hv
        have hvo : VoP ((h ++ [(s : Int)]) ++ chK n k c) := by simpa [vo] using hv
        have hlt : h.length < ((h ++ [(s : Int)]) ++ chK n k c).length := by simp
        have := hvo.irrB hlt
        rw [List.append_assoc, List.getElem?_append_right (Nat.le_refl _), Nat.sub_self] at this
        simp only [List.singleton_append, List.getElem?_cons_zero, Option.getD_some] at this
        unfold bitB at this
        rw [Int.toNat_natCast, Int.toNat_natCast, hb] at this
        cases this
      · rw [if_neg hb]
        exact odG_all n k (h ++ [(s : Int)])
    rw [List.flatMap_def, List.flatMap_def, List.map_congr_left key]
/-- All orders of n items. -/
def oaL (n : Nat) : List (List Int) := ((List.range (2 ^ (n * n))).map (chK n n)).filter vo
theorem odG_nil (n : Nat) : odG n n [] = oaL n := by
  rw [odG_all]
  unfold oaL
  congr 1
theorem oaL_mem {n : Nat} {r : List Int} (h : r ∈ oaL n) : VoP r ∧ r.length = n := by
  obtain ⟨h1, h2⟩ := List.mem_filter.1 h
  obtain ⟨c, _, rfl⟩ := List.mem_map.1 h1
  exact ⟨by simpa [vo] using h2, chK_len n n c⟩
/-- All shapes of n items. -/
def shpL (n : Nat) : List (List Int) := (oaL n).filter fun r => decide (canA r = r)
end Go.Proofs.Ytghogabmkbadjaa

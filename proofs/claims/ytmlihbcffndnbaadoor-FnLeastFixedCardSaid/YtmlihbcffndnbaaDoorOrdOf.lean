/- OrderOf: the program's and the model's. -/
import Derived.Test.YtmlihbcffndnbaaDoorFollow
import Derived.Test.YtmlihbcffndnbaaDoorGb
set_option linter.unusedVariables false
set_option linter.unusedSimpArgs false
namespace Go.Proofs.YtmlihbcffndnbaaDoor
open Go.RowKit Go.Shelf

/-- Whether a row is a pair of numbers of items. -/
def pairOk (n : Int) (r : List Int) : Bool := decide (r.length = 2) && inB (r[0]?.getD 0) 0 (n - 1) && inB (r[1]?.getD 0) 0 (n - 1)
def prOf (r : List Int) : Nat × Nat := ((r[1]?.getD 0).toNat, (r[0]?.getD 0).toNat)
def baseR (n : Nat) (rs : List (List Int)) : List Int := downP n (rs.map prOf)
def closR (n : Nat) (rs : List (List Int)) : List Int := folTo n (baseR n rs) n
def ordOk (n : Int) (rs : List (List Int)) : Bool := inB n 0 6 && rs.all (pairOk n) && vo (closR n.toNat rs)
def ordL (n : Int) (rs : List (List Int)) : List Int := if ordOk n rs then closR n.toNat rs else []
def GivesOrder (w : World) (n : Int) (rs : List (List Int)) (e : Ending) (w' : World) : Prop :=
  ∃ A m c, e = .returned (.tuple #[.slice A m c, .bool (ordOk n rs)]) ∧ Row w' w.heap.size w'.heap.size A m (ordL n rs) ∧ Below w.heap.size w w'

theorem inB_iff {a l h : Int} : inB a l h = true ↔ l ≤ a ∧ a ≤ h := by simp [inB]
theorem pairOk_iff {n : Int} {r : List Int} : pairOk n r = true ↔ r.length = 2 ∧ ((0 : Int) ≤ r[0]?.getD 0 ∧ r[0]?.getD 0 ≤ n - 1) ∧ ((0 : Int) ≤ r[1]?.getD 0 ∧ r[1]?.getD 0 ≤ n - 1) := by
  simp [pairOk, inB_iff, and_assoc]
theorem baseR_fit {n : Nat} {rs : List (List Int)} (h : ∀ r ∈ rs, pairOk n r = true) : Fit n (baseR n rs) ∧ Sets (baseR n rs) ∨ 6 < n := by
  by_cases hn : n ≤ 6
  · have hf : Fit n (baseR n rs) := base_fit (fun p hp => by
      obtain ⟨r, hr, rfl⟩ := List.mem_map.1 hp
      have := pairOk_iff.1 (h r hr)
      show (r[1]?.getD 0).toNat < n
      omega)
    exact .inl ⟨hf, by rw [hf.1]; exact hn, fun a _ => by rw [hf.1]; exact hf.2 a⟩
  · exact .inr (by omega)
theorem baseR_snoc (n : Nat) (rs : List (List Int)) (r : List Int) : baseR n (rs ++ [r]) = (baseR n rs).set (r[0]?.getD 0).toNat (orI ((baseR n rs)[(r[0]?.getD 0).toNat]?.getD 0) (powI (r[1]?.getD 0).toNat)) := by
  rw [baseR, List.map_append, List.map_singleton, downP_snoc]; rfl
theorem take_snoc {rs : List (List Int)} {k : Nat} (hk : k < rs.length) : rs.take k ++ [rs[k]?.getD []] = rs.take (k + 1) := by
  rw [List.take_succ_eq_append_getElem hk, List.getElem?_eq_getElem hk]; rfl
theorem fit_sets {n : Nat} {d : List Int} (h : Fit n d) (hn : n ≤ 6) : Sets d := ⟨by rw [h.1]; exact hn, fun a _ => by rw [h.1]; exact h.2 a⟩
theorem ord_no {n : Int} {rs : List (List Int)} {k : Nat} (hk : k < rs.length) (h : pairOk n (rs[k]?.getD []) = false) : ordOk n rs = false := by
  unfold ordOk
  rw [List.getElem?_eq_getElem hk, Option.getD_some] at h
  have : rs.all (pairOk n) = false := by
    rw [Bool.eq_false_iff]
    intro ha
    rw [List.all_eq_true.1 ha _ (List.getElem_mem hk)] at h
    cases h
  rw [this]; simp
theorem none_order {w w' : World} {n : Int} {rs : List (List Int)} (h : ordOk n rs = false) (hB : Below w.heap.size w w') : GivesOrder w n rs (.returned (.tuple #[.slice none 0 0, .bool false])) w' :=
  ⟨none, 0, 0, by rw [h], by rw [ordL, h]; exact Row.nil _ _ _ _, hB⟩

end Go.Proofs.YtmlihbcffndnbaaDoor

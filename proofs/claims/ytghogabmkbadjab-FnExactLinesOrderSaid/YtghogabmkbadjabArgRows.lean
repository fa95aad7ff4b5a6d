/- An argument that is a list of lists: opened, and read again. -/
import Derived.Test.YtghogabmkbadjabFrame
import Derived.Test.YtghogabmkbadjabGa
import Derived.Deep.Matrix
import Derived.Carry
set_option linter.unusedVariables false
set_option linter.unusedSimpArgs false
namespace Go.Proofs.Ytghogabmkbadjab
open Go.ChangeShapes Go.WideShapes Go.ChangeAt Go.RowKit Go.Deep
variable {H : Type} {enc : TypeId × Value → H}

theorem cellsRow : Try.prog.cellsOf 22 = 1 := by kernel_rfl

set_option maxRecDepth 100000 in
theorem arg_rows {W : World} {v : Value} {d : DataW H} {p : List MemPlace} {base : Nat} (hok : Value.okWide Try.prog W .any base 32 v)
    (h : DataW.Trod enc Try.prog W 0 (fun _ => true) true 32 v d p) :
    ∃ (A : Option Addr) (n c : Nat) (rs : List (List Int)), v = .slice A n c ∧ IntsS W W.heap.size A n rs ∧ n ≤ maxLen ∧ (∀ r ∈ rs, r.length ≤ maxLen) ∧
      ∀ (W' : World), Below W.heap.size W W' → ∀ sp : Nat → Bool, (∀ q ∈ p, sp q.block = true) → DataW.Trod enc Try.prog W' 0 sp true 32 v d p := by
  have again : ∀ (W' : World), Below W.heap.size W W' → ∀ sp : Nat → Bool, (∀ q ∈ p, sp q.block = true) → DataW.Trod enc Try.prog W' 0 sp true 32 v d p := fun W' hb sp hsp =>
    WideElems.Trod_stays (by kernel_rfl) (by kernel_rfl) (Nat.le_of_ble_eq_true (by kernel_rfl)) h (fun x hx => hb.same (by
      obtain ⟨fuel, hf⟩ := h
      exact DataW.trod_lt _ _ _ _ hf x hx)) hsp
  obtain ⟨a0, len, cap, rfl⟩ := okWide_slice Try.underlying32 hok
  obtain ⟨fuel, hf⟩ := h
  rcases open_int_rows Try.underlying32 Try.underlying22 Try.underlying3 cellsRow cellsInt hf with ⟨hcs, hx⟩ | ⟨a, len', cap', A, L, C, Z, hcs, _, hl, hm, hx, hrow⟩
  · simp [Value.cells] at hcs
    obtain ⟨rfl, rfl, rfl⟩ := hcs
    exact ⟨none, 0, 0, [], rfl, ⟨rfl, fun h => absurd h (by omega)⟩, by simp [maxLen], (fun _ hx => by cases hx), again⟩
  · simp [Value.cells] at hcs
    obtain ⟨rfl, rfl, rfl⟩ := hcs
    have hlen : ∀ j, j < cap → ((Z j).take (L j)).length = L j := fun j hj => by
      obtain ⟨_, h1, _, h2, _⟩ := hrow j hj
      simp; omega
    have hget : ∀ j, j < len → ((List.range len).map fun r => (Z r).take (L r))[j]?.getD [] = (Z j).take (L j) := fun j hj => by simp [hj]
    refine ⟨some a, len, cap, (List.range len).map fun r => (Z r).take (L r), rfl, ⟨by simp, fun hn => ?_⟩, by omega, fun r hr => ?_, again⟩
    · obtain ⟨b, off, spot⟩ := a
      have hspot : spot = none := by simpa [Addr.add] using World.cell?_spot (hrow 0 (by omega)).1
      subst hspot
      have hb : b < W.heap.size := by
        have := cell_lt (hrow 0 (by omega)).1
        rwa [block_of_add] at this
      refine ⟨b, off, rfl, hb, fun j hj => ?_⟩
      rw [hget j hj, hlen j (by omega)]
      obtain ⟨h1, h2, h3, h4, h5, h6, h7⟩ := hrow j (by omega)
      refine ⟨A j, C j, by rw [← add_plain]; exact h1, hlen j (by omega), fun hL => ?_⟩
      cases hA : A j with
      | none => have := h6 hA; omega
      | some a' =>
        obtain ⟨_, h8⟩ := h7 a' hA
        obtain ⟨b', off', spot'⟩ := a'
        have hspot' : spot' = none := by simpa [Addr.add] using World.cell?_spot (h8 0 (by omega))
        subst hspot'
        have hb' : b' < W.heap.size := by
          have := cell_lt (h8 0 (by omega))
          rwa [block_of_add] at this
        refine ⟨b', off', rfl, hb', fun i hi => ?_⟩
        rw [← add_plain, h8 i (by omega)]
        simp [hi]
    · obtain ⟨j, hj, rfl⟩ := List.mem_map.1 hr
      have hjl := List.mem_range.1 hj
      obtain ⟨h1, h2, h3, _⟩ := hrow j (by omega)
      rw [hlen j (by omega)]
      omega
end Go.Proofs.Ytghogabmkbadjab

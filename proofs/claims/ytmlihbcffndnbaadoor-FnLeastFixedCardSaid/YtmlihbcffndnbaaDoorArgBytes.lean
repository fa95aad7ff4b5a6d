/- An argument that is a list of bytes: opened, and read again. -/
import Derived.Test.YtmlihbcffndnbaaDoorFrame
import Derived.Test.YtmlihbcffndnbaaDoorByts
import Derived.Deep.Matrix
import Derived.Carry
set_option linter.unusedVariables false
set_option linter.unusedSimpArgs false
namespace Go.Proofs.YtmlihbcffndnbaaDoor
open Go.ChangeShapes Go.WideShapes Go.ChangeAt Go.RowKit Go.Deep
variable {H : Type} {enc : TypeId × Value → H}

theorem cellsByte : Tryd.prog.cellsOf 5 = 1 := by kernel_rfl
theorem wf_u8 {x : Int} (h : (Lit.int .u8 x).wf = true) : 0 ≤ x ∧ x < 256 := by
  have hm : IntKind.u8.min = 0 := by decide
  have hM : IntKind.u8.max = 255 := by decide
  simp only [Lit.wf, hm, hM, Bool.and_eq_true, decide_eq_true_eq] at h
  omega

set_option maxRecDepth 100000 in
theorem arg_bytes {W : World} {v : Value} {d : DataW H} {p : List MemPlace} {base : Nat} (hok : Value.okWide Tryd.prog W .any base 26 v)
    (h : DataW.Trod enc Tryd.prog W 0 (fun _ => true) true 26 v d p) :
    ∃ (A : Option Addr) (n c : Nat) (bs : List Int), v = .slice A n c ∧ Byts W W.heap.size A n bs ∧ (n ≤ c ∧ n ≤ maxLen) ∧
      ∀ (W' : World), Below W.heap.size W W' → ∀ sp : Nat → Bool, (∀ q ∈ p, sp q.block = true) → DataW.Trod enc Tryd.prog W' 0 sp true 26 v d p := by
  have again : ∀ (W' : World), Below W.heap.size W W' → ∀ sp : Nat → Bool, (∀ q ∈ p, sp q.block = true) → DataW.Trod enc Tryd.prog W' 0 sp true 26 v d p := fun W' hb sp hsp =>
    WideElems.Trod_stays (by kernel_rfl) (by kernel_rfl) (Nat.le_of_ble_eq_true (by kernel_rfl)) h (fun x hx => hb.same (by
      obtain ⟨fuel, hf⟩ := h
      exact DataW.trod_lt _ _ _ _ hf x hx)) hsp
  obtain ⟨a0, len, cap, rfl⟩ := okWide_slice Tryd.underlying26 hok
  obtain ⟨fuel, hf⟩ := h
  rcases open_ints Tryd.underlying26 Tryd.underlying5 cellsByte hf with ⟨hcs, hx⟩ | ⟨a, len', cap', zs, hcs, _, hl, hm, hz, hx, hcell, hwz⟩
  · simp [Value.cells] at hcs
    obtain ⟨rfl, rfl, rfl⟩ := hcs
    exact ⟨none, 0, 0, [], rfl, ⟨rfl, fun j => by simp, fun h => absurd h (by omega)⟩, ⟨by omega, by simp [maxLen]⟩, again⟩
  · simp [Value.cells] at hcs
    obtain ⟨rfl, rfl, rfl⟩ := hcs
    simp only [if_true] at hz
    refine ⟨some a, len, cap, zs.take len, rfl, ⟨by simp; omega, fun j => ?_, fun hn => ?_⟩, ⟨hl, by omega⟩, again⟩
    · cases hg : (zs.take len)[j]? with
      | none => simp
      | some x => exact wf_u8 (hwz x (List.mem_of_mem_take (List.mem_of_getElem? hg)))
    · obtain ⟨b, off, spot⟩ := a
      have hspot : spot = none := by simpa [Addr.add] using World.cell?_spot (hcell 0 (by omega))
      subst hspot
      have hb : b < W.heap.size := by
        have := cell_lt (hcell 0 (by omega))
        rwa [block_of_add] at this
      refine ⟨b, off, rfl, hb, fun j hj => ?_⟩
      rw [← add_plain, hcell j (by omega)]
      simp [hj]
end Go.Proofs.YtmlihbcffndnbaaDoor

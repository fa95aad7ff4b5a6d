/- CountPairs: how many items sets have, in the model and in the program. -/
import Derived.Test.YtidggolnhagfdaaDoorHelp
import Derived.Test.YtidggolnhagfdaaDoorValid
namespace Go.Proofs.YtidggolnhagfdaaDoor
open Go.RowKit

def popN : Nat → Int → Int
  | 0, _ => 0
  | k + 1, s => s % 2 + popN k (s / 2)
/-- How many items a set of at most six has. -/
def popI (s : Int) : Int := popN 6 s
def onesI (s : Int) : Int :=
  let a := IntKind.u64.wrap (bits .and .u64 (s / 2) 6148914691236517205 + bits .and .u64 s 6148914691236517205)
  let b := IntKind.u64.wrap (bits .and .u64 (a / 4) 3689348814741910323 + bits .and .u64 a 3689348814741910323)
  let c := bits .and .u64 (IntKind.u64.wrap (b / 16 + b)) 1085102592571150095
  let d := IntKind.u64.wrap (c + c / 256)
  let e := IntKind.u64.wrap (d + d / 65536)
  let f := IntKind.u64.wrap (e + e / 4294967296)
  bits .and .i64 (wrap64 f) 127
theorem onesI_fin : ∀ k : Fin 64, onesI (k.val : Int) = popI (k.val : Int) := by decide +kernel
theorem onesI_eq {s : Int} (h0 : 0 ≤ s) (h1 : s < 64) : onesI s = popI s := by
  obtain ⟨k, rfl⟩ := Int.eq_ofNat_of_zero_le h0
  exact onesI_fin ⟨k, by omega⟩
theorem popI_fin : ∀ k : Fin 64, 0 ≤ popI (k.val : Int) ∧ popI (k.val : Int) ≤ 6 := by decide +kernel
theorem popI_bd {s : Int} (h0 : 0 ≤ s) (h1 : s < 64) : 0 ≤ popI s ∧ popI s ≤ 6 := by
  obtain ⟨k, rfl⟩ := Int.eq_ofNat_of_zero_le h0
  exact popI_fin ⟨k, by omega⟩
theorem popN_zero (k : Nat) : popN k 0 = 0 := by induction k <;> simp_all [popN]

/-- How many items the first k sets have together. -/
def popTo (zs : List Int) : Nat → Int
  | 0 => 0
  | k + 1 => popTo zs k + popI (zs[k]?.getD 0)
theorem popTo_bd {zs : List Int} (h : Sets zs) : ∀ k : Nat, k ≤ zs.length → 0 ≤ popTo zs k ∧ popTo zs k ≤ 6 * k
  | 0, _ => by simp [popTo]
  | k + 1, hk => by
    have h1 := popTo_bd h k (by omega)
    have h2 := h.bd k (by omega)
    have h3 := popI_bd h2.1 h2.2
    unfold popTo
    omega
def countR (zs : List Int) : Int := if vo zs then popTo zs zs.length else -1

end Go.Proofs.YtidggolnhagfdaaDoor

/- A chain of links: the set of its items. -/
import Derived.Test.YtghogabmkbadjabLkI
set_option linter.unusedVariables false
set_option linter.unusedSimpArgs false
namespace Go.Proofs.Ytghogabmkbadjab
open Go.RowKit Go.Shelf
attribute [local go_sem] Oper.semAt_some

/-- The items from i up, f of them at most. -/
def chT (nx : Nat → Option Nat) : Nat → Nat → Int → Int
  | 0, _, acc => acc
  | f + 1, i, acc => match nx i with
    | none => orI acc (powI (i : Int))
    | some j => chT nx f j (orI acc (powI (i : Int)))
/-- What is left to be done at a link, or behind the last one. -/
def LeftC (nx : Nat → Option Nat) (r : Nat → Nat) (n : Nat) (T : Int) (acc : Int) : Option Nat → Prop
  | none => acc = T
  | some i => i < n ∧ ∃ f, r i < f ∧ chT nx f i acc = T

set_option maxRecDepth 100000 in
set_option maxHeartbeats 4000000 in
theorem chain_any (s n : Nat) (hn : n ≤ 6) (nx : Nat → Option Nat) (r : Nat → Nat) (hnx : ∀ i j, i < n → nx i = some j → j < n ∧ r j < r i) (i0 f0 : Nat) (hi0 : i0 < n) (hf0 : r i0 < f0) (w : World) (hL : Links w s n nx) :
    Calls Try.prog 94 #[lnk s i0] w fun e w' => e = .returned (.int .i64 (chT nx f0 i0 0)) ∧ Upd (fun _ => False) w w' := by
  have HT := Lib.hid (show LeftC nx r n (chT nx f0 i0 0) 0 (some i0) from ⟨hi0, f0, hf0, rfl⟩)
  generalize chT nx f0 i0 0 = T at *
  go_enter Try.func94, Try.ntmps94
  go_wp2_with fail
  go_loopw [3, 4] (fun c v wr => ∃ (acc : Int) (o : Option Nat), 0 ≤ acc ∧ acc < 64 ∧ c = .int .i64 acc ∧ v = lnkN s o ∧ LeftC nx r n T acc o ∧ wr = w) (fun _ v _ => match v with | .pointer (some p) => r (p.block - s) + 1 | _ => 0)
  case atStart => exact ⟨0, some i0, by omega, by omega, rfl, rfl, HT.out, rfl⟩
  case round =>
    obtain ⟨acc, o, ha0, ha6, rfl, rfl, hleft, rfl⟩ := hrel
    cases o with
    | none =>
      have hT : acc = T := hleft
      subst hT
      rw [show lnkN s none = .pointer none from rfl]
      go_wp2_with fail
      go_ret
      exact ⟨rfl, Upd.refl _ _⟩
    | some i =>
      obtain ⟨hi, f, hf, hch⟩ := hleft
      have hb := hL i hi
      have hc0 : wr.cell? ⟨s + i, 0, none⟩ = some (.int .i64 (i : Int)) := by rw [cell_of_row _ _ 0 _ _ (0, 0) hb]; rfl
      have hc1 : wr.cell? ⟨s + i, 1, none⟩ = some (lnkN s (nx i)) := by rw [cell_of_row _ _ 1 _ _ (0, 0) hb]; rfl
      have hpp := powI_pos (i : Int)
      have hpb : powI (i : Int) < 64 := by
        have h1 := powI_le6 (n := ((i + 1 : Nat) : Int)) (by omega)
        have h2 : powI ((i + 1 : Nat) : Int) = 2 * powI i := by rw [show ((i + 1 : Nat) : Int) = (i : Int) + 1 by omega]; exact powI_succ (by omega)
        omega
      have hbd := orI_bd (n := 6) ha0 (show acc < powI 6 from ha6) (Int.le_of_lt hpp) (show powI (i : Int) < powI 6 from hpb)
      rw [show powI 6 = 64 from rfl] at hbd
      have Hnext := Lib.hid (show LeftC nx r n T (orI acc (powI (i : Int))) (nx i) ∧ (∀ j, nx i = some j → r j < r i) from by
        refine ⟨?_, fun j e => (hnx i j hi e).2⟩
        cases f with
        | zero => omega
        | succ f =>
          unfold chT at hch
          cases e : nx i with
          | none => rw [e] at hch; exact hch
          | some j =>
            rw [e] at hch
            have := hnx i j hi e
            exact ⟨this.1, f, by omega, hch⟩)
      have hwi : ∀ w, Calls Try.prog 115 #[.int .i64 acc, .int .i64 (i : Int)] w fun e w' => e = .returned (.int .i64 (orI acc (powI (i : Int)))) ∧ w = w' := fun w => with_any _ _ _ (by omega) (by omega) (by omega) (by omega)
      rw [show lnkN s (some i) = .pointer (some ⟨s + i, 0, none⟩) from rfl]
      go_wp2_with fail
      refine (hwi _).mono ?_
      rintro e w2 ⟨rfl, rfl⟩
      have hcx := hc1
      generalize nx i = o' at *
      go_wp2_with fail
      go_roundw
      case rel => exact ⟨orI acc (powI (i : Int)), o', by omega, by omega, rfl, rfl, Hnext.out.1, trivial⟩
      case measure =>
        cases o' with
        | none => simp [lnkN]
        | some j =>
          have := Hnext.out.2 j rfl
          simp [lnkN]
          omega
end Go.Proofs.Ytghogabmkbadjab

/- isNumbering: whether a list has each number once. -/
import Derived.Test.YtghogabmkbadjaaGxd
import Derived.Test.YtghogabmkbadjaaIsLineI
set_option linter.unusedVariables false
set_option linter.unusedSimpArgs false
namespace Go.Proofs.Ytghogabmkbadjaa
open Go.RowKit Go.Shelf
attribute [local go_sem] Oper.semAt_some
attribute [local go_sem, local simp] wide_fn

set_option maxRecDepth 100000 in
theorem isNumbering_any (n : Nat) (A' : Option Addr) (n' c' : Nat) (ts : List Int) (w : World) (hn6 : n ≤ 6) (h' : Ints w w.heap.size A' n' ts) (hbig' : n' ≤ 1152921504606846976) :
    Calls Try.prog 48 #[.int .i64 (n : Int), .slice A' n' c'] w fun e w' => e = .returned (.bool (lineB (zr n) ts)) ∧ Below w.heap.size w w' := by
  have hmk := run_make_row' (P := Try.prog) 44 59 (.int .i64 0) 8 Try.underlying44 infoItems rfl .i64 .i64 n (by omega) (by omega)
  go_enter Try.func48, Try.ntmps48
  go_wp2_with fail
  have hA2 := Arr.new w 59 n
  have hB2 : Below w.heap.size w (w.alloc (.cells (madeCells #[.int .i64 0] n) 59)) := (Below.refl _ _).alloc (Nat.le_refl _) _
  obtain ⟨w2, hW2⟩ : ∃ w2, w.alloc (.cells (madeCells #[.int .i64 0] n) 59) = w2 := ⟨_, rfl⟩
  rw [hW2] at hA2 hB2 ⊢
  clear hW2 hmk
  have z2 := hB2.size
  have j2 := h'.to hB2 (Nat.le_refl _) z2
  refine (lineup_any _ n _ (zr n) (zr_vo hn6).sets _ (hA2.ints' hA2.lt (by simp))).mono ?_
  rintro e w3 ⟨bd, bm, rfl, hA3, -, hbd, -, -, hB3⟩
  have C3 := hB2.trans (hB3.mono z2)
  go_wp2_with fail
  refine (lisLine_any bd bm n A' n' c' (zr n) ts (zr_vo hn6) (zr_len n) w3 (hA3.ints' hA3.lt (by rw [du_len, zr_len])) (j2.to hB3 (Nat.le_refl _) hB3.size) hbig').mono ?_
  rintro e w4 ⟨rfl, hB4⟩
  go_wp2_with fail
  go_ret
  exact ⟨rfl, C3.trans (hB4.mono C3.size)⟩

end Go.Proofs.Ytghogabmkbadjaa

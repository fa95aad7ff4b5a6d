/- The arguments of FirstChance, drawn. -/
import Derived.Test.YtmlihbcffndnbabDoorGxd
set_option linter.unusedVariables false
set_option linter.unusedSimpArgs false
namespace Go.Proofs.YtmlihbcffndnbabDoor
open Go.RowKit Go.Shelf

set_option maxRecDepth 100000 in
set_option maxHeartbeats 4000000 in
theorem anItem_any (R p n : Nat) (w : World) (hR0 : Rd w R p) (hp : p ≤ 900000) (hn : n ≤ 7) :
    Calls Tryd.prog 44 #[.pointer (some ⟨R, 0, none⟩), .int .i64 (n : Int)] w fun e w' => ∃ v, e = .returned (.int .i64 v) ∧ Rd w' R (p + 7) ∧ Upd (fun k => k = R) w w' := by
  go_enter Tryd.func44, Tryd.ntmps44
  go_wp2_with fail
  refine (pick_any R _ _ w hR0 (by omega)).mono ?_
  rintro e w1 ⟨y1, rfl, -, hR1, hU1⟩
  go_wp2_with fail
  refine (pick_any R _ _ w1 hR1 (by omega)).mono ?_
  rintro e w2 ⟨y2, rfl, -, hR2, hU2⟩
  go_wp2_with fail
  refine (pick_any R _ _ w2 hR2 (by omega)).mono ?_
  rintro e w3 ⟨y3, rfl, -, hR3, hU3⟩
  go_wp2_with fail
  refine (pick_any R _ _ w3 hR3 (by omega)).mono ?_
  rintro e w4 ⟨y4, rfl, -, hR4, hU4⟩
  go_wp2_with fail
  refine (pick_any R _ _ w4 hR4 (by omega)).mono ?_
  rintro e w5 ⟨y5, rfl, -, hR5, hU5⟩
  go_wp2_with fail
  refine (pick_any R _ _ w5 hR5 (by omega)).mono ?_
  rintro e w6 ⟨y6, rfl, -, hR6, hU6⟩
  have hUU := ((((hU1.trans hU2).trans hU3).trans hU4).trans hU5).trans hU6
  have hRl := hR6.lt
  go_wp2_with fail
  have hL : Arr (w6.alloc (.cells #[Value.int .i64 y1, .int .i64 y2, .int .i64 y3, .int .i64 y4, .int .i64 y5, .int .i64 0, .int .i64 ((n : Int) - 1), .int .i64 y6, .int .i64 (n : Int), .int .i64 (-1)] 3)) w6.heap.size 3 [y1, y2, y3, y4, y5, 0, (n : Int) - 1, y6, (n : Int), -1] := heap_alloc_new w6 _
  have hUl : Upd (fun _ => False) w6 (w6.alloc (.cells #[Value.int .i64 y1, .int .i64 y2, .int .i64 y3, .int .i64 y4, .int .i64 y5, .int .i64 0, .int .i64 ((n : Int) - 1), .int .i64 y6, .int .i64 (n : Int), .int .i64 (-1)] 3)) := (Upd.refl _ _).alloc _
  obtain ⟨W6, hW6⟩ : ∃ W6, w6.alloc (.cells #[Value.int .i64 y1, .int .i64 y2, .int .i64 y3, .int .i64 y4, .int .i64 y5, .int .i64 0, .int .i64 ((n : Int) - 1), .int .i64 y6, .int .i64 (n : Int), .int .i64 (-1)] 3) = W6 := ⟨_, rfl⟩
  rw [hW6] at hL hUl ⊢
  clear hW6
  refine (one_any R _ _ 10 10 _ _ W6 (hR6.upd hUl (fun _ e => e.elim)) (by omega) (hL.ints' (n := 10) hL.lt rfl) (fun b off e => by cases e; omega) (by omega) (by omega)).mono ?_
  rintro e w7 ⟨v, rfl, -, hR7, hU7⟩
  go_wp2_with fail
  go_ret
  exact ⟨v, rfl, hR7, hUU.trans ((hUl.mono (S := fun k => k = R) (fun _ _ e => e.elim)).trans hU7)⟩

end Go.Proofs.YtmlihbcffndnbabDoor

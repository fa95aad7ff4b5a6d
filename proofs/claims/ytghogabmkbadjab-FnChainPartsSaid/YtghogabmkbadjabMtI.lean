/- The matching: the program's, item by item. -/
import Derived.Test.YtghogabmkbadjabFindI
import Derived.Test.YtghogabmkbadjabRep
set_option linter.unusedVariables false
set_option linter.unusedSimpArgs false
namespace Go.Proofs.Ytghogabmkbadjab
open Go.RowKit Go.Shelf
attribute [local go_sem] Oper.semAt_some
theorem run_store_fn {P : Program} {w : World} {a : Addr} {m : Mode} (fn : Fn) (first captured : Array Value) : (store a (.func fn first captured) m).run P w = stored P w a (.func fn first captured) m := run_store P w a _ m rfl
attribute [local go_sem] run_store_fn

theorem matesTo_len (zs : List Int) : ∀ k : Nat, k ≤ zs.length → (matesTo zs k).length = zs.length := fun k hk => (matesTo_ok zs k hk).1
theorem Cel.ofArr {w : World} {b n : Nat} {t : TypeId} {d : List Int} (h : Arr w b t d) (hn : d.length = n) : Cel w b t n d := ⟨hn, _, h, by rw [← hn]; exact List.take_of_length_le (by simp)⟩

set_option maxRecDepth 100000 in
set_option maxHeartbeats 4000000 in
theorem matchItems_any (bz n : Nat) (zs : List Int) (hvo : VoP zs) (hlen : zs.length = n) (w : World) (hZ : Arr w bz 76 zs) :
    Calls Try.prog 136 #[.slice (some ⟨bz, 0, none⟩) n n] w fun e w' => ∃ b, e = .returned (.slice (some ⟨b, 0, none⟩) n n) ∧ w.heap.size ≤ b ∧ Cel w' b 3 n (matesTo zs n) ∧ Below w.heap.size w w' := by
  have Hlen := Lib.hid hlen
  have hn6 : n ≤ 6 := by have := hvo.1; rw [hlen] at this; exact this
  have hzl := hZ.lt
  clear hlen
  go_enter Try.func136, Try.ntmps136
  go_wp2_with fail
  have hU1 : Upd (fun _ => False) w ((w.alloc (.cells #[Value.slice (some ⟨bz, 0, none⟩) n n] 49)).alloc (.cells #[Value.int .i64 (-1)] 3)) := ((Upd.refl _ _).alloc _).alloc _
  have bO1 := (Boxed.new w 49 (.slice (some ⟨bz, 0, none⟩) n n)).alloc (.cells #[Value.int .i64 (-1)] 3)
  have hx1 : ((w.alloc (.cells #[Value.slice (some ⟨bz, 0, none⟩) n n] 49)).alloc (.cells #[Value.int .i64 (-1)] 3)).cell? ⟨w.heap.size + 1, 0, none⟩ = some (.int .i64 (-1)) := by
    have h := cell_new (w.alloc (.cells #[Value.slice (some ⟨bz, 0, none⟩) n n] 49)) 3 (.int .i64 (-1))
    rwa [World.size_alloc] at h
  have Z1 := Lib.hid (show ((w.alloc (.cells #[Value.slice (some ⟨bz, 0, none⟩) n n] 49)).alloc (.cells #[Value.int .i64 (-1)] 3)).heap.size = w.heap.size + 2 by simp)
  obtain ⟨w1, hw1⟩ : ∃ w1, (w.alloc (.cells #[Value.slice (some ⟨bz, 0, none⟩) n n] 49)).alloc (.cells #[Value.int .i64 (-1)] 3) = w1 := ⟨_, rfl⟩
  rw [hw1] at hU1 bO1 hx1 Z1 ⊢
  clear hw1
  refine (repeat_any (w.heap.size + 1) 1 n hn6 w1 hx1 (by rw [Z1.out]; omega)).mono ?_
  rintro e w2 ⟨rfl, hA2, hB2⟩
  have z2 := hB2.size
  have hlw : w.heap.size < w2.heap.size := by have := Z1.out; omega
  have bO2 : Boxed w2 w.heap.size 49 (.slice (some ⟨bz, 0, none⟩) n n) := (hB2.block w.heap.size (by rw [Z1.out]; omega)).trans bO1
  have hco2 : (((w2.alloc (.cells #[Value.slice (some ⟨w1.heap.size, 0, none⟩) n n] 22)).alloc (.cells #[Value.int .i64 0] 76)).alloc (.cells #[findV w.heap.size (w2.heap.size + 1) w2.heap.size (w2.heap.size + 1 + 1)] 93)).cell? ⟨w.heap.size, 0, none⟩ = some (.slice (some ⟨bz, 0, none⟩) n n) := (((bO2.alloc _).alloc _).alloc _).cell
  unfold findV at hco2
  go_wp2_with fail
  have W3d : ∃ W3, ((w2.alloc (.cells #[Value.slice (some ⟨w1.heap.size, 0, none⟩) n n] 22)).alloc (.cells #[Value.int .i64 0] 76)).alloc (.cells #[findV w.heap.size (w2.heap.size + 1) w2.heap.size (w2.heap.size + 1 + 1)] 93) = W3 := ⟨_, rfl⟩
  have bL3 := ((Boxed.new w2 22 (.slice (some ⟨w1.heap.size, 0, none⟩) n n)).alloc (.cells #[Value.int .i64 0] 76)).alloc (.cells #[findV w.heap.size (w2.heap.size + 1) w2.heap.size (w2.heap.size + 1 + 1)] 93)
  have bA3 := (Boxed.new (w2.alloc (.cells #[Value.slice (some ⟨w1.heap.size, 0, none⟩) n n] 22)) 76 (.int .i64 0)).alloc (.cells #[findV w.heap.size (w2.heap.size + 1) w2.heap.size (w2.heap.size + 1 + 1)] 93)
  have bF3 := Boxed.new ((w2.alloc (.cells #[Value.slice (some ⟨w1.heap.size, 0, none⟩) n n] 22)).alloc (.cells #[Value.int .i64 0] 76)) 93 (findV w.heap.size (w2.heap.size + 1) w2.heap.size (w2.heap.size + 1 + 1))
  have hU3 : Upd (fun _ => False) w2 (((w2.alloc (.cells #[Value.slice (some ⟨w1.heap.size, 0, none⟩) n n] 22)).alloc (.cells #[Value.int .i64 0] 76)).alloc (.cells #[findV w.heap.size (w2.heap.size + 1) w2.heap.size (w2.heap.size + 1 + 1)] 93)) := (((Upd.refl _ _).alloc _).alloc _).alloc _
  have Z3 := Lib.hid (show (((w2.alloc (.cells #[Value.slice (some ⟨w1.heap.size, 0, none⟩) n n] 22)).alloc (.cells #[Value.int .i64 0] 76)).alloc (.cells #[findV w.heap.size (w2.heap.size + 1) w2.heap.size (w2.heap.size + 1 + 1)] 93)).heap.size = w2.heap.size + 3 by simp)
  simp only [World.size_alloc] at bA3 bF3
  obtain ⟨W3, hW3⟩ := W3d
  have hW3' := hW3
  unfold findV at hW3'
  rw [hW3] at bL3 bA3 bF3 hU3 Z3
  rw [hW3']
  clear hW3 hW3'
  have bO3 : Boxed W3 w.heap.size 49 (.slice (some ⟨bz, 0, none⟩) n n) := (hU3.block w.heap.size bO2.lt (fun e => e)).trans bO2
  have hA3 := hA2.upd hU3 (fun e => e)
  have hZ2 : Arr w2 bz 76 zs := (hB2.block bz (by rw [Z1.out]; omega)).trans ((hU1.block bz hzl (fun e => e)).trans hZ)
  have hZ3 := hZ2.upd hU3 (fun e => e)
  have hC3 : Cel W3 w1.heap.size 3 n (matesTo zs 0) := Cel.ofArr (by unfold matesTo; rw [Hlen.out]; exact hA3) (by rw [matesTo_len zs 0 (by omega)]; exact Hlen.out)
  have hl2 : w1.heap.size < w2.heap.size := hA2.lt
  have hl1 : w.heap.size + 2 = w1.heap.size := Z1.out.symm
  have Hl1 := Lib.hid hl1
  clear hl1
  have hl1 : w.heap.size + 1 < w1.heap.size := by have := Hl1.out; omega
  clear bO1 bO2 hA2 hZ2 hA3 hZ hx1 hco2
  go_wp2_with fail
  go_loopw [14] (fun i wr => ∃ k : Nat, k ≤ n ∧ i = .int .i64 k ∧ Cel wr w1.heap.size 3 n (matesTo zs k) ∧ (∃ q : Int, Boxed wr (w2.heap.size + 1) 76 (.int .i64 q)) ∧ Upd (fun j => j = w1.heap.size ∨ j = w2.heap.size + 1) W3 wr) (fun i _ => n - (intOf i).toNat)
  case atStart => exact ⟨0, by omega, rfl, hC3, ⟨0, bA3⟩, Upd.refl _ _⟩
  case round =>
    clear hC3 bA3
    obtain ⟨k, hk, rfl, hC, ⟨q, bA⟩, hU⟩ := hrel
    rename World => wr
    have zU := hU.size
    rw [Z3.out] at zU
    have bLr : Boxed wr _ _ _ := (hU.block w2.heap.size (by rw [Z3.out]; omega) (by omega)).trans bL3
    have bFr : Boxed wr _ _ _ := (hU.block (w2.heap.size + 1 + 1) (by rw [Z3.out]; omega) (by omega)).trans bF3
    have bOr : Boxed wr _ _ _ := (hU.block w.heap.size (by rw [Z3.out]; omega) (by omega)).trans bO3
    have hZr := hZ3.upd hU (by omega)
    by_cases hlt : k < n
    · have hcA := bA.cell
      have hfA := bA.frozen
      have hcF : (wr.setCell ⟨w2.heap.size + 1, 0, none⟩ (.int .i64 0)).cell? ⟨w2.heap.size + 1 + 1, 0, none⟩ = some (findV w.heap.size (w2.heap.size + 1) w2.heap.size (w2.heap.size + 1 + 1)) := (Boxed.other bFr (by omega) _).cell
      unfold findV at hcF
      go_wp2_with fail
      have hU5 : Upd (fun j => j = w2.heap.size + 1) wr (wr.setCell ⟨w2.heap.size + 1, 0, none⟩ (.int .i64 0)) := (Upd.refl (fun j => j = w2.heap.size + 1) wr).setCell (p := ⟨w2.heap.size + 1, 0, none⟩) (.inr rfl) _
      have bA5 := bA.set (.int .i64 0)
      have bO5 := Boxed.other bOr (B' := w2.heap.size + 1) (by omega) (.int .i64 0)
      have bL5 := Boxed.other bLr (B' := w2.heap.size + 1) (by omega) (.int .i64 0)
      have bF5 := Boxed.other bFr (B' := w2.heap.size + 1) (by omega) (.int .i64 0)
      have hZ5 := hZr.upd hU5 (by omega)
      have hC5 := hC.upd hU5 (by omega)
      have hz5 := hU5.size
      obtain ⟨W5, hW5⟩ : ∃ W5, wr.setCell ⟨w2.heap.size + 1, 0, none⟩ (.int .i64 0) = W5 := ⟨_, rfl⟩
      rw [hW5] at hU5 bA5 bO5 bL5 bF5 hZ5 hC5 hz5 ⊢
      clear hW5 hcF bA bOr bLr bFr hZr hC hcA hfA
      have Hm := Lib.hid (show matesTo zs (k + 1) = (mateF zs (n + 1) k (matesTo zs k) (List.replicate n false)).2.1 by rw [show matesTo zs (k + 1) = (mateF zs (zs.length + 1) k (matesTo zs k) (List.replicate zs.length false)).2.1 from rfl, Hlen.out])
      refine (find_any zs hvo n n bz w.heap.size (w2.heap.size + 1) w2.heap.size (w2.heap.size + 1 + 1) w1.heap.size Hlen.out ⟨by omega, by omega, by omega, by omega, by omega, by omega, by omega, by omega, by omega⟩ (n + 1) k (matesTo zs k) (List.replicate n false) 0 W5 hlt (by have := matesTo_ok zs k (by rw [Hlen.out]; omega); rwa [Hlen.out] at this) (SeenAs.none n) (by have := unseen_le (List.replicate n false); rw [List.length_replicate] at this; omega) bO5 bA5 bL5 bF5 hZ5 hC5).mono ?_
      rintro e w6 ⟨rfl, hC6, ⟨q6, -, bA6⟩, hU6⟩
      rw [← Hm.out] at hC6
      have hU7 := (hU.trans' hU5 (fun i hi e => .inr e)).trans' hU6 (fun i hi e => e)
      clear bA5 bO5 bL5 bF5 hZ5 hC5 hU5 hU6 hU
      go_wp2_with fail
      go_roundw
      case rel => exact ⟨k + 1, by omega, by go_num, hC6, ⟨q6, bA6⟩, hU7⟩
      case measure => simp [intOf]; omega
    · obtain rfl : k = n := by omega
      have hcL := bLr.cell
      go_wp2_with fail
      go_ret
      have b1 : Below w.heap.size w w1 := hU1.toBelow (fun _ e => e.elim) (Nat.le_refl _)
      have b2 := b1.trans (hB2.mono (by omega))
      have b3 := b2.trans (hU3.toBelow (B := w.heap.size) (fun _ e => e.elim) (by omega))
      exact ⟨_, rfl, by omega, hC, b3.trans (hU.toBelow (B := w.heap.size) (fun k e => by omega) (by rw [Z3.out]; omega))⟩
end Go.Proofs.Ytghogabmkbadjab

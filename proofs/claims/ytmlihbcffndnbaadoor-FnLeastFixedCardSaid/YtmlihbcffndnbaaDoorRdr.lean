/- The reader of pseudo-random numbers. -/
import Derived.Test.YtmlihbcffndnbaaDoorGa
import Derived.Test.YtmlihbcffndnbaaDoorByts
set_option linter.unusedVariables false
set_option linter.unusedSimpArgs false
namespace Go.Proofs.YtmlihbcffndnbaaDoor
open Go.RowKit Go.Shelf

set_option maxHeartbeats 1000000 in
theorem newReader_any (A : Option Addr) (n c : Nat) (bs : List Int) (w : World) (h : Byts w w.heap.size A n bs) (hcap : n ≤ c) (hbig : n ≤ 1152921504606846976) :
    Calls Tryd.prog 27 #[.slice A n c] w fun e w' => e = .returned (.pointer (some ⟨w.heap.size, 0, none⟩)) ∧ w' = w.alloc (.cells #[.slice A (min n 2000) c, .int .i64 0] 77) := by
  by_cases hn : n ≤ 2000
  · go_enter Tryd.func27, Tryd.ntmps27
    go_wp2
    go_ret
    exact ⟨rfl, by rw [Nat.min_eq_left hn]⟩
  · obtain ⟨b, off, rfl, hb, hc⟩ := h.at_ (k := 0) (by omega)
    go_enter Tryd.func27, Tryd.ntmps27
    go_wp2
    go_ret
    exact ⟨rfl, by rw [Nat.min_eq_right (by omega)]⟩

theorem bits_xor {a b : Int} (h0 : 0 ≤ a) (h1 : a < 4611686018427387904) (g0 : 0 ≤ b) (g1 : b < 4611686018427387904) : bits .xor .i64 a b = ((a.toNat ^^^ b.toNat : Nat) : Int) := by
  obtain ⟨a, rfl⟩ := Int.eq_ofNat_of_zero_le h0
  obtain ⟨b, rfl⟩ := Int.eq_ofNat_of_zero_le g0
  have hx : a ^^^ b < 2 ^ 62 := Nat.xor_lt_two_pow (by omega) (by omega)
  show IntKind.i64.wrap ((BitVec.ofInt 64 (a : Int) ^^^ BitVec.ofInt 64 (b : Int)).toNat : Int) = _
  rw [BitVec.toNat_xor, ofInt_i64n a (by omega), ofInt_i64n b (by omega), IntKind.wrap_i64]
  simp only [Int.toNat_natCast]
  omega

/-- The reader in block R, at position p, over at most 2000 bytes that lie below it. -/
def Rd (w : World) (R p : Nat) : Prop := ∃ A m c bs, m ≤ 2000 ∧ w.heap[R]? = some (.cells #[.slice A m c, .int .i64 (p : Int)] 77 (0, 0)) ∧ Byts w R A m bs
theorem Rd.lt {w : World} {R p : Nat} (h : Rd w R p) : R < w.heap.size := by
  obtain ⟨_, _, _, _, _, hh, _⟩ := h
  exact (Array.getElem?_eq_some_iff.1 hh).1
theorem Rd.upd {w w' : World} {R p : Nat} {S : Nat → Prop} (h : Rd w R p) (hu : Upd S w w') (hS : ∀ k, S k → R < k) : Rd w' R p := by
  have hl := h.lt
  obtain ⟨A, m, c, bs, hm, hh, hb⟩ := h
  exact ⟨A, m, c, bs, hm, (hu.block R hl (fun e => by have := hS R e; omega)).trans hh, hb.keep fun q hq => World.cell?_of_block (hu.block _ (by omega) (fun e => by have := hS _ e; omega))⟩
theorem Rd.below {w w' : World} {R p B : Nat} (h : Rd w R p) (hb : Below B w w') (hB : R < B) : Rd w' R p := h.upd (Below.toUpd hb) (fun k hk => by omega)

/-- What a picked number is. -/
def Picked (n v : Int) : Prop := (1 ≤ n → 0 ≤ v ∧ v < n) ∧ (n < 1 → v = 0)
theorem picked_mod {n x : Int} (hn : 1 ≤ n) (_hx : 0 ≤ x) : Picked n (x % n) :=
  ⟨fun _ => ⟨Int.emod_nonneg _ (by omega), Int.emod_lt_of_pos _ (by omega)⟩, fun h => by omega⟩

theorem picked_tmod {n x : Int} (hn : 1 ≤ n) (hx : 0 ≤ x) : Picked n (x.tmod n) :=
  ⟨fun _ => ⟨Int.tmod_nonneg _ hx, Int.tmod_lt_of_pos _ (by omega)⟩, fun h => by omega⟩

set_option maxRecDepth 100000 in
set_option maxHeartbeats 4000000 in
theorem pick_any (R p : Nat) (n : Int) (w : World) (h : Rd w R p) (hp : p ≤ 1000000) :
    Calls Tryd.prog 55 #[.pointer (some ⟨R, 0, none⟩), .int .i64 n] w fun e w' => ∃ v, e = .returned (.int .i64 v) ∧ Picked n v ∧ Rd w' R (p + 1) ∧ Upd (fun k => k = R) w w' := by
  obtain ⟨A, m, c, bs, hm, hh, hb⟩ := h
  have hc0 : w.cell? ⟨R, 0, none⟩ = some (.slice A m c) := by rw [cell_of_row w R 0 _ _ (0, 0) hh]; rfl
  have hc1 : w.cell? ⟨R, 1, none⟩ = some (.int .i64 (p : Int)) := by rw [cell_of_row w R 1 _ _ (0, 0) hh]; rfl
  have hf1 : w.frozen? ⟨R, 1, none⟩ = false := by simp [World.frozen?, hh]
  have hU : Upd (fun k => k = R) w (w.setCell ⟨R, 1, none⟩ (.int .i64 ((p : Int) + 1))) := (Upd.refl (fun k => k = R) w).setCell (p := ⟨R, 1, none⟩) (.inr rfl) _
  have hRd : Rd (w.setCell ⟨R, 1, none⟩ (.int .i64 ((p : Int) + 1))) R (p + 1) := ⟨A, m, c, bs, hm, by
    simp [World.setCell, Array.getElem?_modify, hh], hb.keep fun q hq => World.cell?_of_block (hU.block _ (by have := (Array.getElem?_eq_some_iff.1 hh).1; omega) (fun e => by omega))⟩
  by_cases hn : n < 1
  · go_enter Tryd.func55, Tryd.ntmps55
    go_wp2
    go_ret
    exact ⟨0, rfl, ⟨fun h => by omega, fun _ => rfl⟩, hRd, hU⟩
  · by_cases hm0 : m = 0
    · subst hm0
      go_enter Tryd.func55, Tryd.ntmps55
      go_wp2
      go_ret
      exact ⟨0, rfl, ⟨fun h => ⟨Int.le_refl _, by omega⟩, fun _ => rfl⟩, hRd, hU⟩
    · by_cases hpm : p < m
      · obtain ⟨b, off, rfl, hbb, hc⟩ := hb.at_ hpm
        have hcb := hc p hpm
        have hbd := hb.bd p
        have hcb' : (w.setCell ⟨R, 1, none⟩ (.int .i64 ((p : Int) + 1))).cell? ⟨b, off + p, none⟩ = some (.int .u8 (bs[p]?.getD 0)) := (World.cell?_of_block (hU.block b (by have := (Array.getElem?_eq_some_iff.1 hh).1; omega) (fun e => by omega))).trans hcb
        clear hc
        have hpk := picked_mod (n := n) (x := bs[p]?.getD 0) (by omega) hbd.1
        go_enter Tryd.func55, Tryd.ntmps55
        go_wp2
        go_ret
        exact ⟨_, rfl, hpk, hRd, hU⟩
      · obtain ⟨b, off, rfl, hbb, hc⟩ := hb.at_ (k := 0) (by omega)
        have hRl := (Array.getElem?_eq_some_iff.1 hh).1
        have hc' : ∀ j, j < m → (w.setCell ⟨R, 1, none⟩ (.int .i64 ((p : Int) + 1))).cell? ⟨b, off + j, none⟩ = some (.int .u8 (bs[j]?.getD 0)) := fun j hj => (World.cell?_of_block (hU.block b (by omega) (fun e => by omega))).trans (hc j hj)
        have k1 := hc' (p % m) (Nat.mod_lt _ (by omega))
        have k2 := hc' ((p * 7 + 3) % m) (Nat.mod_lt _ (by omega))
        have d1 := hb.bd (p % m)
        have d2 := hb.bd ((p * 7 + 3) % m)
        have e1 : (p : Int) % (m : Int) = ((p % m : Nat) : Int) := by simp
        have e2 : ((p : Int) * 7 + 3) % (m : Int) = (((p * 7 + 3) % m : Nat) : Int) := by simp
        have e3 : (p : Int) / (m : Int) = ((p / m : Nat) : Int) := by simp
        have l1 : p % m < m := Nat.mod_lt _ (by omega)
        have l2 : (p * 7 + 3) % m < m := Nat.mod_lt _ (by omega)
        have l3 : p / m ≤ p := Nat.div_le_self _ _
        clear hc hc'
        generalize p % m = q1 at *
        generalize (p * 7 + 3) % m = q2 at *
        generalize p / m = q3 at *
        generalize bs[q1]?.getD 0 = x1 at *
        generalize bs[q2]?.getD 0 = x2 at *
        go_enter Tryd.func55, Tryd.ntmps55
        go_wp2
        go_region
        have hx := bits_xor (a := x1 * 131 + x2 * 1117 + (p : Int) * 29 + (q3 : Int) * 53) (b := (x1 * 131 + x2 * 1117 + (p : Int) * 29 + (q3 : Int) * 53) / 64) (by omega) (by omega) (by omega) (by omega)
        go_wp2
        go_ret
        exact ⟨_, rfl, picked_mod (by omega) (by omega), hRd, hU.drew⟩

set_option maxHeartbeats 1000000 in
/-- One of a list's numbers. -/
theorem one_any (R p : Nat) (A : Option Addr) (n c B : Nat) (zs : List Int) (w : World) (h : Rd w R p) (hp : p ≤ 1000000) (hI : Ints w B A n zs) (hRB : ∀ b off, A = some ⟨b, off, none⟩ → b ≠ R) (hn : 0 < n) (hbig : n ≤ 1152921504606846976) :
    Calls Tryd.prog 57 #[.pointer (some ⟨R, 0, none⟩), .slice A n c] w fun e w' => ∃ v, e = .returned (.int .i64 v) ∧ v ∈ zs ∧ Rd w' R (p + 1) ∧ Upd (fun k => k = R) w w' := by
  have hlen := Lib.hid hI.len
  obtain ⟨b, off, rfl, hb, hc⟩ := hI.at_ (k := 0) hn
  have hbR := hRB b off rfl
  go_enter Tryd.func57, Tryd.ntmps57
  go_wp2_with fail
  refine (pick_any R p n w h hp).mono ?_
  rintro e w1 ⟨v, rfl, hv, hR1, hU1⟩
  obtain ⟨h0, h1⟩ := hv.1 (by omega)
  obtain ⟨k, rfl⟩ := Int.eq_ofNat_of_zero_le h0
  have hk : k < n := by omega
  have hck := hU1.cell (hc k hk) hbR
  clear hc
  go_wp2
  go_ret
  refine ⟨_, rfl, ?_, hR1, hU1⟩
  have hkl : k < zs.length := by rw [hlen.out]; exact hk
  rw [List.getElem?_eq_getElem hkl, Option.getD_some]
  exact List.getElem_mem hkl
end Go.Proofs.YtmlihbcffndnbaaDoor

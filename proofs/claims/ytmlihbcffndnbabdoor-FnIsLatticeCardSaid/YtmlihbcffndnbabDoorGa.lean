/- Texts that several claims share, one behind the other. -/
import Derived.WalkKit
import Derived.Laws.BitsAllLaws
import Derived.Below
import Derived.Laws.OwnMore
import Derived.Deep.Draws
import Derived.Lib.Hide
import Derived.RangeFuncNested
import Derived.Deep.OwnRows
import Derived.Test.YtmlihbcffndnbabDoorProg
import Derived.ProofKit
import Derived.Outline
import Derived.RangeFuncBound
import Derived.RangeFuncCalls
import Derived.RangeFuncLeaves
import Derived.Shelf.Abstract
import Derived.Shelf.RegionOpen
import Derived.OwnWalkIn
import Derived.TacticsInMore
import Derived.LoopNIn
import Derived.LoopIn
import Derived.Sort.QuietIn
import Derived.BigQuiet
import Derived.StillTail
import Derived.OwnWalk
import Derived.Deep.QuietTactic
import Derived.RegionTactic
import Derived.Deep.RegionWith
import Derived.Maps.AppendAt
import Derived.BigRegion
import Derived.Deep.RegionLaw
import Derived.Deep.AppendLies
set_option linter.unusedVariables false
set_option linter.unusedSimpArgs false
/- Plain words and facts on numbers as sets, and on orders as lists of such numbers. No program is imported. -/
namespace Go.Proofs.YtmlihbcffndnbabDoor
open Go.RowKit

/-- Whether the set s has j. -/
def bitB (s j : Int) : Bool := s.toNat.testBit j.toNat
/-- Whether n is in a range. -/
def inB (n lo hi : Int) : Bool := decide (lo ≤ n ∧ n ≤ hi)
def bitI (s j : Int) : Int := if bitB s j then 1 else 0
def powI (n : Int) : Int := 2 ^ n.toNat
def orI (a b : Int) : Int := ((a.toNat ||| b.toNat : Nat) : Int)
def andI (a b : Int) : Int := ((a.toNat &&& b.toNat : Nat) : Int)
/-- What a has and b has not. -/
def lessI (a b : Int) : Int := ((a.toNat &&& (a.toNat ^^^ b.toNat) : Nat) : Int)

theorem ofInt_i64n (a : Nat) (ha : a < 9223372036854775808) : (BitVec.ofInt 64 (a : Int)).toNat = a := by
  rw [BitVec.ofInt_natCast, BitVec.toNat_ofNat]; exact Nat.mod_eq_of_lt (by omega)

theorem bits_and {a b : Int} (h0 : 0 ≤ a) (h1 : a < 4611686018427387904) (g0 : 0 ≤ b) (g1 : b < 4611686018427387904) : bits .and .i64 a b = andI a b := by
  obtain ⟨a, rfl⟩ := Int.eq_ofNat_of_zero_le h0
  obtain ⟨b, rfl⟩ := Int.eq_ofNat_of_zero_le g0
  have hx : a &&& b < 2 ^ 62 := Nat.and_lt_two_pow _ (by omega)
  show IntKind.i64.wrap ((BitVec.ofInt 64 (a : Int) &&& BitVec.ofInt 64 (b : Int)).toNat : Int) = _
  rw [BitVec.toNat_and, ofInt_i64n a (by omega), ofInt_i64n b (by omega), IntKind.wrap_i64]
  simp only [andI, Int.toNat_natCast]
  omega
theorem bits_or {a b : Int} (h0 : 0 ≤ a) (h1 : a < 4611686018427387904) (g0 : 0 ≤ b) (g1 : b < 4611686018427387904) : bits .or .i64 a b = orI a b := by
  obtain ⟨a, rfl⟩ := Int.eq_ofNat_of_zero_le h0
  obtain ⟨b, rfl⟩ := Int.eq_ofNat_of_zero_le g0
  have hx : a ||| b < 2 ^ 62 := Nat.or_lt_two_pow (by omega) (by omega)
  show IntKind.i64.wrap ((BitVec.ofInt 64 (a : Int) ||| BitVec.ofInt 64 (b : Int)).toNat : Int) = _
  rw [BitVec.toNat_or, ofInt_i64n a (by omega), ofInt_i64n b (by omega), IntKind.wrap_i64]
  simp only [orI, Int.toNat_natCast]
  omega
theorem bits_less {a b : Int} (h0 : 0 ≤ a) (h1 : a < 4611686018427387904) (g0 : 0 ≤ b) (g1 : b < 4611686018427387904) : bits .andNot .i64 a b = lessI a b := by
  obtain ⟨a, rfl⟩ := Int.eq_ofNat_of_zero_le h0
  obtain ⟨b, rfl⟩ := Int.eq_ofNat_of_zero_le g0
  have hx : a &&& (a ^^^ b) < 2 ^ 62 := Nat.lt_of_le_of_lt Nat.and_le_left (by omega)
  show IntKind.i64.wrap ((BitVec.ofInt 64 (a : Int) &&& ~~~ BitVec.ofInt 64 (b : Int)).toNat : Int) = _
  have e : (BitVec.ofInt 64 (a : Int) &&& ~~~ BitVec.ofInt 64 (b : Int)).toNat = a &&& (a ^^^ b) := by
    apply Nat.eq_of_testBit_eq
    intro i
    rw [← BitVec.getLsbD, BitVec.getLsbD_and, BitVec.getLsbD_not]
    simp only [BitVec.getLsbD, ofInt_i64n a (by omega), ofInt_i64n b (by omega), Nat.testBit_and, Nat.testBit_xor]
    by_cases hi : i < 64
    · simp [hi]; cases a.testBit i <;> cases b.testBit i <;> rfl
    · have : a.testBit i = false := Nat.testBit_lt_two_pow (Nat.lt_of_lt_of_le (by omega : a < 2 ^ 62) (Nat.pow_le_pow_right (by decide) (by omega)))
      simp [this]
  rw [e, IntKind.wrap_i64]
  simp only [lessI, Int.toNat_natCast]
  omega

theorem shr_and_one {s j : Int} (h0 : 0 ≤ s) (h1 : s < 4611686018427387904) : bits .and .i64 (s / 2 ^ j.toNat) 1 = bitI s j := by
  obtain ⟨a, rfl⟩ := Int.eq_ofNat_of_zero_le h0
  have hd : ((a : Int) / 2 ^ j.toNat) = ((a / 2 ^ j.toNat : Nat) : Int) := by simp
  have hle : a / 2 ^ j.toNat ≤ a := Nat.div_le_self _ _
  rw [hd]
  simp only [bitI, bitB, Int.toNat_natCast, Nat.testBit, Nat.shiftRight_eq_div_pow]
  generalize a / 2 ^ j.toNat = q at *
  rw [bits_and (by omega) (by omega) (by decide) (by decide)]
  simp only [andI, Int.toNat_natCast, Nat.and_comm 1]
  have e : q &&& (1 : Int).toNat = q % 2 := Nat.and_one_is_mod q
  have e' : q &&& 1 = q % 2 := Nat.and_one_is_mod q
  rw [e, e']
  rcases Nat.mod_two_eq_zero_or_one q with h | h <;> simp [h]

theorem lessI_bd (a b : Int) : 0 ≤ lessI a b ∧ lessI a b ≤ a.toNat := by
  unfold lessI; exact ⟨by omega, by exact_mod_cast (Nat.and_le_left)⟩
theorem bitI_01 (s j : Int) : 0 ≤ bitI s j ∧ bitI s j ≤ 1 := by unfold bitI; split <;> omega
theorem bitI_one (s j : Int) : (bitI s j == 1) = bitB s j := by unfold bitI; cases bitB s j <;> rfl
theorem bitI_true {s j : Int} (h : bitB s j = true) : bitI s j = 1 := by simp [bitI, h]
theorem bitI_false {s j : Int} (h : bitB s j = false) : bitI s j = 0 := by simp [bitI, h]
theorem bitB_lt {s : Int} {n j : Nat} (h1 : s < powI n) (h : bitB s j = true) : j < n := by
  rcases Nat.lt_or_ge j n with hj | hj
  · exact hj
  · have h2 : s.toNat < 2 ^ n := by
      have h3 : powI (n : Int) = ((2 ^ n : Nat) : Int) := by simp [powI]
      rw [h3] at h1
      have h4 : 0 < 2 ^ n := Nat.two_pow_pos n
      generalize 2 ^ n = q at *
      omega
    have h3 : s.toNat.testBit j = false := Nat.testBit_lt_two_pow (Nat.lt_of_lt_of_le h2 (Nat.pow_le_pow_right (by decide) hj))
    simp [bitB, h3] at h
theorem powI_pos (n : Int) : 0 < powI n := by unfold powI; exact Int.pow_pos (by decide)
theorem powI_le {n m : Int} (h : n ≤ m) : powI n ≤ powI m := by
  have h1 : (2 : Nat) ^ n.toNat ≤ 2 ^ m.toNat := Nat.pow_le_pow_right (by decide) (by omega)
  have h2 : ((2 ^ n.toNat : Nat) : Int) ≤ ((2 ^ m.toNat : Nat) : Int) := Int.ofNat_le.2 h1
  simpa [powI] using h2
theorem powI_le6 {n : Int} (h : n ≤ 6) : powI n ≤ 64 := powI_le h
theorem powI_succ {n : Int} (h : 0 ≤ n) : powI (n + 1) = 2 * powI n := by
  unfold powI; rw [show (n + 1).toNat = n.toNat + 1 from by omega, Int.pow_succ, Int.mul_comm]
theorem powI_zero : powI 0 = 1 := rfl
theorem orI_bd {a b n : Int} (_h0 : 0 ≤ a) (h1 : a < powI n) (_g0 : 0 ≤ b) (g1 : b < powI n) : 0 ≤ orI a b ∧ orI a b < powI n := by
  have e : powI n = ((2 ^ n.toNat : Nat) : Int) := by simp [powI]
  rw [e] at h1 g1 ⊢
  have hp : 0 < 2 ^ n.toNat := Nat.two_pow_pos _
  have h : a.toNat ||| b.toNat < 2 ^ n.toNat := by
    refine Nat.or_lt_two_pow ?_ ?_
    all_goals
      generalize 2 ^ n.toNat = q at *
      omega
  unfold orI
  generalize 2 ^ n.toNat = q at *
  omega
theorem andI_bd (a b : Int) : 0 ≤ andI a b ∧ andI a b ≤ a.toNat := by
  unfold andI; exact ⟨by omega, by exact_mod_cast Nat.and_le_left⟩
theorem bitB_or (a b j : Int) : bitB (orI a b) j = (bitB a j || bitB b j) := by simp [bitB, orI]
theorem bitB_and (a b j : Int) : bitB (andI a b) j = (bitB a j && bitB b j) := by simp [bitB, andI]
theorem bitB_less (a b j : Int) : bitB (lessI a b) j = (bitB a j && !bitB b j) := by
  simp only [bitB, lessI, Int.toNat_natCast, Nat.testBit_and, Nat.testBit_xor]
  cases a.toNat.testBit j.toNat <;> cases b.toNat.testBit j.toNat <;> rfl
theorem bitB_pow (k j : Nat) : bitB (powI k) j = decide (k = j) := by
  have e : (powI (k : Int)).toNat = 2 ^ k := by
    have : powI (k : Int) = ((2 ^ k : Nat) : Int) := by simp [powI]
    rw [this, Int.toNat_natCast]
  simp [bitB, e, Nat.testBit_two_pow]
theorem bitB_zero (j : Int) : bitB 0 j = false := by simp [bitB]
theorem bitB_ext {a b : Int} (h0 : 0 ≤ a) (g0 : 0 ≤ b) (h : ∀ j : Nat, bitB a j = bitB b j) : a = b := by
  have e : a.toNat = b.toNat := Nat.eq_of_testBit_eq fun i => by have := h i; simpa [bitB] using this
  omega
theorem powI_lt {k n : Nat} (h : k < n) : powI (k : Int) < powI (n : Int) := by
  have h1 : powI ((k : Int) + 1) ≤ powI (n : Int) := powI_le (by omega)
  rw [powI_succ (by omega)] at h1
  have := powI_pos (k : Int)
  omega
end Go.Proofs.YtmlihbcffndnbabDoor

/- Words for memory: a slice of numbers that reads as a list; orders as lists. -/
namespace Go.Proofs.YtmlihbcffndnbabDoor
open Go.RowKit

/-- The slice '.slice A n c' reads as zs, and lies below block B. -/
def Ints (w : World) (B : Nat) (A : Option Addr) (n : Nat) (zs : List Int) : Prop :=
  zs.length = n ∧ (0 < n → ∃ b off, A = some ⟨b, off, none⟩ ∧ b < B ∧ ∀ j, j < n → w.cell? ⟨b, off + j, none⟩ = some (.int .i64 (zs[j]?.getD 0)))

section
variable {w w' : World} {B B' n : Nat} {A : Option Addr} {zs : List Int}
theorem Ints.len (h : Ints w B A n zs) : zs.length = n := h.1
theorem Ints.at_ {k : Nat} (h : Ints w B A n zs) (hk : k < n) : ∃ b off, A = some ⟨b, off, none⟩ ∧ b < B ∧ ∀ j, j < n → w.cell? ⟨b, off + j, none⟩ = some (.int .i64 (zs[j]?.getD 0)) := h.2 (by omega)
theorem Ints.keep (h : Ints w B A n zs) (hk : ∀ p : Addr, p.block < B → w'.cell? p = w.cell? p) : Ints w' B A n zs :=
  ⟨h.1, fun hn => by
    obtain ⟨b, off, e, hb, hc⟩ := h.2 hn
    exact ⟨b, off, e, hb, fun j hj => (hk _ hb).trans (hc j hj)⟩⟩
theorem Ints.more (h : Ints w B A n zs) (hB : B ≤ B') : Ints w B' A n zs :=
  ⟨h.1, fun hn => by
    obtain ⟨b, off, e, hb, hc⟩ := h.2 hn
    exact ⟨b, off, e, by omega, hc⟩⟩
theorem Ints.below (h : Ints w B A n zs) (hb : Below B w w') : Ints w' B A n zs := h.keep fun _ hp => hb.cell hp
theorem Ints.drewN (h : Ints w B A n zs) (k : Nat) : Ints (w.drewN k) B A n zs := h
theorem Ints.nil (w : World) (B : Nat) (A : Option Addr) : Ints w B A 0 [] := ⟨rfl, fun h => absurd h (by omega)⟩
end

/-- The item's set is one of the n items, without itself. -/
def okA (n : Int) (zs : List Int) (a : Nat) : Bool := inB (zs[a]?.getD 0) 0 (powI n - 1) && !bitB (zs[a]?.getD 0) a
/-- What is above b is above a, if b is, and a is not above b. -/
def okP (zs : List Int) (a b : Nat) : Bool := !bitB (zs[a]?.getD 0) b || (lessI (zs[b]?.getD 0) (zs[a]?.getD 0) == 0 && !bitB (zs[b]?.getD 0) a)
def VoP (zs : List Int) : Prop := zs.length ≤ 6 ∧ (∀ a, a < zs.length → okA zs.length zs a = true) ∧ (∀ a, a < zs.length → ∀ b, b < zs.length → okP zs a b = true)
instance (zs : List Int) : Decidable (VoP zs) := by unfold VoP; infer_instance
def vo (zs : List Int) : Bool := decide (VoP zs)
theorem vo_true {zs : List Int} (h : VoP zs) : vo zs = true := by simp [vo, h]
theorem vo_false {zs : List Int} (h : ¬ VoP zs) : vo zs = false := by simp [vo, h]
theorem okA_bd {n : Int} {zs : List Int} {a : Nat} (hn : n ≤ 6) (h : okA n zs a = true) : 0 ≤ zs[a]?.getD 0 ∧ zs[a]?.getD 0 < 64 := by
  have := powI_le6 hn
  simp [okA, inB] at h
  omega
/-- At most six sets, of no more items than there are. -/
def Sets (zs : List Int) : Prop := zs.length ≤ 6 ∧ ∀ a, a < zs.length → 0 ≤ zs[a]?.getD 0 ∧ zs[a]?.getD 0 < powI zs.length
theorem Sets.bd {zs : List Int} (h : Sets zs) (a : Nat) (ha : a < zs.length) : 0 ≤ zs[a]?.getD 0 ∧ zs[a]?.getD 0 < 64 := by
  have h1 := h.2 a ha
  have h2 : powI zs.length ≤ 64 := powI_le6 (by have := h.1; omega)
  omega
theorem VoP.sets {zs : List Int} (h : VoP zs) : Sets zs := ⟨h.1, fun a ha => by
  have := h.2.1 a ha
  simp [okA, inB] at this
  omega⟩
theorem VoP.bd {zs : List Int} (h : VoP zs) (a : Nat) (ha : a < zs.length) : 0 ≤ zs[a]?.getD 0 ∧ zs[a]?.getD 0 < 64 :=
  okA_bd (by have := h.1; omega) (h.2.1 a ha)
theorem VoP_not_A {zs : List Int} {k : Nat} (hk : k < zs.length) (h : okA zs.length zs k = false) : ¬ VoP zs := fun hv => by
  have := hv.2.1 k hk
  rw [h] at this; cases this
theorem VoP_not_P {zs : List Int} {k j : Nat} (hk : k < zs.length) (hj : j < zs.length) (h : okP zs k j = false) : ¬ VoP zs := fun hv => by
  have := hv.2.2 k hk j hj
  rw [h] at this; cases this
theorem okA_yes {n : Int} {zs : List Int} {k : Nat} (h1 : inB (zs[k]?.getD 0) 0 (powI n - 1) = true) (h2 : bitB (zs[k]?.getD 0) k = false) : okA n zs k = true := by simp [okA, h1, h2]
theorem all_snoc {p : Nat → Prop} {k : Nat} (h : ∀ a, a < k → p a) (hk : p k) : ∀ a, a < k + 1 → p a := fun a ha => by
  rcases Nat.lt_or_ge a k with h1 | h1
  · exact h a h1
  · rw [show a = k from by omega]; exact hk

end Go.Proofs.YtmlihbcffndnbabDoor

/- A range over a function, where the function ranges over another one itself: the contract of such an iterator, and the two laws for the statement. Which blocks a round may turn is told by two sets: M (blocks from before the loop), D (the round's own, made since). -/
namespace Go.Proofs.YtmlihbcffndnbabDoor
open Go.RowKit

/-- The worlds differ in blocks of R alone, and in new ones. -/
structure Upd (R : Nat → Prop) (w w' : World) : Prop where
  os : w'.os = w.os
  tape : w'.tape = w.tape
  output : w'.output = w.output
  size : w.heap.size ≤ w'.heap.size
  block : ∀ k, k < w.heap.size → ¬ R k → w'.heap[k]? = w.heap[k]?

section
variable {R S : Nat → Prop} {a b c w w' : World}
theorem Upd.refl (R : Nat → Prop) (w : World) : Upd R w w := ⟨rfl, rfl, rfl, Nat.le_refl _, fun _ _ _ => rfl⟩
theorem Upd.trans (h : Upd R a b) (k : Upd R b c) : Upd R a c :=
  ⟨k.os.trans h.os, k.tape.trans h.tape, k.output.trans h.output, Nat.le_trans h.size k.size, fun i hi hr => (k.block i (Nat.lt_of_lt_of_le hi h.size) hr).trans (h.block i hi hr)⟩
theorem Upd.mono (h : Upd R a b) (hs : ∀ k, k < a.heap.size → R k → S k) : Upd S a b := ⟨h.os, h.tape, h.output, h.size, fun i hi hr => h.block i hi (fun e => hr (hs i hi e))⟩
theorem Upd.trans' (h : Upd R a b) (k : Upd S b c) (hs : ∀ i, i < a.heap.size → S i → R i) : Upd R a c :=
  ⟨k.os.trans h.os, k.tape.trans h.tape, k.output.trans h.output, Nat.le_trans h.size k.size, fun i hi hr => (k.block i (Nat.lt_of_lt_of_le hi h.size) (fun e => hr (hs i hi e))).trans (h.block i hi hr)⟩
theorem Upd.drewN (h : Upd R a w) (n : Nat) : Upd R a (w.drewN n) := ⟨h.os, h.tape, h.output, h.size, h.block⟩
theorem Upd.drew (h : Upd R a w) : Upd R a w.drew := ⟨h.os, h.tape, h.output, h.size, h.block⟩
theorem Upd.alloc (h : Upd R a w) (o : Obj) : Upd R a (w.alloc o) :=
  ⟨h.os, h.tape, h.output, Nat.le_trans h.size (by simp), fun i hi hr => (Below.heap_alloc w o i (Nat.lt_of_lt_of_le hi h.size)).trans (h.block i hi hr)⟩
theorem Upd.setCell (h : Upd R a w) {p : Addr} (hp : a.heap.size ≤ p.block ∨ R p.block) (u : Value) : Upd R a (w.setCell p u) :=
  ⟨h.os, h.tape, h.output, by simpa [World.setCell] using h.size, fun i hi hr => (Below.heap_setCell w p u i (by
    rintro rfl
    rcases hp with hp | hp
    · omega
    · exact hr hp)).trans (h.block i hi hr)⟩
theorem Upd.grown (h : Upd R a w) {row : Option Nat} (hg : w.grownBy w' row) (hp : ∀ k, row = some k → a.heap.size ≤ k ∨ R k) : Upd R a w' :=
  ⟨hg.os.trans h.os, hg.tape.trans h.tape, hg.output.trans h.output, Nat.le_trans h.size hg.size, fun i hi hr => (hg.block i (Nat.lt_of_lt_of_le hi h.size) (fun e => by
    rcases hp i e.symm with h1 | h1
    · omega
    · exact hr h1)).trans (h.block i hi hr)⟩
theorem Upd.below (h : Upd R a w) {B : Nat} (hb : Below B w w') (hB : ∀ k, B ≤ k → k < a.heap.size → R k) : Upd R a w' :=
  ⟨hb.os.trans h.os, hb.tape.trans h.tape, hb.output.trans h.output, Nat.le_trans h.size hb.size, fun i hi hr => by
    rcases Nat.lt_or_ge i B with h1 | h1
    · exact (hb.block i h1).trans (h.block i hi hr)
    · exact absurd (hB i h1 hi) hr⟩
theorem Upd.putObj (h : Upd R a w) {l : Nat} (hl : a.heap.size ≤ l ∨ R l) (o : Obj) : Upd R a (w.putObj l o) :=
  h.grown (grownBy_putObj' w l o) (fun k e => by cases e; exact hl)
theorem Upd.cell (h : Upd R w w') {p : Addr} {v : Value} (hc : w.cell? p = some v) (hr : ¬ R p.block) : w'.cell? p = some v := by
  obtain ⟨o, ho, _⟩ := cells_of_cell hc
  exact (World.cell?_of_block (h.block _ (Array.getElem?_eq_some_iff.1 ho).1 hr)).trans hc
theorem Upd.frozen (h : Upd R w w') {p : Addr} (hl : p.block < w.heap.size) (hr : ¬ R p.block) : w'.frozen? p = w.frozen? p := World.frozen?_of_block (h.block _ hl hr)
theorem Upd.boxed (h : Upd R w w') {k : Nat} {t : TypeId} {v : Value} (hb : Boxed w k t v) (hr : ¬ R k) : Boxed w' k t v := (h.block k hb.lt hr).trans hb
theorem Upd.toBelow (h : Upd R w w') {B : Nat} (hB : ∀ k, R k → B ≤ k) (hw : B ≤ w.heap.size) : Below B w w' :=
  ⟨h.os, h.tape, h.output, h.size, fun k hk => h.block k (Nat.lt_of_lt_of_le hk hw) (fun e => by have := hB k e; omega)⟩
theorem Below.toUpd {B : Nat} (h : Below B w w') : Upd (fun k => B ≤ k) w w' := ⟨h.os, h.tape, h.output, h.size, fun k _ hr => h.block k (by omega)⟩
end

/-- What is said abides the turn of whatever is neither from before B nor the round's own. -/
def Firm {β : Type} (B : Nat) (J : β → (Nat → Prop) → World → Prop) : Prop :=
  ∀ s D W W', J s D W → Upd (fun k => B ≤ k ∧ ¬ D k) W W' → J s D W'
theorem Firm.mono {β : Type} {B B' : Nat} {J : β → (Nat → Prop) → World → Prop} (h : Firm B J) (hB : B ≤ B') : Firm B' J :=
  fun s D W W' hs hu => h s D W W' hs (hu.mono fun _ _ e => ⟨by omega, e.2⟩)

/-- The iterator's contract: over the list L, in its order, until a round says no more. -/
def Iter {α : Type} (P : Program) (g : Nat) (lb : Array Value) (encs : α → Array Value) (L : List α) (M : Nat → Prop) (w : World) : Prop :=
  ∀ (l : Nat) (J Jx : List α → (Nat → Prop) → World → Prop), Firm w.heap.size J → Firm w.heap.size Jx →
    (∀ pre x D W, J pre D W → w.heap.size ≤ W.heap.size → pre ++ [x] <+: L → ∀ m, YieldAt Fence.wide m P l (encs x) W fun e W' =>
      (e = .returned (.bool true) ∧ ∃ D', J (pre ++ [x]) D' W' ∧ Upd (fun k => M k ∨ D k) W W' ∧ ∀ k, D' k → D k ∨ W.heap.size ≤ k ∧ k < W'.heap.size) ∨
      (e = .returned (.bool false) ∧ ∃ D', Jx (pre ++ [x]) D' W' ∧ Upd (fun k => M k ∨ D k) W W' ∧ ∀ k, D' k → D k ∨ W.heap.size ≤ k ∧ k < W'.heap.size)) →
    J [] (fun _ => False) w →
    Calls P g (#[.func (.yield l) #[] #[]] ++ lb) w fun e W' => (∃ v, e = .returned v) ∧ ((∃ D, J L D W') ∨ ∃ pre D, pre <+: L ∧ Jx pre D W')

/-- How a round's body may be left. -/
def roundEnd {α : Type} (M : Nat → Prop) (J : List α → (Nat → Prop) → World → Prop) (Jx : Code → List α → (Nat → Prop) → World → Prop) (xs : List α) (D : Nat → Prop) (z : Nat) (W : World) : Exit → Act → World → Prop
  | .normal, _, W' => ∃ D', J xs D' W' ∧ Upd (fun k => M k ∨ D k ∨ z ≤ k) W W' ∧ ∀ k, D' k → D k ∨ z ≤ k ∧ k < W'.heap.size
  | .ret, _, W' => ∃ D', Jx .ret xs D' W' ∧ Upd (fun k => M k ∨ D k ∨ z ≤ k) W W' ∧ ∀ k, D' k → D k ∨ z ≤ k ∧ k < W'.heap.size
  | .exit id, _, W' => ∃ D', Jx (.exit id) xs D' W' ∧ Upd (fun k => M k ∨ D k ∨ z ≤ k) W W' ∧ ∀ k, D' k → D k ∨ z ≤ k ∧ k < W'.heap.size
  | .goto t, _, W' => ∃ D', Jx (.goto t) xs D' W' ∧ Upd (fun k => M k ∨ D k ∨ z ≤ k) W W' ∧ ∀ k, D' k → D k ∨ z ≤ k ∧ k < W'.heap.size
  | .panic _, _, _ => False
  | .outgrown, _, _ => False

theorem roundIn_any {F : Fence} (hd : F.depth = none) {m m' : Nat} {P : Program} {l : Nat} {f : FuncId} {tmps : Array Value} {assign body : Code} {w : World} {R : Ending → World → Prop}
    (h : RoundIn F m P l f tmps assign body w R) : RoundIn F m' P l f tmps assign body w R := ⟨h.1, fun c cs _ => h.2 c cs (fun d e => by rw [hd] at e; cases e)⟩

/-- What a round owes: the assignments, then the body. 'l' is the loop's record. -/
def RoundOwes {α : Type} (P : Program) (m B : Nat) (encs : α → Array Value) (ps : Array Tmp) (tmps : Array Value) (assign body : Code) (L : List α) (M : Nat → Prop) (J : List α → (Nat → Prop) → World → Prop) (Jx : Code → List α → (Nat → Prop) → World → Prop) : Prop :=
  ∀ (l : Nat) (pre : List α) (x : α) (D : Nat → Prop) (W : World), B ≤ l → l < W.heap.size → ¬ D l → (∀ k, D k → B ≤ k ∧ k < W.heap.size) → J pre D W → pre ++ [x] <+: L →
    ∀ K : Act → World → Prop,
      (∀ a' Wa, Upd (fun _ => False) W Wa → (∀ Wb, Upd (fun k => k = l) Wa Wb → (∃ r, Wb.heap[l]? = some (.loop r)) → J pre D Wb → body.wpIn (Fence.wide.inRound l) m P (roundEnd M J Jx (pre ++ [x]) D W.heap.size Wb) a' Wb) → K a' Wa) →
      assign.wpIn (Fence.wide.inRound l) m P (Exit.then K (fun _ _ _ => False)) { tmps := (ps.zip (encs x)).foldl (fun t (p, v) => t.setIfInBounds p v) tmps, defers := [] } W

section
variable {P : Program} {n : Nat}

/-- One round, out of what it owes: for both laws. -/
theorem round_of {α : Type} {l B B1 : Nat} {rec : LoopState → Option Code → Loop} {M : Nat → Prop} {encs : α → Array Value} {ps : Array Tmp} {tmps : Array Value} {assign body : Code} {fn : Nat} {L : List α}
    {J : List α → (Nat → Prop) → World → Prop} {Jx : Code → List α → (Nat → Prop) → World → Prop} {rest : World → Prop}
    (hrec : ∀ st pe, (rec st pe).state = st ∧ (rec st pe).params = ps ∧ (rec st pe).fn = fn ∧ (rec st pe).tmps = tmps ∧ (rec st pe).assign = assign ∧ (rec st pe).body = body ∧ ∀ st' pe', { rec st pe with state := st', pending := pe' } = rec st' pe')
    (hrec2 : ∀ st pe st', { rec st pe with state := st' } = rec st' pe)
    (hps : ∀ x, (encs x).size = ps.size) (hJ : Firm B J) (hJx : ∀ c, Firm B (Jx c)) (hl : B ≤ l) (hl1 : l < B1) (hM : ∀ k, M k → k < B)
    (hrest : ∀ W W', rest W → Upd (fun k => M k ∨ B1 ≤ k ∨ k = l) W W' → rest W')
    (howes : RoundOwes P n B encs ps tmps assign body L M J Jx)
    {pre : List α} {x : α} {D : Nat → Prop} {W : World} (hj : J pre D W) (hlw : W.heap[l]? = some (.loop (rec .ready none))) (hD : ∀ k, D k → B1 ≤ k ∧ k < W.heap.size) (hr : rest W) (hB1 : B1 ≤ W.heap.size) (hpre : pre ++ [x] <+: L) (m : Nat) :
    YieldAt Fence.wide m P l (encs x) W fun e W' =>
      (e = .returned (.bool true) ∧ ∃ D', (J (pre ++ [x]) D' W' ∧ W'.heap[l]? = some (.loop (rec .ready none)) ∧ (∀ k, D' k → B1 ≤ k ∧ k < W'.heap.size) ∧ rest W') ∧ Upd (fun k => M k ∨ k = l ∨ D k) W W' ∧ ∀ k, D' k → D k ∨ W.heap.size ≤ k ∧ k < W'.heap.size) ∨
      (e = .returned (.bool false) ∧ ∃ D', (∃ c, Jx c (pre ++ [x]) D' W' ∧ W'.heap[l]? = some (.loop (rec .done (some c))) ∧ (∀ k, D' k → B1 ≤ k ∧ k < W'.heap.size) ∧ rest W') ∧ Upd (fun k => M k ∨ k = l ∨ D k) W W' ∧ ∀ k, D' k → D k ∨ W.heap.size ≤ k ∧ k < W'.heap.size) := by
  have hlt : l < W.heap.size := (Array.getElem?_eq_some_iff.1 hlw).1
  have hDl : ¬ D l := fun e => by have := hD l e; omega
  have hy := run_yield (P := P) (args := encs x) hlw (by rw [(hrec _ _).2.1]; exact hps x)
  refine ⟨_, _, _, _, hy, roundIn_any (m := n) rfl (roundIn_of_wpIn trivial ?_)⟩
  rw [(hrec _ _).2.2.2.1, (hrec _ _).2.2.2.2.1, (hrec _ _).2.2.2.2.2.1, (hrec _ _).2.1]
  refine howes l pre x D W hl hlt hDl (fun k hk => by have := hD k hk; omega) hj hpre _ ?_
  intro a' Wa hua hbody
  have hla : Wa.heap[l]? = some (.loop (rec .ready none)) := (hua.block l hlt (fun e => e)).trans hlw
  have hlta : l < Wa.heap.size := (Array.getElem?_eq_some_iff.1 hla).1
  refine ⟨_, run_beginRound hla (by rw [(hrec _ _).1]), ?_⟩
  rw [hrec2]
  have hub : Upd (fun k => k = l) Wa (Wa.putObj l (.loop (rec .busy none))) := (Upd.refl (fun k => k = l) _).putObj (.inr rfl) _
  have hlb : (Wa.putObj l (.loop (rec .busy none))).heap[l]? = some (.loop (rec .busy none)) := World.putObj_heap_same hlta
  have hjb : J pre D (Wa.putObj l (.loop (rec .busy none))) := hJ _ _ _ _ (hJ _ _ _ _ hj (hua.mono fun _ _ e => e.elim)) (hub.mono fun k _ e => by rw [e]; exact ⟨hl, hDl⟩)
  have hrb : rest (Wa.putObj l (.loop (rec .busy none))) := hrest _ _ (hrest _ _ hr (hua.mono fun _ _ e => e.elim)) (hub.mono fun k _ e => .inr (.inr e))
  have hszb : (Wa.putObj l (.loop (rec .busy none))).heap.size = Wa.heap.size := by simp
  refine wpIn_mono (hbody _ hub ⟨_, hlb⟩ hjb) ?_
  have fin : ∀ (jump : Option Code) (D' : Nat → Prop) (W3 : World), Upd (fun k => M k ∨ D k ∨ W.heap.size ≤ k) (Wa.putObj l (.loop (rec .busy none))) W3 → (∀ k, D' k → D k ∨ W.heap.size ≤ k ∧ k < W3.heap.size) →
      (Instr.endRound l jump).run P W3 = .ok (.bool jump.isNone) (W3.putObj l (.loop (rec (if jump.isNone then .ready else .done) jump))) ∧
      (W3.putObj l (.loop (rec (if jump.isNone then .ready else .done) jump))).heap[l]? = some (.loop (rec (if jump.isNone then .ready else .done) jump)) ∧
      Upd (fun k => k = l) W3 (W3.putObj l (.loop (rec (if jump.isNone then .ready else .done) jump))) ∧
      (∀ k, D' k → B1 ≤ k ∧ k < W3.heap.size) ∧ ¬ D' l ∧ rest (W3.putObj l (.loop (rec (if jump.isNone then .ready else .done) jump))) ∧
      Upd (fun k => M k ∨ k = l ∨ D k) W (W3.putObj l (.loop (rec (if jump.isNone then .ready else .done) jump))) := fun jump D' W3 hu3 hD' => by
    have hl3 : W3.heap[l]? = some (.loop (rec .busy none)) := (hu3.block l (by rw [hszb]; exact hlta) (fun e => by
      rcases e with e | e | e
      · have := hM l e; omega
      · exact hDl e
      · omega)).trans hlb
    have hE := run_endRound (P := P) jump hl3
    rw [(hrec _ _).2.2.2.2.2.2] at hE
    have hu4 : Upd (fun k => k = l) W3 (W3.putObj l (.loop (rec (if jump.isNone then .ready else .done) jump))) := (Upd.refl (fun k => k = l) _).putObj (.inr rfl) _
    have hsz3 := hu3.size
    have hsza := hua.size
    have hDB : ∀ k, D' k → B1 ≤ k ∧ k < W3.heap.size := fun k hk => by
      rcases hD' k hk with h | h
      · have := hD k h; omega
      · omega
    refine ⟨hE, World.putObj_heap_same (Array.getElem?_eq_some_iff.1 hl3).1, hu4, hDB, fun e => by have := hDB l e; omega, ?_, ?_⟩
    · exact hrest _ _ (hrest _ _ hrb (hu3.mono fun k _ e => by
        rcases e with e | e | e
        · exact .inl e
        · exact .inr (.inl (hD k e).1)
        · exact .inr (.inl (by omega)))) (hu4.mono fun k _ e => .inr (.inr e))
    · have h1 : Upd (fun k => M k ∨ k = l ∨ D k ∨ W.heap.size ≤ k) W (W3.putObj l (.loop (rec (if jump.isNone then .ready else .done) jump))) :=
        (((hua.mono fun _ _ e => e.elim).trans (hub.mono fun k _ e => .inr (.inl e))).trans (hu3.mono fun k _ e => by
          rcases e with e | e | e
          · exact .inl e
          · exact .inr (.inr (.inl e))
          · exact .inr (.inr (.inr e)))).trans (hu4.mono fun k _ e => .inr (.inl e))
      exact h1.mono fun k hk e => by
        rcases e with e | e | e | e
        · exact .inl e
        · exact .inr (.inl e)
        · exact .inr (.inr e)
        · omega
  have firm : ∀ {D' : Nat → Prop} {W3 W4 : World}, ¬ D' l → Upd (fun k => k = l) W3 W4 → Upd (fun k => B ≤ k ∧ ¬ D' k) W3 W4 := fun h hu => hu.mono fun k _ e => by rw [e]; exact ⟨hl, h⟩
  rintro e a3 W3 hp
  cases e with
  | normal =>
    obtain ⟨D', hi3, hu3, hD'⟩ := hp
    obtain ⟨hE, hl4, hu4, hDB, hDl', hr4, hu⟩ := fin none D' W3 hu3 hD'
    exact ⟨_, _, hE, .inl ⟨rfl, D', ⟨hJ _ _ _ _ hi3 (firm hDl' hu4), hl4, (fun k hk => by have := hDB k hk; simp; omega), hr4⟩, hu, fun k hk => by simpa using hD' k hk⟩⟩
  | ret =>
    obtain ⟨D', hi3, hu3, hD'⟩ := hp
    obtain ⟨hE, hl4, hu4, hDB, hDl', hr4, hu⟩ := fin (some .ret) D' W3 hu3 hD'
    exact ⟨_, _, hE, .inr ⟨rfl, D', ⟨_, hJx _ _ _ _ _ hi3 (firm hDl' hu4), hl4, (fun k hk => by have := hDB k hk; simp; omega), hr4⟩, hu, fun k hk => by simpa using hD' k hk⟩⟩
  | exit id =>
    obtain ⟨D', hi3, hu3, hD'⟩ := hp
    obtain ⟨hE, hl4, hu4, hDB, hDl', hr4, hu⟩ := fin (some (.exit id)) D' W3 hu3 hD'
    exact ⟨_, _, hE, .inr ⟨rfl, D', ⟨_, hJx _ _ _ _ _ hi3 (firm hDl' hu4), hl4, (fun k hk => by have := hDB k hk; simp; omega), hr4⟩, hu, fun k hk => by simpa using hD' k hk⟩⟩
  | goto t =>
    obtain ⟨D', hi3, hu3, hD'⟩ := hp
    obtain ⟨hE, hl4, hu4, hDB, hDl', hr4, hu⟩ := fin (some (.goto t)) D' W3 hu3 hD'
    exact ⟨_, _, hE, .inr ⟨rfl, D', ⟨_, hJx _ _ _ _ _ hi3 (firm hDl' hu4), hl4, (fun k hk => by have := hDB k hk; simp; omega), hr4⟩, hu, fun k hk => by simpa using hD' k hk⟩⟩
  | panic ch => exact hp.elim
  | outgrown => exact hp.elim

/-- The statement, outside of any round. -/
theorem range_out {α : Type} {g : Operand} {ps : Array Tmp} {assign body : Code} {Q : Exit → Act → World → Prop} {a : Act} {w : World} {gf : Nat} {lb : Array Value}
    (hg : a.eval g = .func (.func gf) #[] lb) (eg : ∀ args w, (callFunc gf args).run P w = .ok (.enter gf args) w)
    {encs : α → Array Value} {L : List α} (M : Nat → Prop) (hM : ∀ k, M k → k < w.heap.size) (hps : ∀ x, (encs x).size = ps.size)
    (hseq : ∀ W1 l, Upd (fun _ => False) w W1 → w.heap.size ≤ l → l < W1.heap.size → Iter P gf lb encs L (fun k => M k ∨ k = l) W1)
    (J : List α → (Nat → Prop) → World → Prop) (Jx : Code → List α → (Nat → Prop) → World → Prop) (hJ : Firm w.heap.size J) (hJx : ∀ c, Firm w.heap.size (Jx c)) (h0 : J [] (fun _ => False) w)
    (howes : RoundOwes P (n - 1 - 1) w.heap.size encs ps a.tmps assign body L M J Jx)
    (hdone : ∀ (d : Nat) (D : Nat → Prop) (W : World), w.heap.size ≤ d → J L D W → (∀ k, D k → d < k ∧ k < W.heap.size) → W.heap[d]? = some (.deferred (some [])) → Q .normal { a with defers := { target := .collected d, args := #[] } :: a.defers } W)
    (hstop : ∀ (d : Nat) (D : Nat → Prop) (c : Code) (pre : List α) (W : World), w.heap.size ≤ d → pre <+: L → Jx c pre D W → (∀ k, D k → d < k ∧ k < W.heap.size) → W.heap[d]? = some (.deferred (some [])) → c.wpIn Fence.wide n P Q { a with defers := { target := .collected d, args := #[] } :: a.defers } W) :
    (Code.rangeFunc g ps assign body).wpIn Fence.wide n P Q a w := by
  refine wpIn_rangeFunc ?_
  intro fn hfn
  obtain ⟨rec, hrec⟩ : ∃ rec : LoopState → Option Code → Loop, rec = fun st pe => { state := st, pending := pe, fn, tmps := a.tmps, params := ps, assign, body, defers := w.heap.size } := ⟨_, rfl⟩
  obtain ⟨W1, hW1⟩ : ∃ W1, (w.alloc (.deferred (some []))).alloc (.loop (rec .ready none)) = W1 := ⟨_, rfl⟩
  have hL1 : W1.heap[w.heap.size + 1]? = some (.loop (rec .ready none)) := by
    rw [← hW1]; have := World.alloc_heap_new (w.alloc (.deferred (some []))) (.loop (rec .ready none)); rwa [World.size_alloc] at this
  have hK1 : W1.heap[w.heap.size]? = some (.deferred (some [])) := by
    rw [← hW1]; exact (Below.heap_alloc _ _ _ (by simp)).trans (World.alloc_heap_new w _)
  have hz1 : W1.heap.size = w.heap.size + 2 := by rw [← hW1]; simp
  have hu1 : Upd (fun _ => False) w W1 := by rw [← hW1]; exact ((Upd.refl _ w).alloc _).alloc _
  have hI1 : J [] (fun _ => False) W1 := hJ _ _ _ _ h0 (hu1.mono fun _ _ e => e.elim)
  have hi := hseq W1 (w.heap.size + 1) hu1 (by omega) (by omega)
  refine ⟨w.heap.size + 1, [{ target := .collected w.heap.size, args := #[] }], W1, { target := .fn (.func gf) lb, args := #[.func (.yield (w.heap.size + 1)) #[] #[]] }, W1, gf,
    #[.func (.yield (w.heap.size + 1)) #[] #[]] ++ lb, W1, ?_, ?_, ?_, ?_, (fun h => by cases h), ?_⟩
  · rw [← hW1, hrec]; exact run_enterLoop_outer _ _ _ _ _
  · simp only [resolve, hg]
    simp [go_sem]
  · intro f' hf'; trivial
  · simp [invoke, go_sem, eg]
  · refine callsIn_wide.2 ((hi (w.heap.size + 1)
      (fun pre D W => J pre D W ∧ W.heap[w.heap.size + 1]? = some (.loop (rec .ready none)) ∧ (∀ k, D k → W1.heap.size ≤ k ∧ k < W.heap.size) ∧ W.heap[w.heap.size]? = some (.deferred (some [])))
      (fun pre D W => ∃ c, Jx c pre D W ∧ W.heap[w.heap.size + 1]? = some (.loop (rec .done (some c))) ∧ (∀ k, D k → W1.heap.size ≤ k ∧ k < W.heap.size) ∧ W.heap[w.heap.size]? = some (.deferred (some [])))
      ?_ ?_ ?_ ⟨hI1, hL1, fun _ e => e.elim, hK1⟩).mono ?_)
    · rintro s D X Y ⟨hj, hl, hD, hk⟩ hu
      exact ⟨hJ _ _ _ _ hj (hu.mono fun k _ e => ⟨by omega, e.2⟩), (hu.block _ (Array.getElem?_eq_some_iff.1 hl).1 (fun e => by omega)).trans hl, (fun k hk => by have := hD k hk; have := hu.size; omega), (hu.block _ (Array.getElem?_eq_some_iff.1 hk).1 (fun e => by omega)).trans hk⟩
    · rintro s D X Y ⟨c, hj, hl, hD, hk⟩ hu
      exact ⟨c, hJx _ _ _ _ _ hj (hu.mono fun k _ e => ⟨by omega, e.2⟩), (hu.block _ (Array.getElem?_eq_some_iff.1 hl).1 (fun e => by omega)).trans hl, (fun k hk => by have := hD k hk; have := hu.size; omega), (hu.block _ (Array.getElem?_eq_some_iff.1 hk).1 (fun e => by omega)).trans hk⟩
    · rintro pre x D W ⟨hj, hl, hD, hk⟩ hsz hpre m
      obtain ⟨fn', tm, asg, bo, hy, hR⟩ := round_of (P := P) (n := n - 1 - 1) (l := w.heap.size + 1) (B := w.heap.size) (B1 := W1.heap.size) (rec := rec) (M := M) (fn := fn) (encs := encs) (ps := ps) (tmps := a.tmps) (assign := assign) (body := body) (L := L) (J := J) (Jx := Jx)
        (rest := fun W => W.heap[w.heap.size]? = some (.deferred (some [])))
        (by rw [hrec]; exact fun st pe => ⟨rfl, rfl, rfl, rfl, rfl, rfl, fun _ _ => rfl⟩) (by rw [hrec]; exact fun _ _ _ => rfl) hps hJ hJx (by omega) (by omega) hM
        (fun X Y h hu => (hu.block _ (Array.getElem?_eq_some_iff.1 h).1 (fun e => by
          rcases e with e | e | e
          · have := hM _ e; omega
          · omega
          · omega)).trans h) howes hj hl hD hk hsz hpre m
      refine ⟨fn', tm, asg, bo, hy, hR.mono ?_⟩
      rintro e W' (⟨he, D', ⟨h1, h2, h3, h4⟩, hu, hD'⟩ | ⟨he, D', ⟨c, h1, h2, h3, h4⟩, hu, hD'⟩)
      · exact .inl ⟨he, D', ⟨h1, h2, h3, h4⟩, hu.mono fun k _ e => by rcases e with e | e | e <;> simp [e], hD'⟩
      · exact .inr ⟨he, D', ⟨c, h1, h2, h3, h4⟩, hu.mono fun k _ e => by rcases e with e | e | e <;> simp [e], hD'⟩
    · rintro e W2 ⟨⟨v, rfl⟩, (⟨D, hj, hl, hD, hk⟩ | ⟨pre, D, hpre, c, hj, hl, hD, hk⟩)⟩
      · have hDl : ¬ D (w.heap.size + 1) := fun e => by have := hD _ e; omega
        exact ⟨none, _, by have := run_endLoop (P := P) hl (by rw [hrec]; simp); rw [hrec] at this; exact this,
          hdone _ D _ (Nat.le_refl _) (hJ _ _ _ _ hj ((Upd.refl (fun k => w.heap.size ≤ k ∧ ¬ D k) _).putObj (.inr ⟨by omega, hDl⟩) _)) (fun k hk => by have := hD k hk; simp; omega) ((World.putObj_heap_other (by omega)).trans hk)⟩
      · have hDl : ¬ D (w.heap.size + 1) := fun e => by have := hD _ e; omega
        exact ⟨some c, _, by have := run_endLoop (P := P) hl (by rw [hrec]; simp); rw [hrec] at this; exact this,
          hstop _ D c pre _ (Nat.le_refl _) hpre (hJx _ _ _ _ _ hj ((Upd.refl (fun k => w.heap.size ≤ k ∧ ¬ D k) _).putObj (.inr ⟨by omega, hDl⟩) _)) (fun k hk => by have := hD k hk; simp; omega) ((World.putObj_heap_other (by omega)).trans hk)⟩

/-- The statement, within a round of loop l₀. -/
theorem range_in {α : Type} {g : Operand} {ps : Array Tmp} {assign body : Code} {Q : Exit → Act → World → Prop} {a : Act} {w : World} {l₀ : Nat} (hl₀ : ∃ r₀, w.heap[l₀]? = some (.loop r₀)) {gf : Nat} {lb : Array Value}
    (hg : a.eval g = .func (.func gf) #[] lb) (eg : ∀ args w, (callFunc gf args).run P w = .ok (.enter gf args) w)
    {encs : α → Array Value} {L : List α} (M : Nat → Prop) (hM : ∀ k, M k → k < w.heap.size) (hps : ∀ x, (encs x).size = ps.size)
    (hseq : ∀ W1 l, Upd (fun _ => False) w W1 → w.heap.size ≤ l → l < W1.heap.size → Iter P gf lb encs L (fun k => M k ∨ k = l) W1)
    (J : List α → (Nat → Prop) → World → Prop) (Jx : Code → List α → (Nat → Prop) → World → Prop) (hJ : Firm w.heap.size J) (hJx : ∀ c, Firm w.heap.size (Jx c)) (h0 : J [] (fun _ => False) w)
    (howes : RoundOwes P (n - 1 - 1) w.heap.size encs ps a.tmps assign body L M J Jx)
    (hdone : ∀ (D : Nat → Prop) (W : World), J L D W → (∀ k, D k → w.heap.size < k ∧ k < W.heap.size) → Q .normal a W)
    (hstop : ∀ (D : Nat → Prop) (c : Code) (pre : List α) (W : World), pre <+: L → Jx c pre D W → (∀ k, D k → w.heap.size < k ∧ k < W.heap.size) → c.wpIn (Fence.wide.inRound l₀) n P Q a W) :
    (Code.rangeFunc g ps assign body).wpIn (Fence.wide.inRound l₀) n P Q a w := by
  obtain ⟨r₀, hl₀⟩ := hl₀
  refine wpIn_rangeFunc ?_
  intro fn hfn
  obtain ⟨rec, hrec⟩ : ∃ rec : LoopState → Option Code → Loop, rec = fun st pe => { state := st, pending := pe, fn, tmps := a.tmps, params := ps, assign, body, defers := r₀.defers } := ⟨_, rfl⟩
  obtain ⟨W1, hW1⟩ : ∃ W1, w.alloc (.loop (rec .ready none)) = W1 := ⟨_, rfl⟩
  have hL1 : W1.heap[w.heap.size]? = some (.loop (rec .ready none)) := by rw [← hW1]; exact World.alloc_heap_new w _
  have hz1 : W1.heap.size = w.heap.size + 1 := by rw [← hW1]; simp
  have hu1 : Upd (fun _ => False) w W1 := by rw [← hW1]; exact (Upd.refl _ w).alloc _
  have hI1 : J [] (fun _ => False) W1 := hJ _ _ _ _ h0 (hu1.mono fun _ _ e => e.elim)
  have hi := hseq W1 w.heap.size hu1 (by omega) (by omega)
  refine ⟨w.heap.size, [], W1, { target := .fn (.func gf) lb, args := #[.func (.yield w.heap.size) #[] #[]] }, W1, gf,
    #[.func (.yield w.heap.size) #[] #[]] ++ lb, W1, ?_, ?_, ?_, ?_, (fun h => by cases h), ?_⟩
  · rw [← hW1, hrec]; exact run_enterLoop_inner hl₀ _ _ _ _ _
  · simp only [resolve, hg]
    simp [go_sem]
  · intro f' hf'; trivial
  · simp [invoke, go_sem, eg]
  · refine CallsIn.inRound l₀ (callsIn_wide.2 ((hi w.heap.size
      (fun pre D W => J pre D W ∧ W.heap[w.heap.size]? = some (.loop (rec .ready none)) ∧ (∀ k, D k → W1.heap.size ≤ k ∧ k < W.heap.size))
      (fun pre D W => ∃ c, Jx c pre D W ∧ W.heap[w.heap.size]? = some (.loop (rec .done (some c))) ∧ (∀ k, D k → W1.heap.size ≤ k ∧ k < W.heap.size))
      ?_ ?_ ?_ ⟨hI1, hL1, fun _ e => e.elim⟩).mono ?_))
    · rintro s D X Y ⟨hj, hl, hD⟩ hu
      exact ⟨hJ _ _ _ _ hj (hu.mono fun k _ e => ⟨by omega, e.2⟩), (hu.block _ (Array.getElem?_eq_some_iff.1 hl).1 (fun e => by omega)).trans hl, fun k hk => by have := hD k hk; have := hu.size; omega⟩
    · rintro s D X Y ⟨c, hj, hl, hD⟩ hu
      exact ⟨c, hJx _ _ _ _ _ hj (hu.mono fun k _ e => ⟨by omega, e.2⟩), (hu.block _ (Array.getElem?_eq_some_iff.1 hl).1 (fun e => by omega)).trans hl, fun k hk => by have := hD k hk; have := hu.size; omega⟩
    · rintro pre x D W ⟨hj, hl, hD⟩ hsz hpre m
      obtain ⟨fn', tm, asg, bo, hy, hR⟩ := round_of (P := P) (n := n - 1 - 1) (l := w.heap.size) (B := w.heap.size) (B1 := W1.heap.size) (rec := rec) (M := M) (fn := fn) (encs := encs) (ps := ps) (tmps := a.tmps) (assign := assign) (body := body) (L := L) (J := J) (Jx := Jx)
        (rest := fun _ => True)
        (by rw [hrec]; exact fun st pe => ⟨rfl, rfl, rfl, rfl, rfl, rfl, fun _ _ => rfl⟩) (by rw [hrec]; exact fun _ _ _ => rfl) hps hJ hJx (by omega) (by omega) hM
        (fun _ _ _ _ => trivial) howes hj hl hD trivial hsz hpre m
      refine ⟨fn', tm, asg, bo, hy, hR.mono ?_⟩
      rintro e W' (⟨he, D', ⟨h1, h2, h3, _⟩, hu, hD'⟩ | ⟨he, D', ⟨c, h1, h2, h3, _⟩, hu, hD'⟩)
      · exact .inl ⟨he, D', ⟨h1, h2, h3⟩, hu.mono fun k _ e => by rcases e with e | e | e <;> simp [e], hD'⟩
      · exact .inr ⟨he, D', ⟨c, h1, h2, h3⟩, hu.mono fun k _ e => by rcases e with e | e | e <;> simp [e], hD'⟩
    · rintro e W2 ⟨⟨v, rfl⟩, (⟨D, hj, hl, hD⟩ | ⟨pre, D, hpre, c, hj, hl, hD⟩)⟩
      · have hDl : ¬ D w.heap.size := fun e => by have := hD _ e; omega
        exact ⟨none, _, by have := run_endLoop (P := P) hl (by rw [hrec]; simp); rw [hrec] at this; exact this,
          hdone D _ (hJ _ _ _ _ hj ((Upd.refl (fun k => w.heap.size ≤ k ∧ ¬ D k) _).putObj (.inr ⟨by omega, hDl⟩) _)) (fun k hk => by have := hD k hk; simp; omega)⟩
      · have hDl : ¬ D w.heap.size := fun e => by have := hD _ e; omega
        exact ⟨some c, _, by have := run_endLoop (P := P) hl (by rw [hrec]; simp); rw [hrec] at this; exact this,
          hstop D c pre _ hpre (hJx _ _ _ _ _ hj ((Upd.refl (fun k => w.heap.size ≤ k ∧ ¬ D k) _).putObj (.inr ⟨by omega, hDl⟩) _)) (fun k hk => by have := hD k hk; simp; omega)⟩
end
end Go.Proofs.YtmlihbcffndnbabDoor

/- A row of numbers that a call has made: known whole. -/
namespace Go.Proofs.YtmlihbcffndnbabDoor
open Go.RowKit

/-- Block b is just the numbers zs, of element type t. -/
def Arr (w : World) (b : Nat) (t : TypeId) (zs : List Int) : Prop := w.heap[b]? = some (.cells (zs.map (Value.int .i64)).toArray t (0, 0))

section
variable {w w' : World} {b : Nat} {t : TypeId} {zs : List Int} {R : Nat → Prop}
theorem Arr.lt (h : Arr w b t zs) : b < w.heap.size := (Array.getElem?_eq_some_iff.1 h).1
theorem Arr.cell (h : Arr w b t zs) {k : Nat} (hk : k < zs.length) : w.cell? ⟨b, k, none⟩ = some (.int .i64 (zs[k]?.getD 0)) := by
  rw [cell_of_row w b k _ t (0, 0) h]
  simp [List.getElem?_eq_getElem hk]
theorem Arr.frozen (h : Arr w b t zs) (k : Nat) : w.frozen? ⟨b, k, none⟩ = false := by
  unfold Arr at h
  simp [World.frozen?, h]
theorem Arr.upd (h : Arr w b t zs) (hu : Upd R w w') (hr : ¬ R b) : Arr w' b t zs := (hu.block b h.lt hr).trans h
theorem Arr.below {B : Nat} (h : Arr w b t zs) (hu : Below B w w') (hr : b < B) : Arr w' b t zs := (hu.block b hr).trans h
theorem Arr.drewN (h : Arr w b t zs) (n : Nat) : Arr (w.drewN n) b t zs := h
theorem Arr.drew (h : Arr w b t zs) : Arr w.drew b t zs := h
theorem Arr.alloc (h : Arr w b t zs) (o : Obj) : Arr (w.alloc o) b t zs := (Below.heap_alloc w o b h.lt).trans h
theorem Arr.far (h : Arr w b t zs) {p : Addr} (hp : b ≠ p.block) (u : Value) : Arr (w.setCell p u) b t zs := (Below.heap_setCell w p u b hp).trans h
theorem Arr.set (h : Arr w b t zs) (k : Nat) (v : Int) : Arr (w.setCell ⟨b, k, none⟩ (.int .i64 v)) b t (zs.set k v) := by
  unfold Arr at h ⊢
  simp [World.setCell, Array.getElem?_modify, h, List.map_set]
theorem Arr.new (w : World) (t : TypeId) (n : Nat) : Arr (w.alloc (.cells (madeCells #[.int .i64 0] n) t)) w.heap.size t (List.replicate n 0) := by
  have h := heap_alloc_new w (.cells (madeCells #[Value.int .i64 0] n) t)
  unfold Arr
  rw [h]
  congr 2
  apply Array.ext
  · simp [madeCells]
  · intro i h1 h2
    simp [madeCells, Nat.mod_one]
theorem Arr.ints (h : Arr w b t zs) {B : Nat} (hB : b < B) : Ints w B (some ⟨b, 0, none⟩) zs.length zs :=
  ⟨rfl, fun _ => ⟨b, 0, rfl, hB, fun j hj => by rw [Nat.zero_add]; exact h.cell hj⟩⟩
theorem Arr.ints' (h : Arr w b t zs) {B n : Nat} (hB : b < B) (hn : zs.length = n) : Ints w B (some ⟨b, 0, none⟩) n zs := by
  subst hn; exact h.ints hB
end

/-- A store into the one row that may turn. -/
theorem only_setCell {a w : World} {g : Nat} (h : a.grownBy w (some g)) {p : Addr} (hp : p.block = g ∨ a.heap.size ≤ p.block) (u : Value) : a.grownBy (w.setCell p u) (some g) :=
  ⟨h.os, h.tape, h.output, by simpa [World.setCell] using h.size, fun i hi hne => (Below.heap_setCell w p u i (by
    rintro rfl
    rcases hp with hp | hp
    · exact hne (by rw [hp])
    · omega)).trans (h.block i hi hne)⟩
end Go.Proofs.YtmlihbcffndnbabDoor

/- The contracts of the smallest functions: single bits, ranges, powers of two. -/
namespace Go.Proofs.YtmlihbcffndnbabDoor
open Go.RowKit

theorem ret_int {k : IntKind} {a b : Int} (h : a = b) : Ending.returned (.int k a) = .returned (.int k b) := by rw [h]
theorem ret_bool {a b : Bool} (h : a = b) : Ending.returned (.bool a) = .returned (.bool b) := by rw [h]

theorem bit_any (s j : Int) (w : World) (h0 : 0 ≤ s) (h1 : s < 4611686018427387904) (j0 : 0 ≤ j) (j1 : j < 64) :
    Calls Tryd.prog 54 #[.int .i64 s, .int .i64 j] w fun e w' => e = .returned (.int .i64 (bitI s j)) ∧ w = w' := by
  go_enter Tryd.func54, Tryd.ntmps54
  go_wp2
  go_ret
  exact ⟨ret_int (shr_and_one h0 h1), rfl⟩
theorem hasBit_any (s j : Int) (w : World) (h0 : 0 ≤ s) (h1 : s < 4611686018427387904) (j0 : 0 ≤ j) (j1 : j < 64) :
    Calls Tryd.prog 22 #[.int .i64 s, .int .i64 j] w fun e w' => e = .returned (.bool (bitB s j)) ∧ w = w' := by
  go_enter Tryd.func22, Tryd.ntmps22
  go_wp2
  go_ret
  exact ⟨ret_bool (by rw [shr_and_one h0 h1, bitI_one]), rfl⟩
theorem has_any (s j : Int) (w : World) (h0 : 0 ≤ s) (h1 : s < 4611686018427387904) (j0 : 0 ≤ j) (j1 : j < 64) :
    Calls Tryd.prog 73 #[.int .i64 s, .int .i64 j] w fun e w' => e = .returned (.bool (bitB s j)) ∧ w = w' := by
  go_enter Tryd.func73, Tryd.ntmps73
  go_wp2
  go_ret
  exact ⟨ret_bool (by rw [shr_and_one h0 h1, bitI_one]), rfl⟩
theorem with_any (s j : Int) (w : World) (h0 : 0 ≤ s) (h1 : s < 64) (j0 : 0 ≤ j) (j1 : j ≤ 6) :
    Calls Tryd.prog 61 #[.int .i64 s, .int .i64 j] w fun e w' => e = .returned (.int .i64 (orI s (powI j))) ∧ w = w' := by
  go_enter Tryd.func61, Tryd.ntmps61
  go_wp2
  go_ret
  have hp := powI_le6 j1
  have hq := powI_pos j
  exact ⟨ret_int (by
    have : wrap64 (2 ^ j.toNat) = powI j := IntWalk.wrap64_in _ ⟨by unfold powI at hq; omega, by unfold powI at hp; omega⟩
    rw [this]; exact bits_or h0 (by omega) (by omega) (by omega)), rfl⟩
theorem within_any (s t : Int) (w : World) (h0 : 0 ≤ s) (h1 : s < 4611686018427387904) (j0 : 0 ≤ t) (j1 : t < 4611686018427387904) :
    Calls Tryd.prog 76 #[.int .i64 s, .int .i64 t] w fun e w' => e = .returned (.bool (lessI s t == 0)) ∧ w = w' := by
  go_enter Tryd.func76, Tryd.ntmps76
  go_wp2
  go_ret
  exact ⟨ret_bool (by rw [bits_less h0 h1 j0 j1]), rfl⟩

theorem inRange_any (n lo hi : Int) (w : World) :
    Calls Tryd.prog 32 #[.int .i64 n, .int .i64 lo, .int .i64 hi] w fun e w' => e = .returned (.bool (inB n lo hi)) ∧ w = w' := by
  go_enter Tryd.func32, Tryd.ntmps32
  go_wp2
  all_goals go_ret
  all_goals exact ⟨ret_bool (by unfold inB; simp; omega), rfl⟩
theorem isItemOf_any (n k : Int) (w : World) :
    Calls Tryd.prog 57 #[.int .i64 n, .int .i64 k] w fun e w' => e = .returned (.bool (inB k 0 (n - 1))) ∧ w = w' := by
  go_enter Tryd.func57, Tryd.ntmps57
  go_wp2
  all_goals go_ret
  all_goals exact ⟨ret_bool (by rw [Bool.eq_iff_iff]; simp [inB]; try omega), rfl⟩
theorem isSetOf_any (n s : Int) (w : World) (h0 : 0 ≤ n) (h1 : n ≤ 6) :
    Calls Tryd.prog 50 #[.int .i64 n, .int .i64 s] w fun e w' => e = .returned (.bool (inB s 0 (powI n - 1))) ∧ w = w' := by
  have hp := powI_le6 h1
  have hq := powI_pos n
  have e : wrap64 (2 ^ n.toNat) = powI n := IntWalk.wrap64_in _ ⟨by unfold powI at hq; omega, by unfold powI at hp; omega⟩
  have E := Lib.hid e
  clear e
  go_enter Tryd.func50, Tryd.ntmps50
  go_wp2
  all_goals go_ret
  all_goals exact ⟨ret_bool (by rw [Bool.eq_iff_iff]; simp [inB, E.out]; try omega), rfl⟩

set_option maxHeartbeats 400000 in
theorem power_any (n : Int) (w : World) (h0 : 0 ≤ n) (h1 : n ≤ 8) :
    Calls Tryd.prog 53 #[.int .i64 n] w fun e w' => e = .returned (.int .i64 (powI n)) ∧ w = w' := by
  go_enter Tryd.func53, Tryd.ntmps53
  go_wp2
  go_loop [0, 3] (fun i t => ∃ k : Int, 0 ≤ k ∧ k ≤ n ∧ i = .int .i64 k ∧ t = .int .i64 (powI (n - k))) (fun i _ => (intOf i).toNat)
  case atStart => exact ⟨n, by omega, by omega, rfl, by rw [show n - n = 0 from by omega]; rfl⟩
  case round =>
    obtain ⟨k, hk, hkn, rfl, rfl⟩ := hrel
    have hp : powI (n - k) ≤ 256 := powI_le (m := 8) (by omega)
    have hq := powI_pos (n - k)
    by_cases hlt : 0 < k
    · go_wp2
      go_round
      case rel => exact ⟨k - 1, by omega, by omega, rfl, by rw [show n - (k - 1) = (n - k) + 1 from by omega, powI_succ (by omega)]⟩
      case measure => simp [intOf]; omega
    · go_wp2
      go_ret
      exact ⟨ret_int (by rw [show n - k = n from by omega]), rfl⟩
end Go.Proofs.YtmlihbcffndnbabDoor

/- The items of a set, one after the other: the iterator 'each'. -/
namespace Go.Proofs.YtmlihbcffndnbabDoor
open Go.RowKit Go.Shelf
attribute [local go_sem] Oper.semAt_some

/-- The items of s that are less than k, ascending. -/
def itemsTo (s : Int) (k : Nat) : List Nat := (List.range k).filter fun j => bitB s j
def itemsL (s : Int) : List Nat := itemsTo s 6
theorem itemsTo_yes {s : Int} {k : Nat} (h : bitB s k = true) : itemsTo s (k + 1) = itemsTo s k ++ [k] := by
  simp [itemsTo, List.range_succ, h]
theorem itemsTo_no {s : Int} {k : Nat} (h : bitB s k = false) : itemsTo s (k + 1) = itemsTo s k := by
  simp [itemsTo, List.range_succ, h]
theorem itemsTo_pre {s : Int} : ∀ (d k : Nat), itemsTo s k <+: itemsTo s (k + d)
  | 0, k => List.prefix_refl _
  | d + 1, k => (itemsTo_pre d k).trans (by
      rw [← Nat.add_assoc]
      cases h : bitB s ((k + d : Nat) : Int)
      · rw [itemsTo_no h]; exact List.prefix_refl _
      · rw [itemsTo_yes h]; exact List.prefix_append _ _)
theorem itemsTo_le {s : Int} {k m : Nat} (h : k ≤ m) : itemsTo s k <+: itemsTo s m := by
  have := itemsTo_pre (s := s) (m - k) k
  rwa [show k + (m - k) = m from by omega] at this
theorem mem_itemsTo {s : Int} {k j : Nat} : j ∈ itemsTo s k ↔ j < k ∧ bitB s j = true := by simp [itemsTo]
abbrev encI (j : Nat) : Array Value := #[.int .i64 (j : Int)]

theorem each_any (s : Int) (w : World) :
    Calls Tryd.prog 78 #[.int .i64 s] w fun e w' => e = .returned (.func (.func 94) #[] #[.pointer (some ⟨w.heap.size, 0, none⟩)]) ∧ w' = w.alloc (.cells #[.int .i64 s] 57) := by
  go_enter Tryd.func78, Tryd.ntmps78
  go_wp2
  go_ret
  exact ⟨rfl, rfl⟩

set_option maxRecDepth 100000 in
set_option maxHeartbeats 1000000 in
theorem each_iter (s : Int) (h0 : 0 ≤ s) (h1 : s < 64) (b : Nat) (M : Nat → Prop) (w : World) (hb : Boxed w b 57 (.int .i64 s)) (hM : ¬ M b) :
    Iter Tryd.prog 94 #[.pointer (some ⟨b, 0, none⟩)] encI (itemsL s) M w := fun l J Jx hJ hJx hY h0 => by
  refine (callsIn_wide (n := 9)).1 ?_
  refine callsIn_of_wp Tryd.func94 rfl trivial ?_ rfl
  simp only [Tryd.ntmps94, List.size_toArray, List.length_cons, List.length_nil, Nat.reduceAdd, Nat.reduceSub, Array.replicate_succ, Array.replicate_zero, List.push_toArray, List.append_toArray, List.nil_append, List.cons_append]
  gi_wp2
  gi_loopw [4] (fun i wr => ∃ (k : Nat) (D : Nat → Prop), k ≤ 6 ∧ i = .int .i64 k ∧ J (itemsTo s k) D wr ∧ Boxed wr b 57 (.int .i64 s) ∧ ¬ D b ∧ w.heap.size ≤ wr.heap.size) (fun i _ => 6 - (intOf i).toNat)
  case atStart => exact ⟨0, _, by omega, rfl, h0, hb, fun e => e, Nat.le_refl _⟩
  case round =>
    obtain ⟨k, D, hk, rfl, hj, hbx, hDb, hsz⟩ := hrel
    have hc := hbx.cell
    by_cases hlt : k < 6
    · cases hbit : bitB s k
      · have Hj := Lib.hid (itemsTo_no hbit)
        gi_wp2_with ((try refine ⟨trivial, ?_⟩); gi_at_call 73; refine (callsIn_wide.2 (has_any _ _ _ (by omega) (by omega) (by omega) (by omega))).mono ?_; rintro e w' ⟨rfl, rfl⟩)
        refine ⟨fun _ h => (by cases h), ?_⟩
        gi_wp2
        go_roundw
        case rel => exact ⟨k + 1, D, by omega, by go_num, by rw [Hj.out]; exact hj, hbx, hDb, hsz⟩
        case measure => simp [intOf]; omega
      · have Hj := Lib.hid (itemsTo_yes hbit)
        have hpre : itemsTo s k ++ [k] <+: itemsL s := by rw [← Hj.out]; exact itemsTo_le (by omega)
        obtain ⟨fn, tmps, assign, body, hy, hR⟩ := hY (itemsTo s k) k D wr hj hsz hpre 8
        gi_wp2_with ((try refine ⟨trivial, ?_⟩); gi_at_call 73; refine (callsIn_wide.2 (has_any _ _ _ (by omega) (by omega) (by omega) (by omega))).mono ?_; rintro e w' ⟨rfl, rfl⟩)
        refine hR.mono ?_
        have hlt' := hbx.lt
        rintro e W3 (⟨rfl, D', hJ3, hU, hD'⟩ | ⟨rfl, D', hJ3, hU, hD'⟩)
        · have hz3 := hU.size
          have hb3 : Boxed W3 b 57 (.int .i64 s) := hU.boxed hbx (fun e => e.elim hM hDb)
          have hD3 : ¬ D' b := fun e => (hD' b e).elim hDb (fun h => by omega)
          gi_wp2
          go_roundw
          case rel => exact ⟨k + 1, D', by omega, by go_num, by rw [Hj.out]; exact hJ3, hb3, hD3, by omega⟩
          case measure => simp [intOf]; omega
        · gi_wp2
          refine bodyPost_ret (results_none rfl _ _ _) rfl ?_
          exact ⟨⟨_, rfl⟩, .inr ⟨_, D', hpre, hJ3⟩⟩
    · obtain rfl : k = 6 := by omega
      gi_wp2
      go_end0
      exact ⟨⟨_, rfl⟩, .inl ⟨D, hj⟩⟩
end Go.Proofs.YtmlihbcffndnbabDoor

/- The pairs of an order, one after the other: the iterator 'pairs'. -/
namespace Go.Proofs.YtmlihbcffndnbabDoor
open Go.RowKit Go.Shelf
attribute [local go_sem] Oper.semAt_some

/-- The pairs of the items less than k and those above them. -/
def pairsTo (zs : List Int) (k : Nat) : List (Nat × Nat) := (List.range k).flatMap fun a => (itemsL (zs[a]?.getD 0)).map fun b => (a, b)
def pairsL (zs : List Int) : List (Nat × Nat) := pairsTo zs zs.length
theorem pairsTo_succ (zs : List Int) (k : Nat) : pairsTo zs (k + 1) = pairsTo zs k ++ (itemsL (zs[k]?.getD 0)).map fun b => (k, b) := by
  simp [pairsTo, List.range_succ]
theorem pairsTo_le (zs : List Int) {k m : Nat} (h : k ≤ m) : pairsTo zs k <+: pairsTo zs m := by
  induction m with
  | zero => rw [show k = 0 from by omega]; exact List.prefix_refl _
  | succ m ih =>
    rcases Nat.lt_or_ge m k with h1 | h1
    · rw [show k = m + 1 from by omega]; exact List.prefix_refl _
    · rw [pairsTo_succ]; exact (ih h1).trans (List.prefix_append _ _)
theorem mem_pairsL {zs : List Int} {a b : Nat} : (a, b) ∈ pairsL zs ↔ a < zs.length ∧ b < 6 ∧ bitB (zs[a]?.getD 0) b = true := by
  simp only [pairsL, pairsTo, List.mem_flatMap, List.mem_range, List.mem_map, itemsL, mem_itemsTo]
  constructor
  · rintro ⟨x, hx, y, ⟨hy, hb⟩, e⟩
    cases e
    exact ⟨hx, hy, hb⟩
  · rintro ⟨h1, h2, h3⟩
    exact ⟨a, h1, b, ⟨h2, h3⟩, rfl⟩
theorem Sets.pair {zs : List Int} (h : Sets zs) {a b : Nat} (hp : (a, b) ∈ pairsL zs) : a < zs.length ∧ b < zs.length ∧ bitB (zs[a]?.getD 0) b = true := by
  obtain ⟨h1, _, h3⟩ := mem_pairsL.1 hp
  exact ⟨h1, bitB_lt (h.2 a h1).2 h3, h3⟩
abbrev encP (x : Nat × Nat) : Array Value := #[.int .i64 (x.1 : Int), .int .i64 (x.2 : Int)]

/-- The marks of loops that are over, at the activation's end. -/
def marks (bs : List Nat) : List Deferred := bs.map fun b => { target := .collected b, args := #[] }
def Open (bs : List Nat) (W : World) : Prop := bs.Nodup ∧ ∀ b ∈ bs, W.heap[b]? = some (.deferred (some []))
theorem Open.cons {bs : List Nat} {W : World} {b : Nat} (h : Open bs W) (hb : W.heap[b]? = some (.deferred (some []))) (hn : b ∉ bs) : Open (b :: bs) W :=
  ⟨List.nodup_cons.2 ⟨hn, h.1⟩, fun c hc => by 
    rcases List.mem_cons.1 hc with rfl | hc
    · exact hb
    · exact h.2 c hc⟩
theorem Open.upd {bs : List Nat} {R : Nat → Prop} {W W' : World} (h : Open bs W) (hu : Upd R W W') (hr : ∀ b ∈ bs, ¬ R b) : Open bs W' :=
  ⟨h.1, fun b hb => (hu.block b (Array.getElem?_eq_some_iff.1 (h.2 b hb)).1 (hr b hb)).trans (h.2 b hb)⟩
theorem leaves_marks {F : Fence} {n : Nat} {P : Program} {fn : Func} {tmps : Array Value} {R : Ending → World → Prop} :
    ∀ (bs : List Nat) (W : World), Open bs W → (∀ W', Upd (fun k => k ∈ bs) W W' → LeavesIn F n P fn tmps R [] .returning W') → LeavesInM F n P fn tmps R (marks bs) .returning W
  | [], W, _, h => h W (Upd.refl _ _)
  | b :: bs, W, ho, h => by
    have hb := ho.2 b (by simp)
    have hu : Upd (fun k => k = b) W (W.putObj b (.deferred none)) := (Upd.refl (fun k => k = b) W).putObj (.inr rfl) _
    refine ⟨by simp, .inl ⟨b, _, rfl, run_takeDeferred hb, leaves_marks bs _ (Open.upd ⟨(List.nodup_cons.1 ho.1).2, fun c hc => ho.2 c (by simp [hc])⟩ hu (fun c hc e => (List.nodup_cons.1 ho.1).1 (by rw [← e]; exact hc))) fun W' hu' => h W' ?_⟩⟩
    exact (hu.mono fun k _ e => by simp [e]).trans (hu'.mono fun k _ e => by simp [e])

theorem pairs_any (A : Option Addr) (n c : Nat) (w : World) :
    Calls Tryd.prog 67 #[.slice A n c] w fun e w' => e = .returned (.func (.func 83) #[] #[.pointer (some ⟨w.heap.size, 0, none⟩)]) ∧ w' = w.alloc (.cells #[.slice A n c] 38) := by
  go_enter Tryd.func67, Tryd.ntmps67
  go_wp2
  go_ret
  exact ⟨rfl, rfl⟩

theorem pairs_pre {zs : List Int} {k : Nat} (hk : k < zs.length) {xs : List Nat} (h : xs <+: itemsL (zs[k]?.getD 0)) : pairsTo zs k ++ xs.map (fun x => (k, x)) <+: pairsL zs := by
  refine List.IsPrefix.trans ?_ (pairsTo_le zs (k := k + 1) (m := zs.length) hk)
  rw [pairsTo_succ]
  exact (List.prefix_append_right_inj _).2 (h.map _)

/-- What holds between two rounds of the inner loop. -/
def PairIn (zs : List Int) (J : List (Nat × Nat) → (Nat → Prop) → World → Prop) (M D0 : Nat → Prop) (k : Nat) (Wc : World) (xs : List Nat) (D : Nat → Prop) (W : World) : Prop :=
  ∃ D2, J (pairsTo zs k ++ xs.map (fun x => (k, x))) D2 W ∧ (∀ j, D2 j → D0 j ∨ D j) ∧ Upd (fun j => M j ∨ D0 j) Wc W
theorem PairIn.firm {zs : List Int} {J : List (Nat × Nat) → (Nat → Prop) → World → Prop} {M D0 : Nat → Prop} {k B : Nat} {Wc : World} (hJ : Firm B J) (hB : B ≤ Wc.heap.size) (hD : ∀ j, D0 j → j < Wc.heap.size) : Firm Wc.heap.size (PairIn zs J M D0 k Wc) := by
  rintro s D W W' ⟨D2, hj, h2, hu⟩ hw
  refine ⟨D2, hJ _ _ _ _ hj (hw.mono fun j _ e => ⟨by omega, fun e2 => ?_⟩), h2, hu.trans' hw (fun i hi e => by omega)⟩
  rcases h2 j e2 with h | h
  · have := hD j h; omega
  · exact e.2 h

set_option maxRecDepth 100000 in
set_option maxHeartbeats 4000000 in
theorem pairs_iter (A : Option Addr) (n c : Nat) (zs : List Int) (hv : Sets zs) (b : Nat) (M : Nat → Prop) (w : World) (hb : Boxed w b 38 (.slice A n c)) (hM : ¬ M b) (hMb : ∀ k, M k → k < w.heap.size)
    (hA : Ints w w.heap.size A n zs) (hMA : 0 < n → ∀ a, A = some a → ¬ M a.block) :
    Iter Tryd.prog 83 #[.pointer (some ⟨b, 0, none⟩)] encP (pairsL zs) M w := fun l J Jx hJ hJx hY h0 => by
  refine (callsIn_wide (n := 9)).1 ?_
  refine callsIn_of_wp_marks Tryd.func83 rfl trivial ?_ rfl
  simp only [Tryd.ntmps83, List.size_toArray, List.length_cons, List.length_nil, Nat.reduceAdd, Nat.reduceSub, Array.replicate_succ, Array.replicate_zero, List.push_toArray, List.append_toArray, List.nil_append, List.cons_append]
  have hc0 := (hb.alloc (.cells #[Value.func (.yield l) #[] #[]] 31)).cell
  have hlen := Lib.hid hA.len
  have hn6 : n ≤ 6 := by have := hv.1; rw [hlen.out] at this; exact this
  have hbl := hb.lt
  gi_wp2
  clear hc0
  have hyb := Boxed.new w 31 (.func (.yield l) #[] #[])
  have hu0 : Upd (fun _ => False) w (w.alloc (.cells #[Value.func (.yield l) #[] #[]] 31)) := (Upd.refl _ w).alloc _
  refine wpIn_loop (fun a' wr => ∃ (k : Nat) (D : Nat → Prop) (bs : List Nat) (v3 v4 v5 v8 v9 v10 v11 v12 v13 v14 v15 v16 v17 v18 v19 v20 v21 : Value),
      (k ≤ n ∧ v8 = .int .i64 (k : Int) ∧ J (pairsTo zs k) D wr ∧ (∀ j, D j → w.heap.size < j ∧ j < wr.heap.size) ∧ Upd M w wr ∧ Boxed wr w.heap.size 31 (.func (.yield l) #[] #[]) ∧ Open bs wr ∧ (∀ j ∈ bs, w.heap.size < j ∧ ¬ D j)) ∧
      a' = { tmps := #[.func (.yield l) #[] #[], .pointer (some ⟨b, 0, none⟩), .pointer (some ⟨w.heap.size, 0, none⟩), v3, v4, v5, .slice A n c, .int .i64 (n : Int), v8, v9, v10, v11, v12, v13, v14, v15, v16, v17, v18, v19, v20, v21], defers := marks bs })
    (fun a' _ => n - (intOf (a'.tmps.getD 8 undef)).toNat) ?_ ?_
  · exact ⟨0, fun _ => False, [], _, _, _, _, _, _, _, _, _, _, _, _, _, _, _, _, _, ⟨by omega, rfl, hJ _ _ _ _ h0 (hu0.mono fun _ _ e => e.elim), fun _ e => e.elim, hu0.mono fun _ _ e => e.elim, hyb, ⟨List.nodup_nil, fun _ e => by cases e⟩, fun _ e => by cases e⟩, rfl⟩
  · rintro a' wr ⟨k, D, bs, v3, v4, v5, v8, v9, v10, v11, v12, v13, v14, v15, v16, v17, v18, v19, v20, v21, ⟨hk, rfl, hj, hD, hU, hyr, hop, hbs⟩, rfl⟩
    have hbr : Boxed wr b 38 (.slice A n c) := hU.boxed hb hM
    have hszr := hU.size
    by_cases hlt : k < n
    · obtain ⟨ab, off, rfl, hab, hc⟩ := hA.at_ hlt
      have hck := hU.cell (hc k hlt) (hMA (by omega) ⟨ab, off, none⟩ rfl)
      have hz := hv.bd k (by rw [hlen.out]; exact hlt)
      gi_wp2_with ((try refine ⟨trivial, ?_⟩); gi_at_call 78; refine (callsIn_wide.2 (each_any _ _)).mono ?_; rintro e w' ⟨rfl, rfl⟩)
      have hlb := (Boxed.new wr 3 (.int .i64 (k : Int))).alloc (.cells #[Value.int .i64 (zs[k]?.getD 0)] 57)
      have heb := Boxed.new (wr.alloc (.cells #[Value.int .i64 (k : Int)] 3)) 57 (.int .i64 (zs[k]?.getD 0))
      have huc : Upd (fun _ => False) wr ((wr.alloc (.cells #[Value.int .i64 (k : Int)] 3)).alloc (.cells #[Value.int .i64 (zs[k]?.getD 0)] 57)) := ((Upd.refl _ wr).alloc _).alloc _
      have hzc : ((wr.alloc (.cells #[Value.int .i64 (k : Int)] 3)).alloc (.cells #[Value.int .i64 (zs[k]?.getD 0)] 57)).heap.size = wr.heap.size + 2 := by simp
      obtain ⟨Wc, hWc⟩ : ∃ Wc, ((wr.alloc (.cells #[Value.int .i64 (k : Int)] 3)).alloc (.cells #[Value.int .i64 (zs[k]?.getD 0)] 57)) = Wc := ⟨_, rfl⟩
      rw [World.size_alloc] at heb
      rw [hWc] at hlb heb huc hzc ⊢
      clear hWc
      have hyc := huc.boxed hyr (fun e => e)
      have hjc : J (pairsTo zs k) D Wc := hJ _ _ _ _ hj (huc.mono fun _ _ e => e.elim)
      have hop' := hop.upd huc (fun _ _ e => e)
      have hbs' : ∀ j ∈ bs, j < Wc.heap.size := fun j hj => (Array.getElem?_eq_some_iff.1 (hop'.2 j hj)).1
      refine range_out (n := 9) (gf := 94) (lb := #[.pointer (some ⟨wr.heap.size + 1, 0, none⟩)]) rfl (enters_of Tryd.func94 (by kernel_rfl) rfl) (encs := encI) (L := itemsL (zs[k]?.getD 0))
        (fun j => M j ∨ D j) (fun j e => by
          rcases e with e | e
          · have := hMb j e; omega
          · have := hD j e; omega) (fun _ => rfl)
        (fun W1 l1 hu1 hl1 hl2 => each_iter _ hz.1 hz.2 _ _ _ (hu1.boxed heb (fun e => e)) (fun e => by
          rcases e with (e | e) | e
          · have := hMb _ e; omega
          · have := hD _ e; omega
          · omega))
        (PairIn zs J M D k Wc) (fun co xs D' W => co = .ret ∧ PairIn zs Jx M D k Wc xs D' W)
        (PairIn.firm hJ (by omega) (fun j e => by have := hD j e; omega)) (fun co s D' W W' hs hu => ⟨hs.1, PairIn.firm hJx (by omega) (fun j e => by have := hD j e; omega) s D' W W' hs.2 hu⟩)
        ⟨D, by simpa using hjc, fun _ e => .inl e, Upd.refl _ _⟩ ?owes ?done ?stop
      case owes =>
        intro l1 pre x D1 W hl1 hl2 hDl hD1 hP hpre K hK
        gi_wp2
        refine hK _ _ (Upd.refl _ _) ?_
        rintro Wb hWb - ⟨D2, hj2, h2, hu2⟩
        clear hK
        have hyW := hu2.boxed hyc (fun e => by
          rcases e with e | e
          · have := hMb _ e; omega
          · have := hD _ e; omega)
        have hlW := hu2.boxed hlb (fun e => by
          rcases e with e | e
          · have := hMb _ e; omega
          · have := hD _ e; omega)
        have hzb := hu2.size
        have hcy := hyW.cell
        have hcl := hlW.cell
        have hzW := hWb.size
        have hxs := pairs_pre (k := k) (by rw [hlen.out]; exact hlt) hpre
        rw [List.map_append, ← List.append_assoc] at hxs
        obtain ⟨fn, tmps, assign, body, hy, hR0⟩ := hY _ (k, x) D2 Wb hj2 (by omega) hxs 6
        have hR : RoundIn (Fence.wide.inRound l1) 6 Tryd.prog l fn tmps assign body Wb _ := hR0
        clear hR0
        dsimp only [encP] at hy
        gi_wp2
        refine hR.mono ?_
        have next : ∀ (D3 : Nat → Prop) (W3 : World), Upd (fun k => M k ∨ D2 k) Wb W3 → (∀ k, D3 k → D2 k ∨ Wb.heap.size ≤ k ∧ k < W3.heap.size) →
            Upd (fun j => M j ∨ D j) Wc W3 ∧ Upd (fun j => (M j ∨ D j) ∨ D1 j ∨ W.heap.size ≤ j) Wb W3 ∧ (∀ j, D3 j → D j ∨ (D3 j ∧ ¬ D j)) ∧ ∀ j, (D3 j ∧ ¬ D j) → D1 j ∨ W.heap.size ≤ j ∧ j < W3.heap.size := fun D3 W3 hu3 hD3 => by
          refine ⟨hu2.trans' hu3 (fun i hi e => ?_), hu3.mono fun j _ e => ?_, fun j e => by by_cases h : D j <;> simp [h, e], fun j e => ?_⟩
          · rcases e with e | e
            · exact .inl e
            · rcases h2 i e with h | h
              · exact .inr h
              · have := hD1 i h; omega
          · rcases e with e | e
            · exact .inl (.inl e)
            · rcases h2 j e with h | h
              · exact .inl (.inr h)
              · exact .inr (.inl h)
          · rcases hD3 j e.1 with h | h
            · exact (h2 j h).elim (fun x => absurd x e.2) .inl
            · exact .inr ⟨by omega, h.2⟩
        rintro e W3 (⟨rfl, D3, hj3, hu3, hD3⟩ | ⟨rfl, D3, hj3, hu3, hD3⟩)
        · obtain ⟨n1, n2, n3, n4⟩ := next D3 W3 hu3 hD3
          gi_wp2
          exact ⟨fun j => D3 j ∧ ¬ D j, ⟨D3, by rw [List.map_append, ← List.append_assoc]; exact hj3, n3, n1⟩, n2, n4⟩
        · obtain ⟨n1, n2, n3, n4⟩ := next D3 W3 hu3 hD3
          gi_wp2
          exact ⟨fun j => D3 j ∧ ¬ D j, ⟨rfl, D3, by rw [List.map_append, ← List.append_assoc]; exact hj3, n3, n1⟩, n2, n4⟩
      case done =>
        rintro d D1 W hd ⟨D2, hj2, h2, hu2⟩ hD1 hKd
        have hsz := hu2.size
        have hdl : d < W.heap.size := (Array.getElem?_eq_some_iff.1 hKd).1
        have hnD : ∀ j, D2 j → j ≠ d := fun j e ej => by
          rcases h2 j e with h | h
          · have := hD j h; omega
          · have := hD1 j h; omega
        have hop2 : Open bs W := hop'.upd hu2 (fun j hj e => by
          rcases e with e | e
          · have := hMb j e; have := (hbs j hj).1; omega
          · exact (hbs j hj).2 e)
        have hb2 : ∀ j ∈ bs, ¬ D2 j := fun j hj e => by
          rcases h2 j e with h | h
          · exact (hbs j hj).2 h
          · have := hD1 j h; have := hbs' j hj; omega
        have hu3 : Upd M w W := (hU.trans' huc (fun _ _ e => e.elim)).trans' hu2 (fun i hi e => by
          rcases e with e | e
          · exact e
          · have := hD i e; omega)
        have hy3 : Boxed W w.heap.size 31 (.func (.yield l) #[] #[]) := hu2.boxed hyc (fun e => by
          rcases e with e | e
          · have := hMb _ e; omega
          · have := hD _ e; omega)
        have Hj := Lib.hid (pairsTo_succ zs k)
        have hj3 : J (pairsTo zs (k + 1)) D2 W := by rw [Hj.out]; exact hj2
        have hD2 : ∀ j, D2 j → w.heap.size < j ∧ j < W.heap.size := fun j e => by
          rcases h2 j e with h | h
          · have := hD j h; omega
          · have := hD1 j h; omega
        have hop3 : Open (d :: bs) W := hop2.cons hKd (fun e => by have := hbs' d e; omega)
        have hb3 : ∀ j ∈ d :: bs, w.heap.size < j ∧ ¬ D2 j := fun j hj => by
          rcases List.mem_cons.1 hj with rfl | hj
          · exact ⟨by omega, fun e => hnD _ e rfl⟩
          · exact ⟨(hbs j hj).1, hb2 j hj⟩
        clear hj2 h2 hu2 hD1 hnD hop2 hb2 hKd
        gi_wp2
        refine ⟨⟨k + 1, D2, d :: bs, _, _, _, _, _, _, _, _, _, _, _, _, _, _, _, _, _, ⟨by omega, by go_num, hj3, hD2, hu3, hy3, hop3, hb3⟩, rfl⟩, ?_⟩
        simp [intOf]; omega
      case stop =>
        rintro d D1 co pre W hd hpre ⟨rfl, D2, hj2, h2, hu2⟩ hD1 hKd
        have hdl : d < W.heap.size := (Array.getElem?_eq_some_iff.1 hKd).1
        have hnD : ¬ D2 d := fun e => by
          rcases h2 d e with h | h
          · have := hD d h; omega
          · have := hD1 d h; omega
        have hop2 : Open bs W := hop'.upd hu2 (fun j hj e => by
          rcases e with e | e
          · have := hMb j e; have := (hbs j hj).1; omega
          · exact (hbs j hj).2 e)
        have hb2 : ∀ j ∈ bs, ¬ D2 j := fun j hj e => by
          rcases h2 j e with h | h
          · exact (hbs j hj).2 h
          · have := hD1 j h; have := hbs' j hj; omega
        have hop3 : Open (d :: bs) W := hop2.cons hKd (fun e => by have := hbs' d e; omega)
        have hxs := pairs_pre (k := k) (by rw [hlen.out]; exact hlt) hpre
        gi_wp2
        refine leaves_marks (d :: bs) W hop3 (fun W' hu' => ⟨_, results_none rfl _ _ _, ⟨_, rfl⟩, .inr ⟨_, D2, hxs, hJx _ _ _ _ hj2 (hu'.mono fun j _ e => ?_)⟩⟩)
        rcases List.mem_cons.1 e with rfl | e
        · exact ⟨by omega, hnD⟩
        · exact ⟨Nat.le_of_lt (hbs j e).1, hb2 j e⟩
    · obtain rfl : k = n := by omega
      have Hl := Lib.hid (show pairsL zs = pairsTo zs k by unfold pairsL; rw [hlen.out])
      gi_wp2
      refine leaves_marks bs wr hop (fun W' hu' => ⟨_, results_none rfl _ _ _, ⟨_, rfl⟩, .inl ⟨D, ?_⟩⟩)
      rw [Hl.out]
      exact hJ _ _ _ _ hj (hu'.mono fun j _ e => ⟨Nat.le_of_lt (hbs j e).1, (hbs j e).2⟩)
end Go.Proofs.YtmlihbcffndnbabDoor

/- A region that draws its order and only reads, in a round of a loop over a function: by the law for plain activations. -/
namespace Go.Proofs.YtmlihbcffndnbabDoor
open Go.RowKit

theorem wide_fn (f : FuncId) : Fence.wide.fn f := trivial

def noDefer (o : Oper) : Bool := match o.op with
  | .defer _ => false
  | _ => true
theorem noDefer_spec {o : Oper} (h : noDefer o = true) : ∀ c, o.op ≠ .defer c := fun c e => by
  unfold noDefer at h
  rw [e] at h
  cases h

section
variable {n : Nat} {P : Program} {ops : Array Oper} {Q : Exit → Act → World → Prop} {md : Region.Mode} {l₀ : Nat}

theorem operIn_round {o : Oper} (hn : ∀ c, o.op ≠ .defer c) {a : Act} {w : World} {K : Act → World → Prop} (h : o.wpIn Fence.wide n P a w K Q) : o.wpIn (Fence.wide.inRound l₀) n P a w K Q := by
  unfold Oper.wpIn at *
  rw [Oper.semAt_eq _ _ _ hn] at h ⊢
  exact h

theorem anyIn_round (hn : ∀ (i : Nat) (o : Oper), ops[i]? = some o → ∀ c, o.op ≠ .defer c) : ∀ (fuel : Nat) (listed : Array Bool) (a : Act) (w : World),
    wpAnyIn Fence.wide n P md ops Q fuel listed a w → wpAnyIn (Fence.wide.inRound l₀) n P md ops Q fuel listed a w
  | 0, _, _, _, h => h
  | fuel + 1, listed, a, w, h => ⟨h.1, fun i hi => by
      have h2 := wpOpIn_mono (fun a w => anyIn_round hn fuel (listed.setIfInBounds i true) a w) (h.2 i hi)
      unfold wpOpIn at h2 ⊢
      split
      · rename_i ho; simpa only [ho] using h2
      · rename_i o ho
        simp only [ho] at h2
        split
        · rename_i hw; simp only [hw, if_true] at h2; exact operIn_round (hn i o ho) h2
        · rename_i hw; simp only [hw] at h2; exact h2⟩

theorem region_quiet_round {id : Nat} {a : Act} {w : World} {l : List Oper} (hm : P.follows .mixedOrders = true) (hB : Region.lexB .any l.toArray = true) (hd : l.all noDefer = true)
    (h : wpQuietIn Fence.wide n P l.toArray (fun w' => ∃ n, w' = w.drewN n) (fun a' => ∀ w', (∃ n, w' = w.drewN n) → Q .normal a' w') l a) : (Code.region id l.toArray true).wpIn (Fence.wide.inRound l₀) n P Q a w := by
  simp only [Region.lexB, Bool.and_eq_true] at hB
  have hn : ∀ (i : Nat) (o : Oper), l.toArray[i]? = some o → ∀ c, o.op ≠ .defer c := fun i o ho => noDefer_spec (List.all_eq_true.1 hd o (List.mem_of_getElem? (by simpa using ho)))
  refine wpIn_region_any hm (anyIn_round hn _ _ _ _ (wpAnyIn_of_quiet (C := fun w' => ∃ n, w' = w.drewN n) (Q := fun a' => ∀ w', (∃ n, w' = w.drewN n) → Q .normal a' w') rfl (fun _ w' hw' h => h w' hw') _ _ _ _ ⟨1, rfl⟩ ?_))
  have := wpAnyQIn_lex (F := Fence.wide) (n := n) (P := P) (C := fun w' => ∃ n, w' = w.drewN n) (Q := fun a' => ∀ w', (∃ n, w' = w.drewN n) → Q .normal a' w') (md := .any) hB.1 l 0 (Array.replicate l.toArray.size false) a (by simp) (by simpa using hB.2) h
  simpa using this
end

/-! A region that reads, and calls quietly, ahead of a tail that comes last in every order (a store): in a round, and outside of one. -/
section
variable {m : Nat} {P : Program} {ops : Array Oper} {md : Region.Mode} {C : World → Prop} {Q : Exit → Act → World → Prop}

/-- Whatever order is picked of the first n operations. -/
def headQ (m : Nat) (P : Program) (md : Region.Mode) (ops : Array Oper) (C : World → Prop) (n : Nat) (L : Array Bool → Act → Prop) : Nat → Array Bool → Act → Prop
  | 0, listed, a => L listed a
  | f + 1, listed, a => Region.ready md ops listed ≠ [] ∧ ∀ i ∈ Region.ready md ops listed, i < n ∧ qOpIn Fence.wide m P ops C i (headQ m P md ops C n L f (listed.setIfInBounds i true)) a

theorem anyIn_of_head {n g : Nat} {L : Array Bool → Act → Prop} (hL : ∀ listed a w, C w → L listed a → wpAnyIn Fence.wide m P md ops Q g listed a w) :
    ∀ (f : Nat) (listed : Array Bool) (a : Act) (w : World), C w → headQ m P md ops C n L f listed a → wpAnyIn Fence.wide m P md ops Q (f + g) listed a w
  | 0, listed, a, w, hw, h => by rw [Nat.zero_add]; exact hL _ _ _ hw h
  | f + 1, listed, a, w, hw, h => by
    rw [show f + 1 + g = (f + g) + 1 by omega]
    exact ⟨fun h0 => absurd h0 h.1, fun i hi => wpOpIn_of_qOpIn rfl hw (fun a' w' hw' h' => anyIn_of_head hL f _ a' w' hw' h') (h.2 i hi).2⟩

theorem headQ_first {n i : Nat} {oi : Oper} {v : Value} {L : Array Bool → Act → Prop} (hi : ops[i]? = some oi) (hsel : ∀ (j : Nat) (o : Oper) cs b, ops[j]? = some o → o.op ≠ .select cs b)
    (hs : Region.sinkB md ops n = true) (hc : Region.chainB md ops n = true) (hn : n < ops.size) (hin : i < n) (hdone : ∀ listed a, L listed a → ∀ j ∈ Region.ready md ops listed, n ≤ j) :
    ∀ (f : Nat) (listed : Array Bool) (a : Act), HeadInv md ops n listed →
      (∀ j oj, ops[j]? = some oj → j ≠ i → listed.getD j true = false → (∀ e ∈ oj.after, Region.binds md e = true → e.on ≠ i) → oi.apart ops oj = true) →
      i ∈ Region.ready md ops listed → YieldsQuiet Fence.wide m P ops C oi v a →
      headQ m P md ops C n L f (listed.setIfInBounds i true) (a.put oi.dst v) → headQ m P md ops C n L (f + 1) listed a
  | f, listed, a, inv, hfree, hr, hy, H => by
    have hun := (mem_ready.1 hr).1
    refine ⟨fun h => (by rw [h] at hr; cases hr), fun j hj => ?_⟩
    have hjn : j < n := by
      rcases Nat.lt_or_ge j n with h | h
      · exact h
      · exact absurd hj (tail_waits hs hc hn inv _ i rfl hin hun j h)
    refine ⟨hjn, ?_⟩
    by_cases hji : j = i
    · subst hji; exact hy.qOpIn hi H
    · cases f with
      | zero => have := hdone _ _ H j (ready_mono hj hji); omega
      | succ f =>
        have h1 := (H.2 j (ready_mono hj hji)).2
        obtain ⟨hjun, oj, hoj, hall⟩ := mem_ready.1 hj
        have hnot : ∀ e ∈ oj.after, Region.binds md e = true → e.on ≠ i := fun e he hb heq => by
          have h1 := hall e he hb
          rw [heq, getD_both hun] at h1
          cases h1
        have h2 := qOpIn_put hoj (hfree j oj hoj hji hjun hnot) (fun cs b => hsel i oi cs b hi) (fun cs b => hsel j oj cs b hoj) hy h1
        have hfree' : ∀ k ok, ops[k]? = some ok → k ≠ i → (listed.setIfInBounds j true).getD k true = false →
            (∀ e ∈ ok.after, Region.binds md e = true → e.on ≠ i) → oi.apart ops ok = true := fun k ok hk hki hkun hno => by
          refine hfree k ok hk hki ?_ hno
          by_cases hjk : j = k
          · subst hjk; exact hjun
          · rw [getD_set_ne true hjk] at hkun; exact hkun
        refine qOpIn_mono (fun a' h3 => headQ_first hi hsel hs hc hn hin hdone f (listed.setIfInBounds j true) a' (inv.set hj hjn) hfree' (ready_mono hr (Ne.symm hji)) h3.1 ?_) h2
        rw [Array.setIfInBounds_comm _ _ hji]
        exact h3.2

theorem anyIn_of_seq : ∀ (l : List Oper) (k : Nat) (listed : Array Bool) (a : Act) (w : World), (∀ j, l[j]? = ops[k + j]?) →
    Region.seqB md ops l.length k listed = true → wpListIn Fence.wide m P ops Q l a w → wpAnyIn Fence.wide m P md ops Q l.length listed a w
  | [], _, _, _, _, _, hB, h => ⟨by simpa [Region.seqB] using hB, h⟩
  | o :: l, k, listed, a, w, hl, hB, h => by
    have h0 : ops[k]? = some o := by simpa using (hl 0).symm
    simp only [List.length_cons, Region.seqB, Bool.and_eq_true, decide_eq_true_eq] at hB
    refine ⟨fun h1 => (by rw [hB.1] at h1; cases h1), fun i hi => ?_⟩
    rw [hB.1] at hi
    have hik : i = k := by simpa using hi
    subst hik
    have hw : wpOpIn Fence.wide m P ops Q i (wpListIn Fence.wide m P ops Q l) a w := by unfold wpOpIn; simp only [h0]; exact h
    exact wpOpIn_mono (fun a' w' h' => anyIn_of_seq l (i + 1) _ a' w' (fun j => by have := hl (j + 1); simpa [Nat.add_assoc, Nat.add_comm 1 j] using this) hB.2 h') hw

theorem headQ_lex {n g : Nat} {Lq : Act → Prop} (hsel : Region.noSelect ops = true) (hs : Region.sinkB md ops n = true) (hc : Region.chainB md ops n = true) (hn : n < ops.size) :
    ∀ (l : List Oper) (k : Nat) (listed : Array Bool) (a : Act), (∀ j, j < l.length → l[j]? = ops[k + j]?) → k + l.length = n → HeadInv md ops n listed →
    Region.lexHead md ops g l.length k listed = true → wpQuietIn Fence.wide m P ops C Lq l a →
    headQ m P md ops C n (fun listed' a' => Region.seqB md ops g n listed' = true ∧ Lq a') l.length listed a
  | [], k, listed, a, _, hk, _, hB, h => by
    have : k = n := by simpa using hk
    subst this
    exact ⟨by simpa [Region.lexHead] using hB, h⟩
  | o :: l, k, listed, a, hl, hk, inv, hB, h => by
    have h0 : ops[k]? = some o := by simpa using (hl 0 (by simp)).symm
    simp only [List.length_cons, Region.lexHead, Bool.and_eq_true] at hB
    obtain ⟨⟨hr, hf⟩, hB'⟩ := hB
    have hkn : k < n := by simp only [List.length_cons] at hk; omega
    have hr' : k ∈ Region.ready md ops listed := by simpa using hr
    have hst : qOpIn Fence.wide m P ops C k (wpQuietIn Fence.wide m P ops C Lq l) a := by unfold qOpIn; simp only [h0]; exact h
    obtain ⟨v, hy, hK⟩ := yieldsQuiet_of_qOpIn h0 hst
    exact headQ_first h0 (Region.noSelect_spec hsel) hs hc hn hkn (fun listed' a' hL => seqB_ready hL.1) l.length listed a inv (Region.free_spec h0 hf) hr' hy
      (headQ_lex hsel hs hc hn l (k + 1) _ _ (fun j hj => by have := hl (j + 1) (by simp; omega); simpa [Nat.add_assoc, Nat.add_comm 1 j] using this) (by simp only [List.length_cons] at hk; omega) (inv.set hr' hkn) hB' hK)

theorem any_tail {a : Act} {w : World} {l : List Oper} (n : Nat) (hB : Region.lexTailB .any l.toArray n = true)
    (h : wpQuietIn Fence.wide m P l.toArray (fun w' => ∃ k, w' = w.drewN k) (fun a' => ∀ w', (∃ k, w' = w.drewN k) → wpListIn Fence.wide m P l.toArray Q (l.drop n) a' w') (l.take n) a) :
    wpAnyIn Fence.wide m P .any l.toArray Q l.toArray.size (Array.replicate l.toArray.size false) a { w with drawn := w.drawn + 1 } := by
  simp only [Region.lexTailB, Bool.and_eq_true, decide_eq_true_eq] at hB
  obtain ⟨⟨⟨⟨hsel, hn⟩, hs⟩, hc⟩, hlex⟩ := hB
  have hnl : n < l.length := by simpa using hn
  have e : l.toArray.size = (l.take n).length + (l.drop n).length := by simp; omega
  have key := headQ_lex (m := m) (P := P) (C := fun w' => ∃ k, w' = w.drewN k) (g := (l.drop n).length) (Lq := fun a' => ∀ w', (∃ k, w' = w.drewN k) → wpListIn Fence.wide m P l.toArray Q (l.drop n) a' w') hsel hs hc hn (l.take n) 0
    (Array.replicate l.toArray.size false) a (fun j hj => by simp at hj; simp [List.getElem?_take]; omega) (by simp; omega)
    ⟨by simp, (fun j oj _ hl => by rw [getD_replicate_false] at hl; cases hl), (fun t ht ht' => by simp at ht'; simp [ht'])⟩
    (by have h1 : (l.take n).length = n := by simp; omega
        have h2 : (l.drop n).length = l.toArray.size - n := by simp
        rw [h1, h2]; exact hlex) h
  rw [e] at key ⊢
  exact anyIn_of_head (fun listed a w' hw' hL => anyIn_of_seq (l.drop n) n listed a w' (fun j => by simp) hL.1 (hL.2 w' hw')) _ _ _ _ ⟨1, rfl⟩ key

theorem region_tail_round {id : Nat} {a : Act} {w : World} {l : List Oper} {l₀ : Nat} (n : Nat) (hm : P.follows .mixedOrders = true) (hB : Region.lexTailB .any l.toArray n = true) (hd : l.all noDefer = true)
    (h : wpQuietIn Fence.wide m P l.toArray (fun w' => ∃ k, w' = w.drewN k) (fun a' => ∀ w', (∃ k, w' = w.drewN k) → wpListIn Fence.wide m P l.toArray Q (l.drop n) a' w') (l.take n) a) :
    (Code.region id l.toArray true).wpIn (Fence.wide.inRound l₀) m P Q a w :=
  wpIn_region_any hm (anyIn_round (fun _ o ho => noDefer_spec (List.all_eq_true.1 hd o (List.mem_of_getElem? (by simpa using ho)))) _ _ _ _ (any_tail n hB h))
theorem region_tail {id : Nat} {a : Act} {w : World} {l : List Oper} (n : Nat) (hm : P.follows .mixedOrders = true) (hB : Region.lexTailB .any l.toArray n = true)
    (h : wpQuietIn Fence.wide m P l.toArray (fun w' => ∃ k, w' = w.drewN k) (fun a' => ∀ w', (∃ k, w' = w.drewN k) → wpListIn Fence.wide m P l.toArray Q (l.drop n) a' w') (l.take n) a) :
    (Code.region id l.toArray true).wpIn Fence.wide m P Q a w :=
  wpIn_region_any hm (any_tail n hB h)
end

theorem quietIn_left {P : Program} {f : FuncId} {args : Array Value} {w : World} {r n : Nat} {v : Value}
    (h : Calls P f args (w.drewN n) fun e w' => e = .returned v ∧ w.drewN n = w') : CallsIn Fence.wide r P f args (w.drewN n) fun e w'' => e = .returned v ∧ ∃ m, w'' = w.drewN m :=
  callsIn_wide.2 (h.mono fun _ _ ⟨he, hm⟩ => ⟨he, n, hm.symm⟩)
theorem quietIn_add {P : Program} {f : FuncId} {args : Array Value} {w : World} {r a n : Nat} {v : Value}
    (h : Calls P f args (w.drewN (a + n)) fun e w' => e = .returned v ∧ w.drewN (a + n) = w') : CallsIn Fence.wide r P f args (w.drewN (a + n)) fun e w'' => e = .returned v ∧ ∃ m, w'' = w.drewN (a + m) :=
  callsIn_wide.2 (h.mono fun _ _ ⟨he, hm⟩ => ⟨he, n, hm.symm⟩)
end Go.Proofs.YtmlihbcffndnbabDoor

/- The program's own test of orders: 'isOrder' ranges over the pairs. -/
namespace Go.Proofs.YtmlihbcffndnbabDoor
open Go.RowKit Go.Shelf
attribute [local go_sem] Oper.semAt_some
attribute [local go_sem, local simp] wide_fn

/-- The pair's second is another one, and what is above it is above the first. -/
def okQ (zs : List Int) (p : Nat × Nat) : Bool := !(p.1 == p.2) && lessI (zs[p.2]?.getD 0) (zs[p.1]?.getD 0) == 0
def iso (zs : List Int) : Bool := (pairsL zs).all (okQ zs)

theorem iso_not {zs : List Int} {pre : List (Nat × Nat)} {x : Nat × Nat} (hp : pre ++ [x] <+: pairsL zs) (h : okQ zs x = false) : iso zs = false := by
  obtain ⟨t, ht⟩ := hp
  unfold iso
  rw [← ht]
  simp [h]

/-- 'pairs' at any place of a program: what its contract asks, out of what the caller has at the loop. -/
theorem pairs_iter_at {A : Option Addr} {n c : Nat} {zs : List Int} (hv : Sets zs) {b B0 : Nat} {M : Nat → Prop} {w W1 : World} {l : Nat} (hb : Boxed w b 38 (.slice A n c)) (hM : ∀ k, M k → k < w.heap.size) (hMb : ¬ M b)
    (hA : Ints w B0 A n zs) (hB0 : B0 ≤ w.heap.size) (hMA : ∀ k, M k → B0 ≤ k) (hu : Upd (fun _ => False) w W1) (hl : w.heap.size ≤ l) (hl1 : l < W1.heap.size) :
    Iter Tryd.prog 83 #[.pointer (some ⟨b, 0, none⟩)] encP (pairsL zs) (fun k => M k ∨ k = l) W1 := by
  have hlt := hb.lt
  have hz := hu.size
  refine pairs_iter A n c zs hv b _ W1 (hu.boxed hb (fun e => e)) (fun e => ?_) (fun k e => ?_) ((hA.more hB0).keep (fun p hp => ?_) |>.more hz) (fun hn a e h => ?_)
  · rcases e with e | e
    · exact hMb e
    · omega
  · rcases e with e | e
    · have := hM k e; omega
    · omega
  · exact World.cell?_of_block (hu.block p.block hp (fun e => e))
  · obtain ⟨b', off, rfl, hb', _⟩ := hA.at_ hn
    cases e
    rcases h with h | h
    · have := hMA _ h; simp at this; omega
    · simp at h; omega

/-- Both tests of orders agree on sets of items. -/
theorem lessI_zero {a b : Int} (h : lessI a b = 0) (j : Int) (hj : bitB a j = true) : bitB b j = true := by
  have h1 : a.toNat &&& (a.toNat ^^^ b.toNat) = 0 := by unfold lessI at h; omega
  have h2 : (a.toNat &&& (a.toNat ^^^ b.toNat)).testBit j.toNat = false := by rw [h1]; simp
  unfold bitB at *
  rw [Nat.testBit_and, Nat.testBit_xor, hj] at h2
  simpa using h2
theorem iso_vo {zs : List Int} (h : Sets zs) : iso zs = vo zs := by
  rw [Bool.eq_iff_iff]
  constructor
  · intro hi
    refine vo_true ⟨h.1, fun a ha => ?_, fun a ha b hb => ?_⟩
    · have hz := h.2 a ha
      have hs : bitB (zs[a]?.getD 0) a = false := by
        cases hb : bitB (zs[a]?.getD 0) a with
        | false => rfl
        | true =>
          have := List.all_eq_true.1 hi (a, a) (mem_pairsL.2 ⟨ha, by have := h.1; omega, hb⟩)
          simp [okQ] at this
      have hin : inB (zs[a]?.getD 0) 0 (powI zs.length - 1) = true := by unfold inB; simp; omega
      exact okA_yes hin hs
    · cases hb1 : bitB (zs[a]?.getD 0) b with
      | false => simp [okP, hb1]
      | true =>
        have h1 := List.all_eq_true.1 hi (a, b) (mem_pairsL.2 ⟨ha, by have := h.1; omega, hb1⟩)
        simp only [okQ, Bool.and_eq_true, beq_iff_eq, Bool.not_eq_true', beq_eq_false_iff_ne] at h1
        have h2 : bitB (zs[b]?.getD 0) a = false := by
          cases hc : bitB (zs[b]?.getD 0) a with
          | false => rfl
          | true =>
            have h3 := lessI_zero h1.2 a hc
            have := List.all_eq_true.1 hi (a, a) (mem_pairsL.2 ⟨ha, by have := h.1; omega, h3⟩)
            simp [okQ] at this
        simp [okP, hb1, h1.2, h2]
  · intro hv
    have hv : VoP zs := by simpa [vo] using hv
    refine List.all_eq_true.2 fun p hp => ?_
    obtain ⟨a, b⟩ := p
    obtain ⟨ha, hb, hbit⟩ := h.pair hp
    have h1 := hv.2.2 a ha b hb
    have h2 := hv.2.1 a ha
    simp only [okP, hbit, Bool.not_true, Bool.false_or, Bool.and_eq_true, beq_iff_eq, Bool.not_eq_true'] at h1
    simp only [okA, Bool.and_eq_true, Bool.not_eq_true'] at h2
    have hne : a ≠ b := fun e => by subst e; rw [hbit] at h2; exact absurd h2.2 (by decide)
    simp [okQ, h1.1, hne]

set_option maxRecDepth 100000 in
set_option maxHeartbeats 4000000 in
theorem isOrder_any (A : Option Addr) (n c : Nat) (zs : List Int) (hv : Sets zs) (w : World) (hA : Ints w w.heap.size A n zs) :
    Calls Tryd.prog 56 #[.slice A n c] w fun e W' => e = .returned (.bool (iso zs)) ∧ Below w.heap.size w W' := by
  refine (callsIn_wide (n := 9)).1 ?_
  refine callsIn_of_wp_marks Tryd.func56 rfl trivial ?_ rfl
  simp only [Tryd.ntmps56, List.size_toArray, List.length_cons, List.length_nil, Nat.reduceAdd, Nat.reduceSub, Array.replicate_succ, Array.replicate_zero, List.push_toArray, List.append_toArray, List.nil_append, List.cons_append]
  have hlen := Lib.hid hA.len
  gi_wp2_with (gi_at_call 67; refine (callsIn_wide.2 (pairs_any _ _ _ _)).mono ?_; rintro e w' ⟨rfl, rfl⟩)
  have bO := ((Boxed.new w 38 (.slice A n c)).alloc (.cells #[Value.bool false] 4)).alloc (.cells #[Value.slice A n c] 38)
  have bR := (Boxed.new (w.alloc (.cells #[Value.slice A n c] 38)) 4 (.bool false)).alloc (.cells #[Value.slice A n c] 38)
  have bP := Boxed.new ((w.alloc (.cells #[Value.slice A n c] 38)).alloc (.cells #[Value.bool false] 4)) 38 (.slice A n c)
  have hu0 : Upd (fun _ => False) w (((w.alloc (.cells #[Value.slice A n c] 38)).alloc (.cells #[Value.bool false] 4)).alloc (.cells #[Value.slice A n c] 38)) := (((Upd.refl _ w).alloc _).alloc _).alloc _
  have hz0 : (((w.alloc (.cells #[Value.slice A n c] 38)).alloc (.cells #[Value.bool false] 4)).alloc (.cells #[Value.slice A n c] 38)).heap.size = w.heap.size + 3 := by simp
  simp only [World.size_alloc] at bR bP
  obtain ⟨W0, hW0⟩ : ∃ W0, (((w.alloc (.cells #[Value.slice A n c] 38)).alloc (.cells #[Value.bool false] 4)).alloc (.cells #[Value.slice A n c] 38)) = W0 := ⟨_, rfl⟩
  rw [hW0] at bO bR bP hu0 hz0 ⊢
  clear hW0
  have hA0 : Ints W0 w.heap.size A n zs := hA.below (hu0.toBelow (fun _ e => e.elim) (Nat.le_refl _))
  refine range_out (n := 9) (gf := 83) (lb := #[.pointer (some ⟨w.heap.size + 1 + 1, 0, none⟩)]) rfl (enters_of Tryd.func83 (by kernel_rfl) rfl) (encs := encP) (L := pairsL zs)
    (fun k => k = w.heap.size + 1) (fun k e => by omega) (fun _ => rfl)
    (fun W1 l1 hu1 hl1 hl2 => pairs_iter_at hv bP (fun k e => by omega) (by omega) hA0 (by omega) (fun k e => by omega) hu1 hl1 hl2)
    (fun pre D W => pre.all (okQ zs) = true ∧ Boxed W (w.heap.size + 1) 4 (.bool false) ∧ Upd (fun k => k = w.heap.size + 1) W0 W)
    (fun co pre D W => co = .ret ∧ iso zs = false ∧ Boxed W (w.heap.size + 1) 4 (.bool false) ∧ Upd (fun k => k = w.heap.size + 1) W0 W)
    (fun s D X Y hs hu => ⟨hs.1, hu.boxed hs.2.1 (fun e => by omega), hs.2.2.trans' hu (fun i hi e => by omega)⟩)
    (fun co s D X Y hs hu => ⟨hs.1, hs.2.1, hu.boxed hs.2.2.1 (fun e => by omega), hs.2.2.2.trans' hu (fun i hi e => by omega)⟩)
    ⟨rfl, bR, Upd.refl _ _⟩ ?owes ?done ?stop
  case owes =>
    rintro l1 pre ⟨lo, hi⟩ D1 W hl1 hl2 hDl hD1 - hpre K hK
    gi_wp2
    refine hK _ _ (Upd.refl _ _) ?_
    rintro Wb hWb - ⟨hall, bR1, hU⟩
    clear hK
    obtain ⟨hlo, hhi, hbit⟩ := hv.pair (a := lo) (b := hi) (hpre.subset (by simp))
    rw [hlen.out] at hlo hhi
    have bO1 := hU.boxed bO (by omega)
    have hcO := bO1.cell
    obtain ⟨ab, off, rfl, hab, hc⟩ := hA0.at_ hlo
    have hcl := hU.cell (hc lo hlo) (fun e => by simp at e; omega)
    have hch := hU.cell (hc hi hhi) (fun e => by simp at e; omega)
    have zl := hv.bd lo (by rw [hlen.out]; exact hlo)
    have zh := hv.bd hi (by rw [hlen.out]; exact hhi)
    have hsb := hU.size
    have hcR := bR1.cell
    have hfR := bR1.frozen
    have hszb := hWb.size
    by_cases heq : lo = hi
    · subst heq
      have HF := Lib.hid (iso_not hpre (show okQ zs (lo, lo) = false by simp [okQ]))
      gi_wp2
      refine region_quiet_round (by kernel_rfl) (by kernel_rfl) (by kernel_rfl) ?_
      repeat (gi_big_quiet_step ((first
        | (gi_at_call 76; exact quietIn_add (within_any _ _ _ (by omega) (by omega) (by omega) (by omega)))
        | (gi_at_call 76; exact quietIn_left (within_any _ _ _ (by omega) (by omega) (by omega) (by omega))))))
      refine wpQuietIn_nil ?_
      intro _ hw'
      obtain ⟨nq, hw''⟩ := hw'
      subst hw''
      gi_wp2
      exact ⟨D1, ⟨rfl, HF.out, bR1.set _, (hU.drewN _).setCell (p := ⟨w.heap.size + 1, 0, none⟩) (.inr rfl) _⟩, ((Upd.refl _ _).drewN _).setCell (p := ⟨w.heap.size + 1, 0, none⟩) (.inr (.inl rfl)) _, fun k hk => .inl hk⟩
    · have hne : ((lo : Int) == (hi : Int)) = false := by simpa using fun h => heq (by omega)
      cases hw : (lessI (zs[hi]?.getD 0) (zs[lo]?.getD 0) == 0)
      · have HF := Lib.hid (iso_not hpre (show okQ zs (lo, hi) = false by simp [okQ, hw]))
        gi_wp2
        refine region_quiet_round (by kernel_rfl) (by kernel_rfl) (by kernel_rfl) ?_
        repeat (gi_big_quiet_step ((first
          | (gi_at_call 76; exact quietIn_add (within_any _ _ _ (by omega) (by omega) (by omega) (by omega)))
          | (gi_at_call 76; exact quietIn_left (within_any _ _ _ (by omega) (by omega) (by omega) (by omega))))))
        refine wpQuietIn_nil ?_
        intro _ hw'
        obtain ⟨nq, hw''⟩ := hw'
        subst hw''
        gi_wp2
        exact ⟨D1, ⟨rfl, HF.out, bR1.set _, (hU.drewN _).setCell (p := ⟨w.heap.size + 1, 0, none⟩) (.inr rfl) _⟩, ((Upd.refl _ _).drewN _).setCell (p := ⟨w.heap.size + 1, 0, none⟩) (.inr (.inl rfl)) _, fun k hk => .inl hk⟩
      · have HF := Lib.hid (show okQ zs (lo, hi) = true by simp [okQ, hw, heq])
        gi_wp2
        refine region_quiet_round (by kernel_rfl) (by kernel_rfl) (by kernel_rfl) ?_
        repeat (gi_big_quiet_step ((first
          | (gi_at_call 76; exact quietIn_add (within_any _ _ _ (by omega) (by omega) (by omega) (by omega)))
          | (gi_at_call 76; exact quietIn_left (within_any _ _ _ (by omega) (by omega) (by omega) (by omega))))))
        refine wpQuietIn_nil ?_
        intro _ hw'
        obtain ⟨nq, hw''⟩ := hw'
        subst hw''
        gi_wp2
        exact ⟨D1, ⟨by rw [List.all_append, hall]; simp [HF.out], bR1, hU.drewN _⟩, (Upd.refl _ _).drewN _, fun k hk => .inl hk⟩
  case done =>
    rintro d D1 W hd ⟨hall, bR1, hU⟩ hD1 hKd
    have hcR := bR1.cell
    have hfR := bR1.frozen
    have HF := Lib.hid (show iso zs = true from hall)
    gi_wp2
    have hus : Upd (fun k => k = w.heap.size + 1) W (W.setCell ⟨w.heap.size + 1, 0, none⟩ (.bool true)) := (Upd.refl (fun k => k = w.heap.size + 1) W).setCell (p := ⟨w.heap.size + 1, 0, none⟩) (.inr rfl) _
    refine leaves_marks [d] _ ⟨by simp, fun b hb => ?_⟩ (fun W' hu' => ?_)
    · rw [List.mem_singleton.1 hb]
      exact (hus.block d (Array.getElem?_eq_some_iff.1 hKd).1 (by omega)).trans hKd
    · have hc' := (hu'.boxed (bR1.set (.bool true)) (by simp; omega)).cell
      exact ⟨.bool true, by simp [results, Tryd.f56, go_sem, hc'], ret_bool HF.out.symm,
        (((hu0.mono fun _ _ e => e.elim).trans' (hU.trans hus) (fun i hi e => by omega)).trans' hu' (fun i hi e => by simp at e; omega)).toBelow (R := fun _ => False) (fun _ e => e.elim) (Nat.le_refl _)⟩
  case stop =>
    rintro d D1 co pre W hd hpre ⟨rfl, hF, bR1, hU⟩ hD1 hKd
    have HF := Lib.hid hF
    clear hF
    gi_wp2
    refine leaves_marks [d] _ ⟨by simp, fun b hb => ?_⟩ (fun W' hu' => ?_)
    · rw [List.mem_singleton.1 hb]
      exact hKd
    · have hc' := (hu'.boxed bR1 (by simp; omega)).cell
      exact ⟨.bool false, by simp [results, Tryd.f56, go_sem, hc'], ret_bool HF.out.symm,
        (((hu0.mono fun _ _ e => e.elim).trans' hU (fun i hi e => by omega)).trans' hu' (fun i hi e => by simp at e; omega)).toBelow (R := fun _ => False) (fun _ e => e.elim) (Nat.le_refl _)⟩
end Go.Proofs.YtmlihbcffndnbabDoor

/- 'readOrder': what a list tells as an order. -/
namespace Go.Proofs.YtmlihbcffndnbabDoor
open Go.RowKit

theorem infoItems : (Tryd.prog.info? 57).map (fun i => (i.zero, i.size, i.bytes)) = some (some (.int .i64 0), 1, 8) := by kernel_rfl
theorem infoInt : (Tryd.prog.info? 3).map (fun i => (i.zero, i.size, i.bytes)) = some (some (.int .i64 0), 1, 8) := by kernel_rfl

/-- What has been copied when k rounds are over. -/
def copied (zs : List Int) (n k : Nat) : List Int := zs.take k ++ List.replicate (n - k) 0
theorem copied_zero (zs : List Int) (n : Nat) : copied zs n 0 = List.replicate n 0 := by simp [copied]
theorem copied_full {zs : List Int} {n : Nat} (h : zs.length = n) : copied zs n n = zs := by subst h; simp [copied]
theorem copied_len {zs : List Int} {n k : Nat} (h : zs.length = n) (hk : k ≤ n) : (copied zs n k).length = n := by simp [copied]; omega
theorem copied_succ {zs : List Int} {n k : Nat} (h : zs.length = n) (hk : k < n) : (copied zs n k).set k (zs[k]?.getD 0) = copied zs n (k + 1) := by
  have hl : (zs.take k).length = k := by simp; omega
  rw [copied, List.set_append_right _ _ (by omega), hl, Nat.sub_self, copied, List.take_succ_eq_append_getElem (by omega), show n - k = (n - (k + 1)) + 1 from by omega, List.replicate_succ, List.set_cons_zero,
    List.getElem?_eq_getElem (by omega : k < zs.length), Option.getD_some, List.append_assoc, List.singleton_append]

/-- What 'readOrder' hands back. -/
def Reads (zs : List Int) (n : Nat) (w : World) (e : Ending) (w' : World) : Prop :=
  Below w.heap.size w w' ∧ ((vo zs = true ∧ ∃ b, e = .returned (.tuple #[.slice (some ⟨b, 0, none⟩) n n, .bool true]) ∧ w.heap.size ≤ b ∧ Arr w' b 57 zs) ∨
    (vo zs = false ∧ e = .returned (.tuple #[.slice none 0 0, .bool false])))

set_option maxHeartbeats 1000000 in
theorem readOrder_any (A : Option Addr) (n c : Nat) (zs : List Int) (w : World) (hA : Ints w w.heap.size A n zs) (hbig : n ≤ 1152921504606846976) :
    Calls Tryd.prog 34 #[.slice A n c] w (Reads zs n w) := by
  have hlen := Lib.hid hA.len
  by_cases h6 : n ≤ 6
  · have hmk := run_make_row' (P := Tryd.prog) 38 57 (.int .i64 0) 8 Tryd.underlying38 infoItems rfl .i64 .i64 n (by omega) (by omega)
    go_enter Tryd.func34, Tryd.ntmps34
    go_wp2
    have hA1 := Arr.new w 57 n
    have hB1 : Below w.heap.size w (w.alloc (.cells (madeCells #[.int .i64 0] n) 57)) := (Below.refl _ _).alloc (Nat.le_refl _) _
    obtain ⟨W1, hW1⟩ : ∃ W1, w.alloc (.cells (madeCells #[.int .i64 0] n) 57) = W1 := ⟨_, rfl⟩
    rw [hW1] at hA1 hB1 ⊢
    clear hW1 hmk
    go_loopw [16] (fun i wr => ∃ k : Nat, k ≤ n ∧ i = .int .i64 k ∧ (∀ a, a < k → inB (zs[a]?.getD 0) 0 (powI n - 1) = true) ∧ Arr wr w.heap.size 57 (copied zs n k) ∧ Below w.heap.size w wr) (fun i _ => n - (intOf i).toNat)
    case atStart => exact ⟨0, by omega, rfl, fun a ha => by omega, by rw [copied_zero]; exact hA1, hB1⟩
    case round =>
      obtain ⟨k, hk, rfl, hok, hAr, hB⟩ := hrel
      have Hok := Lib.hid hok
      have Hcl := Lib.hid (copied_len hlen.out hk)
      clear hok
      by_cases hlt : k < n
      · obtain ⟨b, off, rfl, hbw, hc⟩ := (hA.below hB).at_ hlt
        have hck := hc k hlt
        have hcs := hAr.cell (k := k) (by rw [Hcl.out]; exact hlt)
        have hfs := hAr.frozen k
        clear hc
        cases hin : inB (zs[k]?.getD 0) 0 (powI n - 1)
        · have Hf := Lib.hid (show vo zs = false from vo_false (VoP_not_A (k := k) (by rw [hlen.out]; exact hlt) (by rw [hlen.out]; simp [okA, hin])))
          go_wp2_with (go_at_call 50; refine (isSetOf_any _ _ _ (by omega) (by omega)).mono ?_; rintro e w' ⟨rfl, rfl⟩)
          go_ret2
          exact ⟨hB, .inr ⟨Hf.out, rfl⟩⟩
        · have Hin := Lib.hid hin
          have Hcp := Lib.hid (copied_succ hlen.out hlt)
          go_wp2_with (go_at_call 50; refine (isSetOf_any _ _ _ (by omega) (by omega)).mono ?_; rintro e w' ⟨rfl, rfl⟩)
          go_roundw
          case rel => exact ⟨k + 1, by omega, by go_num, all_snoc Hok.out Hin.out, by rw [← Hcp.out]; exact hAr.set _ _, hB.setCell (p := ⟨w.heap.size, k, none⟩) (Nat.le_refl _) _⟩
          case measure => simp [intOf]; omega
      · obtain rfl : k = n := by omega
        have Hfull := Lib.hid (copied_full hlen.out)
        have hAf : Arr wr w.heap.size 57 zs := by rw [← Hfull.out]; exact hAr
        have hSets : Sets zs := ⟨by rw [hlen.out]; exact h6, fun a ha => by
          have := Hok.out a (by rw [← hlen.out]; exact ha)
          rw [hlen.out]
          simp [inB] at this
          omega⟩
        have hlt' := hAf.lt
        have hsz := hB.size
        have HI := Lib.hid (iso_vo hSets)
        have hSets' := Lib.hid hSets
        clear hSets
        cases hv : vo zs
        · have HI2 := Lib.hid (HI.out.trans hv)
          have hiso : iso zs = false := HI2.out
          go_wp2_with (go_at_call 56; refine (isOrder_any _ _ _ zs hSets'.out _ (hAf.ints' (by omega) hlen.out)).mono ?_; rintro e w1 ⟨rfl, hb1⟩)
          go_ret2
          exact ⟨hB.trans (hb1.mono hsz), .inr ⟨hv, rfl⟩⟩
        · have HI2 := Lib.hid (HI.out.trans hv)
          have hiso : iso zs = true := HI2.out
          go_wp2_with (go_at_call 56; refine (isOrder_any _ _ _ zs hSets'.out _ (hAf.ints' (by omega) hlen.out)).mono ?_; rintro e w1 ⟨rfl, hb1⟩)
          go_ret2
          exact ⟨hB.trans (hb1.mono hsz), .inl ⟨hv, w.heap.size, rfl, Nat.le_refl _, hAf.below hb1 hlt'⟩⟩
  · have Hf := Lib.hid (show vo zs = false from vo_false fun hv => by have := hv.1; rw [hlen.out] at this; omega)
    go_enter Tryd.func34, Tryd.ntmps34
    go_wp2
    go_ret2
    exact ⟨Below.refl _ _, .inr ⟨Hf.out, rfl⟩⟩
end Go.Proofs.YtmlihbcffndnbabDoor

/- What the exact laws call: copies of lists, equality, marks. -/
namespace Go.Proofs.YtmlihbcffndnbabDoor
open Go.RowKit

set_option maxHeartbeats 1000000 in
/-- A copy: a new row of the same numbers. -/
theorem toIntS_any (A : Option Addr) (n c : Nat) (zs : List Int) (w : World) (hA : Ints w w.heap.size A n zs) (hbig : n ≤ 1048576) :
    Calls Tryd.prog 12 #[.slice A n c] w fun e w' => e = .returned (.slice (some ⟨w.heap.size, 0, none⟩) n n) ∧ Arr w' w.heap.size 3 zs ∧ Below w.heap.size w w' := by
  have hlen := Lib.hid hA.len
  have hmk := run_make_row' (P := Tryd.prog) 22 3 (.int .i64 0) 8 Tryd.underlying22 infoInt rfl .i64 .i64 n (by omega) (by omega)
  go_enter Tryd.func12, Tryd.ntmps12
  go_wp2
  have hA1 := Arr.new w 3 n
  have hB1 : Below w.heap.size w (w.alloc (.cells (madeCells #[.int .i64 0] n) 3)) := (Below.refl _ _).alloc (Nat.le_refl _) _
  obtain ⟨W1, hW1⟩ : ∃ W1, w.alloc (.cells (madeCells #[.int .i64 0] n) 3) = W1 := ⟨_, rfl⟩
  rw [hW1] at hA1 hB1 ⊢
  clear hW1 hmk
  go_loopw [4] (fun i wr => ∃ k : Nat, k ≤ n ∧ i = .int .i64 k ∧ Arr wr w.heap.size 3 (copied zs n k) ∧ Below w.heap.size w wr) (fun i _ => n - (intOf i).toNat)
  case atStart => exact ⟨0, by omega, rfl, by rw [copied_zero]; exact hA1, hB1⟩
  case round =>
    obtain ⟨k, hk, rfl, hAr, hB⟩ := hrel
    have Hcl := Lib.hid (copied_len hlen.out hk)
    by_cases hlt : k < n
    · obtain ⟨b, off, rfl, hbw, hc⟩ := (hA.below hB).at_ hlt
      have hck := hc k hlt
      have hcs := hAr.cell (k := k) (by rw [Hcl.out]; exact hlt)
      have hfs := hAr.frozen k
      clear hc
      have Hcp := Lib.hid (copied_succ hlen.out hlt)
      go_wp2
      go_roundw
      case rel => exact ⟨k + 1, by omega, by go_num, by rw [← Hcp.out]; exact hAr.set _ _, hB.setCell (p := ⟨w.heap.size, k, none⟩) (Nat.le_refl _) _⟩
      case measure => simp [intOf]; omega
    · obtain rfl : k = n := by omega
      have Hfull := Lib.hid (copied_full hlen.out)
      go_wp2
      go_ret
      exact ⟨rfl, by rw [← Hfull.out]; exact hAr, hB⟩

set_option maxHeartbeats 1000000 in
/-- Whether two lists are equal. -/
theorem eqIntS_any (A A' : Option Addr) (n c n' c' B B' : Nat) (xs ys : List Int) (w : World) (hA : Ints w B A n xs) (hA' : Ints w B' A' n' ys) (hbig : n ≤ 1152921504606846976) (hbig' : n' ≤ 1152921504606846976) :
    Calls Tryd.prog 14 #[.slice A n c, .slice A' n' c'] w fun e w' => e = .returned (.bool (decide (xs = ys))) ∧ ∃ m, w' = w.drewN m := by
  have hlen := Lib.hid hA.len
  have hlen' := Lib.hid hA'.len
  by_cases hnn : n = n'
  · subst hnn
    go_enter Tryd.func14, Tryd.ntmps14
    go_wp2
    go_loopw [5] (fun i wr => ∃ k m : Nat, k ≤ n ∧ i = .int .i64 k ∧ (∀ a, a < k → xs[a]?.getD 0 = ys[a]?.getD 0) ∧ wr = w.drewN m) (fun i _ => n - (intOf i).toNat)
    case atStart => exact ⟨0, 0, by omega, rfl, fun a ha => by omega, rfl⟩
    case round =>
      obtain ⟨k, m, hk, rfl, hok, rfl⟩ := hrel
      have Hok := Lib.hid hok
      clear hok
      by_cases hlt : k < n
      · obtain ⟨b, off, rfl, _, hc⟩ := hA.at_ hlt
        obtain ⟨b', off', rfl, _, hc'⟩ := hA'.at_ hlt
        have hck := hc k hlt
        have hck' := hc' k hlt
        have Hc := Lib.hid hc
        have Hc' := Lib.hid hc'
        clear hc hc'
        cases hne : (xs[k]?.getD 0 != ys[k]?.getD 0)
        · have Heq := Lib.hid (show xs[k]?.getD 0 = ys[k]?.getD 0 by simpa [bne] using hne)
          go_wp2
          go_quiet (fail)
          go_wp2
          go_roundw
          case rel => exact ⟨k + 1, _, by omega, by go_num, all_snoc Hok.out Heq.out, rfl⟩
          case measure => simp [intOf]; omega
        · have Hne := Lib.hid (show decide (xs = ys) = false by
            simp only [decide_eq_false_iff_not]; rintro rfl; simp at hne)
          go_wp2
          go_quiet (fail)
          go_wp2
          go_ret
          exact ⟨ret_bool Hne.out.symm, by first | exact ⟨_, rfl⟩ | exact ⟨_, World.drewN_drewN ..⟩⟩
      · obtain rfl : k = n := by omega
        have Heq := Lib.hid (show decide (xs = ys) = true by
          simp only [decide_eq_true_eq]
          refine List.ext_getElem? fun i => ?_
          by_cases hi : i < xs.length
          · have h1 := Hok.out i (by rw [← hlen.out]; exact hi)
            have hi' : i < ys.length := by rw [hlen'.out, ← hlen.out]; exact hi
            rw [List.getElem?_eq_getElem hi, List.getElem?_eq_getElem hi'] at h1 ⊢
            simpa using h1
          · rw [List.getElem?_eq_none (by omega), List.getElem?_eq_none (by rw [hlen'.out, ← hlen.out]; omega)])
        go_wp2
        go_ret
        exact ⟨ret_bool Heq.out.symm, _, rfl⟩
  · have Hne := Lib.hid (show decide (xs = ys) = false by
      simp only [decide_eq_false_iff_not]; rintro rfl; exact hnn (hlen.out.symm.trans hlen'.out))
    have hnb : ((n : Int) != (n' : Int)) = true := by simp; omega
    go_enter Tryd.func14, Tryd.ntmps14
    go_wp2
    go_ret
    exact ⟨ret_bool Hne.out.symm, 0, rfl⟩

/-- The numbers from k on. -/
def counted (k : Int) (n : Nat) : List Int := (List.range n).map fun (i : Nat) => k + (i : Int)
def markedTo (zs : List Int) (k : Int) (i : Nat) : List Int := counted k i ++ zs.drop i
theorem markedTo_len {zs : List Int} {k : Int} {i : Nat} (h : i ≤ zs.length) : (markedTo zs k i).length = zs.length := by simp [markedTo, counted]; omega
theorem markedTo_succ {zs : List Int} {k : Int} {i : Nat} (h : i < zs.length) : (markedTo zs k i).set i (k + (i : Int)) = markedTo zs k (i + 1) := by
  have hl : (counted k i).length = i := by simp [counted]
  rw [markedTo, List.set_append_right _ _ (by omega), hl, Nat.sub_self, List.drop_eq_getElem_cons h, List.set_cons_zero, markedTo, counted, counted, List.range_succ, List.map_append, List.append_assoc]
  rfl

/-- A call that only reads leaves what lay. -/
theorem below_quiet {P : Program} {f : FuncId} {args : Array Value} {w : World} {v : Value} (h : Calls P f args w fun e w' => e = .returned v ∧ ∃ m, w' = w.drewN m) :
    Calls P f args w fun e w' => e = .returned v ∧ Below w.heap.size w w' :=
  h.mono fun e w' ⟨he, m, hm⟩ => ⟨he, by subst hm; exact ⟨rfl, rfl, rfl, Nat.le_refl _, fun _ _ => rfl⟩⟩
theorem Ints.to {w w' : World} {B n : Nat} {A : Option Addr} {zs : List Int} (h : Ints w B A n zs) {B' : Nat} (hb : Below B' w w') (hB : B ≤ B') {C : Nat} (hC : B ≤ C) : Ints w' C A n zs := (h.below (hb.mono hB)).more hC

/-- A row of a call's own, in a block from lo up to less than hi (empty ones may lie anywhere). -/
def Row (w : World) (lo hi : Nat) (A : Option Addr) (n : Nat) (xs : List Int) : Prop :=
  xs.length = n ∧ (0 < n → ∃ b ys, A = some ⟨b, 0, none⟩ ∧ lo ≤ b ∧ b < hi ∧ Arr w b 3 (xs ++ ys))
section
variable {w w' : World} {lo hi n : Nat} {A : Option Addr} {xs : List Int} {R : Nat → Prop}
theorem Row.len (h : Row w lo hi A n xs) : xs.length = n := h.1
theorem Row.nil (w : World) (lo hi : Nat) (A : Option Addr) : Row w lo hi A 0 [] := ⟨rfl, fun h => absurd h (by omega)⟩
theorem Row.of {b : Nat} (h : Arr w b 3 xs) (hn : xs.length = n) (hlo : lo ≤ b) (hhi : b < hi) : Row w lo hi (some ⟨b, 0, none⟩) n xs := ⟨hn, fun _ => ⟨b, [], rfl, hlo, hhi, by rw [List.append_nil]; exact h⟩⟩
theorem Row.cut {b m : Nat} {ys : List Int} (h : Arr w b 3 ys) (hm : m ≤ ys.length) (hlo : lo ≤ b) (hhi : b < hi) : Row w lo hi (some ⟨b, 0, none⟩) m (ys.take m) :=
  ⟨by simp; omega, fun _ => ⟨b, ys.drop m, rfl, hlo, hhi, by rw [List.take_append_drop]; exact h⟩⟩
theorem Row.ints (h : Row w lo hi A n xs) {B : Nat} (hB : hi ≤ B) : Ints w B A n xs :=
  ⟨h.1, fun hn => by
    obtain ⟨b, ys, e, _, hb, hA⟩ := h.2 hn
    exact ⟨b, 0, e, by omega, fun j hj => by
      have hl := h.1
      rw [Nat.zero_add, hA.cell (by rw [List.length_append]; omega), List.getElem?_append_left (by omega)]⟩⟩
theorem Row.upd (h : Row w lo hi A n xs) (hu : Upd R w w') (hr : ∀ j, R j → j < lo ∨ hi ≤ j) : Row w' lo hi A n xs :=
  ⟨h.1, fun hn => by
    obtain ⟨b, ys, e, hl, hb, hA⟩ := h.2 hn
    exact ⟨b, ys, e, hl, hb, hA.upd hu (fun hr' => by have := hr b hr'; omega)⟩⟩
theorem Row.below {B : Nat} (h : Row w lo hi A n xs) (hu : Below B w w') (hB : hi ≤ B) : Row w' lo hi A n xs := h.upd (Below.toUpd hu) (fun j hj => by omega)
theorem Row.more {lo' hi' : Nat} (h : Row w lo hi A n xs) (h1 : lo' ≤ lo) (h2 : hi ≤ hi') : Row w lo' hi' A n xs :=
  ⟨h.1, fun hn => by
    obtain ⟨b, ys, e, hl, hb, hA⟩ := h.2 hn
    exact ⟨b, ys, e, by omega, by omega, hA⟩⟩
end
/-- What a function that hands back a new row of numbers does. -/
def GivesRow (w : World) (xs : List Int) (e : Ending) (w' : World) : Prop := ∃ A n c, e = .returned (.slice A n c) ∧ Row w' w.heap.size w'.heap.size A n xs ∧ Below w.heap.size w w'
theorem below_drewN {B : Nat} {a w : World} (h : Below B a w) (n : Nat) : Below B a (w.drewN n) := ⟨h.os, h.tape, h.output, h.size, h.block⟩

def IntBlk (w : World) (j : Nat) : Prop := ∃ cs, w.heap[j]? = some (.cells cs 3 (0, 0))
end Go.Proofs.YtmlihbcffndnbabDoor

/- The model's test of orders. -/
namespace Go.Proofs.YtmlihbcffndnbabDoor
open Go.RowKit

theorem quiet_add_left {P : Program} {f : FuncId} {args : Array Value} {w : World} {a n : Nat} {v : Value}
    (h : Calls P f args (w.drewN (a + n)) fun e w' => e = .returned v ∧ w.drewN (a + n) = w') :
    Calls P f args (w.drewN (a + n)) fun e w'' => e = .returned v ∧ ∃ m, w'' = w.drewN (a + m) :=
  h.mono fun _ _ ⟨he, hm⟩ => ⟨he, n, hm.symm⟩

set_option maxHeartbeats 1000000 in
theorem validOrder_any (A : Option Addr) (n c B : Nat) (zs : List Int) (w : World) (h : Ints w B A n zs) (hbig : n ≤ 1152921504606846976) :
    Calls Tryd.prog 31 #[.slice A n c] w fun e w' => e = .returned (.bool (vo zs)) ∧ ∃ m, w' = w.drewN m := by
  have hlen := Lib.hid h.len
  by_cases h6 : n ≤ 6
  · go_enter Tryd.func31, Tryd.ntmps31
    go_wp2
    go_loopw [4] (fun i wr => ∃ k m : Nat, k ≤ n ∧ i = .int .i64 k ∧ (∀ a, a < k → okA n zs a = true) ∧ wr = w.drewN m) (fun i _ => n - (intOf i).toNat)
    case atStart => exact ⟨0, 0, by omega, rfl, fun a ha => by omega, rfl⟩
    case round =>
      obtain ⟨k, m, hk, rfl, hok, rfl⟩ := hrel
      have Hok := Lib.hid hok
      clear hok
      by_cases hlt : k < n
      · obtain ⟨b, off, rfl, _, hc⟩ := h.at_ hlt
        have hck := hc k hlt
        have Hc := Lib.hid hc
        clear hc
        have hn6 : (n : Int) ≤ 6 := by omega
        have hpw : powI n ≤ 64 := powI_le6 hn6
        have hpp := powI_pos n
        cases hin : inB (zs[k]?.getD 0) 0 (powI n - 1)
        · have Hf := Lib.hid (show vo zs = false from vo_false (VoP_not_A (k := k) (by rw [hlen.out]; exact hlt) (by rw [hlen.out]; simp [okA, hin])))
          go_wp2
          go_quiet ((first
            | (go_at_call 53; exact quiet_add_left (power_any _ _ (by omega) (by omega)))
            | (go_at_call 32; exact quiet_add_left (inRange_any _ _ _ _))))
          go_wp2
          go_ret
          exact ⟨ret_bool Hf.out.symm, by first | exact ⟨_, rfl⟩ | exact ⟨_, World.drewN_drewN ..⟩⟩
        · have hz : 0 ≤ zs[k]?.getD 0 ∧ zs[k]?.getD 0 < 64 := by unfold inB at hin; simp at hin; omega
          cases hb : bitB (zs[k]?.getD 0) k
          · have Hk := Lib.hid (okA_yes (n := n) hin hb)
            have hbi : (bitI (zs[k]?.getD 0) k == 1) = false := by rw [bitI_one, hb]
            go_wp2
            go_quiet ((first
              | (go_at_call 53; exact quiet_add_left (power_any _ _ (by omega) (by omega)))
              | (go_at_call 32; exact quiet_add_left (inRange_any _ _ _ _))
              | (go_at_call 54; exact quiet_add_left (bit_any _ _ _ (by omega) (by omega) (by omega) (by omega)))))
            go_wp2
            go_roundw
            case rel => exact ⟨k + 1, _, by omega, by go_num, all_snoc Hok.out Hk.out, rfl⟩
            case measure => simp [intOf]; omega
          · have Hf := Lib.hid (show vo zs = false from vo_false (VoP_not_A (k := k) (by rw [hlen.out]; exact hlt) (by rw [hlen.out]; simp [okA, hb])))
            have hbi : (bitI (zs[k]?.getD 0) k == 1) = true := by rw [bitI_one, hb]
            go_wp2
            go_quiet ((first
              | (go_at_call 53; exact quiet_add_left (power_any _ _ (by omega) (by omega)))
              | (go_at_call 32; exact quiet_add_left (inRange_any _ _ _ _))
              | (go_at_call 54; exact quiet_add_left (bit_any _ _ _ (by omega) (by omega) (by omega) (by omega)))))
            go_wp2
            go_ret
            exact ⟨ret_bool Hf.out.symm, by first | exact ⟨_, rfl⟩ | exact ⟨_, World.drewN_drewN ..⟩⟩
      · have hkn : k = n := by omega
        subst hkn
        go_wp2
        go_loopw [5] (fun i wr => ∃ a q : Nat, a ≤ k ∧ i = .int .i64 a ∧ (∀ x, x < a → ∀ y, y < k → okP zs x y = true) ∧ wr = w.drewN q) (fun i _ => k - (intOf i).toNat)
        case atStart => exact ⟨0, m, by omega, rfl, fun a ha => by omega, rfl⟩
        case round =>
          obtain ⟨a, q, ha, rfl, hpa, rfl⟩ := hrel
          have Hpa := Lib.hid hpa
          clear hpa
          by_cases hak : a < k
          · have hn6 : (k : Int) ≤ 6 := by omega
            have hpw : powI k ≤ 64 := powI_le6 hn6
            have hpp := powI_pos k
            go_wp2
            go_loopw [6] (fun i wr => ∃ b q : Nat, b ≤ k ∧ i = .int .i64 b ∧ (∀ y, y < b → okP zs a y = true) ∧ wr = w.drewN q) (fun i _ => k - (intOf i).toNat)
            case atStart => exact ⟨0, q, by omega, rfl, fun a ha => by omega, rfl⟩
            case round =>
              obtain ⟨b, q, hb, rfl, hpb, rfl⟩ := hrel
              have Hpb := Lib.hid hpb
              clear hpb
              by_cases hbk : b < k
              · obtain ⟨bl, off, rfl, _, hc⟩ := h.at_ hak
                have hca := hc a hak
                have hcb := hc b hbk
                have Hc := Lib.hid hc
                clear hc
                have hza := okA_bd hn6 (Hok.out a hak)
                have hzb := okA_bd hn6 (Hok.out b hbk)
                have hl := lessI_bd (zs[b]?.getD 0) (zs[a]?.getD 0)
                have hbl : bits .andNot .i64 (zs[b]?.getD 0) (zs[a]?.getD 0) = lessI (zs[b]?.getD 0) (zs[a]?.getD 0) := bits_less (by omega) (by omega) (by omega) (by omega)
                cases h1 : bitB (zs[a]?.getD 0) b
                · have hbi : (bitI (zs[a]?.getD 0) b == 1) = false := by rw [bitI_one, h1]
                  have Hk := Lib.hid (show okP zs a b = true by simp [okP, h1])
                  go_wp2
                  go_quiet ((first
              | (go_at_call 53; exact quiet_add_left (power_any _ _ (by omega) (by omega)))
              | (go_at_call 32; exact quiet_add_left (inRange_any _ _ _ _))
              | (go_at_call 54; exact quiet_add_left (bit_any _ _ _ (by omega) (by omega) (by omega) (by omega)))))
                  go_wp2
                  go_roundw
                  case rel => exact ⟨b + 1, _, by omega, by go_num, all_snoc Hpb.out Hk.out, rfl⟩
                  case measure => simp [intOf]; omega
                · have hbi : (bitI (zs[a]?.getD 0) b == 1) = true := by rw [bitI_one, h1]
                  cases h2 : (lessI (zs[b]?.getD 0) (zs[a]?.getD 0) == 0)
                  · have Hf := Lib.hid (show vo zs = false from vo_false (VoP_not_P (k := a) (j := b) (by rw [hlen.out]; exact hak) (by rw [hlen.out]; exact hbk) (by simp [okP, h1, h2])))
                    have h2' : (lessI (zs[b]?.getD 0) (zs[a]?.getD 0) != 0) = true := by simpa [bne] using h2
                    go_wp2
                    go_quiet ((first
              | (go_at_call 53; exact quiet_add_left (power_any _ _ (by omega) (by omega)))
              | (go_at_call 32; exact quiet_add_left (inRange_any _ _ _ _))
              | (go_at_call 54; exact quiet_add_left (bit_any _ _ _ (by omega) (by omega) (by omega) (by omega)))))
                    go_wp2
                    go_ret
                    exact ⟨ret_bool Hf.out.symm, by first | exact ⟨_, rfl⟩ | exact ⟨_, World.drewN_drewN ..⟩⟩
                  · have h2' : (lessI (zs[b]?.getD 0) (zs[a]?.getD 0) != 0) = false := by simpa [bne] using h2
                    cases h3 : bitB (zs[b]?.getD 0) a
                    · have hbj : (bitI (zs[b]?.getD 0) a == 1) = false := by rw [bitI_one, h3]
                      have Hk := Lib.hid (show okP zs a b = true by simp [okP, h1, h2, h3])
                      go_wp2
                      go_quiet ((first
              | (go_at_call 53; exact quiet_add_left (power_any _ _ (by omega) (by omega)))
              | (go_at_call 32; exact quiet_add_left (inRange_any _ _ _ _))
              | (go_at_call 54; exact quiet_add_left (bit_any _ _ _ (by omega) (by omega) (by omega) (by omega)))))
                      go_wp2
                      go_roundw
                      case rel => exact ⟨b + 1, _, by omega, by go_num, all_snoc Hpb.out Hk.out, rfl⟩
                      case measure => simp [intOf]; omega
                    · have hbj : (bitI (zs[b]?.getD 0) a == 1) = true := by rw [bitI_one, h3]
                      have Hf := Lib.hid (show vo zs = false from vo_false (VoP_not_P (k := a) (j := b) (by rw [hlen.out]; exact hak) (by rw [hlen.out]; exact hbk) (by simp [okP, h1, h2, h3])))
                      go_wp2
                      go_quiet ((first
              | (go_at_call 53; exact quiet_add_left (power_any _ _ (by omega) (by omega)))
              | (go_at_call 32; exact quiet_add_left (inRange_any _ _ _ _))
              | (go_at_call 54; exact quiet_add_left (bit_any _ _ _ (by omega) (by omega) (by omega) (by omega)))))
                      go_wp2
                      go_ret
                      exact ⟨ret_bool Hf.out.symm, by first | exact ⟨_, rfl⟩ | exact ⟨_, World.drewN_drewN ..⟩⟩
              · have hbk' : b = k := by omega
                subst hbk'
                go_wp2
                go_roundw
                case rel => exact ⟨a + 1, _, by omega, by go_num, all_snoc Hpa.out Hpb.out, rfl⟩
                case measure => simp [intOf]; omega
          · have hkn : a = k := by omega
            subst hkn
            have Hf := Lib.hid (show vo zs = true from vo_true ⟨by rw [hlen.out]; exact h6, by rw [hlen.out]; exact Hok.out, by rw [hlen.out]; exact Hpa.out⟩)
            go_wp2
            go_ret
            exact ⟨ret_bool Hf.out.symm, by first | exact ⟨_, rfl⟩ | exact ⟨_, World.drewN_drewN ..⟩⟩
  · have Hf := Lib.hid (show vo zs = false from vo_false fun hv => by have := hv.1; rw [hlen.out] at this; omega)
    go_enter Tryd.func31, Tryd.ntmps31
    go_wp2
    go_ret
    exact ⟨ret_bool Hf.out.symm, 0, rfl⟩
end Go.Proofs.YtmlihbcffndnbabDoor

/- CountPairs: how many items sets have, in the model and in the program. -/
namespace Go.Proofs.YtmlihbcffndnbabDoor
open Go.RowKit

def popN : Nat → Int → Int
  | 0, _ => 0
  | k + 1, s => s % 2 + popN k (s / 2)
/-- How many items a set of at most six has. -/
def popI (s : Int) : Int := popN 6 s
def onesI (s : Int) : Int :=
  let a := IntKind.u64.wrap (bits .and .u64 (s / 2) 6148914691236517205 + bits .and .u64 s 6148914691236517205)
  let b := IntKind.u64.wrap (bits .and .u64 (a / 4) 3689348814741910323 + bits .and .u64 a 3689348814741910323)
  let c := bits .and .u64 (IntKind.u64.wrap (b / 16 + b)) 1085102592571150095
  let d := IntKind.u64.wrap (c + c / 256)
  let e := IntKind.u64.wrap (d + d / 65536)
  let f := IntKind.u64.wrap (e + e / 4294967296)
  bits .and .i64 (wrap64 f) 127
theorem onesI_fin : ∀ k : Fin 64, onesI (k.val : Int) = popI (k.val : Int) := by decide +kernel
theorem onesI_eq {s : Int} (h0 : 0 ≤ s) (h1 : s < 64) : onesI s = popI s := by
  obtain ⟨k, rfl⟩ := Int.eq_ofNat_of_zero_le h0
  exact onesI_fin ⟨k, by omega⟩
theorem popI_fin : ∀ k : Fin 64, 0 ≤ popI (k.val : Int) ∧ popI (k.val : Int) ≤ 6 := by decide +kernel
theorem popI_bd {s : Int} (h0 : 0 ≤ s) (h1 : s < 64) : 0 ≤ popI s ∧ popI s ≤ 6 := by
  obtain ⟨k, rfl⟩ := Int.eq_ofNat_of_zero_le h0
  exact popI_fin ⟨k, by omega⟩
theorem popN_zero (k : Nat) : popN k 0 = 0 := by induction k <;> simp_all [popN]

set_option maxHeartbeats 400000 in
theorem ones64_any (s : Int) (w : World) (h0 : 0 ≤ s) (h1 : s < 64) :
    Calls Tryd.prog 98 #[.int .u64 s] w fun e w' => e = .returned (.int .i64 (popI s)) ∧ w = w' := by
  have He := Lib.hid (onesI_eq h0 h1)
  go_enter Tryd.func98, Tryd.ntmps98
  go_wp2
  go_ret
  refine ⟨ret_int ?_, rfl⟩
  rw [← He.out]
  unfold onesI
  with_reducible rfl

theorem ones_any (s : Int) (w : World) (h0 : 0 ≤ s) (h1 : s < 64) :
    Calls Tryd.prog 89 #[.int .u64 s] w fun e w' => e = .returned (.int .i64 (popI s)) ∧ w = w' := by
  go_enter Tryd.func89, Tryd.ntmps89
  go_wp2_with (go_at_call 98; refine (ones64_any _ _ h0 h1).mono ?_; rintro e w' ⟨rfl, rfl⟩)
  go_ret
  exact ⟨rfl, rfl⟩

theorem size_any (s : Int) (w : World) (h0 : 0 ≤ s) (h1 : s < 64) :
    Calls Tryd.prog 72 #[.int .i64 s] w fun e w' => e = .returned (.int .i64 (popI s)) ∧ w = w' := by
  have hw : IntKind.u64.wrap s = s := by rw [IntKind.wrap_u64]; omega
  go_enter Tryd.func72, Tryd.ntmps72
  go_wp2_with (go_at_call 89; refine (ones_any _ _ h0 h1).mono ?_; rintro e w' ⟨rfl, rfl⟩)
  go_ret
  exact ⟨rfl, rfl⟩

/-- How many items the first k sets have together. -/
def popTo (zs : List Int) : Nat → Int
  | 0 => 0
  | k + 1 => popTo zs k + popI (zs[k]?.getD 0)
theorem popTo_bd {zs : List Int} (h : Sets zs) : ∀ k : Nat, k ≤ zs.length → 0 ≤ popTo zs k ∧ popTo zs k ≤ 6 * k
  | 0, _ => by simp [popTo]
  | k + 1, hk => by
    have h1 := popTo_bd h k (by omega)
    have h2 := h.bd k (by omega)
    have h3 := popI_bd h2.1 h2.2
    unfold popTo
    omega
def countR (zs : List Int) : Int := if vo zs then popTo zs zs.length else -1

end Go.Proofs.YtmlihbcffndnbabDoor

/- DualOf: the model's and the program's. -/
namespace Go.Proofs.YtmlihbcffndnbabDoor
open Go.RowKit Go.Shelf
attribute [local go_sem] Oper.semAt_some
attribute [local go_sem, local simp] wide_fn

/-- What has been turned round when a list of pairs is over. -/
def downP (n : Nat) (ps : List (Nat × Nat)) : List Int := ps.foldl (fun (d : List Int) (p : Nat × Nat) => d.set p.2 (orI (d[p.2]?.getD 0) (powI p.1))) (List.replicate n 0)
theorem downP_snoc (n : Nat) (ps : List (Nat × Nat)) (a b : Nat) : downP n (ps ++ [(a, b)]) = (downP n ps).set b (orI ((downP n ps)[b]?.getD 0) (powI a)) := by simp [downP]
theorem downP_len (n : Nat) : ∀ ps : List (Nat × Nat), (downP n ps).length = n := fun ps => by
  unfold downP
  generalize hd : List.replicate n (0 : Int) = d
  have hl : d.length = n := by rw [← hd]; simp
  clear hd
  induction ps generalizing d with
  | nil => exact hl
  | cons p ps ih => exact ih _ (by simpa using hl)
theorem downP_bd {n m : Nat} {ps : List (Nat × Nat)} (h : ∀ p ∈ ps, p.1 < m) (j : Nat) : 0 ≤ (downP n ps)[j]?.getD 0 ∧ (downP n ps)[j]?.getD 0 < powI m := by
  have hp := powI_pos (m : Int)
  unfold downP
  generalize hd : List.replicate n (0 : Int) = d
  have hl : ∀ j : Nat, 0 ≤ d[j]?.getD 0 ∧ d[j]?.getD 0 < powI m := fun j => by
    rw [← hd]
    by_cases hj : j < n
    · simp [hj]; exact hp
    · simp [hj]; exact hp
  clear hd
  induction ps generalizing d with
  | nil => exact hl j
  | cons p ps ih =>
    refine ih (fun q hq => h q (by simp [hq])) _ (fun i => ?_)
    have h1 := h p (by simp)
    by_cases hi : p.2 = i
    · subst hi
      by_cases hlt : p.2 < d.length
      · rw [List.getElem?_set_self hlt]
        exact orI_bd (hl _).1 (hl _).2 (Int.le_of_lt (powI_pos _)) (powI_lt h1)
      · dsimp only
        rw [List.set_eq_of_length_le (by omega)]
        exact hl _
    · rw [List.getElem?_set_ne hi]
      exact hl i

theorem pairsTo_lt {zs : List Int} {k : Nat} {p : Nat × Nat} (h : p ∈ pairsTo zs k) : p.1 < k := by
  simp only [pairsTo, List.mem_flatMap, List.mem_range, List.mem_map] at h
  obtain ⟨x, hx, y, _, rfl⟩ := h
  exact hx
theorem upTo_lt {zs : List Int} {a b : Nat} : ∀ p ∈ pairsTo zs a ++ (itemsTo (zs[a]?.getD 0) b).map (fun x => (a, x)), p.1 < a + 1 := fun p hp => by
  rcases List.mem_append.1 hp with h | h
  · have := pairsTo_lt h; omega
  · obtain ⟨x, _, rfl⟩ := List.mem_map.1 h
    simp
/-- Of a set of n items the first n numbers tell all. -/
theorem itemsTo_all {s : Int} {n : Nat} (h1 : s < powI n) (hn : n ≤ 6) : itemsTo s n = itemsL s := by
  have key : ∀ d : Nat, itemsTo s (n + d) = itemsTo s n := fun d => by
    induction d with
    | zero => rfl
    | succ d ih =>
      have hb : bitB s ((n + d : Nat) : Int) = false := by
        cases h : bitB s ((n + d : Nat) : Int) with
        | false => rfl
        | true => have := bitB_lt h1 h; omega
      rw [← Nat.add_assoc, itemsTo_no hb, ih]
  rw [itemsL, show (6 : Nat) = n + (6 - n) from by omega, key]

set_option maxHeartbeats 1000000 in
theorem downOf_any (A : Option Addr) (n c : Nat) (zs : List Int) (w : World) (h : Ints w w.heap.size A n zs) (hv : Sets zs) :
    Calls Tryd.prog 37 #[.slice A n c] w fun e w' => e = .returned (.slice (some ⟨w.heap.size, 0, none⟩) n n) ∧ Arr w' w.heap.size 3 (downP n (pairsL zs)) ∧ Below w.heap.size w w' := by
  have hlen := Lib.hid h.len
  have hn6 : n ≤ 6 := by have := hv.1; rw [hlen.out] at this; exact this
  have hmk := run_make_row' (P := Tryd.prog) 22 3 (.int .i64 0) 8 Tryd.underlying22 infoInt rfl .i64 .i64 n (by omega) (by omega)
  go_enter Tryd.func37, Tryd.ntmps37
  go_wp2
  have hA1 := Arr.new w 3 n
  have hB1 : Below w.heap.size w (w.alloc (.cells (madeCells #[.int .i64 0] n) 3)) := (Below.refl _ _).alloc (Nat.le_refl _) _
  obtain ⟨W1, hW1⟩ : ∃ W1, w.alloc (.cells (madeCells #[.int .i64 0] n) 3) = W1 := ⟨_, rfl⟩
  rw [hW1] at hA1 hB1 ⊢
  clear hW1 hmk
  go_loopw [4] (fun i wr => ∃ a : Nat, a ≤ n ∧ i = .int .i64 a ∧ Arr wr w.heap.size 3 (downP n (pairsTo zs a)) ∧ Below w.heap.size w wr) (fun i _ => n - (intOf i).toNat)
  case atStart => exact ⟨0, by omega, rfl, hA1, hB1⟩
  case round =>
    obtain ⟨a, ha, rfl, hAr, hB⟩ := hrel
    by_cases hak : a < n
    · have hz := hv.bd a (by rw [hlen.out]; exact hak)
      go_wp2
      go_loopw [5] (fun i wr => ∃ b : Nat, b ≤ n ∧ i = .int .i64 b ∧ Arr wr w.heap.size 3 (downP n (pairsTo zs a ++ (itemsTo (zs[a]?.getD 0) b).map fun x => (a, x))) ∧ Below w.heap.size w wr) (fun i _ => n - (intOf i).toNat)
      case atStart => exact ⟨0, by omega, rfl, by simpa [itemsTo] using hAr, hB⟩
      case round =>
        clear hAr hB
        obtain ⟨b, hb, rfl, hAr, hB⟩ := hrel
        by_cases hbk : b < n
        · obtain ⟨bl, off, rfl, hbl, hc⟩ := (h.below hB).at_ hak
          have hck := hc a hak
          clear hc
          cases hbit : bitB (zs[a]?.getD 0) b
          · have hbi : (bitI (zs[a]?.getD 0) b == 1) = false := by rw [bitI_one, hbit]
            have Hn := Lib.hid (itemsTo_no hbit)
            go_wp2_with (go_at_call 54; refine (bit_any _ _ _ (by omega) (by omega) (by omega) (by omega)).mono ?_; rintro e w' ⟨rfl, rfl⟩)
            go_roundw
            case rel => exact ⟨b + 1, by omega, by go_num, by rw [Hn.out]; exact hAr, hB⟩
            case measure => simp [intOf]; omega
          · have hbi : (bitI (zs[a]?.getD 0) b == 1) = true := by rw [bitI_one, hbit]
            have Hn := Lib.hid (itemsTo_yes hbit)
            have hlb : b < (downP n (pairsTo zs a ++ (itemsTo (zs[a]?.getD 0) b).map fun x => (a, x))).length := by rw [downP_len]; exact hbk
            have hcs := hAr.cell hlb
            have hfs := hAr.frozen b
            have Hs := Lib.hid (downP_snoc n (pairsTo zs a ++ (itemsTo (zs[a]?.getD 0) b).map fun x => (a, x)) a b)
            have hbd := downP_bd (n := n) (m := a + 1) (ps := pairsTo zs a ++ (itemsTo (zs[a]?.getD 0) b).map fun x => (a, x)) upTo_lt b
            clear hlb
            generalize hD : downP n (pairsTo zs a ++ (itemsTo (zs[a]?.getD 0) b).map fun x => (a, x)) = D at *
            have HD := Lib.hid hD
            clear hD
            have hpa := powI_le6 (n := ((a + 1 : Nat) : Int)) (by omega)
            have hpb := powI_le6 (n := (a : Int)) (by omega)
            have hpp := powI_pos (a : Int)
            have hor : bits .or .i64 (D[b]?.getD 0) (powI a) = orI (D[b]?.getD 0) (powI a) := bits_or (by omega) (by omega) (by omega) (by omega)
            go_wp2_with (go_at_call 54; refine (bit_any _ _ _ (by omega) (by omega) (by omega) (by omega)).mono ?_; rintro e w' ⟨rfl, rfl⟩)
            go_region_with ((go_at_call 53; refine (power_any _ _ (by omega) (by omega)).mono ?_; rintro e w' ⟨rfl, rfl⟩))
            all_goals
              go_wp2
              go_roundw
              case rel => exact ⟨b + 1, by omega, by go_num, by rw [Hn.out, List.map_append, ← List.append_assoc, List.map_cons, List.map_nil, Hs.out]; exact hAr.set _ _, (hB.setCell (p := ⟨w.heap.size, b, none⟩) (Nat.le_refl _) _).drew⟩
              case measure => simp [intOf]; omega
        · obtain rfl : b = n := by omega
          have Hall := Lib.hid (itemsTo_all (s := zs[a]?.getD 0) (n := b) (by have h1 := (hv.2 a (by rw [hlen.out]; exact hak)).2; rw [hlen.out] at h1; exact h1) hn6)
          have Hps := Lib.hid (pairsTo_succ zs a)
          go_wp2
          go_roundw
          case rel => exact ⟨a + 1, by omega, by go_num, by rw [Hps.out, ← Hall.out]; exact hAr, hB⟩
          case measure => simp [intOf]; omega
    · obtain rfl : a = n := by omega
      have Hps := Lib.hid (show pairsL zs = pairsTo zs a by rw [pairsL, hlen.out])
      go_wp2
      go_ret
      exact ⟨rfl, by rw [Hps.out]; exact hAr, hB⟩

/-- 'list': a copy as numbers. -/
theorem list_any (A : Option Addr) (n c : Nat) (zs : List Int) (w : World) (hA : Ints w w.heap.size A n zs) (hbig : n ≤ 1048576) :
    Calls Tryd.prog 45 #[.slice A n c] w fun e w' => e = .returned (.slice (some ⟨w.heap.size, 0, none⟩) n n) ∧ Arr w' w.heap.size 3 zs ∧ Below w.heap.size w w' := by
  have hlen := Lib.hid hA.len
  have hmk := run_make_row' (P := Tryd.prog) 22 3 (.int .i64 0) 8 Tryd.underlying22 infoInt rfl .i64 .i64 n (by omega) (by omega)
  go_enter Tryd.func45, Tryd.ntmps45
  go_wp2
  have hA1 := Arr.new w 3 n
  have hB1 : Below w.heap.size w (w.alloc (.cells (madeCells #[.int .i64 0] n) 3)) := (Below.refl _ _).alloc (Nat.le_refl _) _
  obtain ⟨W1, hW1⟩ : ∃ W1, w.alloc (.cells (madeCells #[.int .i64 0] n) 3) = W1 := ⟨_, rfl⟩
  rw [hW1] at hA1 hB1 ⊢
  clear hW1 hmk
  go_loopw [11] (fun i wr => ∃ k : Nat, k ≤ n ∧ i = .int .i64 k ∧ Arr wr w.heap.size 3 (copied zs n k) ∧ Below w.heap.size w wr) (fun i _ => n - (intOf i).toNat)
  case atStart => exact ⟨0, by omega, rfl, by rw [copied_zero]; exact hA1, hB1⟩
  case round =>
    obtain ⟨k, hk, rfl, hAr, hB⟩ := hrel
    have Hcl := Lib.hid (copied_len hlen.out hk)
    by_cases hlt : k < n
    · obtain ⟨b, off, rfl, hbw, hc⟩ := (hA.below hB).at_ hlt
      have hck := hc k hlt
      have hcs := hAr.cell (k := k) (by rw [Hcl.out]; exact hlt)
      have hfs := hAr.frozen k
      clear hc
      have Hcp := Lib.hid (copied_succ hlen.out hlt)
      go_wp2
      go_roundw
      case rel => exact ⟨k + 1, by omega, by go_num, by rw [← Hcp.out]; exact hAr.set _ _, hB.setCell (p := ⟨w.heap.size, k, none⟩) (Nat.le_refl _) _⟩
      case measure => simp [intOf]; omega
    · obtain rfl : k = n := by omega
      have Hfull := Lib.hid (copied_full hlen.out)
      go_wp2
      go_ret
      exact ⟨rfl, by rw [← Hfull.out]; exact hAr, hB⟩

set_option maxRecDepth 100000 in
set_option maxHeartbeats 4000000 in
theorem dual_any (A : Option Addr) (n c : Nat) (zs : List Int) (hv : Sets zs) (w : World) (hA : Ints w w.heap.size A n zs) :
    Calls Tryd.prog 46 #[.slice A n c] w fun e W' => e = .returned (.slice (some ⟨w.heap.size, 0, none⟩) n n) ∧ Arr W' w.heap.size 57 (downP n (pairsL zs)) ∧ Below w.heap.size w W' := by
  have hlen := Lib.hid hA.len
  have hn6 : n ≤ 6 := by have := hv.1; rw [hlen.out] at this; exact this
  have hmk := run_make_row' (P := Tryd.prog) 38 57 (.int .i64 0) 8 Tryd.underlying38 infoItems rfl .i64 .i64 n (by omega) (by omega)
  refine (callsIn_wide (n := 9)).1 ?_
  refine callsIn_of_wp_marks Tryd.func46 rfl trivial ?_ rfl
  simp only [Tryd.ntmps46, List.size_toArray, List.length_cons, List.length_nil, Nat.reduceAdd, Nat.reduceSub, Array.replicate_succ, Array.replicate_zero, List.push_toArray, List.append_toArray, List.nil_append, List.cons_append]
  gi_wp2_with (gi_at_call 67; refine (callsIn_wide.2 (pairs_any _ _ _ _)).mono ?_; rintro e w' ⟨rfl, rfl⟩)
  have aD := ((Arr.new w 57 n).alloc (.cells #[Value.slice (some ⟨w.heap.size, 0, none⟩) n n] 38)).alloc (.cells #[Value.slice A n c] 38)
  have bD := (Boxed.new (w.alloc (.cells (madeCells #[Value.int .i64 0] n) 57)) 38 (.slice (some ⟨w.heap.size, 0, none⟩) n n)).alloc (.cells #[Value.slice A n c] 38)
  have bP := Boxed.new ((w.alloc (.cells (madeCells #[Value.int .i64 0] n) 57)).alloc (.cells #[Value.slice (some ⟨w.heap.size, 0, none⟩) n n] 38)) 38 (.slice A n c)
  have hu0 : Upd (fun _ => False) w (((w.alloc (.cells (madeCells #[Value.int .i64 0] n) 57)).alloc (.cells #[Value.slice (some ⟨w.heap.size, 0, none⟩) n n] 38)).alloc (.cells #[Value.slice A n c] 38)) := (((Upd.refl _ w).alloc _).alloc _).alloc _
  have hz0 : (((w.alloc (.cells (madeCells #[Value.int .i64 0] n) 57)).alloc (.cells #[Value.slice (some ⟨w.heap.size, 0, none⟩) n n] 38)).alloc (.cells #[Value.slice A n c] 38)).heap.size = w.heap.size + 3 := by simp
  simp only [World.size_alloc] at bD bP
  clear hmk
  obtain ⟨W0, hW0⟩ : ∃ W0, (((w.alloc (.cells (madeCells #[Value.int .i64 0] n) 57)).alloc (.cells #[Value.slice (some ⟨w.heap.size, 0, none⟩) n n] 38)).alloc (.cells #[Value.slice A n c] 38)) = W0 := ⟨_, rfl⟩
  rw [hW0] at aD bD bP hu0 hz0 ⊢
  clear hW0
  have hA0 : Ints W0 w.heap.size A n zs := hA.below (hu0.toBelow (fun _ e => e.elim) (Nat.le_refl _))
  refine range_out (n := 9) (gf := 83) (lb := #[.pointer (some ⟨w.heap.size + 1 + 1, 0, none⟩)]) rfl (enters_of Tryd.func83 (by kernel_rfl) rfl) (encs := encP) (L := pairsL zs)
    (fun k => k = w.heap.size) (fun k e => by omega) (fun _ => rfl)
    (fun W1 l1 hu1 hl1 hl2 => pairs_iter_at hv bP (fun k e => by omega) (by omega) hA0 (by omega) (fun k e => by omega) hu1 hl1 hl2)
    (fun pre D W => Arr W w.heap.size 57 (downP n pre) ∧ Upd (fun k => k = w.heap.size) W0 W)
    (fun _ _ _ _ => False)
    (fun _ D X Y hs hu => ⟨hs.1.upd hu (fun e => by omega), hs.2.trans' hu (fun i hi e => by omega)⟩)
    (fun _ _ _ _ _ hs _ => hs)
    ⟨aD, Upd.refl _ _⟩ ?owes ?done ?stop
  case owes =>
    rintro l1 pre ⟨lo, hi⟩ D1 W hl1 hl2 hDl hD1 - hpre K hK
    gi_wp2
    refine hK _ _ (Upd.refl _ _) ?_
    rintro Wb hWb - ⟨aD1, hU⟩
    clear hK
    obtain ⟨hlo, hhi, hbit⟩ := hv.pair (a := lo) (b := hi) (hpre.subset (by simp))
    rw [hlen.out] at hlo hhi
    have hcD := (hU.boxed bD (by omega)).cell
    have hsb := hU.size
    have hszb := hWb.size
    have hlb : hi < (downP n pre).length := by rw [downP_len]; exact hhi
    have hcs := aD1.cell hlb
    have hfs := aD1.frozen hi
    have Hs := Lib.hid (downP_snoc n pre lo hi)
    have hbd := downP_bd (n := n) (m := n) (ps := pre) (fun p hp => by
      have := (hv.pair (a := p.1) (b := p.2) (hpre.subset (by simp [hp]))).1
      rw [hlen.out] at this; exact this) hi
    have hpn := powI_le6 (n := (n : Int)) (by omega)
    clear hlb
    generalize hD : downP n pre = D at *
    have HD := Lib.hid hD
    clear hD
    gi_wp2
    refine region_tail_round 9 (by kernel_rfl) (by kernel_rfl) (by kernel_rfl) ?_
    simp only [List.take_succ_cons, List.take_zero, List.drop_succ_cons, List.drop_zero]
    repeat (gi_big_quiet_step ((first
      | (gi_at_call 61; exact quietIn_add (with_any _ _ _ (by omega) (by omega) (by omega) (by omega)))
      | (gi_at_call 61; exact quietIn_left (with_any _ _ _ (by omega) (by omega) (by omega) (by omega))))))
    refine wpQuietIn_nil ?_
    intro _ hw'
    obtain ⟨nq, hw''⟩ := hw'
    subst hw''
    gi_wp2
    exact ⟨D1, ⟨by rw [Hs.out]; exact (aD1.drewN nq).set _ _, (hU.drewN _).setCell (p := ⟨w.heap.size, hi, none⟩) (.inr rfl) _⟩, ((Upd.refl _ _).drewN _).setCell (p := ⟨w.heap.size, hi, none⟩) (.inr (.inl rfl)) _, fun k hk => .inl hk⟩
  case done =>
    rintro d D1 W hd ⟨aD1, hU⟩ hD1 hKd
    have hcD := (hU.boxed bD (by omega)).cell
    gi_wp2
    refine leaves_marks [d] _ ⟨by simp, fun b hb => ?_⟩ (fun W' hu' => ?_)
    · rw [List.mem_singleton.1 hb]
      exact hKd
    · exact ⟨.slice (some ⟨w.heap.size, 0, none⟩) n n, by simp [results, Tryd.f46, go_sem], rfl, aD1.upd hu' (by simp; omega),
        (((hu0.mono fun _ _ e => e.elim).trans' hU (fun i hi e => by omega)).trans' hu' (fun i hi e => by simp at e; omega)).toBelow (R := fun _ => False) (fun _ e => e.elim) (Nat.le_refl _)⟩
  case stop =>
    rintro d D1 co pre W hd hpre h
    exact h.elim

def dualR (zs : List Int) : List Int := if vo zs then downP zs.length (pairsL zs) else []

theorem DualOf_any (A : Option Addr) (n c : Nat) (zs : List Int) (w : World) (h : Ints w w.heap.size A n zs) (hbig : n ≤ 1152921504606846976) :
    Calls Tryd.prog 23 #[.slice A n c] w (GivesRow w (dualR zs)) := by
  have hlen := Lib.hid h.len
  cases hv : vo zs
  · have Ht := Lib.hid (show dualR zs = [] by unfold dualR; rw [hv]; rfl)
    have Hv := Lib.hid hv
    clear hv
    go_enter Tryd.func23, Tryd.ntmps23
    go_wp2_with fail
    refine (readOrder_any _ _ _ zs _ h hbig).mono ?_
    rintro e w' ⟨hB, (⟨hv, b, rfl, _, _⟩ | ⟨_, rfl⟩)⟩
    · rw [Hv.out] at hv; cases hv
    · go_wp2_with fail
      go_ret
      exact ⟨none, 0, 0, rfl, by rw [Ht.out]; exact Row.nil _ _ _ _, hB⟩
  · have hvo : VoP zs := by simpa [vo] using hv
    have hn6 : n ≤ 6 := by have := hvo.1; rw [hlen.out] at this; exact this
    have Ht := Lib.hid (show dualR zs = downP n (pairsL zs) by unfold dualR; rw [hv, hlen.out]; rfl)
    have Hv := Lib.hid hv
    clear hv
    go_enter Tryd.func23, Tryd.ntmps23
    go_wp2_with fail
    refine (readOrder_any _ _ _ zs _ h hbig).mono ?_
    rintro e w1 ⟨hB, (⟨_, b, rfl, hb, hAr⟩ | ⟨hv, _⟩)⟩
    · have z1 := hB.size
      go_wp2_with fail
      refine (dual_any _ _ _ zs hvo.sets _ (hAr.ints' hAr.lt hlen.out)).mono ?_
      rintro e w2 ⟨rfl, hA2, hB2⟩
      have z2 := hB2.size
      go_wp2_with fail
      refine (list_any _ _ _ _ _ (hA2.ints' hA2.lt (downP_len _ _)) (by omega)).mono ?_
      rintro e w3 ⟨rfl, hA3, hB3⟩
      go_wp2_with fail
      go_ret
      exact ⟨_, n, n, rfl, by rw [Ht.out]; exact Row.of hA3 (downP_len _ _) (by omega) hA3.lt, hB.trans ((hB2.mono z1).trans (hB3.mono (by omega)))⟩
    · rw [Hv.out] at hv; cases hv
end Go.Proofs.YtmlihbcffndnbabDoor

/- Heights: raising by pairs, round after round, comes to one and the same, in whatever order the pairs stand. No program. -/
namespace Go.Proofs.YtmlihbcffndnbabDoor

/-- a is below b. -/
def lt (zs : List Int) (a b : Nat) : Prop := a < zs.length ∧ bitB (zs[a]?.getD 0) b = true
theorem VoP.irr {zs : List Int} (h : VoP zs) {a : Nat} : ¬ lt zs a a := fun ⟨h1, h2⟩ => by
  have := h.2.1 a h1
  simp [okA, h2] at this
theorem VoP.lt_n {zs : List Int} (h : VoP zs) {a b : Nat} (hl : lt zs a b) : b < zs.length := bitB_lt (h.sets.2 a hl.1).2 hl.2
theorem VoP.trans {zs : List Int} (h : VoP zs) {a b c : Nat} (h1 : lt zs a b) (h2 : lt zs b c) : lt zs a c := by
  have hb := h.lt_n h1
  have hp := h.2.2 a h1.1 b hb
  simp only [okP, h1.2, Bool.not_true, Bool.false_or, Bool.and_eq_true, beq_iff_eq] at hp
  exact ⟨h1.1, lessI_zero hp.1 c h2.2⟩

def below (zs : List Int) (b : Nat) : List Nat := (List.range zs.length).filter fun a => bitB (zs[a]?.getD 0) b
theorem mem_below {zs : List Int} {a b : Nat} : a ∈ below zs b ↔ lt zs a b := by simp [below, lt]

theorem filter_lt {p q : Nat → Bool} {x : Nat} : ∀ l : List Nat, (∀ y ∈ l, p y = true → q y = true) → x ∈ l → q x = true → p x = false → (l.filter p).length < (l.filter q).length
  | [], _, hx, _, _ => by cases hx
  | y :: l, hpq, hx, hq, hp => by
    have hle : (l.filter p).length ≤ (l.filter q).length := by
      clear hx
      induction l with
      | nil => simp
      | cons z l ih =>
        have ih := ih (fun y hy => hpq y (by simp at hy ⊢; rcases hy with h | h <;> simp [h]))
        have hz := hpq z (by simp)
        cases h1 : p z <;> cases h2 : q z <;> simp [h1, h2] at hz ⊢ <;> omega
    rcases List.mem_cons.1 hx with rfl | hx
    · simp [hq, hp]; omega
    · have ih := filter_lt l (fun y hy => hpq y (by simp [hy])) hx hq hp
      have hy := hpq y (by simp)
      cases h1 : p y <;> cases h2 : q y <;> simp [h1, h2] at hy ⊢ <;> omega
def rank (zs : List Int) (b : Nat) : Nat := (below zs b).length
theorem rank_lt {zs : List Int} (h : VoP zs) {a b : Nat} (hl : lt zs a b) : rank zs a < rank zs b := by
  refine filter_lt (x := a) _ (fun y hy hp => ?_) (List.mem_range.2 hl.1) hl.2 ?_
  · exact (h.trans ⟨List.mem_range.1 hy, hp⟩ hl).2
  · cases hb : bitB (zs[a]?.getD 0) a with
    | false => rfl
    | true => exact absurd ⟨hl.1, hb⟩ h.irr
theorem rank_bd {zs : List Int} (h : VoP zs) {b : Nat} (hb : b < zs.length) : rank zs b < zs.length := by
  have : (below zs b).length < ((List.range zs.length).filter fun _ => true).length := by
    refine filter_lt (x := b) _ (fun _ _ _ => rfl) (List.mem_range.2 hb) rfl ?_
    cases hc : bitB (zs[b]?.getD 0) b with
    | false => rfl
    | true => exact absurd ⟨hb, hc⟩ h.irr
  rw [List.filter_eq_self.2 (fun _ _ => rfl), List.length_range] at this
  exact this

def maxL (f : Nat → Int) (l : List Nat) : Int := l.foldl (fun m a => max m (f a + 1)) 0
theorem maxL_ge (f : Nat → Int) : ∀ (l : List Nat), 0 ≤ maxL f l ∧ ∀ a ∈ l, f a + 1 ≤ maxL f l := by
  have key : ∀ (l : List Nat) (m : Int), m ≤ l.foldl (fun m a => max m (f a + 1)) m ∧ ∀ a ∈ l, f a + 1 ≤ l.foldl (fun m a => max m (f a + 1)) m := fun l => by
    induction l with
    | nil => exact fun m => ⟨Int.le_refl _, fun _ h => by cases h⟩
    | cons x l ih =>
      intro m
      have h := ih (max m (f x + 1))
      refine ⟨by simp only [List.foldl_cons]; omega, fun a ha => ?_⟩
      simp only [List.foldl_cons]
      rcases List.mem_cons.1 ha with rfl | ha
      · omega
      · exact h.2 a ha
  exact fun l => key l 0
theorem maxL_eq (f : Nat → Int) : ∀ (l : List Nat), maxL f l = 0 ∨ ∃ a ∈ l, maxL f l = f a + 1 := by
  have key : ∀ (l : List Nat) (m : Int), l.foldl (fun m a => max m (f a + 1)) m = m ∨ ∃ a ∈ l, l.foldl (fun m a => max m (f a + 1)) m = f a + 1 := fun l => by
    induction l with
    | nil => exact fun m => .inl rfl
    | cons x l ih =>
      intro m
      simp only [List.foldl_cons]
      rcases ih (max m (f x + 1)) with h | ⟨a, ha, h⟩
      · rcases Int.le_total m (f x + 1) with h1 | h1
        · exact .inr ⟨x, by simp, by rw [h]; omega⟩
        · exact .inl (by rw [h]; omega)
      · exact .inr ⟨a, by simp [ha], h⟩
  exact fun l => key l 0
theorem maxL_congr {f g : Nat → Int} {l : List Nat} (h : ∀ a ∈ l, f a = g a) : maxL f l = maxL g l := by
  have key : ∀ (l : List Nat) (m : Int), (∀ a ∈ l, f a = g a) → l.foldl (fun m a => max m (f a + 1)) m = l.foldl (fun m a => max m (g a + 1)) m := fun l => by
    induction l with
    | nil => exact fun m _ => rfl
    | cons x l ih =>
      intro m hl
      simp only [List.foldl_cons]
      rw [hl x (by simp)]
      exact ih _ (fun a ha => hl a (by simp [ha]))
  exact key l 0 h

def hF (zs : List Int) : Nat → Nat → Int
  | 0, _ => 0
  | k + 1, b => maxL (hF zs k) (below zs b)
theorem hF_stable {zs : List Int} (h : VoP zs) : ∀ (k b : Nat), rank zs b < k → hF zs (k + 1) b = hF zs k b
  | 0, b, hk => by omega
  | k + 1, b, hk => by
    show maxL (hF zs (k + 1)) (below zs b) = maxL (hF zs k) (below zs b)
    refine maxL_congr fun a ha => hF_stable h k a ?_
    have := rank_lt h (mem_below.1 ha)
    omega
theorem hF_rank {zs : List Int} (h : VoP zs) : ∀ (k b : Nat), hF zs k b ≤ rank zs b
  | 0, b => by simp [hF]
  | k + 1, b => by
    rcases maxL_eq (hF zs k) (below zs b) with e | ⟨a, ha, e⟩
    · show maxL (hF zs k) (below zs b) ≤ _; omega
    · have h1 := hF_rank h k a
      have h2 := rank_lt h (mem_below.1 ha)
      show maxL (hF zs k) (below zs b) ≤ _; omega

/-- The height of an item. -/
def hgt (zs : List Int) (b : Nat) : Int := hF zs 6 b
theorem hgt_up {zs : List Int} (h : VoP zs) {a b : Nat} (hl : lt zs a b) : hgt zs a + 1 ≤ hgt zs b := by
  have hb := h.lt_n hl
  have hr := rank_bd h hb
  have h6 := h.1
  have e : hgt zs b = maxL (hF zs 6) (below zs b) := (hF_stable h 6 b (by omega)).symm
  rw [e]
  exact (maxL_ge (hF zs 6) (below zs b)).2 a (mem_below.2 hl)
theorem hgt_eq {zs : List Int} (h : VoP zs) {b : Nat} (hb : b < zs.length) : hgt zs b = 0 ∨ ∃ a, lt zs a b ∧ hgt zs b = hgt zs a + 1 := by
  have hr := rank_bd h hb
  have h6 := h.1
  have e : hgt zs b = maxL (hF zs 6) (below zs b) := (hF_stable h 6 b (by omega)).symm
  rw [e]
  rcases maxL_eq (hF zs 6) (below zs b) with e | ⟨a, ha, e⟩
  · exact .inl e
  · exact .inr ⟨a, mem_below.1 ha, e⟩
theorem hgt_nn (zs : List Int) (b : Nat) : 0 ≤ hgt zs b := (maxL_ge (hF zs 5) (below zs b)).1
theorem hgt_bd {zs : List Int} (h : VoP zs) {b : Nat} (hb : b < zs.length) : hgt zs b < zs.length := by
  have h1 := hF_rank h 6 b
  have h2 := rank_bd h hb
  unfold hgt
  omega

/-- One pair raises the second item. -/
def up1 (S : List Int) (p : Nat × Nat) : List Int := S.set p.2 (max (S[p.2]?.getD 0) (S[p.1]?.getD 0 + 1))
def upL (S : List Int) (ps : List (Nat × Nat)) : List Int := ps.foldl up1 S
def upN (ps : List (Nat × Nat)) : Nat → List Int → List Int
  | 0, S => S
  | k + 1, S => upL (upN ps k S) ps
theorem upL_snoc (S : List Int) (ps : List (Nat × Nat)) (p : Nat × Nat) : upL S (ps ++ [p]) = up1 (upL S ps) p := by simp [upL]
theorem up1_len (S : List Int) (p : Nat × Nat) : (up1 S p).length = S.length := by simp [up1]
theorem upL_len (ps : List (Nat × Nat)) : ∀ S : List Int, (upL S ps).length = S.length := by
  induction ps with
  | nil => exact fun _ => rfl
  | cons p ps ih => intro S; show (upL (up1 S p) ps).length = _; rw [ih, up1_len]
theorem upN_len (ps : List (Nat × Nat)) (S : List Int) : ∀ k : Nat, (upN ps k S).length = S.length
  | 0 => rfl
  | k + 1 => by rw [upN, upL_len, upN_len ps S k]

/-- The state is of numbers from 0 up to the heights. -/
def Low (zs S : List Int) : Prop := S.length = zs.length ∧ ∀ b, b < zs.length → 0 ≤ S[b]?.getD 0 ∧ S[b]?.getD 0 ≤ hgt zs b
theorem up1_get {S : List Int} {p : Nat × Nat} {b : Nat} (hp : p.2 < S.length) : (up1 S p)[b]?.getD 0 = if p.2 = b then max (S[p.2]?.getD 0) (S[p.1]?.getD 0 + 1) else S[b]?.getD 0 := by
  unfold up1
  by_cases h : p.2 = b
  · subst h
    rw [List.getElem?_set_self hp, if_pos rfl]; rfl
  · rw [List.getElem?_set_ne h, if_neg h]
theorem up1_low {zs S : List Int} (h : VoP zs) (hS : Low zs S) {p : Nat × Nat} (hl : lt zs p.1 p.2) : Low zs (up1 S p) ∧ ∀ b, b < zs.length → S[b]?.getD 0 ≤ (up1 S p)[b]?.getD 0 := by
  have hb := h.lt_n hl
  have hu := hgt_up h hl
  have h1 := hS.2 _ hl.1
  have hp : p.2 < S.length := by rw [hS.1]; exact hb
  refine ⟨⟨by rw [up1_len, hS.1], fun b hbb => ?_⟩, fun b hbb => ?_⟩
  · rw [up1_get hp]
    have h2 := hS.2 b hbb
    split
    · rename_i e; subst e; omega
    · exact h2
  · rw [up1_get hp]
    split
    · rename_i e; subst e; omega
    · exact Int.le_refl _
theorem upL_low {zs : List Int} (h : VoP zs) : ∀ (ps : List (Nat × Nat)) (S : List Int), Low zs S → (∀ p ∈ ps, lt zs p.1 p.2) →
    Low zs (upL S ps) ∧ (∀ b, b < zs.length → S[b]?.getD 0 ≤ (upL S ps)[b]?.getD 0) ∧ ∀ p ∈ ps, S[p.1]?.getD 0 + 1 ≤ (upL S ps)[p.2]?.getD 0
  | [], S, hS, _ => ⟨hS, fun _ _ => Int.le_refl _, fun _ hp => by cases hp⟩
  | p :: ps, S, hS, hps => by
    have hl := hps p (by simp)
    obtain ⟨h1, h2⟩ := up1_low h hS hl
    obtain ⟨h3, h4, h5⟩ := upL_low h ps (up1 S p) h1 (fun q hq => hps q (by simp [hq]))
    have hb := h.lt_n hl
    refine ⟨h3, fun b hbb => Int.le_trans (h2 b hbb) (h4 b hbb), fun q hq => ?_⟩
    rcases List.mem_cons.1 hq with rfl | hq
    · have h6 := h4 q.2 hb
      have h7 : (up1 S q)[q.2]?.getD 0 = max (S[q.2]?.getD 0) (S[q.1]?.getD 0 + 1) := by rw [up1_get (by rw [hS.1]; exact hb), if_pos rfl]
      show _ ≤ (upL (up1 S q) ps)[q.2]?.getD 0
      omega
    · have hq1 := hps q (by simp [hq])
      have h6 := h5 q hq
      have h7 := h2 q.1 hq1.1
      show _ ≤ (upL (up1 S p) ps)[q.2]?.getD 0
      omega
theorem upN_low {zs : List Int} (h : VoP zs) {ps : List (Nat × Nat)} (hps : ∀ p ∈ ps, lt zs p.1 p.2) : ∀ k : Nat, Low zs (upN ps k (List.replicate zs.length 0))
  | 0 => ⟨by simp [upN], fun b hb => by simp [upN, hb]; exact hgt_nn _ _⟩
  | k + 1 => (upL_low h ps _ (upN_low h hps k) hps).1
theorem upN_reach {zs : List Int} (h : VoP zs) {ps : List (Nat × Nat)} (hps : ∀ p ∈ ps, lt zs p.1 p.2) (hall : ∀ a b, lt zs a b → (a, b) ∈ ps) :
    ∀ (k b : Nat), b < zs.length → min (hgt zs b) (k : Int) ≤ (upN ps k (List.replicate zs.length 0))[b]?.getD 0
  | 0, b, hb => by
    have := ((upN_low h hps 0).2 b hb).1
    omega
  | k + 1, b, hb => by
    have hL := upN_low h hps k
    obtain ⟨h1, h2, h3⟩ := upL_low h ps _ hL hps
    have h0 := (h1.2 b hb).1
    show _ ≤ (upL (upN ps k (List.replicate zs.length 0)) ps)[b]?.getD 0
    rcases hgt_eq h hb with e | ⟨a, hl, e⟩
    · omega
    · have h4 := upN_reach h hps hall k a hl.1
      have h5 := h3 (a, b) (hall a b hl)
      simp only at h5
      omega
theorem upN_all {zs : List Int} (h : VoP zs) {ps : List (Nat × Nat)} (hps : ∀ p ∈ ps, lt zs p.1 p.2) (hall : ∀ a b, lt zs a b → (a, b) ∈ ps) :
    upN ps zs.length (List.replicate zs.length 0) = (List.range zs.length).map (hgt zs) := by
  have hlen : (upN ps zs.length (List.replicate zs.length 0)).length = zs.length := by rw [upN_len]; simp
  refine List.ext_getElem (by rw [hlen]; simp) fun b h1 h2 => ?_
  rw [hlen] at h1
  have h3 := upN_reach h hps hall zs.length b h1
  have h4 := ((upN_low h hps zs.length).2 b h1).2
  have h5 := hgt_bd h h1
  rw [List.getElem?_eq_getElem (by rw [hlen]; exact h1)] at h3 h4
  simp only [Option.getD_some] at h3 h4
  simp only [List.getElem_map, List.getElem_range]
  omega

theorem lt_pairs {zs : List Int} {p : Nat × Nat} (hp : p ∈ pairsL zs) : lt zs p.1 p.2 := by
  obtain ⟨a, b⟩ := p
  have := mem_pairsL.1 hp
  exact ⟨this.1, this.2.2⟩
theorem pairs_lt {zs : List Int} (h : VoP zs) {a b : Nat} (hl : lt zs a b) : (a, b) ∈ pairsL zs := mem_pairsL.2 ⟨hl.1, by have := h.lt_n hl; have := h.1; omega, hl.2⟩

/-- What is turned round holds just the pairs. -/
theorem downP_bit {n : Nat} {ps : List (Nat × Nat)} (hps : ∀ p ∈ ps, p.2 < n) (a b : Nat) : bitB ((downP n ps)[b]?.getD 0) a = true ↔ (a, b) ∈ ps := by
  have key : ∀ (ps : List (Nat × Nat)) (d : List Int), d.length = n → (∀ p ∈ ps, p.2 < n) →
      (bitB ((ps.foldl (fun (d : List Int) (p : Nat × Nat) => d.set p.2 (orI (d[p.2]?.getD 0) (powI p.1))) d)[b]?.getD 0) a = true ↔ bitB (d[b]?.getD 0) a = true ∨ (a, b) ∈ ps) := fun ps => by
    induction ps with
    | nil => intro d _ _; simp
    | cons p ps ih =>
      intro d hd hp
      rw [List.foldl_cons, ih _ (by simpa using hd) (fun q hq => hp q (by simp [hq]))]
      have hp2 := hp p (by simp)
      obtain ⟨x, y⟩ := p
      simp only at hp2
      by_cases hy : y = b
      · subst hy
        rw [List.getElem?_set_self (by omega), Option.getD_some, bitB_or, bitB_pow]
        by_cases hx : x = a
        · simp [hx]
        · have hx' : ¬ a = x := fun e => hx e.symm
          simp [hx, hx']
      · have hy' : ¬ b = y := fun e => hy e.symm
        rw [List.getElem?_set_ne hy]
        simp [hy']
  unfold downP
  rw [key ps _ (by simp) hps]
  by_cases hb : b < n
  · simp [hb, bitB_zero]
  · simp [hb, bitB_zero]
theorem down_sets {zs : List Int} (h : Sets zs) : Sets (downP zs.length (pairsL zs)) := ⟨by rw [downP_len]; exact h.1, fun a _ => by
  rw [downP_len]
  exact downP_bd (fun p hp => (h.pair (a := p.1) (b := p.2) hp).1) a⟩
theorem down_lt {zs : List Int} (h : VoP zs) {a b : Nat} : (b, a) ∈ pairsL (downP zs.length (pairsL zs)) ↔ lt zs a b := by
  have hn : ∀ p ∈ pairsL zs, p.2 < zs.length := fun p hp => (h.sets.pair (a := p.1) (b := p.2) hp).2.1
  rw [mem_pairsL, downP_len, downP_bit hn]
  constructor
  · rintro ⟨_, _, h3⟩
    exact lt_pairs h3
  · intro hl
    exact ⟨h.lt_n hl, by have := hl.1; have := h.1; omega, pairs_lt h hl⟩

def heightsR (zs : List Int) : List Int := if vo zs then (List.range zs.length).map (hgt zs) else []
theorem heightsR_le (zs : List Int) : (heightsR zs).length ≤ 1048576 := by
  unfold heightsR
  cases hv : vo zs
  · simp
  · have hvo : VoP zs := by simpa [vo] using hv
    have := hvo.1
    simp
    omega
def swaps (ps : List (Nat × Nat)) : List (Nat × Nat) := ps.map fun p => (p.2, p.1)
theorem swaps_lt {zs : List Int} (h : VoP zs) : ∀ p ∈ swaps (pairsL (downP zs.length (pairsL zs))), lt zs p.1 p.2 := fun p hp => by
  obtain ⟨q, hq, rfl⟩ := List.mem_map.1 hp
  exact (down_lt h).1 hq
theorem lt_swaps {zs : List Int} (h : VoP zs) (a b : Nat) (hl : lt zs a b) : (a, b) ∈ swaps (pairsL (downP zs.length (pairsL zs))) :=
  List.mem_map.2 ⟨(b, a), (down_lt h).2 hl, rfl⟩
end Go.Proofs.YtmlihbcffndnbabDoor

/- Chains and sets apart, as plain mathematics: pairs within a set, the greatest ones, heights and chains. No program. -/
namespace Go.Proofs.YtmlihbcffndnbabDoor

/-! Pairs of a relation within a list. -/
/-- How many pairs of the list are related. -/
def cl (r : Nat → Nat → Bool) (l m : List Nat) : Nat := (l.map fun a => (m.filter (r a)).length).sum
theorem cl_cons (r : Nat → Nat → Bool) (x : Nat) (m : List Nat) : ∀ l : List Nat, cl r l (x :: m) = (l.filter fun a => r a x).length + cl r l m
  | [] => rfl
  | a :: l => by
    have ih := cl_cons r x m l
    have e1 : cl r (a :: l) (x :: m) = ((x :: m).filter (r a)).length + cl r l (x :: m) := rfl
    have e2 : cl r (a :: l) m = (m.filter (r a)).length + cl r l m := rfl
    rw [e1, e2, ih, List.filter_cons, List.filter_cons]
    cases r a x <;> simp <;> omega
theorem cl_self (r : Nat → Nat → Bool) {x : Nat} {l : List Nat} (hx : r x x = false) : cl r (x :: l) (x :: l) = (l.filter (r x)).length + (l.filter fun a => r a x).length + cl r l l := by
  have h := cl_cons r x l l
  have e1 : cl r (x :: l) (x :: l) = ((x :: l).filter (r x)).length + cl r l (x :: l) := rfl
  rw [e1, h, List.filter_cons, hx]
  simp only [Bool.false_eq_true, if_false]
  omega
theorem two_way (r : Nat → Nat → Bool) (x : Nat) : ∀ l : List Nat, (∀ b ∈ l, r x b = true → r b x = false) →
    (l.filter (r x)).length + (l.filter fun a => r a x).length ≤ l.length ∧ ((l.filter (r x)).length + (l.filter fun a => r a x).length = l.length ↔ ∀ b ∈ l, (r x b || r b x) = true)
  | [], _ => by simp
  | b :: l, h => by
    obtain ⟨h1, h2⟩ := two_way r x l (fun c hc => h c (by simp [hc]))
    have hb := h b (by simp)
    rw [List.filter_cons, List.filter_cons, List.length_cons]
    have hall : (∀ c ∈ b :: l, (r x c || r c x) = true) ↔ (r x b || r b x) = true ∧ ∀ c ∈ l, (r x c || r c x) = true := by simp
    rw [hall, ← h2]
    cases hxb : r x b <;> cases hbx : r b x <;> simp [hxb, hbx] at hb ⊢ <;> omega
theorem cl_all (r : Nat → Nat → Bool) : ∀ l : List Nat, (∀ a ∈ l, r a a = false) → (∀ a ∈ l, ∀ b ∈ l, r a b = true → r b a = false) →
    2 * cl r l l + l.length ≤ l.length * l.length ∧ (2 * cl r l l + l.length = l.length * l.length ↔ l.Pairwise fun a b => (r a b || r b a) = true)
  | [], _, _ => by simp [cl]
  | x :: l, hi, ha => by
    obtain ⟨h1, h2⟩ := cl_all r l (fun a h => hi a (by simp [h])) (fun a h b h' => ha a (by simp [h]) b (by simp [h']))
    obtain ⟨h3, h4⟩ := two_way r x l (fun b hb => ha x (by simp) b (by simp [hb]))
    have e3 : ∀ m : Nat, (m + 1) * (m + 1) = m * m + 2 * m + 1 := fun m => by rw [Nat.add_mul, Nat.mul_add m m 1]; omega
    rw [cl_self r (hi x (by simp)), List.pairwise_cons, List.length_cons, e3, ← h4, ← h2]
    clear e3
    generalize l.length * l.length = q at *
    generalize (l.filter fun a => r a x).length = u at *
    generalize (l.filter (r x)).length = v at *
    generalize cl r l l = c at *
    generalize l.length = m at *
    constructor
    · omega
    · constructor
      · intro h; omega
      · rintro ⟨h5, h6⟩; omega

/-! Sets as lists of their items. -/
theorem popI_len : ∀ k : Fin 64, popI (k.val : Int) = (itemsL (k.val : Int)).length := by decide +kernel
theorem popI_items {s : Int} (h0 : 0 ≤ s) (h1 : s < 64) : popI s = (itemsL s).length := by
  obtain ⟨k, rfl⟩ := Int.eq_ofNat_of_zero_le h0
  exact popI_len ⟨k, by omega⟩
theorem itemsL_and (a s : Int) : itemsL (andI a s) = (itemsL s).filter fun j : Nat => bitB a j := by
  unfold itemsL itemsTo
  rw [List.filter_filter]
  congr 1
  funext j
  rw [bitB_and]
theorem andI_lt {a s : Int} (h0 : 0 ≤ s) (h1 : s < 64) : 0 ≤ andI a s ∧ andI a s < 64 := by
  have : a.toNat &&& s.toNat ≤ s.toNat := Nat.and_le_right
  unfold andI; omega
theorem itemsL_sorted (s : Int) : (itemsL s).Pairwise (· < ·) := by
  unfold itemsL itemsTo
  exact List.Pairwise.filter _ List.pairwise_lt_range
theorem mem_itemsL {s : Int} {j : Nat} (h1 : s < 64) : j ∈ itemsL s ↔ bitB s j = true := by
  unfold itemsL
  rw [mem_itemsTo]
  exact ⟨fun h => h.2, fun h => ⟨bitB_lt (n := 6) (by simpa [powI] using h1) h, h⟩⟩

/-- a is above b, or b above a. -/
def relB (zs : List Int) (a b : Nat) : Bool := bitB (zs[a]?.getD 0) b || bitB (zs[b]?.getD 0) a
/-- Each two items of the set are related. -/
def ChP (zs : List Int) (s : Int) : Prop := (itemsL s).Pairwise fun a b => relB zs a b = true
instance (zs : List Int) (s : Int) : Decidable (ChP zs s) := by unfold ChP; infer_instance
def chB (zs : List Int) (s : Int) : Bool := decide (ChP zs s)
/-- No item of the set has one of the set above. -/
def apB (zs : List Int) (s : Int) : Bool := (itemsL s).all fun a => andI (zs[a]?.getD 0) s == 0
/-- How many pairs are within the set, of the items that have been seen. -/
def pwL (zs : List Int) (s : Int) (l : List Nat) : Int := l.foldl (fun (t : Int) (a : Nat) => t + popI (andI (zs[a]?.getD 0) s)) 0
theorem pwL_snoc (zs : List Int) (s : Int) (l : List Nat) (a : Nat) : pwL zs s (l ++ [a]) = pwL zs s l + popI (andI (zs[a]?.getD 0) s) := by simp [pwL]
theorem pwL_bd (zs : List Int) {s : Int} (h0 : 0 ≤ s) (h1 : s < 64) (l : List Nat) : 0 ≤ pwL zs s l ∧ pwL zs s l ≤ 6 * l.length := by
  have key : ∀ (l : List Nat) (t : Int), t ≤ l.foldl (fun (t : Int) (a : Nat) => t + popI (andI (zs[a]?.getD 0) s)) t ∧ l.foldl (fun (t : Int) (a : Nat) => t + popI (andI (zs[a]?.getD 0) s)) t ≤ t + 6 * l.length := fun l => by
    induction l with
    | nil => intro t; simp
    | cons a l ih =>
      intro t
      have h2 := andI_lt (a := zs[a]?.getD 0) h0 h1
      have h3 := popI_bd h2.1 h2.2
      have h4 := ih (t + popI (andI (zs[a]?.getD 0) s))
      simp only [List.foldl_cons, List.length_cons]
      omega
  have := key l 0
  unfold pwL; omega
theorem pwL_eq (zs : List Int) {s : Int} (h0 : 0 ≤ s) (h1 : s < 64) (l : List Nat) : pwL zs s l = cl (fun a b => bitB (zs[a]?.getD 0) b) l (itemsL s) := by
  have key : ∀ (l : List Nat) (t : Int), l.foldl (fun (t : Int) (a : Nat) => t + popI (andI (zs[a]?.getD 0) s)) t = t + cl (fun a b => bitB (zs[a]?.getD 0) b) l (itemsL s) := fun l => by
    induction l with
    | nil => intro t; simp [cl]
    | cons a l ih =>
      intro t
      have h2 := andI_lt (a := zs[a]?.getD 0) h0 h1
      have h3 := popI_items h2.1 h2.2
      rw [itemsL_and] at h3
      rw [List.foldl_cons, ih, h3]
      simp only [cl, List.map_cons, List.sum_cons]
      omega
  have := key l 0
  unfold pwL; omega
theorem len_items (s : Int) : (itemsL s).length ≤ 6 := Nat.le_trans (List.length_filter_le _ _) (by simp)
theorem VoP.irrB {zs : List Int} (h : VoP zs) {a : Nat} (ha : a < zs.length) : bitB (zs[a]?.getD 0) a = false := by
  have := h.2.1 a ha
  simp [okA] at this
  exact this.2
theorem VoP.asym {zs : List Int} (h : VoP zs) {a b : Nat} (ha : a < zs.length) (hb : bitB (zs[a]?.getD 0) b = true) : bitB (zs[b]?.getD 0) a = false := by
  cases hc : bitB (zs[b]?.getD 0) a with
  | false => rfl
  | true =>
    have hbn := h.lt_n ⟨ha, hb⟩
    exact absurd (h.trans ⟨ha, hb⟩ ⟨hbn, hc⟩) h.irr
theorem pw_chain {zs : List Int} (h : VoP zs) {s : Int} (h0 : 0 ≤ s) (h1 : s < powI zs.length) : (pwL zs s (itemsL s) == (popI s * (popI s - 1)).tdiv 2) = chB zs s := by
  have hpn := powI_le6 (n := (zs.length : Int)) (by have := h.1; omega)
  have hm : ∀ a ∈ itemsL s, a < zs.length := fun a ha => bitB_lt h1 ((mem_itemsL (by omega)).1 ha)
  obtain ⟨h2, h3⟩ := cl_all (fun a b => bitB (zs[a]?.getD 0) b) (itemsL s) (fun a ha => h.irrB (hm a ha)) (fun a ha b _ hb => h.asym (hm a ha) hb)
  have h4 := len_items s
  have e : pwL zs s (itemsL s) = cl (fun a b => bitB (zs[a]?.getD 0) b) (itemsL s) (itemsL s) := pwL_eq zs h0 (by omega) _
  rw [popI_items h0 (by omega), e, Bool.eq_iff_iff, beq_iff_eq, chB, decide_eq_true_eq]
  unfold ChP relB
  rw [← h3]
  generalize cl (fun a b => bitB (zs[a]?.getD 0) b) (itemsL s) (itemsL s) = c at *
  generalize (itemsL s).length = m at *
  have : m = 0 ∨ m = 1 ∨ m = 2 ∨ m = 3 ∨ m = 4 ∨ m = 5 ∨ m = 6 := by omega
  rcases this with rfl | rfl | rfl | rfl | rfl | rfl | rfl <;> simp <;> omega
theorem pw_apart {zs : List Int} {s : Int} (h0 : 0 ≤ s) (h1 : s < 64) : (pwL zs s (itemsL s) == 0) = apB zs s := by
  have key : ∀ m : List Nat, (pwL zs s m.reverse == 0) = m.reverse.all fun a => andI (zs[a]?.getD 0) s == 0 := fun m => by
    induction m with
    | nil => rfl
    | cons a m ih =>
      rw [List.reverse_cons]
      generalize m.reverse = l at *
      have hz : ∀ k : Fin 64, (popI (k.val : Int) == 0) = ((k.val : Int) == 0) := by decide +kernel
      have h2 := andI_lt (a := zs[a]?.getD 0) h0 h1
      have h3 := popI_bd h2.1 h2.2
      have h4 := pwL_bd zs h0 h1 l
      have h5 : (popI (andI (zs[a]?.getD 0) s) == 0) = (andI (zs[a]?.getD 0) s == 0) := by
        obtain ⟨k, hk⟩ := Int.eq_ofNat_of_zero_le h2.1
        have := hz ⟨k, by omega⟩
        rw [hk]; exact this
      rw [pwL_snoc, List.all_append, ← ih, List.all_cons, List.all_nil, Bool.and_true, ← h5, Bool.eq_iff_iff]
      simp only [beq_iff_eq, Bool.and_eq_true]
      omega
  have := key (itemsL s).reverse
  rwa [List.reverse_reverse] at this
end Go.Proofs.YtmlihbcffndnbabDoor

/- Rows of rows of numbers: words for memory, and what the exact laws call on them. -/
namespace Go.Proofs.YtmlihbcffndnbabDoor
open Go.RowKit

/-- The slices vs are rows of a call's own, one after the other in blocks from lo up to less than hi, and read as rs. -/
def RowsC (w : World) : Nat → Nat → List Value → List (List Int) → Prop
  | lo, hi, [], [] => lo ≤ hi
  | lo, hi, v :: vs, r :: rs => ∃ A c mid, v = .slice A r.length c ∧ lo ≤ mid ∧ Row w lo mid A r.length r ∧ RowsC w mid hi vs rs
  | _, _, [], _ :: _ => False
  | _, _, _ :: _, [] => False

section
variable {w w' : World} {R : Nat → Prop}
theorem RowsC.le : ∀ {lo hi : Nat} {vs : List Value} {rs : List (List Int)}, RowsC w lo hi vs rs → lo ≤ hi
  | _, _, [], [], h => h
  | _, _, _ :: _, _ :: _, ⟨_, _, _, _, h1, _, h2⟩ => Nat.le_trans h1 h2.le
theorem RowsC.len : ∀ {lo hi : Nat} {vs : List Value} {rs : List (List Int)}, RowsC w lo hi vs rs → vs.length = rs.length
  | _, _, [], [], _ => rfl
  | _, _, _ :: _, _ :: _, ⟨_, _, _, _, _, _, h2⟩ => by simp [h2.len]
theorem RowsC.upd : ∀ {lo hi : Nat} {vs : List Value} {rs : List (List Int)}, RowsC w lo hi vs rs → Upd R w w' → (∀ j, R j → j < lo ∨ hi ≤ j) → RowsC w' lo hi vs rs
  | _, _, [], [], h, _, _ => h
  | _, _, _ :: _, _ :: _, ⟨A, c, mid, e, h1, hr, h2⟩, hu, hR => ⟨A, c, mid, e, h1, hr.upd hu (fun j hj => by have := hR j hj; have := h2.le; omega), h2.upd hu (fun j hj => by have := hR j hj; omega)⟩
theorem RowsC.more : ∀ {lo hi hi' : Nat} {vs : List Value} {rs : List (List Int)}, RowsC w lo hi vs rs → hi ≤ hi' → RowsC w lo hi' vs rs
  | _, _, _, [], [], h, h' => Nat.le_trans h h'
  | _, _, _, _ :: _, _ :: _, ⟨A, c, mid, e, h1, hr, h2⟩, h' => ⟨A, c, mid, e, h1, hr, h2.more h'⟩
theorem RowsC.snoc : ∀ {lo hi hi' : Nat} {vs : List Value} {rs : List (List Int)} {A : Option Addr} {c : Nat} {r : List Int}, RowsC w lo hi vs rs → Row w hi hi' A r.length r → hi ≤ hi' → RowsC w lo hi' (vs ++ [.slice A r.length c]) (rs ++ [r])
  | _, _, hi', [], [], A, c, _, h, hr, hh => ⟨A, c, hi', rfl, Nat.le_trans h hh, hr.more h (Nat.le_refl _), Nat.le_refl _⟩
  | _, _, _, _ :: _, _ :: _, _, _, _, ⟨A, c, mid, e, h1, hr1, h2⟩, hr, hh => ⟨A, c, mid, e, h1, hr1, h2.snoc hr hh⟩
/-- One of the rows, and what may be done to it. -/
theorem RowsC.at_ : ∀ {lo hi : Nat} {vs : List Value} {rs : List (List Int)}, RowsC w lo hi vs rs → ∀ j, j < rs.length →
    ∃ A c l m, vs[j]? = some (.slice A (rs[j]?.getD []).length c) ∧ lo ≤ l ∧ m ≤ hi ∧ Row w l m A (rs[j]?.getD []).length (rs[j]?.getD []) ∧
      ∀ (w' : World) (r' : List Int), r'.length = (rs[j]?.getD []).length → Upd (fun k => l ≤ k ∧ k < m) w w' → Row w' l m A r'.length r' → RowsC w' lo hi vs (rs.set j r')
  | _, _, [], [], _, j, hj => by simp at hj
  | lo, hi, v :: vs, r :: rs, ⟨A, c, mid, e, h1, hr, h2⟩, 0, _ => by
    refine ⟨A, c, lo, mid, by rw [e]; rfl, Nat.le_refl _, h2.le, hr, fun w' r' hl hu hr' => ⟨A, c, mid, ?_, h1, ?_, h2.upd hu (fun j hj => by omega)⟩⟩
    · rw [e]; simp at hl; rw [hl]
    · exact hr'
  | lo, hi, v :: vs, r :: rs, ⟨A, c, mid, e, h1, hr, h2⟩, j + 1, hj => by
    obtain ⟨A', c', l, m, g1, g2, g3, g4, g5⟩ := h2.at_ j (by simpa using hj)
    refine ⟨A', c', l, m, by simpa using g1, by omega, g3, by simpa using g4, fun w' r' hl hu hr' => ⟨A, c, mid, e, h1, hr.upd hu (fun k hk => by omega), g5 w' r' (by simpa using hl) hu hr'⟩⟩
end

/-- A row of rows of a call's own: the slice, in a block of slices; its rows. -/
def RowsR (w : World) (lo hi : Nat) (A : Option Addr) (n : Nat) (rs : List (List Int)) : Prop :=
  rs.length = n ∧ (0 < n → ∃ (g : Nat) (vs : List Value) (cs : Array Value), A = some ⟨g, 0, none⟩ ∧ lo ≤ g ∧ g < hi ∧ w.heap[g]? = some (.cells cs 22 (0, 0)) ∧ (∀ (j : Nat) (u : Value), vs[j]? = some u → cs[j]? = some u) ∧ RowsC w lo hi vs rs)
/-- A slice of slices that reads as rs, below block B. -/
def IntsS (w : World) (B : Nat) (A : Option Addr) (n : Nat) (rs : List (List Int)) : Prop :=
  rs.length = n ∧ (0 < n → ∃ b off, A = some ⟨b, off, none⟩ ∧ b < B ∧ ∀ j, j < n → ∃ A' c', w.cell? ⟨b, off + j, none⟩ = some (.slice A' (rs[j]?.getD []).length c') ∧ Ints w B A' (rs[j]?.getD []).length (rs[j]?.getD []))
section
variable {w w' : World} {lo hi n B : Nat} {A : Option Addr} {rs : List (List Int)} {R : Nat → Prop}
theorem RowsR.len (h : RowsR w lo hi A n rs) : rs.length = n := h.1
theorem RowsR.nil (w : World) (lo hi : Nat) (A : Option Addr) : RowsR w lo hi A 0 [] := ⟨rfl, fun h => absurd h (by omega)⟩
theorem RowsR.upd (h : RowsR w lo hi A n rs) (hu : Upd R w w') (hr : ∀ j, R j → j < lo ∨ hi ≤ j) : RowsR w' lo hi A n rs :=
  ⟨h.1, fun hn => by
    obtain ⟨g, vs, cs, e, h1, h2, h3, h4, h5⟩ := h.2 hn
    exact ⟨g, vs, cs, e, h1, h2, (hu.block g (Array.getElem?_eq_some_iff.1 h3).1 (fun e => by have := hr g e; omega)).trans h3, h4, h5.upd hu hr⟩⟩
theorem RowsR.below (h : RowsR w lo hi A n rs) {B : Nat} (hu : Below B w w') (hB : hi ≤ B) : RowsR w' lo hi A n rs := h.upd (Below.toUpd hu) (fun j hj => by omega)
theorem RowsR.ints (h : RowsR w lo hi A n rs) (hB : hi ≤ B) : IntsS w B A n rs :=
  ⟨h.1, fun hn => by
    obtain ⟨g, vs, cs, e, h1, h2, h3, h4, h5⟩ := h.2 hn
    refine ⟨g, 0, e, by omega, fun j hj => ?_⟩
    obtain ⟨A', c', l, m, g1, g2, g3, g4, _⟩ := h5.at_ j (by rw [h.1]; exact hj)
    exact ⟨A', c', by rw [Nat.zero_add, cell_of_row w g j _ _ (0, 0) h3]; exact h4 j _ g1, g4.ints (by omega)⟩⟩
theorem IntsS.len (h : IntsS w B A n rs) : rs.length = n := h.1
theorem IntsS.at_ (h : IntsS w B A n rs) {k : Nat} (hk : k < n) : ∃ b off, A = some ⟨b, off, none⟩ ∧ b < B ∧ ∀ j, j < n → ∃ A' c', w.cell? ⟨b, off + j, none⟩ = some (.slice A' (rs[j]?.getD []).length c') ∧ Ints w B A' (rs[j]?.getD []).length (rs[j]?.getD []) := h.2 (by omega)
theorem IntsS.drewN (h : IntsS w B A n rs) (k : Nat) : IntsS (w.drewN k) B A n rs := h
theorem IntsS.keep (h : IntsS w B A n rs) (hk : ∀ p : Addr, p.block < B → w'.cell? p = w.cell? p) : IntsS w' B A n rs :=
  ⟨h.1, fun hn => by
    obtain ⟨b, off, e, hb, hc⟩ := h.2 hn
    refine ⟨b, off, e, hb, fun j hj => ?_⟩
    obtain ⟨A', c', h1, h2⟩ := hc j hj
    exact ⟨A', c', (hk _ hb).trans h1, h2.keep hk⟩⟩
theorem IntsS.more {B' : Nat} (h : IntsS w B A n rs) (hB : B ≤ B') : IntsS w B' A n rs :=
  ⟨h.1, fun hn => by
    obtain ⟨b, off, e, hb, hc⟩ := h.2 hn
    refine ⟨b, off, e, by omega, fun j hj => ?_⟩
    obtain ⟨A', c', h1, h2⟩ := hc j hj
    exact ⟨A', c', h1, h2.more hB⟩⟩
theorem IntsS.below (h : IntsS w B A n rs) (hb : Below B w w') : IntsS w' B A n rs := h.keep fun _ hp => hb.cell hp
theorem IntsS.to (h : IntsS w B A n rs) {B' C : Nat} (hb : Below B' w w') (hB : B ≤ B') (hC : B ≤ C) : IntsS w' C A n rs := (h.below (hb.mono hB)).more hC
end

theorem quiet_any {P : Program} {f : FuncId} {args : Array Value} {w : World} {a n : Nat} {v : Value}
    (h : Calls P f args (w.drewN (a + n)) fun e w' => e = .returned v ∧ ∃ m, w' = (w.drewN (a + n)).drewN m) :
    Calls P f args (w.drewN (a + n)) fun e w'' => e = .returned v ∧ ∃ m, w'' = w.drewN (a + m) :=
  h.mono fun _ _ ⟨he, m, hm⟩ => ⟨he, n + m, by rw [hm, World.drewN_drewN, Nat.add_assoc]⟩
/-- What a function that hands back new rows does. -/
def GivesRows (w : World) (rs : List (List Int)) (e : Ending) (w' : World) : Prop := ∃ A n c, e = .returned (.slice A n c) ∧ RowsR w' w.heap.size w'.heap.size A n rs ∧ Below w.heap.size w w'
end Go.Proofs.YtmlihbcffndnbabDoor

/- One element appended to a row of the call's own: where the row lies afterwards is told. -/
namespace Go.Proofs.YtmlihbcffndnbabDoor
open Go.RowKit

theorem infoRow : (Tryd.prog.info? 22).map (fun i => (i.zero, i.size, i.bytes)) = some (some (.slice none 0 0), 1, 24) := by kernel_rfl

section
variable {P : Program} (w : World)
theorem wpList_append1 {ops : Array Oper} {rest : List Oper} {o : Oper} {a : Act} {Q : Exit → Act → World → Prop} (hgd : o.guard = none) (s x : Operand) (t : TypeId)
    (ho : o.op = .call { callee := .builtin .append, args := #[s, x], argTypes := #[t, t] })
    (base : Nat) (e : TypeId) (i : TypeInfo) (z : Value) (bytes : Nat) (ht : P.underlying t = some (.slice e)) (hi : P.info? e = some i) (hz : i.zero = some z)
    (hsize : i.size = 1) (hby : i.bytes = bytes) (hzs : z.cells.size = 1)
    (v : Value) (n : Nat) (xs : List Value) (hs : a.eval s = v) (hown : w.ownsRow base e 1 v n xs)
    (b c : Nat) (u : Value) (hx : a.eval x = .slice (some ⟨b, 0, none⟩) 1 c) (hu : w.cell? ⟨b, 0, none⟩ = some u) (h1 : u.oneCell' = true)
    (h63 : n + 1 ≤ 1152921504606846976) (hbytes : (n + 1) * bytes ≤ 140737488355328) (hbase : base ≤ w.heap.size)
    (h : ∀ v' w', w'.ownsRow base e 1 v' (n + 1) (xs ++ [u]) → w.grownBy w' v.ownBlock → (v'.ownBlock = v.ownBlock ∨ v'.ownBlock = some w.heap.size) → wpList P ops Q rest (a.put o.dst v') w') : wpList P ops Q (o :: rest) a w := by
  obtain ⟨v', w', hrun, h2, h3, _, h5⟩ := run_append_own_at (P := P) w base t o.type e i z 1 bytes ht hi hz hsize hby hzs (by omega) v n xs hown ⟨b, 0, none⟩ 1 c [u] (by simp) (fun j u' hj => by
    cases j with
    | zero => simp at hj; subst hj; simpa [Addr.add] using hu
    | succ j => simp at hj) (fun u' hu' => by rw [List.mem_singleton.1 hu']; exact h1) (by simp only [maxLen]; omega) hbytes hbase
  refine wpList_plain hgd fun K hK => ?_
  unfold Oper.wp execOp
  simp only [ho, resolve, invoke, builtin, Sem.run_bind, Sem.run_pure, Result.andThen_ok, List.map_toArray, List.map_cons, List.map_nil, hs, hx, hrun]
  exact hK _ _ (h v' w' h2 h3 h5)

theorem wpListIn_append1 {F : Fence} {m : Nat} {ops : Array Oper} {rest : List Oper} {o : Oper} {a : Act} {Q : Exit → Act → World → Prop} (hgd : o.guard = none) (s x : Operand) (t : TypeId)
    (ho : o.op = .call { callee := .builtin .append, args := #[s, x], argTypes := #[t, t] })
    (base : Nat) (e : TypeId) (i : TypeInfo) (z : Value) (bytes : Nat) (ht : P.underlying t = some (.slice e)) (hi : P.info? e = some i) (hz : i.zero = some z)
    (hsize : i.size = 1) (hby : i.bytes = bytes) (hzs : z.cells.size = 1)
    (v : Value) (n : Nat) (xs : List Value) (hs : a.eval s = v) (hown : w.ownsRow base e 1 v n xs)
    (b c : Nat) (u : Value) (hx : a.eval x = .slice (some ⟨b, 0, none⟩) 1 c) (hu : w.cell? ⟨b, 0, none⟩ = some u) (h1 : u.oneCell' = true)
    (h63 : n + 1 ≤ 1152921504606846976) (hbytes : (n + 1) * bytes ≤ 140737488355328) (hbase : base ≤ w.heap.size)
    (h : ∀ v' w', w'.ownsRow base e 1 v' (n + 1) (xs ++ [u]) → w.grownBy w' v.ownBlock → (v'.ownBlock = v.ownBlock ∨ v'.ownBlock = some w.heap.size) → wpListIn F m P ops Q rest (a.put o.dst v') w') : wpListIn F m P ops Q (o :: rest) a w := by
  obtain ⟨v', w', hrun, h2, h3, _, h5⟩ := run_append_own_at (P := P) w base t o.type e i z 1 bytes ht hi hz hsize hby hzs (by omega) v n xs hown ⟨b, 0, none⟩ 1 c [u] (by simp) (fun j u' hj => by
    cases j with
    | zero => simp at hj; subst hj; simpa [Addr.add] using hu
    | succ j => simp at hj) (fun u' hu' => by rw [List.mem_singleton.1 hu']; exact h1) (by simp only [maxLen]; omega) hbytes hbase
  refine wpListIn_plain hgd fun K hK => ?_
  unfold Oper.wpIn
  refine ⟨?_, ?_⟩
  · simp [Oper.about, ho, resolve, Target.leads, Sem.run_pure]
  · rw [Oper.semAt_plain F _ _ (by rw [ho]; intro c hc'; cases hc')]
    simp [execOp, ho, resolve, invoke, builtin, hs, hx, hrun, Result.andThen]
    exact hK _ _ (h v' w' h2 h3 h5)
end

section
variable {w w' : World} {base n : Nat} {e : TypeId} {v : Value}
/-- An owned row of numbers reads as such. -/
theorem ints_of_own {zs : List Int} (h : w.ownsRow base e 1 v n (zs.map (Value.int .i64))) : ∃ A c, v = .slice A n c ∧ Ints w w.heap.size A n zs := by
  have hl : zs.length = n := by simpa using h.1
  rcases h.2 with ⟨rfl, rfl⟩ | ⟨g, cap, cur, rfl, _, hg, _⟩
  · obtain rfl : zs = [] := List.eq_nil_of_length_eq_zero hl
    exact ⟨none, 0, rfl, Ints.nil _ _ _⟩
  · refine ⟨_, cap, rfl, hl, fun _ => ⟨g, 0, rfl, (Array.getElem?_eq_some_iff.1 hg).1, fun j hj => ?_⟩⟩
    have := h.cells (g := g) rfl j (.int .i64 (zs[j]?.getD 0)) (by
      rw [List.getElem?_map, List.getElem?_eq_getElem (by omega)]; simp)
    have e : (⟨g, 0, none⟩ : Addr).add j = ⟨g, j, none⟩ := by
      unfold Addr.add
      by_cases h0 : j = 0 <;> simp [h0]
    rw [Nat.zero_add, ← e]
    exact this
theorem ints_of_own_at {zs : List Int} (h : w.ownsRow base e 1 v n (zs.map (Value.int .i64))) : ∃ A c, v = .slice A n c ∧ Ints w w.heap.size A n zs ∧ ∀ p, A = some p → base ≤ p.block := by
  obtain ⟨A, c, rfl, hI⟩ := ints_of_own h
  refine ⟨A, c, rfl, hI, fun p hp => ?_⟩
  rcases h.2 with ⟨e, _⟩ | ⟨g, cap, cur, e, hg, _⟩
  · cases e; cases hp
  · cases e; cases hp; exact hg
theorem Ints.grown {zs : List Int} {B : Nat} {A : Option Addr} {row : Option Nat} (h : Ints w B A n zs) (hB : B ≤ w.heap.size) (hg : w.grownBy w' row) (hne : ∀ p k, A = some p → row = some k → p.block < B → p.block ≠ k) : Ints w' B A n zs :=
  ⟨h.1, fun hn => by
    obtain ⟨b, off, e, hb, hc⟩ := h.2 hn
    exact ⟨b, off, e, hb, fun j hj => (World.cell?_of_block (hg.block b (by omega) (fun e' => hne _ b e e'.symm hb rfl))).trans (hc j hj)⟩⟩
end
end Go.Proofs.YtmlihbcffndnbabDoor

/- 'isNext': no item between two items. -/
namespace Go.Proofs.YtmlihbcffndnbabDoor
open Go.RowKit Go.Shelf
attribute [local go_sem] Oper.semAt_some
attribute [local go_sem, local simp] wide_fn

def nextB (zs : List Int) (lo hi : Nat) : Bool := (itemsL (zs[lo]?.getD 0)).all fun x => !bitB (zs[x]?.getD 0) hi
theorem nextB_not {zs : List Int} {lo hi : Nat} {pre : List Nat} {x : Nat} (hp : pre ++ [x] <+: itemsL (zs[lo]?.getD 0)) (h : bitB (zs[x]?.getD 0) hi = true) : nextB zs lo hi = false := by
  obtain ⟨t, ht⟩ := hp
  unfold nextB
  rw [← ht]
  simp [h]

end Go.Proofs.YtmlihbcffndnbabDoor

/- CoversOf: the model's. -/
namespace Go.Proofs.YtmlihbcffndnbabDoor
open Go.RowKit

/-- What is left of the items above a when what is above the first b of them is taken away. -/
def coverTo (zs : List Int) (a : Nat) : Nat → Int
  | 0 => zs[a]?.getD 0
  | b + 1 => if bitB (zs[a]?.getD 0) b then lessI (coverTo zs a b) (zs[b]?.getD 0) else coverTo zs a b
theorem coverTo_bd {zs : List Int} (h : Sets zs) {a : Nat} (ha : a < zs.length) : ∀ b : Nat, 0 ≤ coverTo zs a b ∧ coverTo zs a b ≤ zs[a]?.getD 0
  | 0 => ⟨(h.bd a ha).1, Int.le_refl _⟩
  | b + 1 => by
    have ih := coverTo_bd h ha b
    unfold coverTo
    split
    · have := lessI_bd (coverTo zs a b) (zs[b]?.getD 0)
      omega
    · exact ih
theorem coverTo_yes {zs : List Int} {a b : Nat} (h : bitB (zs[a]?.getD 0) b = true) : coverTo zs a (b + 1) = lessI (coverTo zs a b) (zs[b]?.getD 0) := by simp [coverTo, h]
theorem coverTo_no {zs : List Int} {a b : Nat} (h : bitB (zs[a]?.getD 0) b = false) : coverTo zs a (b + 1) = coverTo zs a b := by simp [coverTo, h]

theorem own_new (w : World) (e : TypeId) : (w.alloc (.cells #[] e)).ownsRow w.heap.size e 1 (.slice (some ⟨w.heap.size, 0, none⟩) 0 0) 0 [] :=
  ⟨rfl, .inr ⟨w.heap.size, 0, #[], rfl, Nat.le_refl _, by show (w.heap.push _)[w.heap.size]? = _; simp, Nat.le_refl _, by simp [maxLen], rfl, rfl⟩⟩
theorem cell_new (w : World) (e : TypeId) (u : Value) : (w.alloc (.cells #[u] e)).cell? ⟨w.heap.size, 0, none⟩ = some u := (Boxed.new w e u).cell
theorem own_base {w : World} {base n : Nat} {e : TypeId} {v : Value} {xs : List Value} (h : w.ownsRow base e 1 v n xs) : ∀ k, v.ownBlock = some k → base ≤ k := fun k hk => by
  rcases h.2 with ⟨rfl, _⟩ | ⟨g, cap, cur, rfl, hg, _⟩
  · cases hk
  · cases hk; exact hg

end Go.Proofs.YtmlihbcffndnbabDoor

/- 'listOf': the items of a set. -/
namespace Go.Proofs.YtmlihbcffndnbabDoor
open Go.RowKit

/-- Shifted past all items. -/
theorem shr_over {s : Int} {j : Nat} (h0 : 0 ≤ s) : (0 < s / 2 ^ j) ↔ powI j ≤ s := by
  have hp : (0 : Int) < 2 ^ j := Int.pow_pos (by omega)
  unfold powI
  rw [Int.toNat_natCast]
  constructor
  · intro h
    by_cases hs : 2 ^ j ≤ s
    · exact hs
    · rw [Int.ediv_eq_zero_of_lt h0 (by omega)] at h; omega
  · intro h
    exact Int.lt_iff_add_one_le.2 ((Int.le_ediv_iff_mul_le hp).2 (by omega))

end Go.Proofs.YtmlihbcffndnbabDoor

/- Rows of rows under way: each row in a block of its own, their slices in a row that grows by append. -/
namespace Go.Proofs.YtmlihbcffndnbabDoor
open Go.RowKit

theorem infoRow_parts : ∃ i : TypeInfo, Tryd.prog.info? 22 = some i ∧ i.zero = some (.slice none 0 0) ∧ i.size = 1 ∧ i.bytes = 24 := by
  have h := infoRow
  cases hi : Tryd.prog.info? 22 with
  | none => rw [hi] at h; cases h
  | some i =>
    rw [hi] at h
    simp only [Option.map_some, Option.some.injEq, Prod.mk.injEq] at h
    exact ⟨i, rfl, h.1, h.2.1, h.2.2⟩

section
variable {w w' : World} {lo hi : Nat}
/-- What turns one block of slices leaves the rows. -/
theorem RowsC.grown : ∀ {lo hi : Nat} {vs : List Value} {rs : List (List Int)}, RowsC w lo hi vs rs → hi ≤ w.heap.size → ∀ {row : Option Nat}, w.grownBy w' row →
    (∀ g, row = some g → ∃ cs, w.heap[g]? = some (.cells cs 22 (0, 0))) → RowsC w' lo hi vs rs
  | _, _, [], [], h, _, _, _, _ => h
  | _, _, _ :: _, _ :: _, ⟨A, c, mid, e, h1, hr, h2⟩, hh, row, hg, ht => by
    refine ⟨A, c, mid, e, h1, ⟨hr.1, fun hn => ?_⟩, h2.grown hh hg ht⟩
    obtain ⟨b, ys, eb, hl, hb, hA⟩ := hr.2 hn
    refine ⟨b, ys, eb, hl, hb, (hg.block b hA.lt (fun e => ?_)).trans hA⟩
    obtain ⟨cs, hcs⟩ := ht b e.symm
    unfold Arr at hA
    rw [hcs] at hA
    cases hA

theorem RowsC.sooner : ∀ {lo lo' hi : Nat} {vs : List Value} {rs : List (List Int)}, RowsC w lo hi vs rs → lo' ≤ lo → RowsC w lo' hi vs rs
  | _, _, _, [], [], h, h' => Nat.le_trans h' h
  | _, _, _, _ :: _, _ :: _, ⟨A, c, mid, e, h1, hr, h2⟩, h' => ⟨A, c, mid, e, Nat.le_trans h' h1, hr.more h' (Nat.le_refl _), h2⟩
theorem RowsR.sooner {lo lo' hi n : Nat} {A : Option Addr} {rs : List (List Int)} (h : RowsR w lo hi A n rs) (hl : lo' ≤ lo) : RowsR w lo' hi A n rs :=
  ⟨h.1, fun hn => by
    obtain ⟨g, vs, cs, e, h1, h2, h3, h4, h5⟩ := h.2 hn
    exact ⟨g, vs, cs, e, by omega, h2, h3, h4, h5.sooner hl⟩⟩

/-- The rows so far: v is their row, all in blocks from B on. -/
def Rowed (w : World) (B : Nat) (v : Value) (rs : List (List Int)) : Prop := ∃ vs, w.ownsRow B 22 1 v rs.length vs ∧ RowsC w B w.heap.size vs rs ∧ B ≤ w.heap.size
theorem Rowed.base {B : Nat} {v : Value} {rs : List (List Int)} (h : Rowed w B v rs) : ∀ k, v.ownBlock = some k → B ≤ k := by
  obtain ⟨vs, h1, _⟩ := h
  exact own_base h1
theorem Rowed.new (w : World) : Rowed (w.alloc (.cells #[] 22)) w.heap.size (.slice (some ⟨w.heap.size, 0, none⟩) 0 0) [] := ⟨[], own_new _ _, by simp [RowsC], by simp⟩
theorem own_block {base n : Nat} {e : TypeId} {v : Value} {xs : List Value} (h : w.ownsRow base e 1 v n xs) : ∀ g, v.ownBlock = some g → ∃ cs, w.heap[g]? = some (.cells cs e (0, 0)) := fun k hk => by
  rcases h.2 with ⟨rfl, _⟩ | ⟨g, cap, cur, rfl, hg, hc, _⟩
  · cases hk
  · cases hk; exact ⟨cur, hc⟩
theorem Rowed.keep {B : Nat} {v : Value} {rs : List (List Int)} {R : Nat → Prop} (h : Rowed w B v rs) (hu : Upd R w w') (hr : ∀ j, R j → j < B ∨ w.heap.size ≤ j) : Rowed w' B v rs := by
  obtain ⟨vs, h1, h2, h3⟩ := h
  refine ⟨vs, ?_, (h2.upd hu hr).more hu.size, Nat.le_trans h3 hu.size⟩
  refine ⟨h1.1, ?_⟩
  rcases h1.2 with e | ⟨g, cap, cur, rfl, hg, hc, hrest⟩
  · exact .inl e
  · exact .inr ⟨g, cap, cur, rfl, hg, (hu.block g (Array.getElem?_eq_some_iff.1 hc).1 (fun e => by have := hr g e; have := (Array.getElem?_eq_some_iff.1 hc).1; omega)).trans hc, hrest⟩
/-- A row of two, and its slice appended. -/
theorem Rowed.step {B n : Nat} {v v' : Value} {rs : List (List Int)} {vs : List Value} {a b : Int} (h1 : w.ownsRow B 22 1 v n vs) (hn : n = rs.length) (h2 : RowsC w B w.heap.size vs rs) (hB : B ≤ w.heap.size)
    (hown : w'.ownsRow B 22 1 v' (n + 1) (vs ++ [.slice (some ⟨w.heap.size, 0, none⟩) 2 2]))
    (hg : ((w.alloc (.cells #[.int .i64 a, .int .i64 b] 3)).alloc (.cells #[.slice (some ⟨w.heap.size, 0, none⟩) 2 2] 22)).grownBy w' v.ownBlock) : Rowed w' B v' (rs ++ [[a, b]]) := by
  have hu : Upd (fun _ => False) w ((w.alloc (.cells #[.int .i64 a, .int .i64 b] 3)).alloc (.cells #[.slice (some ⟨w.heap.size, 0, none⟩) 2 2] 22)) := ((Upd.refl _ w).alloc _).alloc _
  have h3 := h2.upd hu (fun j e => e.elim)
  have hA : Arr (w.alloc (.cells #[.int .i64 a, .int .i64 b] 3)) w.heap.size 3 [a, b] := heap_alloc_new w _
  have h4 := h3.snoc (hi' := w.heap.size + 1 + 1) (r := [a, b]) (c := 2) (Row.of (hA.alloc _) rfl (Nat.le_refl _) (by omega)) (by omega)
  have h5 := h4.grown (by simp) hg (own_block (h1.alloc _ |>.alloc _))
  refine ⟨_, by rw [List.length_append, ← hn]; exact hown, h5.more (by have := hg.size; simpa using this), by have := hg.size; simp at this; omega⟩
/-- At the end. -/
theorem Rowed.rows {B : Nat} {v : Value} {rs : List (List Int)} (h : Rowed w B v rs) : ∃ A c, v = .slice A rs.length c ∧ RowsR w B w.heap.size A rs.length rs := by
  obtain ⟨vs, h1, h2, h3⟩ := h
  rcases h1.2 with ⟨rfl, hn⟩ | ⟨g, cap, cur, rfl, hg, hc, _, _, _, ht⟩
  · obtain rfl : rs = [] := List.eq_nil_of_length_eq_zero hn
    exact ⟨none, 0, rfl, RowsR.nil _ _ _ _⟩
  · refine ⟨_, cap, rfl, rfl, fun _ => ⟨g, vs, cur, rfl, hg, (Array.getElem?_eq_some_iff.1 hc).1, hc, fun j u hj => ?_, h2⟩⟩
    rw [← ht, List.getElem?_take] at hj
    split at hj
    · simpa using hj
    · cases hj
end
end Go.Proofs.YtmlihbcffndnbabDoor

/- CoversOf: the model's and the program's. -/
namespace Go.Proofs.YtmlihbcffndnbabDoor
open Go.RowKit Go.Shelf
attribute [local go_sem] Oper.semAt_some
attribute [local go_sem, local simp] wide_fn

theorem coverTo_bit {zs : List Int} {a x : Nat} : ∀ b : Nat, bitB (coverTo zs a b) x = (bitB (zs[a]?.getD 0) x && (List.range b).all fun y => !(bitB (zs[a]?.getD 0) y && bitB (zs[y]?.getD 0) x))
  | 0 => by simp [coverTo]
  | b + 1 => by
    have ih := coverTo_bit (zs := zs) (a := a) (x := x) b
    rw [List.range_succ, List.all_append, List.all_cons, List.all_nil, Bool.and_true]
    cases h : bitB (zs[a]?.getD 0) b
    · rw [coverTo_no h, ih]; simp
    · rw [coverTo_yes h, bitB_less, ih, Bool.and_assoc]; simp
theorem coverTo_items {zs : List Int} (h : Sets zs) {a : Nat} (ha : a < zs.length) : itemsL (coverTo zs a zs.length) = (itemsL (zs[a]?.getD 0)).filter (nextB zs a) := by
  unfold itemsL itemsTo
  rw [List.filter_filter]
  refine List.filter_congr fun x hx => ?_
  rw [coverTo_bit, Bool.and_comm]
  congr 1
  unfold nextB
  rw [Bool.eq_iff_iff]
  simp only [List.all_eq_true, List.mem_range, Bool.not_eq_true', itemsL, mem_itemsTo, Bool.and_eq_false_iff]
  constructor
  · rintro h1 y ⟨_, hy⟩
    have hyn := bitB_lt (h.2 a ha).2 hy
    rcases h1 y hyn with h2 | h2
    · rw [hy] at h2; cases h2
    · exact h2
  · intro h1 y hy
    cases hb : bitB (zs[a]?.getD 0) y
    · exact .inl rfl
    · exact .inr (h1 y ⟨by have := h.1; omega, hb⟩)

def rowOf (p : Nat × Nat) : List Int := [(p.1 : Int), (p.2 : Int)]
def covTo (zs : List Int) (k : Nat) : List (Nat × Nat) := (List.range k).flatMap fun a => (itemsL (coverTo zs a zs.length)).map fun b => (a, b)
theorem covTo_succ (zs : List Int) (k : Nat) : covTo zs (k + 1) = covTo zs k ++ (itemsL (coverTo zs k zs.length)).map fun b => (k, b) := by simp [covTo, List.range_succ]
theorem covTo_len {zs : List Int} : ∀ k : Nat, (covTo zs k).length ≤ 6 * k
  | 0 => by simp [covTo]
  | k + 1 => by
    have ih := covTo_len (zs := zs) k
    have h1 : (itemsL (coverTo zs k zs.length)).length ≤ 6 := Nat.le_trans (List.length_filter_le _ _) (by simp)
    rw [covTo_succ]
    simp
    omega
def coverB (zs : List Int) (p : Nat × Nat) : Bool := nextB zs p.1 p.2
theorem cov_pairs {zs : List Int} (h : Sets zs) : covTo zs zs.length = (pairsL zs).filter (coverB zs) := by
  have key : ∀ k, k ≤ zs.length → covTo zs k = (pairsTo zs k).filter (coverB zs) := fun k => by
    induction k with
    | zero => intro _; rfl
    | succ k ih =>
      intro hk
      rw [covTo_succ, pairsTo_succ, List.filter_append, ih (by omega), coverTo_items h (by omega), List.filter_map]
      rfl
  exact key _ (Nat.le_refl _)
def coversR (zs : List Int) : List (List Int) := if vo zs then (covTo zs zs.length).map rowOf else []
theorem pairs_len {zs : List Int} (h : zs.length ≤ 6) : (pairsL zs).length ≤ 36 := by
  have key : ∀ k, (pairsTo zs k).length ≤ 6 * k := fun k => by
    induction k with
    | zero => simp [pairsTo]
    | succ k ih =>
      have h1 : (itemsL (zs[k]?.getD 0)).length ≤ 6 := Nat.le_trans (List.length_filter_le _ _) (by simp)
      rw [pairsTo_succ]
      simp
      omega
  have := key zs.length
  unfold pairsL
  omega
def covAt (zs : List Int) (n a j : Nat) : List (List Int) := (covTo zs a).map rowOf ++ ((itemsL (coverTo zs a n)).take j).map fun b => rowOf (a, b)
theorem covAt_zero (zs : List Int) (n a : Nat) : covAt zs n a 0 = (covTo zs a).map rowOf := by simp [covAt]
theorem covAt_all {zs : List Int} {n a : Nat} (h : zs.length = n) : covAt zs n a (itemsL (coverTo zs a n)).length = (covTo zs (a + 1)).map rowOf := by
  subst h
  simp [covAt, covTo_succ, Function.comp_def]
theorem covAt_succ {zs : List Int} {n a j : Nat} (hj : j < (itemsL (coverTo zs a n)).length) : covAt zs n a j ++ [[(a : Int), ((itemsL (coverTo zs a n)).map fun x : Nat => (x : Int))[j]?.getD 0]] = covAt zs n a (j + 1) := by
  rw [covAt, covAt, List.take_succ_eq_append_getElem hj, List.map_append, ← List.append_assoc]
  simp [rowOf, hj]
theorem covAt_len {zs : List Int} {n a j : Nat} (ha : a < 6) : (covAt zs n a j).length ≤ 36 := by
  have h1 := covTo_len (zs := zs) a
  have h2 : (itemsL (coverTo zs a n)).length ≤ 6 := Nat.le_trans (List.length_filter_le _ _) (by simp)
  have h3 : ((itemsL (coverTo zs a n)).take j).length ≤ 6 := by rw [List.length_take]; omega
  simp only [covAt, List.length_append, List.length_map]
  omega

theorem own_lt {w : World} {B : Nat} {v : Value} {rs : List (List Int)} (h : Rowed w B v rs) : ∀ k, v.ownBlock = some k → k < w.heap.size := fun k hk => by
  obtain ⟨vs, h1, _⟩ := h
  obtain ⟨cs, hcs⟩ := own_block h1 k hk
  exact (Array.getElem?_eq_some_iff.1 hcs).1
theorem cell_new2 (w : World) (o : Obj) (e : TypeId) (u : Value) : ((w.alloc o).alloc (.cells #[u] e)).cell? ⟨w.heap.size + 1, 0, none⟩ = some u := by
  have h := cell_new (w.alloc o) e u
  rwa [World.size_alloc] at h
end Go.Proofs.YtmlihbcffndnbabDoor

/- HeightsOf: the model's and the program's. -/
namespace Go.Proofs.YtmlihbcffndnbabDoor
open Go.RowKit Go.Shelf
attribute [local go_sem] Oper.semAt_some
attribute [local go_sem, local simp] wide_fn

theorem swaps_snoc (ps : List (Nat × Nat)) (a b : Nat) : swaps (ps ++ [(a, b)]) = swaps ps ++ [(b, a)] := by simp [swaps]

end Go.Proofs.YtmlihbcffndnbabDoor

/- OrderOf: what follows. -/
namespace Go.Proofs.YtmlihbcffndnbabDoor
open Go.RowKit Go.Shelf

/-- One step: what is above m is put above l, if m is. -/
def fol1 (m : Nat) (d : List Int) (l : Nat) : List Int := if bitB (d[l]?.getD 0) m then d.set l (orI (d[l]?.getD 0) (d[m]?.getD 0)) else d
def folIn (m : Nat) (d : List Int) (b : Nat) : List Int := (List.range b).foldl (fol1 m) d
def folTo (n : Nat) (d : List Int) (a : Nat) : List Int := (List.range a).foldl (fun d m => folIn m d n) d
theorem folIn_succ (m : Nat) (d : List Int) (b : Nat) : folIn m d (b + 1) = fol1 m (folIn m d b) b := by simp [folIn, List.range_succ]
theorem folTo_succ (n : Nat) (d : List Int) (a : Nat) : folTo n d (a + 1) = folIn a (folTo n d a) n := by simp [folTo, List.range_succ]
def Fit (n : Nat) (d : List Int) : Prop := d.length = n ∧ ∀ j : Nat, 0 ≤ d[j]?.getD 0 ∧ d[j]?.getD 0 < powI n
theorem fol1_fit {n m l : Nat} {d : List Int} (h : Fit n d) : Fit n (fol1 m d l) := by
  unfold fol1
  split
  · refine ⟨by simpa using h.1, fun j => ?_⟩
    by_cases hj : l = j
    · subst hj
      by_cases hl : l < d.length
      · rw [List.getElem?_set_self hl]
        exact orI_bd (h.2 _).1 (h.2 _).2 (h.2 _).1 (h.2 _).2
      · rw [List.set_eq_of_length_le (by omega)]
        exact h.2 _
    · rw [List.getElem?_set_ne hj]
      exact h.2 j
  · exact h
theorem folIn_fit {n m : Nat} {d : List Int} (h : Fit n d) : ∀ b : Nat, Fit n (folIn m d b)
  | 0 => h
  | b + 1 => by rw [folIn_succ]; exact fol1_fit (folIn_fit h b)
theorem folTo_fit {n : Nat} {d : List Int} (h : Fit n d) : ∀ a : Nat, Fit n (folTo n d a)
  | 0 => h
  | a + 1 => by rw [folTo_succ]; exact folIn_fit (folTo_fit h a) n
theorem base_fit {n : Nat} {ps : List (Nat × Nat)} (h : ∀ p ∈ ps, p.1 < n) : Fit n (downP n ps) := ⟨downP_len _ _, fun j => downP_bd h j⟩

end Go.Proofs.YtmlihbcffndnbabDoor

/- OrderOf: the program's and the model's. -/
namespace Go.Proofs.YtmlihbcffndnbabDoor
open Go.RowKit Go.Shelf

/-- Whether a row is a pair of numbers of items. -/
def pairOk (n : Int) (r : List Int) : Bool := decide (r.length = 2) && inB (r[0]?.getD 0) 0 (n - 1) && inB (r[1]?.getD 0) 0 (n - 1)
def prOf (r : List Int) : Nat × Nat := ((r[1]?.getD 0).toNat, (r[0]?.getD 0).toNat)
def baseR (n : Nat) (rs : List (List Int)) : List Int := downP n (rs.map prOf)
def closR (n : Nat) (rs : List (List Int)) : List Int := folTo n (baseR n rs) n
def ordOk (n : Int) (rs : List (List Int)) : Bool := inB n 0 6 && rs.all (pairOk n) && vo (closR n.toNat rs)
def ordL (n : Int) (rs : List (List Int)) : List Int := if ordOk n rs then closR n.toNat rs else []
def GivesOrder (w : World) (n : Int) (rs : List (List Int)) (e : Ending) (w' : World) : Prop :=
  ∃ A m c, e = .returned (.tuple #[.slice A m c, .bool (ordOk n rs)]) ∧ Row w' w.heap.size w'.heap.size A m (ordL n rs) ∧ Below w.heap.size w w'

theorem inB_iff {a l h : Int} : inB a l h = true ↔ l ≤ a ∧ a ≤ h := by simp [inB]
theorem pairOk_iff {n : Int} {r : List Int} : pairOk n r = true ↔ r.length = 2 ∧ ((0 : Int) ≤ r[0]?.getD 0 ∧ r[0]?.getD 0 ≤ n - 1) ∧ ((0 : Int) ≤ r[1]?.getD 0 ∧ r[1]?.getD 0 ≤ n - 1) := by
  simp [pairOk, inB_iff, and_assoc]
theorem baseR_fit {n : Nat} {rs : List (List Int)} (h : ∀ r ∈ rs, pairOk n r = true) : Fit n (baseR n rs) ∧ Sets (baseR n rs) ∨ 6 < n := by
  by_cases hn : n ≤ 6
  · have hf : Fit n (baseR n rs) := base_fit (fun p hp => by
      obtain ⟨r, hr, rfl⟩ := List.mem_map.1 hp
      have := pairOk_iff.1 (h r hr)
      show (r[1]?.getD 0).toNat < n
      omega)
    exact .inl ⟨hf, by rw [hf.1]; exact hn, fun a _ => by rw [hf.1]; exact hf.2 a⟩
  · exact .inr (by omega)
theorem baseR_snoc (n : Nat) (rs : List (List Int)) (r : List Int) : baseR n (rs ++ [r]) = (baseR n rs).set (r[0]?.getD 0).toNat (orI ((baseR n rs)[(r[0]?.getD 0).toNat]?.getD 0) (powI (r[1]?.getD 0).toNat)) := by
  rw [baseR, List.map_append, List.map_singleton, downP_snoc]; rfl
theorem take_snoc {rs : List (List Int)} {k : Nat} (hk : k < rs.length) : rs.take k ++ [rs[k]?.getD []] = rs.take (k + 1) := by
  rw [List.take_succ_eq_append_getElem hk, List.getElem?_eq_getElem hk]; rfl
theorem fit_sets {n : Nat} {d : List Int} (h : Fit n d) (hn : n ≤ 6) : Sets d := ⟨by rw [h.1]; exact hn, fun a _ => by rw [h.1]; exact h.2 a⟩
theorem ord_no {n : Int} {rs : List (List Int)} {k : Nat} (hk : k < rs.length) (h : pairOk n (rs[k]?.getD []) = false) : ordOk n rs = false := by
  unfold ordOk
  rw [List.getElem?_eq_getElem hk, Option.getD_some] at h
  have : rs.all (pairOk n) = false := by
    rw [Bool.eq_false_iff]
    intro ha
    rw [List.all_eq_true.1 ha _ (List.getElem_mem hk)] at h
    cases h
  rw [this]; simp
theorem none_order {w w' : World} {n : Int} {rs : List (List Int)} (h : ordOk n rs = false) (hB : Below w.heap.size w w') : GivesOrder w n rs (.returned (.tuple #[.slice none 0 0, .bool false])) w' :=
  ⟨none, 0, 0, by rw [h], by rw [ordL, h]; exact Row.nil _ _ _ _, hB⟩

end Go.Proofs.YtmlihbcffndnbabDoor

/- What follows: the closure by single items is transitive, and is the least one; of next ones it is the order. No program. -/
namespace Go.Proofs.YtmlihbcffndnbabDoor

/-- Whether d holds the pair. -/
def qB (d : List Int) (a b : Nat) : Prop := bitB (d[a]?.getD 0) b = true
theorem qB_lt {n : Nat} {d : List Int} (h : d.length = n) {a b : Nat} (hq : qB d a b) : a < n := by
  rcases Nat.lt_or_ge a n with h1 | h1
  · exact h1
  · unfold qB at hq
    rw [List.getElem?_eq_none (by omega), Option.getD_none, bitB_zero] at hq
    cases hq
theorem fol1_q {m l : Nat} {d : List Int} (hl : l < d.length) (a b : Nat) : qB (fol1 m d l) a b ↔ qB d a b ∨ (a = l ∧ qB d l m ∧ qB d m b) := by
  unfold fol1
  split
  · rename_i h
    unfold qB
    by_cases ha : l = a
    · subst ha
      rw [List.getElem?_set_self hl, Option.getD_some, bitB_or, Bool.or_eq_true]
      simp [h]
    · rw [List.getElem?_set_ne ha]
      have : ¬ a = l := fun e => ha e.symm
      simp [this]
  · rename_i h
    unfold qB
    simp [h]
theorem folIn_len (m : Nat) (d : List Int) : ∀ b : Nat, (folIn m d b).length = d.length
  | 0 => rfl
  | b + 1 => by
    rw [folIn_succ]
    unfold fol1
    split
    · rw [List.length_set, folIn_len m d b]
    · exact folIn_len m d b
theorem folIn_q {m : Nat} {d : List Int} : ∀ b' : Nat, b' ≤ d.length → ∀ a b : Nat, qB (folIn m d b') a b ↔ qB d a b ∨ (a < b' ∧ qB d a m ∧ qB d m b)
  | 0, _, a, b => by simp [folIn]
  | b' + 1, h, a, b => by
    have ih := folIn_q (m := m) (d := d) b' (by omega)
    rw [folIn_succ, fol1_q (by rw [folIn_len]; omega), ih a b, ih b' m, ih m b]
    constructor
    · rintro ((h1 | ⟨h1, h2⟩) | ⟨rfl, (h1 | ⟨h1, _⟩), (h2 | ⟨_, _, h2⟩)⟩)
      · exact .inl h1
      · exact .inr ⟨by omega, h2⟩
      · exact .inr ⟨by omega, h1, h2⟩
      · exact .inr ⟨by omega, h1, h2⟩
      · omega
      · omega
    · rintro (h1 | ⟨h1, h2, h3⟩)
      · exact .inl (.inl h1)
      · rcases Nat.lt_or_ge a b' with h4 | h4
        · exact .inl (.inr ⟨h4, h2, h3⟩)
        · obtain rfl : a = b' := by omega
          exact .inr ⟨rfl, .inl h2, .inl h3⟩
theorem folTo_len (n : Nat) (d : List Int) : ∀ k : Nat, (folTo n d k).length = d.length
  | 0 => rfl
  | k + 1 => by rw [folTo_succ, folIn_len, folTo_len n d k]
theorem folTo_q {n : Nat} {d : List Int} (hd : d.length = n) (k a b : Nat) : qB (folTo n d (k + 1)) a b ↔ qB (folTo n d k) a b ∨ (qB (folTo n d k) a k ∧ qB (folTo n d k) k b) := by
  rw [folTo_succ, folIn_q n (by rw [folTo_len, hd]; exact Nat.le_refl _)]
  constructor
  · rintro (h | ⟨_, h⟩)
    · exact .inl h
    · exact .inr h
  · rintro (h | h)
    · exact .inl h
    · exact .inr ⟨qB_lt (by rw [folTo_len, hd]) h.1, h⟩
theorem folTo_base {n : Nat} {d : List Int} (hd : d.length = n) {a b : Nat} (h : qB d a b) : ∀ k : Nat, qB (folTo n d k) a b
  | 0 => h
  | k + 1 => (folTo_q hd k a b).2 (.inl (folTo_base hd h k))
theorem folTo_trans {n : Nat} {d : List Int} (hd : d.length = n) : ∀ k x : Nat, x < k → ∀ a b : Nat, qB (folTo n d k) a x → qB (folTo n d k) x b → qB (folTo n d k) a b
  | 0, _, h, _, _, _, _ => by omega
  | k + 1, x, hx, a, b, h1, h2 => by
    have ih := folTo_trans hd k
    rw [folTo_q hd] at h1 h2 ⊢
    rcases Nat.lt_or_ge x k with hk | hk
    · rcases h1 with h1 | ⟨h1, h1'⟩ <;> rcases h2 with h2 | ⟨h2, h2'⟩
      · exact .inl (ih x hk a b h1 h2)
      · exact .inr ⟨ih x hk a k h1 h2, h2'⟩
      · exact .inr ⟨h1, ih x hk k b h1' h2⟩
      · exact .inr ⟨h1, h2'⟩
    · obtain rfl : x = k := by omega
      have g1 : qB (folTo n d x) a x := by rcases h1 with h | h; exact h; exact h.1
      have g2 : qB (folTo n d x) x b := by rcases h2 with h | h; exact h; exact h.2
      exact .inr ⟨g1, g2⟩
theorem folTo_le {n : Nat} {d : List Int} (hd : d.length = n) {P : Nat → Nat → Prop} (hP : ∀ a b c, P a b → P b c → P a c) (h : ∀ a b, qB d a b → P a b) : ∀ k a b : Nat, qB (folTo n d k) a b → P a b
  | 0, a, b, hq => h a b hq
  | k + 1, a, b, hq => by
    have ih := folTo_le hd hP h k
    rcases (folTo_q hd k a b).1 hq with h1 | ⟨h1, h2⟩
    · exact ih a b h1
    · exact hP _ _ _ (ih a k h1) (ih k b h2)

theorem baseR_q {n : Nat} {rs : List (List Int)} (h : ∀ r ∈ rs, pairOk n r = true) (a b : Nat) : qB (baseR n rs) a b ↔ ∃ r ∈ rs, (r[0]?.getD 0).toNat = a ∧ (r[1]?.getD 0).toNat = b := by
  unfold qB baseR
  rw [downP_bit (fun p hp => by
    obtain ⟨r, hr, rfl⟩ := List.mem_map.1 hp
    have := pairOk_iff.1 (h r hr)
    show (r[0]?.getD 0).toNat < n
    omega), List.mem_map]
  constructor
  · rintro ⟨r, hr, e⟩
    simp only [prOf, Prod.mk.injEq] at e
    exact ⟨r, hr, e.2, e.1⟩
  · rintro ⟨r, hr, e1, e2⟩
    exact ⟨r, hr, by simp [prOf, e1, e2]⟩
theorem baseR_len (n : Nat) (rs : List (List Int)) : (baseR n rs).length = n := downP_len _ _
theorem closR_len (n : Nat) (rs : List (List Int)) : (closR n rs).length = n := by unfold closR; rw [folTo_len, baseR_len]
/-- Each pair is in the order. -/
theorem closR_has {n : Nat} {rs : List (List Int)} (h : ∀ r ∈ rs, pairOk n r = true) {r : List Int} (hr : r ∈ rs) : bitB ((closR n rs)[(r[0]?.getD 0).toNat]?.getD 0) (r[1]?.getD 0) = true := by
  have hq := folTo_base (baseR_len n rs) ((baseR_q h _ _).2 ⟨r, hr, rfl, rfl⟩) n
  have hp := pairOk_iff.1 (h r hr)
  unfold qB at hq
  rw [Int.toNat_of_nonneg hp.2.2.1] at hq
  exact hq

/-- Each pair of the order follows from next ones. -/
theorem covers_make {zs : List Int} (h : VoP zs) : ∀ (k a b : Nat), lt zs a b → rank zs b - rank zs a ≤ k → qB (closR zs.length (coversR zs)) a b := by
  have hcr : coversR zs = (covTo zs zs.length).map rowOf := by unfold coversR; rw [vo_true h]; rfl
  have hall : ∀ r ∈ coversR zs, pairOk zs.length r = true := fun r hr => by
    rw [hcr] at hr
    obtain ⟨p, hp, rfl⟩ := List.mem_map.1 hr
    rw [cov_pairs h.sets] at hp
    obtain ⟨h1, h2, _⟩ := h.sets.pair (a := p.1) (b := p.2) ((List.mem_filter.1 hp).1)
    rw [pairOk_iff]
    simp [rowOf]
    omega
  have hbase : ∀ a b, lt zs a b → nextB zs a b = true → qB (closR zs.length (coversR zs)) a b := fun a b hl hn => by
    refine folTo_base (baseR_len _ _) ((baseR_q hall a b).2 ⟨rowOf (a, b), ?_, by simp [rowOf], by simp [rowOf]⟩) _
    rw [hcr, cov_pairs h.sets]
    exact List.mem_map.2 ⟨(a, b), List.mem_filter.2 ⟨pairs_lt h hl, hn⟩, rfl⟩
  intro k
  induction k with
  | zero =>
    intro a b hl hk
    have := rank_lt h hl
    omega
  | succ k ih =>
    intro a b hl hk
    cases hn : nextB zs a b with
    | true => exact hbase a b hl hn
    | false =>
      unfold nextB at hn
      rw [List.all_eq_false] at hn
      obtain ⟨x, hx, hb⟩ := hn
      have hzb := h.sets.bd a hl.1
      have hxa : lt zs a x := ⟨hl.1, (mem_itemsL hzb.2).1 hx⟩
      have hxn := h.lt_n hxa
      have hxb : lt zs x b := ⟨hxn, by simpa using hb⟩
      have r1 := rank_lt h hxa
      have r2 := rank_lt h hxb
      exact folTo_trans (baseR_len _ _) _ x hxn a b (ih a x hxa (by omega)) (ih x b hxb (by omega))
theorem covers_ok {zs : List Int} (h : VoP zs) : ∀ r ∈ coversR zs, pairOk zs.length r = true := fun r hr => by
  have hcr : coversR zs = (covTo zs zs.length).map rowOf := by unfold coversR; rw [vo_true h]; rfl
  rw [hcr] at hr
  obtain ⟨p, hp, rfl⟩ := List.mem_map.1 hr
  rw [cov_pairs h.sets] at hp
  obtain ⟨h1, h2, _⟩ := h.sets.pair (a := p.1) (b := p.2) ((List.mem_filter.1 hp).1)
  rw [pairOk_iff]
  simp [rowOf]
  omega
theorem clos_covers {zs : List Int} (h : VoP zs) : closR zs.length (coversR zs) = zs := by
  have hok := covers_ok h
  have hcr : coversR zs = (covTo zs zs.length).map rowOf := by unfold coversR; rw [vo_true h]; rfl
  have hfit : Fit zs.length (closR zs.length (coversR zs)) := folTo_fit (((baseR_fit hok).resolve_right (by have := h.1; omega)).1) _
  refine List.ext_getElem (by rw [closR_len]) fun a h1 h2 => ?_
  have e1 : (closR zs.length (coversR zs))[a]?.getD 0 = (closR zs.length (coversR zs))[a] := by rw [List.getElem?_eq_getElem h1]; rfl
  have e2 : zs[a]?.getD 0 = zs[a] := by rw [List.getElem?_eq_getElem h2]; rfl
  rw [← e1, ← e2]
  refine bitB_ext (hfit.2 a).1 (h.bd a h2).1 fun b => ?_
  rw [Bool.eq_iff_iff]
  constructor
  · intro hq
    refine (folTo_le (baseR_len _ _) (P := lt zs) (fun x y z => h.trans) (fun x y hxy => ?_) _ a b hq).2
    obtain ⟨r, hr, rfl, rfl⟩ := (baseR_q hok x y).1 hxy
    rw [hcr] at hr
    obtain ⟨p, hp, rfl⟩ := List.mem_map.1 hr
    rw [cov_pairs h.sets] at hp
    have := lt_pairs ((List.mem_filter.1 hp).1)
    simpa [rowOf] using this
  · intro hb
    exact covers_make h _ a b ⟨h2, hb⟩ (Nat.le_refl _)
theorem ord_covers {zs : List Int} (h : VoP zs) : ordOk zs.length (coversR zs) = true ∧ ordL zs.length (coversR zs) = zs := by
  have hok : ordOk (zs.length : Int) (coversR zs) = true := by
    unfold ordOk
    rw [Int.toNat_natCast, clos_covers h, vo_true h, List.all_eq_true.2 (covers_ok h)]
    have := h.1
    simp [inB]
    omega
  refine ⟨hok, ?_⟩
  unfold ordL
  rw [if_pos hok, Int.toNat_natCast, clos_covers h]
theorem covers_few {zs : List Int} (h : VoP zs) : (coversR zs).length ≤ 1048576 ∧ ∀ r ∈ coversR zs, r.length ≤ 1048576 := by
  refine ⟨?_, fun r hr => by have := (pairOk_iff.1 (covers_ok h r hr)).1; omega⟩
  have hcr : coversR zs = (covTo zs zs.length).map rowOf := by unfold coversR; rw [vo_true h]; rfl
  have h1 := covTo_len (zs := zs) zs.length
  have h2 := h.1
  rw [hcr, List.length_map]
  omega
/-- What an order made of pairs is. -/
theorem ord_is {n : Int} {rs : List (List Int)} (h : ordOk n rs = true) : VoP (ordL n rs) ∧ ((ordL n rs).length : Int) = n ∧ (∀ r ∈ rs, pairOk n r = true) ∧
    ∀ r ∈ rs, bitB ((ordL n rs)[(r[0]?.getD 0).toNat]?.getD 0) (r[1]?.getD 0) = true := by
  have h' := h
  unfold ordOk at h
  simp only [Bool.and_eq_true, List.all_eq_true] at h
  obtain ⟨⟨h1, h2⟩, h3⟩ := h
  have hn := inB_iff.1 h1
  have e : ordL n rs = closR n.toNat rs := by unfold ordL; rw [if_pos h']
  have hN : ((n.toNat : Nat) : Int) = n := by omega
  refine ⟨by rw [e]; simpa [vo] using h3, by rw [e, closR_len]; exact hN, h2, fun r hr => ?_⟩
  rw [e]
  exact closR_has (fun r hr => by rw [hN]; exact h2 r hr) hr
end Go.Proofs.YtmlihbcffndnbabDoor

/- A slice of bytes that reads as a list. -/
namespace Go.Proofs.YtmlihbcffndnbabDoor
open Go.RowKit

/-- The slice '.slice A n c' reads as the bytes bs, and lies below block B. -/
def Byts (w : World) (B : Nat) (A : Option Addr) (n : Nat) (bs : List Int) : Prop :=
  bs.length = n ∧ (∀ j : Nat, 0 ≤ bs[j]?.getD 0 ∧ bs[j]?.getD 0 < 256) ∧ (0 < n → ∃ b off, A = some ⟨b, off, none⟩ ∧ b < B ∧ ∀ j, j < n → w.cell? ⟨b, off + j, none⟩ = some (.int .u8 (bs[j]?.getD 0)))
section
variable {w w' : World} {B B' n : Nat} {A : Option Addr} {bs : List Int}
theorem Byts.len (h : Byts w B A n bs) : bs.length = n := h.1
theorem Byts.bd (h : Byts w B A n bs) (j : Nat) : 0 ≤ bs[j]?.getD 0 ∧ bs[j]?.getD 0 < 256 := h.2.1 j
theorem Byts.at_ {k : Nat} (h : Byts w B A n bs) (hk : k < n) : ∃ b off, A = some ⟨b, off, none⟩ ∧ b < B ∧ ∀ j, j < n → w.cell? ⟨b, off + j, none⟩ = some (.int .u8 (bs[j]?.getD 0)) := h.2.2 (by omega)
theorem Byts.keep (h : Byts w B A n bs) (hk : ∀ p : Addr, p.block < B → w'.cell? p = w.cell? p) : Byts w' B A n bs :=
  ⟨h.1, h.2.1, fun hn => by
    obtain ⟨b, off, e, hb, hc⟩ := h.2.2 hn
    exact ⟨b, off, e, hb, fun j hj => (hk _ hb).trans (hc j hj)⟩⟩
theorem Byts.below (h : Byts w B A n bs) (hb : Below B w w') : Byts w' B A n bs := h.keep fun _ hp => hb.cell hp
theorem Byts.more (h : Byts w B A n bs) (hB : B ≤ B') : Byts w B' A n bs :=
  ⟨h.1, h.2.1, fun hn => by
    obtain ⟨b, off, e, hb, hc⟩ := h.2.2 hn
    exact ⟨b, off, e, by omega, hc⟩⟩
theorem Byts.take (h : Byts w B A n bs) {m : Nat} (hm : m ≤ n) : Byts w B A m (bs.take m) :=
  ⟨by rw [List.length_take, h.1]; omega, fun j => by
    rw [List.getElem?_take]
    split
    · exact h.2.1 j
    · simp, fun hn => by
    obtain ⟨b, off, e, hb, hc⟩ := h.2.2 (by omega)
    exact ⟨b, off, e, hb, fun j hj => by rw [List.getElem?_take_of_lt hj]; exact hc j (by omega)⟩⟩
end
end Go.Proofs.YtmlihbcffndnbabDoor

/- The reader of pseudo-random numbers. -/
namespace Go.Proofs.YtmlihbcffndnbabDoor
open Go.RowKit Go.Shelf

set_option maxHeartbeats 1000000 in
theorem newReader_any (A : Option Addr) (n c : Nat) (bs : List Int) (w : World) (h : Byts w w.heap.size A n bs) (hcap : n ≤ c) (hbig : n ≤ 1152921504606846976) :
    Calls Tryd.prog 42 #[.slice A n c] w fun e w' => e = .returned (.pointer (some ⟨w.heap.size, 0, none⟩)) ∧ w' = w.alloc (.cells #[.slice A (min n 2000) c, .int .i64 0] 76) := by
  by_cases hn : n ≤ 2000
  · go_enter Tryd.func42, Tryd.ntmps42
    go_wp2
    go_ret
    exact ⟨rfl, by rw [Nat.min_eq_left hn]⟩
  · obtain ⟨b, off, rfl, hb, hc⟩ := h.at_ (k := 0) (by omega)
    go_enter Tryd.func42, Tryd.ntmps42
    go_wp2
    go_ret
    exact ⟨rfl, by rw [Nat.min_eq_right (by omega)]⟩

theorem bits_xor {a b : Int} (h0 : 0 ≤ a) (h1 : a < 4611686018427387904) (g0 : 0 ≤ b) (g1 : b < 4611686018427387904) : bits .xor .i64 a b = ((a.toNat ^^^ b.toNat : Nat) : Int) := by
  obtain ⟨a, rfl⟩ := Int.eq_ofNat_of_zero_le h0
  obtain ⟨b, rfl⟩ := Int.eq_ofNat_of_zero_le g0
  have hx : a ^^^ b < 2 ^ 62 := Nat.xor_lt_two_pow (by omega) (by omega)
  show IntKind.i64.wrap ((BitVec.ofInt 64 (a : Int) ^^^ BitVec.ofInt 64 (b : Int)).toNat : Int) = _
  rw [BitVec.toNat_xor, ofInt_i64n a (by omega), ofInt_i64n b (by omega), IntKind.wrap_i64]
  simp only [Int.toNat_natCast]
  omega

/-- The reader in block R, at position p, over at most 2000 bytes that lie below it. -/
def Rd (w : World) (R p : Nat) : Prop := ∃ A m c bs, m ≤ 2000 ∧ w.heap[R]? = some (.cells #[.slice A m c, .int .i64 (p : Int)] 76 (0, 0)) ∧ Byts w R A m bs
theorem Rd.lt {w : World} {R p : Nat} (h : Rd w R p) : R < w.heap.size := by
  obtain ⟨_, _, _, _, _, hh, _⟩ := h
  exact (Array.getElem?_eq_some_iff.1 hh).1
theorem Rd.upd {w w' : World} {R p : Nat} {S : Nat → Prop} (h : Rd w R p) (hu : Upd S w w') (hS : ∀ k, S k → R < k) : Rd w' R p := by
  have hl := h.lt
  obtain ⟨A, m, c, bs, hm, hh, hb⟩ := h
  exact ⟨A, m, c, bs, hm, (hu.block R hl (fun e => by have := hS R e; omega)).trans hh, hb.keep fun q hq => World.cell?_of_block (hu.block _ (by omega) (fun e => by have := hS _ e; omega))⟩
theorem Rd.below {w w' : World} {R p B : Nat} (h : Rd w R p) (hb : Below B w w') (hB : R < B) : Rd w' R p := h.upd (Below.toUpd hb) (fun k hk => by omega)

/-- What a picked number is. -/
def Picked (n v : Int) : Prop := (1 ≤ n → 0 ≤ v ∧ v < n) ∧ (n < 1 → v = 0)
theorem picked_mod {n x : Int} (hn : 1 ≤ n) (_hx : 0 ≤ x) : Picked n (x % n) :=
  ⟨fun _ => ⟨Int.emod_nonneg _ (by omega), Int.emod_lt_of_pos _ (by omega)⟩, fun h => by omega⟩

theorem picked_tmod {n x : Int} (hn : 1 ≤ n) (hx : 0 ≤ x) : Picked n (x.tmod n) :=
  ⟨fun _ => ⟨Int.tmod_nonneg _ hx, Int.tmod_lt_of_pos _ (by omega)⟩, fun h => by omega⟩

set_option maxRecDepth 100000 in
set_option maxHeartbeats 4000000 in
theorem pick_any (R p : Nat) (n : Int) (w : World) (h : Rd w R p) (hp : p ≤ 1000000) :
    Calls Tryd.prog 65 #[.pointer (some ⟨R, 0, none⟩), .int .i64 n] w fun e w' => ∃ v, e = .returned (.int .i64 v) ∧ Picked n v ∧ Rd w' R (p + 1) ∧ Upd (fun k => k = R) w w' := by
  obtain ⟨A, m, c, bs, hm, hh, hb⟩ := h
  have hc0 : w.cell? ⟨R, 0, none⟩ = some (.slice A m c) := by rw [cell_of_row w R 0 _ _ (0, 0) hh]; rfl
  have hc1 : w.cell? ⟨R, 1, none⟩ = some (.int .i64 (p : Int)) := by rw [cell_of_row w R 1 _ _ (0, 0) hh]; rfl
  have hf1 : w.frozen? ⟨R, 1, none⟩ = false := by simp [World.frozen?, hh]
  have hU : Upd (fun k => k = R) w (w.setCell ⟨R, 1, none⟩ (.int .i64 ((p : Int) + 1))) := (Upd.refl (fun k => k = R) w).setCell (p := ⟨R, 1, none⟩) (.inr rfl) _
  have hRd : Rd (w.setCell ⟨R, 1, none⟩ (.int .i64 ((p : Int) + 1))) R (p + 1) := ⟨A, m, c, bs, hm, by
    simp [World.setCell, Array.getElem?_modify, hh], hb.keep fun q hq => World.cell?_of_block (hU.block _ (by have := (Array.getElem?_eq_some_iff.1 hh).1; omega) (fun e => by omega))⟩
  by_cases hn : n < 1
  · go_enter Tryd.func65, Tryd.ntmps65
    go_wp2
    go_ret
    exact ⟨0, rfl, ⟨fun h => by omega, fun _ => rfl⟩, hRd, hU⟩
  · by_cases hm0 : m = 0
    · subst hm0
      go_enter Tryd.func65, Tryd.ntmps65
      go_wp2
      go_ret
      exact ⟨0, rfl, ⟨fun h => ⟨Int.le_refl _, by omega⟩, fun _ => rfl⟩, hRd, hU⟩
    · by_cases hpm : p < m
      · obtain ⟨b, off, rfl, hbb, hc⟩ := hb.at_ hpm
        have hcb := hc p hpm
        have hbd := hb.bd p
        have hcb' : (w.setCell ⟨R, 1, none⟩ (.int .i64 ((p : Int) + 1))).cell? ⟨b, off + p, none⟩ = some (.int .u8 (bs[p]?.getD 0)) := (World.cell?_of_block (hU.block b (by have := (Array.getElem?_eq_some_iff.1 hh).1; omega) (fun e => by omega))).trans hcb
        clear hc
        have hpk := picked_mod (n := n) (x := bs[p]?.getD 0) (by omega) hbd.1
        go_enter Tryd.func65, Tryd.ntmps65
        go_wp2
        go_ret
        exact ⟨_, rfl, hpk, hRd, hU⟩
      · obtain ⟨b, off, rfl, hbb, hc⟩ := hb.at_ (k := 0) (by omega)
        have hRl := (Array.getElem?_eq_some_iff.1 hh).1
        have hc' : ∀ j, j < m → (w.setCell ⟨R, 1, none⟩ (.int .i64 ((p : Int) + 1))).cell? ⟨b, off + j, none⟩ = some (.int .u8 (bs[j]?.getD 0)) := fun j hj => (World.cell?_of_block (hU.block b (by omega) (fun e => by omega))).trans (hc j hj)
        have k1 := hc' (p % m) (Nat.mod_lt _ (by omega))
        have k2 := hc' ((p * 7 + 3) % m) (Nat.mod_lt _ (by omega))
        have d1 := hb.bd (p % m)
        have d2 := hb.bd ((p * 7 + 3) % m)
        have e1 : (p : Int) % (m : Int) = ((p % m : Nat) : Int) := by simp
        have e2 : ((p : Int) * 7 + 3) % (m : Int) = (((p * 7 + 3) % m : Nat) : Int) := by simp
        have e3 : (p : Int) / (m : Int) = ((p / m : Nat) : Int) := by simp
        have l1 : p % m < m := Nat.mod_lt _ (by omega)
        have l2 : (p * 7 + 3) % m < m := Nat.mod_lt _ (by omega)
        have l3 : p / m ≤ p := Nat.div_le_self _ _
        clear hc hc'
        generalize p % m = q1 at *
        generalize (p * 7 + 3) % m = q2 at *
        generalize p / m = q3 at *
        generalize bs[q1]?.getD 0 = x1 at *
        generalize bs[q2]?.getD 0 = x2 at *
        go_enter Tryd.func65, Tryd.ntmps65
        go_wp2
        go_region
        have hx := bits_xor (a := x1 * 131 + x2 * 1117 + (p : Int) * 29 + (q3 : Int) * 53) (b := (x1 * 131 + x2 * 1117 + (p : Int) * 29 + (q3 : Int) * 53) / 64) (by omega) (by omega) (by omega) (by omega)
        go_wp2
        go_ret
        exact ⟨_, rfl, picked_mod (by omega) (by omega), hRd, hU.drew⟩

set_option maxHeartbeats 1000000 in
/-- One of a list's numbers. -/
theorem one_any (R p : Nat) (A : Option Addr) (n c B : Nat) (zs : List Int) (w : World) (h : Rd w R p) (hp : p ≤ 1000000) (hI : Ints w B A n zs) (hRB : ∀ b off, A = some ⟨b, off, none⟩ → b ≠ R) (hn : 0 < n) (hbig : n ≤ 1152921504606846976) :
    Calls Tryd.prog 66 #[.pointer (some ⟨R, 0, none⟩), .slice A n c] w fun e w' => ∃ v, e = .returned (.int .i64 v) ∧ v ∈ zs ∧ Rd w' R (p + 1) ∧ Upd (fun k => k = R) w w' := by
  have hlen := Lib.hid hI.len
  obtain ⟨b, off, rfl, hb, hc⟩ := hI.at_ (k := 0) hn
  have hbR := hRB b off rfl
  go_enter Tryd.func66, Tryd.ntmps66
  go_wp2_with fail
  refine (pick_any R p n w h hp).mono ?_
  rintro e w1 ⟨v, rfl, hv, hR1, hU1⟩
  obtain ⟨h0, h1⟩ := hv.1 (by omega)
  obtain ⟨k, rfl⟩ := Int.eq_ofNat_of_zero_le h0
  have hk : k < n := by omega
  have hck := hU1.cell (hc k hk) hbR
  clear hc
  go_wp2
  go_ret
  refine ⟨_, rfl, ?_, hR1, hU1⟩
  have hkl : k < zs.length := by rw [hlen.out]; exact hk
  rw [List.getElem?_eq_getElem hkl, Option.getD_some]
  exact List.getElem_mem hkl
end Go.Proofs.YtmlihbcffndnbabDoor

/- Pairs that are drawn. -/
namespace Go.Proofs.YtmlihbcffndnbabDoor
open Go.RowKit Go.Shelf

theorem draw_own_lt {w : World} {B : Nat} {v : Value} {rs : List (List Int)} (h : Rowed w B v rs) : ∀ k, v.ownBlock = some k → k < w.heap.size := fun k hk => by
  obtain ⟨vs, h1, _⟩ := h
  obtain ⟨cs, hcs⟩ := own_block h1 k hk
  exact (Array.getElem?_eq_some_iff.1 hcs).1
theorem draw_cell_new2 (w : World) (o : Obj) (e : TypeId) (u : Value) : ((w.alloc o).alloc (.cells #[u] e)).cell? ⟨w.heap.size + 1, 0, none⟩ = some u := by
  have h := cell_new (w.alloc o) e u
  rwa [World.size_alloc] at h

set_option maxRecDepth 100000 in
set_option maxHeartbeats 4000000 in
theorem somePairs_any (R p : Nat) (n : Int) (w : World) (h : Rd w R p) (hp : p ≤ 900000) :
    Calls Tryd.prog 80 #[.pointer (some ⟨R, 0, none⟩), .int .i64 n] w fun e w' => ∃ v rs q, e = .returned v ∧ Rowed w' w.heap.size v rs ∧ (rs.length ≤ 9 ∧ ∀ r ∈ rs, r.length = 2) ∧ q ≤ 19 ∧ Rd w' R (p + q) ∧ Upd (fun k => k = R) w w' := by
  obtain ⟨i0, hi0, hz0, hz1, hz2⟩ := infoRow_parts
  have hRl := h.lt
  go_enter Tryd.func80, Tryd.ntmps80
  go_wp2_with fail
  have R1 := Rowed.new w
  have R2 := R1.keep ((Upd.refl (fun _ => False) (w.alloc (.cells #[] 22))).alloc (.cells #[Value.int .i64 3, .int .i64 4, .int .i64 2, .int .i64 5, .int .i64 1, .int .i64 7, .int .i64 0, .int .i64 9] 3)) (fun _ e => e.elim)
  have hu1 : Upd (fun k => k = R) w ((w.alloc (.cells #[] 22)).alloc (.cells #[Value.int .i64 3, .int .i64 4, .int .i64 2, .int .i64 5, .int .i64 1, .int .i64 7, .int .i64 0, .int .i64 9] 3)) := ((Upd.refl _ _).alloc _).alloc _
  have hL : Arr ((w.alloc (.cells #[] 22)).alloc (.cells #[Value.int .i64 3, .int .i64 4, .int .i64 2, .int .i64 5, .int .i64 1, .int .i64 7, .int .i64 0, .int .i64 9] 3)) (w.heap.size + 1) 3 [3, 4, 2, 5, 1, 7, 0, 9] := by
    have := heap_alloc_new (w.alloc (.cells #[] 22)) (.cells #[Value.int .i64 3, .int .i64 4, .int .i64 2, .int .i64 5, .int .i64 1, .int .i64 7, .int .i64 0, .int .i64 9] 3)
    rw [World.size_alloc] at this
    exact this
  have hR1 := h.upd (((Upd.refl (fun _ => False) w).alloc (.cells #[] 22)).alloc (.cells #[Value.int .i64 3, .int .i64 4, .int .i64 2, .int .i64 5, .int .i64 1, .int .i64 7, .int .i64 0, .int .i64 9] 3)) (fun _ e => e.elim)
  obtain ⟨W1, hW1⟩ : ∃ W1, (w.alloc (.cells #[] 22)).alloc (.cells #[Value.int .i64 3, .int .i64 4, .int .i64 2, .int .i64 5, .int .i64 1, .int .i64 7, .int .i64 0, .int .i64 9] 3) = W1 := ⟨_, rfl⟩
  rw [hW1] at R2 hu1 hL hR1 ⊢
  clear hW1 R1
  refine (one_any R p _ 8 8 _ _ W1 hR1 (by omega) (hL.ints' (n := 8) hL.lt rfl) (fun b off e => by cases e; omega) (by omega) (by omega)).mono ?_
  rintro e w2 ⟨v0, rfl, hv0, hR2, hU2⟩
  have hv9 : 0 ≤ v0 ∧ v0 ≤ 9 := by simp at hv0; omega
  obtain ⟨K, rfl⟩ := Int.eq_ofNat_of_zero_le hv9.1
  have R3 := R2.keep hU2 (fun j e => by omega)
  have hu2 := hu1.trans hU2
  clear hv0 hL R2 hU2 hR1 hu1
  go_wp2
  go_loopw [5, 6] (fun v i wr => ∃ (k p' : Nat) (rs : List (List Int)), k ≤ 9 ∧ i = .int .i64 k ∧ rs.length + k ≤ 9 ∧ (∀ r ∈ rs, r.length = 2) ∧ p ≤ p' ∧ p' + 2 * k ≤ p + 19 ∧ Rowed wr w.heap.size v rs ∧ Rd wr R p' ∧ Upd (fun k => k = R) w wr) (fun _ i _ => (intOf i).toNat)
  case atStart => exact ⟨K, p + 1, [], by omega, rfl, by simp; omega, (fun r hr => by simp at hr), by omega, by omega, R3, hR2, hu2⟩
  case round =>
    clear R3 hR2 hu2
    obtain ⟨k, p', rs, hk, rfl, hlen, hall, hpp, hp', hRo, hRd, hU⟩ := hrel
    have zU := hU.size
    by_cases hlt : 0 < k
    · go_wp2_with fail
      refine (pick_any R p' n _ hRd (by omega)).mono ?_
      rintro e w3 ⟨a, rfl, ha, hRd3, hU3⟩
      go_wp2_with fail
      refine (pick_any R (p' + 1) n _ hRd3 (by omega)).mono ?_
      rintro e w4 ⟨b, rfl, hb, hRd4, hU4⟩
      have hU34 := hU3.trans hU4
      have hRo4 := hRo.keep hU34 (fun j e => by omega)
      have hUw := hU.trans hU34
      obtain ⟨vs, hown, hC, hb1⟩ := hRo4
      have Hall := Lib.hid hall
      clear hall hRo hU hU3 hU4 hU34 hRd hRd3
      by_cases hab : b < a
      · go_wp2_with (at_builtin; go_loud (refine wpList_append1 _ rfl (.tmp 31) (.tmp 35) _ rfl w.heap.size 22 i0 _ 24 Tryd.underlying43 hi0 hz0 hz1 hz2 rfl _ rs.length _ rfl ((hown.alloc _).alloc _) (w4.heap.size + 1) 1 (.slice (some ⟨w4.heap.size, 0, none⟩) 2 2) rfl (draw_cell_new2 _ _ _ _) rfl (by omega) (by omega) (by simp; omega) ?_); rintro v' w' hown' hg' -)
        go_roundw
        case rel => exact ⟨k - 1, p' + 1 + 1, rs ++ [[b, a]], by omega, by go_num, by simp; omega, (fun r hr => by
          rcases List.mem_append.1 hr with hr | hr
          · exact Hall.out r hr
          · rw [List.mem_singleton.1 hr]; rfl), by omega, by omega, Rowed.step hown rfl hC hb1 hown' hg', hRd4.upd ((((Upd.refl (fun k => w.heap.size ≤ k) w4).alloc _).alloc _).grown hg' (fun k hk => .inr (own_base hown k hk))) (fun k hk => by omega), hUw.trans' ((((Upd.refl (fun k => w.heap.size ≤ k) w4).alloc _).alloc _).grown hg' (fun k hk => .inr (own_base hown k hk))) (fun i hi e => by omega)⟩
        case measure => simp [intOf]; omega
      · by_cases hab2 : a < b
        · go_wp2_with (at_builtin; go_loud (refine wpList_append1 _ rfl (.tmp 31) (.tmp 35) _ rfl w.heap.size 22 i0 _ 24 Tryd.underlying43 hi0 hz0 hz1 hz2 rfl _ rs.length _ rfl ((hown.alloc _).alloc _) (w4.heap.size + 1) 1 (.slice (some ⟨w4.heap.size, 0, none⟩) 2 2) rfl (draw_cell_new2 _ _ _ _) rfl (by omega) (by omega) (by simp; omega) ?_); rintro v' w' hown' hg' -)
          go_roundw
          case rel => exact ⟨k - 1, p' + 1 + 1, rs ++ [[a, b]], by omega, by go_num, by simp; omega, (fun r hr => by
            rcases List.mem_append.1 hr with hr | hr
            · exact Hall.out r hr
            · rw [List.mem_singleton.1 hr]; rfl), by omega, by omega, Rowed.step hown rfl hC hb1 hown' hg', hRd4.upd ((((Upd.refl (fun k => w.heap.size ≤ k) w4).alloc _).alloc _).grown hg' (fun k hk => .inr (own_base hown k hk))) (fun k hk => by omega), hUw.trans' ((((Upd.refl (fun k => w.heap.size ≤ k) w4).alloc _).alloc _).grown hg' (fun k hk => .inr (own_base hown k hk))) (fun i hi e => by omega)⟩
          case measure => simp [intOf]; omega
        · go_wp2
          go_roundw
          case rel => exact ⟨k - 1, p' + 1 + 1, rs, by omega, by go_num, by omega, Hall.out, by omega, by omega, ⟨vs, hown, hC, hb1⟩, hRd4, hUw⟩
          case measure => simp [intOf]; omega
    · obtain rfl : k = 0 := by omega
      go_wp2
      go_ret
      exact ⟨_, rs, p' - p, rfl, hRo, ⟨by omega, hall⟩, by omega, by rw [show p + (p' - p) = p' by omega]; exact hRd, hU⟩
end Go.Proofs.YtmlihbcffndnbabDoor

/- A list of pairs that is drawn is short. -/
namespace Go.Proofs.YtmlihbcffndnbabDoor
open Go.RowKit Go.Shelf

theorem Rowed.step1 {w w' : World} {B n : Nat} {v v' : Value} {rs : List (List Int)} {vs : List Value} {a : Int} (h1 : w.ownsRow B 22 1 v n vs) (hn : n = rs.length) (h2 : RowsC w B w.heap.size vs rs) (hB : B ≤ w.heap.size)
    (hown : w'.ownsRow B 22 1 v' (n + 1) (vs ++ [.slice (some ⟨w.heap.size, 0, none⟩) 1 1]))
    (hg : ((w.alloc (.cells #[.int .i64 a] 3)).alloc (.cells #[.slice (some ⟨w.heap.size, 0, none⟩) 1 1] 22)).grownBy w' v.ownBlock) : Rowed w' B v' (rs ++ [[a]]) := by
  have hu : Upd (fun _ => False) w ((w.alloc (.cells #[.int .i64 a] 3)).alloc (.cells #[.slice (some ⟨w.heap.size, 0, none⟩) 1 1] 22)) := ((Upd.refl _ w).alloc _).alloc _
  have h3 := h2.upd hu (fun j e => e.elim)
  have hA : Arr (w.alloc (.cells #[.int .i64 a] 3)) w.heap.size 3 [a] := heap_alloc_new w _
  have h4 := h3.snoc (hi' := w.heap.size + 1 + 1) (r := [a]) (c := 1) (Row.of (hA.alloc _) rfl (Nat.le_refl _) (by omega)) (by omega)
  have h5 := h4.grown (by simp) hg (own_block (h1.alloc _ |>.alloc _))
  refine ⟨_, by rw [List.length_append, ← hn]; exact hown, h5.more (by have := hg.size; simpa using this), by have := hg.size; simp at this; omega⟩

/-- Rows that read: few, and short. -/
def Few (w : World) (v : Value) (rs : List (List Int)) : Prop := ∃ A c, v = .slice A rs.length c ∧ IntsS w w.heap.size A rs.length rs ∧ rs.length ≤ 1048576 ∧ ∀ r ∈ rs, r.length ≤ 1048576
theorem Rowed.few {w : World} {B : Nat} {v : Value} {rs : List (List Int)} (h : Rowed w B v rs) (hl : rs.length ≤ 1048576) (hr : ∀ r ∈ rs, r.length ≤ 2) : Few w v rs := by
  obtain ⟨A, c, rfl, hR⟩ := h.rows
  exact ⟨A, c, rfl, hR.ints (Nat.le_refl _), hl, fun r h => by have := hr r h; omega⟩
end Go.Proofs.YtmlihbcffndnbabDoor

/- One element put at its place: an append of any number of elements, as a step of a region that draws its order. -/
namespace Go.Proofs.YtmlihbcffndnbabDoor
open Go.RowKit

section
variable {P : Program} (w : World)
theorem own_form {w : World} {base n : Nat} {e : TypeId} {v : Value} {xs : List Value} (h : w.ownsRow base e 1 v n xs) (hv : v ≠ .slice none 0 0) : ∃ g cap, v = .slice (some ⟨g, 0, none⟩) n cap ∧ base ≤ g ∧ g < w.heap.size ∧ n ≤ cap ∧ cap ≤ maxLen := by
  rcases h.2 with ⟨e, _⟩ | ⟨g, cap, cur, rfl, hg, hc, h1, h2, _⟩
  · exact absurd e hv
  · exact ⟨g, cap, rfl, hg, (Array.getElem?_eq_some_iff.1 hc).1, h1, h2⟩
theorem step_append_any {ops : Array Oper} {o : Oper} {a : Act} {K : Act → World → Prop} {Q : Exit → Act → World → Prop} {E : Prop} (hgd : o.guard = none) (s x : Operand) (t : TypeId)
    (ho : o.op = .call { callee := .builtin .append, args := #[s, x], argTypes := #[t, t] })
    (base : Nat) (e : TypeId) (i : TypeInfo) (z : Value) (bytes : Nat) (ht : P.underlying t = some (.slice e)) (hi : P.info? e = some i) (hz : i.zero = some z)
    (hsize : i.size = 1) (hby : i.bytes = bytes) (hzs : z.cells.size = 1)
    (v : Value) (n : Nat) (xs : List Value) (hs : a.eval s = v) (hv : v ≠ .slice none 0 0) (hown : w.ownsRow base e 1 v n xs)
    (ad : Addr) (m c : Nat) (news : List Value) (hx : a.eval x = .slice (some ad) m c) (hl : news.length = m) (hnews : ∀ j u, news[j]? = some u → w.cell? (ad.add j) = some u) (h1 : ∀ u ∈ news, u.oneCell' = true)
    (h63 : n + m ≤ maxLen) (hbytes : (n + m) * bytes ≤ 140737488355328) (hbase : base ≤ w.heap.size)
    (h : ∀ g cap w', w'.ownsRow base e 1 (.slice (some ⟨g, 0, none⟩) (n + m) cap) (n + m) (xs ++ news) → w.grownBy w' v.ownBlock → base ≤ g → g < w'.heap.size → n + m ≤ cap → cap ≤ maxLen → K (a.put o.dst (.slice (some ⟨g, 0, none⟩) (n + m) cap)) w') :
    if Region.wanted o (yielded ops a.tmps) = true then Oper.wp P o a w K Q else E := by
  have hw : Region.wanted o (yielded ops a.tmps) = true := by simp [Region.wanted, hgd]
  rw [if_pos hw]
  obtain ⟨v', w', hr, h2, h3, h4, _⟩ := run_append_own_at (P := P) w base t o.type e i z 1 bytes ht hi hz hsize hby hzs (by omega) v n xs hown ad m c news (by omega) hnews h1 h63 hbytes hbase
  obtain ⟨g, cap, rfl, hg, hlt, hnc, hcm⟩ := own_form h2 (fun e => hv (h4.1 e).1)
  unfold Oper.wp execOp
  simp only [ho, resolve, invoke, builtin, Sem.run_bind, Sem.run_pure, Result.andThen_ok, List.map_toArray, List.map_cons, List.map_nil, hs, hx, hr]
  exact h g cap w' h2 h3 hg hlt hnc hcm
theorem own_sooner {w : World} {b b' n : Nat} {e : TypeId} {v : Value} {xs : List Value} (h : w.ownsRow b e 1 v n xs) (hb : b' ≤ b) : w.ownsRow b' e 1 v n xs := by
  refine ⟨h.1, ?_⟩
  rcases h.2 with h1 | ⟨g, cap, cur, rfl, hg, hrest⟩
  · exact .inl h1
  · exact .inr ⟨g, cap, cur, rfl, by omega, hrest⟩
end
/-- The row's numbers from one place on, or up to one: as what is appended. -/
theorem news_at {w w' : World} {B b k n : Nat} {ts zs : List Int} (hc : ∀ j, j < n → w.cell? ⟨b, j, none⟩ = some (.int .i64 (ts[j]?.getD 0))) (hu : Upd (fun k => B ≤ k) w w') (hb : b < B) {ad : Addr}
    (had : ∀ j, j < zs.length → ad.add j = ⟨b, k + j, none⟩) (hz : ∀ j, j < zs.length → zs[j]?.getD 0 = ts[k + j]?.getD 0) (hl : k + zs.length ≤ n) :
    ∀ j u, (zs.map (Value.int .i64))[j]? = some u → w'.cell? (ad.add j) = some u := fun j u hu' => by
  rw [List.getElem?_map] at hu'
  cases hg : zs[j]? with
  | none => rw [hg] at hu'; cases hu'
  | some z =>
    have hj : j < zs.length := (List.getElem?_eq_some_iff.1 hg).1
    rw [hg] at hu'
    simp only [Option.map_some, Option.some.injEq] at hu'
    rw [had j hj, hu.cell (hc (k + j) (by omega)) (by simp; omega), ← hz j hj, hg, ← hu']
    rfl
theorem news_one {w : World} {ad : Addr} {u : Value} (h : w.cell? ad = some u) : ∀ j u', [u][j]? = some u' → w.cell? (ad.add j) = some u' := fun j u' hu => by
  cases j with
  | zero => simp at hu; subst hu; simpa [Addr.add] using h
  | succ j => simp at hu
theorem cell_new_alloc (w : World) (e : TypeId) (u : Value) (o : Obj) : ((w.alloc (.cells #[u] e)).alloc o).cell? ⟨w.heap.size, 0, none⟩ = some u :=
  (World.cell?_of_block (Below.heap_alloc _ _ _ (by simp))).trans (cell_new w e u)
theorem own_new2 (w : World) (o : Obj) (e : TypeId) : ((w.alloc o).alloc (.cells #[] e)).ownsRow w.heap.size e 1 (.slice (some ⟨w.heap.size + 1, 0, none⟩) 0 0) 0 [] := by
  have h := own_new (w.alloc o) e
  rw [World.size_alloc] at h
  exact own_sooner h (by omega)
theorem own_cells {w : World} {base n g cap : Nat} {e : TypeId} {zs : List Int} (h : w.ownsRow base e 1 (.slice (some ⟨g, 0, none⟩) n cap) n (zs.map (Value.int .i64))) :
    zs.length = n ∧ ∀ j, j < n → w.cell? ⟨g, j, none⟩ = some (.int .i64 (zs[j]?.getD 0)) := by
  obtain ⟨A, c, e, hI⟩ := ints_of_own h
  cases e
  refine ⟨hI.len, fun j hj => ?_⟩
  obtain ⟨b, off, e, _, hc⟩ := hI.at_ hj
  cases e
  simpa using hc j hj
theorem own_ge {w : World} {B n : Nat} {e : TypeId} {v : Value} {xs : List Value} (h : w.ownsRow B e 1 v n xs) : ∀ k, v.ownBlock = some k → B ≤ k := own_base h
end Go.Proofs.YtmlihbcffndnbabDoor

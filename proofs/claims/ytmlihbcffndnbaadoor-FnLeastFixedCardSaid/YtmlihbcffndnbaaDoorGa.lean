/- Texts that several claims share, one behind the other. -/
import Derived.WalkKit
import Derived.Laws.BitsAllLaws
import Derived.Below
import Derived.Laws.OwnMore
import Derived.Deep.Draws
import Derived.Lib.Hide
import Derived.RangeFuncNested
import Derived.Deep.OwnRows
import Derived.Test.YtmlihbcffndnbaaDoorProg
import Derived.ProofKit
import Derived.Outline
import Derived.RangeFuncBound
import Derived.RangeFuncCalls
import Derived.RangeFuncLeaves
import Derived.Shelf.Abstract
import Derived.Shelf.RegionOpen
import Derived.OwnWalkIn
import Derived.TacticsInMore
import Derived.LoopNIn
import Derived.LoopIn
import Derived.Sort.QuietIn
import Derived.BigQuiet
import Derived.StillTail
import Derived.OwnWalk
import Derived.Deep.QuietTactic
import Derived.RegionTactic
import Derived.Deep.RegionWith
set_option linter.unusedVariables false
set_option linter.unusedSimpArgs false
/- Plain words and facts on numbers as sets, and on orders as lists of such numbers. No program is imported. -/
namespace Go.Proofs.YtmlihbcffndnbaaDoor
open Go.RowKit

/-- Whether the set s has j. -/
def bitB (s j : Int) : Bool := s.toNat.testBit j.toNat
/-- Whether n is in a range. -/
def inB (n lo hi : Int) : Bool := decide (lo ≤ n ∧ n ≤ hi)
def bitI (s j : Int) : Int := if bitB s j then 1 else 0
def powI (n : Int) : Int := 2 ^ n.toNat
def orI (a b : Int) : Int := ((a.toNat ||| b.toNat : Nat) : Int)
def andI (a b : Int) : Int := ((a.toNat &&& b.toNat : Nat) : Int)
/-- What a has and b has not. -/
def lessI (a b : Int) : Int := ((a.toNat &&& (a.toNat ^^^ b.toNat) : Nat) : Int)

theorem ofInt_i64n (a : Nat) (ha : a < 9223372036854775808) : (BitVec.ofInt 64 (a : Int)).toNat = a := by
  rw [BitVec.ofInt_natCast, BitVec.toNat_ofNat]; exact Nat.mod_eq_of_lt (by omega)

theorem bits_and {a b : Int} (h0 : 0 ≤ a) (h1 : a < 4611686018427387904) (g0 : 0 ≤ b) (g1 : b < 4611686018427387904) : bits .and .i64 a b = andI a b := by
  obtain ⟨a, rfl⟩ := Int.eq_ofNat_of_zero_le h0
  obtain ⟨b, rfl⟩ := Int.eq_ofNat_of_zero_le g0
  have hx : a &&& b < 2 ^ 62 := Nat.and_lt_two_pow _ (by omega)
  show IntKind.i64.wrap ((BitVec.ofInt 64 (a : Int) &&& BitVec.ofInt 64 (b : Int)).toNat : Int) = _
  rw [BitVec.toNat_and, ofInt_i64n a (by omega), ofInt_i64n b (by omega), IntKind.wrap_i64]
  simp only [andI, Int.toNat_natCast]
  omega
theorem bits_or {a b : Int} (h0 : 0 ≤ a) (h1 : a < 4611686018427387904) (g0 : 0 ≤ b) (g1 : b < 4611686018427387904) : bits .or .i64 a b = orI a b := by
  obtain ⟨a, rfl⟩ := Int.eq_ofNat_of_zero_le h0
  obtain ⟨b, rfl⟩ := Int.eq_ofNat_of_zero_le g0
  have hx : a ||| b < 2 ^ 62 := Nat.or_lt_two_pow (by omega) (by omega)
  show IntKind.i64.wrap ((BitVec.ofInt 64 (a : Int) ||| BitVec.ofInt 64 (b : Int)).toNat : Int) = _
  rw [BitVec.toNat_or, ofInt_i64n a (by omega), ofInt_i64n b (by omega), IntKind.wrap_i64]
  simp only [orI, Int.toNat_natCast]
  omega
theorem bits_less {a b : Int} (h0 : 0 ≤ a) (h1 : a < 4611686018427387904) (g0 : 0 ≤ b) (g1 : b < 4611686018427387904) : bits .andNot .i64 a b = lessI a b := by
  obtain ⟨a, rfl⟩ := Int.eq_ofNat_of_zero_le h0
  obtain ⟨b, rfl⟩ := Int.eq_ofNat_of_zero_le g0
  have hx : a &&& (a ^^^ b) < 2 ^ 62 := Nat.lt_of_le_of_lt Nat.and_le_left (by omega)
  show IntKind.i64.wrap ((BitVec.ofInt 64 (a : Int) &&& ~~~ BitVec.ofInt 64 (b : Int)).toNat : Int) = _
  have e : (BitVec.ofInt 64 (a : Int) &&& ~~~ BitVec.ofInt 64 (b : Int)).toNat = a &&& (a ^^^ b) := by
    apply Nat.eq_of_testBit_eq
    intro i
    rw [← BitVec.getLsbD, BitVec.getLsbD_and, BitVec.getLsbD_not]
    simp only [BitVec.getLsbD, ofInt_i64n a (by omega), ofInt_i64n b (by omega), Nat.testBit_and, Nat.testBit_xor]
    by_cases hi : i < 64
    · simp [hi]; cases a.testBit i <;> cases b.testBit i <;> rfl
    · have : a.testBit i = false := Nat.testBit_lt_two_pow (Nat.lt_of_lt_of_le (by omega : a < 2 ^ 62) (Nat.pow_le_pow_right (by decide) (by omega)))
      simp [this]
  rw [e, IntKind.wrap_i64]
  simp only [lessI, Int.toNat_natCast]
  omega

theorem shr_and_one {s j : Int} (h0 : 0 ≤ s) (h1 : s < 4611686018427387904) : bits .and .i64 (s / 2 ^ j.toNat) 1 = bitI s j := by
  obtain ⟨a, rfl⟩ := Int.eq_ofNat_of_zero_le h0
  have hd : ((a : Int) / 2 ^ j.toNat) = ((a / 2 ^ j.toNat : Nat) : Int) := by simp
  have hle : a / 2 ^ j.toNat ≤ a := Nat.div_le_self _ _
  rw [hd]
  simp only [bitI, bitB, Int.toNat_natCast, Nat.testBit, Nat.shiftRight_eq_div_pow]
  generalize a / 2 ^ j.toNat = q at *
  rw [bits_and (by omega) (by omega) (by decide) (by decide)]
  simp only [andI, Int.toNat_natCast, Nat.and_comm 1]
  have e : q &&& (1 : Int).toNat = q % 2 := Nat.and_one_is_mod q
  have e' : q &&& 1 = q % 2 := Nat.and_one_is_mod q
  rw [e, e']
  rcases Nat.mod_two_eq_zero_or_one q with h | h <;> simp [h]

theorem lessI_bd (a b : Int) : 0 ≤ lessI a b ∧ lessI a b ≤ a.toNat := by
  unfold lessI; exact ⟨by omega, by exact_mod_cast (Nat.and_le_left)⟩
theorem bitI_01 (s j : Int) : 0 ≤ bitI s j ∧ bitI s j ≤ 1 := by unfold bitI; split <;> omega
theorem bitI_one (s j : Int) : (bitI s j == 1) = bitB s j := by unfold bitI; cases bitB s j <;> rfl
theorem bitI_true {s j : Int} (h : bitB s j = true) : bitI s j = 1 := by simp [bitI, h]
theorem bitI_false {s j : Int} (h : bitB s j = false) : bitI s j = 0 := by simp [bitI, h]
theorem bitB_lt {s : Int} {n j : Nat} (h1 : s < powI n) (h : bitB s j = true) : j < n := by
  rcases Nat.lt_or_ge j n with hj | hj
  · exact hj
  · have h2 : s.toNat < 2 ^ n := by
      have h3 : powI (n : Int) = ((2 ^ n : Nat) : Int) := by simp [powI]
      rw [h3] at h1
      have h4 : 0 < 2 ^ n := Nat.two_pow_pos n
      generalize 2 ^ n = q at *
      omega
    have h3 : s.toNat.testBit j = false := Nat.testBit_lt_two_pow (Nat.lt_of_lt_of_le h2 (Nat.pow_le_pow_right (by decide) hj))
    simp [bitB, h3] at h
theorem powI_pos (n : Int) : 0 < powI n := by unfold powI; exact Int.pow_pos (by decide)
theorem powI_le {n m : Int} (h : n ≤ m) : powI n ≤ powI m := by
  have h1 : (2 : Nat) ^ n.toNat ≤ 2 ^ m.toNat := Nat.pow_le_pow_right (by decide) (by omega)
  have h2 : ((2 ^ n.toNat : Nat) : Int) ≤ ((2 ^ m.toNat : Nat) : Int) := Int.ofNat_le.2 h1
  simpa [powI] using h2
theorem powI_le6 {n : Int} (h : n ≤ 6) : powI n ≤ 64 := powI_le h
theorem powI_succ {n : Int} (h : 0 ≤ n) : powI (n + 1) = 2 * powI n := by
  unfold powI; rw [show (n + 1).toNat = n.toNat + 1 from by omega, Int.pow_succ, Int.mul_comm]
theorem powI_zero : powI 0 = 1 := rfl
theorem orI_bd {a b n : Int} (_h0 : 0 ≤ a) (h1 : a < powI n) (_g0 : 0 ≤ b) (g1 : b < powI n) : 0 ≤ orI a b ∧ orI a b < powI n := by
  have e : powI n = ((2 ^ n.toNat : Nat) : Int) := by simp [powI]
  rw [e] at h1 g1 ⊢
  have hp : 0 < 2 ^ n.toNat := Nat.two_pow_pos _
  have h : a.toNat ||| b.toNat < 2 ^ n.toNat := by
    refine Nat.or_lt_two_pow ?_ ?_
    all_goals
      generalize 2 ^ n.toNat = q at *
      omega
  unfold orI
  generalize 2 ^ n.toNat = q at *
  omega
theorem andI_bd (a b : Int) : 0 ≤ andI a b ∧ andI a b ≤ a.toNat := by
  unfold andI; exact ⟨by omega, by exact_mod_cast Nat.and_le_left⟩
theorem bitB_or (a b j : Int) : bitB (orI a b) j = (bitB a j || bitB b j) := by simp [bitB, orI]
theorem bitB_and (a b j : Int) : bitB (andI a b) j = (bitB a j && bitB b j) := by simp [bitB, andI]
theorem bitB_less (a b j : Int) : bitB (lessI a b) j = (bitB a j && !bitB b j) := by
  simp only [bitB, lessI, Int.toNat_natCast, Nat.testBit_and, Nat.testBit_xor]
  cases a.toNat.testBit j.toNat <;> cases b.toNat.testBit j.toNat <;> rfl
theorem bitB_pow (k j : Nat) : bitB (powI k) j = decide (k = j) := by
  have e : (powI (k : Int)).toNat = 2 ^ k := by
    have : powI (k : Int) = ((2 ^ k : Nat) : Int) := by simp [powI]
    rw [this, Int.toNat_natCast]
  simp [bitB, e, Nat.testBit_two_pow]
theorem bitB_zero (j : Int) : bitB 0 j = false := by simp [bitB]
theorem bitB_ext {a b : Int} (h0 : 0 ≤ a) (g0 : 0 ≤ b) (h : ∀ j : Nat, bitB a j = bitB b j) : a = b := by
  have e : a.toNat = b.toNat := Nat.eq_of_testBit_eq fun i => by have := h i; simpa [bitB] using this
  omega
theorem powI_lt {k n : Nat} (h : k < n) : powI (k : Int) < powI (n : Int) := by
  have h1 : powI ((k : Int) + 1) ≤ powI (n : Int) := powI_le (by omega)
  rw [powI_succ (by omega)] at h1
  have := powI_pos (k : Int)
  omega
end Go.Proofs.YtmlihbcffndnbaaDoor

/- Words for memory: a slice of numbers that reads as a list; orders as lists. -/
namespace Go.Proofs.YtmlihbcffndnbaaDoor
open Go.RowKit

/-- The slice '.slice A n c' reads as zs, and lies below block B. -/
def Ints (w : World) (B : Nat) (A : Option Addr) (n : Nat) (zs : List Int) : Prop :=
  zs.length = n ∧ (0 < n → ∃ b off, A = some ⟨b, off, none⟩ ∧ b < B ∧ ∀ j, j < n → w.cell? ⟨b, off + j, none⟩ = some (.int .i64 (zs[j]?.getD 0)))

section
variable {w w' : World} {B B' n : Nat} {A : Option Addr} {zs : List Int}
theorem Ints.len (h : Ints w B A n zs) : zs.length = n := h.1
theorem Ints.at_ {k : Nat} (h : Ints w B A n zs) (hk : k < n) : ∃ b off, A = some ⟨b, off, none⟩ ∧ b < B ∧ ∀ j, j < n → w.cell? ⟨b, off + j, none⟩ = some (.int .i64 (zs[j]?.getD 0)) := h.2 (by omega)
theorem Ints.keep (h : Ints w B A n zs) (hk : ∀ p : Addr, p.block < B → w'.cell? p = w.cell? p) : Ints w' B A n zs :=
  ⟨h.1, fun hn => by
    obtain ⟨b, off, e, hb, hc⟩ := h.2 hn
    exact ⟨b, off, e, hb, fun j hj => (hk _ hb).trans (hc j hj)⟩⟩
theorem Ints.more (h : Ints w B A n zs) (hB : B ≤ B') : Ints w B' A n zs :=
  ⟨h.1, fun hn => by
    obtain ⟨b, off, e, hb, hc⟩ := h.2 hn
    exact ⟨b, off, e, by omega, hc⟩⟩
theorem Ints.below (h : Ints w B A n zs) (hb : Below B w w') : Ints w' B A n zs := h.keep fun _ hp => hb.cell hp
theorem Ints.drewN (h : Ints w B A n zs) (k : Nat) : Ints (w.drewN k) B A n zs := h
theorem Ints.nil (w : World) (B : Nat) (A : Option Addr) : Ints w B A 0 [] := ⟨rfl, fun h => absurd h (by omega)⟩
end

/-- The item's set is one of the n items, without itself. -/
def okA (n : Int) (zs : List Int) (a : Nat) : Bool := inB (zs[a]?.getD 0) 0 (powI n - 1) && !bitB (zs[a]?.getD 0) a
/-- What is above b is above a, if b is, and a is not above b. -/
def okP (zs : List Int) (a b : Nat) : Bool := !bitB (zs[a]?.getD 0) b || (lessI (zs[b]?.getD 0) (zs[a]?.getD 0) == 0 && !bitB (zs[b]?.getD 0) a)
def VoP (zs : List Int) : Prop := zs.length ≤ 6 ∧ (∀ a, a < zs.length → okA zs.length zs a = true) ∧ (∀ a, a < zs.length → ∀ b, b < zs.length → okP zs a b = true)
instance (zs : List Int) : Decidable (VoP zs) := by unfold VoP; infer_instance
def vo (zs : List Int) : Bool := decide (VoP zs)
theorem vo_true {zs : List Int} (h : VoP zs) : vo zs = true := by simp [vo, h]
theorem vo_false {zs : List Int} (h : ¬ VoP zs) : vo zs = false := by simp [vo, h]
theorem okA_bd {n : Int} {zs : List Int} {a : Nat} (hn : n ≤ 6) (h : okA n zs a = true) : 0 ≤ zs[a]?.getD 0 ∧ zs[a]?.getD 0 < 64 := by
  have := powI_le6 hn
  simp [okA, inB] at h
  omega
/-- At most six sets, of no more items than there are. -/
def Sets (zs : List Int) : Prop := zs.length ≤ 6 ∧ ∀ a, a < zs.length → 0 ≤ zs[a]?.getD 0 ∧ zs[a]?.getD 0 < powI zs.length
theorem Sets.bd {zs : List Int} (h : Sets zs) (a : Nat) (ha : a < zs.length) : 0 ≤ zs[a]?.getD 0 ∧ zs[a]?.getD 0 < 64 := by
  have h1 := h.2 a ha
  have h2 : powI zs.length ≤ 64 := powI_le6 (by have := h.1; omega)
  omega
theorem VoP.sets {zs : List Int} (h : VoP zs) : Sets zs := ⟨h.1, fun a ha => by
  have := h.2.1 a ha
  simp [okA, inB] at this
  omega⟩
theorem VoP.bd {zs : List Int} (h : VoP zs) (a : Nat) (ha : a < zs.length) : 0 ≤ zs[a]?.getD 0 ∧ zs[a]?.getD 0 < 64 :=
  okA_bd (by have := h.1; omega) (h.2.1 a ha)
theorem VoP_not_A {zs : List Int} {k : Nat} (hk : k < zs.length) (h : okA zs.length zs k = false) : ¬ VoP zs := fun hv => by
  have := hv.2.1 k hk
  rw [h] at this; cases this
theorem VoP_not_P {zs : List Int} {k j : Nat} (hk : k < zs.length) (hj : j < zs.length) (h : okP zs k j = false) : ¬ VoP zs := fun hv => by
  have := hv.2.2 k hk j hj
  rw [h] at this; cases this
theorem okA_yes {n : Int} {zs : List Int} {k : Nat} (h1 : inB (zs[k]?.getD 0) 0 (powI n - 1) = true) (h2 : bitB (zs[k]?.getD 0) k = false) : okA n zs k = true := by simp [okA, h1, h2]
theorem all_snoc {p : Nat → Prop} {k : Nat} (h : ∀ a, a < k → p a) (hk : p k) : ∀ a, a < k + 1 → p a := fun a ha => by
  rcases Nat.lt_or_ge a k with h1 | h1
  · exact h a h1
  · rw [show a = k from by omega]; exact hk

end Go.Proofs.YtmlihbcffndnbaaDoor

/- A range over a function, where the function ranges over another one itself: the contract of such an iterator, and the two laws for the statement. Which blocks a round may turn is told by two sets: M (blocks from before the loop), D (the round's own, made since). -/
namespace Go.Proofs.YtmlihbcffndnbaaDoor
open Go.RowKit

/-- The worlds differ in blocks of R alone, and in new ones. -/
structure Upd (R : Nat → Prop) (w w' : World) : Prop where
  os : w'.os = w.os
  tape : w'.tape = w.tape
  output : w'.output = w.output
  size : w.heap.size ≤ w'.heap.size
  block : ∀ k, k < w.heap.size → ¬ R k → w'.heap[k]? = w.heap[k]?

section
variable {R S : Nat → Prop} {a b c w w' : World}
theorem Upd.refl (R : Nat → Prop) (w : World) : Upd R w w := ⟨rfl, rfl, rfl, Nat.le_refl _, fun _ _ _ => rfl⟩
theorem Upd.trans (h : Upd R a b) (k : Upd R b c) : Upd R a c :=
  ⟨k.os.trans h.os, k.tape.trans h.tape, k.output.trans h.output, Nat.le_trans h.size k.size, fun i hi hr => (k.block i (Nat.lt_of_lt_of_le hi h.size) hr).trans (h.block i hi hr)⟩
theorem Upd.mono (h : Upd R a b) (hs : ∀ k, k < a.heap.size → R k → S k) : Upd S a b := ⟨h.os, h.tape, h.output, h.size, fun i hi hr => h.block i hi (fun e => hr (hs i hi e))⟩
theorem Upd.trans' (h : Upd R a b) (k : Upd S b c) (hs : ∀ i, i < a.heap.size → S i → R i) : Upd R a c :=
  ⟨k.os.trans h.os, k.tape.trans h.tape, k.output.trans h.output, Nat.le_trans h.size k.size, fun i hi hr => (k.block i (Nat.lt_of_lt_of_le hi h.size) (fun e => hr (hs i hi e))).trans (h.block i hi hr)⟩
theorem Upd.drewN (h : Upd R a w) (n : Nat) : Upd R a (w.drewN n) := ⟨h.os, h.tape, h.output, h.size, h.block⟩
theorem Upd.drew (h : Upd R a w) : Upd R a w.drew := ⟨h.os, h.tape, h.output, h.size, h.block⟩
theorem Upd.alloc (h : Upd R a w) (o : Obj) : Upd R a (w.alloc o) :=
  ⟨h.os, h.tape, h.output, Nat.le_trans h.size (by simp), fun i hi hr => (Below.heap_alloc w o i (Nat.lt_of_lt_of_le hi h.size)).trans (h.block i hi hr)⟩
theorem Upd.setCell (h : Upd R a w) {p : Addr} (hp : a.heap.size ≤ p.block ∨ R p.block) (u : Value) : Upd R a (w.setCell p u) :=
  ⟨h.os, h.tape, h.output, by simpa [World.setCell] using h.size, fun i hi hr => (Below.heap_setCell w p u i (by
    rintro rfl
    rcases hp with hp | hp
    · omega
    · exact hr hp)).trans (h.block i hi hr)⟩
theorem Upd.grown (h : Upd R a w) {row : Option Nat} (hg : w.grownBy w' row) (hp : ∀ k, row = some k → a.heap.size ≤ k ∨ R k) : Upd R a w' :=
  ⟨hg.os.trans h.os, hg.tape.trans h.tape, hg.output.trans h.output, Nat.le_trans h.size hg.size, fun i hi hr => (hg.block i (Nat.lt_of_lt_of_le hi h.size) (fun e => by
    rcases hp i e.symm with h1 | h1
    · omega
    · exact hr h1)).trans (h.block i hi hr)⟩
theorem Upd.below (h : Upd R a w) {B : Nat} (hb : Below B w w') (hB : ∀ k, B ≤ k → k < a.heap.size → R k) : Upd R a w' :=
  ⟨hb.os.trans h.os, hb.tape.trans h.tape, hb.output.trans h.output, Nat.le_trans h.size hb.size, fun i hi hr => by
    rcases Nat.lt_or_ge i B with h1 | h1
    · exact (hb.block i h1).trans (h.block i hi hr)
    · exact absurd (hB i h1 hi) hr⟩
theorem Upd.putObj (h : Upd R a w) {l : Nat} (hl : a.heap.size ≤ l ∨ R l) (o : Obj) : Upd R a (w.putObj l o) :=
  h.grown (grownBy_putObj' w l o) (fun k e => by cases e; exact hl)
theorem Upd.cell (h : Upd R w w') {p : Addr} {v : Value} (hc : w.cell? p = some v) (hr : ¬ R p.block) : w'.cell? p = some v := by
  obtain ⟨o, ho, _⟩ := cells_of_cell hc
  exact (World.cell?_of_block (h.block _ (Array.getElem?_eq_some_iff.1 ho).1 hr)).trans hc
theorem Upd.frozen (h : Upd R w w') {p : Addr} (hl : p.block < w.heap.size) (hr : ¬ R p.block) : w'.frozen? p = w.frozen? p := World.frozen?_of_block (h.block _ hl hr)
theorem Upd.boxed (h : Upd R w w') {k : Nat} {t : TypeId} {v : Value} (hb : Boxed w k t v) (hr : ¬ R k) : Boxed w' k t v := (h.block k hb.lt hr).trans hb
theorem Upd.toBelow (h : Upd R w w') {B : Nat} (hB : ∀ k, R k → B ≤ k) (hw : B ≤ w.heap.size) : Below B w w' :=
  ⟨h.os, h.tape, h.output, h.size, fun k hk => h.block k (Nat.lt_of_lt_of_le hk hw) (fun e => by have := hB k e; omega)⟩
theorem Below.toUpd {B : Nat} (h : Below B w w') : Upd (fun k => B ≤ k) w w' := ⟨h.os, h.tape, h.output, h.size, fun k _ hr => h.block k (by omega)⟩
end

/-- What is said abides the turn of whatever is neither from before B nor the round's own. -/
def Firm {β : Type} (B : Nat) (J : β → (Nat → Prop) → World → Prop) : Prop :=
  ∀ s D W W', J s D W → Upd (fun k => B ≤ k ∧ ¬ D k) W W' → J s D W'
theorem Firm.mono {β : Type} {B B' : Nat} {J : β → (Nat → Prop) → World → Prop} (h : Firm B J) (hB : B ≤ B') : Firm B' J :=
  fun s D W W' hs hu => h s D W W' hs (hu.mono fun _ _ e => ⟨by omega, e.2⟩)

/-- The iterator's contract: over the list L, in its order, until a round says no more. -/
def Iter {α : Type} (P : Program) (g : Nat) (lb : Array Value) (encs : α → Array Value) (L : List α) (M : Nat → Prop) (w : World) : Prop :=
  ∀ (l : Nat) (J Jx : List α → (Nat → Prop) → World → Prop), Firm w.heap.size J → Firm w.heap.size Jx →
    (∀ pre x D W, J pre D W → w.heap.size ≤ W.heap.size → pre ++ [x] <+: L → ∀ m, YieldAt Fence.wide m P l (encs x) W fun e W' =>
      (e = .returned (.bool true) ∧ ∃ D', J (pre ++ [x]) D' W' ∧ Upd (fun k => M k ∨ D k) W W' ∧ ∀ k, D' k → D k ∨ W.heap.size ≤ k ∧ k < W'.heap.size) ∨
      (e = .returned (.bool false) ∧ ∃ D', Jx (pre ++ [x]) D' W' ∧ Upd (fun k => M k ∨ D k) W W' ∧ ∀ k, D' k → D k ∨ W.heap.size ≤ k ∧ k < W'.heap.size)) →
    J [] (fun _ => False) w →
    Calls P g (#[.func (.yield l) #[] #[]] ++ lb) w fun e W' => (∃ v, e = .returned v) ∧ ((∃ D, J L D W') ∨ ∃ pre D, pre <+: L ∧ Jx pre D W')

/-- How a round's body may be left. -/
def roundEnd {α : Type} (M : Nat → Prop) (J : List α → (Nat → Prop) → World → Prop) (Jx : Code → List α → (Nat → Prop) → World → Prop) (xs : List α) (D : Nat → Prop) (z : Nat) (W : World) : Exit → Act → World → Prop
  | .normal, _, W' => ∃ D', J xs D' W' ∧ Upd (fun k => M k ∨ D k ∨ z ≤ k) W W' ∧ ∀ k, D' k → D k ∨ z ≤ k ∧ k < W'.heap.size
  | .ret, _, W' => ∃ D', Jx .ret xs D' W' ∧ Upd (fun k => M k ∨ D k ∨ z ≤ k) W W' ∧ ∀ k, D' k → D k ∨ z ≤ k ∧ k < W'.heap.size
  | .exit id, _, W' => ∃ D', Jx (.exit id) xs D' W' ∧ Upd (fun k => M k ∨ D k ∨ z ≤ k) W W' ∧ ∀ k, D' k → D k ∨ z ≤ k ∧ k < W'.heap.size
  | .goto t, _, W' => ∃ D', Jx (.goto t) xs D' W' ∧ Upd (fun k => M k ∨ D k ∨ z ≤ k) W W' ∧ ∀ k, D' k → D k ∨ z ≤ k ∧ k < W'.heap.size
  | .panic _, _, _ => False
  | .outgrown, _, _ => False

theorem roundIn_any {F : Fence} (hd : F.depth = none) {m m' : Nat} {P : Program} {l : Nat} {f : FuncId} {tmps : Array Value} {assign body : Code} {w : World} {R : Ending → World → Prop}
    (h : RoundIn F m P l f tmps assign body w R) : RoundIn F m' P l f tmps assign body w R := ⟨h.1, fun c cs _ => h.2 c cs (fun d e => by rw [hd] at e; cases e)⟩

/-- What a round owes: the assignments, then the body. 'l' is the loop's record. -/
def RoundOwes {α : Type} (P : Program) (m B : Nat) (encs : α → Array Value) (ps : Array Tmp) (tmps : Array Value) (assign body : Code) (L : List α) (M : Nat → Prop) (J : List α → (Nat → Prop) → World → Prop) (Jx : Code → List α → (Nat → Prop) → World → Prop) : Prop :=
  ∀ (l : Nat) (pre : List α) (x : α) (D : Nat → Prop) (W : World), B ≤ l → l < W.heap.size → ¬ D l → (∀ k, D k → B ≤ k ∧ k < W.heap.size) → J pre D W → pre ++ [x] <+: L →
    ∀ K : Act → World → Prop,
      (∀ a' Wa, Upd (fun _ => False) W Wa → (∀ Wb, Upd (fun k => k = l) Wa Wb → (∃ r, Wb.heap[l]? = some (.loop r)) → J pre D Wb → body.wpIn (Fence.wide.inRound l) m P (roundEnd M J Jx (pre ++ [x]) D W.heap.size Wb) a' Wb) → K a' Wa) →
      assign.wpIn (Fence.wide.inRound l) m P (Exit.then K (fun _ _ _ => False)) { tmps := (ps.zip (encs x)).foldl (fun t (p, v) => t.setIfInBounds p v) tmps, defers := [] } W

section
variable {P : Program} {n : Nat}

/-- One round, out of what it owes: for both laws. -/
theorem round_of {α : Type} {l B B1 : Nat} {rec : LoopState → Option Code → Loop} {M : Nat → Prop} {encs : α → Array Value} {ps : Array Tmp} {tmps : Array Value} {assign body : Code} {fn : Nat} {L : List α}
    {J : List α → (Nat → Prop) → World → Prop} {Jx : Code → List α → (Nat → Prop) → World → Prop} {rest : World → Prop}
    (hrec : ∀ st pe, (rec st pe).state = st ∧ (rec st pe).params = ps ∧ (rec st pe).fn = fn ∧ (rec st pe).tmps = tmps ∧ (rec st pe).assign = assign ∧ (rec st pe).body = body ∧ ∀ st' pe', { rec st pe with state := st', pending := pe' } = rec st' pe')
    (hrec2 : ∀ st pe st', { rec st pe with state := st' } = rec st' pe)
    (hps : ∀ x, (encs x).size = ps.size) (hJ : Firm B J) (hJx : ∀ c, Firm B (Jx c)) (hl : B ≤ l) (hl1 : l < B1) (hM : ∀ k, M k → k < B)
    (hrest : ∀ W W', rest W → Upd (fun k => M k ∨ B1 ≤ k ∨ k = l) W W' → rest W')
    (howes : RoundOwes P n B encs ps tmps assign body L M J Jx)
    {pre : List α} {x : α} {D : Nat → Prop} {W : World} (hj : J pre D W) (hlw : W.heap[l]? = some (.loop (rec .ready none))) (hD : ∀ k, D k → B1 ≤ k ∧ k < W.heap.size) (hr : rest W) (hB1 : B1 ≤ W.heap.size) (hpre : pre ++ [x] <+: L) (m : Nat) :
    YieldAt Fence.wide m P l (encs x) W fun e W' =>
      (e = .returned (.bool true) ∧ ∃ D', (J (pre ++ [x]) D' W' ∧ W'.heap[l]? = some (.loop (rec .ready none)) ∧ (∀ k, D' k → B1 ≤ k ∧ k < W'.heap.size) ∧ rest W') ∧ Upd (fun k => M k ∨ k = l ∨ D k) W W' ∧ ∀ k, D' k → D k ∨ W.heap.size ≤ k ∧ k < W'.heap.size) ∨
      (e = .returned (.bool false) ∧ ∃ D', (∃ c, Jx c (pre ++ [x]) D' W' ∧ W'.heap[l]? = some (.loop (rec .done (some c))) ∧ (∀ k, D' k → B1 ≤ k ∧ k < W'.heap.size) ∧ rest W') ∧ Upd (fun k => M k ∨ k = l ∨ D k) W W' ∧ ∀ k, D' k → D k ∨ W.heap.size ≤ k ∧ k < W'.heap.size) := by
  have hlt : l < W.heap.size := (Array.getElem?_eq_some_iff.1 hlw).1
  have hDl : ¬ D l := fun e => by have := hD l e; omega
  have hy := run_yield (P := P) (args := encs x) hlw (by rw [(hrec _ _).2.1]; exact hps x)
  refine ⟨_, _, _, _, hy, roundIn_any (m := n) rfl (roundIn_of_wpIn trivial ?_)⟩
  rw [(hrec _ _).2.2.2.1, (hrec _ _).2.2.2.2.1, (hrec _ _).2.2.2.2.2.1, (hrec _ _).2.1]
  refine howes l pre x D W hl hlt hDl (fun k hk => by have := hD k hk; omega) hj hpre _ ?_
  intro a' Wa hua hbody
  have hla : Wa.heap[l]? = some (.loop (rec .ready none)) := (hua.block l hlt (fun e => e)).trans hlw
  have hlta : l < Wa.heap.size := (Array.getElem?_eq_some_iff.1 hla).1
  refine ⟨_, run_beginRound hla (by rw [(hrec _ _).1]), ?_⟩
  rw [hrec2]
  have hub : Upd (fun k => k = l) Wa (Wa.putObj l (.loop (rec .busy none))) := (Upd.refl (fun k => k = l) _).putObj (.inr rfl) _
  have hlb : (Wa.putObj l (.loop (rec .busy none))).heap[l]? = some (.loop (rec .busy none)) := World.putObj_heap_same hlta
  have hjb : J pre D (Wa.putObj l (.loop (rec .busy none))) := hJ _ _ _ _ (hJ _ _ _ _ hj (hua.mono fun _ _ e => e.elim)) (hub.mono fun k _ e => by rw [e]; exact ⟨hl, hDl⟩)
  have hrb : rest (Wa.putObj l (.loop (rec .busy none))) := hrest _ _ (hrest _ _ hr (hua.mono fun _ _ e => e.elim)) (hub.mono fun k _ e => .inr (.inr e))
  have hszb : (Wa.putObj l (.loop (rec .busy none))).heap.size = Wa.heap.size := by simp
  refine wpIn_mono (hbody _ hub ⟨_, hlb⟩ hjb) ?_
  have fin : ∀ (jump : Option Code) (D' : Nat → Prop) (W3 : World), Upd (fun k => M k ∨ D k ∨ W.heap.size ≤ k) (Wa.putObj l (.loop (rec .busy none))) W3 → (∀ k, D' k → D k ∨ W.heap.size ≤ k ∧ k < W3.heap.size) →
      (Instr.endRound l jump).run P W3 = .ok (.bool jump.isNone) (W3.putObj l (.loop (rec (if jump.isNone then .ready else .done) jump))) ∧
      (W3.putObj l (.loop (rec (if jump.isNone then .ready else .done) jump))).heap[l]? = some (.loop (rec (if jump.isNone then .ready else .done) jump)) ∧
      Upd (fun k => k = l) W3 (W3.putObj l (.loop (rec (if jump.isNone then .ready else .done) jump))) ∧
      (∀ k, D' k → B1 ≤ k ∧ k < W3.heap.size) ∧ ¬ D' l ∧ rest (W3.putObj l (.loop (rec (if jump.isNone then .ready else .done) jump))) ∧
      Upd (fun k => M k ∨ k = l ∨ D k) W (W3.putObj l (.loop (rec (if jump.isNone then .ready else .done) jump))) := fun jump D' W3 hu3 hD' => by
    have hl3 : W3.heap[l]? = some (.loop (rec .busy none)) := (hu3.block l (by rw [hszb]; exact hlta) (fun e => by
      rcases e with e | e | e
      · have := hM l e; omega
      · exact hDl e
      · omega)).trans hlb
    have hE := run_endRound (P := P) jump hl3
    rw [(hrec _ _).2.2.2.2.2.2] at hE
    have hu4 : Upd (fun k => k = l) W3 (W3.putObj l (.loop (rec (if jump.isNone then .ready else .done) jump))) := (Upd.refl (fun k => k = l) _).putObj (.inr rfl) _
    have hsz3 := hu3.size
    have hsza := hua.size
    have hDB : ∀ k, D' k → B1 ≤ k ∧ k < W3.heap.size := fun k hk => by
      rcases hD' k hk with h | h
      · have := hD k h; omega
      · omega
    refine ⟨hE, World.putObj_heap_same (Array.getElem?_eq_some_iff.1 hl3).1, hu4, hDB, fun e => by have := hDB l e; omega, ?_, ?_⟩
    · exact hrest _ _ (hrest _ _ hrb (hu3.mono fun k _ e => by
        rcases e with e | e | e
        · exact .inl e
        · exact .inr (.inl (hD k e).1)
        · exact .inr (.inl (by omega)))) (hu4.mono fun k _ e => .inr (.inr e))
    · have h1 : Upd (fun k => M k ∨ k = l ∨ D k ∨ W.heap.size ≤ k) W (W3.putObj l (.loop (rec (if jump.isNone then .ready else .done) jump))) :=
        (((hua.mono fun _ _ e => e.elim).trans (hub.mono fun k _ e => .inr (.inl e))).trans (hu3.mono fun k _ e => by
          rcases e with e | e | e
          · exact .inl e
          · exact .inr (.inr (.inl e))
          · exact .inr (.inr (.inr e)))).trans (hu4.mono fun k _ e => .inr (.inl e))
      exact h1.mono fun k hk e => by
        rcases e with e | e | e | e
        · exact .inl e
        · exact .inr (.inl e)
        · exact .inr (.inr e)
        · omega
  have firm : ∀ {D' : Nat → Prop} {W3 W4 : World}, ¬ D' l → Upd (fun k => k = l) W3 W4 → Upd (fun k => B ≤ k ∧ ¬ D' k) W3 W4 := fun h hu => hu.mono fun k _ e => by rw [e]; exact ⟨hl, h⟩
  rintro e a3 W3 hp
  cases e with
  | normal =>
    obtain ⟨D', hi3, hu3, hD'⟩ := hp
    obtain ⟨hE, hl4, hu4, hDB, hDl', hr4, hu⟩ := fin none D' W3 hu3 hD'
    exact ⟨_, _, hE, .inl ⟨rfl, D', ⟨hJ _ _ _ _ hi3 (firm hDl' hu4), hl4, (fun k hk => by have := hDB k hk; simp; omega), hr4⟩, hu, fun k hk => by simpa using hD' k hk⟩⟩
  | ret =>
    obtain ⟨D', hi3, hu3, hD'⟩ := hp
    obtain ⟨hE, hl4, hu4, hDB, hDl', hr4, hu⟩ := fin (some .ret) D' W3 hu3 hD'
    exact ⟨_, _, hE, .inr ⟨rfl, D', ⟨_, hJx _ _ _ _ _ hi3 (firm hDl' hu4), hl4, (fun k hk => by have := hDB k hk; simp; omega), hr4⟩, hu, fun k hk => by simpa using hD' k hk⟩⟩
  | exit id =>
    obtain ⟨D', hi3, hu3, hD'⟩ := hp
    obtain ⟨hE, hl4, hu4, hDB, hDl', hr4, hu⟩ := fin (some (.exit id)) D' W3 hu3 hD'
    exact ⟨_, _, hE, .inr ⟨rfl, D', ⟨_, hJx _ _ _ _ _ hi3 (firm hDl' hu4), hl4, (fun k hk => by have := hDB k hk; simp; omega), hr4⟩, hu, fun k hk => by simpa using hD' k hk⟩⟩
  | goto t =>
    obtain ⟨D', hi3, hu3, hD'⟩ := hp
    obtain ⟨hE, hl4, hu4, hDB, hDl', hr4, hu⟩ := fin (some (.goto t)) D' W3 hu3 hD'
    exact ⟨_, _, hE, .inr ⟨rfl, D', ⟨_, hJx _ _ _ _ _ hi3 (firm hDl' hu4), hl4, (fun k hk => by have := hDB k hk; simp; omega), hr4⟩, hu, fun k hk => by simpa using hD' k hk⟩⟩
  | panic ch => exact hp.elim
  | outgrown => exact hp.elim

/-- The statement, outside of any round. -/
theorem range_out {α : Type} {g : Operand} {ps : Array Tmp} {assign body : Code} {Q : Exit → Act → World → Prop} {a : Act} {w : World} {gf : Nat} {lb : Array Value}
    (hg : a.eval g = .func (.func gf) #[] lb) (eg : ∀ args w, (callFunc gf args).run P w = .ok (.enter gf args) w)
    {encs : α → Array Value} {L : List α} (M : Nat → Prop) (hM : ∀ k, M k → k < w.heap.size) (hps : ∀ x, (encs x).size = ps.size)
    (hseq : ∀ W1 l, Upd (fun _ => False) w W1 → w.heap.size ≤ l → l < W1.heap.size → Iter P gf lb encs L (fun k => M k ∨ k = l) W1)
    (J : List α → (Nat → Prop) → World → Prop) (Jx : Code → List α → (Nat → Prop) → World → Prop) (hJ : Firm w.heap.size J) (hJx : ∀ c, Firm w.heap.size (Jx c)) (h0 : J [] (fun _ => False) w)
    (howes : RoundOwes P (n - 1 - 1) w.heap.size encs ps a.tmps assign body L M J Jx)
    (hdone : ∀ (d : Nat) (D : Nat → Prop) (W : World), w.heap.size ≤ d → J L D W → (∀ k, D k → d < k ∧ k < W.heap.size) → W.heap[d]? = some (.deferred (some [])) → Q .normal { a with defers := { target := .collected d, args := #[] } :: a.defers } W)
    (hstop : ∀ (d : Nat) (D : Nat → Prop) (c : Code) (pre : List α) (W : World), w.heap.size ≤ d → pre <+: L → Jx c pre D W → (∀ k, D k → d < k ∧ k < W.heap.size) → W.heap[d]? = some (.deferred (some [])) → c.wpIn Fence.wide n P Q { a with defers := { target := .collected d, args := #[] } :: a.defers } W) :
    (Code.rangeFunc g ps assign body).wpIn Fence.wide n P Q a w := by
  refine wpIn_rangeFunc ?_
  intro fn hfn
  obtain ⟨rec, hrec⟩ : ∃ rec : LoopState → Option Code → Loop, rec = fun st pe => { state := st, pending := pe, fn, tmps := a.tmps, params := ps, assign, body, defers := w.heap.size } := ⟨_, rfl⟩
  obtain ⟨W1, hW1⟩ : ∃ W1, (w.alloc (.deferred (some []))).alloc (.loop (rec .ready none)) = W1 := ⟨_, rfl⟩
  have hL1 : W1.heap[w.heap.size + 1]? = some (.loop (rec .ready none)) := by
    rw [← hW1]; have := World.alloc_heap_new (w.alloc (.deferred (some []))) (.loop (rec .ready none)); rwa [World.size_alloc] at this
  have hK1 : W1.heap[w.heap.size]? = some (.deferred (some [])) := by
    rw [← hW1]; exact (Below.heap_alloc _ _ _ (by simp)).trans (World.alloc_heap_new w _)
  have hz1 : W1.heap.size = w.heap.size + 2 := by rw [← hW1]; simp
  have hu1 : Upd (fun _ => False) w W1 := by rw [← hW1]; exact ((Upd.refl _ w).alloc _).alloc _
  have hI1 : J [] (fun _ => False) W1 := hJ _ _ _ _ h0 (hu1.mono fun _ _ e => e.elim)
  have hi := hseq W1 (w.heap.size + 1) hu1 (by omega) (by omega)
  refine ⟨w.heap.size + 1, [{ target := .collected w.heap.size, args := #[] }], W1, { target := .fn (.func gf) lb, args := #[.func (.yield (w.heap.size + 1)) #[] #[]] }, W1, gf,
    #[.func (.yield (w.heap.size + 1)) #[] #[]] ++ lb, W1, ?_, ?_, ?_, ?_, (fun h => by cases h), ?_⟩
  · rw [← hW1, hrec]; exact run_enterLoop_outer _ _ _ _ _
  · simp only [resolve, hg]
    simp [go_sem]
  · intro f' hf'; trivial
  · simp [invoke, go_sem, eg]
  · refine callsIn_wide.2 ((hi (w.heap.size + 1)
      (fun pre D W => J pre D W ∧ W.heap[w.heap.size + 1]? = some (.loop (rec .ready none)) ∧ (∀ k, D k → W1.heap.size ≤ k ∧ k < W.heap.size) ∧ W.heap[w.heap.size]? = some (.deferred (some [])))
      (fun pre D W => ∃ c, Jx c pre D W ∧ W.heap[w.heap.size + 1]? = some (.loop (rec .done (some c))) ∧ (∀ k, D k → W1.heap.size ≤ k ∧ k < W.heap.size) ∧ W.heap[w.heap.size]? = some (.deferred (some [])))
      ?_ ?_ ?_ ⟨hI1, hL1, fun _ e => e.elim, hK1⟩).mono ?_)
    · rintro s D X Y ⟨hj, hl, hD, hk⟩ hu
      exact ⟨hJ _ _ _ _ hj (hu.mono fun k _ e => ⟨by omega, e.2⟩), (hu.block _ (Array.getElem?_eq_some_iff.1 hl).1 (fun e => by omega)).trans hl, (fun k hk => by have := hD k hk; have := hu.size; omega), (hu.block _ (Array.getElem?_eq_some_iff.1 hk).1 (fun e => by omega)).trans hk⟩
    · rintro s D X Y ⟨c, hj, hl, hD, hk⟩ hu
      exact ⟨c, hJx _ _ _ _ _ hj (hu.mono fun k _ e => ⟨by omega, e.2⟩), (hu.block _ (Array.getElem?_eq_some_iff.1 hl).1 (fun e => by omega)).trans hl, (fun k hk => by have := hD k hk; have := hu.size; omega), (hu.block _ (Array.getElem?_eq_some_iff.1 hk).1 (fun e => by omega)).trans hk⟩
    · rintro pre x D W ⟨hj, hl, hD, hk⟩ hsz hpre m
      obtain ⟨fn', tm, asg, bo, hy, hR⟩ := round_of (P := P) (n := n - 1 - 1) (l := w.heap.size + 1) (B := w.heap.size) (B1 := W1.heap.size) (rec := rec) (M := M) (fn := fn) (encs := encs) (ps := ps) (tmps := a.tmps) (assign := assign) (body := body) (L := L) (J := J) (Jx := Jx)
        (rest := fun W => W.heap[w.heap.size]? = some (.deferred (some [])))
        (by rw [hrec]; exact fun st pe => ⟨rfl, rfl, rfl, rfl, rfl, rfl, fun _ _ => rfl⟩) (by rw [hrec]; exact fun _ _ _ => rfl) hps hJ hJx (by omega) (by omega) hM
        (fun X Y h hu => (hu.block _ (Array.getElem?_eq_some_iff.1 h).1 (fun e => by
          rcases e with e | e | e
          · have := hM _ e; omega
          · omega
          · omega)).trans h) howes hj hl hD hk hsz hpre m
      refine ⟨fn', tm, asg, bo, hy, hR.mono ?_⟩
      rintro e W' (⟨he, D', ⟨h1, h2, h3, h4⟩, hu, hD'⟩ | ⟨he, D', ⟨c, h1, h2, h3, h4⟩, hu, hD'⟩)
      · exact .inl ⟨he, D', ⟨h1, h2, h3, h4⟩, hu.mono fun k _ e => by rcases e with e | e | e <;> simp [e], hD'⟩
      · exact .inr ⟨he, D', ⟨c, h1, h2, h3, h4⟩, hu.mono fun k _ e => by rcases e with e | e | e <;> simp [e], hD'⟩
    · rintro e W2 ⟨⟨v, rfl⟩, (⟨D, hj, hl, hD, hk⟩ | ⟨pre, D, hpre, c, hj, hl, hD, hk⟩)⟩
      · have hDl : ¬ D (w.heap.size + 1) := fun e => by have := hD _ e; omega
        exact ⟨none, _, by have := run_endLoop (P := P) hl (by rw [hrec]; simp); rw [hrec] at this; exact this,
          hdone _ D _ (Nat.le_refl _) (hJ _ _ _ _ hj ((Upd.refl (fun k => w.heap.size ≤ k ∧ ¬ D k) _).putObj (.inr ⟨by omega, hDl⟩) _)) (fun k hk => by have := hD k hk; simp; omega) ((World.putObj_heap_other (by omega)).trans hk)⟩
      · have hDl : ¬ D (w.heap.size + 1) := fun e => by have := hD _ e; omega
        exact ⟨some c, _, by have := run_endLoop (P := P) hl (by rw [hrec]; simp); rw [hrec] at this; exact this,
          hstop _ D c pre _ (Nat.le_refl _) hpre (hJx _ _ _ _ _ hj ((Upd.refl (fun k => w.heap.size ≤ k ∧ ¬ D k) _).putObj (.inr ⟨by omega, hDl⟩) _)) (fun k hk => by have := hD k hk; simp; omega) ((World.putObj_heap_other (by omega)).trans hk)⟩

/-- The statement, within a round of loop l₀. -/
theorem range_in {α : Type} {g : Operand} {ps : Array Tmp} {assign body : Code} {Q : Exit → Act → World → Prop} {a : Act} {w : World} {l₀ : Nat} (hl₀ : ∃ r₀, w.heap[l₀]? = some (.loop r₀)) {gf : Nat} {lb : Array Value}
    (hg : a.eval g = .func (.func gf) #[] lb) (eg : ∀ args w, (callFunc gf args).run P w = .ok (.enter gf args) w)
    {encs : α → Array Value} {L : List α} (M : Nat → Prop) (hM : ∀ k, M k → k < w.heap.size) (hps : ∀ x, (encs x).size = ps.size)
    (hseq : ∀ W1 l, Upd (fun _ => False) w W1 → w.heap.size ≤ l → l < W1.heap.size → Iter P gf lb encs L (fun k => M k ∨ k = l) W1)
    (J : List α → (Nat → Prop) → World → Prop) (Jx : Code → List α → (Nat → Prop) → World → Prop) (hJ : Firm w.heap.size J) (hJx : ∀ c, Firm w.heap.size (Jx c)) (h0 : J [] (fun _ => False) w)
    (howes : RoundOwes P (n - 1 - 1) w.heap.size encs ps a.tmps assign body L M J Jx)
    (hdone : ∀ (D : Nat → Prop) (W : World), J L D W → (∀ k, D k → w.heap.size < k ∧ k < W.heap.size) → Q .normal a W)
    (hstop : ∀ (D : Nat → Prop) (c : Code) (pre : List α) (W : World), pre <+: L → Jx c pre D W → (∀ k, D k → w.heap.size < k ∧ k < W.heap.size) → c.wpIn (Fence.wide.inRound l₀) n P Q a W) :
    (Code.rangeFunc g ps assign body).wpIn (Fence.wide.inRound l₀) n P Q a w := by
  obtain ⟨r₀, hl₀⟩ := hl₀
  refine wpIn_rangeFunc ?_
  intro fn hfn
  obtain ⟨rec, hrec⟩ : ∃ rec : LoopState → Option Code → Loop, rec = fun st pe => { state := st, pending := pe, fn, tmps := a.tmps, params := ps, assign, body, defers := r₀.defers } := ⟨_, rfl⟩
  obtain ⟨W1, hW1⟩ : ∃ W1, w.alloc (.loop (rec .ready none)) = W1 := ⟨_, rfl⟩
  have hL1 : W1.heap[w.heap.size]? = some (.loop (rec .ready none)) := by rw [← hW1]; exact World.alloc_heap_new w _
  have hz1 : W1.heap.size = w.heap.size + 1 := by rw [← hW1]; simp
  have hu1 : Upd (fun _ => False) w W1 := by rw [← hW1]; exact (Upd.refl _ w).alloc _
  have hI1 : J [] (fun _ => False) W1 := hJ _ _ _ _ h0 (hu1.mono fun _ _ e => e.elim)
  have hi := hseq W1 w.heap.size hu1 (by omega) (by omega)
  refine ⟨w.heap.size, [], W1, { target := .fn (.func gf) lb, args := #[.func (.yield w.heap.size) #[] #[]] }, W1, gf,
    #[.func (.yield w.heap.size) #[] #[]] ++ lb, W1, ?_, ?_, ?_, ?_, (fun h => by cases h), ?_⟩
  · rw [← hW1, hrec]; exact run_enterLoop_inner hl₀ _ _ _ _ _
  · simp only [resolve, hg]
    simp [go_sem]
  · intro f' hf'; trivial
  · simp [invoke, go_sem, eg]
  · refine CallsIn.inRound l₀ (callsIn_wide.2 ((hi w.heap.size
      (fun pre D W => J pre D W ∧ W.heap[w.heap.size]? = some (.loop (rec .ready none)) ∧ (∀ k, D k → W1.heap.size ≤ k ∧ k < W.heap.size))
      (fun pre D W => ∃ c, Jx c pre D W ∧ W.heap[w.heap.size]? = some (.loop (rec .done (some c))) ∧ (∀ k, D k → W1.heap.size ≤ k ∧ k < W.heap.size))
      ?_ ?_ ?_ ⟨hI1, hL1, fun _ e => e.elim⟩).mono ?_))
    · rintro s D X Y ⟨hj, hl, hD⟩ hu
      exact ⟨hJ _ _ _ _ hj (hu.mono fun k _ e => ⟨by omega, e.2⟩), (hu.block _ (Array.getElem?_eq_some_iff.1 hl).1 (fun e => by omega)).trans hl, fun k hk => by have := hD k hk; have := hu.size; omega⟩
    · rintro s D X Y ⟨c, hj, hl, hD⟩ hu
      exact ⟨c, hJx _ _ _ _ _ hj (hu.mono fun k _ e => ⟨by omega, e.2⟩), (hu.block _ (Array.getElem?_eq_some_iff.1 hl).1 (fun e => by omega)).trans hl, fun k hk => by have := hD k hk; have := hu.size; omega⟩
    · rintro pre x D W ⟨hj, hl, hD⟩ hsz hpre m
      obtain ⟨fn', tm, asg, bo, hy, hR⟩ := round_of (P := P) (n := n - 1 - 1) (l := w.heap.size) (B := w.heap.size) (B1 := W1.heap.size) (rec := rec) (M := M) (fn := fn) (encs := encs) (ps := ps) (tmps := a.tmps) (assign := assign) (body := body) (L := L) (J := J) (Jx := Jx)
        (rest := fun _ => True)
        (by rw [hrec]; exact fun st pe => ⟨rfl, rfl, rfl, rfl, rfl, rfl, fun _ _ => rfl⟩) (by rw [hrec]; exact fun _ _ _ => rfl) hps hJ hJx (by omega) (by omega) hM
        (fun _ _ _ _ => trivial) howes hj hl hD trivial hsz hpre m
      refine ⟨fn', tm, asg, bo, hy, hR.mono ?_⟩
      rintro e W' (⟨he, D', ⟨h1, h2, h3, _⟩, hu, hD'⟩ | ⟨he, D', ⟨c, h1, h2, h3, _⟩, hu, hD'⟩)
      · exact .inl ⟨he, D', ⟨h1, h2, h3⟩, hu.mono fun k _ e => by rcases e with e | e | e <;> simp [e], hD'⟩
      · exact .inr ⟨he, D', ⟨c, h1, h2, h3⟩, hu.mono fun k _ e => by rcases e with e | e | e <;> simp [e], hD'⟩
    · rintro e W2 ⟨⟨v, rfl⟩, (⟨D, hj, hl, hD⟩ | ⟨pre, D, hpre, c, hj, hl, hD⟩)⟩
      · have hDl : ¬ D w.heap.size := fun e => by have := hD _ e; omega
        exact ⟨none, _, by have := run_endLoop (P := P) hl (by rw [hrec]; simp); rw [hrec] at this; exact this,
          hdone D _ (hJ _ _ _ _ hj ((Upd.refl (fun k => w.heap.size ≤ k ∧ ¬ D k) _).putObj (.inr ⟨by omega, hDl⟩) _)) (fun k hk => by have := hD k hk; simp; omega)⟩
      · have hDl : ¬ D w.heap.size := fun e => by have := hD _ e; omega
        exact ⟨some c, _, by have := run_endLoop (P := P) hl (by rw [hrec]; simp); rw [hrec] at this; exact this,
          hstop D c pre _ hpre (hJx _ _ _ _ _ hj ((Upd.refl (fun k => w.heap.size ≤ k ∧ ¬ D k) _).putObj (.inr ⟨by omega, hDl⟩) _)) (fun k hk => by have := hD k hk; simp; omega)⟩
end
end Go.Proofs.YtmlihbcffndnbaaDoor

/- A row of numbers that a call has made: known whole. -/
namespace Go.Proofs.YtmlihbcffndnbaaDoor
open Go.RowKit

/-- Block b is just the numbers zs, of element type t. -/
def Arr (w : World) (b : Nat) (t : TypeId) (zs : List Int) : Prop := w.heap[b]? = some (.cells (zs.map (Value.int .i64)).toArray t (0, 0))

section
variable {w w' : World} {b : Nat} {t : TypeId} {zs : List Int} {R : Nat → Prop}
theorem Arr.lt (h : Arr w b t zs) : b < w.heap.size := (Array.getElem?_eq_some_iff.1 h).1
theorem Arr.cell (h : Arr w b t zs) {k : Nat} (hk : k < zs.length) : w.cell? ⟨b, k, none⟩ = some (.int .i64 (zs[k]?.getD 0)) := by
  rw [cell_of_row w b k _ t (0, 0) h]
  simp [List.getElem?_eq_getElem hk]
theorem Arr.frozen (h : Arr w b t zs) (k : Nat) : w.frozen? ⟨b, k, none⟩ = false := by
  unfold Arr at h
  simp [World.frozen?, h]
theorem Arr.upd (h : Arr w b t zs) (hu : Upd R w w') (hr : ¬ R b) : Arr w' b t zs := (hu.block b h.lt hr).trans h
theorem Arr.below {B : Nat} (h : Arr w b t zs) (hu : Below B w w') (hr : b < B) : Arr w' b t zs := (hu.block b hr).trans h
theorem Arr.drewN (h : Arr w b t zs) (n : Nat) : Arr (w.drewN n) b t zs := h
theorem Arr.drew (h : Arr w b t zs) : Arr w.drew b t zs := h
theorem Arr.alloc (h : Arr w b t zs) (o : Obj) : Arr (w.alloc o) b t zs := (Below.heap_alloc w o b h.lt).trans h
theorem Arr.far (h : Arr w b t zs) {p : Addr} (hp : b ≠ p.block) (u : Value) : Arr (w.setCell p u) b t zs := (Below.heap_setCell w p u b hp).trans h
theorem Arr.set (h : Arr w b t zs) (k : Nat) (v : Int) : Arr (w.setCell ⟨b, k, none⟩ (.int .i64 v)) b t (zs.set k v) := by
  unfold Arr at h ⊢
  simp [World.setCell, Array.getElem?_modify, h, List.map_set]
theorem Arr.new (w : World) (t : TypeId) (n : Nat) : Arr (w.alloc (.cells (madeCells #[.int .i64 0] n) t)) w.heap.size t (List.replicate n 0) := by
  have h := heap_alloc_new w (.cells (madeCells #[Value.int .i64 0] n) t)
  unfold Arr
  rw [h]
  congr 2
  apply Array.ext
  · simp [madeCells]
  · intro i h1 h2
    simp [madeCells, Nat.mod_one]
theorem Arr.ints (h : Arr w b t zs) {B : Nat} (hB : b < B) : Ints w B (some ⟨b, 0, none⟩) zs.length zs :=
  ⟨rfl, fun _ => ⟨b, 0, rfl, hB, fun j hj => by rw [Nat.zero_add]; exact h.cell hj⟩⟩
theorem Arr.ints' (h : Arr w b t zs) {B n : Nat} (hB : b < B) (hn : zs.length = n) : Ints w B (some ⟨b, 0, none⟩) n zs := by
  subst hn; exact h.ints hB
end

/-- A store into the one row that may turn. -/
theorem only_setCell {a w : World} {g : Nat} (h : a.grownBy w (some g)) {p : Addr} (hp : p.block = g ∨ a.heap.size ≤ p.block) (u : Value) : a.grownBy (w.setCell p u) (some g) :=
  ⟨h.os, h.tape, h.output, by simpa [World.setCell] using h.size, fun i hi hne => (Below.heap_setCell w p u i (by
    rintro rfl
    rcases hp with hp | hp
    · exact hne (by rw [hp])
    · omega)).trans (h.block i hi hne)⟩
end Go.Proofs.YtmlihbcffndnbaaDoor

/- The contracts of the smallest functions: single bits, ranges, powers of two. -/
namespace Go.Proofs.YtmlihbcffndnbaaDoor
open Go.RowKit

theorem ret_int {k : IntKind} {a b : Int} (h : a = b) : Ending.returned (.int k a) = .returned (.int k b) := by rw [h]
theorem ret_bool {a b : Bool} (h : a = b) : Ending.returned (.bool a) = .returned (.bool b) := by rw [h]

theorem bit_any (s j : Int) (w : World) (h0 : 0 ≤ s) (h1 : s < 4611686018427387904) (j0 : 0 ≤ j) (j1 : j < 64) :
    Calls Tryd.prog 47 #[.int .i64 s, .int .i64 j] w fun e w' => e = .returned (.int .i64 (bitI s j)) ∧ w = w' := by
  go_enter Tryd.func47, Tryd.ntmps47
  go_wp2
  go_ret
  exact ⟨ret_int (shr_and_one h0 h1), rfl⟩
theorem hasBit_any (s j : Int) (w : World) (h0 : 0 ≤ s) (h1 : s < 4611686018427387904) (j0 : 0 ≤ j) (j1 : j < 64) :
    Calls Tryd.prog 18 #[.int .i64 s, .int .i64 j] w fun e w' => e = .returned (.bool (bitB s j)) ∧ w = w' := by
  go_enter Tryd.func18, Tryd.ntmps18
  go_wp2
  go_ret
  exact ⟨ret_bool (by rw [shr_and_one h0 h1, bitI_one]), rfl⟩
theorem has_any (s j : Int) (w : World) (h0 : 0 ≤ s) (h1 : s < 4611686018427387904) (j0 : 0 ≤ j) (j1 : j < 64) :
    Calls Tryd.prog 84 #[.int .i64 s, .int .i64 j] w fun e w' => e = .returned (.bool (bitB s j)) ∧ w = w' := by
  go_enter Tryd.func84, Tryd.ntmps84
  go_wp2
  go_ret
  exact ⟨ret_bool (by rw [shr_and_one h0 h1, bitI_one]), rfl⟩
theorem with_any (s j : Int) (w : World) (h0 : 0 ≤ s) (h1 : s < 64) (j0 : 0 ≤ j) (j1 : j ≤ 6) :
    Calls Tryd.prog 64 #[.int .i64 s, .int .i64 j] w fun e w' => e = .returned (.int .i64 (orI s (powI j))) ∧ w = w' := by
  go_enter Tryd.func64, Tryd.ntmps64
  go_wp2
  go_ret
  have hp := powI_le6 j1
  have hq := powI_pos j
  exact ⟨ret_int (by
    have : wrap64 (2 ^ j.toNat) = powI j := IntWalk.wrap64_in _ ⟨by unfold powI at hq; omega, by unfold powI at hp; omega⟩
    rw [this]; exact bits_or h0 (by omega) (by omega) (by omega)), rfl⟩
theorem within_any (s t : Int) (w : World) (h0 : 0 ≤ s) (h1 : s < 4611686018427387904) (j0 : 0 ≤ t) (j1 : t < 4611686018427387904) :
    Calls Tryd.prog 80 #[.int .i64 s, .int .i64 t] w fun e w' => e = .returned (.bool (lessI s t == 0)) ∧ w = w' := by
  go_enter Tryd.func80, Tryd.ntmps80
  go_wp2
  go_ret
  exact ⟨ret_bool (by rw [bits_less h0 h1 j0 j1]), rfl⟩

theorem inRange_any (n lo hi : Int) (w : World) :
    Calls Tryd.prog 44 #[.int .i64 n, .int .i64 lo, .int .i64 hi] w fun e w' => e = .returned (.bool (inB n lo hi)) ∧ w = w' := by
  go_enter Tryd.func44, Tryd.ntmps44
  go_wp2
  all_goals go_ret
  all_goals exact ⟨ret_bool (by unfold inB; simp; omega), rfl⟩
theorem isItemOf_any (n k : Int) (w : World) :
    Calls Tryd.prog 71 #[.int .i64 n, .int .i64 k] w fun e w' => e = .returned (.bool (inB k 0 (n - 1))) ∧ w = w' := by
  go_enter Tryd.func71, Tryd.ntmps71
  go_wp2
  all_goals go_ret
  all_goals exact ⟨ret_bool (by rw [Bool.eq_iff_iff]; simp [inB]; try omega), rfl⟩
theorem isSetOf_any (n s : Int) (w : World) (h0 : 0 ≤ n) (h1 : n ≤ 6) :
    Calls Tryd.prog 61 #[.int .i64 n, .int .i64 s] w fun e w' => e = .returned (.bool (inB s 0 (powI n - 1))) ∧ w = w' := by
  have hp := powI_le6 h1
  have hq := powI_pos n
  have e : wrap64 (2 ^ n.toNat) = powI n := IntWalk.wrap64_in _ ⟨by unfold powI at hq; omega, by unfold powI at hp; omega⟩
  have E := Lib.hid e
  clear e
  go_enter Tryd.func61, Tryd.ntmps61
  go_wp2
  all_goals go_ret
  all_goals exact ⟨ret_bool (by rw [Bool.eq_iff_iff]; simp [inB, E.out]; try omega), rfl⟩

set_option maxHeartbeats 400000 in
theorem power_any (n : Int) (w : World) (h0 : 0 ≤ n) (h1 : n ≤ 8) :
    Calls Tryd.prog 56 #[.int .i64 n] w fun e w' => e = .returned (.int .i64 (powI n)) ∧ w = w' := by
  go_enter Tryd.func56, Tryd.ntmps56
  go_wp2
  go_loop [0, 3] (fun i t => ∃ k : Int, 0 ≤ k ∧ k ≤ n ∧ i = .int .i64 k ∧ t = .int .i64 (powI (n - k))) (fun i _ => (intOf i).toNat)
  case atStart => exact ⟨n, by omega, by omega, rfl, by rw [show n - n = 0 from by omega]; rfl⟩
  case round =>
    obtain ⟨k, hk, hkn, rfl, rfl⟩ := hrel
    have hp : powI (n - k) ≤ 256 := powI_le (m := 8) (by omega)
    have hq := powI_pos (n - k)
    by_cases hlt : 0 < k
    · go_wp2
      go_round
      case rel => exact ⟨k - 1, by omega, by omega, rfl, by rw [show n - (k - 1) = (n - k) + 1 from by omega, powI_succ (by omega)]⟩
      case measure => simp [intOf]; omega
    · go_wp2
      go_ret
      exact ⟨ret_int (by rw [show n - k = n from by omega]), rfl⟩
end Go.Proofs.YtmlihbcffndnbaaDoor

/- The items of a set, one after the other: the iterator 'each'. -/
namespace Go.Proofs.YtmlihbcffndnbaaDoor
open Go.RowKit Go.Shelf
attribute [local go_sem] Oper.semAt_some

/-- The items of s that are less than k, ascending. -/
def itemsTo (s : Int) (k : Nat) : List Nat := (List.range k).filter fun j => bitB s j
def itemsL (s : Int) : List Nat := itemsTo s 6
theorem itemsTo_yes {s : Int} {k : Nat} (h : bitB s k = true) : itemsTo s (k + 1) = itemsTo s k ++ [k] := by
  simp [itemsTo, List.range_succ, h]
theorem itemsTo_no {s : Int} {k : Nat} (h : bitB s k = false) : itemsTo s (k + 1) = itemsTo s k := by
  simp [itemsTo, List.range_succ, h]
theorem itemsTo_pre {s : Int} : ∀ (d k : Nat), itemsTo s k <+: itemsTo s (k + d)
  | 0, k => List.prefix_refl _
  | d + 1, k => (itemsTo_pre d k).trans (by
      rw [← Nat.add_assoc]
      cases h : bitB s ((k + d : Nat) : Int)
      · rw [itemsTo_no h]; exact List.prefix_refl _
      · rw [itemsTo_yes h]; exact List.prefix_append _ _)
theorem itemsTo_le {s : Int} {k m : Nat} (h : k ≤ m) : itemsTo s k <+: itemsTo s m := by
  have := itemsTo_pre (s := s) (m - k) k
  rwa [show k + (m - k) = m from by omega] at this
theorem mem_itemsTo {s : Int} {k j : Nat} : j ∈ itemsTo s k ↔ j < k ∧ bitB s j = true := by simp [itemsTo]
abbrev encI (j : Nat) : Array Value := #[.int .i64 (j : Int)]

theorem each_any (s : Int) (w : World) :
    Calls Tryd.prog 59 #[.int .i64 s] w fun e w' => e = .returned (.func (.func 83) #[] #[.pointer (some ⟨w.heap.size, 0, none⟩)]) ∧ w' = w.alloc (.cells #[.int .i64 s] 59) := by
  go_enter Tryd.func59, Tryd.ntmps59
  go_wp2
  go_ret
  exact ⟨rfl, rfl⟩

set_option maxRecDepth 100000 in
set_option maxHeartbeats 1000000 in
theorem each_iter (s : Int) (h0 : 0 ≤ s) (h1 : s < 64) (b : Nat) (M : Nat → Prop) (w : World) (hb : Boxed w b 59 (.int .i64 s)) (hM : ¬ M b) :
    Iter Tryd.prog 83 #[.pointer (some ⟨b, 0, none⟩)] encI (itemsL s) M w := fun l J Jx hJ hJx hY h0 => by
  refine (callsIn_wide (n := 9)).1 ?_
  refine callsIn_of_wp Tryd.func83 rfl trivial ?_ rfl
  simp only [Tryd.ntmps83, List.size_toArray, List.length_cons, List.length_nil, Nat.reduceAdd, Nat.reduceSub, Array.replicate_succ, Array.replicate_zero, List.push_toArray, List.append_toArray, List.nil_append, List.cons_append]
  gi_wp2
  gi_loopw [4] (fun i wr => ∃ (k : Nat) (D : Nat → Prop), k ≤ 6 ∧ i = .int .i64 k ∧ J (itemsTo s k) D wr ∧ Boxed wr b 59 (.int .i64 s) ∧ ¬ D b ∧ w.heap.size ≤ wr.heap.size) (fun i _ => 6 - (intOf i).toNat)
  case atStart => exact ⟨0, _, by omega, rfl, h0, hb, fun e => e, Nat.le_refl _⟩
  case round =>
    obtain ⟨k, D, hk, rfl, hj, hbx, hDb, hsz⟩ := hrel
    have hc := hbx.cell
    by_cases hlt : k < 6
    · cases hbit : bitB s k
      · have Hj := Lib.hid (itemsTo_no hbit)
        gi_wp2_with ((try refine ⟨trivial, ?_⟩); gi_at_call 84; refine (callsIn_wide.2 (has_any _ _ _ (by omega) (by omega) (by omega) (by omega))).mono ?_; rintro e w' ⟨rfl, rfl⟩)
        refine ⟨fun _ h => (by cases h), ?_⟩
        gi_wp2
        go_roundw
        case rel => exact ⟨k + 1, D, by omega, by go_num, by rw [Hj.out]; exact hj, hbx, hDb, hsz⟩
        case measure => simp [intOf]; omega
      · have Hj := Lib.hid (itemsTo_yes hbit)
        have hpre : itemsTo s k ++ [k] <+: itemsL s := by rw [← Hj.out]; exact itemsTo_le (by omega)
        obtain ⟨fn, tmps, assign, body, hy, hR⟩ := hY (itemsTo s k) k D wr hj hsz hpre 8
        gi_wp2_with ((try refine ⟨trivial, ?_⟩); gi_at_call 84; refine (callsIn_wide.2 (has_any _ _ _ (by omega) (by omega) (by omega) (by omega))).mono ?_; rintro e w' ⟨rfl, rfl⟩)
        refine hR.mono ?_
        have hlt' := hbx.lt
        rintro e W3 (⟨rfl, D', hJ3, hU, hD'⟩ | ⟨rfl, D', hJ3, hU, hD'⟩)
        · have hz3 := hU.size
          have hb3 : Boxed W3 b 59 (.int .i64 s) := hU.boxed hbx (fun e => e.elim hM hDb)
          have hD3 : ¬ D' b := fun e => (hD' b e).elim hDb (fun h => by omega)
          gi_wp2
          go_roundw
          case rel => exact ⟨k + 1, D', by omega, by go_num, by rw [Hj.out]; exact hJ3, hb3, hD3, by omega⟩
          case measure => simp [intOf]; omega
        · gi_wp2
          refine bodyPost_ret (results_none rfl _ _ _) rfl ?_
          exact ⟨⟨_, rfl⟩, .inr ⟨_, D', hpre, hJ3⟩⟩
    · obtain rfl : k = 6 := by omega
      gi_wp2
      go_end0
      exact ⟨⟨_, rfl⟩, .inl ⟨D, hj⟩⟩
end Go.Proofs.YtmlihbcffndnbaaDoor

/- The pairs of an order, one after the other: the iterator 'pairs'. -/
namespace Go.Proofs.YtmlihbcffndnbaaDoor
open Go.RowKit Go.Shelf
attribute [local go_sem] Oper.semAt_some

/-- The pairs of the items less than k and those above them. -/
def pairsTo (zs : List Int) (k : Nat) : List (Nat × Nat) := (List.range k).flatMap fun a => (itemsL (zs[a]?.getD 0)).map fun b => (a, b)
def pairsL (zs : List Int) : List (Nat × Nat) := pairsTo zs zs.length
theorem pairsTo_succ (zs : List Int) (k : Nat) : pairsTo zs (k + 1) = pairsTo zs k ++ (itemsL (zs[k]?.getD 0)).map fun b => (k, b) := by
  simp [pairsTo, List.range_succ]
theorem pairsTo_le (zs : List Int) {k m : Nat} (h : k ≤ m) : pairsTo zs k <+: pairsTo zs m := by
  induction m with
  | zero => rw [show k = 0 from by omega]; exact List.prefix_refl _
  | succ m ih =>
    rcases Nat.lt_or_ge m k with h1 | h1
    · rw [show k = m + 1 from by omega]; exact List.prefix_refl _
    · rw [pairsTo_succ]; exact (ih h1).trans (List.prefix_append _ _)
theorem mem_pairsL {zs : List Int} {a b : Nat} : (a, b) ∈ pairsL zs ↔ a < zs.length ∧ b < 6 ∧ bitB (zs[a]?.getD 0) b = true := by
  simp only [pairsL, pairsTo, List.mem_flatMap, List.mem_range, List.mem_map, itemsL, mem_itemsTo]
  constructor
  · rintro ⟨x, hx, y, ⟨hy, hb⟩, e⟩
    cases e
    exact ⟨hx, hy, hb⟩
  · rintro ⟨h1, h2, h3⟩
    exact ⟨a, h1, b, ⟨h2, h3⟩, rfl⟩
theorem Sets.pair {zs : List Int} (h : Sets zs) {a b : Nat} (hp : (a, b) ∈ pairsL zs) : a < zs.length ∧ b < zs.length ∧ bitB (zs[a]?.getD 0) b = true := by
  obtain ⟨h1, _, h3⟩ := mem_pairsL.1 hp
  exact ⟨h1, bitB_lt (h.2 a h1).2 h3, h3⟩
abbrev encP (x : Nat × Nat) : Array Value := #[.int .i64 (x.1 : Int), .int .i64 (x.2 : Int)]

/-- The marks of loops that are over, at the activation's end. -/
def marks (bs : List Nat) : List Deferred := bs.map fun b => { target := .collected b, args := #[] }
def Open (bs : List Nat) (W : World) : Prop := bs.Nodup ∧ ∀ b ∈ bs, W.heap[b]? = some (.deferred (some []))
theorem Open.cons {bs : List Nat} {W : World} {b : Nat} (h : Open bs W) (hb : W.heap[b]? = some (.deferred (some []))) (hn : b ∉ bs) : Open (b :: bs) W :=
  ⟨List.nodup_cons.2 ⟨hn, h.1⟩, fun c hc => by 
    rcases List.mem_cons.1 hc with rfl | hc
    · exact hb
    · exact h.2 c hc⟩
theorem Open.upd {bs : List Nat} {R : Nat → Prop} {W W' : World} (h : Open bs W) (hu : Upd R W W') (hr : ∀ b ∈ bs, ¬ R b) : Open bs W' :=
  ⟨h.1, fun b hb => (hu.block b (Array.getElem?_eq_some_iff.1 (h.2 b hb)).1 (hr b hb)).trans (h.2 b hb)⟩
theorem leaves_marks {F : Fence} {n : Nat} {P : Program} {fn : Func} {tmps : Array Value} {R : Ending → World → Prop} :
    ∀ (bs : List Nat) (W : World), Open bs W → (∀ W', Upd (fun k => k ∈ bs) W W' → LeavesIn F n P fn tmps R [] .returning W') → LeavesInM F n P fn tmps R (marks bs) .returning W
  | [], W, _, h => h W (Upd.refl _ _)
  | b :: bs, W, ho, h => by
    have hb := ho.2 b (by simp)
    have hu : Upd (fun k => k = b) W (W.putObj b (.deferred none)) := (Upd.refl (fun k => k = b) W).putObj (.inr rfl) _
    refine ⟨by simp, .inl ⟨b, _, rfl, run_takeDeferred hb, leaves_marks bs _ (Open.upd ⟨(List.nodup_cons.1 ho.1).2, fun c hc => ho.2 c (by simp [hc])⟩ hu (fun c hc e => (List.nodup_cons.1 ho.1).1 (by rw [← e]; exact hc))) fun W' hu' => h W' ?_⟩⟩
    exact (hu.mono fun k _ e => by simp [e]).trans (hu'.mono fun k _ e => by simp [e])

theorem pairs_any (A : Option Addr) (n c : Nat) (w : World) :
    Calls Tryd.prog 63 #[.slice A n c] w fun e w' => e = .returned (.func (.func 86) #[] #[.pointer (some ⟨w.heap.size, 0, none⟩)]) ∧ w' = w.alloc (.cells #[.slice A n c] 42) := by
  go_enter Tryd.func63, Tryd.ntmps63
  go_wp2
  go_ret
  exact ⟨rfl, rfl⟩

theorem pairs_pre {zs : List Int} {k : Nat} (hk : k < zs.length) {xs : List Nat} (h : xs <+: itemsL (zs[k]?.getD 0)) : pairsTo zs k ++ xs.map (fun x => (k, x)) <+: pairsL zs := by
  refine List.IsPrefix.trans ?_ (pairsTo_le zs (k := k + 1) (m := zs.length) hk)
  rw [pairsTo_succ]
  exact (List.prefix_append_right_inj _).2 (h.map _)

/-- What holds between two rounds of the inner loop. -/
def PairIn (zs : List Int) (J : List (Nat × Nat) → (Nat → Prop) → World → Prop) (M D0 : Nat → Prop) (k : Nat) (Wc : World) (xs : List Nat) (D : Nat → Prop) (W : World) : Prop :=
  ∃ D2, J (pairsTo zs k ++ xs.map (fun x => (k, x))) D2 W ∧ (∀ j, D2 j → D0 j ∨ D j) ∧ Upd (fun j => M j ∨ D0 j) Wc W
theorem PairIn.firm {zs : List Int} {J : List (Nat × Nat) → (Nat → Prop) → World → Prop} {M D0 : Nat → Prop} {k B : Nat} {Wc : World} (hJ : Firm B J) (hB : B ≤ Wc.heap.size) (hD : ∀ j, D0 j → j < Wc.heap.size) : Firm Wc.heap.size (PairIn zs J M D0 k Wc) := by
  rintro s D W W' ⟨D2, hj, h2, hu⟩ hw
  refine ⟨D2, hJ _ _ _ _ hj (hw.mono fun j _ e => ⟨by omega, fun e2 => ?_⟩), h2, hu.trans' hw (fun i hi e => by omega)⟩
  rcases h2 j e2 with h | h
  · have := hD j h; omega
  · exact e.2 h

set_option maxRecDepth 100000 in
set_option maxHeartbeats 4000000 in
theorem pairs_iter (A : Option Addr) (n c : Nat) (zs : List Int) (hv : Sets zs) (b : Nat) (M : Nat → Prop) (w : World) (hb : Boxed w b 42 (.slice A n c)) (hM : ¬ M b) (hMb : ∀ k, M k → k < w.heap.size)
    (hA : Ints w w.heap.size A n zs) (hMA : 0 < n → ∀ a, A = some a → ¬ M a.block) :
    Iter Tryd.prog 86 #[.pointer (some ⟨b, 0, none⟩)] encP (pairsL zs) M w := fun l J Jx hJ hJx hY h0 => by
  refine (callsIn_wide (n := 9)).1 ?_
  refine callsIn_of_wp_marks Tryd.func86 rfl trivial ?_ rfl
  simp only [Tryd.ntmps86, List.size_toArray, List.length_cons, List.length_nil, Nat.reduceAdd, Nat.reduceSub, Array.replicate_succ, Array.replicate_zero, List.push_toArray, List.append_toArray, List.nil_append, List.cons_append]
  have hc0 := (hb.alloc (.cells #[Value.func (.yield l) #[] #[]] 31)).cell
  have hlen := Lib.hid hA.len
  have hn6 : n ≤ 6 := by have := hv.1; rw [hlen.out] at this; exact this
  have hbl := hb.lt
  gi_wp2
  clear hc0
  have hyb := Boxed.new w 31 (.func (.yield l) #[] #[])
  have hu0 : Upd (fun _ => False) w (w.alloc (.cells #[Value.func (.yield l) #[] #[]] 31)) := (Upd.refl _ w).alloc _
  refine wpIn_loop (fun a' wr => ∃ (k : Nat) (D : Nat → Prop) (bs : List Nat) (v3 v4 v5 v8 v9 v10 v11 v12 v13 v14 v15 v16 v17 v18 v19 v20 v21 : Value),
      (k ≤ n ∧ v8 = .int .i64 (k : Int) ∧ J (pairsTo zs k) D wr ∧ (∀ j, D j → w.heap.size < j ∧ j < wr.heap.size) ∧ Upd M w wr ∧ Boxed wr w.heap.size 31 (.func (.yield l) #[] #[]) ∧ Open bs wr ∧ (∀ j ∈ bs, w.heap.size < j ∧ ¬ D j)) ∧
      a' = { tmps := #[.func (.yield l) #[] #[], .pointer (some ⟨b, 0, none⟩), .pointer (some ⟨w.heap.size, 0, none⟩), v3, v4, v5, .slice A n c, .int .i64 (n : Int), v8, v9, v10, v11, v12, v13, v14, v15, v16, v17, v18, v19, v20, v21], defers := marks bs })
    (fun a' _ => n - (intOf (a'.tmps.getD 8 undef)).toNat) ?_ ?_
  · exact ⟨0, fun _ => False, [], _, _, _, _, _, _, _, _, _, _, _, _, _, _, _, _, _, ⟨by omega, rfl, hJ _ _ _ _ h0 (hu0.mono fun _ _ e => e.elim), fun _ e => e.elim, hu0.mono fun _ _ e => e.elim, hyb, ⟨List.nodup_nil, fun _ e => by cases e⟩, fun _ e => by cases e⟩, rfl⟩
  · rintro a' wr ⟨k, D, bs, v3, v4, v5, v8, v9, v10, v11, v12, v13, v14, v15, v16, v17, v18, v19, v20, v21, ⟨hk, rfl, hj, hD, hU, hyr, hop, hbs⟩, rfl⟩
    have hbr : Boxed wr b 42 (.slice A n c) := hU.boxed hb hM
    have hszr := hU.size
    by_cases hlt : k < n
    · obtain ⟨ab, off, rfl, hab, hc⟩ := hA.at_ hlt
      have hck := hU.cell (hc k hlt) (hMA (by omega) ⟨ab, off, none⟩ rfl)
      have hz := hv.bd k (by rw [hlen.out]; exact hlt)
      gi_wp2_with ((try refine ⟨trivial, ?_⟩); gi_at_call 59; refine (callsIn_wide.2 (each_any _ _)).mono ?_; rintro e w' ⟨rfl, rfl⟩)
      have hlb := (Boxed.new wr 3 (.int .i64 (k : Int))).alloc (.cells #[Value.int .i64 (zs[k]?.getD 0)] 59)
      have heb := Boxed.new (wr.alloc (.cells #[Value.int .i64 (k : Int)] 3)) 59 (.int .i64 (zs[k]?.getD 0))
      have huc : Upd (fun _ => False) wr ((wr.alloc (.cells #[Value.int .i64 (k : Int)] 3)).alloc (.cells #[Value.int .i64 (zs[k]?.getD 0)] 59)) := ((Upd.refl _ wr).alloc _).alloc _
      have hzc : ((wr.alloc (.cells #[Value.int .i64 (k : Int)] 3)).alloc (.cells #[Value.int .i64 (zs[k]?.getD 0)] 59)).heap.size = wr.heap.size + 2 := by simp
      obtain ⟨Wc, hWc⟩ : ∃ Wc, ((wr.alloc (.cells #[Value.int .i64 (k : Int)] 3)).alloc (.cells #[Value.int .i64 (zs[k]?.getD 0)] 59)) = Wc := ⟨_, rfl⟩
      rw [World.size_alloc] at heb
      rw [hWc] at hlb heb huc hzc ⊢
      clear hWc
      have hyc := huc.boxed hyr (fun e => e)
      have hjc : J (pairsTo zs k) D Wc := hJ _ _ _ _ hj (huc.mono fun _ _ e => e.elim)
      have hop' := hop.upd huc (fun _ _ e => e)
      have hbs' : ∀ j ∈ bs, j < Wc.heap.size := fun j hj => (Array.getElem?_eq_some_iff.1 (hop'.2 j hj)).1
      refine range_out (n := 9) (gf := 83) (lb := #[.pointer (some ⟨wr.heap.size + 1, 0, none⟩)]) rfl (enters_of Tryd.func83 (by kernel_rfl) rfl) (encs := encI) (L := itemsL (zs[k]?.getD 0))
        (fun j => M j ∨ D j) (fun j e => by
          rcases e with e | e
          · have := hMb j e; omega
          · have := hD j e; omega) (fun _ => rfl)
        (fun W1 l1 hu1 hl1 hl2 => each_iter _ hz.1 hz.2 _ _ _ (hu1.boxed heb (fun e => e)) (fun e => by
          rcases e with (e | e) | e
          · have := hMb _ e; omega
          · have := hD _ e; omega
          · omega))
        (PairIn zs J M D k Wc) (fun co xs D' W => co = .ret ∧ PairIn zs Jx M D k Wc xs D' W)
        (PairIn.firm hJ (by omega) (fun j e => by have := hD j e; omega)) (fun co s D' W W' hs hu => ⟨hs.1, PairIn.firm hJx (by omega) (fun j e => by have := hD j e; omega) s D' W W' hs.2 hu⟩)
        ⟨D, by simpa using hjc, fun _ e => .inl e, Upd.refl _ _⟩ ?owes ?done ?stop
      case owes =>
        intro l1 pre x D1 W hl1 hl2 hDl hD1 hP hpre K hK
        gi_wp2
        refine hK _ _ (Upd.refl _ _) ?_
        rintro Wb hWb - ⟨D2, hj2, h2, hu2⟩
        clear hK
        have hyW := hu2.boxed hyc (fun e => by
          rcases e with e | e
          · have := hMb _ e; omega
          · have := hD _ e; omega)
        have hlW := hu2.boxed hlb (fun e => by
          rcases e with e | e
          · have := hMb _ e; omega
          · have := hD _ e; omega)
        have hzb := hu2.size
        have hcy := hyW.cell
        have hcl := hlW.cell
        have hzW := hWb.size
        have hxs := pairs_pre (k := k) (by rw [hlen.out]; exact hlt) hpre
        rw [List.map_append, ← List.append_assoc] at hxs
        obtain ⟨fn, tmps, assign, body, hy, hR0⟩ := hY _ (k, x) D2 Wb hj2 (by omega) hxs 6
        have hR : RoundIn (Fence.wide.inRound l1) 6 Tryd.prog l fn tmps assign body Wb _ := hR0
        clear hR0
        dsimp only [encP] at hy
        gi_wp2
        refine hR.mono ?_
        have next : ∀ (D3 : Nat → Prop) (W3 : World), Upd (fun k => M k ∨ D2 k) Wb W3 → (∀ k, D3 k → D2 k ∨ Wb.heap.size ≤ k ∧ k < W3.heap.size) →
            Upd (fun j => M j ∨ D j) Wc W3 ∧ Upd (fun j => (M j ∨ D j) ∨ D1 j ∨ W.heap.size ≤ j) Wb W3 ∧ (∀ j, D3 j → D j ∨ (D3 j ∧ ¬ D j)) ∧ ∀ j, (D3 j ∧ ¬ D j) → D1 j ∨ W.heap.size ≤ j ∧ j < W3.heap.size := fun D3 W3 hu3 hD3 => by
          refine ⟨hu2.trans' hu3 (fun i hi e => ?_), hu3.mono fun j _ e => ?_, fun j e => by by_cases h : D j <;> simp [h, e], fun j e => ?_⟩
          · rcases e with e | e
            · exact .inl e
            · rcases h2 i e with h | h
              · exact .inr h
              · have := hD1 i h; omega
          · rcases e with e | e
            · exact .inl (.inl e)
            · rcases h2 j e with h | h
              · exact .inl (.inr h)
              · exact .inr (.inl h)
          · rcases hD3 j e.1 with h | h
            · exact (h2 j h).elim (fun x => absurd x e.2) .inl
            · exact .inr ⟨by omega, h.2⟩
        rintro e W3 (⟨rfl, D3, hj3, hu3, hD3⟩ | ⟨rfl, D3, hj3, hu3, hD3⟩)
        · obtain ⟨n1, n2, n3, n4⟩ := next D3 W3 hu3 hD3
          gi_wp2
          exact ⟨fun j => D3 j ∧ ¬ D j, ⟨D3, by rw [List.map_append, ← List.append_assoc]; exact hj3, n3, n1⟩, n2, n4⟩
        · obtain ⟨n1, n2, n3, n4⟩ := next D3 W3 hu3 hD3
          gi_wp2
          exact ⟨fun j => D3 j ∧ ¬ D j, ⟨rfl, D3, by rw [List.map_append, ← List.append_assoc]; exact hj3, n3, n1⟩, n2, n4⟩
      case done =>
        rintro d D1 W hd ⟨D2, hj2, h2, hu2⟩ hD1 hKd
        have hsz := hu2.size
        have hdl : d < W.heap.size := (Array.getElem?_eq_some_iff.1 hKd).1
        have hnD : ∀ j, D2 j → j ≠ d := fun j e ej => by
          rcases h2 j e with h | h
          · have := hD j h; omega
          · have := hD1 j h; omega
        have hop2 : Open bs W := hop'.upd hu2 (fun j hj e => by
          rcases e with e | e
          · have := hMb j e; have := (hbs j hj).1; omega
          · exact (hbs j hj).2 e)
        have hb2 : ∀ j ∈ bs, ¬ D2 j := fun j hj e => by
          rcases h2 j e with h | h
          · exact (hbs j hj).2 h
          · have := hD1 j h; have := hbs' j hj; omega
        have hu3 : Upd M w W := (hU.trans' huc (fun _ _ e => e.elim)).trans' hu2 (fun i hi e => by
          rcases e with e | e
          · exact e
          · have := hD i e; omega)
        have hy3 : Boxed W w.heap.size 31 (.func (.yield l) #[] #[]) := hu2.boxed hyc (fun e => by
          rcases e with e | e
          · have := hMb _ e; omega
          · have := hD _ e; omega)
        have Hj := Lib.hid (pairsTo_succ zs k)
        have hj3 : J (pairsTo zs (k + 1)) D2 W := by rw [Hj.out]; exact hj2
        have hD2 : ∀ j, D2 j → w.heap.size < j ∧ j < W.heap.size := fun j e => by
          rcases h2 j e with h | h
          · have := hD j h; omega
          · have := hD1 j h; omega
        have hop3 : Open (d :: bs) W := hop2.cons hKd (fun e => by have := hbs' d e; omega)
        have hb3 : ∀ j ∈ d :: bs, w.heap.size < j ∧ ¬ D2 j := fun j hj => by
          rcases List.mem_cons.1 hj with rfl | hj
          · exact ⟨by omega, fun e => hnD _ e rfl⟩
          · exact ⟨(hbs j hj).1, hb2 j hj⟩
        clear hj2 h2 hu2 hD1 hnD hop2 hb2 hKd
        gi_wp2
        refine ⟨⟨k + 1, D2, d :: bs, _, _, _, _, _, _, _, _, _, _, _, _, _, _, _, _, _, ⟨by omega, by go_num, hj3, hD2, hu3, hy3, hop3, hb3⟩, rfl⟩, ?_⟩
        simp [intOf]; omega
      case stop =>
        rintro d D1 co pre W hd hpre ⟨rfl, D2, hj2, h2, hu2⟩ hD1 hKd
        have hdl : d < W.heap.size := (Array.getElem?_eq_some_iff.1 hKd).1
        have hnD : ¬ D2 d := fun e => by
          rcases h2 d e with h | h
          · have := hD d h; omega
          · have := hD1 d h; omega
        have hop2 : Open bs W := hop'.upd hu2 (fun j hj e => by
          rcases e with e | e
          · have := hMb j e; have := (hbs j hj).1; omega
          · exact (hbs j hj).2 e)
        have hb2 : ∀ j ∈ bs, ¬ D2 j := fun j hj e => by
          rcases h2 j e with h | h
          · exact (hbs j hj).2 h
          · have := hD1 j h; have := hbs' j hj; omega
        have hop3 : Open (d :: bs) W := hop2.cons hKd (fun e => by have := hbs' d e; omega)
        have hxs := pairs_pre (k := k) (by rw [hlen.out]; exact hlt) hpre
        gi_wp2
        refine leaves_marks (d :: bs) W hop3 (fun W' hu' => ⟨_, results_none rfl _ _ _, ⟨_, rfl⟩, .inr ⟨_, D2, hxs, hJx _ _ _ _ hj2 (hu'.mono fun j _ e => ?_)⟩⟩)
        rcases List.mem_cons.1 e with rfl | e
        · exact ⟨by omega, hnD⟩
        · exact ⟨Nat.le_of_lt (hbs j e).1, hb2 j e⟩
    · obtain rfl : k = n := by omega
      have Hl := Lib.hid (show pairsL zs = pairsTo zs k by unfold pairsL; rw [hlen.out])
      gi_wp2
      refine leaves_marks bs wr hop (fun W' hu' => ⟨_, results_none rfl _ _ _, ⟨_, rfl⟩, .inl ⟨D, ?_⟩⟩)
      rw [Hl.out]
      exact hJ _ _ _ _ hj (hu'.mono fun j _ e => ⟨Nat.le_of_lt (hbs j e).1, (hbs j e).2⟩)
end Go.Proofs.YtmlihbcffndnbaaDoor

/- A region that draws its order and only reads, in a round of a loop over a function: by the law for plain activations. -/
namespace Go.Proofs.YtmlihbcffndnbaaDoor
open Go.RowKit

theorem wide_fn (f : FuncId) : Fence.wide.fn f := trivial

def noDefer (o : Oper) : Bool := match o.op with
  | .defer _ => false
  | _ => true
theorem noDefer_spec {o : Oper} (h : noDefer o = true) : ∀ c, o.op ≠ .defer c := fun c e => by
  unfold noDefer at h
  rw [e] at h
  cases h

section
variable {n : Nat} {P : Program} {ops : Array Oper} {Q : Exit → Act → World → Prop} {md : Region.Mode} {l₀ : Nat}

theorem operIn_round {o : Oper} (hn : ∀ c, o.op ≠ .defer c) {a : Act} {w : World} {K : Act → World → Prop} (h : o.wpIn Fence.wide n P a w K Q) : o.wpIn (Fence.wide.inRound l₀) n P a w K Q := by
  unfold Oper.wpIn at *
  rw [Oper.semAt_eq _ _ _ hn] at h ⊢
  exact h

theorem anyIn_round (hn : ∀ (i : Nat) (o : Oper), ops[i]? = some o → ∀ c, o.op ≠ .defer c) : ∀ (fuel : Nat) (listed : Array Bool) (a : Act) (w : World),
    wpAnyIn Fence.wide n P md ops Q fuel listed a w → wpAnyIn (Fence.wide.inRound l₀) n P md ops Q fuel listed a w
  | 0, _, _, _, h => h
  | fuel + 1, listed, a, w, h => ⟨h.1, fun i hi => by
      have h2 := wpOpIn_mono (fun a w => anyIn_round hn fuel (listed.setIfInBounds i true) a w) (h.2 i hi)
      unfold wpOpIn at h2 ⊢
      split
      · rename_i ho; simpa only [ho] using h2
      · rename_i o ho
        simp only [ho] at h2
        split
        · rename_i hw; simp only [hw, if_true] at h2; exact operIn_round (hn i o ho) h2
        · rename_i hw; simp only [hw] at h2; exact h2⟩

theorem region_quiet_round {id : Nat} {a : Act} {w : World} {l : List Oper} (hm : P.follows .mixedOrders = true) (hB : Region.lexB .any l.toArray = true) (hd : l.all noDefer = true)
    (h : wpQuietIn Fence.wide n P l.toArray (fun w' => ∃ n, w' = w.drewN n) (fun a' => ∀ w', (∃ n, w' = w.drewN n) → Q .normal a' w') l a) : (Code.region id l.toArray true).wpIn (Fence.wide.inRound l₀) n P Q a w := by
  simp only [Region.lexB, Bool.and_eq_true] at hB
  have hn : ∀ (i : Nat) (o : Oper), l.toArray[i]? = some o → ∀ c, o.op ≠ .defer c := fun i o ho => noDefer_spec (List.all_eq_true.1 hd o (List.mem_of_getElem? (by simpa using ho)))
  refine wpIn_region_any hm (anyIn_round hn _ _ _ _ (wpAnyIn_of_quiet (C := fun w' => ∃ n, w' = w.drewN n) (Q := fun a' => ∀ w', (∃ n, w' = w.drewN n) → Q .normal a' w') rfl (fun _ w' hw' h => h w' hw') _ _ _ _ ⟨1, rfl⟩ ?_))
  have := wpAnyQIn_lex (F := Fence.wide) (n := n) (P := P) (C := fun w' => ∃ n, w' = w.drewN n) (Q := fun a' => ∀ w', (∃ n, w' = w.drewN n) → Q .normal a' w') (md := .any) hB.1 l 0 (Array.replicate l.toArray.size false) a (by simp) (by simpa using hB.2) h
  simpa using this
end

/-! A region that reads, and calls quietly, ahead of a tail that comes last in every order (a store): in a round, and outside of one. -/
section
variable {m : Nat} {P : Program} {ops : Array Oper} {md : Region.Mode} {C : World → Prop} {Q : Exit → Act → World → Prop}

/-- Whatever order is picked of the first n operations. -/
def headQ (m : Nat) (P : Program) (md : Region.Mode) (ops : Array Oper) (C : World → Prop) (n : Nat) (L : Array Bool → Act → Prop) : Nat → Array Bool → Act → Prop
  | 0, listed, a => L listed a
  | f + 1, listed, a => Region.ready md ops listed ≠ [] ∧ ∀ i ∈ Region.ready md ops listed, i < n ∧ qOpIn Fence.wide m P ops C i (headQ m P md ops C n L f (listed.setIfInBounds i true)) a

theorem anyIn_of_head {n g : Nat} {L : Array Bool → Act → Prop} (hL : ∀ listed a w, C w → L listed a → wpAnyIn Fence.wide m P md ops Q g listed a w) :
    ∀ (f : Nat) (listed : Array Bool) (a : Act) (w : World), C w → headQ m P md ops C n L f listed a → wpAnyIn Fence.wide m P md ops Q (f + g) listed a w
  | 0, listed, a, w, hw, h => by rw [Nat.zero_add]; exact hL _ _ _ hw h
  | f + 1, listed, a, w, hw, h => by
    rw [show f + 1 + g = (f + g) + 1 by omega]
    exact ⟨fun h0 => absurd h0 h.1, fun i hi => wpOpIn_of_qOpIn rfl hw (fun a' w' hw' h' => anyIn_of_head hL f _ a' w' hw' h') (h.2 i hi).2⟩

theorem headQ_first {n i : Nat} {oi : Oper} {v : Value} {L : Array Bool → Act → Prop} (hi : ops[i]? = some oi) (hsel : ∀ (j : Nat) (o : Oper) cs b, ops[j]? = some o → o.op ≠ .select cs b)
    (hs : Region.sinkB md ops n = true) (hc : Region.chainB md ops n = true) (hn : n < ops.size) (hin : i < n) (hdone : ∀ listed a, L listed a → ∀ j ∈ Region.ready md ops listed, n ≤ j) :
    ∀ (f : Nat) (listed : Array Bool) (a : Act), HeadInv md ops n listed →
      (∀ j oj, ops[j]? = some oj → j ≠ i → listed.getD j true = false → (∀ e ∈ oj.after, Region.binds md e = true → e.on ≠ i) → oi.apart ops oj = true) →
      i ∈ Region.ready md ops listed → YieldsQuiet Fence.wide m P ops C oi v a →
      headQ m P md ops C n L f (listed.setIfInBounds i true) (a.put oi.dst v) → headQ m P md ops C n L (f + 1) listed a
  | f, listed, a, inv, hfree, hr, hy, H => by
    have hun := (mem_ready.1 hr).1
    refine ⟨fun h => (by rw [h] at hr; cases hr), fun j hj => ?_⟩
    have hjn : j < n := by
      rcases Nat.lt_or_ge j n with h | h
      · exact h
      · exact absurd hj (tail_waits hs hc hn inv _ i rfl hin hun j h)
    refine ⟨hjn, ?_⟩
    by_cases hji : j = i
    · subst hji; exact hy.qOpIn hi H
    · cases f with
      | zero => have := hdone _ _ H j (ready_mono hj hji); omega
      | succ f =>
        have h1 := (H.2 j (ready_mono hj hji)).2
        obtain ⟨hjun, oj, hoj, hall⟩ := mem_ready.1 hj
        have hnot : ∀ e ∈ oj.after, Region.binds md e = true → e.on ≠ i := fun e he hb heq => by
          have h1 := hall e he hb
          rw [heq, getD_both hun] at h1
          cases h1
        have h2 := qOpIn_put hoj (hfree j oj hoj hji hjun hnot) (fun cs b => hsel i oi cs b hi) (fun cs b => hsel j oj cs b hoj) hy h1
        have hfree' : ∀ k ok, ops[k]? = some ok → k ≠ i → (listed.setIfInBounds j true).getD k true = false →
            (∀ e ∈ ok.after, Region.binds md e = true → e.on ≠ i) → oi.apart ops ok = true := fun k ok hk hki hkun hno => by
          refine hfree k ok hk hki ?_ hno
          by_cases hjk : j = k
          · subst hjk; exact hjun
          · rw [getD_set_ne true hjk] at hkun; exact hkun
        refine qOpIn_mono (fun a' h3 => headQ_first hi hsel hs hc hn hin hdone f (listed.setIfInBounds j true) a' (inv.set hj hjn) hfree' (ready_mono hr (Ne.symm hji)) h3.1 ?_) h2
        rw [Array.setIfInBounds_comm _ _ hji]
        exact h3.2

theorem anyIn_of_seq : ∀ (l : List Oper) (k : Nat) (listed : Array Bool) (a : Act) (w : World), (∀ j, l[j]? = ops[k + j]?) →
    Region.seqB md ops l.length k listed = true → wpListIn Fence.wide m P ops Q l a w → wpAnyIn Fence.wide m P md ops Q l.length listed a w
  | [], _, _, _, _, _, hB, h => ⟨by simpa [Region.seqB] using hB, h⟩
  | o :: l, k, listed, a, w, hl, hB, h => by
    have h0 : ops[k]? = some o := by simpa using (hl 0).symm
    simp only [List.length_cons, Region.seqB, Bool.and_eq_true, decide_eq_true_eq] at hB
    refine ⟨fun h1 => (by rw [hB.1] at h1; cases h1), fun i hi => ?_⟩
    rw [hB.1] at hi
    have hik : i = k := by simpa using hi
    subst hik
    have hw : wpOpIn Fence.wide m P ops Q i (wpListIn Fence.wide m P ops Q l) a w := by unfold wpOpIn; simp only [h0]; exact h
    exact wpOpIn_mono (fun a' w' h' => anyIn_of_seq l (i + 1) _ a' w' (fun j => by have := hl (j + 1); simpa [Nat.add_assoc, Nat.add_comm 1 j] using this) hB.2 h') hw

theorem headQ_lex {n g : Nat} {Lq : Act → Prop} (hsel : Region.noSelect ops = true) (hs : Region.sinkB md ops n = true) (hc : Region.chainB md ops n = true) (hn : n < ops.size) :
    ∀ (l : List Oper) (k : Nat) (listed : Array Bool) (a : Act), (∀ j, j < l.length → l[j]? = ops[k + j]?) → k + l.length = n → HeadInv md ops n listed →
    Region.lexHead md ops g l.length k listed = true → wpQuietIn Fence.wide m P ops C Lq l a →
    headQ m P md ops C n (fun listed' a' => Region.seqB md ops g n listed' = true ∧ Lq a') l.length listed a
  | [], k, listed, a, _, hk, _, hB, h => by
    have : k = n := by simpa using hk
    subst this
    exact ⟨by simpa [Region.lexHead] using hB, h⟩
  | o :: l, k, listed, a, hl, hk, inv, hB, h => by
    have h0 : ops[k]? = some o := by simpa using (hl 0 (by simp)).symm
    simp only [List.length_cons, Region.lexHead, Bool.and_eq_true] at hB
    obtain ⟨⟨hr, hf⟩, hB'⟩ := hB
    have hkn : k < n := by simp only [List.length_cons] at hk; omega
    have hr' : k ∈ Region.ready md ops listed := by simpa using hr
    have hst : qOpIn Fence.wide m P ops C k (wpQuietIn Fence.wide m P ops C Lq l) a := by unfold qOpIn; simp only [h0]; exact h
    obtain ⟨v, hy, hK⟩ := yieldsQuiet_of_qOpIn h0 hst
    exact headQ_first h0 (Region.noSelect_spec hsel) hs hc hn hkn (fun listed' a' hL => seqB_ready hL.1) l.length listed a inv (Region.free_spec h0 hf) hr' hy
      (headQ_lex hsel hs hc hn l (k + 1) _ _ (fun j hj => by have := hl (j + 1) (by simp; omega); simpa [Nat.add_assoc, Nat.add_comm 1 j] using this) (by simp only [List.length_cons] at hk; omega) (inv.set hr' hkn) hB' hK)

theorem any_tail {a : Act} {w : World} {l : List Oper} (n : Nat) (hB : Region.lexTailB .any l.toArray n = true)
    (h : wpQuietIn Fence.wide m P l.toArray (fun w' => ∃ k, w' = w.drewN k) (fun a' => ∀ w', (∃ k, w' = w.drewN k) → wpListIn Fence.wide m P l.toArray Q (l.drop n) a' w') (l.take n) a) :
    wpAnyIn Fence.wide m P .any l.toArray Q l.toArray.size (Array.replicate l.toArray.size false) a { w with drawn := w.drawn + 1 } := by
  simp only [Region.lexTailB, Bool.and_eq_true, decide_eq_true_eq] at hB
  obtain ⟨⟨⟨⟨hsel, hn⟩, hs⟩, hc⟩, hlex⟩ := hB
  have hnl : n < l.length := by simpa using hn
  have e : l.toArray.size = (l.take n).length + (l.drop n).length := by simp; omega
  have key := headQ_lex (m := m) (P := P) (C := fun w' => ∃ k, w' = w.drewN k) (g := (l.drop n).length) (Lq := fun a' => ∀ w', (∃ k, w' = w.drewN k) → wpListIn Fence.wide m P l.toArray Q (l.drop n) a' w') hsel hs hc hn (l.take n) 0
    (Array.replicate l.toArray.size false) a (fun j hj => by simp at hj; simp [List.getElem?_take]; omega) (by simp; omega)
    ⟨by simp, (fun j oj _ hl => by rw [getD_replicate_false] at hl; cases hl), (fun t ht ht' => by simp at ht'; simp [ht'])⟩
    (by have h1 : (l.take n).length = n := by simp; omega
        have h2 : (l.drop n).length = l.toArray.size - n := by simp
        rw [h1, h2]; exact hlex) h
  rw [e] at key ⊢
  exact anyIn_of_head (fun listed a w' hw' hL => anyIn_of_seq (l.drop n) n listed a w' (fun j => by simp) hL.1 (hL.2 w' hw')) _ _ _ _ ⟨1, rfl⟩ key

theorem region_tail_round {id : Nat} {a : Act} {w : World} {l : List Oper} {l₀ : Nat} (n : Nat) (hm : P.follows .mixedOrders = true) (hB : Region.lexTailB .any l.toArray n = true) (hd : l.all noDefer = true)
    (h : wpQuietIn Fence.wide m P l.toArray (fun w' => ∃ k, w' = w.drewN k) (fun a' => ∀ w', (∃ k, w' = w.drewN k) → wpListIn Fence.wide m P l.toArray Q (l.drop n) a' w') (l.take n) a) :
    (Code.region id l.toArray true).wpIn (Fence.wide.inRound l₀) m P Q a w :=
  wpIn_region_any hm (anyIn_round (fun _ o ho => noDefer_spec (List.all_eq_true.1 hd o (List.mem_of_getElem? (by simpa using ho)))) _ _ _ _ (any_tail n hB h))
theorem region_tail {id : Nat} {a : Act} {w : World} {l : List Oper} (n : Nat) (hm : P.follows .mixedOrders = true) (hB : Region.lexTailB .any l.toArray n = true)
    (h : wpQuietIn Fence.wide m P l.toArray (fun w' => ∃ k, w' = w.drewN k) (fun a' => ∀ w', (∃ k, w' = w.drewN k) → wpListIn Fence.wide m P l.toArray Q (l.drop n) a' w') (l.take n) a) :
    (Code.region id l.toArray true).wpIn Fence.wide m P Q a w :=
  wpIn_region_any hm (any_tail n hB h)
end

theorem quietIn_left {P : Program} {f : FuncId} {args : Array Value} {w : World} {r n : Nat} {v : Value}
    (h : Calls P f args (w.drewN n) fun e w' => e = .returned v ∧ w.drewN n = w') : CallsIn Fence.wide r P f args (w.drewN n) fun e w'' => e = .returned v ∧ ∃ m, w'' = w.drewN m :=
  callsIn_wide.2 (h.mono fun _ _ ⟨he, hm⟩ => ⟨he, n, hm.symm⟩)
theorem quietIn_add {P : Program} {f : FuncId} {args : Array Value} {w : World} {r a n : Nat} {v : Value}
    (h : Calls P f args (w.drewN (a + n)) fun e w' => e = .returned v ∧ w.drewN (a + n) = w') : CallsIn Fence.wide r P f args (w.drewN (a + n)) fun e w'' => e = .returned v ∧ ∃ m, w'' = w.drewN (a + m) :=
  callsIn_wide.2 (h.mono fun _ _ ⟨he, hm⟩ => ⟨he, n, hm.symm⟩)
end Go.Proofs.YtmlihbcffndnbaaDoor

/- The program's own test of orders: 'isOrder' ranges over the pairs. -/
namespace Go.Proofs.YtmlihbcffndnbaaDoor
open Go.RowKit Go.Shelf
attribute [local go_sem] Oper.semAt_some
attribute [local go_sem, local simp] wide_fn

/-- The pair's second is another one, and what is above it is above the first. -/
def okQ (zs : List Int) (p : Nat × Nat) : Bool := !(p.1 == p.2) && lessI (zs[p.2]?.getD 0) (zs[p.1]?.getD 0) == 0
def iso (zs : List Int) : Bool := (pairsL zs).all (okQ zs)

theorem iso_not {zs : List Int} {pre : List (Nat × Nat)} {x : Nat × Nat} (hp : pre ++ [x] <+: pairsL zs) (h : okQ zs x = false) : iso zs = false := by
  obtain ⟨t, ht⟩ := hp
  unfold iso
  rw [← ht]
  simp [h]

/-- 'pairs' at any place of a program: what its contract asks, out of what the caller has at the loop. -/
theorem pairs_iter_at {A : Option Addr} {n c : Nat} {zs : List Int} (hv : Sets zs) {b B0 : Nat} {M : Nat → Prop} {w W1 : World} {l : Nat} (hb : Boxed w b 42 (.slice A n c)) (hM : ∀ k, M k → k < w.heap.size) (hMb : ¬ M b)
    (hA : Ints w B0 A n zs) (hB0 : B0 ≤ w.heap.size) (hMA : ∀ k, M k → B0 ≤ k) (hu : Upd (fun _ => False) w W1) (hl : w.heap.size ≤ l) (hl1 : l < W1.heap.size) :
    Iter Tryd.prog 86 #[.pointer (some ⟨b, 0, none⟩)] encP (pairsL zs) (fun k => M k ∨ k = l) W1 := by
  have hlt := hb.lt
  have hz := hu.size
  refine pairs_iter A n c zs hv b _ W1 (hu.boxed hb (fun e => e)) (fun e => ?_) (fun k e => ?_) ((hA.more hB0).keep (fun p hp => ?_) |>.more hz) (fun hn a e h => ?_)
  · rcases e with e | e
    · exact hMb e
    · omega
  · rcases e with e | e
    · have := hM k e; omega
    · omega
  · exact World.cell?_of_block (hu.block p.block hp (fun e => e))
  · obtain ⟨b', off, rfl, hb', _⟩ := hA.at_ hn
    cases e
    rcases h with h | h
    · have := hMA _ h; simp at this; omega
    · simp at h; omega

/-- Both tests of orders agree on sets of items. -/
theorem lessI_zero {a b : Int} (h : lessI a b = 0) (j : Int) (hj : bitB a j = true) : bitB b j = true := by
  have h1 : a.toNat &&& (a.toNat ^^^ b.toNat) = 0 := by unfold lessI at h; omega
  have h2 : (a.toNat &&& (a.toNat ^^^ b.toNat)).testBit j.toNat = false := by rw [h1]; simp
  unfold bitB at *
  rw [Nat.testBit_and, Nat.testBit_xor, hj] at h2
  simpa using h2
theorem iso_vo {zs : List Int} (h : Sets zs) : iso zs = vo zs := by
  rw [Bool.eq_iff_iff]
  constructor
  · intro hi
    refine vo_true ⟨h.1, fun a ha => ?_, fun a ha b hb => ?_⟩
    · have hz := h.2 a ha
      have hs : bitB (zs[a]?.getD 0) a = false := by
        cases hb : bitB (zs[a]?.getD 0) a with
        | false => rfl
        | true =>
          have := List.all_eq_true.1 hi (a, a) (mem_pairsL.2 ⟨ha, by have := h.1; omega, hb⟩)
          simp [okQ] at this
      have hin : inB (zs[a]?.getD 0) 0 (powI zs.length - 1) = true := by unfold inB; simp; omega
      exact okA_yes hin hs
    · cases hb1 : bitB (zs[a]?.getD 0) b with
      | false => simp [okP, hb1]
      | true =>
        have h1 := List.all_eq_true.1 hi (a, b) (mem_pairsL.2 ⟨ha, by have := h.1; omega, hb1⟩)
        simp only [okQ, Bool.and_eq_true, beq_iff_eq, Bool.not_eq_true', beq_eq_false_iff_ne] at h1
        have h2 : bitB (zs[b]?.getD 0) a = false := by
          cases hc : bitB (zs[b]?.getD 0) a with
          | false => rfl
          | true =>
            have h3 := lessI_zero h1.2 a hc
            have := List.all_eq_true.1 hi (a, a) (mem_pairsL.2 ⟨ha, by have := h.1; omega, h3⟩)
            simp [okQ] at this
        simp [okP, hb1, h1.2, h2]
  · intro hv
    have hv : VoP zs := by simpa [vo] using hv
    refine List.all_eq_true.2 fun p hp => ?_
    obtain ⟨a, b⟩ := p
    obtain ⟨ha, hb, hbit⟩ := h.pair hp
    have h1 := hv.2.2 a ha b hb
    have h2 := hv.2.1 a ha
    simp only [okP, hbit, Bool.not_true, Bool.false_or, Bool.and_eq_true, beq_iff_eq, Bool.not_eq_true'] at h1
    simp only [okA, Bool.and_eq_true, Bool.not_eq_true'] at h2
    have hne : a ≠ b := fun e => by subst e; rw [hbit] at h2; exact absurd h2.2 (by decide)
    simp [okQ, h1.1, hne]

set_option maxRecDepth 100000 in
set_option maxHeartbeats 4000000 in
theorem isOrder_any (A : Option Addr) (n c : Nat) (zs : List Int) (hv : Sets zs) (w : World) (hA : Ints w w.heap.size A n zs) :
    Calls Tryd.prog 62 #[.slice A n c] w fun e W' => e = .returned (.bool (iso zs)) ∧ Below w.heap.size w W' := by
  refine (callsIn_wide (n := 9)).1 ?_
  refine callsIn_of_wp_marks Tryd.func62 rfl trivial ?_ rfl
  simp only [Tryd.ntmps62, List.size_toArray, List.length_cons, List.length_nil, Nat.reduceAdd, Nat.reduceSub, Array.replicate_succ, Array.replicate_zero, List.push_toArray, List.append_toArray, List.nil_append, List.cons_append]
  have hlen := Lib.hid hA.len
  gi_wp2_with (gi_at_call 63; refine (callsIn_wide.2 (pairs_any _ _ _ _)).mono ?_; rintro e w' ⟨rfl, rfl⟩)
  have bO := ((Boxed.new w 42 (.slice A n c)).alloc (.cells #[Value.bool false] 4)).alloc (.cells #[Value.slice A n c] 42)
  have bR := (Boxed.new (w.alloc (.cells #[Value.slice A n c] 42)) 4 (.bool false)).alloc (.cells #[Value.slice A n c] 42)
  have bP := Boxed.new ((w.alloc (.cells #[Value.slice A n c] 42)).alloc (.cells #[Value.bool false] 4)) 42 (.slice A n c)
  have hu0 : Upd (fun _ => False) w (((w.alloc (.cells #[Value.slice A n c] 42)).alloc (.cells #[Value.bool false] 4)).alloc (.cells #[Value.slice A n c] 42)) := (((Upd.refl _ w).alloc _).alloc _).alloc _
  have hz0 : (((w.alloc (.cells #[Value.slice A n c] 42)).alloc (.cells #[Value.bool false] 4)).alloc (.cells #[Value.slice A n c] 42)).heap.size = w.heap.size + 3 := by simp
  simp only [World.size_alloc] at bR bP
  obtain ⟨W0, hW0⟩ : ∃ W0, (((w.alloc (.cells #[Value.slice A n c] 42)).alloc (.cells #[Value.bool false] 4)).alloc (.cells #[Value.slice A n c] 42)) = W0 := ⟨_, rfl⟩
  rw [hW0] at bO bR bP hu0 hz0 ⊢
  clear hW0
  have hA0 : Ints W0 w.heap.size A n zs := hA.below (hu0.toBelow (fun _ e => e.elim) (Nat.le_refl _))
  refine range_out (n := 9) (gf := 86) (lb := #[.pointer (some ⟨w.heap.size + 1 + 1, 0, none⟩)]) rfl (enters_of Tryd.func86 (by kernel_rfl) rfl) (encs := encP) (L := pairsL zs)
    (fun k => k = w.heap.size + 1) (fun k e => by omega) (fun _ => rfl)
    (fun W1 l1 hu1 hl1 hl2 => pairs_iter_at hv bP (fun k e => by omega) (by omega) hA0 (by omega) (fun k e => by omega) hu1 hl1 hl2)
    (fun pre D W => pre.all (okQ zs) = true ∧ Boxed W (w.heap.size + 1) 4 (.bool false) ∧ Upd (fun k => k = w.heap.size + 1) W0 W)
    (fun co pre D W => co = .ret ∧ iso zs = false ∧ Boxed W (w.heap.size + 1) 4 (.bool false) ∧ Upd (fun k => k = w.heap.size + 1) W0 W)
    (fun s D X Y hs hu => ⟨hs.1, hu.boxed hs.2.1 (fun e => by omega), hs.2.2.trans' hu (fun i hi e => by omega)⟩)
    (fun co s D X Y hs hu => ⟨hs.1, hs.2.1, hu.boxed hs.2.2.1 (fun e => by omega), hs.2.2.2.trans' hu (fun i hi e => by omega)⟩)
    ⟨rfl, bR, Upd.refl _ _⟩ ?owes ?done ?stop
  case owes =>
    rintro l1 pre ⟨lo, hi⟩ D1 W hl1 hl2 hDl hD1 - hpre K hK
    gi_wp2
    refine hK _ _ (Upd.refl _ _) ?_
    rintro Wb hWb - ⟨hall, bR1, hU⟩
    clear hK
    obtain ⟨hlo, hhi, hbit⟩ := hv.pair (a := lo) (b := hi) (hpre.subset (by simp))
    rw [hlen.out] at hlo hhi
    have bO1 := hU.boxed bO (by omega)
    have hcO := bO1.cell
    obtain ⟨ab, off, rfl, hab, hc⟩ := hA0.at_ hlo
    have hcl := hU.cell (hc lo hlo) (fun e => by simp at e; omega)
    have hch := hU.cell (hc hi hhi) (fun e => by simp at e; omega)
    have zl := hv.bd lo (by rw [hlen.out]; exact hlo)
    have zh := hv.bd hi (by rw [hlen.out]; exact hhi)
    have hsb := hU.size
    have hcR := bR1.cell
    have hfR := bR1.frozen
    have hszb := hWb.size
    by_cases heq : lo = hi
    · subst heq
      have HF := Lib.hid (iso_not hpre (show okQ zs (lo, lo) = false by simp [okQ]))
      gi_wp2
      refine region_quiet_round (by kernel_rfl) (by kernel_rfl) (by kernel_rfl) ?_
      repeat (gi_big_quiet_step ((first
        | (gi_at_call 80; exact quietIn_add (within_any _ _ _ (by omega) (by omega) (by omega) (by omega)))
        | (gi_at_call 80; exact quietIn_left (within_any _ _ _ (by omega) (by omega) (by omega) (by omega))))))
      refine wpQuietIn_nil ?_
      intro _ hw'
      obtain ⟨nq, hw''⟩ := hw'
      subst hw''
      gi_wp2
      exact ⟨D1, ⟨rfl, HF.out, bR1.set _, (hU.drewN _).setCell (p := ⟨w.heap.size + 1, 0, none⟩) (.inr rfl) _⟩, ((Upd.refl _ _).drewN _).setCell (p := ⟨w.heap.size + 1, 0, none⟩) (.inr (.inl rfl)) _, fun k hk => .inl hk⟩
    · have hne : ((lo : Int) == (hi : Int)) = false := by simpa using fun h => heq (by omega)
      cases hw : (lessI (zs[hi]?.getD 0) (zs[lo]?.getD 0) == 0)
      · have HF := Lib.hid (iso_not hpre (show okQ zs (lo, hi) = false by simp [okQ, hw]))
        gi_wp2
        refine region_quiet_round (by kernel_rfl) (by kernel_rfl) (by kernel_rfl) ?_
        repeat (gi_big_quiet_step ((first
          | (gi_at_call 80; exact quietIn_add (within_any _ _ _ (by omega) (by omega) (by omega) (by omega)))
          | (gi_at_call 80; exact quietIn_left (within_any _ _ _ (by omega) (by omega) (by omega) (by omega))))))
        refine wpQuietIn_nil ?_
        intro _ hw'
        obtain ⟨nq, hw''⟩ := hw'
        subst hw''
        gi_wp2
        exact ⟨D1, ⟨rfl, HF.out, bR1.set _, (hU.drewN _).setCell (p := ⟨w.heap.size + 1, 0, none⟩) (.inr rfl) _⟩, ((Upd.refl _ _).drewN _).setCell (p := ⟨w.heap.size + 1, 0, none⟩) (.inr (.inl rfl)) _, fun k hk => .inl hk⟩
      · have HF := Lib.hid (show okQ zs (lo, hi) = true by simp [okQ, hw, heq])
        gi_wp2
        refine region_quiet_round (by kernel_rfl) (by kernel_rfl) (by kernel_rfl) ?_
        repeat (gi_big_quiet_step ((first
          | (gi_at_call 80; exact quietIn_add (within_any _ _ _ (by omega) (by omega) (by omega) (by omega)))
          | (gi_at_call 80; exact quietIn_left (within_any _ _ _ (by omega) (by omega) (by omega) (by omega))))))
        refine wpQuietIn_nil ?_
        intro _ hw'
        obtain ⟨nq, hw''⟩ := hw'
        subst hw''
        gi_wp2
        exact ⟨D1, ⟨by rw [List.all_append, hall]; simp [HF.out], bR1, hU.drewN _⟩, (Upd.refl _ _).drewN _, fun k hk => .inl hk⟩
  case done =>
    rintro d D1 W hd ⟨hall, bR1, hU⟩ hD1 hKd
    have hcR := bR1.cell
    have hfR := bR1.frozen
    have HF := Lib.hid (show iso zs = true from hall)
    gi_wp2
    have hus : Upd (fun k => k = w.heap.size + 1) W (W.setCell ⟨w.heap.size + 1, 0, none⟩ (.bool true)) := (Upd.refl (fun k => k = w.heap.size + 1) W).setCell (p := ⟨w.heap.size + 1, 0, none⟩) (.inr rfl) _
    refine leaves_marks [d] _ ⟨by simp, fun b hb => ?_⟩ (fun W' hu' => ?_)
    · rw [List.mem_singleton.1 hb]
      exact (hus.block d (Array.getElem?_eq_some_iff.1 hKd).1 (by omega)).trans hKd
    · have hc' := (hu'.boxed (bR1.set (.bool true)) (by simp; omega)).cell
      exact ⟨.bool true, by simp [results, Tryd.f62, go_sem, hc'], ret_bool HF.out.symm,
        (((hu0.mono fun _ _ e => e.elim).trans' (hU.trans hus) (fun i hi e => by omega)).trans' hu' (fun i hi e => by simp at e; omega)).toBelow (R := fun _ => False) (fun _ e => e.elim) (Nat.le_refl _)⟩
  case stop =>
    rintro d D1 co pre W hd hpre ⟨rfl, hF, bR1, hU⟩ hD1 hKd
    have HF := Lib.hid hF
    clear hF
    gi_wp2
    refine leaves_marks [d] _ ⟨by simp, fun b hb => ?_⟩ (fun W' hu' => ?_)
    · rw [List.mem_singleton.1 hb]
      exact hKd
    · have hc' := (hu'.boxed bR1 (by simp; omega)).cell
      exact ⟨.bool false, by simp [results, Tryd.f62, go_sem, hc'], ret_bool HF.out.symm,
        (((hu0.mono fun _ _ e => e.elim).trans' hU (fun i hi e => by omega)).trans' hu' (fun i hi e => by simp at e; omega)).toBelow (R := fun _ => False) (fun _ e => e.elim) (Nat.le_refl _)⟩
end Go.Proofs.YtmlihbcffndnbaaDoor

/- 'readOrder': what a list tells as an order. -/
namespace Go.Proofs.YtmlihbcffndnbaaDoor
open Go.RowKit

theorem infoItems : (Tryd.prog.info? 59).map (fun i => (i.zero, i.size, i.bytes)) = some (some (.int .i64 0), 1, 8) := by kernel_rfl
theorem infoInt : (Tryd.prog.info? 3).map (fun i => (i.zero, i.size, i.bytes)) = some (some (.int .i64 0), 1, 8) := by kernel_rfl

/-- What has been copied when k rounds are over. -/
def copied (zs : List Int) (n k : Nat) : List Int := zs.take k ++ List.replicate (n - k) 0
theorem copied_zero (zs : List Int) (n : Nat) : copied zs n 0 = List.replicate n 0 := by simp [copied]
theorem copied_full {zs : List Int} {n : Nat} (h : zs.length = n) : copied zs n n = zs := by subst h; simp [copied]
theorem copied_len {zs : List Int} {n k : Nat} (h : zs.length = n) (hk : k ≤ n) : (copied zs n k).length = n := by simp [copied]; omega
theorem copied_succ {zs : List Int} {n k : Nat} (h : zs.length = n) (hk : k < n) : (copied zs n k).set k (zs[k]?.getD 0) = copied zs n (k + 1) := by
  have hl : (zs.take k).length = k := by simp; omega
  rw [copied, List.set_append_right _ _ (by omega), hl, Nat.sub_self, copied, List.take_succ_eq_append_getElem (by omega), show n - k = (n - (k + 1)) + 1 from by omega, List.replicate_succ, List.set_cons_zero,
    List.getElem?_eq_getElem (by omega : k < zs.length), Option.getD_some, List.append_assoc, List.singleton_append]

/-- What 'readOrder' hands back. -/
def Reads (zs : List Int) (n : Nat) (w : World) (e : Ending) (w' : World) : Prop :=
  Below w.heap.size w w' ∧ ((vo zs = true ∧ ∃ b, e = .returned (.tuple #[.slice (some ⟨b, 0, none⟩) n n, .bool true]) ∧ w.heap.size ≤ b ∧ Arr w' b 59 zs) ∨
    (vo zs = false ∧ e = .returned (.tuple #[.slice none 0 0, .bool false])))

set_option maxHeartbeats 1000000 in
theorem readOrder_any (A : Option Addr) (n c : Nat) (zs : List Int) (w : World) (hA : Ints w w.heap.size A n zs) (hbig : n ≤ 1152921504606846976) :
    Calls Tryd.prog 33 #[.slice A n c] w (Reads zs n w) := by
  have hlen := Lib.hid hA.len
  by_cases h6 : n ≤ 6
  · have hmk := run_make_row' (P := Tryd.prog) 42 59 (.int .i64 0) 8 Tryd.underlying42 infoItems rfl .i64 .i64 n (by omega) (by omega)
    go_enter Tryd.func33, Tryd.ntmps33
    go_wp2
    have hA1 := Arr.new w 59 n
    have hB1 : Below w.heap.size w (w.alloc (.cells (madeCells #[.int .i64 0] n) 59)) := (Below.refl _ _).alloc (Nat.le_refl _) _
    obtain ⟨W1, hW1⟩ : ∃ W1, w.alloc (.cells (madeCells #[.int .i64 0] n) 59) = W1 := ⟨_, rfl⟩
    rw [hW1] at hA1 hB1 ⊢
    clear hW1 hmk
    go_loopw [16] (fun i wr => ∃ k : Nat, k ≤ n ∧ i = .int .i64 k ∧ (∀ a, a < k → inB (zs[a]?.getD 0) 0 (powI n - 1) = true) ∧ Arr wr w.heap.size 59 (copied zs n k) ∧ Below w.heap.size w wr) (fun i _ => n - (intOf i).toNat)
    case atStart => exact ⟨0, by omega, rfl, fun a ha => by omega, by rw [copied_zero]; exact hA1, hB1⟩
    case round =>
      obtain ⟨k, hk, rfl, hok, hAr, hB⟩ := hrel
      have Hok := Lib.hid hok
      have Hcl := Lib.hid (copied_len hlen.out hk)
      clear hok
      by_cases hlt : k < n
      · obtain ⟨b, off, rfl, hbw, hc⟩ := (hA.below hB).at_ hlt
        have hck := hc k hlt
        have hcs := hAr.cell (k := k) (by rw [Hcl.out]; exact hlt)
        have hfs := hAr.frozen k
        clear hc
        cases hin : inB (zs[k]?.getD 0) 0 (powI n - 1)
        · have Hf := Lib.hid (show vo zs = false from vo_false (VoP_not_A (k := k) (by rw [hlen.out]; exact hlt) (by rw [hlen.out]; simp [okA, hin])))
          go_wp2_with (go_at_call 61; refine (isSetOf_any _ _ _ (by omega) (by omega)).mono ?_; rintro e w' ⟨rfl, rfl⟩)
          go_ret2
          exact ⟨hB, .inr ⟨Hf.out, rfl⟩⟩
        · have Hin := Lib.hid hin
          have Hcp := Lib.hid (copied_succ hlen.out hlt)
          go_wp2_with (go_at_call 61; refine (isSetOf_any _ _ _ (by omega) (by omega)).mono ?_; rintro e w' ⟨rfl, rfl⟩)
          go_roundw
          case rel => exact ⟨k + 1, by omega, by go_num, all_snoc Hok.out Hin.out, by rw [← Hcp.out]; exact hAr.set _ _, hB.setCell (p := ⟨w.heap.size, k, none⟩) (Nat.le_refl _) _⟩
          case measure => simp [intOf]; omega
      · obtain rfl : k = n := by omega
        have Hfull := Lib.hid (copied_full hlen.out)
        have hAf : Arr wr w.heap.size 59 zs := by rw [← Hfull.out]; exact hAr
        have hSets : Sets zs := ⟨by rw [hlen.out]; exact h6, fun a ha => by
          have := Hok.out a (by rw [← hlen.out]; exact ha)
          rw [hlen.out]
          simp [inB] at this
          omega⟩
        have hlt' := hAf.lt
        have hsz := hB.size
        have HI := Lib.hid (iso_vo hSets)
        have hSets' := Lib.hid hSets
        clear hSets
        cases hv : vo zs
        · have HI2 := Lib.hid (HI.out.trans hv)
          have hiso : iso zs = false := HI2.out
          go_wp2_with (go_at_call 62; refine (isOrder_any _ _ _ zs hSets'.out _ (hAf.ints' (by omega) hlen.out)).mono ?_; rintro e w1 ⟨rfl, hb1⟩)
          go_ret2
          exact ⟨hB.trans (hb1.mono hsz), .inr ⟨hv, rfl⟩⟩
        · have HI2 := Lib.hid (HI.out.trans hv)
          have hiso : iso zs = true := HI2.out
          go_wp2_with (go_at_call 62; refine (isOrder_any _ _ _ zs hSets'.out _ (hAf.ints' (by omega) hlen.out)).mono ?_; rintro e w1 ⟨rfl, hb1⟩)
          go_ret2
          exact ⟨hB.trans (hb1.mono hsz), .inl ⟨hv, w.heap.size, rfl, Nat.le_refl _, hAf.below hb1 hlt'⟩⟩
  · have Hf := Lib.hid (show vo zs = false from vo_false fun hv => by have := hv.1; rw [hlen.out] at this; omega)
    go_enter Tryd.func33, Tryd.ntmps33
    go_wp2
    go_ret2
    exact ⟨Below.refl _ _, .inr ⟨Hf.out, rfl⟩⟩
end Go.Proofs.YtmlihbcffndnbaaDoor

/- What the exact laws call: copies of lists, equality, marks. -/
namespace Go.Proofs.YtmlihbcffndnbaaDoor
open Go.RowKit

set_option maxHeartbeats 1000000 in
/-- A copy: a new row of the same numbers. -/
theorem toIntS_any (A : Option Addr) (n c : Nat) (zs : List Int) (w : World) (hA : Ints w w.heap.size A n zs) (hbig : n ≤ 1048576) :
    Calls Tryd.prog 7 #[.slice A n c] w fun e w' => e = .returned (.slice (some ⟨w.heap.size, 0, none⟩) n n) ∧ Arr w' w.heap.size 3 zs ∧ Below w.heap.size w w' := by
  have hlen := Lib.hid hA.len
  have hmk := run_make_row' (P := Tryd.prog) 22 3 (.int .i64 0) 8 Tryd.underlying22 infoInt rfl .i64 .i64 n (by omega) (by omega)
  go_enter Tryd.func7, Tryd.ntmps7
  go_wp2
  have hA1 := Arr.new w 3 n
  have hB1 : Below w.heap.size w (w.alloc (.cells (madeCells #[.int .i64 0] n) 3)) := (Below.refl _ _).alloc (Nat.le_refl _) _
  obtain ⟨W1, hW1⟩ : ∃ W1, w.alloc (.cells (madeCells #[.int .i64 0] n) 3) = W1 := ⟨_, rfl⟩
  rw [hW1] at hA1 hB1 ⊢
  clear hW1 hmk
  go_loopw [4] (fun i wr => ∃ k : Nat, k ≤ n ∧ i = .int .i64 k ∧ Arr wr w.heap.size 3 (copied zs n k) ∧ Below w.heap.size w wr) (fun i _ => n - (intOf i).toNat)
  case atStart => exact ⟨0, by omega, rfl, by rw [copied_zero]; exact hA1, hB1⟩
  case round =>
    obtain ⟨k, hk, rfl, hAr, hB⟩ := hrel
    have Hcl := Lib.hid (copied_len hlen.out hk)
    by_cases hlt : k < n
    · obtain ⟨b, off, rfl, hbw, hc⟩ := (hA.below hB).at_ hlt
      have hck := hc k hlt
      have hcs := hAr.cell (k := k) (by rw [Hcl.out]; exact hlt)
      have hfs := hAr.frozen k
      clear hc
      have Hcp := Lib.hid (copied_succ hlen.out hlt)
      go_wp2
      go_roundw
      case rel => exact ⟨k + 1, by omega, by go_num, by rw [← Hcp.out]; exact hAr.set _ _, hB.setCell (p := ⟨w.heap.size, k, none⟩) (Nat.le_refl _) _⟩
      case measure => simp [intOf]; omega
    · obtain rfl : k = n := by omega
      have Hfull := Lib.hid (copied_full hlen.out)
      go_wp2
      go_ret
      exact ⟨rfl, by rw [← Hfull.out]; exact hAr, hB⟩

set_option maxHeartbeats 1000000 in
/-- Whether two lists are equal. -/
theorem eqIntS_any (A A' : Option Addr) (n c n' c' B B' : Nat) (xs ys : List Int) (w : World) (hA : Ints w B A n xs) (hA' : Ints w B' A' n' ys) (hbig : n ≤ 1152921504606846976) (hbig' : n' ≤ 1152921504606846976) :
    Calls Tryd.prog 9 #[.slice A n c, .slice A' n' c'] w fun e w' => e = .returned (.bool (decide (xs = ys))) ∧ ∃ m, w' = w.drewN m := by
  have hlen := Lib.hid hA.len
  have hlen' := Lib.hid hA'.len
  by_cases hnn : n = n'
  · subst hnn
    go_enter Tryd.func9, Tryd.ntmps9
    go_wp2
    go_loopw [5] (fun i wr => ∃ k m : Nat, k ≤ n ∧ i = .int .i64 k ∧ (∀ a, a < k → xs[a]?.getD 0 = ys[a]?.getD 0) ∧ wr = w.drewN m) (fun i _ => n - (intOf i).toNat)
    case atStart => exact ⟨0, 0, by omega, rfl, fun a ha => by omega, rfl⟩
    case round =>
      obtain ⟨k, m, hk, rfl, hok, rfl⟩ := hrel
      have Hok := Lib.hid hok
      clear hok
      by_cases hlt : k < n
      · obtain ⟨b, off, rfl, _, hc⟩ := hA.at_ hlt
        obtain ⟨b', off', rfl, _, hc'⟩ := hA'.at_ hlt
        have hck := hc k hlt
        have hck' := hc' k hlt
        have Hc := Lib.hid hc
        have Hc' := Lib.hid hc'
        clear hc hc'
        cases hne : (xs[k]?.getD 0 != ys[k]?.getD 0)
        · have Heq := Lib.hid (show xs[k]?.getD 0 = ys[k]?.getD 0 by simpa [bne] using hne)
          go_wp2
          go_quiet (fail)
          go_wp2
          go_roundw
          case rel => exact ⟨k + 1, _, by omega, by go_num, all_snoc Hok.out Heq.out, rfl⟩
          case measure => simp [intOf]; omega
        · have Hne := Lib.hid (show decide (xs = ys) = false by
            simp only [decide_eq_false_iff_not]; rintro rfl; simp at hne)
          go_wp2
          go_quiet (fail)
          go_wp2
          go_ret
          exact ⟨ret_bool Hne.out.symm, by first | exact ⟨_, rfl⟩ | exact ⟨_, World.drewN_drewN ..⟩⟩
      · obtain rfl : k = n := by omega
        have Heq := Lib.hid (show decide (xs = ys) = true by
          simp only [decide_eq_true_eq]
          refine List.ext_getElem? fun i => ?_
          by_cases hi : i < xs.length
          · have h1 := Hok.out i (by rw [← hlen.out]; exact hi)
            have hi' : i < ys.length := by rw [hlen'.out, ← hlen.out]; exact hi
            rw [List.getElem?_eq_getElem hi, List.getElem?_eq_getElem hi'] at h1 ⊢
            simpa using h1
          · rw [List.getElem?_eq_none (by omega), List.getElem?_eq_none (by rw [hlen'.out, ← hlen.out]; omega)])
        go_wp2
        go_ret
        exact ⟨ret_bool Heq.out.symm, _, rfl⟩
  · have Hne := Lib.hid (show decide (xs = ys) = false by
      simp only [decide_eq_false_iff_not]; rintro rfl; exact hnn (hlen.out.symm.trans hlen'.out))
    have hnb : ((n : Int) != (n' : Int)) = true := by simp; omega
    go_enter Tryd.func9, Tryd.ntmps9
    go_wp2
    go_ret
    exact ⟨ret_bool Hne.out.symm, 0, rfl⟩

/-- The numbers from k on. -/
def counted (k : Int) (n : Nat) : List Int := (List.range n).map fun (i : Nat) => k + (i : Int)
def markedTo (zs : List Int) (k : Int) (i : Nat) : List Int := counted k i ++ zs.drop i
theorem markedTo_len {zs : List Int} {k : Int} {i : Nat} (h : i ≤ zs.length) : (markedTo zs k i).length = zs.length := by simp [markedTo, counted]; omega
theorem markedTo_succ {zs : List Int} {k : Int} {i : Nat} (h : i < zs.length) : (markedTo zs k i).set i (k + (i : Int)) = markedTo zs k (i + 1) := by
  have hl : (counted k i).length = i := by simp [counted]
  rw [markedTo, List.set_append_right _ _ (by omega), hl, Nat.sub_self, List.drop_eq_getElem_cons h, List.set_cons_zero, markedTo, counted, counted, List.range_succ, List.map_append, List.append_assoc]
  rfl

/-- A call that only reads leaves what lay. -/
theorem below_quiet {P : Program} {f : FuncId} {args : Array Value} {w : World} {v : Value} (h : Calls P f args w fun e w' => e = .returned v ∧ ∃ m, w' = w.drewN m) :
    Calls P f args w fun e w' => e = .returned v ∧ Below w.heap.size w w' :=
  h.mono fun e w' ⟨he, m, hm⟩ => ⟨he, by subst hm; exact ⟨rfl, rfl, rfl, Nat.le_refl _, fun _ _ => rfl⟩⟩
theorem Ints.to {w w' : World} {B n : Nat} {A : Option Addr} {zs : List Int} (h : Ints w B A n zs) {B' : Nat} (hb : Below B' w w') (hB : B ≤ B') {C : Nat} (hC : B ≤ C) : Ints w' C A n zs := (h.below (hb.mono hB)).more hC

/-- A row of a call's own, in a block from lo up to less than hi (empty ones may lie anywhere). -/
def Row (w : World) (lo hi : Nat) (A : Option Addr) (n : Nat) (xs : List Int) : Prop :=
  xs.length = n ∧ (0 < n → ∃ b ys, A = some ⟨b, 0, none⟩ ∧ lo ≤ b ∧ b < hi ∧ Arr w b 3 (xs ++ ys))
section
variable {w w' : World} {lo hi n : Nat} {A : Option Addr} {xs : List Int} {R : Nat → Prop}
theorem Row.len (h : Row w lo hi A n xs) : xs.length = n := h.1
theorem Row.nil (w : World) (lo hi : Nat) (A : Option Addr) : Row w lo hi A 0 [] := ⟨rfl, fun h => absurd h (by omega)⟩
theorem Row.of {b : Nat} (h : Arr w b 3 xs) (hn : xs.length = n) (hlo : lo ≤ b) (hhi : b < hi) : Row w lo hi (some ⟨b, 0, none⟩) n xs := ⟨hn, fun _ => ⟨b, [], rfl, hlo, hhi, by rw [List.append_nil]; exact h⟩⟩
theorem Row.cut {b m : Nat} {ys : List Int} (h : Arr w b 3 ys) (hm : m ≤ ys.length) (hlo : lo ≤ b) (hhi : b < hi) : Row w lo hi (some ⟨b, 0, none⟩) m (ys.take m) :=
  ⟨by simp; omega, fun _ => ⟨b, ys.drop m, rfl, hlo, hhi, by rw [List.take_append_drop]; exact h⟩⟩
theorem Row.ints (h : Row w lo hi A n xs) {B : Nat} (hB : hi ≤ B) : Ints w B A n xs :=
  ⟨h.1, fun hn => by
    obtain ⟨b, ys, e, _, hb, hA⟩ := h.2 hn
    exact ⟨b, 0, e, by omega, fun j hj => by
      have hl := h.1
      rw [Nat.zero_add, hA.cell (by rw [List.length_append]; omega), List.getElem?_append_left (by omega)]⟩⟩
theorem Row.upd (h : Row w lo hi A n xs) (hu : Upd R w w') (hr : ∀ j, R j → j < lo ∨ hi ≤ j) : Row w' lo hi A n xs :=
  ⟨h.1, fun hn => by
    obtain ⟨b, ys, e, hl, hb, hA⟩ := h.2 hn
    exact ⟨b, ys, e, hl, hb, hA.upd hu (fun hr' => by have := hr b hr'; omega)⟩⟩
theorem Row.below {B : Nat} (h : Row w lo hi A n xs) (hu : Below B w w') (hB : hi ≤ B) : Row w' lo hi A n xs := h.upd (Below.toUpd hu) (fun j hj => by omega)
theorem Row.more {lo' hi' : Nat} (h : Row w lo hi A n xs) (h1 : lo' ≤ lo) (h2 : hi ≤ hi') : Row w lo' hi' A n xs :=
  ⟨h.1, fun hn => by
    obtain ⟨b, ys, e, hl, hb, hA⟩ := h.2 hn
    exact ⟨b, ys, e, by omega, by omega, hA⟩⟩
end
/-- What a function that hands back a new row of numbers does. -/
def GivesRow (w : World) (xs : List Int) (e : Ending) (w' : World) : Prop := ∃ A n c, e = .returned (.slice A n c) ∧ Row w' w.heap.size w'.heap.size A n xs ∧ Below w.heap.size w w'
theorem below_drewN {B : Nat} {a w : World} (h : Below B a w) (n : Nat) : Below B a (w.drewN n) := ⟨h.os, h.tape, h.output, h.size, h.block⟩

def IntBlk (w : World) (j : Nat) : Prop := ∃ cs, w.heap[j]? = some (.cells cs 3 (0, 0))
end Go.Proofs.YtmlihbcffndnbaaDoor

/- The model's test of orders. -/
namespace Go.Proofs.YtmlihbcffndnbaaDoor
open Go.RowKit

theorem quiet_add_left {P : Program} {f : FuncId} {args : Array Value} {w : World} {a n : Nat} {v : Value}
    (h : Calls P f args (w.drewN (a + n)) fun e w' => e = .returned v ∧ w.drewN (a + n) = w') :
    Calls P f args (w.drewN (a + n)) fun e w'' => e = .returned v ∧ ∃ m, w'' = w.drewN (a + m) :=
  h.mono fun _ _ ⟨he, hm⟩ => ⟨he, n, hm.symm⟩

set_option maxHeartbeats 1000000 in
theorem validOrder_any (A : Option Addr) (n c B : Nat) (zs : List Int) (w : World) (h : Ints w B A n zs) (hbig : n ≤ 1152921504606846976) :
    Calls Tryd.prog 31 #[.slice A n c] w fun e w' => e = .returned (.bool (vo zs)) ∧ ∃ m, w' = w.drewN m := by
  have hlen := Lib.hid h.len
  by_cases h6 : n ≤ 6
  · go_enter Tryd.func31, Tryd.ntmps31
    go_wp2
    go_loopw [4] (fun i wr => ∃ k m : Nat, k ≤ n ∧ i = .int .i64 k ∧ (∀ a, a < k → okA n zs a = true) ∧ wr = w.drewN m) (fun i _ => n - (intOf i).toNat)
    case atStart => exact ⟨0, 0, by omega, rfl, fun a ha => by omega, rfl⟩
    case round =>
      obtain ⟨k, m, hk, rfl, hok, rfl⟩ := hrel
      have Hok := Lib.hid hok
      clear hok
      by_cases hlt : k < n
      · obtain ⟨b, off, rfl, _, hc⟩ := h.at_ hlt
        have hck := hc k hlt
        have Hc := Lib.hid hc
        clear hc
        have hn6 : (n : Int) ≤ 6 := by omega
        have hpw : powI n ≤ 64 := powI_le6 hn6
        have hpp := powI_pos n
        cases hin : inB (zs[k]?.getD 0) 0 (powI n - 1)
        · have Hf := Lib.hid (show vo zs = false from vo_false (VoP_not_A (k := k) (by rw [hlen.out]; exact hlt) (by rw [hlen.out]; simp [okA, hin])))
          go_wp2
          go_quiet ((first
            | (go_at_call 56; exact quiet_add_left (power_any _ _ (by omega) (by omega)))
            | (go_at_call 44; exact quiet_add_left (inRange_any _ _ _ _))))
          go_wp2
          go_ret
          exact ⟨ret_bool Hf.out.symm, by first | exact ⟨_, rfl⟩ | exact ⟨_, World.drewN_drewN ..⟩⟩
        · have hz : 0 ≤ zs[k]?.getD 0 ∧ zs[k]?.getD 0 < 64 := by unfold inB at hin; simp at hin; omega
          cases hb : bitB (zs[k]?.getD 0) k
          · have Hk := Lib.hid (okA_yes (n := n) hin hb)
            have hbi : (bitI (zs[k]?.getD 0) k == 1) = false := by rw [bitI_one, hb]
            go_wp2
            go_quiet ((first
              | (go_at_call 56; exact quiet_add_left (power_any _ _ (by omega) (by omega)))
              | (go_at_call 44; exact quiet_add_left (inRange_any _ _ _ _))
              | (go_at_call 47; exact quiet_add_left (bit_any _ _ _ (by omega) (by omega) (by omega) (by omega)))))
            go_wp2
            go_roundw
            case rel => exact ⟨k + 1, _, by omega, by go_num, all_snoc Hok.out Hk.out, rfl⟩
            case measure => simp [intOf]; omega
          · have Hf := Lib.hid (show vo zs = false from vo_false (VoP_not_A (k := k) (by rw [hlen.out]; exact hlt) (by rw [hlen.out]; simp [okA, hb])))
            have hbi : (bitI (zs[k]?.getD 0) k == 1) = true := by rw [bitI_one, hb]
            go_wp2
            go_quiet ((first
              | (go_at_call 56; exact quiet_add_left (power_any _ _ (by omega) (by omega)))
              | (go_at_call 44; exact quiet_add_left (inRange_any _ _ _ _))
              | (go_at_call 47; exact quiet_add_left (bit_any _ _ _ (by omega) (by omega) (by omega) (by omega)))))
            go_wp2
            go_ret
            exact ⟨ret_bool Hf.out.symm, by first | exact ⟨_, rfl⟩ | exact ⟨_, World.drewN_drewN ..⟩⟩
      · have hkn : k = n := by omega
        subst hkn
        go_wp2
        go_loopw [5] (fun i wr => ∃ a q : Nat, a ≤ k ∧ i = .int .i64 a ∧ (∀ x, x < a → ∀ y, y < k → okP zs x y = true) ∧ wr = w.drewN q) (fun i _ => k - (intOf i).toNat)
        case atStart => exact ⟨0, m, by omega, rfl, fun a ha => by omega, rfl⟩
        case round =>
          obtain ⟨a, q, ha, rfl, hpa, rfl⟩ := hrel
          have Hpa := Lib.hid hpa
          clear hpa
          by_cases hak : a < k
          · have hn6 : (k : Int) ≤ 6 := by omega
            have hpw : powI k ≤ 64 := powI_le6 hn6
            have hpp := powI_pos k
            go_wp2
            go_loopw [6] (fun i wr => ∃ b q : Nat, b ≤ k ∧ i = .int .i64 b ∧ (∀ y, y < b → okP zs a y = true) ∧ wr = w.drewN q) (fun i _ => k - (intOf i).toNat)
            case atStart => exact ⟨0, q, by omega, rfl, fun a ha => by omega, rfl⟩
            case round =>
              obtain ⟨b, q, hb, rfl, hpb, rfl⟩ := hrel
              have Hpb := Lib.hid hpb
              clear hpb
              by_cases hbk : b < k
              · obtain ⟨bl, off, rfl, _, hc⟩ := h.at_ hak
                have hca := hc a hak
                have hcb := hc b hbk
                have Hc := Lib.hid hc
                clear hc
                have hza := okA_bd hn6 (Hok.out a hak)
                have hzb := okA_bd hn6 (Hok.out b hbk)
                have hl := lessI_bd (zs[b]?.getD 0) (zs[a]?.getD 0)
                have hbl : bits .andNot .i64 (zs[b]?.getD 0) (zs[a]?.getD 0) = lessI (zs[b]?.getD 0) (zs[a]?.getD 0) := bits_less (by omega) (by omega) (by omega) (by omega)
                cases h1 : bitB (zs[a]?.getD 0) b
                · have hbi : (bitI (zs[a]?.getD 0) b == 1) = false := by rw [bitI_one, h1]
                  have Hk := Lib.hid (show okP zs a b = true by simp [okP, h1])
                  go_wp2
                  go_quiet ((first
              | (go_at_call 56; exact quiet_add_left (power_any _ _ (by omega) (by omega)))
              | (go_at_call 44; exact quiet_add_left (inRange_any _ _ _ _))
              | (go_at_call 47; exact quiet_add_left (bit_any _ _ _ (by omega) (by omega) (by omega) (by omega)))))
                  go_wp2
                  go_roundw
                  case rel => exact ⟨b + 1, _, by omega, by go_num, all_snoc Hpb.out Hk.out, rfl⟩
                  case measure => simp [intOf]; omega
                · have hbi : (bitI (zs[a]?.getD 0) b == 1) = true := by rw [bitI_one, h1]
                  cases h2 : (lessI (zs[b]?.getD 0) (zs[a]?.getD 0) == 0)
                  · have Hf := Lib.hid (show vo zs = false from vo_false (VoP_not_P (k := a) (j := b) (by rw [hlen.out]; exact hak) (by rw [hlen.out]; exact hbk) (by simp [okP, h1, h2])))
                    have h2' : (lessI (zs[b]?.getD 0) (zs[a]?.getD 0) != 0) = true := by simpa [bne] using h2
                    go_wp2
                    go_quiet ((first
              | (go_at_call 56; exact quiet_add_left (power_any _ _ (by omega) (by omega)))
              | (go_at_call 44; exact quiet_add_left (inRange_any _ _ _ _))
              | (go_at_call 47; exact quiet_add_left (bit_any _ _ _ (by omega) (by omega) (by omega) (by omega)))))
                    go_wp2
                    go_ret
                    exact ⟨ret_bool Hf.out.symm, by first | exact ⟨_, rfl⟩ | exact ⟨_, World.drewN_drewN ..⟩⟩
                  · have h2' : (lessI (zs[b]?.getD 0) (zs[a]?.getD 0) != 0) = false := by simpa [bne] using h2
                    cases h3 : bitB (zs[b]?.getD 0) a
                    · have hbj : (bitI (zs[b]?.getD 0) a == 1) = false := by rw [bitI_one, h3]
                      have Hk := Lib.hid (show okP zs a b = true by simp [okP, h1, h2, h3])
                      go_wp2
                      go_quiet ((first
              | (go_at_call 56; exact quiet_add_left (power_any _ _ (by omega) (by omega)))
              | (go_at_call 44; exact quiet_add_left (inRange_any _ _ _ _))
              | (go_at_call 47; exact quiet_add_left (bit_any _ _ _ (by omega) (by omega) (by omega) (by omega)))))
                      go_wp2
                      go_roundw
                      case rel => exact ⟨b + 1, _, by omega, by go_num, all_snoc Hpb.out Hk.out, rfl⟩
                      case measure => simp [intOf]; omega
                    · have hbj : (bitI (zs[b]?.getD 0) a == 1) = true := by rw [bitI_one, h3]
                      have Hf := Lib.hid (show vo zs = false from vo_false (VoP_not_P (k := a) (j := b) (by rw [hlen.out]; exact hak) (by rw [hlen.out]; exact hbk) (by simp [okP, h1, h2, h3])))
                      go_wp2
                      go_quiet ((first
              | (go_at_call 56; exact quiet_add_left (power_any _ _ (by omega) (by omega)))
              | (go_at_call 44; exact quiet_add_left (inRange_any _ _ _ _))
              | (go_at_call 47; exact quiet_add_left (bit_any _ _ _ (by omega) (by omega) (by omega) (by omega)))))
                      go_wp2
                      go_ret
                      exact ⟨ret_bool Hf.out.symm, by first | exact ⟨_, rfl⟩ | exact ⟨_, World.drewN_drewN ..⟩⟩
              · have hbk' : b = k := by omega
                subst hbk'
                go_wp2
                go_roundw
                case rel => exact ⟨a + 1, _, by omega, by go_num, all_snoc Hpa.out Hpb.out, rfl⟩
                case measure => simp [intOf]; omega
          · have hkn : a = k := by omega
            subst hkn
            have Hf := Lib.hid (show vo zs = true from vo_true ⟨by rw [hlen.out]; exact h6, by rw [hlen.out]; exact Hok.out, by rw [hlen.out]; exact Hpa.out⟩)
            go_wp2
            go_ret
            exact ⟨ret_bool Hf.out.symm, by first | exact ⟨_, rfl⟩ | exact ⟨_, World.drewN_drewN ..⟩⟩
  · have Hf := Lib.hid (show vo zs = false from vo_false fun hv => by have := hv.1; rw [hlen.out] at this; omega)
    go_enter Tryd.func31, Tryd.ntmps31
    go_wp2
    go_ret
    exact ⟨ret_bool Hf.out.symm, 0, rfl⟩
end Go.Proofs.YtmlihbcffndnbaaDoor

/- DualOf: the model's and the program's. -/
namespace Go.Proofs.YtmlihbcffndnbaaDoor
open Go.RowKit Go.Shelf
attribute [local go_sem] Oper.semAt_some
attribute [local go_sem, local simp] wide_fn

/-- What has been turned round when a list of pairs is over. -/
def downP (n : Nat) (ps : List (Nat × Nat)) : List Int := ps.foldl (fun (d : List Int) (p : Nat × Nat) => d.set p.2 (orI (d[p.2]?.getD 0) (powI p.1))) (List.replicate n 0)
theorem downP_snoc (n : Nat) (ps : List (Nat × Nat)) (a b : Nat) : downP n (ps ++ [(a, b)]) = (downP n ps).set b (orI ((downP n ps)[b]?.getD 0) (powI a)) := by simp [downP]
theorem downP_len (n : Nat) : ∀ ps : List (Nat × Nat), (downP n ps).length = n := fun ps => by
  unfold downP
  generalize hd : List.replicate n (0 : Int) = d
  have hl : d.length = n := by rw [← hd]; simp
  clear hd
  induction ps generalizing d with
  | nil => exact hl
  | cons p ps ih => exact ih _ (by simpa using hl)
theorem downP_bd {n m : Nat} {ps : List (Nat × Nat)} (h : ∀ p ∈ ps, p.1 < m) (j : Nat) : 0 ≤ (downP n ps)[j]?.getD 0 ∧ (downP n ps)[j]?.getD 0 < powI m := by
  have hp := powI_pos (m : Int)
  unfold downP
  generalize hd : List.replicate n (0 : Int) = d
  have hl : ∀ j : Nat, 0 ≤ d[j]?.getD 0 ∧ d[j]?.getD 0 < powI m := fun j => by
    rw [← hd]
    by_cases hj : j < n
    · simp [hj]; exact hp
    · simp [hj]; exact hp
  clear hd
  induction ps generalizing d with
  | nil => exact hl j
  | cons p ps ih =>
    refine ih (fun q hq => h q (by simp [hq])) _ (fun i => ?_)
    have h1 := h p (by simp)
    by_cases hi : p.2 = i
    · subst hi
      by_cases hlt : p.2 < d.length
      · rw [List.getElem?_set_self hlt]
        exact orI_bd (hl _).1 (hl _).2 (Int.le_of_lt (powI_pos _)) (powI_lt h1)
      · dsimp only
        rw [List.set_eq_of_length_le (by omega)]
        exact hl _
    · rw [List.getElem?_set_ne hi]
      exact hl i

theorem pairsTo_lt {zs : List Int} {k : Nat} {p : Nat × Nat} (h : p ∈ pairsTo zs k) : p.1 < k := by
  simp only [pairsTo, List.mem_flatMap, List.mem_range, List.mem_map] at h
  obtain ⟨x, hx, y, _, rfl⟩ := h
  exact hx
theorem upTo_lt {zs : List Int} {a b : Nat} : ∀ p ∈ pairsTo zs a ++ (itemsTo (zs[a]?.getD 0) b).map (fun x => (a, x)), p.1 < a + 1 := fun p hp => by
  rcases List.mem_append.1 hp with h | h
  · have := pairsTo_lt h; omega
  · obtain ⟨x, _, rfl⟩ := List.mem_map.1 h
    simp
/-- Of a set of n items the first n numbers tell all. -/
theorem itemsTo_all {s : Int} {n : Nat} (h1 : s < powI n) (hn : n ≤ 6) : itemsTo s n = itemsL s := by
  have key : ∀ d : Nat, itemsTo s (n + d) = itemsTo s n := fun d => by
    induction d with
    | zero => rfl
    | succ d ih =>
      have hb : bitB s ((n + d : Nat) : Int) = false := by
        cases h : bitB s ((n + d : Nat) : Int) with
        | false => rfl
        | true => have := bitB_lt h1 h; omega
      rw [← Nat.add_assoc, itemsTo_no hb, ih]
  rw [itemsL, show (6 : Nat) = n + (6 - n) from by omega, key]

set_option maxHeartbeats 1000000 in
theorem downOf_any (A : Option Addr) (n c : Nat) (zs : List Int) (w : World) (h : Ints w w.heap.size A n zs) (hv : Sets zs) :
    Calls Tryd.prog 45 #[.slice A n c] w fun e w' => e = .returned (.slice (some ⟨w.heap.size, 0, none⟩) n n) ∧ Arr w' w.heap.size 3 (downP n (pairsL zs)) ∧ Below w.heap.size w w' := by
  have hlen := Lib.hid h.len
  have hn6 : n ≤ 6 := by have := hv.1; rw [hlen.out] at this; exact this
  have hmk := run_make_row' (P := Tryd.prog) 22 3 (.int .i64 0) 8 Tryd.underlying22 infoInt rfl .i64 .i64 n (by omega) (by omega)
  go_enter Tryd.func45, Tryd.ntmps45
  go_wp2
  have hA1 := Arr.new w 3 n
  have hB1 : Below w.heap.size w (w.alloc (.cells (madeCells #[.int .i64 0] n) 3)) := (Below.refl _ _).alloc (Nat.le_refl _) _
  obtain ⟨W1, hW1⟩ : ∃ W1, w.alloc (.cells (madeCells #[.int .i64 0] n) 3) = W1 := ⟨_, rfl⟩
  rw [hW1] at hA1 hB1 ⊢
  clear hW1 hmk
  go_loopw [4] (fun i wr => ∃ a : Nat, a ≤ n ∧ i = .int .i64 a ∧ Arr wr w.heap.size 3 (downP n (pairsTo zs a)) ∧ Below w.heap.size w wr) (fun i _ => n - (intOf i).toNat)
  case atStart => exact ⟨0, by omega, rfl, hA1, hB1⟩
  case round =>
    obtain ⟨a, ha, rfl, hAr, hB⟩ := hrel
    by_cases hak : a < n
    · have hz := hv.bd a (by rw [hlen.out]; exact hak)
      go_wp2
      go_loopw [5] (fun i wr => ∃ b : Nat, b ≤ n ∧ i = .int .i64 b ∧ Arr wr w.heap.size 3 (downP n (pairsTo zs a ++ (itemsTo (zs[a]?.getD 0) b).map fun x => (a, x))) ∧ Below w.heap.size w wr) (fun i _ => n - (intOf i).toNat)
      case atStart => exact ⟨0, by omega, rfl, by simpa [itemsTo] using hAr, hB⟩
      case round =>
        clear hAr hB
        obtain ⟨b, hb, rfl, hAr, hB⟩ := hrel
        by_cases hbk : b < n
        · obtain ⟨bl, off, rfl, hbl, hc⟩ := (h.below hB).at_ hak
          have hck := hc a hak
          clear hc
          cases hbit : bitB (zs[a]?.getD 0) b
          · have hbi : (bitI (zs[a]?.getD 0) b == 1) = false := by rw [bitI_one, hbit]
            have Hn := Lib.hid (itemsTo_no hbit)
            go_wp2_with (go_at_call 47; refine (bit_any _ _ _ (by omega) (by omega) (by omega) (by omega)).mono ?_; rintro e w' ⟨rfl, rfl⟩)
            go_roundw
            case rel => exact ⟨b + 1, by omega, by go_num, by rw [Hn.out]; exact hAr, hB⟩
            case measure => simp [intOf]; omega
          · have hbi : (bitI (zs[a]?.getD 0) b == 1) = true := by rw [bitI_one, hbit]
            have Hn := Lib.hid (itemsTo_yes hbit)
            have hlb : b < (downP n (pairsTo zs a ++ (itemsTo (zs[a]?.getD 0) b).map fun x => (a, x))).length := by rw [downP_len]; exact hbk
            have hcs := hAr.cell hlb
            have hfs := hAr.frozen b
            have Hs := Lib.hid (downP_snoc n (pairsTo zs a ++ (itemsTo (zs[a]?.getD 0) b).map fun x => (a, x)) a b)
            have hbd := downP_bd (n := n) (m := a + 1) (ps := pairsTo zs a ++ (itemsTo (zs[a]?.getD 0) b).map fun x => (a, x)) upTo_lt b
            clear hlb
            generalize hD : downP n (pairsTo zs a ++ (itemsTo (zs[a]?.getD 0) b).map fun x => (a, x)) = D at *
            have HD := Lib.hid hD
            clear hD
            have hpa := powI_le6 (n := ((a + 1 : Nat) : Int)) (by omega)
            have hpb := powI_le6 (n := (a : Int)) (by omega)
            have hpp := powI_pos (a : Int)
            have hor : bits .or .i64 (D[b]?.getD 0) (powI a) = orI (D[b]?.getD 0) (powI a) := bits_or (by omega) (by omega) (by omega) (by omega)
            go_wp2_with (go_at_call 47; refine (bit_any _ _ _ (by omega) (by omega) (by omega) (by omega)).mono ?_; rintro e w' ⟨rfl, rfl⟩)
            go_region_with ((go_at_call 56; refine (power_any _ _ (by omega) (by omega)).mono ?_; rintro e w' ⟨rfl, rfl⟩))
            all_goals
              go_wp2
              go_roundw
              case rel => exact ⟨b + 1, by omega, by go_num, by rw [Hn.out, List.map_append, ← List.append_assoc, List.map_cons, List.map_nil, Hs.out]; exact hAr.set _ _, (hB.setCell (p := ⟨w.heap.size, b, none⟩) (Nat.le_refl _) _).drew⟩
              case measure => simp [intOf]; omega
        · obtain rfl : b = n := by omega
          have Hall := Lib.hid (itemsTo_all (s := zs[a]?.getD 0) (n := b) (by have h1 := (hv.2 a (by rw [hlen.out]; exact hak)).2; rw [hlen.out] at h1; exact h1) hn6)
          have Hps := Lib.hid (pairsTo_succ zs a)
          go_wp2
          go_roundw
          case rel => exact ⟨a + 1, by omega, by go_num, by rw [Hps.out, ← Hall.out]; exact hAr, hB⟩
          case measure => simp [intOf]; omega
    · obtain rfl : a = n := by omega
      have Hps := Lib.hid (show pairsL zs = pairsTo zs a by rw [pairsL, hlen.out])
      go_wp2
      go_ret
      exact ⟨rfl, by rw [Hps.out]; exact hAr, hB⟩

/-- 'list': a copy as numbers. -/
theorem list_any (A : Option Addr) (n c : Nat) (zs : List Int) (w : World) (hA : Ints w w.heap.size A n zs) (hbig : n ≤ 1048576) :
    Calls Tryd.prog 34 #[.slice A n c] w fun e w' => e = .returned (.slice (some ⟨w.heap.size, 0, none⟩) n n) ∧ Arr w' w.heap.size 3 zs ∧ Below w.heap.size w w' := by
  have hlen := Lib.hid hA.len
  have hmk := run_make_row' (P := Tryd.prog) 22 3 (.int .i64 0) 8 Tryd.underlying22 infoInt rfl .i64 .i64 n (by omega) (by omega)
  go_enter Tryd.func34, Tryd.ntmps34
  go_wp2
  have hA1 := Arr.new w 3 n
  have hB1 : Below w.heap.size w (w.alloc (.cells (madeCells #[.int .i64 0] n) 3)) := (Below.refl _ _).alloc (Nat.le_refl _) _
  obtain ⟨W1, hW1⟩ : ∃ W1, w.alloc (.cells (madeCells #[.int .i64 0] n) 3) = W1 := ⟨_, rfl⟩
  rw [hW1] at hA1 hB1 ⊢
  clear hW1 hmk
  go_loopw [11] (fun i wr => ∃ k : Nat, k ≤ n ∧ i = .int .i64 k ∧ Arr wr w.heap.size 3 (copied zs n k) ∧ Below w.heap.size w wr) (fun i _ => n - (intOf i).toNat)
  case atStart => exact ⟨0, by omega, rfl, by rw [copied_zero]; exact hA1, hB1⟩
  case round =>
    obtain ⟨k, hk, rfl, hAr, hB⟩ := hrel
    have Hcl := Lib.hid (copied_len hlen.out hk)
    by_cases hlt : k < n
    · obtain ⟨b, off, rfl, hbw, hc⟩ := (hA.below hB).at_ hlt
      have hck := hc k hlt
      have hcs := hAr.cell (k := k) (by rw [Hcl.out]; exact hlt)
      have hfs := hAr.frozen k
      clear hc
      have Hcp := Lib.hid (copied_succ hlen.out hlt)
      go_wp2
      go_roundw
      case rel => exact ⟨k + 1, by omega, by go_num, by rw [← Hcp.out]; exact hAr.set _ _, hB.setCell (p := ⟨w.heap.size, k, none⟩) (Nat.le_refl _) _⟩
      case measure => simp [intOf]; omega
    · obtain rfl : k = n := by omega
      have Hfull := Lib.hid (copied_full hlen.out)
      go_wp2
      go_ret
      exact ⟨rfl, by rw [← Hfull.out]; exact hAr, hB⟩

set_option maxRecDepth 100000 in
set_option maxHeartbeats 4000000 in
theorem dual_any (A : Option Addr) (n c : Nat) (zs : List Int) (hv : Sets zs) (w : World) (hA : Ints w w.heap.size A n zs) :
    Calls Tryd.prog 35 #[.slice A n c] w fun e W' => e = .returned (.slice (some ⟨w.heap.size, 0, none⟩) n n) ∧ Arr W' w.heap.size 59 (downP n (pairsL zs)) ∧ Below w.heap.size w W' := by
  have hlen := Lib.hid hA.len
  have hn6 : n ≤ 6 := by have := hv.1; rw [hlen.out] at this; exact this
  have hmk := run_make_row' (P := Tryd.prog) 42 59 (.int .i64 0) 8 Tryd.underlying42 infoItems rfl .i64 .i64 n (by omega) (by omega)
  refine (callsIn_wide (n := 9)).1 ?_
  refine callsIn_of_wp_marks Tryd.func35 rfl trivial ?_ rfl
  simp only [Tryd.ntmps35, List.size_toArray, List.length_cons, List.length_nil, Nat.reduceAdd, Nat.reduceSub, Array.replicate_succ, Array.replicate_zero, List.push_toArray, List.append_toArray, List.nil_append, List.cons_append]
  gi_wp2_with (gi_at_call 63; refine (callsIn_wide.2 (pairs_any _ _ _ _)).mono ?_; rintro e w' ⟨rfl, rfl⟩)
  have aD := ((Arr.new w 59 n).alloc (.cells #[Value.slice (some ⟨w.heap.size, 0, none⟩) n n] 42)).alloc (.cells #[Value.slice A n c] 42)
  have bD := (Boxed.new (w.alloc (.cells (madeCells #[Value.int .i64 0] n) 59)) 42 (.slice (some ⟨w.heap.size, 0, none⟩) n n)).alloc (.cells #[Value.slice A n c] 42)
  have bP := Boxed.new ((w.alloc (.cells (madeCells #[Value.int .i64 0] n) 59)).alloc (.cells #[Value.slice (some ⟨w.heap.size, 0, none⟩) n n] 42)) 42 (.slice A n c)
  have hu0 : Upd (fun _ => False) w (((w.alloc (.cells (madeCells #[Value.int .i64 0] n) 59)).alloc (.cells #[Value.slice (some ⟨w.heap.size, 0, none⟩) n n] 42)).alloc (.cells #[Value.slice A n c] 42)) := (((Upd.refl _ w).alloc _).alloc _).alloc _
  have hz0 : (((w.alloc (.cells (madeCells #[Value.int .i64 0] n) 59)).alloc (.cells #[Value.slice (some ⟨w.heap.size, 0, none⟩) n n] 42)).alloc (.cells #[Value.slice A n c] 42)).heap.size = w.heap.size + 3 := by simp
  simp only [World.size_alloc] at bD bP
  clear hmk
  obtain ⟨W0, hW0⟩ : ∃ W0, (((w.alloc (.cells (madeCells #[Value.int .i64 0] n) 59)).alloc (.cells #[Value.slice (some ⟨w.heap.size, 0, none⟩) n n] 42)).alloc (.cells #[Value.slice A n c] 42)) = W0 := ⟨_, rfl⟩
  rw [hW0] at aD bD bP hu0 hz0 ⊢
  clear hW0
  have hA0 : Ints W0 w.heap.size A n zs := hA.below (hu0.toBelow (fun _ e => e.elim) (Nat.le_refl _))
  refine range_out (n := 9) (gf := 86) (lb := #[.pointer (some ⟨w.heap.size + 1 + 1, 0, none⟩)]) rfl (enters_of Tryd.func86 (by kernel_rfl) rfl) (encs := encP) (L := pairsL zs)
    (fun k => k = w.heap.size) (fun k e => by omega) (fun _ => rfl)
    (fun W1 l1 hu1 hl1 hl2 => pairs_iter_at hv bP (fun k e => by omega) (by omega) hA0 (by omega) (fun k e => by omega) hu1 hl1 hl2)
    (fun pre D W => Arr W w.heap.size 59 (downP n pre) ∧ Upd (fun k => k = w.heap.size) W0 W)
    (fun _ _ _ _ => False)
    (fun _ D X Y hs hu => ⟨hs.1.upd hu (fun e => by omega), hs.2.trans' hu (fun i hi e => by omega)⟩)
    (fun _ _ _ _ _ hs _ => hs)
    ⟨aD, Upd.refl _ _⟩ ?owes ?done ?stop
  case owes =>
    rintro l1 pre ⟨lo, hi⟩ D1 W hl1 hl2 hDl hD1 - hpre K hK
    gi_wp2
    refine hK _ _ (Upd.refl _ _) ?_
    rintro Wb hWb - ⟨aD1, hU⟩
    clear hK
    obtain ⟨hlo, hhi, hbit⟩ := hv.pair (a := lo) (b := hi) (hpre.subset (by simp))
    rw [hlen.out] at hlo hhi
    have hcD := (hU.boxed bD (by omega)).cell
    have hsb := hU.size
    have hszb := hWb.size
    have hlb : hi < (downP n pre).length := by rw [downP_len]; exact hhi
    have hcs := aD1.cell hlb
    have hfs := aD1.frozen hi
    have Hs := Lib.hid (downP_snoc n pre lo hi)
    have hbd := downP_bd (n := n) (m := n) (ps := pre) (fun p hp => by
      have := (hv.pair (a := p.1) (b := p.2) (hpre.subset (by simp [hp]))).1
      rw [hlen.out] at this; exact this) hi
    have hpn := powI_le6 (n := (n : Int)) (by omega)
    clear hlb
    generalize hD : downP n pre = D at *
    have HD := Lib.hid hD
    clear hD
    gi_wp2
    refine region_tail_round 9 (by kernel_rfl) (by kernel_rfl) (by kernel_rfl) ?_
    simp only [List.take_succ_cons, List.take_zero, List.drop_succ_cons, List.drop_zero]
    repeat (gi_big_quiet_step ((first
      | (gi_at_call 64; exact quietIn_add (with_any _ _ _ (by omega) (by omega) (by omega) (by omega)))
      | (gi_at_call 64; exact quietIn_left (with_any _ _ _ (by omega) (by omega) (by omega) (by omega))))))
    refine wpQuietIn_nil ?_
    intro _ hw'
    obtain ⟨nq, hw''⟩ := hw'
    subst hw''
    gi_wp2
    exact ⟨D1, ⟨by rw [Hs.out]; exact (aD1.drewN nq).set _ _, (hU.drewN _).setCell (p := ⟨w.heap.size, hi, none⟩) (.inr rfl) _⟩, ((Upd.refl _ _).drewN _).setCell (p := ⟨w.heap.size, hi, none⟩) (.inr (.inl rfl)) _, fun k hk => .inl hk⟩
  case done =>
    rintro d D1 W hd ⟨aD1, hU⟩ hD1 hKd
    have hcD := (hU.boxed bD (by omega)).cell
    gi_wp2
    refine leaves_marks [d] _ ⟨by simp, fun b hb => ?_⟩ (fun W' hu' => ?_)
    · rw [List.mem_singleton.1 hb]
      exact hKd
    · exact ⟨.slice (some ⟨w.heap.size, 0, none⟩) n n, by simp [results, Tryd.f35, go_sem], rfl, aD1.upd hu' (by simp; omega),
        (((hu0.mono fun _ _ e => e.elim).trans' hU (fun i hi e => by omega)).trans' hu' (fun i hi e => by simp at e; omega)).toBelow (R := fun _ => False) (fun _ e => e.elim) (Nat.le_refl _)⟩
  case stop =>
    rintro d D1 co pre W hd hpre h
    exact h.elim

def dualR (zs : List Int) : List Int := if vo zs then downP zs.length (pairsL zs) else []

theorem DualOf_any (A : Option Addr) (n c : Nat) (zs : List Int) (w : World) (h : Ints w w.heap.size A n zs) (hbig : n ≤ 1152921504606846976) :
    Calls Tryd.prog 13 #[.slice A n c] w (GivesRow w (dualR zs)) := by
  have hlen := Lib.hid h.len
  cases hv : vo zs
  · have Ht := Lib.hid (show dualR zs = [] by unfold dualR; rw [hv]; rfl)
    have Hv := Lib.hid hv
    clear hv
    go_enter Tryd.func13, Tryd.ntmps13
    go_wp2_with fail
    refine (readOrder_any _ _ _ zs _ h hbig).mono ?_
    rintro e w' ⟨hB, (⟨hv, b, rfl, _, _⟩ | ⟨_, rfl⟩)⟩
    · rw [Hv.out] at hv; cases hv
    · go_wp2_with fail
      go_ret
      exact ⟨none, 0, 0, rfl, by rw [Ht.out]; exact Row.nil _ _ _ _, hB⟩
  · have hvo : VoP zs := by simpa [vo] using hv
    have hn6 : n ≤ 6 := by have := hvo.1; rw [hlen.out] at this; exact this
    have Ht := Lib.hid (show dualR zs = downP n (pairsL zs) by unfold dualR; rw [hv, hlen.out]; rfl)
    have Hv := Lib.hid hv
    clear hv
    go_enter Tryd.func13, Tryd.ntmps13
    go_wp2_with fail
    refine (readOrder_any _ _ _ zs _ h hbig).mono ?_
    rintro e w1 ⟨hB, (⟨_, b, rfl, hb, hAr⟩ | ⟨hv, _⟩)⟩
    · have z1 := hB.size
      go_wp2_with fail
      refine (dual_any _ _ _ zs hvo.sets _ (hAr.ints' hAr.lt hlen.out)).mono ?_
      rintro e w2 ⟨rfl, hA2, hB2⟩
      have z2 := hB2.size
      go_wp2_with fail
      refine (list_any _ _ _ _ _ (hA2.ints' hA2.lt (downP_len _ _)) (by omega)).mono ?_
      rintro e w3 ⟨rfl, hA3, hB3⟩
      go_wp2_with fail
      go_ret
      exact ⟨_, n, n, rfl, by rw [Ht.out]; exact Row.of hA3 (downP_len _ _) (by omega) hA3.lt, hB.trans ((hB2.mono z1).trans (hB3.mono (by omega)))⟩
    · rw [Hv.out] at hv; cases hv
end Go.Proofs.YtmlihbcffndnbaaDoor

/- CountPairs: how many items sets have, in the model and in the program. -/
namespace Go.Proofs.YtmlihbcffndnbaaDoor
open Go.RowKit

def popN : Nat → Int → Int
  | 0, _ => 0
  | k + 1, s => s % 2 + popN k (s / 2)
/-- How many items a set of at most six has. -/
def popI (s : Int) : Int := popN 6 s
def onesI (s : Int) : Int :=
  let a := IntKind.u64.wrap (bits .and .u64 (s / 2) 6148914691236517205 + bits .and .u64 s 6148914691236517205)
  let b := IntKind.u64.wrap (bits .and .u64 (a / 4) 3689348814741910323 + bits .and .u64 a 3689348814741910323)
  let c := bits .and .u64 (IntKind.u64.wrap (b / 16 + b)) 1085102592571150095
  let d := IntKind.u64.wrap (c + c / 256)
  let e := IntKind.u64.wrap (d + d / 65536)
  let f := IntKind.u64.wrap (e + e / 4294967296)
  bits .and .i64 (wrap64 f) 127
theorem onesI_fin : ∀ k : Fin 64, onesI (k.val : Int) = popI (k.val : Int) := by decide +kernel
theorem onesI_eq {s : Int} (h0 : 0 ≤ s) (h1 : s < 64) : onesI s = popI s := by
  obtain ⟨k, rfl⟩ := Int.eq_ofNat_of_zero_le h0
  exact onesI_fin ⟨k, by omega⟩
theorem popI_fin : ∀ k : Fin 64, 0 ≤ popI (k.val : Int) ∧ popI (k.val : Int) ≤ 6 := by decide +kernel
theorem popI_bd {s : Int} (h0 : 0 ≤ s) (h1 : s < 64) : 0 ≤ popI s ∧ popI s ≤ 6 := by
  obtain ⟨k, rfl⟩ := Int.eq_ofNat_of_zero_le h0
  exact popI_fin ⟨k, by omega⟩
theorem popN_zero (k : Nat) : popN k 0 = 0 := by induction k <;> simp_all [popN]

set_option maxHeartbeats 400000 in
theorem bits_any (s : Int) (w : World) (h0 : 0 ≤ s) (h1 : s < 64) :
    Calls Tryd.prog 23 #[.int .i64 s] w fun e w' => e = .returned (.int .i64 (popI s)) ∧ w = w' := by
  have hpb := popI_bd h0 h1
  go_enter Tryd.func23, Tryd.ntmps23
  go_wp2
  go_loop [0, 3] (fun v t => ∃ (x y : Int) (k : Nat), k ≤ 6 ∧ 0 ≤ x ∧ x < 2 ^ k ∧ v = .int .i64 x ∧ t = .int .i64 y ∧ 0 ≤ y ∧ y + popN k x = popI s) (fun v _ => (intOf v).toNat)
  case atStart => exact ⟨s, 0, 6, by omega, h0, by simpa using h1, rfl, rfl, by omega, by simp [popI]⟩
  case round =>
    obtain ⟨x, y, k, hk, hx0, hx1, rfl, rfl, hy, hp⟩ := hrel
    have Hp := Lib.hid hp
    clear hp
    have hy6 : y ≤ 6 := by
      have h := Hp.out
      have : 0 ≤ popN k x := by
        clear h Hp hx1 hk
        induction k generalizing x with
        | zero => simp [popN]
        | succ k ih =>
          have := ih (x / 2) (by omega)
          unfold popN
          omega
      omega
    have Hx := Lib.hid hx1
    clear hx1
    by_cases hlt : 0 < x
    · cases k with
      | zero => have := Hx.out; simp at this; omega
      | succ k =>
        have hx2 : x < 9223372036854775808 := by
          have h1 := Hx.out
          have h2 : (2 : Int) ^ (k + 1) ≤ 2 ^ 6 := by
            have : (2 : Nat) ^ (k + 1) ≤ 2 ^ 6 := Nat.pow_le_pow_right (by decide) hk
            exact_mod_cast this
          omega
        go_wp2
        go_round
        case rel => exact ⟨x / 2, y + x % 2, k, by omega, by omega, by have h1 := Hx.out; rw [Int.pow_succ] at h1; omega, rfl, rfl, by omega, by have h1 := Hp.out; unfold popN at h1; omega⟩
        case measure => simp [intOf]; omega
    · obtain rfl : x = 0 := by omega
      have hy' : y = popI s := by have h1 := Hp.out; rw [popN_zero] at h1; omega
      have Hy := Lib.hid hy'
      clear hy'
      go_wp2
      go_ret
      exact ⟨ret_int Hy.out, rfl⟩

/-- How many items the first k sets have together. -/
def popTo (zs : List Int) : Nat → Int
  | 0 => 0
  | k + 1 => popTo zs k + popI (zs[k]?.getD 0)
theorem popTo_bd {zs : List Int} (h : Sets zs) : ∀ k : Nat, k ≤ zs.length → 0 ≤ popTo zs k ∧ popTo zs k ≤ 6 * k
  | 0, _ => by simp [popTo]
  | k + 1, hk => by
    have h1 := popTo_bd h k (by omega)
    have h2 := h.bd k (by omega)
    have h3 := popI_bd h2.1 h2.2
    unfold popTo
    omega
def countR (zs : List Int) : Int := if vo zs then popTo zs zs.length else -1

end Go.Proofs.YtmlihbcffndnbaaDoor

/- Heights: raising by pairs, round after round, comes to one and the same, in whatever order the pairs stand. No program. -/
namespace Go.Proofs.YtmlihbcffndnbaaDoor

/-- a is below b. -/
def lt (zs : List Int) (a b : Nat) : Prop := a < zs.length ∧ bitB (zs[a]?.getD 0) b = true
theorem VoP.irr {zs : List Int} (h : VoP zs) {a : Nat} : ¬ lt zs a a := fun ⟨h1, h2⟩ => by
  have := h.2.1 a h1
  simp [okA, h2] at this
theorem VoP.lt_n {zs : List Int} (h : VoP zs) {a b : Nat} (hl : lt zs a b) : b < zs.length := bitB_lt (h.sets.2 a hl.1).2 hl.2
theorem VoP.trans {zs : List Int} (h : VoP zs) {a b c : Nat} (h1 : lt zs a b) (h2 : lt zs b c) : lt zs a c := by
  have hb := h.lt_n h1
  have hp := h.2.2 a h1.1 b hb
  simp only [okP, h1.2, Bool.not_true, Bool.false_or, Bool.and_eq_true, beq_iff_eq] at hp
  exact ⟨h1.1, lessI_zero hp.1 c h2.2⟩

def below (zs : List Int) (b : Nat) : List Nat := (List.range zs.length).filter fun a => bitB (zs[a]?.getD 0) b
theorem mem_below {zs : List Int} {a b : Nat} : a ∈ below zs b ↔ lt zs a b := by simp [below, lt]

theorem filter_lt {p q : Nat → Bool} {x : Nat} : ∀ l : List Nat, (∀ y ∈ l, p y = true → q y = true) → x ∈ l → q x = true → p x = false → (l.filter p).length < (l.filter q).length
  | [], _, hx, _, _ => by cases hx
  | y :: l, hpq, hx, hq, hp => by
    have hle : (l.filter p).length ≤ (l.filter q).length := by
      clear hx
      induction l with
      | nil => simp
      | cons z l ih =>
        have ih := ih (fun y hy => hpq y (by simp at hy ⊢; rcases hy with h | h <;> simp [h]))
        have hz := hpq z (by simp)
        cases h1 : p z <;> cases h2 : q z <;> simp [h1, h2] at hz ⊢ <;> omega
    rcases List.mem_cons.1 hx with rfl | hx
    · simp [hq, hp]; omega
    · have ih := filter_lt l (fun y hy => hpq y (by simp [hy])) hx hq hp
      have hy := hpq y (by simp)
      cases h1 : p y <;> cases h2 : q y <;> simp [h1, h2] at hy ⊢ <;> omega
def rank (zs : List Int) (b : Nat) : Nat := (below zs b).length
theorem rank_lt {zs : List Int} (h : VoP zs) {a b : Nat} (hl : lt zs a b) : rank zs a < rank zs b := by
  refine filter_lt (x := a) _ (fun y hy hp => ?_) (List.mem_range.2 hl.1) hl.2 ?_
  · exact (h.trans ⟨List.mem_range.1 hy, hp⟩ hl).2
  · cases hb : bitB (zs[a]?.getD 0) a with
    | false => rfl
    | true => exact absurd ⟨hl.1, hb⟩ h.irr
theorem rank_bd {zs : List Int} (h : VoP zs) {b : Nat} (hb : b < zs.length) : rank zs b < zs.length := by
  have : (below zs b).length < ((List.range zs.length).filter fun _ => true).length := by
    refine filter_lt (x := b) _ (fun _ _ _ => rfl) (List.mem_range.2 hb) rfl ?_
    cases hc : bitB (zs[b]?.getD 0) b with
    | false => rfl
    | true => exact absurd ⟨hb, hc⟩ h.irr
  rw [List.filter_eq_self.2 (fun _ _ => rfl), List.length_range] at this
  exact this

def maxL (f : Nat → Int) (l : List Nat) : Int := l.foldl (fun m a => max m (f a + 1)) 0
theorem maxL_ge (f : Nat → Int) : ∀ (l : List Nat), 0 ≤ maxL f l ∧ ∀ a ∈ l, f a + 1 ≤ maxL f l := by
  have key : ∀ (l : List Nat) (m : Int), m ≤ l.foldl (fun m a => max m (f a + 1)) m ∧ ∀ a ∈ l, f a + 1 ≤ l.foldl (fun m a => max m (f a + 1)) m := fun l => by
    induction l with
    | nil => exact fun m => ⟨Int.le_refl _, fun _ h => by cases h⟩
    | cons x l ih =>
      intro m
      have h := ih (max m (f x + 1))
      refine ⟨by simp only [List.foldl_cons]; omega, fun a ha => ?_⟩
      simp only [List.foldl_cons]
      rcases List.mem_cons.1 ha with rfl | ha
      · omega
      · exact h.2 a ha
  exact fun l => key l 0
theorem maxL_eq (f : Nat → Int) : ∀ (l : List Nat), maxL f l = 0 ∨ ∃ a ∈ l, maxL f l = f a + 1 := by
  have key : ∀ (l : List Nat) (m : Int), l.foldl (fun m a => max m (f a + 1)) m = m ∨ ∃ a ∈ l, l.foldl (fun m a => max m (f a + 1)) m = f a + 1 := fun l => by
    induction l with
    | nil => exact fun m => .inl rfl
    | cons x l ih =>
      intro m
      simp only [List.foldl_cons]
      rcases ih (max m (f x + 1)) with h | ⟨a, ha, h⟩
      · rcases Int.le_total m (f x + 1) with h1 | h1
        · exact .inr ⟨x, by simp, by rw [h]; omega⟩
        · exact .inl (by rw [h]; omega)
      · exact .inr ⟨a, by simp [ha], h⟩
  exact fun l => key l 0
theorem maxL_congr {f g : Nat → Int} {l : List Nat} (h : ∀ a ∈ l, f a = g a) : maxL f l = maxL g l := by
  have key : ∀ (l : List Nat) (m : Int), (∀ a ∈ l, f a = g a) → l.foldl (fun m a => max m (f a + 1)) m = l.foldl (fun m a => max m (g a + 1)) m := fun l => by
    induction l with
    | nil => exact fun m _ => rfl
    | cons x l ih =>
      intro m hl
      simp only [List.foldl_cons]
      rw [hl x (by simp)]
      exact ih _ (fun a ha => hl a (by simp [ha]))
  exact key l 0 h

def hF (zs : List Int) : Nat → Nat → Int
  | 0, _ => 0
  | k + 1, b => maxL (hF zs k) (below zs b)
theorem hF_stable {zs : List Int} (h : VoP zs) : ∀ (k b : Nat), rank zs b < k → hF zs (k + 1) b = hF zs k b
  | 0, b, hk => by omega
  | k + 1, b, hk => by
    show maxL (hF zs (k + 1)) (below zs b) = maxL (hF zs k) (below zs b)
    refine maxL_congr fun a ha => hF_stable h k a ?_
    have := rank_lt h (mem_below.1 ha)
    omega
theorem hF_rank {zs : List Int} (h : VoP zs) : ∀ (k b : Nat), hF zs k b ≤ rank zs b
  | 0, b => by simp [hF]
  | k + 1, b => by
    rcases maxL_eq (hF zs k) (below zs b) with e | ⟨a, ha, e⟩
    · show maxL (hF zs k) (below zs b) ≤ _; omega
    · have h1 := hF_rank h k a
      have h2 := rank_lt h (mem_below.1 ha)
      show maxL (hF zs k) (below zs b) ≤ _; omega

/-- The height of an item. -/
def hgt (zs : List Int) (b : Nat) : Int := hF zs 6 b
theorem hgt_up {zs : List Int} (h : VoP zs) {a b : Nat} (hl : lt zs a b) : hgt zs a + 1 ≤ hgt zs b := by
  have hb := h.lt_n hl
  have hr := rank_bd h hb
  have h6 := h.1
  have e : hgt zs b = maxL (hF zs 6) (below zs b) := (hF_stable h 6 b (by omega)).symm
  rw [e]
  exact (maxL_ge (hF zs 6) (below zs b)).2 a (mem_below.2 hl)
theorem hgt_eq {zs : List Int} (h : VoP zs) {b : Nat} (hb : b < zs.length) : hgt zs b = 0 ∨ ∃ a, lt zs a b ∧ hgt zs b = hgt zs a + 1 := by
  have hr := rank_bd h hb
  have h6 := h.1
  have e : hgt zs b = maxL (hF zs 6) (below zs b) := (hF_stable h 6 b (by omega)).symm
  rw [e]
  rcases maxL_eq (hF zs 6) (below zs b) with e | ⟨a, ha, e⟩
  · exact .inl e
  · exact .inr ⟨a, mem_below.1 ha, e⟩
theorem hgt_nn (zs : List Int) (b : Nat) : 0 ≤ hgt zs b := (maxL_ge (hF zs 5) (below zs b)).1
theorem hgt_bd {zs : List Int} (h : VoP zs) {b : Nat} (hb : b < zs.length) : hgt zs b < zs.length := by
  have h1 := hF_rank h 6 b
  have h2 := rank_bd h hb
  unfold hgt
  omega

/-- One pair raises the second item. -/
def up1 (S : List Int) (p : Nat × Nat) : List Int := S.set p.2 (max (S[p.2]?.getD 0) (S[p.1]?.getD 0 + 1))
def upL (S : List Int) (ps : List (Nat × Nat)) : List Int := ps.foldl up1 S
def upN (ps : List (Nat × Nat)) : Nat → List Int → List Int
  | 0, S => S
  | k + 1, S => upL (upN ps k S) ps
theorem upL_snoc (S : List Int) (ps : List (Nat × Nat)) (p : Nat × Nat) : upL S (ps ++ [p]) = up1 (upL S ps) p := by simp [upL]
theorem up1_len (S : List Int) (p : Nat × Nat) : (up1 S p).length = S.length := by simp [up1]
theorem upL_len (ps : List (Nat × Nat)) : ∀ S : List Int, (upL S ps).length = S.length := by
  induction ps with
  | nil => exact fun _ => rfl
  | cons p ps ih => intro S; show (upL (up1 S p) ps).length = _; rw [ih, up1_len]
theorem upN_len (ps : List (Nat × Nat)) (S : List Int) : ∀ k : Nat, (upN ps k S).length = S.length
  | 0 => rfl
  | k + 1 => by rw [upN, upL_len, upN_len ps S k]

/-- The state is of numbers from 0 up to the heights. -/
def Low (zs S : List Int) : Prop := S.length = zs.length ∧ ∀ b, b < zs.length → 0 ≤ S[b]?.getD 0 ∧ S[b]?.getD 0 ≤ hgt zs b
theorem up1_get {S : List Int} {p : Nat × Nat} {b : Nat} (hp : p.2 < S.length) : (up1 S p)[b]?.getD 0 = if p.2 = b then max (S[p.2]?.getD 0) (S[p.1]?.getD 0 + 1) else S[b]?.getD 0 := by
  unfold up1
  by_cases h : p.2 = b
  · subst h
    rw [List.getElem?_set_self hp, if_pos rfl]; rfl
  · rw [List.getElem?_set_ne h, if_neg h]
theorem up1_low {zs S : List Int} (h : VoP zs) (hS : Low zs S) {p : Nat × Nat} (hl : lt zs p.1 p.2) : Low zs (up1 S p) ∧ ∀ b, b < zs.length → S[b]?.getD 0 ≤ (up1 S p)[b]?.getD 0 := by
  have hb := h.lt_n hl
  have hu := hgt_up h hl
  have h1 := hS.2 _ hl.1
  have hp : p.2 < S.length := by rw [hS.1]; exact hb
  refine ⟨⟨by rw [up1_len, hS.1], fun b hbb => ?_⟩, fun b hbb => ?_⟩
  · rw [up1_get hp]
    have h2 := hS.2 b hbb
    split
    · rename_i e; subst e; omega
    · exact h2
  · rw [up1_get hp]
    split
    · rename_i e; subst e; omega
    · exact Int.le_refl _
theorem upL_low {zs : List Int} (h : VoP zs) : ∀ (ps : List (Nat × Nat)) (S : List Int), Low zs S → (∀ p ∈ ps, lt zs p.1 p.2) →
    Low zs (upL S ps) ∧ (∀ b, b < zs.length → S[b]?.getD 0 ≤ (upL S ps)[b]?.getD 0) ∧ ∀ p ∈ ps, S[p.1]?.getD 0 + 1 ≤ (upL S ps)[p.2]?.getD 0
  | [], S, hS, _ => ⟨hS, fun _ _ => Int.le_refl _, fun _ hp => by cases hp⟩
  | p :: ps, S, hS, hps => by
    have hl := hps p (by simp)
    obtain ⟨h1, h2⟩ := up1_low h hS hl
    obtain ⟨h3, h4, h5⟩ := upL_low h ps (up1 S p) h1 (fun q hq => hps q (by simp [hq]))
    have hb := h.lt_n hl
    refine ⟨h3, fun b hbb => Int.le_trans (h2 b hbb) (h4 b hbb), fun q hq => ?_⟩
    rcases List.mem_cons.1 hq with rfl | hq
    · have h6 := h4 q.2 hb
      have h7 : (up1 S q)[q.2]?.getD 0 = max (S[q.2]?.getD 0) (S[q.1]?.getD 0 + 1) := by rw [up1_get (by rw [hS.1]; exact hb), if_pos rfl]
      show _ ≤ (upL (up1 S q) ps)[q.2]?.getD 0
      omega
    · have hq1 := hps q (by simp [hq])
      have h6 := h5 q hq
      have h7 := h2 q.1 hq1.1
      show _ ≤ (upL (up1 S p) ps)[q.2]?.getD 0
      omega
theorem upN_low {zs : List Int} (h : VoP zs) {ps : List (Nat × Nat)} (hps : ∀ p ∈ ps, lt zs p.1 p.2) : ∀ k : Nat, Low zs (upN ps k (List.replicate zs.length 0))
  | 0 => ⟨by simp [upN], fun b hb => by simp [upN, hb]; exact hgt_nn _ _⟩
  | k + 1 => (upL_low h ps _ (upN_low h hps k) hps).1
theorem upN_reach {zs : List Int} (h : VoP zs) {ps : List (Nat × Nat)} (hps : ∀ p ∈ ps, lt zs p.1 p.2) (hall : ∀ a b, lt zs a b → (a, b) ∈ ps) :
    ∀ (k b : Nat), b < zs.length → min (hgt zs b) (k : Int) ≤ (upN ps k (List.replicate zs.length 0))[b]?.getD 0
  | 0, b, hb => by
    have := ((upN_low h hps 0).2 b hb).1
    omega
  | k + 1, b, hb => by
    have hL := upN_low h hps k
    obtain ⟨h1, h2, h3⟩ := upL_low h ps _ hL hps
    have h0 := (h1.2 b hb).1
    show _ ≤ (upL (upN ps k (List.replicate zs.length 0)) ps)[b]?.getD 0
    rcases hgt_eq h hb with e | ⟨a, hl, e⟩
    · omega
    · have h4 := upN_reach h hps hall k a hl.1
      have h5 := h3 (a, b) (hall a b hl)
      simp only at h5
      omega
theorem upN_all {zs : List Int} (h : VoP zs) {ps : List (Nat × Nat)} (hps : ∀ p ∈ ps, lt zs p.1 p.2) (hall : ∀ a b, lt zs a b → (a, b) ∈ ps) :
    upN ps zs.length (List.replicate zs.length 0) = (List.range zs.length).map (hgt zs) := by
  have hlen : (upN ps zs.length (List.replicate zs.length 0)).length = zs.length := by rw [upN_len]; simp
  refine List.ext_getElem (by rw [hlen]; simp) fun b h1 h2 => ?_
  rw [hlen] at h1
  have h3 := upN_reach h hps hall zs.length b h1
  have h4 := ((upN_low h hps zs.length).2 b h1).2
  have h5 := hgt_bd h h1
  rw [List.getElem?_eq_getElem (by rw [hlen]; exact h1)] at h3 h4
  simp only [Option.getD_some] at h3 h4
  simp only [List.getElem_map, List.getElem_range]
  omega

theorem lt_pairs {zs : List Int} {p : Nat × Nat} (hp : p ∈ pairsL zs) : lt zs p.1 p.2 := by
  obtain ⟨a, b⟩ := p
  have := mem_pairsL.1 hp
  exact ⟨this.1, this.2.2⟩
theorem pairs_lt {zs : List Int} (h : VoP zs) {a b : Nat} (hl : lt zs a b) : (a, b) ∈ pairsL zs := mem_pairsL.2 ⟨hl.1, by have := h.lt_n hl; have := h.1; omega, hl.2⟩

/-- What is turned round holds just the pairs. -/
theorem downP_bit {n : Nat} {ps : List (Nat × Nat)} (hps : ∀ p ∈ ps, p.2 < n) (a b : Nat) : bitB ((downP n ps)[b]?.getD 0) a = true ↔ (a, b) ∈ ps := by
  have key : ∀ (ps : List (Nat × Nat)) (d : List Int), d.length = n → (∀ p ∈ ps, p.2 < n) →
      (bitB ((ps.foldl (fun (d : List Int) (p : Nat × Nat) => d.set p.2 (orI (d[p.2]?.getD 0) (powI p.1))) d)[b]?.getD 0) a = true ↔ bitB (d[b]?.getD 0) a = true ∨ (a, b) ∈ ps) := fun ps => by
    induction ps with
    | nil => intro d _ _; simp
    | cons p ps ih =>
      intro d hd hp
      rw [List.foldl_cons, ih _ (by simpa using hd) (fun q hq => hp q (by simp [hq]))]
      have hp2 := hp p (by simp)
      obtain ⟨x, y⟩ := p
      simp only at hp2
      by_cases hy : y = b
      · subst hy
        rw [List.getElem?_set_self (by omega), Option.getD_some, bitB_or, bitB_pow]
        by_cases hx : x = a
        · simp [hx]
        · have hx' : ¬ a = x := fun e => hx e.symm
          simp [hx, hx']
      · have hy' : ¬ b = y := fun e => hy e.symm
        rw [List.getElem?_set_ne hy]
        simp [hy']
  unfold downP
  rw [key ps _ (by simp) hps]
  by_cases hb : b < n
  · simp [hb, bitB_zero]
  · simp [hb, bitB_zero]
theorem down_sets {zs : List Int} (h : Sets zs) : Sets (downP zs.length (pairsL zs)) := ⟨by rw [downP_len]; exact h.1, fun a _ => by
  rw [downP_len]
  exact downP_bd (fun p hp => (h.pair (a := p.1) (b := p.2) hp).1) a⟩
theorem down_lt {zs : List Int} (h : VoP zs) {a b : Nat} : (b, a) ∈ pairsL (downP zs.length (pairsL zs)) ↔ lt zs a b := by
  have hn : ∀ p ∈ pairsL zs, p.2 < zs.length := fun p hp => (h.sets.pair (a := p.1) (b := p.2) hp).2.1
  rw [mem_pairsL, downP_len, downP_bit hn]
  constructor
  · rintro ⟨_, _, h3⟩
    exact lt_pairs h3
  · intro hl
    exact ⟨h.lt_n hl, by have := hl.1; have := h.1; omega, pairs_lt h hl⟩

def heightsR (zs : List Int) : List Int := if vo zs then (List.range zs.length).map (hgt zs) else []
theorem heightsR_le (zs : List Int) : (heightsR zs).length ≤ 1048576 := by
  unfold heightsR
  cases hv : vo zs
  · simp
  · have hvo : VoP zs := by simpa [vo] using hv
    have := hvo.1
    simp
    omega
def swaps (ps : List (Nat × Nat)) : List (Nat × Nat) := ps.map fun p => (p.2, p.1)
theorem swaps_lt {zs : List Int} (h : VoP zs) : ∀ p ∈ swaps (pairsL (downP zs.length (pairsL zs))), lt zs p.1 p.2 := fun p hp => by
  obtain ⟨q, hq, rfl⟩ := List.mem_map.1 hp
  exact (down_lt h).1 hq
theorem lt_swaps {zs : List Int} (h : VoP zs) (a b : Nat) (hl : lt zs a b) : (a, b) ∈ swaps (pairsL (downP zs.length (pairsL zs))) :=
  List.mem_map.2 ⟨(b, a), (down_lt h).2 hl, rfl⟩
end Go.Proofs.YtmlihbcffndnbaaDoor

/- Chains and sets apart, as plain mathematics: pairs within a set, the greatest ones, heights and chains. No program. -/
namespace Go.Proofs.YtmlihbcffndnbaaDoor

/-! Pairs of a relation within a list. -/
/-- How many pairs of the list are related. -/
def cl (r : Nat → Nat → Bool) (l m : List Nat) : Nat := (l.map fun a => (m.filter (r a)).length).sum
theorem cl_cons (r : Nat → Nat → Bool) (x : Nat) (m : List Nat) : ∀ l : List Nat, cl r l (x :: m) = (l.filter fun a => r a x).length + cl r l m
  | [] => rfl
  | a :: l => by
    have ih := cl_cons r x m l
    have e1 : cl r (a :: l) (x :: m) = ((x :: m).filter (r a)).length + cl r l (x :: m) := rfl
    have e2 : cl r (a :: l) m = (m.filter (r a)).length + cl r l m := rfl
    rw [e1, e2, ih, List.filter_cons, List.filter_cons]
    cases r a x <;> simp <;> omega
theorem cl_self (r : Nat → Nat → Bool) {x : Nat} {l : List Nat} (hx : r x x = false) : cl r (x :: l) (x :: l) = (l.filter (r x)).length + (l.filter fun a => r a x).length + cl r l l := by
  have h := cl_cons r x l l
  have e1 : cl r (x :: l) (x :: l) = ((x :: l).filter (r x)).length + cl r l (x :: l) := rfl
  rw [e1, h, List.filter_cons, hx]
  simp only [Bool.false_eq_true, if_false]
  omega
theorem two_way (r : Nat → Nat → Bool) (x : Nat) : ∀ l : List Nat, (∀ b ∈ l, r x b = true → r b x = false) →
    (l.filter (r x)).length + (l.filter fun a => r a x).length ≤ l.length ∧ ((l.filter (r x)).length + (l.filter fun a => r a x).length = l.length ↔ ∀ b ∈ l, (r x b || r b x) = true)
  | [], _ => by simp
  | b :: l, h => by
    obtain ⟨h1, h2⟩ := two_way r x l (fun c hc => h c (by simp [hc]))
    have hb := h b (by simp)
    rw [List.filter_cons, List.filter_cons, List.length_cons]
    have hall : (∀ c ∈ b :: l, (r x c || r c x) = true) ↔ (r x b || r b x) = true ∧ ∀ c ∈ l, (r x c || r c x) = true := by simp
    rw [hall, ← h2]
    cases hxb : r x b <;> cases hbx : r b x <;> simp [hxb, hbx] at hb ⊢ <;> omega
theorem cl_all (r : Nat → Nat → Bool) : ∀ l : List Nat, (∀ a ∈ l, r a a = false) → (∀ a ∈ l, ∀ b ∈ l, r a b = true → r b a = false) →
    2 * cl r l l + l.length ≤ l.length * l.length ∧ (2 * cl r l l + l.length = l.length * l.length ↔ l.Pairwise fun a b => (r a b || r b a) = true)
  | [], _, _ => by simp [cl]
  | x :: l, hi, ha => by
    obtain ⟨h1, h2⟩ := cl_all r l (fun a h => hi a (by simp [h])) (fun a h b h' => ha a (by simp [h]) b (by simp [h']))
    obtain ⟨h3, h4⟩ := two_way r x l (fun b hb => ha x (by simp) b (by simp [hb]))
    have e3 : ∀ m : Nat, (m + 1) * (m + 1) = m * m + 2 * m + 1 := fun m => by rw [Nat.add_mul, Nat.mul_add m m 1]; omega
    rw [cl_self r (hi x (by simp)), List.pairwise_cons, List.length_cons, e3, ← h4, ← h2]
    clear e3
    generalize l.length * l.length = q at *
    generalize (l.filter fun a => r a x).length = u at *
    generalize (l.filter (r x)).length = v at *
    generalize cl r l l = c at *
    generalize l.length = m at *
    constructor
    · omega
    · constructor
      · intro h; omega
      · rintro ⟨h5, h6⟩; omega

/-! Sets as lists of their items. -/
theorem popI_len : ∀ k : Fin 64, popI (k.val : Int) = (itemsL (k.val : Int)).length := by decide +kernel
theorem popI_items {s : Int} (h0 : 0 ≤ s) (h1 : s < 64) : popI s = (itemsL s).length := by
  obtain ⟨k, rfl⟩ := Int.eq_ofNat_of_zero_le h0
  exact popI_len ⟨k, by omega⟩
theorem itemsL_and (a s : Int) : itemsL (andI a s) = (itemsL s).filter fun j : Nat => bitB a j := by
  unfold itemsL itemsTo
  rw [List.filter_filter]
  congr 1
  funext j
  rw [bitB_and]
theorem andI_lt {a s : Int} (h0 : 0 ≤ s) (h1 : s < 64) : 0 ≤ andI a s ∧ andI a s < 64 := by
  have : a.toNat &&& s.toNat ≤ s.toNat := Nat.and_le_right
  unfold andI; omega
theorem itemsL_sorted (s : Int) : (itemsL s).Pairwise (· < ·) := by
  unfold itemsL itemsTo
  exact List.Pairwise.filter _ List.pairwise_lt_range
theorem mem_itemsL {s : Int} {j : Nat} (h1 : s < 64) : j ∈ itemsL s ↔ bitB s j = true := by
  unfold itemsL
  rw [mem_itemsTo]
  exact ⟨fun h => h.2, fun h => ⟨bitB_lt (n := 6) (by simpa [powI] using h1) h, h⟩⟩

/-- a is above b, or b above a. -/
def relB (zs : List Int) (a b : Nat) : Bool := bitB (zs[a]?.getD 0) b || bitB (zs[b]?.getD 0) a
/-- Each two items of the set are related. -/
def ChP (zs : List Int) (s : Int) : Prop := (itemsL s).Pairwise fun a b => relB zs a b = true
instance (zs : List Int) (s : Int) : Decidable (ChP zs s) := by unfold ChP; infer_instance
def chB (zs : List Int) (s : Int) : Bool := decide (ChP zs s)
/-- No item of the set has one of the set above. -/
def apB (zs : List Int) (s : Int) : Bool := (itemsL s).all fun a => andI (zs[a]?.getD 0) s == 0
/-- How many pairs are within the set, of the items that have been seen. -/
def pwL (zs : List Int) (s : Int) (l : List Nat) : Int := l.foldl (fun (t : Int) (a : Nat) => t + popI (andI (zs[a]?.getD 0) s)) 0
theorem pwL_snoc (zs : List Int) (s : Int) (l : List Nat) (a : Nat) : pwL zs s (l ++ [a]) = pwL zs s l + popI (andI (zs[a]?.getD 0) s) := by simp [pwL]
theorem pwL_bd (zs : List Int) {s : Int} (h0 : 0 ≤ s) (h1 : s < 64) (l : List Nat) : 0 ≤ pwL zs s l ∧ pwL zs s l ≤ 6 * l.length := by
  have key : ∀ (l : List Nat) (t : Int), t ≤ l.foldl (fun (t : Int) (a : Nat) => t + popI (andI (zs[a]?.getD 0) s)) t ∧ l.foldl (fun (t : Int) (a : Nat) => t + popI (andI (zs[a]?.getD 0) s)) t ≤ t + 6 * l.length := fun l => by
    induction l with
    | nil => intro t; simp
    | cons a l ih =>
      intro t
      have h2 := andI_lt (a := zs[a]?.getD 0) h0 h1
      have h3 := popI_bd h2.1 h2.2
      have h4 := ih (t + popI (andI (zs[a]?.getD 0) s))
      simp only [List.foldl_cons, List.length_cons]
      omega
  have := key l 0
  unfold pwL; omega
theorem pwL_eq (zs : List Int) {s : Int} (h0 : 0 ≤ s) (h1 : s < 64) (l : List Nat) : pwL zs s l = cl (fun a b => bitB (zs[a]?.getD 0) b) l (itemsL s) := by
  have key : ∀ (l : List Nat) (t : Int), l.foldl (fun (t : Int) (a : Nat) => t + popI (andI (zs[a]?.getD 0) s)) t = t + cl (fun a b => bitB (zs[a]?.getD 0) b) l (itemsL s) := fun l => by
    induction l with
    | nil => intro t; simp [cl]
    | cons a l ih =>
      intro t
      have h2 := andI_lt (a := zs[a]?.getD 0) h0 h1
      have h3 := popI_items h2.1 h2.2
      rw [itemsL_and] at h3
      rw [List.foldl_cons, ih, h3]
      simp only [cl, List.map_cons, List.sum_cons]
      omega
  have := key l 0
  unfold pwL; omega
theorem len_items (s : Int) : (itemsL s).length ≤ 6 := Nat.le_trans (List.length_filter_le _ _) (by simp)
theorem VoP.irrB {zs : List Int} (h : VoP zs) {a : Nat} (ha : a < zs.length) : bitB (zs[a]?.getD 0) a = false := by
  have := h.2.1 a ha
  simp [okA] at this
  exact this.2
theorem VoP.asym {zs : List Int} (h : VoP zs) {a b : Nat} (ha : a < zs.length) (hb : bitB (zs[a]?.getD 0) b = true) : bitB (zs[b]?.getD 0) a = false := by
  cases hc : bitB (zs[b]?.getD 0) a with
  | false => rfl
  | true =>
    have hbn := h.lt_n ⟨ha, hb⟩
    exact absurd (h.trans ⟨ha, hb⟩ ⟨hbn, hc⟩) h.irr
theorem pw_chain {zs : List Int} (h : VoP zs) {s : Int} (h0 : 0 ≤ s) (h1 : s < powI zs.length) : (pwL zs s (itemsL s) == (popI s * (popI s - 1)).tdiv 2) = chB zs s := by
  have hpn := powI_le6 (n := (zs.length : Int)) (by have := h.1; omega)
  have hm : ∀ a ∈ itemsL s, a < zs.length := fun a ha => bitB_lt h1 ((mem_itemsL (by omega)).1 ha)
  obtain ⟨h2, h3⟩ := cl_all (fun a b => bitB (zs[a]?.getD 0) b) (itemsL s) (fun a ha => h.irrB (hm a ha)) (fun a ha b _ hb => h.asym (hm a ha) hb)
  have h4 := len_items s
  have e : pwL zs s (itemsL s) = cl (fun a b => bitB (zs[a]?.getD 0) b) (itemsL s) (itemsL s) := pwL_eq zs h0 (by omega) _
  rw [popI_items h0 (by omega), e, Bool.eq_iff_iff, beq_iff_eq, chB, decide_eq_true_eq]
  unfold ChP relB
  rw [← h3]
  generalize cl (fun a b => bitB (zs[a]?.getD 0) b) (itemsL s) (itemsL s) = c at *
  generalize (itemsL s).length = m at *
  have : m = 0 ∨ m = 1 ∨ m = 2 ∨ m = 3 ∨ m = 4 ∨ m = 5 ∨ m = 6 := by omega
  rcases this with rfl | rfl | rfl | rfl | rfl | rfl | rfl <;> simp <;> omega
theorem pw_apart {zs : List Int} {s : Int} (h0 : 0 ≤ s) (h1 : s < 64) : (pwL zs s (itemsL s) == 0) = apB zs s := by
  have key : ∀ m : List Nat, (pwL zs s m.reverse == 0) = m.reverse.all fun a => andI (zs[a]?.getD 0) s == 0 := fun m => by
    induction m with
    | nil => rfl
    | cons a m ih =>
      rw [List.reverse_cons]
      generalize m.reverse = l at *
      have hz : ∀ k : Fin 64, (popI (k.val : Int) == 0) = ((k.val : Int) == 0) := by decide +kernel
      have h2 := andI_lt (a := zs[a]?.getD 0) h0 h1
      have h3 := popI_bd h2.1 h2.2
      have h4 := pwL_bd zs h0 h1 l
      have h5 : (popI (andI (zs[a]?.getD 0) s) == 0) = (andI (zs[a]?.getD 0) s == 0) := by
        obtain ⟨k, hk⟩ := Int.eq_ofNat_of_zero_le h2.1
        have := hz ⟨k, by omega⟩
        rw [hk]; exact this
      rw [pwL_snoc, List.all_append, ← ih, List.all_cons, List.all_nil, Bool.and_true, ← h5, Bool.eq_iff_iff]
      simp only [beq_iff_eq, Bool.and_eq_true]
      omega
  have := key (itemsL s).reverse
  rwa [List.reverse_reverse] at this
end Go.Proofs.YtmlihbcffndnbaaDoor

/- The greatest chain has as many items as the greatest height tells; chains and levels counted. No program. -/
namespace Go.Proofs.YtmlihbcffndnbaaDoor

/-- The greatest size of the sets less than k that are counted. -/
def grTo (p : Int → Bool) : Nat → Int
  | 0 => 0
  | k + 1 => if p (k : Int) then max (grTo p k) (popI (k : Int)) else grTo p k
theorem grTo_nn (p : Int → Bool) : ∀ k : Nat, 0 ≤ grTo p k
  | 0 => Int.le_refl _
  | k + 1 => by have := grTo_nn p k; unfold grTo; split <;> omega
theorem grTo_bd (p : Int → Bool) : ∀ k : Nat, k ≤ 64 → grTo p k ≤ 6
  | 0, _ => by simp [grTo]
  | k + 1, h => by
    have h1 := grTo_bd p k (by omega)
    have h2 := popI_bd (s := (k : Int)) (by omega) (by omega)
    unfold grTo; split <;> omega
theorem grTo_ge {p : Int → Bool} {j : Nat} (hp : p (j : Int) = true) : ∀ k : Nat, j < k → popI (j : Int) ≤ grTo p k
  | 0, h => by omega
  | k + 1, h => by
    rcases Nat.lt_or_ge j k with h1 | h1
    · have := grTo_ge hp k h1
      unfold grTo; split <;> omega
    · obtain rfl : j = k := by omega
      unfold grTo; rw [if_pos hp]; omega
theorem grTo_le {p : Int → Bool} {m : Int} (h0 : 0 ≤ m) : ∀ k : Nat, (∀ j : Nat, j < k → p (j : Int) = true → popI (j : Int) ≤ m) → grTo p k ≤ m
  | 0, _ => by simpa [grTo] using h0
  | k + 1, h => by
    have h1 := grTo_le h0 k (fun j hj => h j (by omega))
    unfold grTo
    split
    · rename_i hp; have := h k (by omega) hp; omega
    · exact h1

theorem pigeon1 (k : Nat) : ∀ l : List Nat, l.Pairwise (· ≠ ·) → l.length ≤ (l.filter (· != k)).length + 1
  | [], _ => by simp
  | x :: l, h => by
    rw [List.pairwise_cons] at h
    have ih := pigeon1 k l h.2
    rw [List.filter_cons]
    by_cases hx : x = k
    · subst hx
      have e : l.filter (· != x) = l := List.filter_eq_self.2 fun y hy => by simpa using (fun e => h.1 y hy e.symm : ¬ y = x)
      simp [e]
    · simp [hx]; omega
theorem pigeon : ∀ (k : Nat) (l : List Nat), l.Pairwise (· ≠ ·) → (∀ x ∈ l, x < k) → l.length ≤ k
  | 0, l, _, h => by
    cases l with
    | nil => simp
    | cons x l => have := h x (by simp); omega
  | k + 1, l, hp, h => by
    have h1 := pigeon1 k l hp
    have h2 := pigeon k (l.filter (· != k)) (hp.filter _) (fun x hx => by
      have := List.mem_filter.1 hx
      have h3 := h x this.1
      have h4 : x ≠ k := by simpa using this.2
      omega)
    omega

theorem ChP_iff {zs : List Int} {s : Int} (h1 : s < 64) : ChP zs s ↔ ∀ a b : Nat, bitB s a = true → bitB s b = true → a < b → relB zs a b = true := by
  constructor
  · intro h a b ha hb hab
    have hs := itemsL_sorted s
    obtain ⟨i, hi, rfl⟩ := List.getElem_of_mem ((mem_itemsL h1).2 ha)
    obtain ⟨j, hj, rfl⟩ := List.getElem_of_mem ((mem_itemsL h1).2 hb)
    have hij : i < j := by
      rcases Nat.lt_or_ge i j with h2 | h2
      · exact h2
      · rcases Nat.lt_or_ge j i with h3 | h3
        · have := List.pairwise_iff_getElem.1 hs j i hj hi h3; omega
        · have : i = j := by omega
          subst this; omega
    exact List.pairwise_iff_getElem.1 h i j hi hj hij
  · intro h
    exact (itemsL_sorted s).imp_of_mem fun ha hb hab => h _ _ ((mem_itemsL h1).1 ha) ((mem_itemsL h1).1 hb) hab

/-- One more than the greatest height. -/
def longI (zs : List Int) : Int := maxL (hgt zs) (List.range zs.length)
theorem longI_nn (zs : List Int) : 0 ≤ longI zs := (maxL_ge _ _).1
theorem longI_bd {zs : List Int} (h : VoP zs) : longI zs ≤ zs.length := by
  rcases maxL_eq (hgt zs) (List.range zs.length) with e | ⟨a, ha, e⟩
  · unfold longI; omega
  · have := hgt_bd h (List.mem_range.1 ha)
    unfold longI; omega
theorem longI_gt {zs : List Int} {a : Nat} (ha : a < zs.length) : hgt zs a + 1 ≤ longI zs := (maxL_ge (hgt zs) (List.range zs.length)).2 a (List.mem_range.2 ha)

theorem chain_le {zs : List Int} (h : VoP zs) {s : Int} (h0 : 0 ≤ s) (h1 : s < powI zs.length) (hc : chB zs s = true) : popI s ≤ longI zs := by
  have hpn := powI_le6 (n := (zs.length : Int)) (by have := h.1; omega)
  have hm : ∀ a ∈ itemsL s, a < zs.length := fun a ha => bitB_lt h1 ((mem_itemsL (by omega)).1 ha)
  have hC : ChP zs s := by simpa [chB] using hc
  have hp : ((itemsL s).map fun a => (hgt zs a).toNat).Pairwise (· ≠ ·) := by
    rw [List.pairwise_map]
    refine List.Pairwise.imp_of_mem ?_ hC
    intro a b ha hb hr he
    have hna := hgt_nn zs a
    have hnb := hgt_nn zs b
    simp only [relB, Bool.or_eq_true] at hr
    rcases hr with hr | hr
    · have := hgt_up h ⟨hm a ha, hr⟩; omega
    · have := hgt_up h ⟨hm b hb, hr⟩; omega
  have hk := pigeon (longI zs).toNat _ hp (fun x hx => by
    obtain ⟨a, ha, rfl⟩ := List.mem_map.1 hx
    have h2 := longI_gt (zs := zs) (hm a ha)
    have h3 := hgt_nn zs a
    show (hgt zs a).toNat < _
    omega)
  rw [List.length_map] at hk
  have := longI_nn zs
  rw [popI_items h0 (by omega)]
  omega

theorem popI_or_fin : ∀ k : Fin 64, ∀ j : Fin 6, bitB (k.val : Int) (j.val : Int) = false → popI (orI (k.val : Int) (powI (j.val : Int))) = popI (k.val : Int) + 1 := by decide +kernel
theorem popI_or {s : Int} {j : Nat} (h0 : 0 ≤ s) (h1 : s < 64) (hj : j < 6) (hb : bitB s j = false) : popI (orI s (powI j)) = popI s + 1 := by
  obtain ⟨k, rfl⟩ := Int.eq_ofNat_of_zero_le h0
  exact popI_or_fin ⟨k, by omega⟩ ⟨j, hj⟩ hb
theorem popI_pow_fin : ∀ j : Fin 6, popI (powI (j.val : Int)) = 1 := by decide +kernel

/-- Under each item there is a chain as long as its height tells. -/
theorem chain_ex {zs : List Int} (h : VoP zs) : ∀ (m b : Nat), b < zs.length → hgt zs b = m →
    ∃ s, 0 ≤ s ∧ s < powI zs.length ∧ ChP zs s ∧ popI s = m + 1 ∧ (∀ c : Nat, bitB s c = true → c = b ∨ lt zs c b)
  | 0, b, hb, hm => by
    have h6 := h.1
    refine ⟨powI b, Int.le_of_lt (powI_pos _), powI_lt hb, ?_, by have := popI_pow_fin ⟨b, by omega⟩; simpa using this, fun c hc => ?_⟩
    · have hp6 := powI_lt (k := b) (n := 6) (by omega)
      rw [ChP_iff (by simpa [powI] using hp6)]
      intro a c ha hc hac
      rw [bitB_pow] at ha hc
      have := of_decide_eq_true ha
      have := of_decide_eq_true hc
      omega
    · rw [bitB_pow] at hc
      exact .inl (of_decide_eq_true hc).symm
  | m + 1, b, hb, hm => by
    have h6 := h.1
    have hpn := powI_le6 (n := (zs.length : Int)) (by omega)
    rcases hgt_eq h hb with e | ⟨a, hl, e⟩
    · omega
    · obtain ⟨s, hs0, hs1, hC, hp, hall⟩ := chain_ex h m a hl.1 (by omega)
      have hnb : bitB s b = false := by
        cases hc : bitB s b with
        | false => rfl
        | true =>
          rcases hall b hc with rfl | h2
          · exact absurd hl h.irr
          · exact absurd (h.trans hl h2) h.irr
      have hlb : ∀ c : Nat, bitB s c = true → lt zs c b := fun c hc => by
        rcases hall c hc with rfl | h2
        · exact hl
        · exact h.trans h2 hl
      have hob := orI_bd (n := (zs.length : Int)) hs0 hs1 (Int.le_of_lt (powI_pos _)) (powI_lt hb)
      refine ⟨orI s (powI b), hob.1, hob.2, ?_, by rw [popI_or hs0 (by omega) (by omega) hnb, hp]; omega, fun c hc => ?_⟩
      · rw [ChP_iff (by omega)]
        intro x y hx hy hxy
        rw [bitB_or, bitB_pow] at hx hy
        simp only [Bool.or_eq_true, decide_eq_true_eq] at hx hy
        unfold relB
        rcases hx with hx | rfl <;> rcases hy with hy | rfl
        · exact (ChP_iff (by omega)).1 hC x y hx hy hxy
        · simp [(hlb x hx).2]
        · simp [(hlb y hy).2]
        · omega
      · rw [bitB_or, bitB_pow] at hc
        simp only [Bool.or_eq_true, decide_eq_true_eq] at hc
        rcases hc with hc | rfl
        · exact .inr (hlb c hc)
        · exact .inl rfl

/-- How many sets there are. -/
def setsN (zs : List Int) : Nat := 2 ^ zs.length
theorem setsN_pow (zs : List Int) : powI zs.length = (setsN zs : Int) := by simp [powI, setsN]
theorem gr_long {zs : List Int} (h : VoP zs) : grTo (chB zs) (setsN zs) = longI zs := by
  have hN := setsN_pow zs
  have hle : grTo (chB zs) (setsN zs) ≤ longI zs := grTo_le (longI_nn zs) _ (fun j hj hp => chain_le h (by omega) (by omega) hp)
  have hge : longI zs ≤ grTo (chB zs) (setsN zs) := by
    rcases maxL_eq (hgt zs) (List.range zs.length) with e | ⟨a, ha, e⟩
    · have := grTo_nn (chB zs) (setsN zs); unfold longI; omega
    · have hnn := hgt_nn zs a
      obtain ⟨s, hs0, hs1, hC, hp, -⟩ := chain_ex h (hgt zs a).toNat a (List.mem_range.1 ha) (by omega)
      obtain ⟨k, rfl⟩ := Int.eq_ofNat_of_zero_le hs0
      have := grTo_ge (p := chB zs) (j := k) (by simpa [chB] using hC) (setsN zs) (by omega)
      unfold longI; omega
  omega

/-- How many of the sets less than k of each size are counted. -/
def cntTo (p : Int → Bool) (len : Nat) : Nat → List Int
  | 0 => List.replicate len 0
  | k + 1 => if p (k : Int) then (cntTo p len k).set (popI (k : Int)).toNat ((cntTo p len k)[(popI (k : Int)).toNat]?.getD 0 + 1) else cntTo p len k
theorem cntTo_len (p : Int → Bool) (len : Nat) : ∀ k : Nat, (cntTo p len k).length = len
  | 0 => by simp [cntTo]
  | k + 1 => by unfold cntTo; split <;> simp [cntTo_len p len k]
theorem cntTo_bd (p : Int → Bool) (len : Nat) : ∀ (k i : Nat), 0 ≤ (cntTo p len k)[i]?.getD 0 ∧ (cntTo p len k)[i]?.getD 0 ≤ k
  | 0, i => by
    have : (List.replicate len (0 : Int))[i]?.getD 0 = 0 := by by_cases h : i < len <;> simp [h]
    simp [cntTo, this]
  | k + 1, i => by
    have h1 := cntTo_bd p len k i
    have h2 := cntTo_bd p len k (popI (k : Int)).toNat
    unfold cntTo
    split
    · by_cases hi : (popI (k : Int)).toNat = i
      · subst hi
        by_cases hl : (popI (k : Int)).toNat < (cntTo p len k).length
        · rw [List.getElem?_set_self hl]; simp only [Option.getD_some]; omega
        · rw [List.set_eq_of_length_le (by omega)]; omega
      · rw [List.getElem?_set_ne hi]; omega
    · omega
theorem cntTo_take (p : Int → Bool) {len m : Nat} (hm : m ≤ len) : ∀ k : Nat, (∀ j : Nat, j < k → p (j : Int) = true → (popI (j : Int)).toNat < m) → (cntTo p len k).take m = cntTo p m k
  | 0, _ => by simp [cntTo, List.take_replicate, hm]
  | k + 1, h => by
    have ih := cntTo_take p hm k (fun j hj => h j (by omega))
    unfold cntTo
    split
    · rename_i hp
      have hlt := h k (by omega) hp
      rw [List.take_set, ih, ← ih, List.getElem?_take_of_lt hlt]
    · exact ih
/-- How many chains of each size there are. -/
def chainsR (zs : List Int) : List Int := if vo zs then cntTo (chB zs) ((longI zs).toNat + 1) (setsN zs) else []
theorem chains_take {zs : List Int} (h : VoP zs) : (cntTo (chB zs) (zs.length + 1) (setsN zs)).take ((longI zs).toNat + 1) = cntTo (chB zs) ((longI zs).toNat + 1) (setsN zs) := by
  have hN := setsN_pow zs
  have hb := longI_bd h
  have hn := longI_nn zs
  exact cntTo_take _ (by omega) _ (fun j hj hp => by
    have := chain_le h (s := (j : Int)) (by omega) (by omega) hp
    omega)

/-- The items less than k of each height. -/
def lvTo (zs : List Int) : Nat → List Int
  | 0 => List.replicate (longI zs).toNat 0
  | k + 1 => (lvTo zs k).set (hgt zs k).toNat (orI ((lvTo zs k)[(hgt zs k).toNat]?.getD 0) (powI k))
theorem lvTo_len (zs : List Int) : ∀ k : Nat, (lvTo zs k).length = (longI zs).toNat
  | 0 => by simp [lvTo]
  | k + 1 => by simp [lvTo, lvTo_len zs k]
theorem lvTo_bd (zs : List Int) : ∀ (k i : Nat), 0 ≤ (lvTo zs k)[i]?.getD 0 ∧ (lvTo zs k)[i]?.getD 0 < powI k
  | 0, i => by
    have : (List.replicate (longI zs).toNat (0 : Int))[i]?.getD 0 = 0 := by by_cases h : i < (longI zs).toNat <;> simp [h]
    simp [lvTo, this, powI]
  | k + 1, i => by
    have h1 := lvTo_bd zs k i
    have h2 := lvTo_bd zs k (hgt zs k).toNat
    have hp : powI (k : Int) < powI ((k + 1 : Nat) : Int) := powI_lt (by omega)
    unfold lvTo
    by_cases hi : (hgt zs k).toNat = i
    · subst hi
      by_cases hl : (hgt zs k).toNat < (lvTo zs k).length
      · rw [List.getElem?_set_self hl]
        exact orI_bd h2.1 (by omega) (Int.le_of_lt (powI_pos _)) hp
      · rw [List.set_eq_of_length_le (by omega)]; omega
    · rw [List.getElem?_set_ne hi]; omega
def levelsR (zs : List Int) : List Int := if vo zs then lvTo zs zs.length else []
end Go.Proofs.YtmlihbcffndnbaaDoor

/- The order turned round, as plain mathematics: chains, sets apart and pairs of it are as many. No program. -/
namespace Go.Proofs.YtmlihbcffndnbaaDoor

/-- The order turned round. -/
def du (zs : List Int) : List Int := downP zs.length (pairsL zs)
theorem du_len (zs : List Int) : (du zs).length = zs.length := downP_len _ _
theorem du_bit {zs : List Int} (h : Sets zs) (a b : Nat) : bitB ((du zs)[b]?.getD 0) a = bitB (zs[a]?.getD 0) b := by
  have hn : ∀ p ∈ pairsL zs, p.2 < zs.length := fun p hp => (h.pair (a := p.1) (b := p.2) hp).2.1
  have key : bitB ((du zs)[b]?.getD 0) a = true ↔ bitB (zs[a]?.getD 0) b = true := by
    unfold du
    rw [downP_bit hn, mem_pairsL]
    constructor
    · exact fun e => e.2.2
    · intro e
      have ha : a < zs.length := by
        rcases Nat.lt_or_ge a zs.length with h1 | h1
        · exact h1
        · rw [List.getElem?_eq_none (by omega), Option.getD_none, bitB_zero] at e; cases e
      have hb := bitB_lt (h.2 a ha).2 e
      have := h.1
      exact ⟨ha, by omega, e⟩
  cases h1 : bitB ((du zs)[b]?.getD 0) a <;> cases h2 : bitB (zs[a]?.getD 0) b <;> simp_all
theorem du_sets {zs : List Int} (h : Sets zs) : Sets (du zs) := down_sets h
theorem du_lt {zs : List Int} (h : VoP zs) (a b : Nat) : lt (du zs) b a ↔ lt zs a b := by
  unfold lt
  rw [du_bit h.sets, du_len]
  constructor
  · rintro ⟨_, e⟩
    refine ⟨?_, e⟩
    rcases Nat.lt_or_ge a zs.length with h1 | h1
    · exact h1
    · rw [List.getElem?_eq_none (by omega), Option.getD_none, bitB_zero] at e; cases e
  · rintro ⟨ha, e⟩
    exact ⟨bitB_lt (h.sets.2 a ha).2 e, e⟩
theorem du_vo {zs : List Int} (h : VoP zs) : VoP (du zs) := by
  have hs := du_sets h.sets
  refine ⟨hs.1, fun a ha => ?_, fun a ha b hb => ?_⟩
  · have h1 := hs.2 a ha
    have h2 : bitB ((du zs)[a]?.getD 0) a = false := by
      rw [du_bit h.sets]
      cases e : bitB (zs[a]?.getD 0) a
      · rfl
      · exact absurd ⟨by rw [du_len] at ha; exact ha, e⟩ (h.irr (a := a))
    unfold okA inB
    rw [h2]
    simp only [Bool.not_false, Bool.and_true, decide_eq_true_eq]
    omega
  · unfold okP
    cases e : bitB ((du zs)[a]?.getD 0) b
    · rfl
    · have hab : lt zs b a := (du_lt h b a).1 ⟨ha, e⟩
      have h1 : lessI ((du zs)[b]?.getD 0) ((du zs)[a]?.getD 0) = 0 := by
        refine bitB_ext (lessI_bd _ _).1 (Int.le_refl _) fun j => ?_
        rw [bitB_less, bitB_zero]
        cases e1 : bitB ((du zs)[b]?.getD 0) j
        · rfl
        · have hjb := (du_lt h j b).1 ⟨hb, e1⟩
          have := ((du_lt h j a).2 (h.trans hjb hab)).2
          rw [this]; rfl
      have h2 : bitB ((du zs)[b]?.getD 0) a = false := by
        cases e2 : bitB ((du zs)[b]?.getD 0) a
        · rfl
        · exact absurd (h.trans hab ((du_lt h a b).1 ⟨hb, e2⟩)) h.irr
      rw [h1, h2]; rfl
theorem du_du {zs : List Int} (h : VoP zs) : du (du zs) = zs := by
  have hl : (du (du zs)).length = zs.length := by rw [du_len, du_len]
  refine List.ext_getElem hl fun j h1 h2 => ?_
  have e1 := (du_vo (du_vo h)).bd j h1
  have e2 := h.bd j h2
  have hb : ∀ k : Nat, bitB ((du (du zs))[j]?.getD 0) k = bitB (zs[j]?.getD 0) k := fun k => by rw [du_bit (du_vo h).sets, du_bit h.sets]
  have := bitB_ext e1.1 e2.1 hb
  rwa [List.getElem?_eq_getElem h1, List.getElem?_eq_getElem h2, Option.getD_some, Option.getD_some] at this

theorem du_rel {zs : List Int} (h : Sets zs) (a b : Nat) : relB (du zs) a b = relB zs a b := by
  unfold relB
  rw [du_bit h, du_bit h, Bool.or_comm]
theorem du_chB {zs : List Int} (h : Sets zs) (s : Int) : chB (du zs) s = chB zs s := by
  unfold chB ChP
  have : (fun a b => relB (du zs) a b = true) = fun a b => relB zs a b = true := by funext a b; rw [du_rel h]
  simp only [this]
theorem du_chBf {zs : List Int} (h : Sets zs) : chB (du zs) = chB zs := funext fun s => du_chB h s
theorem andI_zero {z s : Int} : andI z s = 0 ↔ ∀ b : Nat, bitB s b = true → bitB z b = false := by
  constructor
  · intro e b hb
    have := bitB_and z s b
    rw [e, bitB_zero, hb] at this
    simpa using this.symm
  · intro e
    refine bitB_ext (by unfold andI; omega) (Int.le_refl _) fun j => ?_
    rw [bitB_and, bitB_zero]
    cases e1 : bitB s j
    · simp
    · rw [e j e1]; rfl
theorem apB_iff {zs : List Int} {s : Int} (h1 : s < 64) : apB zs s = true ↔ ∀ a b : Nat, bitB s a = true → bitB s b = true → bitB (zs[a]?.getD 0) b = false := by
  unfold apB
  rw [List.all_eq_true]
  constructor
  · intro e a b ha hb
    have := e a ((mem_itemsL h1).2 ha)
    exact andI_zero.1 (by simpa using this) b hb
  · intro e a ha
    have := (andI_zero (z := zs[a]?.getD 0)).2 (fun b hb => e a b ((mem_itemsL h1).1 ha) hb)
    simpa using this
theorem du_apB {zs : List Int} (h : Sets zs) {s : Int} (h1 : s < 64) : apB (du zs) s = apB zs s := by
  have key : apB (du zs) s = true ↔ apB zs s = true := by
    rw [apB_iff h1, apB_iff h1]
    constructor
    · intro e a b ha hb
      have := e b a hb ha
      rwa [du_bit h] at this
    · intro e a b ha hb
      rw [du_bit h]
      exact e b a hb ha
  cases e1 : apB (du zs) s <;> cases e2 : apB zs s <;> simp_all
theorem grTo_congr {p q : Int → Bool} : ∀ k : Nat, (∀ j : Nat, j < k → p (j : Int) = q (j : Int)) → grTo p k = grTo q k
  | 0, _ => rfl
  | k + 1, h => by
    unfold grTo
    rw [h k (by omega), grTo_congr k fun j hj => h j (by omega)]
theorem setsN_le {zs : List Int} (h : zs.length ≤ 6) : setsN zs ≤ 64 := Nat.pow_le_pow_right (n := 2) (by decide) h
theorem du_setsN (zs : List Int) : setsN (du zs) = setsN zs := by unfold setsN; rw [du_len]
theorem du_wide {zs : List Int} (h : VoP zs) : grTo (apB (du zs)) (setsN zs) = grTo (apB zs) (setsN zs) :=
  grTo_congr _ fun j hj => du_apB h.sets (by have := setsN_le h.1; omega)
theorem du_long {zs : List Int} (h : VoP zs) : longI (du zs) = longI zs := by
  rw [← gr_long (du_vo h), ← gr_long h, du_chBf h.sets, du_setsN]

/-! Pairs. -/
theorem cl_flip (r : Nat → Nat → Bool) : ∀ l : List Nat, (∀ a ∈ l, r a a = false) → cl (fun a b => r b a) l l = cl r l l
  | [], _ => rfl
  | x :: l, h => by
    have h1 := cl_self r (x := x) (l := l) (h x (by simp))
    have h2 : cl (fun a b => r b a) (x :: l) (x :: l) = (l.filter fun a => r a x).length + (l.filter (r x)).length + cl (fun a b => r b a) l l := cl_self (fun a b => r b a) (x := x) (h x (by simp))
    rw [h1, h2, cl_flip r l fun a ha => h a (by simp [ha])]
    omega
/-- b is above a. -/
def upB (zs : List Int) (a b : Nat) : Bool := bitB (zs[a]?.getD 0) b
/-- How many pairs an order has, as mathematics. -/
def prs (zs : List Int) : Nat := cl (upB zs) (List.range zs.length) (List.range zs.length)
theorem popTo_cl {zs : List Int} (h : Sets zs) : ∀ k : Nat, k ≤ zs.length → popTo zs k = cl (upB zs) (List.range k) (List.range zs.length)
  | 0, _ => rfl
  | k + 1, hk => by
    have hb := h.bd k (by omega)
    unfold popTo
    rw [popTo_cl h k (by omega), popI_items hb.1 hb.2, ← itemsTo_all (h.2 k (by omega)).2 h.1]
    unfold cl
    rw [List.range_succ, List.map_append, List.sum_append]
    simp [itemsTo]
    rfl
theorem popTo_prs {zs : List Int} (h : Sets zs) : popTo zs zs.length = prs zs := popTo_cl h _ (Nat.le_refl _)
theorem du_prs {zs : List Int} (h : VoP zs) : prs (du zs) = prs zs := by
  unfold prs
  rw [du_len]
  have : upB (du zs) = fun a b : Nat => upB zs b a := by funext a b; unfold upB; rw [du_bit h.sets]
  rw [this]
  exact cl_flip (upB zs) _ fun a ha => h.irrB (List.mem_range.1 ha)
theorem prs_bd {zs : List Int} (h : VoP zs) : 2 * prs zs + zs.length ≤ zs.length * zs.length := by
  have := (cl_all (upB zs) (List.range zs.length) (fun a ha => h.irrB (List.mem_range.1 ha)) (fun a ha b _ e => h.asym (List.mem_range.1 ha) e)).1
  simpa [prs] using this
theorem prs_none {zs : List Int} (h : VoP zs) (hl : longI zs ≤ 1) : prs zs = 0 := by
  have hno : ∀ a b : Nat, ¬ lt zs a b := fun a b e => by
    have h1 := hgt_up h e
    have h2 := hgt_nn zs a
    have h3 := longI_gt (zs := zs) (h.lt_n e)
    omega
  unfold prs cl
  rw [List.map_congr_left (g := fun _ => 0)]
  · generalize List.range zs.length = l
    induction l with
    | nil => rfl
    | cons x l ih => simpa using ih
  · intro a ha
    rw [List.length_eq_zero_iff, List.filter_eq_nil_iff]
    intro b _ e
    exact hno a b ⟨List.mem_range.1 ha, e⟩

/-! Chains of none, of one and of two items. -/
theorem cnt_get (p : Int → Bool) {len m : Nat} (hm : m < len) : ∀ k : Nat, (cntTo p len k)[m]?.getD 0 = (((List.range k).filter fun j : Nat => p (j : Int) && (popI (j : Int)).toNat == m).length : Int)
  | 0 => by simp [cntTo, hm]
  | k + 1 => by
    have ih := cnt_get p hm k
    rw [List.range_succ, List.filter_append, List.length_append]
    have hl := cntTo_len p len k
    unfold cntTo
    cases hp : p (k : Int)
    · simp [hp, ih]
    · by_cases he : (popI (k : Int)).toNat = m
      · simp [hp, he]
        rw [List.getElem?_eq_getElem (by omega)] at ih
        rw [List.getElem?_set_self (by omega), Option.getD_some, List.getElem?_eq_getElem (by omega), Option.getD_some]
        simp only [Option.getD_some] at ih
        rw [ih]
      · simp [hp, he, ih]
def twos (n : Nat) : List Nat := (List.range n).flatMap fun b => (List.range b).map fun a => 2 ^ a + 2 ^ b
theorem twos_fin : ∀ n : Fin 7, (List.range (2 ^ n.val)).filter (fun j : Nat => (popI (j : Int)).toNat == 2) = twos n.val := by decide +kernel
theorem ones_fin : ∀ n : Fin 7, (List.range (2 ^ n.val)).filter (fun j : Nat => (popI (j : Int)).toNat == 1) = (List.range n.val).map fun a => 2 ^ a := by decide +kernel
theorem noes_fin : ∀ n : Fin 7, (List.range (2 ^ n.val)).filter (fun j : Nat => (popI (j : Int)).toNat == 0) = [0] := by decide +kernel
theorem two_items : ∀ b : Fin 6, ∀ a : Fin b.val, itemsL ((2 ^ a.val + 2 ^ b.val : Nat) : Int) = [a.val, b.val] := by decide +kernel
theorem one_items : ∀ b : Fin 6, itemsL ((2 ^ b.val : Nat) : Int) = [b.val] := by decide +kernel
theorem chB_two (zs : List Int) {a b : Nat} (hab : a < b) (hb : b < 6) : chB zs ((2 ^ a + 2 ^ b : Nat) : Int) = relB zs a b := by
  have h : ChP zs ((2 ^ a + 2 ^ b : Nat) : Int) ↔ relB zs a b = true := by
    unfold ChP
    rw [two_items ⟨b, hb⟩ ⟨a, hab⟩]
    simp
  unfold chB
  cases hr : relB zs a b
  · exact decide_eq_false fun e => by rw [h.1 e] at hr; cases hr
  · exact decide_eq_true (h.2 hr)
theorem chB_one (zs : List Int) {b : Nat} (hb : b < 6) : chB zs ((2 ^ b : Nat) : Int) = true := by
  refine decide_eq_true ?_
  unfold ChP
  rw [one_items ⟨b, hb⟩]
  simp
theorem chB_none (zs : List Int) : chB zs ((0 : Nat) : Int) = true := by
  have : itemsL ((0 : Nat) : Int) = [] := by decide
  refine decide_eq_true ?_
  unfold ChP
  rw [this]
  simp
theorem filter_and {α : Type} (p q : α → Bool) (l : List α) : l.filter (fun j => p j && q j) = (l.filter q).filter p := by rw [List.filter_filter]
theorem or_len (u v : Nat → Bool) : ∀ l : List Nat, (∀ a ∈ l, u a = true → v a = false) → (l.filter fun a => u a || v a).length = (l.filter u).length + (l.filter v).length
  | [], _ => rfl
  | a :: l, h => by
    have ih := or_len u v l fun b hb => h b (by simp [hb])
    have ha := h a (by simp)
    simp only [List.filter_cons]
    cases hu : u a <;> cases hv : v a <;> simp [hu, hv] at ha ⊢ <;> omega
theorem cl_range (r : Nat → Nat → Bool) : ∀ n : Nat, (∀ a, a < n → r a a = false) → cl r (List.range (n + 1)) (List.range (n + 1)) = cl r (List.range n) (List.range n) + ((List.range n).filter (r n)).length + ((List.range n).filter fun a => r a n).length + (if r n n then 1 else 0) := fun n _ => by
  unfold cl
  rw [List.range_succ, List.map_append, List.sum_append]
  have e : ∀ l : List Nat, (l.map fun a => ((List.range n ++ [n]).filter (r a)).length).sum = (l.map fun a => ((List.range n).filter (r a)).length).sum + (l.filter fun a => r a n).length := fun l => by
    induction l with
    | nil => rfl
    | cons a l ih =>
      rw [List.map_cons, List.sum_cons, ih, List.map_cons, List.sum_cons, List.filter_append, List.length_append, List.filter_cons (xs := l)]
      cases h : r a n <;> simp [h] <;> omega
  rw [e]
  cases h : r n n <;> simp [h, List.filter_append] <;> omega
theorem twos_chain {zs : List Int} (h : VoP zs) : ∀ n : Nat, n ≤ zs.length → ((twos n).filter fun j : Nat => chB zs (j : Int)).length = cl (upB zs) (List.range n) (List.range n)
  | 0, _ => rfl
  | n + 1, hn => by
    have h6 := h.1
    have ih := twos_chain h n (by omega)
    rw [cl_range (upB zs) n (fun a ha => h.irrB (show a < zs.length by omega)), ← ih]
    have e1 : twos (n + 1) = twos n ++ (List.range n).map fun a => 2 ^ a + 2 ^ n := by simp [twos, List.range_succ]
    rw [e1, List.filter_append, List.length_append, List.filter_map, List.length_map]
    have e2 : (List.range n).filter ((fun j : Nat => chB zs (j : Int)) ∘ fun a => 2 ^ a + 2 ^ n) = (List.range n).filter fun a => upB zs n a || upB zs a n := by
      refine List.filter_congr fun a ha => ?_
      have := chB_two zs (List.mem_range.1 ha) (show n < 6 by omega)
      simp only [Function.comp]
      rw [this]
      unfold relB upB
      rw [Bool.or_comm]
    have e3 : upB zs n n = false := h.irrB (show n < zs.length by omega)
    rw [e2, or_len (upB zs n) (fun a => upB zs a n) _ (fun a _ e => h.asym (show n < zs.length by omega) e), e3]
    simp
    omega
theorem chains_two {zs : List Int} (h : VoP zs) (hl : 2 ≤ longI zs) : (chainsR zs)[2]?.getD 0 = (prs zs : Int) := by
  have hn := h.1
  unfold chainsR
  rw [vo_true h]
  simp only [if_true]
  rw [cnt_get (chB zs) (len := (longI zs).toNat + 1) (m := 2) (by omega)]
  rw [filter_and (fun j : Nat => chB zs (j : Int)) (fun j : Nat => (popI (j : Int)).toNat == 2)]
  unfold setsN
  rw [twos_fin ⟨zs.length, by omega⟩, twos_chain h _ (Nat.le_refl _)]
  rfl
theorem chains_one {zs : List Int} (h : VoP zs) (hl : 1 ≤ longI zs) : (chainsR zs)[1]?.getD 0 = (zs.length : Int) := by
  have hn := h.1
  unfold chainsR
  rw [vo_true h]
  simp only [if_true]
  rw [cnt_get (chB zs) (len := (longI zs).toNat + 1) (m := 1) (by omega)]
  rw [filter_and (fun j : Nat => chB zs (j : Int)) (fun j : Nat => (popI (j : Int)).toNat == 1)]
  unfold setsN
  rw [ones_fin ⟨zs.length, by omega⟩, List.filter_map, List.length_map, List.filter_eq_self.2]
  · simp
  · intro a ha
    exact chB_one zs (by have := List.mem_range.1 ha; omega)
theorem chains_none {zs : List Int} (h : VoP zs) : (chainsR zs)[0]?.getD 0 = 1 := by
  have hn := h.1
  unfold chainsR
  rw [vo_true h]
  simp only [if_true]
  rw [cnt_get (chB zs) (len := (longI zs).toNat + 1) (m := 0) (by omega)]
  rw [filter_and (fun j : Nat => chB zs (j : Int)) (fun j : Nat => (popI (j : Int)).toNat == 0)]
  unfold setsN
  rw [noes_fin ⟨zs.length, by omega⟩, List.filter_cons, if_pos (chB_none zs)]
  rfl
theorem chains_len {zs : List Int} (h : VoP zs) : (chainsR zs).length = (longI zs).toNat + 1 := by
  unfold chainsR
  rw [vo_true h]
  simp [cntTo_len]
theorem du_chains {zs : List Int} (h : VoP zs) : chainsR (du zs) = chainsR zs := by
  unfold chainsR
  rw [vo_true h, vo_true (du_vo h), du_long h, du_chBf h.sets, du_setsN]
theorem long_pos {zs : List Int} (h : zs.length ≠ 0) : 1 ≤ longI zs := by
  have h1 := longI_gt (zs := zs) (a := 0) (by omega)
  have h2 := hgt_nn zs 0
  omega
end Go.Proofs.YtmlihbcffndnbaaDoor

/- Sets that part all items, as the laws see them. -/
namespace Go.Proofs.YtmlihbcffndnbaaDoor
open Go.RowKit Go.Shelf

/-- All items of the first k sets. -/
def seenTo (xs : List Int) : Nat → Int
  | 0 => 0
  | k + 1 => orI (seenTo xs k) (xs[k]?.getD 0)
theorem seenTo_bit (xs : List Int) (j : Nat) : ∀ k : Nat, bitB (seenTo xs k) j = true ↔ ∃ i, i < k ∧ bitB (xs[i]?.getD 0) j = true
  | 0 => by simp [seenTo, bitB_zero]
  | k + 1 => by
    unfold seenTo
    rw [bitB_or, Bool.or_eq_true, seenTo_bit xs j k]
    constructor
    · rintro (⟨i, hi, e⟩ | e)
      · exact ⟨i, by omega, e⟩
      · exact ⟨k, by omega, e⟩
    · rintro ⟨i, hi, e⟩
      by_cases hik : i = k
      · subst hik; exact .inr e
      · exact .inl ⟨i, by omega, e⟩
theorem seenTo_bd {xs : List Int} {n : Nat} (h : ∀ i, i < xs.length → 0 ≤ xs[i]?.getD 0 ∧ xs[i]?.getD 0 < powI n) : ∀ k : Nat, k ≤ xs.length → 0 ≤ seenTo xs k ∧ seenTo xs k < powI n
  | 0, _ => ⟨Int.le_refl _, powI_pos _⟩
  | k + 1, hk => by
    have h1 := seenTo_bd h k (by omega)
    have h2 := h k (by omega)
    exact orI_bd h1.1 h1.2 h2.1 h2.2
/-- Each item is in just one of the sets. -/
structure PartsOk (xs : List Int) (n : Nat) : Prop where
  n6 : n ≤ 6
  bd : ∀ i, i < xs.length → 0 ≤ xs[i]?.getD 0 ∧ xs[i]?.getD 0 < powI n
  apart : ∀ i k j : Nat, i < k → k < xs.length → bitB (xs[i]?.getD 0) j = true → bitB (xs[k]?.getD 0) j = true → False
  all : ∀ j : Nat, j < n → ∃ i, i < xs.length ∧ bitB (xs[i]?.getD 0) j = true
theorem all_bits {n : Nat} : ∀ j : Nat, bitB (powI n - 1) j = decide (j < n) := fun j => by
  have e : (powI (n : Int) - 1).toNat = 2 ^ n - 1 := by
    have : powI (n : Int) = ((2 ^ n : Nat) : Int) := by simp [powI]
    omega
  simp [bitB, e, Nat.testBit_two_pow_sub_one]
theorem PartsOk.seen {xs : List Int} {n : Nat} (h : PartsOk xs n) : seenTo xs xs.length = powI n - 1 := by
  have hb := seenTo_bd h.bd xs.length (Nat.le_refl _)
  have hp := powI_pos (n : Int)
  refine bitB_ext hb.1 (by omega) fun j => ?_
  rw [all_bits]
  by_cases hj : j < n
  · have := (seenTo_bit xs j xs.length).2 (h.all j hj)
    rw [this]; simp [hj]
  · cases e : bitB (seenTo xs xs.length) j
    · simp [hj]
    · exact absurd (bitB_lt hb.2 e) hj
theorem PartsOk.no {xs : List Int} {n k : Nat} (h : PartsOk xs n) (hk : k < xs.length) : andI (seenTo xs k) (xs[k]?.getD 0) = 0 := by
  refine bitB_ext (andI_bd _ _).1 (Int.le_refl _) fun j => ?_
  rw [bitB_and, bitB_zero]
  cases e : bitB (seenTo xs k) j
  · rfl
  · cases e2 : bitB (xs[k]?.getD 0) j
    · rfl
    · obtain ⟨i, hi, hb⟩ := (seenTo_bit xs j k).1 e
      exact (h.apart i k j hi hk hb e2).elim

end Go.Proofs.YtmlihbcffndnbaaDoor

/- The model's test of sets. -/
namespace Go.Proofs.YtmlihbcffndnbaaDoor
open Go.RowKit Go.Shelf
attribute [local go_sem] Oper.semAt_some
attribute [local go_sem, local simp] wide_fn
end Go.Proofs.YtmlihbcffndnbaaDoor

/- Tops: words, the model's helper and the program's. -/
namespace Go.Proofs.YtmlihbcffndnbaaDoor
open Go.RowKit Go.Shelf
attribute [local go_sem] Oper.semAt_some
attribute [local go_sem, local simp] wide_fn

/-- The items of s less than k above which there is none of s. -/
def topsTo (zs : List Int) (s : Int) : Nat → Int
  | 0 => 0
  | k + 1 => if bitB s k && andI (zs[k]?.getD 0) s == 0 then orI (topsTo zs s k) (powI k) else topsTo zs s k
theorem topsTo_bd (zs : List Int) (s : Int) : ∀ k : Nat, 0 ≤ topsTo zs s k ∧ topsTo zs s k < powI k
  | 0 => by simp [topsTo, powI]
  | k + 1 => by
    have h := topsTo_bd zs s k
    have hp : powI (k : Int) < powI ((k + 1 : Nat) : Int) := powI_lt (by omega)
    unfold topsTo
    split
    · exact orI_bd h.1 (by omega) (Int.le_of_lt (powI_pos _)) hp
    · omega
theorem topsTo_yes {zs : List Int} {s : Int} {k : Nat} (h : bitB s k = true) (h2 : (andI (zs[k]?.getD 0) s == 0) = true) : topsTo zs s (k + 1) = orI (topsTo zs s k) (powI k) := by simp [topsTo, h, h2]
theorem topsTo_no {zs : List Int} {s : Int} {k : Nat} (h : bitB s k = false ∨ (andI (zs[k]?.getD 0) s == 0) = false) : topsTo zs s (k + 1) = topsTo zs s k := by
  rcases h with h | h <;> simp [topsTo, h]
def topsR (zs : List Int) (s : Int) : Int := if vo zs && inB s 0 (powI zs.length - 1) then topsTo zs s zs.length else -1

theorem topsTo_bit {zs : List Int} {s : Int} (j : Nat) : ∀ k : Nat, bitB (topsTo zs s k) j = true ↔ j < k ∧ bitB s j = true ∧ andI (zs[j]?.getD 0) s = 0
  | 0 => by simp [topsTo, bitB_zero]
  | k + 1 => by
    have ih := topsTo_bit (zs := zs) (s := s) j k
    cases hc : (bitB s k && andI (zs[k]?.getD 0) s == 0)
    · have e : topsTo zs s (k + 1) = topsTo zs s k := by simp only [topsTo]; rw [hc]; rfl
      rw [e, ih]
      constructor
      · rintro ⟨h1, h2⟩; exact ⟨by omega, h2⟩
      · rintro ⟨h1, h2, h3⟩
        refine ⟨?_, h2, h3⟩
        by_cases hjk : j = k
        · subst hjk; rw [h2, h3] at hc; cases hc
        · omega
    · have e : topsTo zs s (k + 1) = orI (topsTo zs s k) (powI k) := by simp only [topsTo]; rw [hc]; rfl
      rw [Bool.and_eq_true] at hc
      rw [e, bitB_or, bitB_pow, Bool.or_eq_true, ih, decide_eq_true_eq]
      constructor
      · rintro (⟨h1, h2⟩ | rfl)
        · exact ⟨by omega, h2⟩
        · exact ⟨by omega, hc.1, by simpa using hc.2⟩
      · rintro ⟨h1, h2⟩
        by_cases hjk : k = j
        · exact .inr hjk
        · exact .inl ⟨by omega, h2⟩
/-- What has been gathered when the items of a list are over. -/
def topsL (zs : List Int) (s : Int) (l : List Nat) : Int := l.foldl (fun (t : Int) (i : Nat) => if andI (zs[i]?.getD 0) s == 0 then orI t (powI i) else t) 0
theorem topsL_yes {zs : List Int} {s : Int} {l : List Nat} {i : Nat} (h : (andI (zs[i]?.getD 0) s == 0) = true) : topsL zs s (l ++ [i]) = orI (topsL zs s l) (powI i) := by
  have h' : andI (zs[i]?.getD 0) s = 0 := by simpa using h
  simp [topsL, h']
theorem topsL_no {zs : List Int} {s : Int} {l : List Nat} {i : Nat} (h : (andI (zs[i]?.getD 0) s == 0) = false) : topsL zs s (l ++ [i]) = topsL zs s l := by
  have h' : ¬ andI (zs[i]?.getD 0) s = 0 := by simpa using h
  simp [topsL, h']
theorem topsL_to (zs : List Int) (s : Int) : ∀ k : Nat, topsL zs s (itemsTo s k) = topsTo zs s k
  | 0 => rfl
  | k + 1 => by
    have ih := topsL_to zs s k
    cases hb : bitB s k
    · rw [itemsTo_no hb, topsTo_no (.inl hb), ih]
    · rw [itemsTo_yes hb]
      cases ha : (andI (zs[k]?.getD 0) s == 0)
      · rw [topsL_no ha, topsTo_no (.inr ha), ih]
      · rw [topsL_yes ha, topsTo_yes hb ha, ih]
theorem topsTo_up {zs : List Int} {s : Int} {n : Nat} (h1 : s < powI n) : ∀ d : Nat, topsTo zs s (n + d) = topsTo zs s n
  | 0 => rfl
  | d + 1 => by
    have hb : bitB s ((n + d : Nat) : Int) = false := by
      cases h : bitB s ((n + d : Nat) : Int) with
      | false => rfl
      | true => have := bitB_lt h1 h; omega
    rw [← Nat.add_assoc, topsTo_no (.inl hb), topsTo_up h1 d]
theorem topsL_all {zs : List Int} {s : Int} {n : Nat} (hn : n ≤ 6) (h1 : s < powI n) : topsL zs s (itemsL s) = topsTo zs s n := by
  rw [itemsL, topsL_to, show (6 : Nat) = n + (6 - n) from by omega, topsTo_up h1]

set_option maxRecDepth 100000 in
set_option maxHeartbeats 4000000 in
theorem tops_any (A : Option Addr) (n c : Nat) (zs : List Int) (s : Int) (hv : Sets zs) (w : World) (hA : Ints w w.heap.size A n zs) (h0 : 0 ≤ s) (h1 : s < powI n) :
    Calls Tryd.prog 111 #[.slice A n c, .int .i64 s] w fun e W' => e = .returned (.int .i64 (topsTo zs s n)) ∧ Below w.heap.size w W' := by
  refine (callsIn_wide (n := 9)).1 ?_
  refine callsIn_of_wp_marks Tryd.func111 rfl trivial ?_ rfl
  simp only [Tryd.ntmps111, List.size_toArray, List.length_cons, List.length_nil, Nat.reduceAdd, Nat.reduceSub, Array.replicate_succ, Array.replicate_zero, List.push_toArray, List.append_toArray, List.nil_append, List.cons_append]
  have hlen := Lib.hid hA.len
  have hn6 : n ≤ 6 := by have := hv.1; rw [hlen.out] at this; exact this
  have hpk : powI n ≤ 64 := powI_le6 (by omega)
  gi_wp2_with (gi_at_call 59; refine (callsIn_wide.2 (each_any _ _)).mono ?_; rintro e w' ⟨rfl, rfl⟩)
  have bO := (((Boxed.new w 42 (.slice A n c)).alloc (.cells #[Value.int .i64 s] 59)).alloc (.cells #[Value.int .i64 0] 59)).alloc (.cells #[Value.int .i64 s] 59)
  have bS := ((Boxed.new (w.alloc (.cells #[Value.slice A n c] 42)) 59 (.int .i64 s)).alloc (.cells #[Value.int .i64 0] 59)).alloc (.cells #[Value.int .i64 s] 59)
  have bT := (Boxed.new ((w.alloc (.cells #[Value.slice A n c] 42)).alloc (.cells #[Value.int .i64 s] 59)) 59 (.int .i64 0)).alloc (.cells #[Value.int .i64 s] 59)
  have bE := Boxed.new (((w.alloc (.cells #[Value.slice A n c] 42)).alloc (.cells #[Value.int .i64 s] 59)).alloc (.cells #[Value.int .i64 0] 59)) 59 (.int .i64 s)
  have hu0 : Upd (fun _ => False) w ((((w.alloc (.cells #[Value.slice A n c] 42)).alloc (.cells #[Value.int .i64 s] 59)).alloc (.cells #[Value.int .i64 0] 59)).alloc (.cells #[Value.int .i64 s] 59)) := ((((Upd.refl _ w).alloc _).alloc _).alloc _).alloc _
  have hz0 : ((((w.alloc (.cells #[Value.slice A n c] 42)).alloc (.cells #[Value.int .i64 s] 59)).alloc (.cells #[Value.int .i64 0] 59)).alloc (.cells #[Value.int .i64 s] 59)).heap.size = w.heap.size + 4 := by simp
  simp only [World.size_alloc] at bO bS bT bE
  obtain ⟨W0, hW0⟩ : ∃ W0, ((((w.alloc (.cells #[Value.slice A n c] 42)).alloc (.cells #[Value.int .i64 s] 59)).alloc (.cells #[Value.int .i64 0] 59)).alloc (.cells #[Value.int .i64 s] 59)) = W0 := ⟨_, rfl⟩
  rw [hW0] at bO bS bT bE hu0 hz0 ⊢
  clear hW0
  have hA0 : Ints W0 w.heap.size A n zs := hA.below (hu0.toBelow (fun _ e => e.elim) (Nat.le_refl _))
  refine range_out (n := 9) (gf := 83) (lb := #[.pointer (some ⟨w.heap.size + 1 + 1 + 1, 0, none⟩)]) rfl (enters_of Tryd.func83 (by kernel_rfl) rfl) (encs := encI) (L := itemsL s)
    (fun k => k = w.heap.size + 1 + 1) (fun k e => by omega) (fun _ => rfl)
    (fun W1 l1 hu1 hl1 hl2 => each_iter s h0 (by omega) _ _ W1 (hu1.boxed bE (fun e => e)) (fun e => by omega))
    (fun pre D W => (0 ≤ topsL zs s pre ∧ topsL zs s pre < 64) ∧ Boxed W (w.heap.size + 1 + 1) 59 (.int .i64 (topsL zs s pre)) ∧ Upd (fun k => k = w.heap.size + 1 + 1) W0 W)
    (fun _ _ _ _ => False)
    (fun _ D X Y hs hu => ⟨hs.1, hu.boxed hs.2.1 (fun e => by omega), hs.2.2.trans' hu (fun i hi e => by omega)⟩)
    (fun _ _ _ _ _ hs _ => hs)
    ⟨by simp [topsL], bT, Upd.refl _ _⟩ ?owes ?done ?stop
  case owes =>
    rintro l1 pre x D1 W hl1 hl2 hDl hD1 - hpre K hK
    gi_wp2
    refine hK _ _ (Upd.refl _ _) ?_
    rintro Wb hWb - ⟨htb, bT1, hU⟩
    clear hK
    obtain ⟨hx6, hxb⟩ := mem_itemsTo.1 (hpre.subset (by simp : x ∈ pre ++ [x]))
    have hxn := bitB_lt h1 hxb
    have bO1 := hU.boxed bO (by omega)
    have hcO := bO1.cell
    have hcS := (hU.boxed bS (by omega)).cell
    obtain ⟨ab, off, rfl, hab, hc⟩ := hA0.at_ hxn
    have hcx := hU.cell (hc x hxn) (fun e => by simp at e; omega)
    have zx := hv.bd x (by rw [hlen.out]; exact hxn)
    have hsb := hU.size
    have hcT := bT1.cell
    have hfT := bT1.frozen
    have hszb := hWb.size
    have hand : bits .and .i64 (zs[x]?.getD 0) s = andI (zs[x]?.getD 0) s := bits_and (by omega) (by omega) (by omega) (by omega)
    cases ha : (andI (zs[x]?.getD 0) s == 0)
    · have Hn := Lib.hid (topsL_no (l := pre) ha)
      gi_wp2
      refine region_quiet_round (by kernel_rfl) (by kernel_rfl) (by kernel_rfl) ?_
      repeat (gi_big_quiet_step (fail))
      refine wpQuietIn_nil ?_
      intro _ hw'
      obtain ⟨nq, hw''⟩ := hw'
      subst hw''
      gi_wp2
      exact ⟨D1, ⟨by rw [Hn.out]; exact htb, by rw [Hn.out]; exact bT1, hU.drewN _⟩, (Upd.refl _ _).drewN _, fun k hk => .inl hk⟩
    · have Hn := Lib.hid (topsL_yes (l := pre) ha)
      have hob := orI_bd (a := topsL zs s pre) (b := powI x) (n := 6) htb.1 htb.2 (Int.le_of_lt (powI_pos _)) (powI_lt hx6)
      gi_wp2
      refine region_quiet_round (by kernel_rfl) (by kernel_rfl) (by kernel_rfl) ?_
      repeat (gi_big_quiet_step (fail))
      refine wpQuietIn_nil ?_
      intro _ hw'
      obtain ⟨nq, hw''⟩ := hw'
      subst hw''
      gi_wp2_with (gi_at_call 64; refine (CallsIn.inRound l1 (callsIn_wide.2 (with_any _ _ _ htb.1 htb.2 (by omega) (by omega)))).mono ?_; rintro e w' ⟨rfl, rfl⟩)
      exact ⟨D1, ⟨by rw [Hn.out]; exact hob, by rw [Hn.out]; exact bT1.set _, (hU.drewN _).setCell (p := ⟨w.heap.size + 1 + 1, 0, none⟩) (.inr rfl) _⟩, ((Upd.refl _ _).drewN _).setCell (p := ⟨w.heap.size + 1 + 1, 0, none⟩) (.inr (.inl rfl)) _, fun k hk => .inl hk⟩
  case done =>
    rintro d D1 W hd ⟨htb, bT1, hU⟩ hD1 hKd
    have Ht := Lib.hid (topsL_all (zs := zs) hn6 h1)
    have hcT := bT1.cell
    gi_wp2
    refine leaves_marks [d] _ ⟨by simp, fun b hb => ?_⟩ (fun W' hu' => ?_)
    · rw [List.mem_singleton.1 hb]
      exact hKd
    · exact ⟨.int .i64 (topsL zs s (itemsL s)), by simp [results, Tryd.f111, go_sem], ret_int Ht.out,
        (((hu0.mono fun _ _ e => e.elim).trans' hU (fun i hi e => by omega)).trans' hu' (fun i hi e => by simp at e; omega)).toBelow (R := fun _ => False) (fun _ e => e.elim) (Nat.le_refl _)⟩
  case stop =>
    rintro d D1 co pre W hd hpre h
    exact h.elim
end Go.Proofs.YtmlihbcffndnbaaDoor

/- Lines, as plain mathematics: what is lined up, what is left, and when the next item may come. No program. -/
namespace Go.Proofs.YtmlihbcffndnbaaDoor

/-- The first k items of the list. -/
def doneTo (ls : List Int) : Nat → Int
  | 0 => 0
  | k + 1 => orI (doneTo ls k) (powI (ls[k]?.getD 0))
/-- All items but the first k of the list. -/
def leftTo (n : Nat) (ls : List Int) : Nat → Int
  | 0 => powI n - 1
  | k + 1 => lessI (leftTo n ls k) (powI (ls[k]?.getD 0))
/-- The item k of the list is one, was not yet there, and all below it were. -/
def stepOk (zs ls : List Int) (k : Nat) : Bool :=
  inB (ls[k]?.getD 0) 0 ((zs.length : Int) - 1) && (!bitB (doneTo ls k) (ls[k]?.getD 0) && (lessI ((du zs)[(ls[k]?.getD 0).toNat]?.getD 0) (doneTo ls k) == 0))
def lineB (zs ls : List Int) : Bool := decide (ls.length = zs.length) && (List.range ls.length).all (stepOk zs ls)
def isLineR (zs ls : List Int) : Bool := vo zs && lineB zs ls

theorem lineB_yes {zs ls : List Int} {m : Nat} (hm : ls.length = m) (hl : m = zs.length) (h : ∀ k, k < m → stepOk zs ls k = true) : lineB zs ls = true := by
  unfold lineB
  rw [Bool.and_eq_true, List.all_eq_true]
  exact ⟨by simp; omega, fun k hk => h k (by rw [← hm]; exact List.mem_range.1 hk)⟩
theorem lineB_len {zs ls : List Int} {m : Nat} (hm : ls.length = m) (hl : m ≠ zs.length) : lineB zs ls = false := by
  unfold lineB
  rw [decide_eq_false (by omega)]
  rfl
theorem lineB_no {zs ls : List Int} {m k : Nat} (hm : ls.length = m) (hk : k < m) (h : stepOk zs ls k = false) : lineB zs ls = false := by
  cases e : lineB zs ls
  · rfl
  · unfold lineB at e
    rw [Bool.and_eq_true, List.all_eq_true] at e
    have := e.2 k (List.mem_range.2 (by omega))
    rw [h] at this
    cases this
theorem stepOk_in {zs ls : List Int} {k : Nat} (h : stepOk zs ls k = true) : 0 ≤ ls[k]?.getD 0 ∧ ls[k]?.getD 0 < zs.length := by
  unfold stepOk at h
  rw [Bool.and_eq_true] at h
  have : (0 : Int) ≤ ls[k]?.getD 0 ∧ ls[k]?.getD 0 ≤ (zs.length : Int) - 1 := by simpa [inB] using h.1
  omega
theorem stepOk_new {zs ls : List Int} {k : Nat} (h : stepOk zs ls k = true) : bitB (doneTo ls k) (ls[k]?.getD 0) = false := by
  unfold stepOk at h
  rw [Bool.and_eq_true, Bool.and_eq_true] at h
  simpa using h.2.1
theorem doneTo_bd {zs ls : List Int} : ∀ k : Nat, (∀ i, i < k → stepOk zs ls i = true) → 0 ≤ doneTo ls k ∧ doneTo ls k < powI zs.length
  | 0, _ => ⟨Int.le_refl _, powI_pos _⟩
  | k + 1, h => by
    have h1 := doneTo_bd k fun i hi => h i (by omega)
    have h2 := stepOk_in (h k (by omega))
    obtain ⟨a, ha⟩ := Int.eq_ofNat_of_zero_le h2.1
    have h3 : powI (a : Int) < powI (zs.length : Int) := powI_lt (by omega)
    have h4 := powI_pos (a : Int)
    unfold doneTo
    rw [ha]
    exact orI_bd h1.1 h1.2 (by omega) h3
theorem leftTo_bd {n : Nat} {ls : List Int} : ∀ k : Nat, 0 ≤ leftTo n ls k ∧ leftTo n ls k < powI n
  | 0 => by have := powI_pos (n : Int); unfold leftTo; omega
  | k + 1 => by
    have h1 := leftTo_bd (n := n) (ls := ls) k
    have h2 := lessI_bd (leftTo n ls k) (powI (ls[k]?.getD 0))
    unfold leftTo
    omega
theorem leftTo_bit {zs ls : List Int} (j : Nat) : ∀ k : Nat, (∀ i, i < k → stepOk zs ls i = true) → bitB (leftTo zs.length ls k) j = (decide (j < zs.length) && !bitB (doneTo ls k) j)
  | 0, _ => by unfold leftTo doneTo; rw [all_bits, bitB_zero]; simp
  | k + 1, h => by
    have ih := leftTo_bit (zs := zs) (ls := ls) j k fun i hi => h i (by omega)
    have h2 := stepOk_in (h k (by omega))
    obtain ⟨a, ha⟩ := Int.eq_ofNat_of_zero_le h2.1
    unfold leftTo doneTo
    rw [ha, bitB_less, bitB_or, bitB_pow, ih]
    cases decide (j < zs.length) <;> cases bitB (doneTo ls k) j <;> cases decide (a = j) <;> rfl
/-- As the program asks it: the item is a top, turned round, of what is left. -/
theorem step_tops {zs ls : List Int} (h : VoP zs) {k : Nat} (hk : ∀ i, i < k → stepOk zs ls i = true) {a : Nat} (ha : ls[k]?.getD 0 = (a : Int)) (hn : a < zs.length) :
    bitB (topsTo (du zs) (leftTo zs.length ls k) zs.length) a = stepOk zs ls k := by
  have hds := (du_sets h.sets).2 a (by rw [du_len]; exact hn)
  rw [du_len] at hds
  have hl := leftTo_bit (zs := zs) (ls := ls) a k hk
  have hin : inB (a : Int) 0 ((zs.length : Int) - 1) = true := by simp [inB]; omega
  have key : bitB (topsTo (du zs) (leftTo zs.length ls k) zs.length) a = true ↔ stepOk zs ls k = true := by
    rw [topsTo_bit]
    unfold stepOk
    rw [ha, hin, hl, Bool.true_and, Int.toNat_natCast]
    simp only [Bool.and_eq_true]
    have e2 : andI ((du zs)[a]?.getD 0) (leftTo zs.length ls k) = 0 ↔ (lessI ((du zs)[a]?.getD 0) (doneTo ls k) == 0) = true := by
      rw [beq_iff_eq, andI_zero]
      constructor
      · intro e
        refine bitB_ext (lessI_bd _ _).1 (Int.le_refl _) fun j => ?_
        rw [bitB_less, bitB_zero]
        cases e1 : bitB ((du zs)[a]?.getD 0) j
        · rfl
        · cases e3 : bitB (doneTo ls k) j
          · have hj := bitB_lt hds.2 e1
            have := e j (by rw [leftTo_bit (zs := zs) (ls := ls) j k hk, e3]; simp [hj])
            rw [e1] at this; cases this
          · rfl
      · intro e j hj
        rw [leftTo_bit (zs := zs) (ls := ls) j k hk, Bool.and_eq_true] at hj
        cases e1 : bitB ((du zs)[a]?.getD 0) j
        · rfl
        · have := bitB_less ((du zs)[a]?.getD 0) (doneTo ls k) j
          rw [e, bitB_zero, e1] at this
          simp at this hj
          rw [this] at hj
          simp at hj
    constructor
    · rintro ⟨_, h1, h2⟩
      exact ⟨h1.2, e2.1 h2⟩
    · rintro ⟨h1, h2⟩
      exact ⟨hn, ⟨by simpa using hn, h1⟩, e2.2 h2⟩
  cases e1 : bitB (topsTo (du zs) (leftTo zs.length ls k) zs.length) a <;> cases e2 : stepOk zs ls k <;> simp_all
end Go.Proofs.YtmlihbcffndnbaaDoor

/- Texts that several claims share, one behind the other. -/
import Derived.WalkKit
import Derived.Laws.BitsAllLaws
import Derived.Below
import Derived.Laws.OwnMore
import Derived.Deep.Draws
import Derived.Lib.Hide
import Derived.RangeFuncNested
import Derived.Deep.OwnRows
import Derived.Sort.QuietIn
import Derived.BigQuiet
import Derived.StillTail
import Derived.OrdersHeld
import Derived.Deep.RegionHeld3
set_option linter.unusedVariables false
set_option linter.unusedSimpArgs false
/- Plain words and facts on numbers as sets, and on orders as lists of such numbers. No program is imported. -/
namespace Go.Proofs.Ytipdmaggfbfnlaa
open Go.RowKit

/-- Whether the set s has j. -/
def bitB (s j : Int) : Bool := s.toNat.testBit j.toNat
/-- Whether n is in a range. -/
def inB (n lo hi : Int) : Bool := decide (lo ≤ n ∧ n ≤ hi)
def bitI (s j : Int) : Int := if bitB s j then 1 else 0
def powI (n : Int) : Int := 2 ^ n.toNat
def orI (a b : Int) : Int := ((a.toNat ||| b.toNat : Nat) : Int)
def andI (a b : Int) : Int := ((a.toNat &&& b.toNat : Nat) : Int)
/-- What a has and b has not. -/
def lessI (a b : Int) : Int := ((a.toNat &&& (a.toNat ^^^ b.toNat) : Nat) : Int)

theorem ofInt_i64n (a : Nat) (ha : a < 9223372036854775808) : (BitVec.ofInt 64 (a : Int)).toNat = a := by
  rw [BitVec.ofInt_natCast, BitVec.toNat_ofNat]; exact Nat.mod_eq_of_lt (by omega)

theorem bits_and {a b : Int} (h0 : 0 ≤ a) (h1 : a < 4611686018427387904) (g0 : 0 ≤ b) (g1 : b < 4611686018427387904) : bits .and .i64 a b = andI a b := by
  obtain ⟨a, rfl⟩ := Int.eq_ofNat_of_zero_le h0
  obtain ⟨b, rfl⟩ := Int.eq_ofNat_of_zero_le g0
  have hx : a &&& b < 2 ^ 62 := Nat.and_lt_two_pow _ (by omega)
  show IntKind.i64.wrap ((BitVec.ofInt 64 (a : Int) &&& BitVec.ofInt 64 (b : Int)).toNat : Int) = _
  rw [BitVec.toNat_and, ofInt_i64n a (by omega), ofInt_i64n b (by omega), IntKind.wrap_i64]
  simp only [andI, Int.toNat_natCast]
  omega
theorem bits_or {a b : Int} (h0 : 0 ≤ a) (h1 : a < 4611686018427387904) (g0 : 0 ≤ b) (g1 : b < 4611686018427387904) : bits .or .i64 a b = orI a b := by
  obtain ⟨a, rfl⟩ := Int.eq_ofNat_of_zero_le h0
  obtain ⟨b, rfl⟩ := Int.eq_ofNat_of_zero_le g0
  have hx : a ||| b < 2 ^ 62 := Nat.or_lt_two_pow (by omega) (by omega)
  show IntKind.i64.wrap ((BitVec.ofInt 64 (a : Int) ||| BitVec.ofInt 64 (b : Int)).toNat : Int) = _
  rw [BitVec.toNat_or, ofInt_i64n a (by omega), ofInt_i64n b (by omega), IntKind.wrap_i64]
  simp only [orI, Int.toNat_natCast]
  omega
theorem bits_less {a b : Int} (h0 : 0 ≤ a) (h1 : a < 4611686018427387904) (g0 : 0 ≤ b) (g1 : b < 4611686018427387904) : bits .andNot .i64 a b = lessI a b := by
  obtain ⟨a, rfl⟩ := Int.eq_ofNat_of_zero_le h0
  obtain ⟨b, rfl⟩ := Int.eq_ofNat_of_zero_le g0
  have hx : a &&& (a ^^^ b) < 2 ^ 62 := Nat.lt_of_le_of_lt Nat.and_le_left (by omega)
  show IntKind.i64.wrap ((BitVec.ofInt 64 (a : Int) &&& ~~~ BitVec.ofInt 64 (b : Int)).toNat : Int) = _
  have e : (BitVec.ofInt 64 (a : Int) &&& ~~~ BitVec.ofInt 64 (b : Int)).toNat = a &&& (a ^^^ b) := by
    apply Nat.eq_of_testBit_eq
    intro i
    rw [← BitVec.getLsbD, BitVec.getLsbD_and, BitVec.getLsbD_not]
    simp only [BitVec.getLsbD, ofInt_i64n a (by omega), ofInt_i64n b (by omega), Nat.testBit_and, Nat.testBit_xor]
    by_cases hi : i < 64
    · simp [hi]; cases a.testBit i <;> cases b.testBit i <;> rfl
    · have : a.testBit i = false := Nat.testBit_lt_two_pow (Nat.lt_of_lt_of_le (by omega : a < 2 ^ 62) (Nat.pow_le_pow_right (by decide) (by omega)))
      simp [this]
  rw [e, IntKind.wrap_i64]
  simp only [lessI, Int.toNat_natCast]
  omega

theorem shr_and_one {s j : Int} (h0 : 0 ≤ s) (h1 : s < 4611686018427387904) : bits .and .i64 (s / 2 ^ j.toNat) 1 = bitI s j := by
  obtain ⟨a, rfl⟩ := Int.eq_ofNat_of_zero_le h0
  have hd : ((a : Int) / 2 ^ j.toNat) = ((a / 2 ^ j.toNat : Nat) : Int) := by simp
  have hle : a / 2 ^ j.toNat ≤ a := Nat.div_le_self _ _
  rw [hd]
  simp only [bitI, bitB, Int.toNat_natCast, Nat.testBit, Nat.shiftRight_eq_div_pow]
  generalize a / 2 ^ j.toNat = q at *
  rw [bits_and (by omega) (by omega) (by decide) (by decide)]
  simp only [andI, Int.toNat_natCast, Nat.and_comm 1]
  have e : q &&& (1 : Int).toNat = q % 2 := Nat.and_one_is_mod q
  have e' : q &&& 1 = q % 2 := Nat.and_one_is_mod q
  rw [e, e']
  rcases Nat.mod_two_eq_zero_or_one q with h | h <;> simp [h]

theorem lessI_bd (a b : Int) : 0 ≤ lessI a b ∧ lessI a b ≤ a.toNat := by
  unfold lessI; exact ⟨by omega, by exact_mod_cast (Nat.and_le_left)⟩
theorem bitI_01 (s j : Int) : 0 ≤ bitI s j ∧ bitI s j ≤ 1 := by unfold bitI; split <;> omega
theorem bitI_one (s j : Int) : (bitI s j == 1) = bitB s j := by unfold bitI; cases bitB s j <;> rfl
theorem bitI_true {s j : Int} (h : bitB s j = true) : bitI s j = 1 := by simp [bitI, h]
theorem bitI_false {s j : Int} (h : bitB s j = false) : bitI s j = 0 := by simp [bitI, h]
theorem bitB_lt {s : Int} {n j : Nat} (h1 : s < powI n) (h : bitB s j = true) : j < n := by
  rcases Nat.lt_or_ge j n with hj | hj
  · exact hj
  · have h2 : s.toNat < 2 ^ n := by
      have h3 : powI (n : Int) = ((2 ^ n : Nat) : Int) := by simp [powI]
      rw [h3] at h1
      have h4 : 0 < 2 ^ n := Nat.two_pow_pos n
      generalize 2 ^ n = q at *
      omega
    have h3 : s.toNat.testBit j = false := Nat.testBit_lt_two_pow (Nat.lt_of_lt_of_le h2 (Nat.pow_le_pow_right (by decide) hj))
    simp [bitB, h3] at h
theorem powI_pos (n : Int) : 0 < powI n := by unfold powI; exact Int.pow_pos (by decide)
theorem powI_le {n m : Int} (h : n ≤ m) : powI n ≤ powI m := by
  have h1 : (2 : Nat) ^ n.toNat ≤ 2 ^ m.toNat := Nat.pow_le_pow_right (by decide) (by omega)
  have h2 : ((2 ^ n.toNat : Nat) : Int) ≤ ((2 ^ m.toNat : Nat) : Int) := Int.ofNat_le.2 h1
  simpa [powI] using h2
theorem powI_le6 {n : Int} (h : n ≤ 6) : powI n ≤ 64 := powI_le h
theorem powI_succ {n : Int} (h : 0 ≤ n) : powI (n + 1) = 2 * powI n := by
  unfold powI; rw [show (n + 1).toNat = n.toNat + 1 from by omega, Int.pow_succ, Int.mul_comm]
theorem powI_zero : powI 0 = 1 := rfl
theorem orI_bd {a b n : Int} (_h0 : 0 ≤ a) (h1 : a < powI n) (_g0 : 0 ≤ b) (g1 : b < powI n) : 0 ≤ orI a b ∧ orI a b < powI n := by
  have e : powI n = ((2 ^ n.toNat : Nat) : Int) := by simp [powI]
  rw [e] at h1 g1 ⊢
  have hp : 0 < 2 ^ n.toNat := Nat.two_pow_pos _
  have h : a.toNat ||| b.toNat < 2 ^ n.toNat := by
    refine Nat.or_lt_two_pow ?_ ?_
    all_goals
      generalize 2 ^ n.toNat = q at *
      omega
  unfold orI
  generalize 2 ^ n.toNat = q at *
  omega
theorem andI_bd (a b : Int) : 0 ≤ andI a b ∧ andI a b ≤ a.toNat := by
  unfold andI; exact ⟨by omega, by exact_mod_cast Nat.and_le_left⟩
theorem bitB_or (a b j : Int) : bitB (orI a b) j = (bitB a j || bitB b j) := by simp [bitB, orI]
theorem bitB_and (a b j : Int) : bitB (andI a b) j = (bitB a j && bitB b j) := by simp [bitB, andI]
theorem bitB_less (a b j : Int) : bitB (lessI a b) j = (bitB a j && !bitB b j) := by
  simp only [bitB, lessI, Int.toNat_natCast, Nat.testBit_and, Nat.testBit_xor]
  cases a.toNat.testBit j.toNat <;> cases b.toNat.testBit j.toNat <;> rfl
theorem bitB_pow (k j : Nat) : bitB (powI k) j = decide (k = j) := by
  have e : (powI (k : Int)).toNat = 2 ^ k := by
    have : powI (k : Int) = ((2 ^ k : Nat) : Int) := by simp [powI]
    rw [this, Int.toNat_natCast]
  simp [bitB, e, Nat.testBit_two_pow]
theorem bitB_zero (j : Int) : bitB 0 j = false := by simp [bitB]
theorem bitB_ext {a b : Int} (h0 : 0 ≤ a) (g0 : 0 ≤ b) (h : ∀ j : Nat, bitB a j = bitB b j) : a = b := by
  have e : a.toNat = b.toNat := Nat.eq_of_testBit_eq fun i => by have := h i; simpa [bitB] using this
  omega
theorem powI_lt {k n : Nat} (h : k < n) : powI (k : Int) < powI (n : Int) := by
  have h1 : powI ((k : Int) + 1) ≤ powI (n : Int) := powI_le (by omega)
  rw [powI_succ (by omega)] at h1
  have := powI_pos (k : Int)
  omega
end Go.Proofs.Ytipdmaggfbfnlaa

/- Words for memory: a slice of numbers that reads as a list; orders as lists. -/
namespace Go.Proofs.Ytipdmaggfbfnlaa
open Go.RowKit

/-- The slice '.slice A n c' reads as zs, and lies below block B. -/
def Ints (w : World) (B : Nat) (A : Option Addr) (n : Nat) (zs : List Int) : Prop :=
  zs.length = n ∧ (0 < n → ∃ b off, A = some ⟨b, off, none⟩ ∧ b < B ∧ ∀ j, j < n → w.cell? ⟨b, off + j, none⟩ = some (.int .i64 (zs[j]?.getD 0)))

section
variable {w w' : World} {B B' n : Nat} {A : Option Addr} {zs : List Int}
theorem Ints.len (h : Ints w B A n zs) : zs.length = n := h.1
theorem Ints.at_ {k : Nat} (h : Ints w B A n zs) (hk : k < n) : ∃ b off, A = some ⟨b, off, none⟩ ∧ b < B ∧ ∀ j, j < n → w.cell? ⟨b, off + j, none⟩ = some (.int .i64 (zs[j]?.getD 0)) := h.2 (by omega)
theorem Ints.keep (h : Ints w B A n zs) (hk : ∀ p : Addr, p.block < B → w'.cell? p = w.cell? p) : Ints w' B A n zs :=
  ⟨h.1, fun hn => by
    obtain ⟨b, off, e, hb, hc⟩ := h.2 hn
    exact ⟨b, off, e, hb, fun j hj => (hk _ hb).trans (hc j hj)⟩⟩
theorem Ints.more (h : Ints w B A n zs) (hB : B ≤ B') : Ints w B' A n zs :=
  ⟨h.1, fun hn => by
    obtain ⟨b, off, e, hb, hc⟩ := h.2 hn
    exact ⟨b, off, e, by omega, hc⟩⟩
theorem Ints.below (h : Ints w B A n zs) (hb : Below B w w') : Ints w' B A n zs := h.keep fun _ hp => hb.cell hp
theorem Ints.drewN (h : Ints w B A n zs) (k : Nat) : Ints (w.drewN k) B A n zs := h
theorem Ints.nil (w : World) (B : Nat) (A : Option Addr) : Ints w B A 0 [] := ⟨rfl, fun h => absurd h (by omega)⟩
end

/-- The item's set is one of the n items, without itself. -/
def okA (n : Int) (zs : List Int) (a : Nat) : Bool := inB (zs[a]?.getD 0) 0 (powI n - 1) && !bitB (zs[a]?.getD 0) a
/-- What is above b is above a, if b is, and a is not above b. -/
def okP (zs : List Int) (a b : Nat) : Bool := !bitB (zs[a]?.getD 0) b || (lessI (zs[b]?.getD 0) (zs[a]?.getD 0) == 0 && !bitB (zs[b]?.getD 0) a)
def VoP (zs : List Int) : Prop := zs.length ≤ 6 ∧ (∀ a, a < zs.length → okA zs.length zs a = true) ∧ (∀ a, a < zs.length → ∀ b, b < zs.length → okP zs a b = true)
instance (zs : List Int) : Decidable (VoP zs) := by unfold VoP; infer_instance
def vo (zs : List Int) : Bool := decide (VoP zs)
theorem vo_true {zs : List Int} (h : VoP zs) : vo zs = true := by simp [vo, h]
theorem vo_false {zs : List Int} (h : ¬ VoP zs) : vo zs = false := by simp [vo, h]
theorem okA_bd {n : Int} {zs : List Int} {a : Nat} (hn : n ≤ 6) (h : okA n zs a = true) : 0 ≤ zs[a]?.getD 0 ∧ zs[a]?.getD 0 < 64 := by
  have := powI_le6 hn
  simp [okA, inB] at h
  omega
/-- At most six sets, of no more items than there are. -/
def Sets (zs : List Int) : Prop := zs.length ≤ 6 ∧ ∀ a, a < zs.length → 0 ≤ zs[a]?.getD 0 ∧ zs[a]?.getD 0 < powI zs.length
theorem Sets.bd {zs : List Int} (h : Sets zs) (a : Nat) (ha : a < zs.length) : 0 ≤ zs[a]?.getD 0 ∧ zs[a]?.getD 0 < 64 := by
  have h1 := h.2 a ha
  have h2 : powI zs.length ≤ 64 := powI_le6 (by have := h.1; omega)
  omega
theorem VoP.sets {zs : List Int} (h : VoP zs) : Sets zs := ⟨h.1, fun a ha => by
  have := h.2.1 a ha
  simp [okA, inB] at this
  omega⟩
theorem VoP.bd {zs : List Int} (h : VoP zs) (a : Nat) (ha : a < zs.length) : 0 ≤ zs[a]?.getD 0 ∧ zs[a]?.getD 0 < 64 :=
  okA_bd (by have := h.1; omega) (h.2.1 a ha)
theorem VoP_not_A {zs : List Int} {k : Nat} (hk : k < zs.length) (h : okA zs.length zs k = false) : ¬ VoP zs := fun hv => by
  have := hv.2.1 k hk
  rw [h] at this; cases this
theorem VoP_not_P {zs : List Int} {k j : Nat} (hk : k < zs.length) (hj : j < zs.length) (h : okP zs k j = false) : ¬ VoP zs := fun hv => by
  have := hv.2.2 k hk j hj
  rw [h] at this; cases this
theorem okA_yes {n : Int} {zs : List Int} {k : Nat} (h1 : inB (zs[k]?.getD 0) 0 (powI n - 1) = true) (h2 : bitB (zs[k]?.getD 0) k = false) : okA n zs k = true := by simp [okA, h1, h2]
theorem all_snoc {p : Nat → Prop} {k : Nat} (h : ∀ a, a < k → p a) (hk : p k) : ∀ a, a < k + 1 → p a := fun a ha => by
  rcases Nat.lt_or_ge a k with h1 | h1
  · exact h a h1
  · rw [show a = k from by omega]; exact hk

end Go.Proofs.Ytipdmaggfbfnlaa

/- A range over a function, where the function ranges over another one itself: the contract of such an iterator, and the two laws for the statement. Which blocks a round may turn is told by two sets: M (blocks from before the loop), D (the round's own, made since). -/
namespace Go.Proofs.Ytipdmaggfbfnlaa
open Go.RowKit

/-- The worlds differ in blocks of R alone, and in new ones. -/
structure Upd (R : Nat → Prop) (w w' : World) : Prop where
  os : w'.os = w.os
  tape : w'.tape = w.tape
  output : w'.output = w.output
  size : w.heap.size ≤ w'.heap.size
  block : ∀ k, k < w.heap.size → ¬ R k → w'.heap[k]? = w.heap[k]?

section
variable {R S : Nat → Prop} {a b c w w' : World}
theorem Upd.refl (R : Nat → Prop) (w : World) : Upd R w w := ⟨rfl, rfl, rfl, Nat.le_refl _, fun _ _ _ => rfl⟩
theorem Upd.trans (h : Upd R a b) (k : Upd R b c) : Upd R a c :=
  ⟨k.os.trans h.os, k.tape.trans h.tape, k.output.trans h.output, Nat.le_trans h.size k.size, fun i hi hr => (k.block i (Nat.lt_of_lt_of_le hi h.size) hr).trans (h.block i hi hr)⟩
theorem Upd.mono (h : Upd R a b) (hs : ∀ k, k < a.heap.size → R k → S k) : Upd S a b := ⟨h.os, h.tape, h.output, h.size, fun i hi hr => h.block i hi (fun e => hr (hs i hi e))⟩
theorem Upd.trans' (h : Upd R a b) (k : Upd S b c) (hs : ∀ i, i < a.heap.size → S i → R i) : Upd R a c :=
  ⟨k.os.trans h.os, k.tape.trans h.tape, k.output.trans h.output, Nat.le_trans h.size k.size, fun i hi hr => (k.block i (Nat.lt_of_lt_of_le hi h.size) (fun e => hr (hs i hi e))).trans (h.block i hi hr)⟩
theorem Upd.drewN (h : Upd R a w) (n : Nat) : Upd R a (w.drewN n) := ⟨h.os, h.tape, h.output, h.size, h.block⟩
theorem Upd.drew (h : Upd R a w) : Upd R a w.drew := ⟨h.os, h.tape, h.output, h.size, h.block⟩
theorem Upd.alloc (h : Upd R a w) (o : Obj) : Upd R a (w.alloc o) :=
  ⟨h.os, h.tape, h.output, Nat.le_trans h.size (by simp), fun i hi hr => (Below.heap_alloc w o i (Nat.lt_of_lt_of_le hi h.size)).trans (h.block i hi hr)⟩
theorem Upd.setCell (h : Upd R a w) {p : Addr} (hp : a.heap.size ≤ p.block ∨ R p.block) (u : Value) : Upd R a (w.setCell p u) :=
  ⟨h.os, h.tape, h.output, by simpa [World.setCell] using h.size, fun i hi hr => (Below.heap_setCell w p u i (by
    rintro rfl
    rcases hp with hp | hp
    · omega
    · exact hr hp)).trans (h.block i hi hr)⟩
theorem Upd.grown (h : Upd R a w) {row : Option Nat} (hg : w.grownBy w' row) (hp : ∀ k, row = some k → a.heap.size ≤ k ∨ R k) : Upd R a w' :=
  ⟨hg.os.trans h.os, hg.tape.trans h.tape, hg.output.trans h.output, Nat.le_trans h.size hg.size, fun i hi hr => (hg.block i (Nat.lt_of_lt_of_le hi h.size) (fun e => by
    rcases hp i e.symm with h1 | h1
    · omega
    · exact hr h1)).trans (h.block i hi hr)⟩
theorem Upd.below (h : Upd R a w) {B : Nat} (hb : Below B w w') (hB : ∀ k, B ≤ k → k < a.heap.size → R k) : Upd R a w' :=
  ⟨hb.os.trans h.os, hb.tape.trans h.tape, hb.output.trans h.output, Nat.le_trans h.size hb.size, fun i hi hr => by
    rcases Nat.lt_or_ge i B with h1 | h1
    · exact (hb.block i h1).trans (h.block i hi hr)
    · exact absurd (hB i h1 hi) hr⟩
theorem Upd.putObj (h : Upd R a w) {l : Nat} (hl : a.heap.size ≤ l ∨ R l) (o : Obj) : Upd R a (w.putObj l o) :=
  h.grown (grownBy_putObj' w l o) (fun k e => by cases e; exact hl)
theorem Upd.cell (h : Upd R w w') {p : Addr} {v : Value} (hc : w.cell? p = some v) (hr : ¬ R p.block) : w'.cell? p = some v := by
  obtain ⟨o, ho, _⟩ := cells_of_cell hc
  exact (World.cell?_of_block (h.block _ (Array.getElem?_eq_some_iff.1 ho).1 hr)).trans hc
theorem Upd.frozen (h : Upd R w w') {p : Addr} (hl : p.block < w.heap.size) (hr : ¬ R p.block) : w'.frozen? p = w.frozen? p := World.frozen?_of_block (h.block _ hl hr)
theorem Upd.boxed (h : Upd R w w') {k : Nat} {t : TypeId} {v : Value} (hb : Boxed w k t v) (hr : ¬ R k) : Boxed w' k t v := (h.block k hb.lt hr).trans hb
theorem Upd.toBelow (h : Upd R w w') {B : Nat} (hB : ∀ k, R k → B ≤ k) (hw : B ≤ w.heap.size) : Below B w w' :=
  ⟨h.os, h.tape, h.output, h.size, fun k hk => h.block k (Nat.lt_of_lt_of_le hk hw) (fun e => by have := hB k e; omega)⟩
theorem Below.toUpd {B : Nat} (h : Below B w w') : Upd (fun k => B ≤ k) w w' := ⟨h.os, h.tape, h.output, h.size, fun k _ hr => h.block k (by omega)⟩
end

/-- What is said abides the turn of whatever is neither from before B nor the round's own. -/
def Firm {β : Type} (B : Nat) (J : β → (Nat → Prop) → World → Prop) : Prop :=
  ∀ s D W W', J s D W → Upd (fun k => B ≤ k ∧ ¬ D k) W W' → J s D W'
theorem Firm.mono {β : Type} {B B' : Nat} {J : β → (Nat → Prop) → World → Prop} (h : Firm B J) (hB : B ≤ B') : Firm B' J :=
  fun s D W W' hs hu => h s D W W' hs (hu.mono fun _ _ e => ⟨by omega, e.2⟩)

/-- The iterator's contract: over the list L, in its order, until a round says no more. -/
def Iter {α : Type} (P : Program) (g : Nat) (lb : Array Value) (encs : α → Array Value) (L : List α) (M : Nat → Prop) (w : World) : Prop :=
  ∀ (l : Nat) (J Jx : List α → (Nat → Prop) → World → Prop), Firm w.heap.size J → Firm w.heap.size Jx →
    (∀ pre x D W, J pre D W → w.heap.size ≤ W.heap.size → pre ++ [x] <+: L → ∀ m, YieldAt Fence.wide m P l (encs x) W fun e W' =>
      (e = .returned (.bool true) ∧ ∃ D', J (pre ++ [x]) D' W' ∧ Upd (fun k => M k ∨ D k) W W' ∧ ∀ k, D' k → D k ∨ W.heap.size ≤ k ∧ k < W'.heap.size) ∨
      (e = .returned (.bool false) ∧ ∃ D', Jx (pre ++ [x]) D' W' ∧ Upd (fun k => M k ∨ D k) W W' ∧ ∀ k, D' k → D k ∨ W.heap.size ≤ k ∧ k < W'.heap.size)) →
    J [] (fun _ => False) w →
    Calls P g (#[.func (.yield l) #[] #[]] ++ lb) w fun e W' => (∃ v, e = .returned v) ∧ ((∃ D, J L D W') ∨ ∃ pre D, pre <+: L ∧ Jx pre D W')

/-- How a round's body may be left. -/
def roundEnd {α : Type} (M : Nat → Prop) (J : List α → (Nat → Prop) → World → Prop) (Jx : Code → List α → (Nat → Prop) → World → Prop) (xs : List α) (D : Nat → Prop) (z : Nat) (W : World) : Exit → Act → World → Prop
  | .normal, _, W' => ∃ D', J xs D' W' ∧ Upd (fun k => M k ∨ D k ∨ z ≤ k) W W' ∧ ∀ k, D' k → D k ∨ z ≤ k ∧ k < W'.heap.size
  | .ret, _, W' => ∃ D', Jx .ret xs D' W' ∧ Upd (fun k => M k ∨ D k ∨ z ≤ k) W W' ∧ ∀ k, D' k → D k ∨ z ≤ k ∧ k < W'.heap.size
  | .exit id, _, W' => ∃ D', Jx (.exit id) xs D' W' ∧ Upd (fun k => M k ∨ D k ∨ z ≤ k) W W' ∧ ∀ k, D' k → D k ∨ z ≤ k ∧ k < W'.heap.size
  | .goto t, _, W' => ∃ D', Jx (.goto t) xs D' W' ∧ Upd (fun k => M k ∨ D k ∨ z ≤ k) W W' ∧ ∀ k, D' k → D k ∨ z ≤ k ∧ k < W'.heap.size
  | .panic _, _, _ => False
  | .outgrown, _, _ => False

theorem roundIn_any {F : Fence} (hd : F.depth = none) {m m' : Nat} {P : Program} {l : Nat} {f : FuncId} {tmps : Array Value} {assign body : Code} {w : World} {R : Ending → World → Prop}
    (h : RoundIn F m P l f tmps assign body w R) : RoundIn F m' P l f tmps assign body w R := ⟨h.1, fun c cs _ => h.2 c cs (fun d e => by rw [hd] at e; cases e)⟩

/-- What a round owes: the assignments, then the body. 'l' is the loop's record. -/
def RoundOwes {α : Type} (P : Program) (m B : Nat) (encs : α → Array Value) (ps : Array Tmp) (tmps : Array Value) (assign body : Code) (L : List α) (M : Nat → Prop) (J : List α → (Nat → Prop) → World → Prop) (Jx : Code → List α → (Nat → Prop) → World → Prop) : Prop :=
  ∀ (l : Nat) (pre : List α) (x : α) (D : Nat → Prop) (W : World), B ≤ l → l < W.heap.size → ¬ D l → (∀ k, D k → B ≤ k ∧ k < W.heap.size) → J pre D W → pre ++ [x] <+: L →
    ∀ K : Act → World → Prop,
      (∀ a' Wa, Upd (fun _ => False) W Wa → (∀ Wb, Upd (fun k => k = l) Wa Wb → (∃ r, Wb.heap[l]? = some (.loop r)) → J pre D Wb → body.wpIn (Fence.wide.inRound l) m P (roundEnd M J Jx (pre ++ [x]) D W.heap.size Wb) a' Wb) → K a' Wa) →
      assign.wpIn (Fence.wide.inRound l) m P (Exit.then K (fun _ _ _ => False)) { tmps := (ps.zip (encs x)).foldl (fun t (p, v) => t.setIfInBounds p v) tmps, defers := [] } W

section
variable {P : Program} {n : Nat}

/-- One round, out of what it owes: for both laws. -/
theorem round_of {α : Type} {l B B1 : Nat} {rec : LoopState → Option Code → Loop} {M : Nat → Prop} {encs : α → Array Value} {ps : Array Tmp} {tmps : Array Value} {assign body : Code} {fn : Nat} {L : List α}
    {J : List α → (Nat → Prop) → World → Prop} {Jx : Code → List α → (Nat → Prop) → World → Prop} {rest : World → Prop}
    (hrec : ∀ st pe, (rec st pe).state = st ∧ (rec st pe).params = ps ∧ (rec st pe).fn = fn ∧ (rec st pe).tmps = tmps ∧ (rec st pe).assign = assign ∧ (rec st pe).body = body ∧ ∀ st' pe', { rec st pe with state := st', pending := pe' } = rec st' pe')
    (hrec2 : ∀ st pe st', { rec st pe with state := st' } = rec st' pe)
    (hps : ∀ x, (encs x).size = ps.size) (hJ : Firm B J) (hJx : ∀ c, Firm B (Jx c)) (hl : B ≤ l) (hl1 : l < B1) (hM : ∀ k, M k → k < B)
    (hrest : ∀ W W', rest W → Upd (fun k => M k ∨ B1 ≤ k ∨ k = l) W W' → rest W')
    (howes : RoundOwes P n B encs ps tmps assign body L M J Jx)
    {pre : List α} {x : α} {D : Nat → Prop} {W : World} (hj : J pre D W) (hlw : W.heap[l]? = some (.loop (rec .ready none))) (hD : ∀ k, D k → B1 ≤ k ∧ k < W.heap.size) (hr : rest W) (hB1 : B1 ≤ W.heap.size) (hpre : pre ++ [x] <+: L) (m : Nat) :
    YieldAt Fence.wide m P l (encs x) W fun e W' =>
      (e = .returned (.bool true) ∧ ∃ D', (J (pre ++ [x]) D' W' ∧ W'.heap[l]? = some (.loop (rec .ready none)) ∧ (∀ k, D' k → B1 ≤ k ∧ k < W'.heap.size) ∧ rest W') ∧ Upd (fun k => M k ∨ k = l ∨ D k) W W' ∧ ∀ k, D' k → D k ∨ W.heap.size ≤ k ∧ k < W'.heap.size) ∨
      (e = .returned (.bool false) ∧ ∃ D', (∃ c, Jx c (pre ++ [x]) D' W' ∧ W'.heap[l]? = some (.loop (rec .done (some c))) ∧ (∀ k, D' k → B1 ≤ k ∧ k < W'.heap.size) ∧ rest W') ∧ Upd (fun k => M k ∨ k = l ∨ D k) W W' ∧ ∀ k, D' k → D k ∨ W.heap.size ≤ k ∧ k < W'.heap.size) := by
  have hlt : l < W.heap.size := (Array.getElem?_eq_some_iff.1 hlw).1
  have hDl : ¬ D l := fun e => by have := hD l e; omega
  have hy := run_yield (P := P) (args := encs x) hlw (by rw [(hrec _ _).2.1]; exact hps x)
  refine ⟨_, _, _, _, hy, roundIn_any (m := n) rfl (roundIn_of_wpIn trivial ?_)⟩
  rw [(hrec _ _).2.2.2.1, (hrec _ _).2.2.2.2.1, (hrec _ _).2.2.2.2.2.1, (hrec _ _).2.1]
  refine howes l pre x D W hl hlt hDl (fun k hk => by have := hD k hk; omega) hj hpre _ ?_
  intro a' Wa hua hbody
  have hla : Wa.heap[l]? = some (.loop (rec .ready none)) := (hua.block l hlt (fun e => e)).trans hlw
  have hlta : l < Wa.heap.size := (Array.getElem?_eq_some_iff.1 hla).1
  refine ⟨_, run_beginRound hla (by rw [(hrec _ _).1]), ?_⟩
  rw [hrec2]
  have hub : Upd (fun k => k = l) Wa (Wa.putObj l (.loop (rec .busy none))) := (Upd.refl (fun k => k = l) _).putObj (.inr rfl) _
  have hlb : (Wa.putObj l (.loop (rec .busy none))).heap[l]? = some (.loop (rec .busy none)) := World.putObj_heap_same hlta
  have hjb : J pre D (Wa.putObj l (.loop (rec .busy none))) := hJ _ _ _ _ (hJ _ _ _ _ hj (hua.mono fun _ _ e => e.elim)) (hub.mono fun k _ e => by rw [e]; exact ⟨hl, hDl⟩)
  have hrb : rest (Wa.putObj l (.loop (rec .busy none))) := hrest _ _ (hrest _ _ hr (hua.mono fun _ _ e => e.elim)) (hub.mono fun k _ e => .inr (.inr e))
  have hszb : (Wa.putObj l (.loop (rec .busy none))).heap.size = Wa.heap.size := by simp
  refine wpIn_mono (hbody _ hub ⟨_, hlb⟩ hjb) ?_
  have fin : ∀ (jump : Option Code) (D' : Nat → Prop) (W3 : World), Upd (fun k => M k ∨ D k ∨ W.heap.size ≤ k) (Wa.putObj l (.loop (rec .busy none))) W3 → (∀ k, D' k → D k ∨ W.heap.size ≤ k ∧ k < W3.heap.size) →
      (Instr.endRound l jump).run P W3 = .ok (.bool jump.isNone) (W3.putObj l (.loop (rec (if jump.isNone then .ready else .done) jump))) ∧
      (W3.putObj l (.loop (rec (if jump.isNone then .ready else .done) jump))).heap[l]? = some (.loop (rec (if jump.isNone then .ready else .done) jump)) ∧
      Upd (fun k => k = l) W3 (W3.putObj l (.loop (rec (if jump.isNone then .ready else .done) jump))) ∧
      (∀ k, D' k → B1 ≤ k ∧ k < W3.heap.size) ∧ ¬ D' l ∧ rest (W3.putObj l (.loop (rec (if jump.isNone then .ready else .done) jump))) ∧
      Upd (fun k => M k ∨ k = l ∨ D k) W (W3.putObj l (.loop (rec (if jump.isNone then .ready else .done) jump))) := fun jump D' W3 hu3 hD' => by
    have hl3 : W3.heap[l]? = some (.loop (rec .busy none)) := (hu3.block l (by rw [hszb]; exact hlta) (fun e => by
      rcases e with e | e | e
      · have := hM l e; omega
      · exact hDl e
      · omega)).trans hlb
    have hE := run_endRound (P := P) jump hl3
    rw [(hrec _ _).2.2.2.2.2.2] at hE
    have hu4 : Upd (fun k => k = l) W3 (W3.putObj l (.loop (rec (if jump.isNone then .ready else .done) jump))) := (Upd.refl (fun k => k = l) _).putObj (.inr rfl) _
    have hsz3 := hu3.size
    have hsza := hua.size
    have hDB : ∀ k, D' k → B1 ≤ k ∧ k < W3.heap.size := fun k hk => by
      rcases hD' k hk with h | h
      · have := hD k h; omega
      · omega
    refine ⟨hE, World.putObj_heap_same (Array.getElem?_eq_some_iff.1 hl3).1, hu4, hDB, fun e => by have := hDB l e; omega, ?_, ?_⟩
    · exact hrest _ _ (hrest _ _ hrb (hu3.mono fun k _ e => by
        rcases e with e | e | e
        · exact .inl e
        · exact .inr (.inl (hD k e).1)
        · exact .inr (.inl (by omega)))) (hu4.mono fun k _ e => .inr (.inr e))
    · have h1 : Upd (fun k => M k ∨ k = l ∨ D k ∨ W.heap.size ≤ k) W (W3.putObj l (.loop (rec (if jump.isNone then .ready else .done) jump))) :=
        (((hua.mono fun _ _ e => e.elim).trans (hub.mono fun k _ e => .inr (.inl e))).trans (hu3.mono fun k _ e => by
          rcases e with e | e | e
          · exact .inl e
          · exact .inr (.inr (.inl e))
          · exact .inr (.inr (.inr e)))).trans (hu4.mono fun k _ e => .inr (.inl e))
      exact h1.mono fun k hk e => by
        rcases e with e | e | e | e
        · exact .inl e
        · exact .inr (.inl e)
        · exact .inr (.inr e)
        · omega
  have firm : ∀ {D' : Nat → Prop} {W3 W4 : World}, ¬ D' l → Upd (fun k => k = l) W3 W4 → Upd (fun k => B ≤ k ∧ ¬ D' k) W3 W4 := fun h hu => hu.mono fun k _ e => by rw [e]; exact ⟨hl, h⟩
  rintro e a3 W3 hp
  cases e with
  | normal =>
    obtain ⟨D', hi3, hu3, hD'⟩ := hp
    obtain ⟨hE, hl4, hu4, hDB, hDl', hr4, hu⟩ := fin none D' W3 hu3 hD'
    exact ⟨_, _, hE, .inl ⟨rfl, D', ⟨hJ _ _ _ _ hi3 (firm hDl' hu4), hl4, (fun k hk => by have := hDB k hk; simp; omega), hr4⟩, hu, fun k hk => by simpa using hD' k hk⟩⟩
  | ret =>
    obtain ⟨D', hi3, hu3, hD'⟩ := hp
    obtain ⟨hE, hl4, hu4, hDB, hDl', hr4, hu⟩ := fin (some .ret) D' W3 hu3 hD'
    exact ⟨_, _, hE, .inr ⟨rfl, D', ⟨_, hJx _ _ _ _ _ hi3 (firm hDl' hu4), hl4, (fun k hk => by have := hDB k hk; simp; omega), hr4⟩, hu, fun k hk => by simpa using hD' k hk⟩⟩
  | exit id =>
    obtain ⟨D', hi3, hu3, hD'⟩ := hp
    obtain ⟨hE, hl4, hu4, hDB, hDl', hr4, hu⟩ := fin (some (.exit id)) D' W3 hu3 hD'
    exact ⟨_, _, hE, .inr ⟨rfl, D', ⟨_, hJx _ _ _ _ _ hi3 (firm hDl' hu4), hl4, (fun k hk => by have := hDB k hk; simp; omega), hr4⟩, hu, fun k hk => by simpa using hD' k hk⟩⟩
  | goto t =>
    obtain ⟨D', hi3, hu3, hD'⟩ := hp
    obtain ⟨hE, hl4, hu4, hDB, hDl', hr4, hu⟩ := fin (some (.goto t)) D' W3 hu3 hD'
    exact ⟨_, _, hE, .inr ⟨rfl, D', ⟨_, hJx _ _ _ _ _ hi3 (firm hDl' hu4), hl4, (fun k hk => by have := hDB k hk; simp; omega), hr4⟩, hu, fun k hk => by simpa using hD' k hk⟩⟩
  | panic ch => exact hp.elim
  | outgrown => exact hp.elim

/-- The statement, outside of any round. -/
theorem range_out {α : Type} {g : Operand} {ps : Array Tmp} {assign body : Code} {Q : Exit → Act → World → Prop} {a : Act} {w : World} {gf : Nat} {lb : Array Value}
    (hg : a.eval g = .func (.func gf) #[] lb) (eg : ∀ args w, (callFunc gf args).run P w = .ok (.enter gf args) w)
    {encs : α → Array Value} {L : List α} (M : Nat → Prop) (hM : ∀ k, M k → k < w.heap.size) (hps : ∀ x, (encs x).size = ps.size)
    (hseq : ∀ W1 l, Upd (fun _ => False) w W1 → w.heap.size ≤ l → l < W1.heap.size → Iter P gf lb encs L (fun k => M k ∨ k = l) W1)
    (J : List α → (Nat → Prop) → World → Prop) (Jx : Code → List α → (Nat → Prop) → World → Prop) (hJ : Firm w.heap.size J) (hJx : ∀ c, Firm w.heap.size (Jx c)) (h0 : J [] (fun _ => False) w)
    (howes : RoundOwes P (n - 1 - 1) w.heap.size encs ps a.tmps assign body L M J Jx)
    (hdone : ∀ (d : Nat) (D : Nat → Prop) (W : World), w.heap.size ≤ d → J L D W → (∀ k, D k → d < k ∧ k < W.heap.size) → W.heap[d]? = some (.deferred (some [])) → Q .normal { a with defers := { target := .collected d, args := #[] } :: a.defers } W)
    (hstop : ∀ (d : Nat) (D : Nat → Prop) (c : Code) (pre : List α) (W : World), w.heap.size ≤ d → pre <+: L → Jx c pre D W → (∀ k, D k → d < k ∧ k < W.heap.size) → W.heap[d]? = some (.deferred (some [])) → c.wpIn Fence.wide n P Q { a with defers := { target := .collected d, args := #[] } :: a.defers } W) :
    (Code.rangeFunc g ps assign body).wpIn Fence.wide n P Q a w := by
  refine wpIn_rangeFunc ?_
  intro fn hfn
  obtain ⟨rec, hrec⟩ : ∃ rec : LoopState → Option Code → Loop, rec = fun st pe => { state := st, pending := pe, fn, tmps := a.tmps, params := ps, assign, body, defers := w.heap.size } := ⟨_, rfl⟩
  obtain ⟨W1, hW1⟩ : ∃ W1, (w.alloc (.deferred (some []))).alloc (.loop (rec .ready none)) = W1 := ⟨_, rfl⟩
  have hL1 : W1.heap[w.heap.size + 1]? = some (.loop (rec .ready none)) := by
    rw [← hW1]; have := World.alloc_heap_new (w.alloc (.deferred (some []))) (.loop (rec .ready none)); rwa [World.size_alloc] at this
  have hK1 : W1.heap[w.heap.size]? = some (.deferred (some [])) := by
    rw [← hW1]; exact (Below.heap_alloc _ _ _ (by simp)).trans (World.alloc_heap_new w _)
  have hz1 : W1.heap.size = w.heap.size + 2 := by rw [← hW1]; simp
  have hu1 : Upd (fun _ => False) w W1 := by rw [← hW1]; exact ((Upd.refl _ w).alloc _).alloc _
  have hI1 : J [] (fun _ => False) W1 := hJ _ _ _ _ h0 (hu1.mono fun _ _ e => e.elim)
  have hi := hseq W1 (w.heap.size + 1) hu1 (by omega) (by omega)
  refine ⟨w.heap.size + 1, [{ target := .collected w.heap.size, args := #[] }], W1, { target := .fn (.func gf) lb, args := #[.func (.yield (w.heap.size + 1)) #[] #[]] }, W1, gf,
    #[.func (.yield (w.heap.size + 1)) #[] #[]] ++ lb, W1, ?_, ?_, ?_, ?_, (fun h => by cases h), ?_⟩
  · rw [← hW1, hrec]; exact run_enterLoop_outer _ _ _ _ _
  · simp only [resolve, hg]
    simp [go_sem]
  · intro f' hf'; trivial
  · simp [invoke, go_sem, eg]
  · refine callsIn_wide.2 ((hi (w.heap.size + 1)
      (fun pre D W => J pre D W ∧ W.heap[w.heap.size + 1]? = some (.loop (rec .ready none)) ∧ (∀ k, D k → W1.heap.size ≤ k ∧ k < W.heap.size) ∧ W.heap[w.heap.size]? = some (.deferred (some [])))
      (fun pre D W => ∃ c, Jx c pre D W ∧ W.heap[w.heap.size + 1]? = some (.loop (rec .done (some c))) ∧ (∀ k, D k → W1.heap.size ≤ k ∧ k < W.heap.size) ∧ W.heap[w.heap.size]? = some (.deferred (some [])))
      ?_ ?_ ?_ ⟨hI1, hL1, fun _ e => e.elim, hK1⟩).mono ?_)
    · rintro s D X Y ⟨hj, hl, hD, hk⟩ hu
      exact ⟨hJ _ _ _ _ hj (hu.mono fun k _ e => ⟨by omega, e.2⟩), (hu.block _ (Array.getElem?_eq_some_iff.1 hl).1 (fun e => by omega)).trans hl, (fun k hk => by have := hD k hk; have := hu.size; omega), (hu.block _ (Array.getElem?_eq_some_iff.1 hk).1 (fun e => by omega)).trans hk⟩
    · rintro s D X Y ⟨c, hj, hl, hD, hk⟩ hu
      exact ⟨c, hJx _ _ _ _ _ hj (hu.mono fun k _ e => ⟨by omega, e.2⟩), (hu.block _ (Array.getElem?_eq_some_iff.1 hl).1 (fun e => by omega)).trans hl, (fun k hk => by have := hD k hk; have := hu.size; omega), (hu.block _ (Array.getElem?_eq_some_iff.1 hk).1 (fun e => by omega)).trans hk⟩
    · rintro pre x D W ⟨hj, hl, hD, hk⟩ hsz hpre m
      obtain ⟨fn', tm, asg, bo, hy, hR⟩ := round_of (P := P) (n := n - 1 - 1) (l := w.heap.size + 1) (B := w.heap.size) (B1 := W1.heap.size) (rec := rec) (M := M) (fn := fn) (encs := encs) (ps := ps) (tmps := a.tmps) (assign := assign) (body := body) (L := L) (J := J) (Jx := Jx)
        (rest := fun W => W.heap[w.heap.size]? = some (.deferred (some [])))
        (by rw [hrec]; exact fun st pe => ⟨rfl, rfl, rfl, rfl, rfl, rfl, fun _ _ => rfl⟩) (by rw [hrec]; exact fun _ _ _ => rfl) hps hJ hJx (by omega) (by omega) hM
        (fun X Y h hu => (hu.block _ (Array.getElem?_eq_some_iff.1 h).1 (fun e => by
          rcases e with e | e | e
          · have := hM _ e; omega
          · omega
          · omega)).trans h) howes hj hl hD hk hsz hpre m
      refine ⟨fn', tm, asg, bo, hy, hR.mono ?_⟩
      rintro e W' (⟨he, D', ⟨h1, h2, h3, h4⟩, hu, hD'⟩ | ⟨he, D', ⟨c, h1, h2, h3, h4⟩, hu, hD'⟩)
      · exact .inl ⟨he, D', ⟨h1, h2, h3, h4⟩, hu.mono fun k _ e => by rcases e with e | e | e <;> simp [e], hD'⟩
      · exact .inr ⟨he, D', ⟨c, h1, h2, h3, h4⟩, hu.mono fun k _ e => by rcases e with e | e | e <;> simp [e], hD'⟩
    · rintro e W2 ⟨⟨v, rfl⟩, (⟨D, hj, hl, hD, hk⟩ | ⟨pre, D, hpre, c, hj, hl, hD, hk⟩)⟩
      · have hDl : ¬ D (w.heap.size + 1) := fun e => by have := hD _ e; omega
        exact ⟨none, _, by have := run_endLoop (P := P) hl (by rw [hrec]; simp); rw [hrec] at this; exact this,
          hdone _ D _ (Nat.le_refl _) (hJ _ _ _ _ hj ((Upd.refl (fun k => w.heap.size ≤ k ∧ ¬ D k) _).putObj (.inr ⟨by omega, hDl⟩) _)) (fun k hk => by have := hD k hk; simp; omega) ((World.putObj_heap_other (by omega)).trans hk)⟩
      · have hDl : ¬ D (w.heap.size + 1) := fun e => by have := hD _ e; omega
        exact ⟨some c, _, by have := run_endLoop (P := P) hl (by rw [hrec]; simp); rw [hrec] at this; exact this,
          hstop _ D c pre _ (Nat.le_refl _) hpre (hJx _ _ _ _ _ hj ((Upd.refl (fun k => w.heap.size ≤ k ∧ ¬ D k) _).putObj (.inr ⟨by omega, hDl⟩) _)) (fun k hk => by have := hD k hk; simp; omega) ((World.putObj_heap_other (by omega)).trans hk)⟩

/-- The statement, within a round of loop l₀. -/
theorem range_in {α : Type} {g : Operand} {ps : Array Tmp} {assign body : Code} {Q : Exit → Act → World → Prop} {a : Act} {w : World} {l₀ : Nat} (hl₀ : ∃ r₀, w.heap[l₀]? = some (.loop r₀)) {gf : Nat} {lb : Array Value}
    (hg : a.eval g = .func (.func gf) #[] lb) (eg : ∀ args w, (callFunc gf args).run P w = .ok (.enter gf args) w)
    {encs : α → Array Value} {L : List α} (M : Nat → Prop) (hM : ∀ k, M k → k < w.heap.size) (hps : ∀ x, (encs x).size = ps.size)
    (hseq : ∀ W1 l, Upd (fun _ => False) w W1 → w.heap.size ≤ l → l < W1.heap.size → Iter P gf lb encs L (fun k => M k ∨ k = l) W1)
    (J : List α → (Nat → Prop) → World → Prop) (Jx : Code → List α → (Nat → Prop) → World → Prop) (hJ : Firm w.heap.size J) (hJx : ∀ c, Firm w.heap.size (Jx c)) (h0 : J [] (fun _ => False) w)
    (howes : RoundOwes P (n - 1 - 1) w.heap.size encs ps a.tmps assign body L M J Jx)
    (hdone : ∀ (D : Nat → Prop) (W : World), J L D W → (∀ k, D k → w.heap.size < k ∧ k < W.heap.size) → Q .normal a W)
    (hstop : ∀ (D : Nat → Prop) (c : Code) (pre : List α) (W : World), pre <+: L → Jx c pre D W → (∀ k, D k → w.heap.size < k ∧ k < W.heap.size) → c.wpIn (Fence.wide.inRound l₀) n P Q a W) :
    (Code.rangeFunc g ps assign body).wpIn (Fence.wide.inRound l₀) n P Q a w := by
  obtain ⟨r₀, hl₀⟩ := hl₀
  refine wpIn_rangeFunc ?_
  intro fn hfn
  obtain ⟨rec, hrec⟩ : ∃ rec : LoopState → Option Code → Loop, rec = fun st pe => { state := st, pending := pe, fn, tmps := a.tmps, params := ps, assign, body, defers := r₀.defers } := ⟨_, rfl⟩
  obtain ⟨W1, hW1⟩ : ∃ W1, w.alloc (.loop (rec .ready none)) = W1 := ⟨_, rfl⟩
  have hL1 : W1.heap[w.heap.size]? = some (.loop (rec .ready none)) := by rw [← hW1]; exact World.alloc_heap_new w _
  have hz1 : W1.heap.size = w.heap.size + 1 := by rw [← hW1]; simp
  have hu1 : Upd (fun _ => False) w W1 := by rw [← hW1]; exact (Upd.refl _ w).alloc _
  have hI1 : J [] (fun _ => False) W1 := hJ _ _ _ _ h0 (hu1.mono fun _ _ e => e.elim)
  have hi := hseq W1 w.heap.size hu1 (by omega) (by omega)
  refine ⟨w.heap.size, [], W1, { target := .fn (.func gf) lb, args := #[.func (.yield w.heap.size) #[] #[]] }, W1, gf,
    #[.func (.yield w.heap.size) #[] #[]] ++ lb, W1, ?_, ?_, ?_, ?_, (fun h => by cases h), ?_⟩
  · rw [← hW1, hrec]; exact run_enterLoop_inner hl₀ _ _ _ _ _
  · simp only [resolve, hg]
    simp [go_sem]
  · intro f' hf'; trivial
  · simp [invoke, go_sem, eg]
  · refine CallsIn.inRound l₀ (callsIn_wide.2 ((hi w.heap.size
      (fun pre D W => J pre D W ∧ W.heap[w.heap.size]? = some (.loop (rec .ready none)) ∧ (∀ k, D k → W1.heap.size ≤ k ∧ k < W.heap.size))
      (fun pre D W => ∃ c, Jx c pre D W ∧ W.heap[w.heap.size]? = some (.loop (rec .done (some c))) ∧ (∀ k, D k → W1.heap.size ≤ k ∧ k < W.heap.size))
      ?_ ?_ ?_ ⟨hI1, hL1, fun _ e => e.elim⟩).mono ?_))
    · rintro s D X Y ⟨hj, hl, hD⟩ hu
      exact ⟨hJ _ _ _ _ hj (hu.mono fun k _ e => ⟨by omega, e.2⟩), (hu.block _ (Array.getElem?_eq_some_iff.1 hl).1 (fun e => by omega)).trans hl, fun k hk => by have := hD k hk; have := hu.size; omega⟩
    · rintro s D X Y ⟨c, hj, hl, hD⟩ hu
      exact ⟨c, hJx _ _ _ _ _ hj (hu.mono fun k _ e => ⟨by omega, e.2⟩), (hu.block _ (Array.getElem?_eq_some_iff.1 hl).1 (fun e => by omega)).trans hl, fun k hk => by have := hD k hk; have := hu.size; omega⟩
    · rintro pre x D W ⟨hj, hl, hD⟩ hsz hpre m
      obtain ⟨fn', tm, asg, bo, hy, hR⟩ := round_of (P := P) (n := n - 1 - 1) (l := w.heap.size) (B := w.heap.size) (B1 := W1.heap.size) (rec := rec) (M := M) (fn := fn) (encs := encs) (ps := ps) (tmps := a.tmps) (assign := assign) (body := body) (L := L) (J := J) (Jx := Jx)
        (rest := fun _ => True)
        (by rw [hrec]; exact fun st pe => ⟨rfl, rfl, rfl, rfl, rfl, rfl, fun _ _ => rfl⟩) (by rw [hrec]; exact fun _ _ _ => rfl) hps hJ hJx (by omega) (by omega) hM
        (fun _ _ _ _ => trivial) howes hj hl hD trivial hsz hpre m
      refine ⟨fn', tm, asg, bo, hy, hR.mono ?_⟩
      rintro e W' (⟨he, D', ⟨h1, h2, h3, _⟩, hu, hD'⟩ | ⟨he, D', ⟨c, h1, h2, h3, _⟩, hu, hD'⟩)
      · exact .inl ⟨he, D', ⟨h1, h2, h3⟩, hu.mono fun k _ e => by rcases e with e | e | e <;> simp [e], hD'⟩
      · exact .inr ⟨he, D', ⟨c, h1, h2, h3⟩, hu.mono fun k _ e => by rcases e with e | e | e <;> simp [e], hD'⟩
    · rintro e W2 ⟨⟨v, rfl⟩, (⟨D, hj, hl, hD⟩ | ⟨pre, D, hpre, c, hj, hl, hD⟩)⟩
      · have hDl : ¬ D w.heap.size := fun e => by have := hD _ e; omega
        exact ⟨none, _, by have := run_endLoop (P := P) hl (by rw [hrec]; simp); rw [hrec] at this; exact this,
          hdone D _ (hJ _ _ _ _ hj ((Upd.refl (fun k => w.heap.size ≤ k ∧ ¬ D k) _).putObj (.inr ⟨by omega, hDl⟩) _)) (fun k hk => by have := hD k hk; simp; omega)⟩
      · have hDl : ¬ D w.heap.size := fun e => by have := hD _ e; omega
        exact ⟨some c, _, by have := run_endLoop (P := P) hl (by rw [hrec]; simp); rw [hrec] at this; exact this,
          hstop D c pre _ hpre (hJx _ _ _ _ _ hj ((Upd.refl (fun k => w.heap.size ≤ k ∧ ¬ D k) _).putObj (.inr ⟨by omega, hDl⟩) _)) (fun k hk => by have := hD k hk; simp; omega)⟩
end
end Go.Proofs.Ytipdmaggfbfnlaa

/- A row of numbers that a call has made: known whole. -/
namespace Go.Proofs.Ytipdmaggfbfnlaa
open Go.RowKit

/-- Block b is just the numbers zs, of element type t. -/
def Arr (w : World) (b : Nat) (t : TypeId) (zs : List Int) : Prop := w.heap[b]? = some (.cells (zs.map (Value.int .i64)).toArray t (0, 0))

section
variable {w w' : World} {b : Nat} {t : TypeId} {zs : List Int} {R : Nat → Prop}
theorem Arr.lt (h : Arr w b t zs) : b < w.heap.size := (Array.getElem?_eq_some_iff.1 h).1
theorem Arr.cell (h : Arr w b t zs) {k : Nat} (hk : k < zs.length) : w.cell? ⟨b, k, none⟩ = some (.int .i64 (zs[k]?.getD 0)) := by
  rw [cell_of_row w b k _ t (0, 0) h]
  simp [List.getElem?_eq_getElem hk]
theorem Arr.frozen (h : Arr w b t zs) (k : Nat) : w.frozen? ⟨b, k, none⟩ = false := by
  unfold Arr at h
  simp [World.frozen?, h]
theorem Arr.upd (h : Arr w b t zs) (hu : Upd R w w') (hr : ¬ R b) : Arr w' b t zs := (hu.block b h.lt hr).trans h
theorem Arr.below {B : Nat} (h : Arr w b t zs) (hu : Below B w w') (hr : b < B) : Arr w' b t zs := (hu.block b hr).trans h
theorem Arr.drewN (h : Arr w b t zs) (n : Nat) : Arr (w.drewN n) b t zs := h
theorem Arr.drew (h : Arr w b t zs) : Arr w.drew b t zs := h
theorem Arr.alloc (h : Arr w b t zs) (o : Obj) : Arr (w.alloc o) b t zs := (Below.heap_alloc w o b h.lt).trans h
theorem Arr.far (h : Arr w b t zs) {p : Addr} (hp : b ≠ p.block) (u : Value) : Arr (w.setCell p u) b t zs := (Below.heap_setCell w p u b hp).trans h
theorem Arr.set (h : Arr w b t zs) (k : Nat) (v : Int) : Arr (w.setCell ⟨b, k, none⟩ (.int .i64 v)) b t (zs.set k v) := by
  unfold Arr at h ⊢
  simp [World.setCell, Array.getElem?_modify, h, List.map_set]
theorem Arr.new (w : World) (t : TypeId) (n : Nat) : Arr (w.alloc (.cells (madeCells #[.int .i64 0] n) t)) w.heap.size t (List.replicate n 0) := by
  have h := heap_alloc_new w (.cells (madeCells #[Value.int .i64 0] n) t)
  unfold Arr
  rw [h]
  congr 2
  apply Array.ext
  · simp [madeCells]
  · intro i h1 h2
    simp [madeCells, Nat.mod_one]
theorem Arr.ints (h : Arr w b t zs) {B : Nat} (hB : b < B) : Ints w B (some ⟨b, 0, none⟩) zs.length zs :=
  ⟨rfl, fun _ => ⟨b, 0, rfl, hB, fun j hj => by rw [Nat.zero_add]; exact h.cell hj⟩⟩
theorem Arr.ints' (h : Arr w b t zs) {B n : Nat} (hB : b < B) (hn : zs.length = n) : Ints w B (some ⟨b, 0, none⟩) n zs := by
  subst hn; exact h.ints hB
end

/-- A store into the one row that may turn. -/
theorem only_setCell {a w : World} {g : Nat} (h : a.grownBy w (some g)) {p : Addr} (hp : p.block = g ∨ a.heap.size ≤ p.block) (u : Value) : a.grownBy (w.setCell p u) (some g) :=
  ⟨h.os, h.tape, h.output, by simpa [World.setCell] using h.size, fun i hi hne => (Below.heap_setCell w p u i (by
    rintro rfl
    rcases hp with hp | hp
    · exact hne (by rw [hp])
    · omega)).trans (h.block i hi hne)⟩
end Go.Proofs.Ytipdmaggfbfnlaa

/- A region that draws its order and only reads, in a round of a loop over a function: by the law for plain activations. -/
namespace Go.Proofs.Ytipdmaggfbfnlaa
open Go.RowKit

theorem wide_fn (f : FuncId) : Fence.wide.fn f := trivial

def noDefer (o : Oper) : Bool := match o.op with
  | .defer _ => false
  | _ => true
theorem noDefer_spec {o : Oper} (h : noDefer o = true) : ∀ c, o.op ≠ .defer c := fun c e => by
  unfold noDefer at h
  rw [e] at h
  cases h

section
variable {n : Nat} {P : Program} {ops : Array Oper} {Q : Exit → Act → World → Prop} {md : Region.Mode} {l₀ : Nat}

theorem operIn_round {o : Oper} (hn : ∀ c, o.op ≠ .defer c) {a : Act} {w : World} {K : Act → World → Prop} (h : o.wpIn Fence.wide n P a w K Q) : o.wpIn (Fence.wide.inRound l₀) n P a w K Q := by
  unfold Oper.wpIn at *
  rw [Oper.semAt_eq _ _ _ hn] at h ⊢
  exact h

theorem anyIn_round (hn : ∀ (i : Nat) (o : Oper), ops[i]? = some o → ∀ c, o.op ≠ .defer c) : ∀ (fuel : Nat) (listed : Array Bool) (a : Act) (w : World),
    wpAnyIn Fence.wide n P md ops Q fuel listed a w → wpAnyIn (Fence.wide.inRound l₀) n P md ops Q fuel listed a w
  | 0, _, _, _, h => h
  | fuel + 1, listed, a, w, h => ⟨h.1, fun i hi => by
      have h2 := wpOpIn_mono (fun a w => anyIn_round hn fuel (listed.setIfInBounds i true) a w) (h.2 i hi)
      unfold wpOpIn at h2 ⊢
      split
      · rename_i ho; simpa only [ho] using h2
      · rename_i o ho
        simp only [ho] at h2
        split
        · rename_i hw; simp only [hw, if_true] at h2; exact operIn_round (hn i o ho) h2
        · rename_i hw; simp only [hw] at h2; exact h2⟩

theorem region_quiet_round {id : Nat} {a : Act} {w : World} {l : List Oper} (hm : P.follows .mixedOrders = true) (hB : Region.lexB .any l.toArray = true) (hd : l.all noDefer = true)
    (h : wpQuietIn Fence.wide n P l.toArray (fun w' => ∃ n, w' = w.drewN n) (fun a' => ∀ w', (∃ n, w' = w.drewN n) → Q .normal a' w') l a) : (Code.region id l.toArray true).wpIn (Fence.wide.inRound l₀) n P Q a w := by
  simp only [Region.lexB, Bool.and_eq_true] at hB
  have hn : ∀ (i : Nat) (o : Oper), l.toArray[i]? = some o → ∀ c, o.op ≠ .defer c := fun i o ho => noDefer_spec (List.all_eq_true.1 hd o (List.mem_of_getElem? (by simpa using ho)))
  refine wpIn_region_any hm (anyIn_round hn _ _ _ _ (wpAnyIn_of_quiet (C := fun w' => ∃ n, w' = w.drewN n) (Q := fun a' => ∀ w', (∃ n, w' = w.drewN n) → Q .normal a' w') rfl (fun _ w' hw' h => h w' hw') _ _ _ _ ⟨1, rfl⟩ ?_))
  have := wpAnyQIn_lex (F := Fence.wide) (n := n) (P := P) (C := fun w' => ∃ n, w' = w.drewN n) (Q := fun a' => ∀ w', (∃ n, w' = w.drewN n) → Q .normal a' w') (md := .any) hB.1 l 0 (Array.replicate l.toArray.size false) a (by simp) (by simpa using hB.2) h
  simpa using this
end

/-! A region that reads, and calls quietly, ahead of a tail that comes last in every order (a store): in a round, and outside of one. -/
section
variable {m : Nat} {P : Program} {ops : Array Oper} {md : Region.Mode} {C : World → Prop} {Q : Exit → Act → World → Prop}

/-- Whatever order is picked of the first n operations. -/
def headQ (m : Nat) (P : Program) (md : Region.Mode) (ops : Array Oper) (C : World → Prop) (n : Nat) (L : Array Bool → Act → Prop) : Nat → Array Bool → Act → Prop
  | 0, listed, a => L listed a
  | f + 1, listed, a => Region.ready md ops listed ≠ [] ∧ ∀ i ∈ Region.ready md ops listed, i < n ∧ qOpIn Fence.wide m P ops C i (headQ m P md ops C n L f (listed.setIfInBounds i true)) a

theorem anyIn_of_head {n g : Nat} {L : Array Bool → Act → Prop} (hL : ∀ listed a w, C w → L listed a → wpAnyIn Fence.wide m P md ops Q g listed a w) :
    ∀ (f : Nat) (listed : Array Bool) (a : Act) (w : World), C w → headQ m P md ops C n L f listed a → wpAnyIn Fence.wide m P md ops Q (f + g) listed a w
  | 0, listed, a, w, hw, h => by rw [Nat.zero_add]; exact hL _ _ _ hw h
  | f + 1, listed, a, w, hw, h => by
    rw [show f + 1 + g = (f + g) + 1 by omega]
    exact ⟨fun h0 => absurd h0 h.1, fun i hi => wpOpIn_of_qOpIn rfl hw (fun a' w' hw' h' => anyIn_of_head hL f _ a' w' hw' h') (h.2 i hi).2⟩

theorem headQ_first {n i : Nat} {oi : Oper} {v : Value} {L : Array Bool → Act → Prop} (hi : ops[i]? = some oi) (hsel : ∀ (j : Nat) (o : Oper) cs b, ops[j]? = some o → o.op ≠ .select cs b)
    (hs : Region.sinkB md ops n = true) (hc : Region.chainB md ops n = true) (hn : n < ops.size) (hin : i < n) (hdone : ∀ listed a, L listed a → ∀ j ∈ Region.ready md ops listed, n ≤ j) :
    ∀ (f : Nat) (listed : Array Bool) (a : Act), HeadInv md ops n listed →
      (∀ j oj, ops[j]? = some oj → j ≠ i → listed.getD j true = false → (∀ e ∈ oj.after, Region.binds md e = true → e.on ≠ i) → oi.apart ops oj = true) →
      i ∈ Region.ready md ops listed → YieldsQuiet Fence.wide m P ops C oi v a →
      headQ m P md ops C n L f (listed.setIfInBounds i true) (a.put oi.dst v) → headQ m P md ops C n L (f + 1) listed a
  | f, listed, a, inv, hfree, hr, hy, H => by
    have hun := (mem_ready.1 hr).1
    refine ⟨fun h => (by rw [h] at hr; cases hr), fun j hj => ?_⟩
    have hjn : j < n := by
      rcases Nat.lt_or_ge j n with h | h
      · exact h
      · exact absurd hj (tail_waits hs hc hn inv _ i rfl hin hun j h)
    refine ⟨hjn, ?_⟩
    by_cases hji : j = i
    · subst hji; exact hy.qOpIn hi H
    · cases f with
      | zero => have := hdone _ _ H j (ready_mono hj hji); omega
      | succ f =>
        have h1 := (H.2 j (ready_mono hj hji)).2
        obtain ⟨hjun, oj, hoj, hall⟩ := mem_ready.1 hj
        have hnot : ∀ e ∈ oj.after, Region.binds md e = true → e.on ≠ i := fun e he hb heq => by
          have h1 := hall e he hb
          rw [heq, getD_both hun] at h1
          cases h1
        have h2 := qOpIn_put hoj (hfree j oj hoj hji hjun hnot) (fun cs b => hsel i oi cs b hi) (fun cs b => hsel j oj cs b hoj) hy h1
        have hfree' : ∀ k ok, ops[k]? = some ok → k ≠ i → (listed.setIfInBounds j true).getD k true = false →
            (∀ e ∈ ok.after, Region.binds md e = true → e.on ≠ i) → oi.apart ops ok = true := fun k ok hk hki hkun hno => by
          refine hfree k ok hk hki ?_ hno
          by_cases hjk : j = k
          · subst hjk; exact hjun
          · rw [getD_set_ne true hjk] at hkun; exact hkun
        refine qOpIn_mono (fun a' h3 => headQ_first hi hsel hs hc hn hin hdone f (listed.setIfInBounds j true) a' (inv.set hj hjn) hfree' (ready_mono hr (Ne.symm hji)) h3.1 ?_) h2
        rw [Array.setIfInBounds_comm _ _ hji]
        exact h3.2

theorem anyIn_of_seq : ∀ (l : List Oper) (k : Nat) (listed : Array Bool) (a : Act) (w : World), (∀ j, l[j]? = ops[k + j]?) →
    Region.seqB md ops l.length k listed = true → wpListIn Fence.wide m P ops Q l a w → wpAnyIn Fence.wide m P md ops Q l.length listed a w
  | [], _, _, _, _, _, hB, h => ⟨by simpa [Region.seqB] using hB, h⟩
  | o :: l, k, listed, a, w, hl, hB, h => by
    have h0 : ops[k]? = some o := by simpa using (hl 0).symm
    simp only [List.length_cons, Region.seqB, Bool.and_eq_true, decide_eq_true_eq] at hB
    refine ⟨fun h1 => (by rw [hB.1] at h1; cases h1), fun i hi => ?_⟩
    rw [hB.1] at hi
    have hik : i = k := by simpa using hi
    subst hik
    have hw : wpOpIn Fence.wide m P ops Q i (wpListIn Fence.wide m P ops Q l) a w := by unfold wpOpIn; simp only [h0]; exact h
    exact wpOpIn_mono (fun a' w' h' => anyIn_of_seq l (i + 1) _ a' w' (fun j => by have := hl (j + 1); simpa [Nat.add_assoc, Nat.add_comm 1 j] using this) hB.2 h') hw

theorem headQ_lex {n g : Nat} {Lq : Act → Prop} (hsel : Region.noSelect ops = true) (hs : Region.sinkB md ops n = true) (hc : Region.chainB md ops n = true) (hn : n < ops.size) :
    ∀ (l : List Oper) (k : Nat) (listed : Array Bool) (a : Act), (∀ j, j < l.length → l[j]? = ops[k + j]?) → k + l.length = n → HeadInv md ops n listed →
    Region.lexHead md ops g l.length k listed = true → wpQuietIn Fence.wide m P ops C Lq l a →
    headQ m P md ops C n (fun listed' a' => Region.seqB md ops g n listed' = true ∧ Lq a') l.length listed a
  | [], k, listed, a, _, hk, _, hB, h => by
    have : k = n := by simpa using hk
    subst this
    exact ⟨by simpa [Region.lexHead] using hB, h⟩
  | o :: l, k, listed, a, hl, hk, inv, hB, h => by
    have h0 : ops[k]? = some o := by simpa using (hl 0 (by simp)).symm
    simp only [List.length_cons, Region.lexHead, Bool.and_eq_true] at hB
    obtain ⟨⟨hr, hf⟩, hB'⟩ := hB
    have hkn : k < n := by simp only [List.length_cons] at hk; omega
    have hr' : k ∈ Region.ready md ops listed := by simpa using hr
    have hst : qOpIn Fence.wide m P ops C k (wpQuietIn Fence.wide m P ops C Lq l) a := by unfold qOpIn; simp only [h0]; exact h
    obtain ⟨v, hy, hK⟩ := yieldsQuiet_of_qOpIn h0 hst
    exact headQ_first h0 (Region.noSelect_spec hsel) hs hc hn hkn (fun listed' a' hL => seqB_ready hL.1) l.length listed a inv (Region.free_spec h0 hf) hr' hy
      (headQ_lex hsel hs hc hn l (k + 1) _ _ (fun j hj => by have := hl (j + 1) (by simp; omega); simpa [Nat.add_assoc, Nat.add_comm 1 j] using this) (by simp only [List.length_cons] at hk; omega) (inv.set hr' hkn) hB' hK)

theorem any_tail {a : Act} {w : World} {l : List Oper} (n : Nat) (hB : Region.lexTailB .any l.toArray n = true)
    (h : wpQuietIn Fence.wide m P l.toArray (fun w' => ∃ k, w' = w.drewN k) (fun a' => ∀ w', (∃ k, w' = w.drewN k) → wpListIn Fence.wide m P l.toArray Q (l.drop n) a' w') (l.take n) a) :
    wpAnyIn Fence.wide m P .any l.toArray Q l.toArray.size (Array.replicate l.toArray.size false) a { w with drawn := w.drawn + 1 } := by
  simp only [Region.lexTailB, Bool.and_eq_true, decide_eq_true_eq] at hB
  obtain ⟨⟨⟨⟨hsel, hn⟩, hs⟩, hc⟩, hlex⟩ := hB
  have hnl : n < l.length := by simpa using hn
  have e : l.toArray.size = (l.take n).length + (l.drop n).length := by simp; omega
  have key := headQ_lex (m := m) (P := P) (C := fun w' => ∃ k, w' = w.drewN k) (g := (l.drop n).length) (Lq := fun a' => ∀ w', (∃ k, w' = w.drewN k) → wpListIn Fence.wide m P l.toArray Q (l.drop n) a' w') hsel hs hc hn (l.take n) 0
    (Array.replicate l.toArray.size false) a (fun j hj => by simp at hj; simp [List.getElem?_take]; omega) (by simp; omega)
    ⟨by simp, (fun j oj _ hl => by rw [getD_replicate_false] at hl; cases hl), (fun t ht ht' => by simp at ht'; simp [ht'])⟩
    (by have h1 : (l.take n).length = n := by simp; omega
        have h2 : (l.drop n).length = l.toArray.size - n := by simp
        rw [h1, h2]; exact hlex) h
  rw [e] at key ⊢
  exact anyIn_of_head (fun listed a w' hw' hL => anyIn_of_seq (l.drop n) n listed a w' (fun j => by simp) hL.1 (hL.2 w' hw')) _ _ _ _ ⟨1, rfl⟩ key

theorem region_tail_round {id : Nat} {a : Act} {w : World} {l : List Oper} {l₀ : Nat} (n : Nat) (hm : P.follows .mixedOrders = true) (hB : Region.lexTailB .any l.toArray n = true) (hd : l.all noDefer = true)
    (h : wpQuietIn Fence.wide m P l.toArray (fun w' => ∃ k, w' = w.drewN k) (fun a' => ∀ w', (∃ k, w' = w.drewN k) → wpListIn Fence.wide m P l.toArray Q (l.drop n) a' w') (l.take n) a) :
    (Code.region id l.toArray true).wpIn (Fence.wide.inRound l₀) m P Q a w :=
  wpIn_region_any hm (anyIn_round (fun _ o ho => noDefer_spec (List.all_eq_true.1 hd o (List.mem_of_getElem? (by simpa using ho)))) _ _ _ _ (any_tail n hB h))
theorem region_tail {id : Nat} {a : Act} {w : World} {l : List Oper} (n : Nat) (hm : P.follows .mixedOrders = true) (hB : Region.lexTailB .any l.toArray n = true)
    (h : wpQuietIn Fence.wide m P l.toArray (fun w' => ∃ k, w' = w.drewN k) (fun a' => ∀ w', (∃ k, w' = w.drewN k) → wpListIn Fence.wide m P l.toArray Q (l.drop n) a' w') (l.take n) a) :
    (Code.region id l.toArray true).wpIn Fence.wide m P Q a w :=
  wpIn_region_any hm (any_tail n hB h)
end

theorem quietIn_left {P : Program} {f : FuncId} {args : Array Value} {w : World} {r n : Nat} {v : Value}
    (h : Calls P f args (w.drewN n) fun e w' => e = .returned v ∧ w.drewN n = w') : CallsIn Fence.wide r P f args (w.drewN n) fun e w'' => e = .returned v ∧ ∃ m, w'' = w.drewN m :=
  callsIn_wide.2 (h.mono fun _ _ ⟨he, hm⟩ => ⟨he, n, hm.symm⟩)
theorem quietIn_add {P : Program} {f : FuncId} {args : Array Value} {w : World} {r a n : Nat} {v : Value}
    (h : Calls P f args (w.drewN (a + n)) fun e w' => e = .returned v ∧ w.drewN (a + n) = w') : CallsIn Fence.wide r P f args (w.drewN (a + n)) fun e w'' => e = .returned v ∧ ∃ m, w'' = w.drewN (a + m) :=
  callsIn_wide.2 (h.mono fun _ _ ⟨he, hm⟩ => ⟨he, n, hm.symm⟩)
end Go.Proofs.Ytipdmaggfbfnlaa

/- A region that draws its order, in a round of a loop over a function, by the laws for plain machines: where nothing in it defers, and no round may outgrow. -/
namespace Go.Proofs.Ytipdmaggfbfnlaa
open Go.RowKit

section
variable {n : Nat} {P : Program} {ops : Array Oper} {Q : Exit → Act → World → Prop} {md : Region.Mode} {S : World → Prop} {l₀ : Nat}
theorem rows_wide {row : String} {args : Array Value} {w : World} {R : Value → World → Prop} (h : Rows P row args w R) : RowsIn Fence.wide n P row args w R :=
  fun c cs _ => let ⟨v, w', r, s⟩ := h c cs; ⟨v, w', r, stepsIn_wide.2 s⟩
theorem oper_wide {o : Oper} {a : Act} {w : World} {K : Act → World → Prop} (h : o.wp P a w K Q) : o.wpIn Fence.wide n P a w K Q := by
  unfold Oper.wp at h
  refine ⟨fun _ _ => trivial, ?_⟩
  rw [show Fence.wide.round = none from rfl, Oper.semAt_none]
  generalize (execOp a.eval o).run P w = r at h ⊢
  have hd : Fence.wide.depth.isSome = true → 1 ≤ n := fun e => by cases e
  cases r with
  | ok x w' =>
    cases x with
    | value v => exact h
    | skip => exact h
    | defer d => exact h
    | enter f args => exact ⟨hd, callsIn_wide.2 h⟩
    | row row args => exact ⟨hd, rows_wide h⟩
    | _ => exact h.elim
  | halt x w' => cases x <;> exact h
theorem op_wide (hQ : ¬ LetsOut Q) {i : Nat} {a : Act} {w : World} {K K' : Act → World → Prop} (hK : ∀ a w, K a w → K' a w) (h : wpOp P ops Q i K a w) : wpOpIn Fence.wide n P ops Q i K' a w := by
  unfold wpOp at h
  unfold wpOpIn
  split
  · rename_i ho; simp only [ho] at h; exact hK _ _ h
  · rename_i o ho
    simp only [ho] at h
    split
    · rename_i hw
      simp only [hw, if_true] at h
      rcases h with h | h
      · exact Oper.wpIn_mono hK (oper_wide h)
      · exact absurd h.2 hQ
    · rename_i hw
      simp only [hw] at h
      exact ⟨fun _ _ => trivial, hK _ _ h⟩
theorem any_wide (hQ : ¬ LetsOut Q) : ∀ (fuel : Nat) (listed : Array Bool) (a : Act) (w : World), wpAny P md ops Q fuel listed a w → wpAnyIn Fence.wide n P md ops Q fuel listed a w
  | 0, _, _, _, h => h
  | fuel + 1, _, _, _, h => ⟨h.1, fun i hi => op_wide hQ (fun a w h' => any_wide hQ fuel _ a w h') (h.2 i hi)⟩
/-- The beginning, in a round: a condition S on the worlds met is shown of the world behind the draw, and handed on. -/
theorem region_held_round {id : Nat} {a : Act} {w : World} {l : List Oper} (hm : P.follows .mixedOrders = true) (hd : l.all noDefer = true) (hQ : ¬ LetsOut Q) (hS : S w.drew)
    (h : S w.drew → wpAnyH P .any l.toArray Q S l.toArray.size (Array.replicate l.toArray.size false) a w.drew) : (Code.region id l.toArray true).wpIn (Fence.wide.inRound l₀) n P Q a w :=
  wpIn_region_any hm (anyIn_round (fun _ o ho => noDefer_spec (List.all_eq_true.1 hd o (List.mem_of_getElem? (by simpa using ho)))) _ _ _ _ (any_wide hQ _ _ _ _ (wpAny_of_held _ _ _ _ (h hS))))
end

/-! A region whose last operation writes what an earlier one has read: the condition S is asked behind every operation but the last one, z, which waits for all. -/
section
variable {n : Nat} {P : Program} {ops : Array Oper} {Q : Exit → Act → World → Prop} {md : Region.Mode} {S : World → Prop} {z : Nat} {l₀ : Nat}
def anyT (P : Program) (md : Region.Mode) (ops : Array Oper) (Q : Exit → Act → World → Prop) (S : World → Prop) (z : Nat) : Nat → Array Bool → Act → World → Prop
  | 0, listed, a, w => Region.ready md ops listed = [] ∧ Q .normal a w
  | fuel + 1, listed, a, w => (Region.ready md ops listed = [] → Q .normal a w) ∧
    ∀ i ∈ Region.ready md ops listed, wpOp P ops Q i (fun a' w' => (i ≠ z → S w') ∧ anyT P md ops Q S z fuel (listed.setIfInBounds i true) a' w') a w
theorem any_of_T : ∀ (fuel : Nat) (listed : Array Bool) (a : Act) (w : World), anyT P md ops Q S z fuel listed a w → wpAny P md ops Q fuel listed a w
  | 0, _, _, _, h => h
  | fuel + 1, _, _, _, h => ⟨h.1, fun i hi => wpOp_mono (fun a' w' h' => any_of_T fuel _ a' w' h'.2) (h.2 i hi)⟩
/-- What may come up before the last one may be taken first, if it yields the same in every world met. -/
theorem anyT_first {i : Nat} {oi : Oper} {v : Value} (hi : ops[i]? = some oi) (hsel : ∀ (j : Nat) (o : Oper) cs b, ops[j]? = some o → o.op ≠ .select cs b)
    (hQ : ∀ c a w, Q (.panic c) (a.put oi.dst v) w → Q (.panic c) a w) (hs : Region.sinkB md ops z = true) (hc : Region.chainB md ops z = true) (hz : z < ops.size) (hiz : i < z) :
    ∀ (fuel : Nat) (listed : Array Bool) (a : Act) (w : World), HeadInv md ops z listed →
      (∀ j oj, ops[j]? = some oj → j ≠ i → listed.getD j true = false → (∀ e ∈ oj.after, Region.binds md e = true → e.on ≠ i) → oi.apart ops oj = true) →
      i ∈ Region.ready md ops listed → YieldsIf P ops S oi v a → S w →
      anyT P md ops Q S z fuel (listed.setIfInBounds i true) (a.put oi.dst v) w → anyT P md ops Q S z (fuel + 1) listed a w
  | fuel, listed, a, w, inv, hfree, hr, hy, hS, H => by
    have hun := (mem_ready.1 hr).1
    refine ⟨fun h => (by rw [h] at hr; cases hr), fun j hj => ?_⟩
    by_cases hji : j = i
    · rw [hji]; exact hy.wpOp hi hS ⟨fun _ => hS, H⟩
    · have hjz : j < z := by
        rcases Nat.lt_or_ge j z with h | h
        · exact h
        · exact absurd hj (tail_waits hs hc hz inv _ i rfl hiz hun j h)
      cases fuel with
      | zero =>
        have := ready_mono hj hji
        rw [H.1] at this
        cases this
      | succ fuel =>
        have h1 := H.2 j (ready_mono hj hji)
        obtain ⟨hjun, oj, hoj, hall⟩ := mem_ready.1 hj
        have hnot : ∀ e ∈ oj.after, Region.binds md e = true → e.on ≠ i := fun e he hb heq => by
          have h1 := hall e he hb
          rw [heq, getD_both hun] at h1
          cases h1
        have h2 := wpOp_putIf hoj (hfree j oj hoj hji hjun hnot) (fun cs b => hsel i oi cs b hi) (fun cs b => hsel j oj cs b hoj) hQ hy h1
        have hfree' : ∀ k ok, ops[k]? = some ok → k ≠ i → (listed.setIfInBounds j true).getD k true = false →
            (∀ e ∈ ok.after, Region.binds md e = true → e.on ≠ i) → oi.apart ops ok = true := fun k ok hk hki hkun hno => by
          refine hfree k ok hk hki ?_ hno
          by_cases hjk : j = k
          · rw [← hjk]; exact hjun
          · rw [getD_set_ne true hjk] at hkun; exact hkun
        refine wpOp_mono (fun a' w' h3 => ?_) h2
        have hS' := h3.2.1 (by omega)
        refine ⟨fun _ => hS', anyT_first hi hsel hQ hs hc hz hiz fuel (listed.setIfInBounds j true) a' w' (inv.set hj hjz) hfree' (ready_mono hr (Ne.symm hji)) h3.1 hS' ?_⟩
        rw [Array.setIfInBounds_comm _ _ hji]
        exact h3.2.2
/-- The state of a walk through the head, as a Bool. -/
def headB (md : Region.Mode) (ops : Array Oper) (z : Nat) (listed : Array Bool) : Bool :=
  listed.size == ops.size && ((List.range ops.size).all (fun j => !(listed.getD j false) || match ops[j]? with | some o => o.after.all (fun e => !(Region.binds md e) || listed.getD e.on false) | none => true) &&
    (List.range ops.size).all fun t => decide (t < z) || !(listed.getD t true))
theorem headB_inv {listed : Array Bool} (h : headB md ops z listed = true) : HeadInv md ops z listed := by
  unfold headB at h
  rw [Bool.and_eq_true, Bool.and_eq_true, List.all_eq_true, List.all_eq_true, beq_iff_eq] at h
  refine ⟨h.1, fun j oj hj hl e he hb => ?_, fun t ht htn => ?_⟩
  · have := h.2.1 j (by simpa using (Array.getElem?_eq_some_iff.1 hj).1)
    rw [hj, hl] at this
    simp only [Bool.not_true, Bool.false_or] at this
    rw [Array.all_eq_true_iff_forall_mem] at this
    have h2 := this e he
    rw [hb] at h2
    simpa using h2
  · have := h.2.2 t (by simpa using htn)
    have hlt : ¬ t < z := by omega
    simpa [hlt] using this
theorem anyT_take {i : Nat} {oi : Oper} {v : Value} {fuel : Nat} {listed : Array Bool} {a : Act} {w : World} (hi : ops[i]? = some oi)
    (hc : (Region.noSelect ops && Region.sinkB md ops z && Region.chainB md ops z && decide (z < ops.size) && decide (i < z) && headB md ops z listed && Region.free md ops listed i && (Region.ready md ops listed).contains i) = true)
    (hQ : ∀ c a w, Q (.panic c) (a.put oi.dst v) w → Q (.panic c) a w) (hy : YieldsIf P ops S oi v a) (hS : S w)
    (h : anyT P md ops Q S z fuel (listed.setIfInBounds i true) (a.put oi.dst v) w) : anyT P md ops Q S z (fuel + 1) listed a w := by
  simp only [Bool.and_eq_true, decide_eq_true_eq] at hc
  obtain ⟨⟨⟨⟨⟨⟨⟨h1, h2⟩, h3⟩, h4⟩, h5⟩, h6⟩, h7⟩, h8⟩ := hc
  exact anyT_first hi (Region.noSelect_spec h1) hQ h2 h3 h4 h5 fuel listed a w (headB_inv h6) (Region.free_spec hi h7) (by simpa using h8) hy hS h
/-- The only one that may come up: it is carried out. -/
theorem anyT_one {i : Nat} {o : Oper} {fuel : Nat} {listed : Array Bool} {a : Act} {w : World} (hr : Region.ready md ops listed = [i]) (ho : ops[i]? = some o)
    (h : ∀ K' : Act → World → Prop, Shut (∀ a w, (i ≠ z → S w) → anyT P md ops Q S z fuel (listed.setIfInBounds i true) a w → K' a w) → if Region.wanted o (yielded ops a.tmps) = true then Oper.wp P o a w K' Q else K' (a.put o.dst undef) w) :
    anyT P md ops Q S z (fuel + 1) listed a w :=
  ⟨fun h0 => (by rw [hr] at h0; cases h0), fun j hj => by
    rw [hr] at hj
    obtain rfl := List.mem_singleton.1 hj
    exact wpOp_step ho (fun K' hK => h K' (fun a w hS hW => hK a w ⟨hS, hW⟩))⟩
theorem anyT_done {listed : Array Bool} {a : Act} {w : World} (hr : Region.ready md ops listed = []) (h : Q .normal a w) : ∀ fuel, anyT P md ops Q S z fuel listed a w
  | 0 => ⟨hr, h⟩
  | _ + 1 => ⟨fun _ => h, by rw [hr]; simp⟩
theorem region_T_round {id : Nat} {a : Act} {w : World} {l : List Oper} (z : Nat) (hm : P.follows .mixedOrders = true) (hd : l.all noDefer = true) (hQ : ¬ LetsOut Q)
    (h : anyT P .any l.toArray Q S z l.toArray.size (Array.replicate l.toArray.size false) a w.drew) : (Code.region id l.toArray true).wpIn (Fence.wide.inRound l₀) n P Q a w :=
  wpIn_region_any hm (anyIn_round (fun _ o ho => noDefer_spec (List.all_eq_true.1 hd o (List.mem_of_getElem? (by simpa using ho)))) _ _ _ _ (any_wide hQ _ _ _ _ (any_of_T _ _ _ _ h)))
theorem region_T {id : Nat} {a : Act} {w : World} {l : List Oper} (z : Nat) (hm : P.follows .mixedOrders = true)
    (h : anyT P .any l.toArray Q S z l.toArray.size (Array.replicate l.toArray.size false) a w.drew) : (Code.region id l.toArray true).wp P Q a w :=
  wp_region_any hm (any_of_T _ _ _ _ h)
end
end Go.Proofs.Ytipdmaggfbfnlaa

/- A range over a function that yields what lies in memory of its own (rows): 'own x' names the blocks of x, 'Has x' how it lies. The contract of such an iterator, and the law for the statement. -/
namespace Go.Proofs.Ytipdmaggfbfnlaa
open Go.RowKit

/-- What is said of x abides the turn of all but x's own blocks. -/
def HasFirm {α : Type} (own : α → Nat → Prop) (Has : α → World → Prop) : Prop := ∀ x W W', Has x W → Upd (fun k => ¬ own x k) W W' → Has x W'

/-- The iterator's contract: lists for which Ok holds; Full tells of the whole. -/
def IterG {α : Type} (P : Program) (g : Nat) (lb : Array Value) (encs : α → Array Value) (own : α → Nat → Prop) (Has : α → World → Prop) (Ok Full : List α → Prop) (M : Nat → Prop) (w : World) : Prop :=
  ∀ (l : Nat) (J Jx : List α → (Nat → Prop) → World → Prop), Firm w.heap.size J → Firm w.heap.size Jx →
    (∀ pre x D W, J pre D W → w.heap.size ≤ W.heap.size → Ok (pre ++ [x]) → Has x W → (∀ k, own x k → w.heap.size ≤ k ∧ k < W.heap.size ∧ ¬ D k) → ∀ m, YieldAt Fence.wide m P l (encs x) W fun e W' =>
      (e = .returned (.bool true) ∧ ∃ D', J (pre ++ [x]) D' W' ∧ Upd (fun k => M k ∨ D k ∨ own x k) W W' ∧ ∀ k, D' k → (D k ∨ own x k) ∨ W.heap.size ≤ k ∧ k < W'.heap.size) ∨
      (e = .returned (.bool false) ∧ ∃ D', Jx (pre ++ [x]) D' W' ∧ Upd (fun k => M k ∨ D k ∨ own x k) W W' ∧ ∀ k, D' k → (D k ∨ own x k) ∨ W.heap.size ≤ k ∧ k < W'.heap.size)) →
    J [] (fun _ => False) w →
    Calls P g (#[.func (.yield l) #[] #[]] ++ lb) w fun e W' => (∃ v, e = .returned v) ∧ ((∃ xs D, Full xs ∧ J xs D W') ∨ ∃ pre D, Ok pre ∧ Jx pre D W')

/-- What a round owes: the assignments, then the body. -/
def RoundOwesG {α : Type} (P : Program) (m B : Nat) (encs : α → Array Value) (own : α → Nat → Prop) (Has : α → World → Prop) (ps : Array Tmp) (tmps : Array Value) (assign body : Code) (Ok : List α → Prop) (M : Nat → Prop) (J : List α → (Nat → Prop) → World → Prop) (Jx : Code → List α → (Nat → Prop) → World → Prop) : Prop :=
  ∀ (l : Nat) (pre : List α) (x : α) (D : Nat → Prop) (W : World), B ≤ l → l < W.heap.size → ¬ D l → ¬ own x l → (∀ k, D k → B ≤ k ∧ k < W.heap.size) → (∀ k, own x k → B ≤ k ∧ k < W.heap.size ∧ ¬ D k) → J pre D W → Has x W → Ok (pre ++ [x]) →
    ∀ K : Act → World → Prop,
      (∀ a' Wa, Upd (fun _ => False) W Wa → (∀ Wb, Upd (fun k => k = l) Wa Wb → (∃ r, Wb.heap[l]? = some (.loop r)) → J pre D Wb → Has x Wb → body.wpIn (Fence.wide.inRound l) m P (roundEnd M J Jx (pre ++ [x]) (fun k => D k ∨ own x k) W.heap.size Wb) a' Wb) → K a' Wa) →
      assign.wpIn (Fence.wide.inRound l) m P (Exit.then K (fun _ _ _ => False)) { tmps := (ps.zip (encs x)).foldl (fun t (p, v) => t.setIfInBounds p v) tmps, defers := [] } W

section
variable {P : Program} {n : Nat}

/-- The invariant of one round alone. -/
def oneJ {α : Type} (own : α → Nat → Prop) (Has : α → World → Prop) (J : List α → (Nat → Prop) → World → Prop) (pre : List α) (x : α) : List Unit → (Nat → Prop) → World → Prop
  | [], D, W => ∃ D0, D = (fun k => D0 k ∨ own x k) ∧ (∀ k, own x k → ¬ D0 k) ∧ J pre D0 W ∧ Has x W
  | [_], D, W => J (pre ++ [x]) D W
  | _, _, _ => False
theorem oneJ_firm {α : Type} {own : α → Nat → Prop} {Has : α → World → Prop} {J : List α → (Nat → Prop) → World → Prop} {pre : List α} {x : α} {B : Nat} (hH : HasFirm own Has) (hJ : Firm B J) : Firm B (oneJ own Has J pre x) := by
  intro s D W W' hs hu
  match s, hs with
  | [], hs =>
    obtain ⟨D0, rfl, h0, hj, hh⟩ := hs
    exact ⟨D0, rfl, h0, hJ _ _ _ _ hj (hu.mono fun k _ e => ⟨e.1, fun e2 => e.2 (.inl e2)⟩), hH _ _ _ hh (hu.mono fun k _ e e2 => e.2 (.inr e2))⟩
  | [_], hs => exact hJ _ _ _ _ hs hu

theorem round_ofG {α : Type} {l B B1 : Nat} {rec : LoopState → Option Code → Loop} {M : Nat → Prop} {encs : α → Array Value} {own : α → Nat → Prop} {Has : α → World → Prop} {ps : Array Tmp} {tmps : Array Value} {assign body : Code} {fn : Nat} {Ok : List α → Prop}
    {J : List α → (Nat → Prop) → World → Prop} {Jx : Code → List α → (Nat → Prop) → World → Prop} {rest : World → Prop}
    (hrec : ∀ st pe, (rec st pe).state = st ∧ (rec st pe).params = ps ∧ (rec st pe).fn = fn ∧ (rec st pe).tmps = tmps ∧ (rec st pe).assign = assign ∧ (rec st pe).body = body ∧ ∀ st' pe', { rec st pe with state := st', pending := pe' } = rec st' pe')
    (hrec2 : ∀ st pe st', { rec st pe with state := st' } = rec st' pe)
    (hps : ∀ x, (encs x).size = ps.size) (hH : HasFirm own Has) (hJ : Firm B J) (hJx : ∀ c, Firm B (Jx c)) (hl : B ≤ l) (hl1 : l < B1) (hM : ∀ k, M k → k < B)
    (hrest : ∀ W W', rest W → Upd (fun k => M k ∨ B1 ≤ k ∨ k = l) W W' → rest W')
    (howes : RoundOwesG P n B encs own Has ps tmps assign body Ok M J Jx)
    {pre : List α} {x : α} {D : Nat → Prop} {W : World} (hj : J pre D W) (hh : Has x W) (hlw : W.heap[l]? = some (.loop (rec .ready none))) (hD : ∀ k, D k → B1 ≤ k ∧ k < W.heap.size) (hO : ∀ k, own x k → B1 ≤ k ∧ k < W.heap.size ∧ ¬ D k) (hr : rest W) (hB1 : B1 ≤ W.heap.size) (hpre : Ok (pre ++ [x])) (m : Nat) :
    YieldAt Fence.wide m P l (encs x) W fun e W' =>
      (e = .returned (.bool true) ∧ ∃ D', (J (pre ++ [x]) D' W' ∧ W'.heap[l]? = some (.loop (rec .ready none)) ∧ (∀ k, D' k → B1 ≤ k ∧ k < W'.heap.size) ∧ rest W') ∧ Upd (fun k => M k ∨ k = l ∨ D k ∨ own x k) W W' ∧ ∀ k, D' k → (D k ∨ own x k) ∨ W.heap.size ≤ k ∧ k < W'.heap.size) ∨
      (e = .returned (.bool false) ∧ ∃ D', (∃ c, Jx c (pre ++ [x]) D' W' ∧ W'.heap[l]? = some (.loop (rec .done (some c))) ∧ (∀ k, D' k → B1 ≤ k ∧ k < W'.heap.size) ∧ rest W') ∧ Upd (fun k => M k ∨ k = l ∨ D k ∨ own x k) W W' ∧ ∀ k, D' k → (D k ∨ own x k) ∨ W.heap.size ≤ k ∧ k < W'.heap.size) := by
  have h := round_of (P := P) (n := n) (α := Unit) (l := l) (B := B) (B1 := B1) (rec := rec) (M := M) (encs := fun _ => encs x) (ps := ps) (tmps := tmps) (assign := assign) (body := body) (fn := fn) (L := [()])
    (J := oneJ own Has J pre x) (Jx := fun c _ D W => Jx c (pre ++ [x]) D W) (rest := rest) hrec hrec2 (fun _ => hps x) (oneJ_firm hH hJ) (fun c s D W W' hs hu => hJx c _ _ _ _ hs hu) hl hl1 hM hrest
    (by
      intro l' pre' x' D' W' h1 h2 h3 h4 hj' hp' K hK
      obtain rfl : pre' = [] := by
        have := hp'.length_le
        simp at this
        exact this
      obtain ⟨D0, rfl, h0, hj0, hh0⟩ := hj'
      refine howes l' pre x D0 W' h1 h2 (fun e => h3 (.inl e)) (fun e => h3 (.inr e)) (fun k hk => h4 k (.inl hk)) (fun k hk => ⟨(h4 k (.inr hk)).1, (h4 k (.inr hk)).2, h0 k hk⟩) hj0 hh0 hpre K ?_
      intro a' Wa hua hbody
      refine hK a' Wa hua ?_
      intro Wb hub hlb hjb
      obtain ⟨D1, e1, h1', hj1, hh1⟩ := hjb
      refine wpIn_mono (hbody Wb hub hlb (hJ _ _ _ _ (hJ _ _ _ _ hj0 (hua.mono fun _ _ e => e.elim)) (hub.mono fun k _ e => by rw [e]; exact ⟨h1, fun e2 => h3 (.inl e2)⟩)) hh1) ?_
      intro e a3 W3 hp
      cases e <;> exact hp)
    (pre := []) (x := ()) (D := fun k => D k ∨ own x k) (W := W) ⟨D, rfl, fun k hk => (hO k hk).2.2, hj, hh⟩ hlw (fun k hk => hk.elim (hD k) (fun e => ⟨(hO k e).1, (hO k e).2.1⟩)) hr hB1 (List.prefix_refl _) m
  obtain ⟨fn', tm, asg, bo, hy, hR⟩ := h
  exact ⟨fn', tm, asg, bo, hy, hR.mono fun e W' hp => hp⟩

/-- The statement, outside of any round. -/
theorem range_outG {α : Type} {g : Operand} {ps : Array Tmp} {assign body : Code} {Q : Exit → Act → World → Prop} {a : Act} {w : World} {gf : Nat} {lb : Array Value}
    (hg : a.eval g = .func (.func gf) #[] lb) (eg : ∀ args w, (callFunc gf args).run P w = .ok (.enter gf args) w)
    {encs : α → Array Value} {own : α → Nat → Prop} {Has : α → World → Prop} (hH : HasFirm own Has) {Ok Full : List α → Prop} (M : Nat → Prop) (hM : ∀ k, M k → k < w.heap.size) (hps : ∀ x, (encs x).size = ps.size)
    (hseq : ∀ W1 l, Upd (fun _ => False) w W1 → w.heap.size ≤ l → l < W1.heap.size → IterG P gf lb encs own Has Ok Full (fun k => M k ∨ k = l) W1)
    (J : List α → (Nat → Prop) → World → Prop) (Jx : Code → List α → (Nat → Prop) → World → Prop) (hJ : Firm w.heap.size J) (hJx : ∀ c, Firm w.heap.size (Jx c)) (h0 : J [] (fun _ => False) w)
    (howes : RoundOwesG P (n - 1 - 1) w.heap.size encs own Has ps a.tmps assign body Ok M J Jx)
    (hdone : ∀ (d : Nat) (D : Nat → Prop) (L : List α) (W : World), w.heap.size ≤ d → Full L → J L D W → (∀ k, D k → d < k ∧ k < W.heap.size) → W.heap[d]? = some (.deferred (some [])) → Q .normal { a with defers := { target := .collected d, args := #[] } :: a.defers } W)
    (hstop : ∀ (d : Nat) (D : Nat → Prop) (c : Code) (pre : List α) (W : World), w.heap.size ≤ d → Ok pre → Jx c pre D W → (∀ k, D k → d < k ∧ k < W.heap.size) → W.heap[d]? = some (.deferred (some [])) → c.wpIn Fence.wide n P Q { a with defers := { target := .collected d, args := #[] } :: a.defers } W) :
    (Code.rangeFunc g ps assign body).wpIn Fence.wide n P Q a w := by
  refine wpIn_rangeFunc ?_
  intro fn hfn
  obtain ⟨rec, hrec⟩ : ∃ rec : LoopState → Option Code → Loop, rec = fun st pe => { state := st, pending := pe, fn, tmps := a.tmps, params := ps, assign, body, defers := w.heap.size } := ⟨_, rfl⟩
  obtain ⟨W1, hW1⟩ : ∃ W1, (w.alloc (.deferred (some []))).alloc (.loop (rec .ready none)) = W1 := ⟨_, rfl⟩
  have hL1 : W1.heap[w.heap.size + 1]? = some (.loop (rec .ready none)) := by
    rw [← hW1]; have := World.alloc_heap_new (w.alloc (.deferred (some []))) (.loop (rec .ready none)); rwa [World.size_alloc] at this
  have hK1 : W1.heap[w.heap.size]? = some (.deferred (some [])) := by
    rw [← hW1]; exact (Below.heap_alloc _ _ _ (by simp)).trans (World.alloc_heap_new w _)
  have hz1 : W1.heap.size = w.heap.size + 2 := by rw [← hW1]; simp
  have hu1 : Upd (fun _ => False) w W1 := by rw [← hW1]; exact ((Upd.refl _ w).alloc _).alloc _
  have hI1 : J [] (fun _ => False) W1 := hJ _ _ _ _ h0 (hu1.mono fun _ _ e => e.elim)
  have hi := hseq W1 (w.heap.size + 1) hu1 (by omega) (by omega)
  refine ⟨w.heap.size + 1, [{ target := .collected w.heap.size, args := #[] }], W1, { target := .fn (.func gf) lb, args := #[.func (.yield (w.heap.size + 1)) #[] #[]] }, W1, gf,
    #[.func (.yield (w.heap.size + 1)) #[] #[]] ++ lb, W1, ?_, ?_, ?_, ?_, (fun h => by cases h), ?_⟩
  · rw [← hW1, hrec]; exact run_enterLoop_outer _ _ _ _ _
  · simp only [resolve, hg]
    simp [go_sem]
  · intro f' hf'; trivial
  · simp [invoke, go_sem, eg]
  · refine callsIn_wide.2 ((hi (w.heap.size + 1)
      (fun pre D W => J pre D W ∧ W.heap[w.heap.size + 1]? = some (.loop (rec .ready none)) ∧ (∀ k, D k → W1.heap.size ≤ k ∧ k < W.heap.size) ∧ W.heap[w.heap.size]? = some (.deferred (some [])))
      (fun pre D W => ∃ c, Jx c pre D W ∧ W.heap[w.heap.size + 1]? = some (.loop (rec .done (some c))) ∧ (∀ k, D k → W1.heap.size ≤ k ∧ k < W.heap.size) ∧ W.heap[w.heap.size]? = some (.deferred (some [])))
      ?_ ?_ ?_ ⟨hI1, hL1, fun _ e => e.elim, hK1⟩).mono ?_)
    · rintro s D X Y ⟨hj, hl, hD, hk⟩ hu
      exact ⟨hJ _ _ _ _ hj (hu.mono fun k _ e => ⟨by omega, e.2⟩), (hu.block _ (Array.getElem?_eq_some_iff.1 hl).1 (fun e => by omega)).trans hl, (fun k hk => by have := hD k hk; have := hu.size; omega), (hu.block _ (Array.getElem?_eq_some_iff.1 hk).1 (fun e => by omega)).trans hk⟩
    · rintro s D X Y ⟨c, hj, hl, hD, hk⟩ hu
      exact ⟨c, hJx _ _ _ _ _ hj (hu.mono fun k _ e => ⟨by omega, e.2⟩), (hu.block _ (Array.getElem?_eq_some_iff.1 hl).1 (fun e => by omega)).trans hl, (fun k hk => by have := hD k hk; have := hu.size; omega), (hu.block _ (Array.getElem?_eq_some_iff.1 hk).1 (fun e => by omega)).trans hk⟩
    · rintro pre x D W ⟨hj, hl, hD, hk⟩ hsz hpre hh hO m
      obtain ⟨fn', tm, asg, bo, hy, hR⟩ := round_ofG (P := P) (n := n - 1 - 1) (l := w.heap.size + 1) (B := w.heap.size) (B1 := W1.heap.size) (rec := rec) (M := M) (fn := fn) (encs := encs) (own := own) (Has := Has) (ps := ps) (tmps := a.tmps) (assign := assign) (body := body) (Ok := Ok) (J := J) (Jx := Jx)
        (rest := fun W => W.heap[w.heap.size]? = some (.deferred (some [])))
        (by rw [hrec]; exact fun st pe => ⟨rfl, rfl, rfl, rfl, rfl, rfl, fun _ _ => rfl⟩) (by rw [hrec]; exact fun _ _ _ => rfl) hps hH hJ hJx (by omega) (by omega) hM
        (fun X Y h hu => (hu.block _ (Array.getElem?_eq_some_iff.1 h).1 (fun e => by
          rcases e with e | e | e
          · have := hM _ e; omega
          · omega
          · omega)).trans h) howes hj hh hl hD hO hk hsz hpre m
      refine ⟨fn', tm, asg, bo, hy, hR.mono ?_⟩
      rintro e W' (⟨he, D', ⟨h1, h2, h3, h4⟩, hu, hD'⟩ | ⟨he, D', ⟨c, h1, h2, h3, h4⟩, hu, hD'⟩)
      · exact .inl ⟨he, D', ⟨h1, h2, h3, h4⟩, hu.mono fun k _ e => by rcases e with e | e | e | e <;> simp [e], hD'⟩
      · exact .inr ⟨he, D', ⟨c, h1, h2, h3, h4⟩, hu.mono fun k _ e => by rcases e with e | e | e | e <;> simp [e], hD'⟩
    · rintro e W2 ⟨⟨v, rfl⟩, (⟨L, D, hf, hj, hl, hD, hk⟩ | ⟨pre, D, hpre, c, hj, hl, hD, hk⟩)⟩
      · have hDl : ¬ D (w.heap.size + 1) := fun e => by have := hD _ e; omega
        exact ⟨none, _, by have := run_endLoop (P := P) hl (by rw [hrec]; simp); rw [hrec] at this; exact this,
          hdone _ D L _ (Nat.le_refl _) hf (hJ _ _ _ _ hj ((Upd.refl (fun k => w.heap.size ≤ k ∧ ¬ D k) _).putObj (.inr ⟨by omega, hDl⟩) _)) (fun k hk => by have := hD k hk; simp; omega) ((World.putObj_heap_other (by omega)).trans hk)⟩
      · have hDl : ¬ D (w.heap.size + 1) := fun e => by have := hD _ e; omega
        exact ⟨some c, _, by have := run_endLoop (P := P) hl (by rw [hrec]; simp); rw [hrec] at this; exact this,
          hstop _ D c pre _ (Nat.le_refl _) hpre (hJx _ _ _ _ _ hj ((Upd.refl (fun k => w.heap.size ≤ k ∧ ¬ D k) _).putObj (.inr ⟨by omega, hDl⟩) _)) (fun k hk => by have := hD k hk; simp; omega) ((World.putObj_heap_other (by omega)).trans hk)⟩
end
end Go.Proofs.Ytipdmaggfbfnlaa

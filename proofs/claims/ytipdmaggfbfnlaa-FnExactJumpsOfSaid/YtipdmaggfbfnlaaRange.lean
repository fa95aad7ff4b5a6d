/- A range over a function, where the function ranges over another one itself: the contract of such an iterator, and the two laws for the statement. Which blocks a round may turn is told by two sets: M (blocks from before the loop), D (the round's own, made since). -/
import Derived.Test.YtipdmaggfbfnlaaWords
import Derived.RangeFuncNested
namespace Go.Proofs.Ytipdmaggfbfnlaa
open Go.RowKit

/-- The worlds differ in blocks of R alone, and in new ones. -/
structure Upd (R : Nat → Prop) (w w' : World) : Prop where
  os : w'.os = w.os
  tape : w'.tape = w.tape
  output : w'.output = w.output
  size : w.heap.size ≤ w'.heap.size
  block : ∀ k, k < w.heap.size → ¬ R k → w'.heap[k]? = w.heap[k]?

section
variable {R S : Nat → Prop} {a b c w w' : World}
theorem Upd.refl (R : Nat → Prop) (w : World) : Upd R w w := ⟨rfl, rfl, rfl, Nat.le_refl _, fun _ _ _ => rfl⟩
theorem Upd.trans (h : Upd R a b) (k : Upd R b c) : Upd R a c :=
  ⟨k.os.trans h.os, k.tape.trans h.tape, k.output.trans h.output, Nat.le_trans h.size k.size, fun i hi hr => (k.block i (Nat.lt_of_lt_of_le hi h.size) hr).trans (h.block i hi hr)⟩
theorem Upd.mono (h : Upd R a b) (hs : ∀ k, k < a.heap.size → R k → S k) : Upd S a b := ⟨h.os, h.tape, h.output, h.size, fun i hi hr => h.block i hi (fun e => hr (hs i hi e))⟩
theorem Upd.trans' (h : Upd R a b) (k : Upd S b c) (hs : ∀ i, i < a.heap.size → S i → R i) : Upd R a c :=
  ⟨k.os.trans h.os, k.tape.trans h.tape, k.output.trans h.output, Nat.le_trans h.size k.size, fun i hi hr => (k.block i (Nat.lt_of_lt_of_le hi h.size) (fun e => hr (hs i hi e))).trans (h.block i hi hr)⟩
theorem Upd.drewN (h : Upd R a w) (n : Nat) : Upd R a (w.drewN n) := ⟨h.os, h.tape, h.output, h.size, h.block⟩
theorem Upd.drew (h : Upd R a w) : Upd R a w.drew := ⟨h.os, h.tape, h.output, h.size, h.block⟩
theorem Upd.alloc (h : Upd R a w) (o : Obj) : Upd R a (w.alloc o) :=
  ⟨h.os, h.tape, h.output, Nat.le_trans h.size (by simp), fun i hi hr => (Below.heap_alloc w o i (Nat.lt_of_lt_of_le hi h.size)).trans (h.block i hi hr)⟩
theorem Upd.setCell (h : Upd R a w) {p : Addr} (hp : a.heap.size ≤ p.block ∨ R p.block) (u : Value) : Upd R a (w.setCell p u) :=
  ⟨h.os, h.tape, h.output, by simpa [World.setCell] using h.size, fun i hi hr => (Below.heap_setCell w p u i (by
    rintro rfl
    rcases hp with hp | hp
    · omega
    · exact hr hp)).trans (h.block i hi hr)⟩
theorem Upd.grown (h : Upd R a w) {row : Option Nat} (hg : w.grownBy w' row) (hp : ∀ k, row = some k → a.heap.size ≤ k ∨ R k) : Upd R a w' :=
  ⟨hg.os.trans h.os, hg.tape.trans h.tape, hg.output.trans h.output, Nat.le_trans h.size hg.size, fun i hi hr => (hg.block i (Nat.lt_of_lt_of_le hi h.size) (fun e => by
    rcases hp i e.symm with h1 | h1
    · omega
    · exact hr h1)).trans (h.block i hi hr)⟩
theorem Upd.below (h : Upd R a w) {B : Nat} (hb : Below B w w') (hB : ∀ k, B ≤ k → k < a.heap.size → R k) : Upd R a w' :=
  ⟨hb.os.trans h.os, hb.tape.trans h.tape, hb.output.trans h.output, Nat.le_trans h.size hb.size, fun i hi hr => by
    rcases Nat.lt_or_ge i B with h1 | h1
    · exact (hb.block i h1).trans (h.block i hi hr)
    · exact absurd (hB i h1 hi) hr⟩
theorem Upd.putObj (h : Upd R a w) {l : Nat} (hl : a.heap.size ≤ l ∨ R l) (o : Obj) : Upd R a (w.putObj l o) :=
  h.grown (grownBy_putObj' w l o) (fun k e => by cases e; exact hl)
theorem Upd.cell (h : Upd R w w') {p : Addr} {v : Value} (hc : w.cell? p = some v) (hr : ¬ R p.block) : w'.cell? p = some v := by
  obtain ⟨o, ho, _⟩ := cells_of_cell hc
  exact (World.cell?_of_block (h.block _ (Array.getElem?_eq_some_iff.1 ho).1 hr)).trans hc
theorem Upd.frozen (h : Upd R w w') {p : Addr} (hl : p.block < w.heap.size) (hr : ¬ R p.block) : w'.frozen? p = w.frozen? p := World.frozen?_of_block (h.block _ hl hr)
theorem Upd.boxed (h : Upd R w w') {k : Nat} {t : TypeId} {v : Value} (hb : Boxed w k t v) (hr : ¬ R k) : Boxed w' k t v := (h.block k hb.lt hr).trans hb
theorem Upd.toBelow (h : Upd R w w') {B : Nat} (hB : ∀ k, R k → B ≤ k) (hw : B ≤ w.heap.size) : Below B w w' :=
  ⟨h.os, h.tape, h.output, h.size, fun k hk => h.block k (Nat.lt_of_lt_of_le hk hw) (fun e => by have := hB k e; omega)⟩
theorem Below.toUpd {B : Nat} (h : Below B w w') : Upd (fun k => B ≤ k) w w' := ⟨h.os, h.tape, h.output, h.size, fun k _ hr => h.block k (by omega)⟩
end

/-- What is said abides the turn of whatever is neither from before B nor the round's own. -/
def Firm {β : Type} (B : Nat) (J : β → (Nat → Prop) → World → Prop) : Prop :=
  ∀ s D W W', J s D W → Upd (fun k => B ≤ k ∧ ¬ D k) W W' → J s D W'
theorem Firm.mono {β : Type} {B B' : Nat} {J : β → (Nat → Prop) → World → Prop} (h : Firm B J) (hB : B ≤ B') : Firm B' J :=
  fun s D W W' hs hu => h s D W W' hs (hu.mono fun _ _ e => ⟨by omega, e.2⟩)

/-- The iterator's contract: over the list L, in its order, until a round says no more. -/
def Iter {α : Type} (P : Program) (g : Nat) (lb : Array Value) (encs : α → Array Value) (L : List α) (M : Nat → Prop) (w : World) : Prop :=
  ∀ (l : Nat) (J Jx : List α → (Nat → Prop) → World → Prop), Firm w.heap.size J → Firm w.heap.size Jx →
    (∀ pre x D W, J pre D W → w.heap.size ≤ W.heap.size → pre ++ [x] <+: L → ∀ m, YieldAt Fence.wide m P l (encs x) W fun e W' =>
      (e = .returned (.bool true) ∧ ∃ D', J (pre ++ [x]) D' W' ∧ Upd (fun k => M k ∨ D k) W W' ∧ ∀ k, D' k → D k ∨ W.heap.size ≤ k ∧ k < W'.heap.size) ∨
      (e = .returned (.bool false) ∧ ∃ D', Jx (pre ++ [x]) D' W' ∧ Upd (fun k => M k ∨ D k) W W' ∧ ∀ k, D' k → D k ∨ W.heap.size ≤ k ∧ k < W'.heap.size)) →
    J [] (fun _ => False) w →
    Calls P g (#[.func (.yield l) #[] #[]] ++ lb) w fun e W' => (∃ v, e = .returned v) ∧ ((∃ D, J L D W') ∨ ∃ pre D, pre <+: L ∧ Jx pre D W')

/-- How a round's body may be left. -/
def roundEnd {α : Type} (M : Nat → Prop) (J : List α → (Nat → Prop) → World → Prop) (Jx : Code → List α → (Nat → Prop) → World → Prop) (xs : List α) (D : Nat → Prop) (z : Nat) (W : World) : Exit → Act → World → Prop
  | .normal, _, W' => ∃ D', J xs D' W' ∧ Upd (fun k => M k ∨ D k ∨ z ≤ k) W W' ∧ ∀ k, D' k → D k ∨ z ≤ k ∧ k < W'.heap.size
  | .ret, _, W' => ∃ D', Jx .ret xs D' W' ∧ Upd (fun k => M k ∨ D k ∨ z ≤ k) W W' ∧ ∀ k, D' k → D k ∨ z ≤ k ∧ k < W'.heap.size
  | .exit id, _, W' => ∃ D', Jx (.exit id) xs D' W' ∧ Upd (fun k => M k ∨ D k ∨ z ≤ k) W W' ∧ ∀ k, D' k → D k ∨ z ≤ k ∧ k < W'.heap.size
  | .goto t, _, W' => ∃ D', Jx (.goto t) xs D' W' ∧ Upd (fun k => M k ∨ D k ∨ z ≤ k) W W' ∧ ∀ k, D' k → D k ∨ z ≤ k ∧ k < W'.heap.size
  | .panic _, _, _ => False
  | .outgrown, _, _ => False

theorem roundIn_any {F : Fence} (hd : F.depth = none) {m m' : Nat} {P : Program} {l : Nat} {f : FuncId} {tmps : Array Value} {assign body : Code} {w : World} {R : Ending → World → Prop}
    (h : RoundIn F m P l f tmps assign body w R) : RoundIn F m' P l f tmps assign body w R := ⟨h.1, fun c cs _ => h.2 c cs (fun d e => by rw [hd] at e; cases e)⟩

/-- What a round owes: the assignments, then the body. 'l' is the loop's record. -/
def RoundOwes {α : Type} (P : Program) (m B : Nat) (encs : α → Array Value) (ps : Array Tmp) (tmps : Array Value) (assign body : Code) (L : List α) (M : Nat → Prop) (J : List α → (Nat → Prop) → World → Prop) (Jx : Code → List α → (Nat → Prop) → World → Prop) : Prop :=
  ∀ (l : Nat) (pre : List α) (x : α) (D : Nat → Prop) (W : World), B ≤ l → l < W.heap.size → ¬ D l → (∀ k, D k → B ≤ k ∧ k < W.heap.size) → J pre D W → pre ++ [x] <+: L →
    ∀ K : Act → World → Prop,
      (∀ a' Wa, Upd (fun _ => False) W Wa → (∀ Wb, Upd (fun k => k = l) Wa Wb → (∃ r, Wb.heap[l]? = some (.loop r)) → J pre D Wb → body.wpIn (Fence.wide.inRound l) m P (roundEnd M J Jx (pre ++ [x]) D W.heap.size Wb) a' Wb) → K a' Wa) →
      assign.wpIn (Fence.wide.inRound l) m P (Exit.then K (fun _ _ _ => False)) { tmps := (ps.zip (encs x)).foldl (fun t (p, v) => t.setIfInBounds p v) tmps, defers := [] } W

section
variable {P : Program} {n : Nat}

/-- One round, out of what it owes: for both laws. -/
theorem round_of {α : Type} {l B B1 : Nat} {rec : LoopState → Option Code → Loop} {M : Nat → Prop} {encs : α → Array Value} {ps : Array Tmp} {tmps : Array Value} {assign body : Code} {fn : Nat} {L : List α}
    {J : List α → (Nat → Prop) → World → Prop} {Jx : Code → List α → (Nat → Prop) → World → Prop} {rest : World → Prop}
    (hrec : ∀ st pe, (rec st pe).state = st ∧ (rec st pe).params = ps ∧ (rec st pe).fn = fn ∧ (rec st pe).tmps = tmps ∧ (rec st pe).assign = assign ∧ (rec st pe).body = body ∧ ∀ st' pe', { rec st pe with state := st', pending := pe' } = rec st' pe')
    (hrec2 : ∀ st pe st', { rec st pe with state := st' } = rec st' pe)
    (hps : ∀ x, (encs x).size = ps.size) (hJ : Firm B J) (hJx : ∀ c, Firm B (Jx c)) (hl : B ≤ l) (hl1 : l < B1) (hM : ∀ k, M k → k < B)
    (hrest : ∀ W W', rest W → Upd (fun k => M k ∨ B1 ≤ k ∨ k = l) W W' → rest W')
    (howes : RoundOwes P n B encs ps tmps assign body L M J Jx)
    {pre : List α} {x : α} {D : Nat → Prop} {W : World} (hj : J pre D W) (hlw : W.heap[l]? = some (.loop (rec .ready none))) (hD : ∀ k, D k → B1 ≤ k ∧ k < W.heap.size) (hr : rest W) (hB1 : B1 ≤ W.heap.size) (hpre : pre ++ [x] <+: L) (m : Nat) :
    YieldAt Fence.wide m P l (encs x) W fun e W' =>
      (e = .returned (.bool true) ∧ ∃ D', (J (pre ++ [x]) D' W' ∧ W'.heap[l]? = some (.loop (rec .ready none)) ∧ (∀ k, D' k → B1 ≤ k ∧ k < W'.heap.size) ∧ rest W') ∧ Upd (fun k => M k ∨ k = l ∨ D k) W W' ∧ ∀ k, D' k → D k ∨ W.heap.size ≤ k ∧ k < W'.heap.size) ∨
      (e = .returned (.bool false) ∧ ∃ D', (∃ c, Jx c (pre ++ [x]) D' W' ∧ W'.heap[l]? = some (.loop (rec .done (some c))) ∧ (∀ k, D' k → B1 ≤ k ∧ k < W'.heap.size) ∧ rest W') ∧ Upd (fun k => M k ∨ k = l ∨ D k) W W' ∧ ∀ k, D' k → D k ∨ W.heap.size ≤ k ∧ k < W'.heap.size) := by
  have hlt : l < W.heap.size := (Array.getElem?_eq_some_iff.1 hlw).1
  have hDl : ¬ D l := fun e => by have := hD l e; omega
  have hy := run_yield (P := P) (args := encs x) hlw (by rw [(hrec _ _).2.1]; exact hps x)
  refine ⟨_, _, _, _, hy, roundIn_any (m := n) rfl (roundIn_of_wpIn trivial ?_)⟩
  rw [(hrec _ _).2.2.2.1, (hrec _ _).2.2.2.2.1, (hrec _ _).2.2.2.2.2.1, (hrec _ _).2.1]
  refine howes l pre x D W hl hlt hDl (fun k hk => by have := hD k hk; omega) hj hpre _ ?_
  intro a' Wa hua hbody
  have hla : Wa.heap[l]? = some (.loop (rec .ready none)) := (hua.block l hlt (fun e => e)).trans hlw
  have hlta : l < Wa.heap.size := (Array.getElem?_eq_some_iff.1 hla).1
  refine ⟨_, run_beginRound hla (by rw [(hrec _ _).1]), ?_⟩
  rw [hrec2]
  have hub : Upd (fun k => k = l) Wa (Wa.putObj l (.loop (rec .busy none))) := (Upd.refl (fun k => k = l) _).putObj (.inr rfl) _
  have hlb : (Wa.putObj l (.loop (rec .busy none))).heap[l]? = some (.loop (rec .busy none)) := World.putObj_heap_same hlta
  have hjb : J pre D (Wa.putObj l (.loop (rec .busy none))) := hJ _ _ _ _ (hJ _ _ _ _ hj (hua.mono fun _ _ e => e.elim)) (hub.mono fun k _ e => by rw [e]; exact ⟨hl, hDl⟩)
  have hrb : rest (Wa.putObj l (.loop (rec .busy none))) := hrest _ _ (hrest _ _ hr (hua.mono fun _ _ e => e.elim)) (hub.mono fun k _ e => .inr (.inr e))
  have hszb : (Wa.putObj l (.loop (rec .busy none))).heap.size = Wa.heap.size := by simp
  refine wpIn_mono (hbody _ hub ⟨_, hlb⟩ hjb) ?_
  have fin : ∀ (jump : Option Code) (D' : Nat → Prop) (W3 : World), Upd (fun k => M k ∨ D k ∨ W.heap.size ≤ k) (Wa.putObj l (.loop (rec .busy none))) W3 → (∀ k, D' k → D k ∨ W.heap.size ≤ k ∧ k < W3.heap.size) →
      (Instr.endRound l jump).run P W3 = .ok (.bool jump.isNone) (W3.putObj l (.loop (rec (if jump.isNone then .ready else .done) jump))) ∧
      (W3.putObj l (.loop (rec (if jump.isNone then .ready else .done) jump))).heap[l]? = some (.loop (rec (if jump.isNone then .ready else .done) jump)) ∧
      Upd (fun k => k = l) W3 (W3.putObj l (.loop (rec (if jump.isNone then .ready else .done) jump))) ∧
      (∀ k, D' k → B1 ≤ k ∧ k < W3.heap.size) ∧ ¬ D' l ∧ rest (W3.putObj l (.loop (rec (if jump.isNone then .ready else .done) jump))) ∧
      Upd (fun k => M k ∨ k = l ∨ D k) W (W3.putObj l (.loop (rec (if jump.isNone then .ready else .done) jump))) := fun jump D' W3 hu3 hD' => by
    have hl3 : W3.heap[l]? = some (.loop (rec .busy none)) := (hu3.block l (by rw [hszb]; exact hlta) (fun e => by
      rcases e with e | e | e
      · have := hM l e; omega
      · exact hDl e
      · omega)).trans hlb
    have hE := run_endRound (P := P) jump hl3
    rw [(hrec _ _).2.2.2.2.2.2] at hE
    have hu4 : Upd (fun k => k = l) W3 (W3.putObj l (.loop (rec (if jump.isNone then .ready else .done) jump))) := (Upd.refl (fun k => k = l) _).putObj (.inr rfl) _
    have hsz3 := hu3.size
    have hsza := hua.size
    have hDB : ∀ k, D' k → B1 ≤ k ∧ k < W3.heap.size := fun k hk => by
      rcases hD' k hk with h | h
      · have := hD k h; omega
      · omega
    refine ⟨hE, World.putObj_heap_same (Array.getElem?_eq_some_iff.1 hl3).1, hu4, hDB, fun e => by have := hDB l e; omega, ?_, ?_⟩
    · exact hrest _ _ (hrest _ _ hrb (hu3.mono fun k _ e => by
        rcases e with e | e | e
        · exact .inl e
        · exact .inr (.inl (hD k e).1)
        · exact .inr (.inl (by omega)))) (hu4.mono fun k _ e => .inr (.inr e))
    · have h1 : Upd (fun k => M k ∨ k = l ∨ D k ∨ W.heap.size ≤ k) W (W3.putObj l (.loop (rec (if jump.isNone then .ready else .done) jump))) :=
        (((hua.mono fun _ _ e => e.elim).trans (hub.mono fun k _ e => .inr (.inl e))).trans (hu3.mono fun k _ e => by
          rcases e with e | e | e
          · exact .inl e
          · exact .inr (.inr (.inl e))
          · exact .inr (.inr (.inr e)))).trans (hu4.mono fun k _ e => .inr (.inl e))
      exact h1.mono fun k hk e => by
        rcases e with e | e | e | e
        · exact .inl e
        · exact .inr (.inl e)
        · exact .inr (.inr e)
        · omega
  have firm : ∀ {D' : Nat → Prop} {W3 W4 : World}, ¬ D' l → Upd (fun k => k = l) W3 W4 → Upd (fun k => B ≤ k ∧ ¬ D' k) W3 W4 := fun h hu => hu.mono fun k _ e => by rw [e]; exact ⟨hl, h⟩
  rintro e a3 W3 hp
  cases e with
  | normal =>
    obtain ⟨D', hi3, hu3, hD'⟩ := hp
    obtain ⟨hE, hl4, hu4, hDB, hDl', hr4, hu⟩ := fin none D' W3 hu3 hD'
    exact ⟨_, _, hE, .inl ⟨rfl, D', ⟨hJ _ _ _ _ hi3 (firm hDl' hu4), hl4, (fun k hk => by have := hDB k hk; simp; omega), hr4⟩, hu, fun k hk => by simpa using hD' k hk⟩⟩
  | ret =>
    obtain ⟨D', hi3, hu3, hD'⟩ := hp
    obtain ⟨hE, hl4, hu4, hDB, hDl', hr4, hu⟩ := fin (some .ret) D' W3 hu3 hD'
    exact ⟨_, _, hE, .inr ⟨rfl, D', ⟨_, hJx _ _ _ _ _ hi3 (firm hDl' hu4), hl4, (fun k hk => by have := hDB k hk; simp; omega), hr4⟩, hu, fun k hk => by simpa using hD' k hk⟩⟩
  | exit id =>
    obtain ⟨D', hi3, hu3, hD'⟩ := hp
    obtain ⟨hE, hl4, hu4, hDB, hDl', hr4, hu⟩ := fin (some (.exit id)) D' W3 hu3 hD'
    exact ⟨_, _, hE, .inr ⟨rfl, D', ⟨_, hJx _ _ _ _ _ hi3 (firm hDl' hu4), hl4, (fun k hk => by have := hDB k hk; simp; omega), hr4⟩, hu, fun k hk => by simpa using hD' k hk⟩⟩
  | goto t =>
    obtain ⟨D', hi3, hu3, hD'⟩ := hp
    obtain ⟨hE, hl4, hu4, hDB, hDl', hr4, hu⟩ := fin (some (.goto t)) D' W3 hu3 hD'
    exact ⟨_, _, hE, .inr ⟨rfl, D', ⟨_, hJx _ _ _ _ _ hi3 (firm hDl' hu4), hl4, (fun k hk => by have := hDB k hk; simp; omega), hr4⟩, hu, fun k hk => by simpa using hD' k hk⟩⟩
  | panic ch => exact hp.elim
  | outgrown => exact hp.elim

/-- The statement, outside of any round. -/
theorem range_out {α : Type} {g : Operand} {ps : Array Tmp} {assign body : Code} {Q : Exit → Act → World → Prop} {a : Act} {w : World} {gf : Nat} {lb : Array Value}
    (hg : a.eval g = .func (.func gf) #[] lb) (eg : ∀ args w, (callFunc gf args).run P w = .ok (.enter gf args) w)
    {encs : α → Array Value} {L : List α} (M : Nat → Prop) (hM : ∀ k, M k → k < w.heap.size) (hps : ∀ x, (encs x).size = ps.size)
    (hseq : ∀ W1 l, Upd (fun _ => False) w W1 → w.heap.size ≤ l → l < W1.heap.size → Iter P gf lb encs L (fun k => M k ∨ k = l) W1)
    (J : List α → (Nat → Prop) → World → Prop) (Jx : Code → List α → (Nat → Prop) → World → Prop) (hJ : Firm w.heap.size J) (hJx : ∀ c, Firm w.heap.size (Jx c)) (h0 : J [] (fun _ => False) w)
    (howes : RoundOwes P (n - 1 - 1) w.heap.size encs ps a.tmps assign body L M J Jx)
    (hdone : ∀ (d : Nat) (D : Nat → Prop) (W : World), w.heap.size ≤ d → J L D W → (∀ k, D k → d < k ∧ k < W.heap.size) → W.heap[d]? = some (.deferred (some [])) → Q .normal { a with defers := { target := .collected d, args := #[] } :: a.defers } W)
    (hstop : ∀ (d : Nat) (D : Nat → Prop) (c : Code) (pre : List α) (W : World), w.heap.size ≤ d → pre <+: L → Jx c pre D W → (∀ k, D k → d < k ∧ k < W.heap.size) → W.heap[d]? = some (.deferred (some [])) → c.wpIn Fence.wide n P Q { a with defers := { target := .collected d, args := #[] } :: a.defers } W) :
    (Code.rangeFunc g ps assign body).wpIn Fence.wide n P Q a w := by
  refine wpIn_rangeFunc ?_
  intro fn hfn
  obtain ⟨rec, hrec⟩ : ∃ rec : LoopState → Option Code → Loop, rec = fun st pe => { state := st, pending := pe, fn, tmps := a.tmps, params := ps, assign, body, defers := w.heap.size } := ⟨_, rfl⟩
  obtain ⟨W1, hW1⟩ : ∃ W1, (w.alloc (.deferred (some []))).alloc (.loop (rec .ready none)) = W1 := ⟨_, rfl⟩
  have hL1 : W1.heap[w.heap.size + 1]? = some (.loop (rec .ready none)) := by
    rw [← hW1]; have := World.alloc_heap_new (w.alloc (.deferred (some []))) (.loop (rec .ready none)); rwa [World.size_alloc] at this
  have hK1 : W1.heap[w.heap.size]? = some (.deferred (some [])) := by
    rw [← hW1]; exact (Below.heap_alloc _ _ _ (by simp)).trans (World.alloc_heap_new w _)
  have hz1 : W1.heap.size = w.heap.size + 2 := by rw [← hW1]; simp
  have hu1 : Upd (fun _ => False) w W1 := by rw [← hW1]; exact ((Upd.refl _ w).alloc _).alloc _
  have hI1 : J [] (fun _ => False) W1 := hJ _ _ _ _ h0 (hu1.mono fun _ _ e => e.elim)
  have hi := hseq W1 (w.heap.size + 1) hu1 (by omega) (by omega)
  refine ⟨w.heap.size + 1, [{ target := .collected w.heap.size, args := #[] }], W1, { target := .fn (.func gf) lb, args := #[.func (.yield (w.heap.size + 1)) #[] #[]] }, W1, gf,
    #[.func (.yield (w.heap.size + 1)) #[] #[]] ++ lb, W1, ?_, ?_, ?_, ?_, (fun h => by cases h), ?_⟩
  · rw [← hW1, hrec]; exact run_enterLoop_outer _ _ _ _ _
  · simp only [resolve, hg]
    simp [go_sem]
  · intro f' hf'; trivial
  · simp [invoke, go_sem, eg]
  · refine callsIn_wide.2 ((hi (w.heap.size + 1)
      (fun pre D W => J pre D W ∧ W.heap[w.heap.size + 1]? = some (.loop (rec .ready none)) ∧ (∀ k, D k → W1.heap.size ≤ k ∧ k < W.heap.size) ∧ W.heap[w.heap.size]? = some (.deferred (some [])))
      (fun pre D W => ∃ c, Jx c pre D W ∧ W.heap[w.heap.size + 1]? = some (.loop (rec .done (some c))) ∧ (∀ k, D k → W1.heap.size ≤ k ∧ k < W.heap.size) ∧ W.heap[w.heap.size]? = some (.deferred (some [])))
      ?_ ?_ ?_ ⟨hI1, hL1, fun _ e => e.elim, hK1⟩).mono ?_)
    · rintro s D X Y ⟨hj, hl, hD, hk⟩ hu
      exact ⟨hJ _ _ _ _ hj (hu.mono fun k _ e => ⟨by omega, e.2⟩), (hu.block _ (Array.getElem?_eq_some_iff.1 hl).1 (fun e => by omega)).trans hl, (fun k hk => by have := hD k hk; have := hu.size; omega), (hu.block _ (Array.getElem?_eq_some_iff.1 hk).1 (fun e => by omega)).trans hk⟩
    · rintro s D X Y ⟨c, hj, hl, hD, hk⟩ hu
      exact ⟨c, hJx _ _ _ _ _ hj (hu.mono fun k _ e => ⟨by omega, e.2⟩), (hu.block _ (Array.getElem?_eq_some_iff.1 hl).1 (fun e => by omega)).trans hl, (fun k hk => by have := hD k hk; have := hu.size; omega), (hu.block _ (Array.getElem?_eq_some_iff.1 hk).1 (fun e => by omega)).trans hk⟩
    · rintro pre x D W ⟨hj, hl, hD, hk⟩ hsz hpre m
      obtain ⟨fn', tm, asg, bo, hy, hR⟩ := round_of (P := P) (n := n - 1 - 1) (l := w.heap.size + 1) (B := w.heap.size) (B1 := W1.heap.size) (rec := rec) (M := M) (fn := fn) (encs := encs) (ps := ps) (tmps := a.tmps) (assign := assign) (body := body) (L := L) (J := J) (Jx := Jx)
        (rest := fun W => W.heap[w.heap.size]? = some (.deferred (some [])))
        (by rw [hrec]; exact fun st pe => ⟨rfl, rfl, rfl, rfl, rfl, rfl, fun _ _ => rfl⟩) (by rw [hrec]; exact fun _ _ _ => rfl) hps hJ hJx (by omega) (by omega) hM
        (fun X Y h hu => (hu.block _ (Array.getElem?_eq_some_iff.1 h).1 (fun e => by
          rcases e with e | e | e
          · have := hM _ e; omega
          · omega
          · omega)).trans h) howes hj hl hD hk hsz hpre m
      refine ⟨fn', tm, asg, bo, hy, hR.mono ?_⟩
      rintro e W' (⟨he, D', ⟨h1, h2, h3, h4⟩, hu, hD'⟩ | ⟨he, D', ⟨c, h1, h2, h3, h4⟩, hu, hD'⟩)
      · exact .inl ⟨he, D', ⟨h1, h2, h3, h4⟩, hu.mono fun k _ e => by rcases e with e | e | e <;> simp [e], hD'⟩
      · exact .inr ⟨he, D', ⟨c, h1, h2, h3, h4⟩, hu.mono fun k _ e => by rcases e with e | e | e <;> simp [e], hD'⟩
    · rintro e W2 ⟨⟨v, rfl⟩, (⟨D, hj, hl, hD, hk⟩ | ⟨pre, D, hpre, c, hj, hl, hD, hk⟩)⟩
      · have hDl : ¬ D (w.heap.size + 1) := fun e => by have := hD _ e; omega
        exact ⟨none, _, by have := run_endLoop (P := P) hl (by rw [hrec]; simp); rw [hrec] at this; exact this,
          hdone _ D _ (Nat.le_refl _) (hJ _ _ _ _ hj ((Upd.refl (fun k => w.heap.size ≤ k ∧ ¬ D k) _).putObj (.inr ⟨by omega, hDl⟩) _)) (fun k hk => by have := hD k hk; simp; omega) ((World.putObj_heap_other (by omega)).trans hk)⟩
      · have hDl : ¬ D (w.heap.size + 1) := fun e => by have := hD _ e; omega
        exact ⟨some c, _, by have := run_endLoop (P := P) hl (by rw [hrec]; simp); rw [hrec] at this; exact this,
          hstop _ D c pre _ (Nat.le_refl _) hpre (hJx _ _ _ _ _ hj ((Upd.refl (fun k => w.heap.size ≤ k ∧ ¬ D k) _).putObj (.inr ⟨by omega, hDl⟩) _)) (fun k hk => by have := hD k hk; simp; omega) ((World.putObj_heap_other (by omega)).trans hk)⟩

/-- The statement, within a round of loop l₀. -/
theorem range_in {α : Type} {g : Operand} {ps : Array Tmp} {assign body : Code} {Q : Exit → Act → World → Prop} {a : Act} {w : World} {l₀ : Nat} (hl₀ : ∃ r₀, w.heap[l₀]? = some (.loop r₀)) {gf : Nat} {lb : Array Value}
    (hg : a.eval g = .func (.func gf) #[] lb) (eg : ∀ args w, (callFunc gf args).run P w = .ok (.enter gf args) w)
    {encs : α → Array Value} {L : List α} (M : Nat → Prop) (hM : ∀ k, M k → k < w.heap.size) (hps : ∀ x, (encs x).size = ps.size)
    (hseq : ∀ W1 l, Upd (fun _ => False) w W1 → w.heap.size ≤ l → l < W1.heap.size → Iter P gf lb encs L (fun k => M k ∨ k = l) W1)
    (J : List α → (Nat → Prop) → World → Prop) (Jx : Code → List α → (Nat → Prop) → World → Prop) (hJ : Firm w.heap.size J) (hJx : ∀ c, Firm w.heap.size (Jx c)) (h0 : J [] (fun _ => False) w)
    (howes : RoundOwes P (n - 1 - 1) w.heap.size encs ps a.tmps assign body L M J Jx)
    (hdone : ∀ (D : Nat → Prop) (W : World), J L D W → (∀ k, D k → w.heap.size < k ∧ k < W.heap.size) → Q .normal a W)
    (hstop : ∀ (D : Nat → Prop) (c : Code) (pre : List α) (W : World), pre <+: L → Jx c pre D W → (∀ k, D k → w.heap.size < k ∧ k < W.heap.size) → c.wpIn (Fence.wide.inRound l₀) n P Q a W) :
    (Code.rangeFunc g ps assign body).wpIn (Fence.wide.inRound l₀) n P Q a w := by
  obtain ⟨r₀, hl₀⟩ := hl₀
  refine wpIn_rangeFunc ?_
  intro fn hfn
  obtain ⟨rec, hrec⟩ : ∃ rec : LoopState → Option Code → Loop, rec = fun st pe => { state := st, pending := pe, fn, tmps := a.tmps, params := ps, assign, body, defers := r₀.defers } := ⟨_, rfl⟩
  obtain ⟨W1, hW1⟩ : ∃ W1, w.alloc (.loop (rec .ready none)) = W1 := ⟨_, rfl⟩
  have hL1 : W1.heap[w.heap.size]? = some (.loop (rec .ready none)) := by rw [← hW1]; exact World.alloc_heap_new w _
  have hz1 : W1.heap.size = w.heap.size + 1 := by rw [← hW1]; simp
  have hu1 : Upd (fun _ => False) w W1 := by rw [← hW1]; exact (Upd.refl _ w).alloc _
  have hI1 : J [] (fun _ => False) W1 := hJ _ _ _ _ h0 (hu1.mono fun _ _ e => e.elim)
  have hi := hseq W1 w.heap.size hu1 (by omega) (by omega)
  refine ⟨w.heap.size, [], W1, { target := .fn (.func gf) lb, args := #[.func (.yield w.heap.size) #[] #[]] }, W1, gf,
    #[.func (.yield w.heap.size) #[] #[]] ++ lb, W1, ?_, ?_, ?_, ?_, (fun h => by cases h), ?_⟩
  · rw [← hW1, hrec]; exact run_enterLoop_inner hl₀ _ _ _ _ _
  · simp only [resolve, hg]
    simp [go_sem]
  · intro f' hf'; trivial
  · simp [invoke, go_sem, eg]
  · refine CallsIn.inRound l₀ (callsIn_wide.2 ((hi w.heap.size
      (fun pre D W => J pre D W ∧ W.heap[w.heap.size]? = some (.loop (rec .ready none)) ∧ (∀ k, D k → W1.heap.size ≤ k ∧ k < W.heap.size))
      (fun pre D W => ∃ c, Jx c pre D W ∧ W.heap[w.heap.size]? = some (.loop (rec .done (some c))) ∧ (∀ k, D k → W1.heap.size ≤ k ∧ k < W.heap.size))
      ?_ ?_ ?_ ⟨hI1, hL1, fun _ e => e.elim⟩).mono ?_))
    · rintro s D X Y ⟨hj, hl, hD⟩ hu
      exact ⟨hJ _ _ _ _ hj (hu.mono fun k _ e => ⟨by omega, e.2⟩), (hu.block _ (Array.getElem?_eq_some_iff.1 hl).1 (fun e => by omega)).trans hl, fun k hk => by have := hD k hk; have := hu.size; omega⟩
    · rintro s D X Y ⟨c, hj, hl, hD⟩ hu
      exact ⟨c, hJx _ _ _ _ _ hj (hu.mono fun k _ e => ⟨by omega, e.2⟩), (hu.block _ (Array.getElem?_eq_some_iff.1 hl).1 (fun e => by omega)).trans hl, fun k hk => by have := hD k hk; have := hu.size; omega⟩
    · rintro pre x D W ⟨hj, hl, hD⟩ hsz hpre m
      obtain ⟨fn', tm, asg, bo, hy, hR⟩ := round_of (P := P) (n := n - 1 - 1) (l := w.heap.size) (B := w.heap.size) (B1 := W1.heap.size) (rec := rec) (M := M) (fn := fn) (encs := encs) (ps := ps) (tmps := a.tmps) (assign := assign) (body := body) (L := L) (J := J) (Jx := Jx)
        (rest := fun _ => True)
        (by rw [hrec]; exact fun st pe => ⟨rfl, rfl, rfl, rfl, rfl, rfl, fun _ _ => rfl⟩) (by rw [hrec]; exact fun _ _ _ => rfl) hps hJ hJx (by omega) (by omega) hM
        (fun _ _ _ _ => trivial) howes hj hl hD trivial hsz hpre m
      refine ⟨fn', tm, asg, bo, hy, hR.mono ?_⟩
      rintro e W' (⟨he, D', ⟨h1, h2, h3, _⟩, hu, hD'⟩ | ⟨he, D', ⟨c, h1, h2, h3, _⟩, hu, hD'⟩)
      · exact .inl ⟨he, D', ⟨h1, h2, h3⟩, hu.mono fun k _ e => by rcases e with e | e | e <;> simp [e], hD'⟩
      · exact .inr ⟨he, D', ⟨c, h1, h2, h3⟩, hu.mono fun k _ e => by rcases e with e | e | e <;> simp [e], hD'⟩
    · rintro e W2 ⟨⟨v, rfl⟩, (⟨D, hj, hl, hD⟩ | ⟨pre, D, hpre, c, hj, hl, hD⟩)⟩
      · have hDl : ¬ D w.heap.size := fun e => by have := hD _ e; omega
        exact ⟨none, _, by have := run_endLoop (P := P) hl (by rw [hrec]; simp); rw [hrec] at this; exact this,
          hdone D _ (hJ _ _ _ _ hj ((Upd.refl (fun k => w.heap.size ≤ k ∧ ¬ D k) _).putObj (.inr ⟨by omega, hDl⟩) _)) (fun k hk => by have := hD k hk; simp; omega)⟩
      · have hDl : ¬ D w.heap.size := fun e => by have := hD _ e; omega
        exact ⟨some c, _, by have := run_endLoop (P := P) hl (by rw [hrec]; simp); rw [hrec] at this; exact this,
          hstop D c pre _ hpre (hJx _ _ _ _ _ hj ((Upd.refl (fun k => w.heap.size ≤ k ∧ ¬ D k) _).putObj (.inr ⟨by omega, hDl⟩) _)) (fun k hk => by have := hD k hk; simp; omega)⟩
end
end Go.Proofs.Ytipdmaggfbfnlaa

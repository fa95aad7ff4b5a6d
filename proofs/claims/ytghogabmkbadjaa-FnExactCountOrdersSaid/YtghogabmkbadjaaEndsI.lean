/- The pairs of items apart: the program's: a list gone through backwards, and a row of structs that grows. -/
import Derived.Test.YtghogabmkbadjaaSdM
import Derived.Test.YtghogabmkbadjaaTwI
import Derived.Test.YtghogabmkbadjaaGb
set_option linter.unusedVariables false
set_option linter.unusedSimpArgs false
namespace Go.Proofs.Ytghogabmkbadjaa
open Go.RowKit Go.Shelf
attribute [local go_sem] Oper.semAt_some
attribute [local go_sem, local simp] wide_fn

section
variable {P : Program} (w : World)
theorem wpListIn_append2 {F : Fence} {m : Nat} {ops : Array Oper} {rest : List Oper} {o : Oper} {a : Act} {Q : Exit → Act → World → Prop} (hgd : o.guard = none) (s x : Operand) (t : TypeId)
    (ho : o.op = .call { callee := .builtin .append, args := #[s, x], argTypes := #[t, t] })
    (base : Nat) (e : TypeId) (i : TypeInfo) (z : Value) (bytes : Nat) (ht : P.underlying t = some (.slice e)) (hi : P.info? e = some i) (hz : i.zero = some z)
    (hsize : i.size = 2) (hby : i.bytes = bytes) (hzs : z.cells.size = 2)
    (v : Value) (n : Nat) (xs : List Value) (hs : a.eval s = v) (hown : w.ownsRow base e 2 v n xs)
    (b c : Nat) (u1 u2 : Value) (hx : a.eval x = .slice (some ⟨b, 0, none⟩) 1 c) (hu1 : w.cell? ⟨b, 0, none⟩ = some u1) (hu2 : w.cell? ⟨b, 1, none⟩ = some u2) (h1 : u1.oneCell' = true) (h2 : u2.oneCell' = true)
    (h63 : n + 1 ≤ 1152921504606846976) (hbytes : (n + 1) * bytes ≤ 140737488355328) (hbase : base ≤ w.heap.size)
    (h : ∀ v' w', w'.ownsRow base e 2 v' (n + 1) (xs ++ [u1, u2]) → w.grownBy w' v.ownBlock → (v'.ownBlock = v.ownBlock ∨ v'.ownBlock = some w.heap.size) → wpListIn F m P ops Q rest (a.put o.dst v') w') : wpListIn F m P ops Q (o :: rest) a w := by
  obtain ⟨v', w', hrun, hA, h3, _, h5⟩ := run_append_own_at (P := P) w base t o.type e i z 2 bytes ht hi hz hsize hby hzs (by omega) v n xs hown ⟨b, 0, none⟩ 1 c [u1, u2] (by simp) (fun j u' hj => by
    match j with
    | 0 => simp at hj; subst hj; simpa [Addr.add] using hu1
    | 1 => simp at hj; subst hj; simpa [Addr.add] using hu2
    | j + 2 => simp at hj) (fun u' hu' => by
      rcases List.mem_cons.1 hu' with e | e
      · rw [e]; exact h1
      · rw [List.mem_singleton.1 e]; exact h2) (by simp only [maxLen]; omega) hbytes hbase
  refine wpListIn_plain hgd fun K hK => ?_
  unfold Oper.wpIn
  refine ⟨?_, ?_⟩
  · simp [Oper.about, ho, resolve, Target.leads, Sem.run_pure]
  · rw [Oper.semAt_plain F _ _ (by rw [ho]; intro c hc'; cases hc')]
    simp [execOp, ho, resolve, invoke, builtin, hs, hx, hrun, Result.andThen]
    exact hK _ _ (h v' w' hA h3 h5)
end

/-- Pairs, laid one behind the other. -/
def flP (ps : List (Nat × Nat)) : List Value := ps.flatMap fun p => [.int .i64 (p.1 : Int), .int .i64 (p.2 : Int)]
theorem flP_snoc (ps : List (Nat × Nat)) (p : Nat × Nat) : flP (ps ++ [p]) = flP ps ++ [.int .i64 (p.1 : Int), .int .i64 (p.2 : Int)] := by simp [flP]
theorem flP_at : ∀ (ps : List (Nat × Nat)) {k : Nat}, k < ps.length → (flP ps)[k * 2]? = some (.int .i64 ((ps[k]?.getD (0, 0)).1 : Int)) ∧ (flP ps)[k * 2 + 1]? = some (.int .i64 ((ps[k]?.getD (0, 0)).2 : Int))
  | [], k, h => by simp at h
  | p :: ps, 0, _ => by simp [flP]
  | p :: ps, k + 1, h => by
    have ih := flP_at ps (k := k) (by simpa using h)
    have e : flP (p :: ps) = .int .i64 (p.1 : Int) :: .int .i64 (p.2 : Int) :: flP ps := by simp [flP]
    rw [e, show (k + 1) * 2 = k * 2 + 1 + 1 by omega]
    simpa using ih
section
variable {S R : Nat → Prop} {w w' : World} {B : Nat} {v : Value} {ps : List (Nat × Nat)}
theorem own_ltP {base n s : Nat} {e : TypeId} {ys : List Value} (h : w.ownsRow base e s v n ys) : ∀ g, v.ownBlock = some g → g < w.heap.size := fun g hg => by
  rcases h.2 with ⟨rfl, _⟩ | ⟨g', cap, cur, rfl, _, hc, _⟩
  · simp [Value.ownBlock] at hg
  · simp [Value.ownBlock] at hg; subst hg; exact (Array.getElem?_eq_some_iff.1 hc).1
end

/-! A list gone through backwards. -/
abbrev encB (zs : List Int) (x : Nat) : Array Value := #[.int .i64 (x : Int), .int .i64 (zs[x]?.getD 0)]
theorem backward_any (A : Option Addr) (n c : Nat) (w : World) :
    Calls Try.prog 97 #[.slice A n c] w fun e w' => e = .returned (.func (.func 105) #[] #[.pointer (some ⟨w.heap.size, 0, none⟩)]) ∧ w' = w.alloc (.cells #[.slice A n c] 44) := by
  go_enter Try.func97, Try.ntmps97
  go_wp2
  go_ret
  exact ⟨rfl, rfl⟩
theorem rev_take (n k : Nat) (hk : k < n) : (List.range n).reverse.take k ++ [n - 1 - k] = (List.range n).reverse.take (k + 1) := by
  have hl : k < (List.range n).reverse.length := by simpa using hk
  rw [List.take_succ_eq_append_getElem hl]
  congr 1
  simp

set_option maxRecDepth 100000 in
set_option maxHeartbeats 2000000 in
theorem backward_iter (A : Option Addr) (n c : Nat) (zs : List Int) (b : Nat) (M : Nat → Prop) (w : World) (hb : Boxed w b 44 (.slice A n c)) (hM : ¬ M b) (hn : n ≤ 6)
    (hA : Ints w w.heap.size A n zs) (hMA : 0 < n → ∀ a, A = some a → ¬ M a.block) :
    Iter Try.prog 105 #[.pointer (some ⟨b, 0, none⟩)] (encB zs) (List.range n).reverse M w := fun l J Jx hJ hJx hY h0 => by
  refine (callsIn_wide (n := 9)).1 ?_
  refine callsIn_of_wp Try.func105 rfl trivial ?_ rfl
  simp only [Try.ntmps105, List.size_toArray, List.length_cons, List.length_nil, Nat.reduceAdd, Nat.reduceSub, Array.replicate_succ, Array.replicate_zero, List.push_toArray, List.append_toArray, List.nil_append, List.cons_append]
  have hc0 := hb.cell
  have hw1 : IntKind.i64.wrap ((n : Int) - 1) = (n : Int) - 1 := by rw [IntKind.wrap_i64]; omega
  gi_wp2
  clear hc0
  gi_loopw [3] (fun i wr => ∃ (k : Nat) (D : Nat → Prop), k ≤ n ∧ i = .int .i64 ((n : Int) - 1 - k) ∧ J ((List.range n).reverse.take k) D wr ∧ Upd M w wr ∧ (∀ j, D j → w.heap.size ≤ j)) (fun i _ => (intOf i + 1).toNat)
  case atStart => exact ⟨0, fun _ => False, by omega, by simp, by simpa using h0, Upd.refl _ _, fun _ e => e.elim⟩
  case round =>
    obtain ⟨k, D, hk, rfl, hj, hU, hD⟩ := hrel
    rename World => wr
    have hlb := hb.lt
    have hbr := hU.boxed hb hM
    have hcb := hbr.cell
    by_cases hlt : k < n
    · obtain ⟨ab, off, rfl, hab, hc⟩ := hA.at_ (k := n - 1 - k) (by omega)
      have hck := hU.cell (hc (n - 1 - k) (by omega)) (hMA (by omega) ⟨ab, off, none⟩ rfl)
      have Ht := Lib.hid (rev_take n k hlt)
      have hpre : (List.range n).reverse.take k ++ [n - 1 - k] <+: (List.range n).reverse := by rw [Ht.out]; exact List.take_prefix _ _
      have hsz := hU.size
      obtain ⟨fn, tmps, assign, body, hy, hR⟩ := hY _ (n - 1 - k) D wr hj hsz hpre 8
      have hxe : (n : Int) - 1 - k = ((n - 1 - k : Nat) : Int) := by omega
      rw [hxe]
      have Hx := Lib.hid (show n - 1 - k < n by omega)
      have Hxe := Lib.hid hxe
      clear hxe hc
      generalize hx : n - 1 - k = x at *
      have Hxx := Lib.hid hx
      clear hx
      have hxn := Hx.out
      have hge : decide ((x : Int) ≥ 0) = true := by simp
      have hw2 : IntKind.i64.wrap ((x : Int) - 1) = (x : Int) - 1 := by rw [IntKind.wrap_i64]; omega
      gi_wp2
      refine hR.mono ?_
      rintro e W3 (⟨rfl, D', hJ3, hU3, hD'⟩ | ⟨rfl, D', hJ3, hU3, hD'⟩)
      · have hz3 := hU3.size
        have hU4 : Upd M w W3 := hU.trans' hU3 (fun i hi e => e.elim id (fun e => absurd (hD i e) (by omega)))
        gi_wp2
        go_roundw
        case rel => exact ⟨k + 1, D', by omega, by have := Hxx.out; congr 1; omega, by rw [← Ht.out]; exact hJ3, hU4, fun j hj => (hD' j hj).elim (hD j) (fun h => by omega)⟩
        case measure => simp [intOf]
      · gi_wp2
        refine bodyPost_ret (results_none rfl _ _ _) rfl ?_
        exact ⟨⟨_, rfl⟩, .inr ⟨_, D', hpre, hJ3⟩⟩
    · obtain rfl : k = n := by omega
      have hge : decide ((k : Int) - 1 - (k : Int) ≥ 0) = false := decide_eq_false (by omega)
      gi_wp2
      go_end0
      exact ⟨⟨_, rfl⟩, .inl ⟨D, by rw [List.take_of_length_le (by simp)] at hj; exact hj⟩⟩
end Go.Proofs.Ytghogabmkbadjaa

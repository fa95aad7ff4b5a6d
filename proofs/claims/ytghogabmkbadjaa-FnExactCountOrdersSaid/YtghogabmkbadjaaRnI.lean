/- An order under new numbers: the program's. -/
import Derived.Test.YtghogabmkbadjaaGxd
import Derived.Test.YtghogabmkbadjaaGa
import Derived.Test.YtghogabmkbadjaaIsLineI
import Derived.Test.YtghogabmkbadjaaGxf
import Derived.Test.YtghogabmkbadjaaGc
import Derived.Laws.CopyRow
set_option linter.unusedVariables false
set_option linter.unusedSimpArgs false
namespace Go.Proofs.Ytghogabmkbadjaa
open Go.RowKit Go.Shelf
attribute [local go_sem] Oper.semAt_some
attribute [local go_sem, local simp] wide_fn

/-- Numbers that lie beside block g. -/
def IntsN (g : Nat) (w : World) (A : Option Addr) (n : Nat) (xs : List Int) : Prop := xs.length = n ∧ (0 < n → ∃ b off, A = some ⟨b, off, none⟩ ∧ b ≠ g ∧ b < w.heap.size ∧ ∀ j, j < n → w.cell? ⟨b, off + j, none⟩ = some (.int .i64 (xs[j]?.getD 0)))
section
variable {g n : Nat} {w w' : World} {A : Option Addr} {xs : List Int} {R : Nat → Prop}
theorem IntsN.len (h : IntsN g w A n xs) : xs.length = n := h.1
theorem IntsN.upd (h : IntsN g w A n xs) (hu : Upd R w w') (hr : ∀ k, k < w.heap.size → R k → k = g) : IntsN g w' A n xs :=
  ⟨h.1, fun hn => by
    obtain ⟨b, off, e, h1, h2, h3⟩ := h.2 hn
    exact ⟨b, off, e, h1, by have := hu.size; omega, fun j hj => hu.cell (h3 j hj) (fun hr' => h1 (hr b h2 hr'))⟩⟩
theorem Ints.beside {B : Nat} (h : Ints w B A n xs) (hg : B ≤ g) (hB : B ≤ w.heap.size) : IntsN g w A n xs :=
  ⟨h.len, fun hn => by
    obtain ⟨b, off, e, h1, h2⟩ := h.at_ hn
    exact ⟨b, off, e, by omega, by omega, h2⟩⟩
theorem lnHas_beside {x : Ln} (h : lnHas x w) (hg : ¬ lnOwn x g) : ∃ A c, x.2 = .slice A x.1.length c ∧ IntsN g w A x.1.length x.1 := by
  obtain ⟨A, c, e, hI, _⟩ := ints_of_own_at h
  refine ⟨A, c, e, hI.len, fun hn => ?_⟩
  obtain ⟨b, off, rfl, h1, h2⟩ := hI.at_ hn
  exact ⟨b, off, rfl, fun e2 => hg (by unfold lnOwn; rw [e, e2]; rfl), h1, h2⟩
theorem IntsN.cells (h : IntsN g w A n xs) {k : Nat} (hk : k < n) : ∃ b off, A = some ⟨b, off, none⟩ ∧ b ≠ g ∧ b < w.heap.size ∧ ∀ j, j < n → w.cell? ⟨b, off + j, none⟩ = some (.int .i64 (xs[j]?.getD 0)) := h.2 (by omega)
end

/-- clear on a row of sets. -/
theorem clear_any (W : World) (g n c : Nat) (ty : TypeId) (cur : List Int) (hA : Arr W g 59 cur) (hl : cur.length = n) :
    ∃ W', (Builtin.clear_ #[44] ty #[.slice (some ⟨g, 0, none⟩) n c]).run Try.prog W = .ok (.tuple #[]) W' ∧ Arr W' g 59 (List.replicate n 0) ∧ Upd (fun k => k = g) W W' ∧ W'.heap.size = W.heap.size := by
  cases n with
  | zero =>
    obtain rfl : cur = [] := List.eq_nil_of_length_eq_zero hl
    refine ⟨W, ?_, hA, Upd.refl _ _, rfl⟩
    simp [Builtin.clear_, run_underlying Try.underlying44, Result.andThen]
  | succ n =>
    have hst := run_storeCells_at (P := Try.prog) g 0 59 (List.replicate (n + 1) (Value.int .i64 0)) 0 (cur.map (Value.int .i64)).toArray W hA (by simp; omega) (fun v hv => by rw [List.eq_of_mem_replicate hv]; rfl)
    have hz : (Builtin.zeroCells #[Value.int .i64 0] (n + 1)).toList = List.replicate (n + 1) (Value.int .i64 0) := by
      apply List.ext_getElem
      · simp [Builtin.zeroCells]
      · intro i h1 h2
        simp [Builtin.zeroCells, Nat.mod_one]
    obtain ⟨i0, hi0, hz0, hz1, hz2⟩ := info_parts infoItems
    have hq : (List.take (0 + 0) (cur.map (Value.int .i64)).toArray.toList ++ List.replicate (n + 1) (Value.int .i64 0) ++ List.drop (0 + 0 + (List.replicate (n + 1) (Value.int .i64 0)).length) (cur.map (Value.int .i64)).toArray.toList).toArray = ((List.replicate (n + 1) (0 : Int)).map (Value.int .i64)).toArray := by
      rw [List.drop_eq_nil_of_le (by simp; omega), show List.take (0 + 0) (cur.map (Value.int .i64)).toArray.toList = [] from rfl, List.nil_append, List.append_nil, List.map_replicate]
    rw [hq] at hst
    refine ⟨W.setRow g ((List.replicate (n + 1) (0 : Int)).map (Value.int .i64)).toArray, ?_, setRow_heap _ _ _ _ _ _ hA, ⟨rfl, rfl, rfl, by simp, fun i _ hi => setRow_other _ _ _ _ hi⟩, setRow_size _ _ _⟩
    obtain ⟨W9, hW9⟩ : ∃ W9, W.setRow g ((List.replicate (n + 1) (0 : Int)).map (Value.int .i64)).toArray = W9 := ⟨_, rfl⟩
    rw [hW9] at hst ⊢
    have hst' : Sem.run Try.prog (storeCells { block := g, off := 0 } (Builtin.zeroCells (Value.int IntKind.i64 0).cells (n + 1)).toList) W = .ok () W9 := by
      rw [show (Value.int IntKind.i64 0).cells = #[Value.int .i64 0] from rfl, hz]; exact hst
    simp only [Builtin.clear_, List.getElem?_toArray, List.getElem?_cons_zero, Sem.run_bind, run_underlying Try.underlying44, Result.andThen_ok, zeroValue, typeInfo]
    simp [hi0, hz0, Result.andThen]
    rw [hst']

set_option maxRecDepth 100000 in
set_option maxHeartbeats 4000000 in
theorem renumberInto_any (A : Option Addr) (n c : Nat) (zs : List Int) (hv : Sets zs) (g cg : Nat) (cur : List Int) (A' : Option Addr) (c' : Nat) (ts : List Int) (B : Nat) (w : World) (hA : Ints w B A n zs) (hG : Arr w g 59 cur) (hl : cur.length = n) (hBg : B ≤ g) (h' : IntsN g w A' n ts) (ht0 : lineB (zr n) ts = true) :
    Calls Try.prog 49 #[.slice A n c, .slice (some ⟨g, 0, none⟩) n cg, .slice A' n c'] w fun e W' => (∃ v, e = .returned v) ∧ Arr W' g 59 (rnL zs ts) ∧ Upd (fun k => k = g) w W' := by
  have hlen := Lib.hid hA.len
  have hn6 : n ≤ 6 := by have := hv.1; rw [hlen.out] at this; exact this
  have Ht := Lib.hid ht0
  clear ht0
  have hgl := hG.lt
  have hu2 : Upd (fun _ => False) w ((w.alloc (.cells #[Value.slice (some ⟨g, 0, none⟩) n cg] 44)).alloc (.cells #[Value.slice A' n c'] 22)) := ((Upd.refl _ w).alloc _).alloc _
  have hG2 := hG.upd hu2 (fun e => e)
  obtain ⟨W3, hclr, hG3, hu3, hs3⟩ := clear_any ((w.alloc (.cells #[Value.slice (some ⟨g, 0, none⟩) n cg] 44)).alloc (.cells #[Value.slice A' n c'] 22)) g n cg 0 cur hG2 hl
  refine (callsIn_wide (n := 9)).1 ?_
  refine callsIn_of_wp_marks Try.func49 rfl trivial ?_ rfl
  simp only [Try.ntmps49, List.size_toArray, List.length_cons, List.length_nil, Nat.reduceAdd, Nat.reduceSub, Array.replicate_succ, Array.replicate_zero, List.push_toArray, List.append_toArray, List.nil_append, List.cons_append]
  gi_wp2_with (gi_at_call 76; refine (callsIn_wide.2 (pairs_any _ _ _ _)).mono ?_; rintro e w' ⟨rfl, rfl⟩)
  have z3 := hu3.size
  have hz3 : W3.heap.size = w.heap.size + 2 := by rw [hs3]; simp
  clear hs3
  have bM2 := (Boxed.new w 44 (.slice (some ⟨g, 0, none⟩) n cg)).alloc (.cells #[Value.slice A' n c'] 22)
  have bT2 := Boxed.new (w.alloc (.cells #[Value.slice (some ⟨g, 0, none⟩) n cg] 44)) 22 (.slice A' n c')
  simp only [World.size_alloc] at bT2 z3
  have bP := Boxed.new W3 44 (.slice A n c)
  have hu4 : Upd (fun _ => False) W3 (W3.alloc (.cells #[Value.slice A n c] 44)) := (Upd.refl _ W3).alloc _
  have hz4 : (W3.alloc (.cells #[Value.slice A n c] 44)).heap.size = W3.heap.size + 1 := by simp
  have bM3 := hu3.boxed bM2 (by omega)
  have bT3 := hu3.boxed bT2 (by omega)
  have bM4 := hu4.boxed bM3 (fun e => e)
  have bT4 := hu4.boxed bT3 (fun e => e)
  have aG4 := hG3.upd hu4 (fun e => e)
  have hU4 : Upd (fun k => k = g) w (W3.alloc (.cells #[Value.slice A n c] 44)) := ((hu2.mono fun _ _ e => e.elim).trans hu3).trans (hu4.mono fun _ _ e => e.elim)
  obtain ⟨W0, hW0⟩ : ∃ W0, W3.alloc (.cells #[Value.slice A n c] 44) = W0 := ⟨_, rfl⟩
  rw [hW0] at bP bM4 bT4 aG4 hU4 hz4 ⊢
  clear hW0 hclr hG2 hG3 hu2 hu3 hu4 bM2 bT2 bM3 bT3
  have bP : Boxed W0 (w.heap.size + 1 + 1) 44 (.slice A n c) := by rw [hz3] at bP; exact bP
  have hA0 : Ints W0 B A n zs := hA.below (hU4.toBelow (B := B) (fun k e => by omega) (by omega))
  have hN0 : IntsN g W0 A' n ts := h'.upd hU4 (fun k _ e => e)
  refine range_out (n := 9) (gf := 92) (lb := #[.pointer (some ⟨w.heap.size + 1 + 1, 0, none⟩)]) rfl (enters_of Try.func92 (by kernel_rfl) rfl) (encs := encP) (L := pairsL zs)
    (fun k => k = g) (fun k e => by omega) (fun _ => rfl)
    (fun W1 l1 hu1 hl1 hl2 => pairs_iter_at hv bP (fun k e => by omega) (by omega) hA0 (by omega) (fun k e => by omega) hu1 hl1 hl2)
    (fun pre D W => Arr W g 59 (rnP ts n pre) ∧ Upd (fun k => k = g) W0 W)
    (fun _ _ _ _ => False)
    (fun _ D X Y hs hu => ⟨hs.1.upd hu (fun e => by omega), hs.2.trans' hu (fun i hi e => by omega)⟩)
    (fun _ _ _ _ _ hs _ => hs)
    ⟨aG4, Upd.refl _ _⟩ ?owes ?done ?stop
  case owes =>
    rintro l1 pre ⟨lo, hi⟩ D1 W hl1 hl2 hDl hD1 - hpre K hK
    gi_wp2
    refine hK _ _ (Upd.refl _ _) ?_
    rintro Wb hWb - ⟨aD1, hU⟩
    clear hK
    obtain ⟨hlo, hhi, hbit⟩ := hv.pair (a := lo) (b := hi) (hpre.subset (by simp))
    rw [hlen.out] at hlo hhi
    have hcM := (hU.boxed bM4 (by omega)).cell
    have hcT := (hU.boxed bT4 (by omega)).cell
    have hsb := hU.size
    have hszb := hWb.size
    obtain ⟨t1, t2⟩ := it_lt Ht.out hlo
    obtain ⟨t3, t4⟩ := it_lt Ht.out hhi
    obtain ⟨bt, off, rfl, hbg, hbl, hct⟩ := (hN0.upd hU (fun k _ e => e)).cells hlo
    have htk := hct lo hlo
    have htj := hct hi hhi
    rw [t1] at htk
    rw [t3] at htj
    have hlb : itN ts lo < (rnP ts n pre).length := by rw [rnP_len]; exact t2
    have hcs := aD1.cell hlb
    have hfs := aD1.frozen (itN ts lo)
    have Hs := Lib.hid (rnP_snoc ts n pre lo hi)
    have hbd := rnP_bd (ts := ts) (n := n) (m := n) (ps := pre) (fun p hp => by
      have h3 := (hv.pair (a := p.1) (b := p.2) (hpre.subset (by simp [hp]))).2.1
      rw [hlen.out] at h3
      exact (it_lt Ht.out h3).2) (itN ts lo)
    have hpn := powI_le6 (n := (n : Int)) (by omega)
    clear hlb t1 t3 hct
    generalize hD : rnP ts n pre = D at *
    have HD := Lib.hid hD
    clear hD
    generalize itN ts lo = x at *
    generalize itN ts hi = y at *
    gi_wp2
    refine region_tail_round 12 (by kernel_rfl) (by kernel_rfl) (by kernel_rfl) ?_
    simp only [List.take_succ_cons, List.take_zero, List.drop_succ_cons, List.drop_zero]
    repeat (gi_big_quiet_step ((first
      | (gi_at_call 77; exact quietIn_add (with_any _ _ _ (by omega) (by omega) (by omega) (by omega)))
      | (gi_at_call 77; exact quietIn_left (with_any _ _ _ (by omega) (by omega) (by omega) (by omega))))))
    refine wpQuietIn_nil ?_
    intro _ hw'
    obtain ⟨nq, hw''⟩ := hw'
    subst hw''
    gi_wp2
    exact ⟨D1, ⟨by rw [Hs.out]; exact (aD1.drewN nq).set _ _, (hU.drewN _).setCell (p := ⟨g, x, none⟩) (.inr rfl) _⟩, ((Upd.refl _ _).drewN _).setCell (p := ⟨g, x, none⟩) (.inr (.inl rfl)) _, fun k hk => .inl hk⟩
  case done =>
    rintro d D1 W hd ⟨aD1, hU⟩ hD1 hKd
    gi_wp2
    refine leaves_marks [d] _ ⟨by simp, fun b hb => ?_⟩ (fun W' hu' => ?_)
    · rw [List.mem_singleton.1 hb]
      exact hKd
    · exact ⟨_, results_none rfl _ _ _, ⟨_, rfl⟩, by unfold rnL; rw [hlen.out]; exact aD1.upd hu' (by simp; omega), (hU4.trans hU).trans' hu' (fun i hi e => by simp at e; omega)⟩
  case stop =>
    rintro d D1 co pre W hd hpre h
    exact h.elim
end Go.Proofs.Ytghogabmkbadjaa

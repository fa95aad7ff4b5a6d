/- The pairs of an order, one after the other: the iterator 'pairs'. -/
import Derived.Test.YtipdmaggfbfnlaaEach
set_option linter.unusedVariables false
set_option linter.unusedSimpArgs false
namespace Go.Proofs.Ytipdmaggfbfnlaa
open Go.RowKit Go.Shelf
attribute [local go_sem] Oper.semAt_some

/-- The pairs of the items less than k and those above them. -/
def pairsTo (zs : List Int) (k : Nat) : List (Nat × Nat) := (List.range k).flatMap fun a => (itemsL (zs[a]?.getD 0)).map fun b => (a, b)
def pairsL (zs : List Int) : List (Nat × Nat) := pairsTo zs zs.length
theorem pairsTo_succ (zs : List Int) (k : Nat) : pairsTo zs (k + 1) = pairsTo zs k ++ (itemsL (zs[k]?.getD 0)).map fun b => (k, b) := by
  simp [pairsTo, List.range_succ]
theorem pairsTo_le (zs : List Int) {k m : Nat} (h : k ≤ m) : pairsTo zs k <+: pairsTo zs m := by
  induction m with
  | zero => rw [show k = 0 from by omega]; exact List.prefix_refl _
  | succ m ih =>
    rcases Nat.lt_or_ge m k with h1 | h1
    · rw [show k = m + 1 from by omega]; exact List.prefix_refl _
    · rw [pairsTo_succ]; exact (ih h1).trans (List.prefix_append _ _)
theorem mem_pairsL {zs : List Int} {a b : Nat} : (a, b) ∈ pairsL zs ↔ a < zs.length ∧ b < 6 ∧ bitB (zs[a]?.getD 0) b = true := by
  simp only [pairsL, pairsTo, List.mem_flatMap, List.mem_range, List.mem_map, itemsL, mem_itemsTo]
  constructor
  · rintro ⟨x, hx, y, ⟨hy, hb⟩, e⟩
    cases e
    exact ⟨hx, hy, hb⟩
  · rintro ⟨h1, h2, h3⟩
    exact ⟨a, h1, b, ⟨h2, h3⟩, rfl⟩
theorem Sets.pair {zs : List Int} (h : Sets zs) {a b : Nat} (hp : (a, b) ∈ pairsL zs) : a < zs.length ∧ b < zs.length ∧ bitB (zs[a]?.getD 0) b = true := by
  obtain ⟨h1, _, h3⟩ := mem_pairsL.1 hp
  exact ⟨h1, bitB_lt (h.2 a h1).2 h3, h3⟩
abbrev encP (x : Nat × Nat) : Array Value := #[.int .i64 (x.1 : Int), .int .i64 (x.2 : Int)]

/-- The marks of loops that are over, at the activation's end. -/
def marks (bs : List Nat) : List Deferred := bs.map fun b => { target := .collected b, args := #[] }
def Open (bs : List Nat) (W : World) : Prop := bs.Nodup ∧ ∀ b ∈ bs, W.heap[b]? = some (.deferred (some []))
theorem Open.cons {bs : List Nat} {W : World} {b : Nat} (h : Open bs W) (hb : W.heap[b]? = some (.deferred (some []))) (hn : b ∉ bs) : Open (b :: bs) W :=
  ⟨List.nodup_cons.2 ⟨hn, h.1⟩, fun c hc => by 
    rcases List.mem_cons.1 hc with rfl | hc
    · exact hb
    · exact h.2 c hc⟩
theorem Open.upd {bs : List Nat} {R : Nat → Prop} {W W' : World} (h : Open bs W) (hu : Upd R W W') (hr : ∀ b ∈ bs, ¬ R b) : Open bs W' :=
  ⟨h.1, fun b hb => (hu.block b (Array.getElem?_eq_some_iff.1 (h.2 b hb)).1 (hr b hb)).trans (h.2 b hb)⟩
theorem leaves_marks {F : Fence} {n : Nat} {P : Program} {fn : Func} {tmps : Array Value} {R : Ending → World → Prop} :
    ∀ (bs : List Nat) (W : World), Open bs W → (∀ W', Upd (fun k => k ∈ bs) W W' → LeavesIn F n P fn tmps R [] .returning W') → LeavesInM F n P fn tmps R (marks bs) .returning W
  | [], W, _, h => h W (Upd.refl _ _)
  | b :: bs, W, ho, h => by
    have hb := ho.2 b (by simp)
    have hu : Upd (fun k => k = b) W (W.putObj b (.deferred none)) := (Upd.refl (fun k => k = b) W).putObj (.inr rfl) _
    refine ⟨by simp, .inl ⟨b, _, rfl, run_takeDeferred hb, leaves_marks bs _ (Open.upd ⟨(List.nodup_cons.1 ho.1).2, fun c hc => ho.2 c (by simp [hc])⟩ hu (fun c hc e => (List.nodup_cons.1 ho.1).1 (by rw [← e]; exact hc))) fun W' hu' => h W' ?_⟩⟩
    exact (hu.mono fun k _ e => by simp [e]).trans (hu'.mono fun k _ e => by simp [e])

theorem pairs_any (A : Option Addr) (n c : Nat) (w : World) :
    Calls Try.prog 72 #[.slice A n c] w fun e w' => e = .returned (.func (.func 113) #[] #[.pointer (some ⟨w.heap.size, 0, none⟩)]) ∧ w' = w.alloc (.cells #[.slice A n c] 43) := by
  go_enter Try.func72, Try.ntmps72
  go_wp2
  go_ret
  exact ⟨rfl, rfl⟩

theorem pairs_pre {zs : List Int} {k : Nat} (hk : k < zs.length) {xs : List Nat} (h : xs <+: itemsL (zs[k]?.getD 0)) : pairsTo zs k ++ xs.map (fun x => (k, x)) <+: pairsL zs := by
  refine List.IsPrefix.trans ?_ (pairsTo_le zs (k := k + 1) (m := zs.length) hk)
  rw [pairsTo_succ]
  exact (List.prefix_append_right_inj _).2 (h.map _)

/-- What holds between two rounds of the inner loop. -/
def PairIn (zs : List Int) (J : List (Nat × Nat) → (Nat → Prop) → World → Prop) (M D0 : Nat → Prop) (k : Nat) (Wc : World) (xs : List Nat) (D : Nat → Prop) (W : World) : Prop :=
  ∃ D2, J (pairsTo zs k ++ xs.map (fun x => (k, x))) D2 W ∧ (∀ j, D2 j → D0 j ∨ D j) ∧ Upd (fun j => M j ∨ D0 j) Wc W
theorem PairIn.firm {zs : List Int} {J : List (Nat × Nat) → (Nat → Prop) → World → Prop} {M D0 : Nat → Prop} {k B : Nat} {Wc : World} (hJ : Firm B J) (hB : B ≤ Wc.heap.size) (hD : ∀ j, D0 j → j < Wc.heap.size) : Firm Wc.heap.size (PairIn zs J M D0 k Wc) := by
  rintro s D W W' ⟨D2, hj, h2, hu⟩ hw
  refine ⟨D2, hJ _ _ _ _ hj (hw.mono fun j _ e => ⟨by omega, fun e2 => ?_⟩), h2, hu.trans' hw (fun i hi e => by omega)⟩
  rcases h2 j e2 with h | h
  · have := hD j h; omega
  · exact e.2 h

set_option maxRecDepth 100000 in
set_option maxHeartbeats 4000000 in
theorem pairs_iter (A : Option Addr) (n c : Nat) (zs : List Int) (hv : Sets zs) (b : Nat) (M : Nat → Prop) (w : World) (hb : Boxed w b 43 (.slice A n c)) (hM : ¬ M b) (hMb : ∀ k, M k → k < w.heap.size)
    (hA : Ints w w.heap.size A n zs) (hMA : 0 < n → ∀ a, A = some a → ¬ M a.block) :
    Iter Try.prog 113 #[.pointer (some ⟨b, 0, none⟩)] encP (pairsL zs) M w := fun l J Jx hJ hJx hY h0 => by
  refine (callsIn_wide (n := 9)).1 ?_
  refine callsIn_of_wp_marks Try.func113 rfl trivial ?_ rfl
  simp only [Try.ntmps113, List.size_toArray, List.length_cons, List.length_nil, Nat.reduceAdd, Nat.reduceSub, Array.replicate_succ, Array.replicate_zero, List.push_toArray, List.append_toArray, List.nil_append, List.cons_append]
  have hc0 := (hb.alloc (.cells #[Value.func (.yield l) #[] #[]] 59)).cell
  have hlen := Lib.hid hA.len
  have hn6 : n ≤ 6 := by have := hv.1; rw [hlen.out] at this; exact this
  have hbl := hb.lt
  gi_wp2
  clear hc0
  have hyb := Boxed.new w 59 (.func (.yield l) #[] #[])
  have hu0 : Upd (fun _ => False) w (w.alloc (.cells #[Value.func (.yield l) #[] #[]] 59)) := (Upd.refl _ w).alloc _
  refine wpIn_loop (fun a' wr => ∃ (k : Nat) (D : Nat → Prop) (bs : List Nat) (v3 v4 v5 v8 v9 v10 v11 v12 v13 v14 v15 v16 v17 v18 v19 v20 v21 : Value),
      (k ≤ n ∧ v8 = .int .i64 (k : Int) ∧ J (pairsTo zs k) D wr ∧ (∀ j, D j → w.heap.size < j ∧ j < wr.heap.size) ∧ Upd M w wr ∧ Boxed wr w.heap.size 59 (.func (.yield l) #[] #[]) ∧ Open bs wr ∧ (∀ j ∈ bs, w.heap.size < j ∧ ¬ D j)) ∧
      a' = { tmps := #[.func (.yield l) #[] #[], .pointer (some ⟨b, 0, none⟩), .pointer (some ⟨w.heap.size, 0, none⟩), v3, v4, v5, .slice A n c, .int .i64 (n : Int), v8, v9, v10, v11, v12, v13, v14, v15, v16, v17, v18, v19, v20, v21], defers := marks bs })
    (fun a' _ => n - (intOf (a'.tmps.getD 8 undef)).toNat) ?_ ?_
  · exact ⟨0, fun _ => False, [], _, _, _, _, _, _, _, _, _, _, _, _, _, _, _, _, _, ⟨by omega, rfl, hJ _ _ _ _ h0 (hu0.mono fun _ _ e => e.elim), fun _ e => e.elim, hu0.mono fun _ _ e => e.elim, hyb, ⟨List.nodup_nil, fun _ e => by cases e⟩, fun _ e => by cases e⟩, rfl⟩
  · rintro a' wr ⟨k, D, bs, v3, v4, v5, v8, v9, v10, v11, v12, v13, v14, v15, v16, v17, v18, v19, v20, v21, ⟨hk, rfl, hj, hD, hU, hyr, hop, hbs⟩, rfl⟩
    have hbr : Boxed wr b 43 (.slice A n c) := hU.boxed hb hM
    have hszr := hU.size
    by_cases hlt : k < n
    · obtain ⟨ab, off, rfl, hab, hc⟩ := hA.at_ hlt
      have hck := hU.cell (hc k hlt) (hMA (by omega) ⟨ab, off, none⟩ rfl)
      have hz := hv.bd k (by rw [hlen.out]; exact hlt)
      gi_wp2_with ((try refine ⟨trivial, ?_⟩); gi_at_call 114; refine (callsIn_wide.2 (each_any _ _)).mono ?_; rintro e w' ⟨rfl, rfl⟩)
      have hlb := (Boxed.new wr 3 (.int .i64 (k : Int))).alloc (.cells #[Value.int .i64 (zs[k]?.getD 0)] 79)
      have heb := Boxed.new (wr.alloc (.cells #[Value.int .i64 (k : Int)] 3)) 79 (.int .i64 (zs[k]?.getD 0))
      have huc : Upd (fun _ => False) wr ((wr.alloc (.cells #[Value.int .i64 (k : Int)] 3)).alloc (.cells #[Value.int .i64 (zs[k]?.getD 0)] 79)) := ((Upd.refl _ wr).alloc _).alloc _
      have hzc : ((wr.alloc (.cells #[Value.int .i64 (k : Int)] 3)).alloc (.cells #[Value.int .i64 (zs[k]?.getD 0)] 79)).heap.size = wr.heap.size + 2 := by simp
      obtain ⟨Wc, hWc⟩ : ∃ Wc, ((wr.alloc (.cells #[Value.int .i64 (k : Int)] 3)).alloc (.cells #[Value.int .i64 (zs[k]?.getD 0)] 79)) = Wc := ⟨_, rfl⟩
      rw [World.size_alloc] at heb
      rw [hWc] at hlb heb huc hzc ⊢
      clear hWc
      have hyc := huc.boxed hyr (fun e => e)
      have hjc : J (pairsTo zs k) D Wc := hJ _ _ _ _ hj (huc.mono fun _ _ e => e.elim)
      have hop' := hop.upd huc (fun _ _ e => e)
      have hbs' : ∀ j ∈ bs, j < Wc.heap.size := fun j hj => (Array.getElem?_eq_some_iff.1 (hop'.2 j hj)).1
      refine range_out (n := 9) (gf := 141) (lb := #[.pointer (some ⟨wr.heap.size + 1, 0, none⟩)]) rfl (enters_of Try.func141 (by kernel_rfl) rfl) (encs := encI) (L := itemsL (zs[k]?.getD 0))
        (fun j => M j ∨ D j) (fun j e => by
          rcases e with e | e
          · have := hMb j e; omega
          · have := hD j e; omega) (fun _ => rfl)
        (fun W1 l1 hu1 hl1 hl2 => each_iter _ hz.1 hz.2 _ _ _ (hu1.boxed heb (fun e => e)) (fun e => by
          rcases e with (e | e) | e
          · have := hMb _ e; omega
          · have := hD _ e; omega
          · omega))
        (PairIn zs J M D k Wc) (fun co xs D' W => co = .ret ∧ PairIn zs Jx M D k Wc xs D' W)
        (PairIn.firm hJ (by omega) (fun j e => by have := hD j e; omega)) (fun co s D' W W' hs hu => ⟨hs.1, PairIn.firm hJx (by omega) (fun j e => by have := hD j e; omega) s D' W W' hs.2 hu⟩)
        ⟨D, by simpa using hjc, fun _ e => .inl e, Upd.refl _ _⟩ ?owes ?done ?stop
      case owes =>
        intro l1 pre x D1 W hl1 hl2 hDl hD1 hP hpre K hK
        gi_wp2
        refine hK _ _ (Upd.refl _ _) ?_
        rintro Wb hWb - ⟨D2, hj2, h2, hu2⟩
        clear hK
        have hyW := hu2.boxed hyc (fun e => by
          rcases e with e | e
          · have := hMb _ e; omega
          · have := hD _ e; omega)
        have hlW := hu2.boxed hlb (fun e => by
          rcases e with e | e
          · have := hMb _ e; omega
          · have := hD _ e; omega)
        have hzb := hu2.size
        have hcy := hyW.cell
        have hcl := hlW.cell
        have hzW := hWb.size
        have hxs := pairs_pre (k := k) (by rw [hlen.out]; exact hlt) hpre
        rw [List.map_append, ← List.append_assoc] at hxs
        obtain ⟨fn, tmps, assign, body, hy, hR0⟩ := hY _ (k, x) D2 Wb hj2 (by omega) hxs 6
        have hR : RoundIn (Fence.wide.inRound l1) 6 Try.prog l fn tmps assign body Wb _ := hR0
        clear hR0
        dsimp only [encP] at hy
        gi_wp2
        refine hR.mono ?_
        have next : ∀ (D3 : Nat → Prop) (W3 : World), Upd (fun k => M k ∨ D2 k) Wb W3 → (∀ k, D3 k → D2 k ∨ Wb.heap.size ≤ k ∧ k < W3.heap.size) →
            Upd (fun j => M j ∨ D j) Wc W3 ∧ Upd (fun j => (M j ∨ D j) ∨ D1 j ∨ W.heap.size ≤ j) Wb W3 ∧ (∀ j, D3 j → D j ∨ (D3 j ∧ ¬ D j)) ∧ ∀ j, (D3 j ∧ ¬ D j) → D1 j ∨ W.heap.size ≤ j ∧ j < W3.heap.size := fun D3 W3 hu3 hD3 => by
          refine ⟨hu2.trans' hu3 (fun i hi e => ?_), hu3.mono fun j _ e => ?_, fun j e => by by_cases h : D j <;> simp [h, e], fun j e => ?_⟩
          · rcases e with e | e
            · exact .inl e
            · rcases h2 i e with h | h
              · exact .inr h
              · have := hD1 i h; omega
          · rcases e with e | e
            · exact .inl (.inl e)
            · rcases h2 j e with h | h
              · exact .inl (.inr h)
              · exact .inr (.inl h)
          · rcases hD3 j e.1 with h | h
            · exact (h2 j h).elim (fun x => absurd x e.2) .inl
            · exact .inr ⟨by omega, h.2⟩
        rintro e W3 (⟨rfl, D3, hj3, hu3, hD3⟩ | ⟨rfl, D3, hj3, hu3, hD3⟩)
        · obtain ⟨n1, n2, n3, n4⟩ := next D3 W3 hu3 hD3
          gi_wp2
          exact ⟨fun j => D3 j ∧ ¬ D j, ⟨D3, by rw [List.map_append, ← List.append_assoc]; exact hj3, n3, n1⟩, n2, n4⟩
        · obtain ⟨n1, n2, n3, n4⟩ := next D3 W3 hu3 hD3
          gi_wp2
          exact ⟨fun j => D3 j ∧ ¬ D j, ⟨rfl, D3, by rw [List.map_append, ← List.append_assoc]; exact hj3, n3, n1⟩, n2, n4⟩
      case done =>
        rintro d D1 W hd ⟨D2, hj2, h2, hu2⟩ hD1 hKd
        have hsz := hu2.size
        have hdl : d < W.heap.size := (Array.getElem?_eq_some_iff.1 hKd).1
        have hnD : ∀ j, D2 j → j ≠ d := fun j e ej => by
          rcases h2 j e with h | h
          · have := hD j h; omega
          · have := hD1 j h; omega
        have hop2 : Open bs W := hop'.upd hu2 (fun j hj e => by
          rcases e with e | e
          · have := hMb j e; have := (hbs j hj).1; omega
          · exact (hbs j hj).2 e)
        have hb2 : ∀ j ∈ bs, ¬ D2 j := fun j hj e => by
          rcases h2 j e with h | h
          · exact (hbs j hj).2 h
          · have := hD1 j h; have := hbs' j hj; omega
        have hu3 : Upd M w W := (hU.trans' huc (fun _ _ e => e.elim)).trans' hu2 (fun i hi e => by
          rcases e with e | e
          · exact e
          · have := hD i e; omega)
        have hy3 : Boxed W w.heap.size 59 (.func (.yield l) #[] #[]) := hu2.boxed hyc (fun e => by
          rcases e with e | e
          · have := hMb _ e; omega
          · have := hD _ e; omega)
        have Hj := Lib.hid (pairsTo_succ zs k)
        have hj3 : J (pairsTo zs (k + 1)) D2 W := by rw [Hj.out]; exact hj2
        have hD2 : ∀ j, D2 j → w.heap.size < j ∧ j < W.heap.size := fun j e => by
          rcases h2 j e with h | h
          · have := hD j h; omega
          · have := hD1 j h; omega
        have hop3 : Open (d :: bs) W := hop2.cons hKd (fun e => by have := hbs' d e; omega)
        have hb3 : ∀ j ∈ d :: bs, w.heap.size < j ∧ ¬ D2 j := fun j hj => by
          rcases List.mem_cons.1 hj with rfl | hj
          · exact ⟨by omega, fun e => hnD _ e rfl⟩
          · exact ⟨(hbs j hj).1, hb2 j hj⟩
        clear hj2 h2 hu2 hD1 hnD hop2 hb2 hKd
        gi_wp2
        refine ⟨⟨k + 1, D2, d :: bs, _, _, _, _, _, _, _, _, _, _, _, _, _, _, _, _, _, ⟨by omega, by go_num, hj3, hD2, hu3, hy3, hop3, hb3⟩, rfl⟩, ?_⟩
        simp [intOf]; omega
      case stop =>
        rintro d D1 co pre W hd hpre ⟨rfl, D2, hj2, h2, hu2⟩ hD1 hKd
        have hdl : d < W.heap.size := (Array.getElem?_eq_some_iff.1 hKd).1
        have hnD : ¬ D2 d := fun e => by
          rcases h2 d e with h | h
          · have := hD d h; omega
          · have := hD1 d h; omega
        have hop2 : Open bs W := hop'.upd hu2 (fun j hj e => by
          rcases e with e | e
          · have := hMb j e; have := (hbs j hj).1; omega
          · exact (hbs j hj).2 e)
        have hb2 : ∀ j ∈ bs, ¬ D2 j := fun j hj e => by
          rcases h2 j e with h | h
          · exact (hbs j hj).2 h
          · have := hD1 j h; have := hbs' j hj; omega
        have hop3 : Open (d :: bs) W := hop2.cons hKd (fun e => by have := hbs' d e; omega)
        have hxs := pairs_pre (k := k) (by rw [hlen.out]; exact hlt) hpre
        gi_wp2
        refine leaves_marks (d :: bs) W hop3 (fun W' hu' => ⟨_, results_none rfl _ _ _, ⟨_, rfl⟩, .inr ⟨_, D2, hxs, hJx _ _ _ _ hj2 (hu'.mono fun j _ e => ?_)⟩⟩)
        rcases List.mem_cons.1 e with rfl | e
        · exact ⟨by omega, hnD⟩
        · exact ⟨Nat.le_of_lt (hbs j e).1, hb2 j e⟩
    · obtain rfl : k = n := by omega
      have Hl := Lib.hid (show pairsL zs = pairsTo zs k by unfold pairsL; rw [hlen.out])
      gi_wp2
      refine leaves_marks bs wr hop (fun W' hu' => ⟨_, results_none rfl _ _ _, ⟨_, rfl⟩, .inl ⟨D, ?_⟩⟩)
      rw [Hl.out]
      exact hJ _ _ _ _ hj (hu'.mono fun j _ e => ⟨Nat.le_of_lt (hbs j e).1, (hbs j e).2⟩)
end Go.Proofs.Ytipdmaggfbfnlaa

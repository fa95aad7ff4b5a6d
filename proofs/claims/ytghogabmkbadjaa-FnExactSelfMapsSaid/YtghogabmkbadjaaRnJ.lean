/- All numberings, each with what it makes of an order: the program's iterator. -/
import Derived.Test.YtghogabmkbadjaaRnF
import Derived.Test.YtghogabmkbadjaaGc
import Derived.Test.YtghogabmkbadjaaTlK
set_option linter.unusedVariables false
set_option linter.unusedSimpArgs false
namespace Go.Proofs.Ytghogabmkbadjaa
open Go.RowKit Go.Shelf
attribute [local go_sem] Oper.semAt_some
attribute [local go_sem, local simp] wide_fn

/-- A numbering, the row in which it lies, and the block of the order that is lent. -/
abbrev Rn := Ln × Nat
def rnOwn (x : Rn) (k : Nat) : Prop := lnOwn x.1 k
def rnLent (x : Rn) (k : Nat) : Prop := k = x.2
def rnHas (x : Rn) (W : World) : Prop := lnHas x.1 W
def rnLies (zs : List Int) (x : Rn) (W : World) : Prop := Arr W x.2 59 (rnL zs x.1.1)
abbrev rnEnc (n : Nat) (x : Rn) : Array Value := #[x.1.2, .slice (some ⟨x.2, 0, none⟩) n n]
def rnUp (zs : List Int) (xs : List Rn) : Prop := xs.map (fun x => x.1.1) <+: alL (zr zs.length)
def rnFull (zs : List Int) (xs : List Rn) : Prop := xs.map (fun x => x.1.1) = alL (zr zs.length)
theorem rn_firm : HasFirm rnOwn rnHas := fun x _ _ h hu => ln_firm x.1 _ _ h hu
theorem rnLent_firm (zs : List Int) : HasFirm rnLent (rnLies zs) := fun _ _ _ h hu => Arr.upd h hu (fun e => e rfl)

theorem rnNums_any (n : Nat) (w : World) (hn6 : n ≤ 6) :
    Calls Try.prog 95 #[.int .i64 (n : Int)] w fun e w' => e = .returned (.func (.func 106) #[] #[.pointer (some ⟨w.heap.size + 1, 0, none⟩)]) ∧ w' = (w.alloc (.cells (madeCells #[Value.int .i64 0] n) 59)).alloc (.cells #[.slice (some ⟨w.heap.size, 0, none⟩) n n] 44) := by
  have hmk := run_make_row' (P := Try.prog) 44 59 (.int .i64 0) 8 Try.underlying44 infoItems rfl .i64 .i64 n (by omega) (by omega)
  go_enter Try.func95, Try.ntmps95
  go_wp2_with fail
  refine (lines_any _ _ _ _).mono ?_
  rintro e w' ⟨rfl, rfl⟩
  go_wp2_with fail
  go_ret
  exact ⟨rfl, rfl⟩

theorem renumberings_any (q n c : Nat) (w : World) :
    Calls Try.prog 79 #[.slice (some ⟨q, 0, none⟩) n c] w fun e w' => e = .returned (.func (.func 94) #[] #[.pointer (some ⟨w.heap.size, 0, none⟩)]) ∧ w' = w.alloc (.cells #[.slice (some ⟨q, 0, none⟩) n c] 44) := by
  go_enter Try.func79, Try.ntmps79
  go_wp2
  go_ret
  exact ⟨rfl, rfl⟩

/-- What holds between two rounds. -/
def RnIn (g n : Nat) (J : List Rn → (Nat → Prop) → World → Prop) (M : Nat → Prop) (Wc : World) (xs : List Ln) (D : Nat → Prop) (W : World) : Prop :=
  ∃ D2 cur, J (xs.map fun x => (x, g)) D2 W ∧ (∀ j, D2 j → D j) ∧ Arr W g 59 cur ∧ cur.length = n ∧ Upd (fun k => M k ∨ k = g) Wc W
def RnOut (g : Nat) (Jx : List Rn → (Nat → Prop) → World → Prop) (M : Nat → Prop) (Wc : World) (xs : List Ln) (D : Nat → Prop) (W : World) : Prop :=
  ∃ D2, Jx (xs.map fun x => (x, g)) D2 W ∧ (∀ j, D2 j → D j ∨ j = g) ∧ Upd (fun k => M k ∨ k = g) Wc W
theorem RnIn.firm {g n B : Nat} {J : List Rn → (Nat → Prop) → World → Prop} {M : Nat → Prop} {Wc : World} (hJ : Firm B J) (hB : B ≤ Wc.heap.size) (hg : g < Wc.heap.size) : Firm Wc.heap.size (RnIn g n J M Wc) := by
  rintro s D W W' ⟨D2, cur, hj, h2, hA, hl, hu⟩ hw
  exact ⟨D2, cur, hJ _ _ _ _ hj (hw.mono fun j _ e => ⟨by omega, fun e2 => e.2 (h2 j e2)⟩), h2, hA.upd hw (fun e => by omega), hl, hu.trans' hw (fun i hi e => by omega)⟩
theorem RnOut.firm {g B : Nat} {Jx : List Rn → (Nat → Prop) → World → Prop} {M : Nat → Prop} {Wc : World} (hJ : Firm B Jx) (hB : B ≤ Wc.heap.size) (hg : g < Wc.heap.size) : Firm Wc.heap.size (RnOut g Jx M Wc) := by
  rintro s D W W' ⟨D2, hj, h2, hu⟩ hw
  exact ⟨D2, hJ _ _ _ _ hj (hw.mono fun j _ e => ⟨by omega, fun e2 => (h2 j e2).elim e.2 (fun e3 => by omega)⟩), h2, hu.trans' hw (fun i hi e => by omega)⟩

set_option maxRecDepth 100000 in
set_option maxHeartbeats 8000000 in
theorem renumberings_iter (zs : List Int) (hvo : VoP zs) (q n c : Nat) (hlen0 : zs.length = n) (o : Nat) (M : Nat → Prop) (w : World) (bO : Boxed w o 44 (.slice (some ⟨q, 0, none⟩) n c)) (hA : Arr w q 59 zs) (hMo : ¬ M o) (hMq : ¬ M q) (hMb : ∀ k, M k → k < w.heap.size) :
    IterH Try.prog 94 #[.pointer (some ⟨o, 0, none⟩)] (rnEnc n) rnOwn rnLent rnHas (rnLies zs) (rnUp zs) (rnFull zs) M w := fun l J Jx hJ hJx hY h0 => by
  have hlen := Lib.hid hlen0
  have hn6 : n ≤ 6 := by have := hvo.1; rw [hlen0] at this; exact this
  clear hlen0
  have hol := bO.lt
  have hql := hA.lt
  have HY := Lib.hid hY
  clear hY
  have hmk := run_make_row' (P := Try.prog) 44 59 (.int .i64 0) 8 Try.underlying44 infoItems rfl .i64 .i64 n (by omega) (by omega)
  refine (callsIn_wide (n := 9)).1 ?_
  refine callsIn_of_wp_marks Try.func94 rfl trivial ?_ rfl
  simp only [Try.ntmps94, List.size_toArray, List.length_cons, List.length_nil, Nat.reduceAdd, Nat.reduceSub, Array.replicate_succ, Array.replicate_zero, List.push_toArray, List.append_toArray, List.nil_append, List.cons_append]
  have hu0 : Upd (fun _ => False) w (w.alloc (.cells #[Value.func (.yield l) #[] #[]] 90)) := (Upd.refl _ w).alloc _
  have hcO0 := (hu0.boxed bO (fun e => e)).cell
  have hu1 : Upd (fun _ => False) w (((w.alloc (.cells #[Value.func (.yield l) #[] #[]] 90)).alloc (.cells (madeCells #[Value.int .i64 0] n) 59)).alloc (.cells #[Value.slice (some ⟨w.heap.size + 1, 0, none⟩) n n] 44)) := (hu0.alloc _).alloc _
  have hcO1 := (hu1.boxed bO (fun e => e)).cell
  gi_wp2_with (gi_at_call 95; refine (callsIn_wide.2 (rnNums_any _ _ hn6)).mono ?_; rintro e w' ⟨rfl, rfl⟩)
  have hu2 : Upd (fun _ => False) w (((((w.alloc (.cells #[Value.func (.yield l) #[] #[]] 90)).alloc (.cells (madeCells #[Value.int .i64 0] n) 59)).alloc (.cells #[Value.slice (some ⟨w.heap.size + 1, 0, none⟩) n n] 44)).alloc (.cells (madeCells #[Value.int .i64 0] n) 59)).alloc (.cells #[Value.slice (some ⟨w.heap.size + 1 + 1 + 1, 0, none⟩) n n] 44)) := (hu1.alloc _).alloc _
  have hz2 : (((((w.alloc (.cells #[Value.func (.yield l) #[] #[]] 90)).alloc (.cells (madeCells #[Value.int .i64 0] n) 59)).alloc (.cells #[Value.slice (some ⟨w.heap.size + 1, 0, none⟩) n n] 44)).alloc (.cells (madeCells #[Value.int .i64 0] n) 59)).alloc (.cells #[Value.slice (some ⟨w.heap.size + 1 + 1 + 1, 0, none⟩) n n] 44)).heap.size = w.heap.size + 5 := by simp
  have yB := ((((Boxed.new w 90 (.func (.yield l) #[] #[])).alloc (.cells (madeCells #[Value.int .i64 0] n) 59)).alloc (.cells #[Value.slice (some ⟨w.heap.size + 1, 0, none⟩) n n] 44)).alloc (.cells (madeCells #[Value.int .i64 0] n) 59)).alloc (.cells #[Value.slice (some ⟨w.heap.size + 1 + 1 + 1, 0, none⟩) n n] 44)
  have aG := (((Arr.new (w.alloc (.cells #[Value.func (.yield l) #[] #[]] 90)) 59 n).alloc (.cells #[Value.slice (some ⟨w.heap.size + 1, 0, none⟩) n n] 44)).alloc (.cells (madeCells #[Value.int .i64 0] n) 59)).alloc (.cells #[Value.slice (some ⟨w.heap.size + 1 + 1 + 1, 0, none⟩) n n] 44)
  have mB := ((Boxed.new ((w.alloc (.cells #[Value.func (.yield l) #[] #[]] 90)).alloc (.cells (madeCells #[Value.int .i64 0] n) 59)) 44 (.slice (some ⟨w.heap.size + 1, 0, none⟩) n n)).alloc (.cells (madeCells #[Value.int .i64 0] n) 59)).alloc (.cells #[Value.slice (some ⟨w.heap.size + 1 + 1 + 1, 0, none⟩) n n] 44)
  have aZ := (Arr.new (((w.alloc (.cells #[Value.func (.yield l) #[] #[]] 90)).alloc (.cells (madeCells #[Value.int .i64 0] n) 59)).alloc (.cells #[Value.slice (some ⟨w.heap.size + 1, 0, none⟩) n n] 44)) 59 n).alloc (.cells #[Value.slice (some ⟨w.heap.size + 1 + 1 + 1, 0, none⟩) n n] 44)
  have zB := Boxed.new ((((w.alloc (.cells #[Value.func (.yield l) #[] #[]] 90)).alloc (.cells (madeCells #[Value.int .i64 0] n) 59)).alloc (.cells #[Value.slice (some ⟨w.heap.size + 1, 0, none⟩) n n] 44)).alloc (.cells (madeCells #[Value.int .i64 0] n) 59)) 44 (.slice (some ⟨w.heap.size + 1 + 1 + 1, 0, none⟩) n n)
  simp only [World.size_alloc] at yB aG mB aZ zB
  obtain ⟨Wc, hWc⟩ : ∃ Wc, (((((w.alloc (.cells #[Value.func (.yield l) #[] #[]] 90)).alloc (.cells (madeCells #[Value.int .i64 0] n) 59)).alloc (.cells #[Value.slice (some ⟨w.heap.size + 1, 0, none⟩) n n] 44)).alloc (.cells (madeCells #[Value.int .i64 0] n) 59)).alloc (.cells #[Value.slice (some ⟨w.heap.size + 1 + 1 + 1, 0, none⟩) n n] 44)) = Wc := ⟨_, rfl⟩
  rw [hWc] at hu2 hz2 yB aG mB aZ zB ⊢
  clear hWc hu0 hu1 hcO0 hcO1 hmk
  have bOc := hu2.boxed bO (fun e => e)
  have hAc := hA.upd hu2 (fun e => e)
  have hjc : J [] (fun _ => False) Wc := hJ _ _ _ _ h0 (hu2.mono fun _ _ e => e.elim)
  obtain ⟨g, hg⟩ : ∃ g, w.heap.size + 1 = g := ⟨_, rfl⟩
  rw [hg] at aG mB ⊢
  refine range_outG (n := 9) (gf := 106) (lb := #[.pointer (some ⟨w.heap.size + 1 + 1 + 1 + 1, 0, none⟩)]) (by rw [← hg]; rfl) (enters_of Try.func106 (by kernel_rfl) rfl) (encs := lnEnc) (own := lnOwn) (Has := lnHas) ln_firm (Ok := lnUp (zr n)) (Full := lnFull (zr n))
    (fun k => M k ∨ k = g) (fun k e => by rcases e with e | e <;> (try have := hMb k e) <;> omega) (fun _ => rfl)
    (fun W1 l1 hu1 hl1 hl2 => lines_iter (zr n) (zr_vo hn6) (w.heap.size + 1 + 1 + 1) n n (zr_len n) (w.heap.size + 1 + 1 + 1 + 1) _ W1 (hu1.boxed zB (fun e => e)) (Arr.upd (show Arr Wc (w.heap.size + 1 + 1 + 1) 59 (zr n) from aZ) hu1 (fun e => e)) (fun k e => by have := hu1.size; rcases e with (e | e) | e <;> (try have := hMb k e) <;> omega))
    (RnIn g n J M Wc) (fun co xs D' W => co = .ret ∧ RnOut g Jx M Wc xs D' W)
    (RnIn.firm hJ (by omega) (by omega)) (fun co s D' W W' hs hu => ⟨hs.1, RnOut.firm hJx (by omega) (by omega) s D' W W' hs.2 hu⟩)
    ⟨fun _ => False, _, hjc, fun _ e => e, aG, by simp, Upd.refl _ _⟩ ?owes ?done ?stop
  case owes =>
    rintro l1 pre x D1 W hl1 hl2 hDl hOl hD1 hO1 hj0 hx0 hpre K hK
    have hlb : lineB (zr n) x.1 = true := by
      have h1 : x.1 ∈ (pre ++ [x]).map Prod.fst := by simp
      exact (alL_mem _ _).1 ((show (pre ++ [x]).map Prod.fst <+: alL (zr n) from hpre).subset h1)
    have hxl : x.1.length = n := (zr_steps hlb).1
    have hup : rnUp zs ((pre.map fun x => (x, g)) ++ [(x, g)]) := by
      unfold rnUp
      rw [List.map_append, List.map_map, hlen.out]
      have h1 : (pre ++ [x]).map Prod.fst <+: alL (zr n) := hpre
      rw [List.map_append] at h1
      exact h1
    have Hup := Lib.hid hup
    have Hlb := Lib.hid hlb
    clear hup hlb hpre
    have hOg : ¬ lnOwn x g := fun e => by have := (hO1 g e).1; omega
    have hxlt : ∀ k, lnOwn x k → k < W.heap.size := fun k e => (hO1 k e).2.1
    gi_wp2
    refine hK _ _ (Upd.refl _ _) ?_
    rintro Wb hWb - ⟨D2, cur, hj2, h2, hG2, hcl, hU2⟩ hxb
    clear hK
    have hzW := hWb.size
    have hzU := hU2.size
    obtain ⟨A', c', hv, hN⟩ := lnHas_beside hxb hOg
    rw [hxl] at hv hN
    have bO2 := hU2.boxed bOc (fun e => by rcases e with e | e; exact hMo e; omega)
    have hA2 := hAc.upd hU2 (fun e => by rcases e with e | e; exact hMq e; omega)
    have hcO := bO2.cell
    have bM2 := hU2.boxed mB (fun e => by rcases e with e | e <;> (try have := hMb _ e) <;> omega)
    have hcM := bM2.cell
    have yB2 := hU2.boxed yB (fun e => by rcases e with e | e <;> (try have := hMb _ e) <;> omega)
    gi_wp2_with fail
    refine (CallsIn.inRound l1 (callsIn_wide.2 (renumberInto_any (some ⟨q, 0, none⟩) n c zs hvo.sets g n cur A' c' x.1 w.heap.size Wb (hA2.ints' (B := w.heap.size) hql hlen.out) hG2 hcl (by omega) hN Hlb.out))).mono ?_
    rintro e W3 ⟨⟨v3, rfl⟩, hG3, hu3⟩
    have z3 := hu3.size
    have hU3 : Upd (fun k => M k ∨ k = g) Wc W3 := hU2.trans' hu3 (fun i hi e => .inr e)
    have hgD : ¬ D2 g := fun e => by have := hD1 g (h2 g e); omega
    have hj3 : J (pre.map fun x => (x, g)) D2 W3 := hJ _ _ _ _ hj2 (hu3.mono fun k _ e => ⟨by omega, fun e2 => hgD (by rw [← e]; exact e2)⟩)
    have hx3 : lnHas x W3 := lnHas_keep hxb hu3 (fun k hk e => hOg (by rw [← e]; exact hk))
    have hcM3 := (hu3.boxed bM2 (by omega)).cell
    have hcY3 := (hu3.boxed yB2 (by omega)).cell
    obtain ⟨fn, tmps, assign, body, hy, hR0⟩ := HY.out (pre.map fun x => (x, g)) (x, g) D2 W3 hj3 (by omega) Hup.out hx3 hG3 (fun k hk => by
      have h5 := hO1 k hk
      exact ⟨by omega, by have := hxlt k hk; omega, fun e => h5.2.2 (h2 k e), fun e => hOg (by unfold rnLent at e; rw [show g = k from e.symm]; exact hk)⟩) (fun k hk => by
      unfold rnLent at hk
      subst hk
      exact ⟨by omega, by omega, hgD⟩) 6
    have hR : RoundIn (Fence.wide.inRound l1) 6 Try.prog l fn tmps assign body W3 _ := hR0
    clear hR0 hcO hcM
    dsimp only [rnEnc] at hy
    rw [hv] at hy
    gi_wp2
    refine hR.mono ?_
    clear hR hy
    have hDx : ∀ k, D2 k ∨ lnOwn x k → Wc.heap.size ≤ k := fun k e => e.elim (fun e => by have := hD1 k (h2 k e); omega) (fun e => by have := hO1 k e; omega)
    have next : ∀ (W4 : World), Upd (fun k => M k ∨ D2 k ∨ rnOwn (x, g) k ∨ rnLent (x, g) k) W3 W4 → Upd (fun k => M k ∨ k = g) Wc W4 ∧ Upd (fun j => (M j ∨ j = g) ∨ (D1 j ∨ lnOwn x j) ∨ W.heap.size ≤ j) Wb W4 := fun W4 hu4 => by
      refine ⟨hU3.trans' hu4 (fun i hi e => ?_), ((hu3.mono (S := fun j => (M j ∨ j = g) ∨ (D1 j ∨ lnOwn x j) ∨ W.heap.size ≤ j) fun k _ e => .inl (.inr e)).trans' hu4 (fun i hi e => ?_))⟩
      · rcases e with e | e | e | e
        · exact .inl e
        · have := hDx i (.inl e); omega
        · have := hDx i (.inr e); omega
        · exact .inr e
      · rcases e with e | e | e | e
        · exact .inl (.inl e)
        · exact .inr (.inl (.inl (h2 i e)))
        · exact .inr (.inl (.inr e))
        · exact .inl (.inr e)
    have hmp : (pre ++ [x]).map (fun x => ((x, g) : Rn)) = pre.map (fun x => (x, g)) ++ [(x, g)] := by simp
    have Hmp := Lib.hid hmp
    clear hmp
    rintro e W4 (⟨rfl, D4, hj4, hl4, hn4, hu4, hD4⟩ | ⟨rfl, D4, hj4, hu4, hD4⟩)
    · obtain ⟨n1, n2⟩ := next W4 hu4
      have hL4 : Arr W4 g 59 (rnL zs x.1) := hl4
      have hll : (rnL zs x.1).length = n := by rw [rnL_len, hlen.out]
      gi_wp2
      exact ⟨D4, ⟨D4, rnL zs x.1, by rw [Hmp.out]; exact hj4, fun _ e => e, hL4, hll, n1⟩, n2, fun j e => (hD4 j e).elim (fun e2 => .inl (e2.elim (fun e3 => .inl (h2 j e3)) .inr)) (fun e2 => .inr ⟨by omega, e2.2⟩)⟩
    · obtain ⟨n1, n2⟩ := next W4 hu4
      gi_wp2
      refine ⟨fun j => D4 j ∧ j ≠ g, ⟨rfl, D4, by rw [Hmp.out]; exact hj4, fun j e => ?_, n1⟩, n2, fun j e => ?_⟩
      · by_cases hjg : j = g
        · exact .inr hjg
        · exact .inl ⟨e, hjg⟩
      · rcases hD4 j e.1 with (e2 | e2 | e2) | e2
        · exact .inl (.inl (h2 j e2))
        · exact .inl (.inr e2)
        · exact absurd e2 e.2
        · exact .inr ⟨by omega, e2.2⟩
  case done =>
    rintro d D1 L W hd hF ⟨D2, cur, hj2, h2, -, -, hu2'⟩ hD1 hKd
    gi_wp2
    refine leaves_marks [d] _ ⟨by simp, fun b hb => ?_⟩ (fun W' hu' => ?_)
    · rw [List.mem_singleton.1 hb]
      exact hKd
    · refine ⟨_, results_none rfl _ _ _, ⟨_, rfl⟩, .inl ⟨L.map fun x => (x, g), D2, ?_, hJ _ _ _ _ hj2 (hu'.mono fun k hk e => ⟨by simp at e; omega, fun e2 => by simp at e; have := hD1 k (h2 k e2); omega⟩)⟩⟩
      unfold rnFull
      rw [List.map_map, hlen.out]
      exact hF
  case stop =>
    rintro d D1 co pre W hd hpre ⟨rfl, D2, hj2, h2, hu2'⟩ hD1 hKd
    gi_wp2
    refine leaves_marks [d] _ ⟨by simp, fun b hb => ?_⟩ (fun W' hu' => ?_)
    · rw [List.mem_singleton.1 hb]
      exact hKd
    · refine ⟨_, results_none rfl _ _ _, ⟨_, rfl⟩, .inr ⟨pre.map fun x => (x, g), D2, ?_, hJx _ _ _ _ hj2 (hu'.mono fun k hk e => ⟨by simp at e; omega, fun e2 => by simp at e; have := h2 k e2; rcases this with h5 | h5; have := hD1 k h5; omega; omega⟩)⟩⟩
      unfold rnUp
      rw [List.map_map, hlen.out]
      exact hpre
end Go.Proofs.Ytghogabmkbadjaa

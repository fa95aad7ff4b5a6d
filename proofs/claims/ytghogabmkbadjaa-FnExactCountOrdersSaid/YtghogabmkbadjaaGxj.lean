/- Texts that several claims share, one behind the other. -/
import Derived.Test.YtghogabmkbadjaaRnF
import Derived.Test.YtghogabmkbadjaaGc
import Derived.Test.YtghogabmkbadjaaGxg
import Derived.Test.YtghogabmkbadjaaGxi
import Derived.Test.YtghogabmkbadjaaGxd
import Derived.Test.YtghogabmkbadjaaGxh
import Derived.Test.YtghogabmkbadjaaRdT
import Derived.Test.YtghogabmkbadjaaGb
set_option linter.unusedVariables false
set_option linter.unusedSimpArgs false
/- All numberings, each with what it makes of an order: the program's iterator. -/
namespace Go.Proofs.Ytghogabmkbadjaa
open Go.RowKit Go.Shelf
attribute [local go_sem] Oper.semAt_some
attribute [local go_sem, local simp] wide_fn

/-- A numbering, the row in which it lies, and the block of the order that is lent. -/
abbrev Rn := Ln × Nat
def rnOwn (x : Rn) (k : Nat) : Prop := lnOwn x.1 k
def rnLent (x : Rn) (k : Nat) : Prop := k = x.2
def rnHas (x : Rn) (W : World) : Prop := lnHas x.1 W
def rnLies (zs : List Int) (x : Rn) (W : World) : Prop := Arr W x.2 59 (rnL zs x.1.1)
abbrev rnEnc (n : Nat) (x : Rn) : Array Value := #[x.1.2, .slice (some ⟨x.2, 0, none⟩) n n]
def rnUp (zs : List Int) (xs : List Rn) : Prop := xs.map (fun x => x.1.1) <+: alL (zr zs.length)
def rnFull (zs : List Int) (xs : List Rn) : Prop := xs.map (fun x => x.1.1) = alL (zr zs.length)
theorem rn_firm : HasFirm rnOwn rnHas := fun x _ _ h hu => ln_firm x.1 _ _ h hu
theorem rnLent_firm (zs : List Int) : HasFirm rnLent (rnLies zs) := fun _ _ _ h hu => Arr.upd h hu (fun e => e rfl)

theorem rnNums_any (n : Nat) (w : World) (hn6 : n ≤ 6) :
    Calls Try.prog 95 #[.int .i64 (n : Int)] w fun e w' => e = .returned (.func (.func 106) #[] #[.pointer (some ⟨w.heap.size + 1, 0, none⟩)]) ∧ w' = (w.alloc (.cells (madeCells #[Value.int .i64 0] n) 59)).alloc (.cells #[.slice (some ⟨w.heap.size, 0, none⟩) n n] 44) := by
  have hmk := run_make_row' (P := Try.prog) 44 59 (.int .i64 0) 8 Try.underlying44 infoItems rfl .i64 .i64 n (by omega) (by omega)
  go_enter Try.func95, Try.ntmps95
  go_wp2_with fail
  refine (lines_any _ _ _ _).mono ?_
  rintro e w' ⟨rfl, rfl⟩
  go_wp2_with fail
  go_ret
  exact ⟨rfl, rfl⟩

theorem renumberings_any (q n c : Nat) (w : World) :
    Calls Try.prog 79 #[.slice (some ⟨q, 0, none⟩) n c] w fun e w' => e = .returned (.func (.func 94) #[] #[.pointer (some ⟨w.heap.size, 0, none⟩)]) ∧ w' = w.alloc (.cells #[.slice (some ⟨q, 0, none⟩) n c] 44) := by
  go_enter Try.func79, Try.ntmps79
  go_wp2
  go_ret
  exact ⟨rfl, rfl⟩

/-- What holds between two rounds. -/
def RnIn (g n : Nat) (J : List Rn → (Nat → Prop) → World → Prop) (M : Nat → Prop) (Wc : World) (xs : List Ln) (D : Nat → Prop) (W : World) : Prop :=
  ∃ D2 cur, J (xs.map fun x => (x, g)) D2 W ∧ (∀ j, D2 j → D j) ∧ Arr W g 59 cur ∧ cur.length = n ∧ Upd (fun k => M k ∨ k = g) Wc W
def RnOut (g : Nat) (Jx : List Rn → (Nat → Prop) → World → Prop) (M : Nat → Prop) (Wc : World) (xs : List Ln) (D : Nat → Prop) (W : World) : Prop :=
  ∃ D2, Jx (xs.map fun x => (x, g)) D2 W ∧ (∀ j, D2 j → D j ∨ j = g) ∧ Upd (fun k => M k ∨ k = g) Wc W
theorem RnIn.firm {g n B : Nat} {J : List Rn → (Nat → Prop) → World → Prop} {M : Nat → Prop} {Wc : World} (hJ : Firm B J) (hB : B ≤ Wc.heap.size) (hg : g < Wc.heap.size) : Firm Wc.heap.size (RnIn g n J M Wc) := by
  rintro s D W W' ⟨D2, cur, hj, h2, hA, hl, hu⟩ hw
  exact ⟨D2, cur, hJ _ _ _ _ hj (hw.mono fun j _ e => ⟨by omega, fun e2 => e.2 (h2 j e2)⟩), h2, hA.upd hw (fun e => by omega), hl, hu.trans' hw (fun i hi e => by omega)⟩
theorem RnOut.firm {g B : Nat} {Jx : List Rn → (Nat → Prop) → World → Prop} {M : Nat → Prop} {Wc : World} (hJ : Firm B Jx) (hB : B ≤ Wc.heap.size) (hg : g < Wc.heap.size) : Firm Wc.heap.size (RnOut g Jx M Wc) := by
  rintro s D W W' ⟨D2, hj, h2, hu⟩ hw
  exact ⟨D2, hJ _ _ _ _ hj (hw.mono fun j _ e => ⟨by omega, fun e2 => (h2 j e2).elim e.2 (fun e3 => by omega)⟩), h2, hu.trans' hw (fun i hi e => by omega)⟩

set_option maxRecDepth 100000 in
set_option maxHeartbeats 8000000 in
theorem renumberings_iter (zs : List Int) (hvo : VoP zs) (q n c : Nat) (hlen0 : zs.length = n) (o : Nat) (M : Nat → Prop) (w : World) (bO : Boxed w o 44 (.slice (some ⟨q, 0, none⟩) n c)) (hA : Arr w q 59 zs) (hMo : ¬ M o) (hMq : ¬ M q) (hMb : ∀ k, M k → k < w.heap.size) :
    IterH Try.prog 94 #[.pointer (some ⟨o, 0, none⟩)] (rnEnc n) rnOwn rnLent rnHas (rnLies zs) (rnUp zs) (rnFull zs) M w := fun l J Jx hJ hJx hY h0 => by
  have hlen := Lib.hid hlen0
  have hn6 : n ≤ 6 := by have := hvo.1; rw [hlen0] at this; exact this
  clear hlen0
  have hol := bO.lt
  have hql := hA.lt
  have HY := Lib.hid hY
  clear hY
  have hmk := run_make_row' (P := Try.prog) 44 59 (.int .i64 0) 8 Try.underlying44 infoItems rfl .i64 .i64 n (by omega) (by omega)
  refine (callsIn_wide (n := 9)).1 ?_
  refine callsIn_of_wp_marks Try.func94 rfl trivial ?_ rfl
  simp only [Try.ntmps94, List.size_toArray, List.length_cons, List.length_nil, Nat.reduceAdd, Nat.reduceSub, Array.replicate_succ, Array.replicate_zero, List.push_toArray, List.append_toArray, List.nil_append, List.cons_append]
  have hu0 : Upd (fun _ => False) w (w.alloc (.cells #[Value.func (.yield l) #[] #[]] 90)) := (Upd.refl _ w).alloc _
  have hcO0 := (hu0.boxed bO (fun e => e)).cell
  have hu1 : Upd (fun _ => False) w (((w.alloc (.cells #[Value.func (.yield l) #[] #[]] 90)).alloc (.cells (madeCells #[Value.int .i64 0] n) 59)).alloc (.cells #[Value.slice (some ⟨w.heap.size + 1, 0, none⟩) n n] 44)) := (hu0.alloc _).alloc _
  have hcO1 := (hu1.boxed bO (fun e => e)).cell
  gi_wp2_with (gi_at_call 95; refine (callsIn_wide.2 (rnNums_any _ _ hn6)).mono ?_; rintro e w' ⟨rfl, rfl⟩)
  have hu2 : Upd (fun _ => False) w (((((w.alloc (.cells #[Value.func (.yield l) #[] #[]] 90)).alloc (.cells (madeCells #[Value.int .i64 0] n) 59)).alloc (.cells #[Value.slice (some ⟨w.heap.size + 1, 0, none⟩) n n] 44)).alloc (.cells (madeCells #[Value.int .i64 0] n) 59)).alloc (.cells #[Value.slice (some ⟨w.heap.size + 1 + 1 + 1, 0, none⟩) n n] 44)) := (hu1.alloc _).alloc _
  have hz2 : (((((w.alloc (.cells #[Value.func (.yield l) #[] #[]] 90)).alloc (.cells (madeCells #[Value.int .i64 0] n) 59)).alloc (.cells #[Value.slice (some ⟨w.heap.size + 1, 0, none⟩) n n] 44)).alloc (.cells (madeCells #[Value.int .i64 0] n) 59)).alloc (.cells #[Value.slice (some ⟨w.heap.size + 1 + 1 + 1, 0, none⟩) n n] 44)).heap.size = w.heap.size + 5 := by simp
  have yB := ((((Boxed.new w 90 (.func (.yield l) #[] #[])).alloc (.cells (madeCells #[Value.int .i64 0] n) 59)).alloc (.cells #[Value.slice (some ⟨w.heap.size + 1, 0, none⟩) n n] 44)).alloc (.cells (madeCells #[Value.int .i64 0] n) 59)).alloc (.cells #[Value.slice (some ⟨w.heap.size + 1 + 1 + 1, 0, none⟩) n n] 44)
  have aG := (((Arr.new (w.alloc (.cells #[Value.func (.yield l) #[] #[]] 90)) 59 n).alloc (.cells #[Value.slice (some ⟨w.heap.size + 1, 0, none⟩) n n] 44)).alloc (.cells (madeCells #[Value.int .i64 0] n) 59)).alloc (.cells #[Value.slice (some ⟨w.heap.size + 1 + 1 + 1, 0, none⟩) n n] 44)
  have mB := ((Boxed.new ((w.alloc (.cells #[Value.func (.yield l) #[] #[]] 90)).alloc (.cells (madeCells #[Value.int .i64 0] n) 59)) 44 (.slice (some ⟨w.heap.size + 1, 0, none⟩) n n)).alloc (.cells (madeCells #[Value.int .i64 0] n) 59)).alloc (.cells #[Value.slice (some ⟨w.heap.size + 1 + 1 + 1, 0, none⟩) n n] 44)
  have aZ := (Arr.new (((w.alloc (.cells #[Value.func (.yield l) #[] #[]] 90)).alloc (.cells (madeCells #[Value.int .i64 0] n) 59)).alloc (.cells #[Value.slice (some ⟨w.heap.size + 1, 0, none⟩) n n] 44)) 59 n).alloc (.cells #[Value.slice (some ⟨w.heap.size + 1 + 1 + 1, 0, none⟩) n n] 44)
  have zB := Boxed.new ((((w.alloc (.cells #[Value.func (.yield l) #[] #[]] 90)).alloc (.cells (madeCells #[Value.int .i64 0] n) 59)).alloc (.cells #[Value.slice (some ⟨w.heap.size + 1, 0, none⟩) n n] 44)).alloc (.cells (madeCells #[Value.int .i64 0] n) 59)) 44 (.slice (some ⟨w.heap.size + 1 + 1 + 1, 0, none⟩) n n)
  simp only [World.size_alloc] at yB aG mB aZ zB
  obtain ⟨Wc, hWc⟩ : ∃ Wc, (((((w.alloc (.cells #[Value.func (.yield l) #[] #[]] 90)).alloc (.cells (madeCells #[Value.int .i64 0] n) 59)).alloc (.cells #[Value.slice (some ⟨w.heap.size + 1, 0, none⟩) n n] 44)).alloc (.cells (madeCells #[Value.int .i64 0] n) 59)).alloc (.cells #[Value.slice (some ⟨w.heap.size + 1 + 1 + 1, 0, none⟩) n n] 44)) = Wc := ⟨_, rfl⟩
  rw [hWc] at hu2 hz2 yB aG mB aZ zB ⊢
  clear hWc hu0 hu1 hcO0 hcO1 hmk
  have bOc := hu2.boxed bO (fun e => e)
  have hAc := hA.upd hu2 (fun e => e)
  have hjc : J [] (fun _ => False) Wc := hJ _ _ _ _ h0 (hu2.mono fun _ _ e => e.elim)
  obtain ⟨g, hg⟩ : ∃ g, w.heap.size + 1 = g := ⟨_, rfl⟩
  rw [hg] at aG mB ⊢
  refine range_outG (n := 9) (gf := 106) (lb := #[.pointer (some ⟨w.heap.size + 1 + 1 + 1 + 1, 0, none⟩)]) (by rw [← hg]; rfl) (enters_of Try.func106 (by kernel_rfl) rfl) (encs := lnEnc) (own := lnOwn) (Has := lnHas) ln_firm (Ok := lnUp (zr n)) (Full := lnFull (zr n))
    (fun k => M k ∨ k = g) (fun k e => by rcases e with e | e <;> (try have := hMb k e) <;> omega) (fun _ => rfl)
    (fun W1 l1 hu1 hl1 hl2 => lines_iter (zr n) (zr_vo hn6) (w.heap.size + 1 + 1 + 1) n n (zr_len n) (w.heap.size + 1 + 1 + 1 + 1) _ W1 (hu1.boxed zB (fun e => e)) (Arr.upd (show Arr Wc (w.heap.size + 1 + 1 + 1) 59 (zr n) from aZ) hu1 (fun e => e)) (fun k e => by have := hu1.size; rcases e with (e | e) | e <;> (try have := hMb k e) <;> omega))
    (RnIn g n J M Wc) (fun co xs D' W => co = .ret ∧ RnOut g Jx M Wc xs D' W)
    (RnIn.firm hJ (by omega) (by omega)) (fun co s D' W W' hs hu => ⟨hs.1, RnOut.firm hJx (by omega) (by omega) s D' W W' hs.2 hu⟩)
    ⟨fun _ => False, _, hjc, fun _ e => e, aG, by simp, Upd.refl _ _⟩ ?owes ?done ?stop
  case owes =>
    rintro l1 pre x D1 W hl1 hl2 hDl hOl hD1 hO1 hj0 hx0 hpre K hK
    have hlb : lineB (zr n) x.1 = true := by
      have h1 : x.1 ∈ (pre ++ [x]).map Prod.fst := by simp
      exact (alL_mem _ _).1 ((show (pre ++ [x]).map Prod.fst <+: alL (zr n) from hpre).subset h1)
    have hxl : x.1.length = n := (zr_steps hlb).1
    have hup : rnUp zs ((pre.map fun x => (x, g)) ++ [(x, g)]) := by
      unfold rnUp
      rw [List.map_append, List.map_map, hlen.out]
      have h1 : (pre ++ [x]).map Prod.fst <+: alL (zr n) := hpre
      rw [List.map_append] at h1
      exact h1
    have Hup := Lib.hid hup
    have Hlb := Lib.hid hlb
    clear hup hlb hpre
    have hOg : ¬ lnOwn x g := fun e => by have := (hO1 g e).1; omega
    have hxlt : ∀ k, lnOwn x k → k < W.heap.size := fun k e => (hO1 k e).2.1
    gi_wp2
    refine hK _ _ (Upd.refl _ _) ?_
    rintro Wb hWb - ⟨D2, cur, hj2, h2, hG2, hcl, hU2⟩ hxb
    clear hK
    have hzW := hWb.size
    have hzU := hU2.size
    obtain ⟨A', c', hv, hN⟩ := lnHas_beside hxb hOg
    rw [hxl] at hv hN
    have bO2 := hU2.boxed bOc (fun e => by rcases e with e | e; exact hMo e; omega)
    have hA2 := hAc.upd hU2 (fun e => by rcases e with e | e; exact hMq e; omega)
    have hcO := bO2.cell
    have bM2 := hU2.boxed mB (fun e => by rcases e with e | e <;> (try have := hMb _ e) <;> omega)
    have hcM := bM2.cell
    have yB2 := hU2.boxed yB (fun e => by rcases e with e | e <;> (try have := hMb _ e) <;> omega)
    gi_wp2_with fail
    refine (CallsIn.inRound l1 (callsIn_wide.2 (renumberInto_any (some ⟨q, 0, none⟩) n c zs hvo.sets g n cur A' c' x.1 w.heap.size Wb (hA2.ints' (B := w.heap.size) hql hlen.out) hG2 hcl (by omega) hN Hlb.out))).mono ?_
    rintro e W3 ⟨⟨v3, rfl⟩, hG3, hu3⟩
    have z3 := hu3.size
    have hU3 : Upd (fun k => M k ∨ k = g) Wc W3 := hU2.trans' hu3 (fun i hi e => .inr e)
    have hgD : ¬ D2 g := fun e => by have := hD1 g (h2 g e); omega
    have hj3 : J (pre.map fun x => (x, g)) D2 W3 := hJ _ _ _ _ hj2 (hu3.mono fun k _ e => ⟨by omega, fun e2 => hgD (by rw [← e]; exact e2)⟩)
    have hx3 : lnHas x W3 := lnHas_keep hxb hu3 (fun k hk e => hOg (by rw [← e]; exact hk))
    have hcM3 := (hu3.boxed bM2 (by omega)).cell
    have hcY3 := (hu3.boxed yB2 (by omega)).cell
    obtain ⟨fn, tmps, assign, body, hy, hR0⟩ := HY.out (pre.map fun x => (x, g)) (x, g) D2 W3 hj3 (by omega) Hup.out hx3 hG3 (fun k hk => by
      have h5 := hO1 k hk
      exact ⟨by omega, by have := hxlt k hk; omega, fun e => h5.2.2 (h2 k e), fun e => hOg (by unfold rnLent at e; rw [show g = k from e.symm]; exact hk)⟩) (fun k hk => by
      unfold rnLent at hk
      subst hk
      exact ⟨by omega, by omega, hgD⟩) 6
    have hR : RoundIn (Fence.wide.inRound l1) 6 Try.prog l fn tmps assign body W3 _ := hR0
    clear hR0 hcO hcM
    dsimp only [rnEnc] at hy
    rw [hv] at hy
    gi_wp2
    refine hR.mono ?_
    clear hR hy
    have hDx : ∀ k, D2 k ∨ lnOwn x k → Wc.heap.size ≤ k := fun k e => e.elim (fun e => by have := hD1 k (h2 k e); omega) (fun e => by have := hO1 k e; omega)
    have next : ∀ (W4 : World), Upd (fun k => M k ∨ D2 k ∨ rnOwn (x, g) k ∨ rnLent (x, g) k) W3 W4 → Upd (fun k => M k ∨ k = g) Wc W4 ∧ Upd (fun j => (M j ∨ j = g) ∨ (D1 j ∨ lnOwn x j) ∨ W.heap.size ≤ j) Wb W4 := fun W4 hu4 => by
      refine ⟨hU3.trans' hu4 (fun i hi e => ?_), ((hu3.mono (S := fun j => (M j ∨ j = g) ∨ (D1 j ∨ lnOwn x j) ∨ W.heap.size ≤ j) fun k _ e => .inl (.inr e)).trans' hu4 (fun i hi e => ?_))⟩
      · rcases e with e | e | e | e
        · exact .inl e
        · have := hDx i (.inl e); omega
        · have := hDx i (.inr e); omega
        · exact .inr e
      · rcases e with e | e | e | e
        · exact .inl (.inl e)
        · exact .inr (.inl (.inl (h2 i e)))
        · exact .inr (.inl (.inr e))
        · exact .inl (.inr e)
    have hmp : (pre ++ [x]).map (fun x => ((x, g) : Rn)) = pre.map (fun x => (x, g)) ++ [(x, g)] := by simp
    have Hmp := Lib.hid hmp
    clear hmp
    rintro e W4 (⟨rfl, D4, hj4, hl4, hn4, hu4, hD4⟩ | ⟨rfl, D4, hj4, hu4, hD4⟩)
    · obtain ⟨n1, n2⟩ := next W4 hu4
      have hL4 : Arr W4 g 59 (rnL zs x.1) := hl4
      have hll : (rnL zs x.1).length = n := by rw [rnL_len, hlen.out]
      gi_wp2
      exact ⟨D4, ⟨D4, rnL zs x.1, by rw [Hmp.out]; exact hj4, fun _ e => e, hL4, hll, n1⟩, n2, fun j e => (hD4 j e).elim (fun e2 => .inl (e2.elim (fun e3 => .inl (h2 j e3)) .inr)) (fun e2 => .inr ⟨by omega, e2.2⟩)⟩
    · obtain ⟨n1, n2⟩ := next W4 hu4
      gi_wp2
      refine ⟨fun j => D4 j ∧ j ≠ g, ⟨rfl, D4, by rw [Hmp.out]; exact hj4, fun j e => ?_, n1⟩, n2, fun j e => ?_⟩
      · by_cases hjg : j = g
        · exact .inr hjg
        · exact .inl ⟨e, hjg⟩
      · rcases hD4 j e.1 with (e2 | e2 | e2) | e2
        · exact .inl (.inl (h2 j e2))
        · exact .inl (.inr e2)
        · exact absurd e2 e.2
        · exact .inr ⟨by omega, e2.2⟩
  case done =>
    rintro d D1 L W hd hF ⟨D2, cur, hj2, h2, -, -, hu2'⟩ hD1 hKd
    gi_wp2
    refine leaves_marks [d] _ ⟨by simp, fun b hb => ?_⟩ (fun W' hu' => ?_)
    · rw [List.mem_singleton.1 hb]
      exact hKd
    · refine ⟨_, results_none rfl _ _ _, ⟨_, rfl⟩, .inl ⟨L.map fun x => (x, g), D2, ?_, hJ _ _ _ _ hj2 (hu'.mono fun k hk e => ⟨by simp at e; omega, fun e2 => by simp at e; have := hD1 k (h2 k e2); omega⟩)⟩⟩
      unfold rnFull
      rw [List.map_map, hlen.out]
      exact hF
  case stop =>
    rintro d D1 co pre W hd hpre ⟨rfl, D2, hj2, h2, hu2'⟩ hD1 hKd
    gi_wp2
    refine leaves_marks [d] _ ⟨by simp, fun b hb => ?_⟩ (fun W' hu' => ?_)
    · rw [List.mem_singleton.1 hb]
      exact hKd
    · refine ⟨_, results_none rfl _ _ _, ⟨_, rfl⟩, .inr ⟨pre.map fun x => (x, g), D2, ?_, hJx _ _ _ _ hj2 (hu'.mono fun k hk e => ⟨by simp at e; omega, fun e2 => by simp at e; have := h2 k e2; rcases this with h5 | h5; have := hD1 k h5; omega; omega⟩)⟩⟩
      unfold rnUp
      rw [List.map_map, hlen.out]
      exact hpre
end Go.Proofs.Ytghogabmkbadjaa

/- SelfMaps, CanonOf, MapOrder: the program's helpers. -/
namespace Go.Proofs.Ytghogabmkbadjaa
open Go.RowKit Go.Shelf
attribute [local go_sem] Oper.semAt_some
attribute [local go_sem, local simp] wide_fn

theorem nanI_any (x : Int) (w : World) : Calls Try.prog 104 #[.int .i64 x] w fun e w' => e = .returned (.bool false) ∧ w = w' := by
  have hx : (x != x) = false := by simp
  go_enter Try.func104, Try.ntmps104
  go_wp2
  go_ret
  exact ⟨rfl, rfl⟩
def cmpN (x y : Int) : Int := if x < y then -1 else if y < x then 1 else 0
theorem cmpI_any (x y : Int) (w : World) : Calls Try.prog 96 #[.int .i64 x, .int .i64 y] w fun e w' => e = .returned (.int .i64 (cmpN x y)) ∧ w = w' := by
  rcases Int.lt_trichotomy x y with h | h | h
  · have Ht := Lib.hid (show cmpN x y = -1 by unfold cmpN; rw [if_pos h])
    go_enter Try.func96, Try.ntmps96
    go_wp2_with (go_at_call 104; refine (nanI_any _ _).mono ?_; rintro e w' ⟨rfl, rfl⟩)
    go_ret
    exact ⟨ret_int Ht.out.symm, rfl⟩
  · have Ht := Lib.hid (show cmpN x y = 0 by unfold cmpN; rw [if_neg (by omega), if_neg (by omega)])
    have h1 : decide (x < y) = false := decide_eq_false (by omega)
    have h2 : decide (y < x) = false := decide_eq_false (by omega)
    clear h
    go_enter Try.func96, Try.ntmps96
    go_wp2_with (go_at_call 104; refine (nanI_any _ _).mono ?_; rintro e w' ⟨rfl, rfl⟩)
    go_ret
    exact ⟨ret_int Ht.out.symm, rfl⟩
  · have Ht := Lib.hid (show cmpN x y = 1 by unfold cmpN; rw [if_neg (by omega), if_pos h])
    have h1 : decide (x < y) = false := decide_eq_false (by omega)
    go_enter Try.func96, Try.ntmps96
    go_wp2_with (go_at_call 104; refine (nanI_any _ _).mono ?_; rintro e w' ⟨rfl, rfl⟩)
    go_ret
    exact ⟨ret_int Ht.out.symm, rfl⟩

set_option maxHeartbeats 1000000 in
theorem ocompare_any (A A' : Option Addr) (n c c' B B' : Nat) (xs ys : List Int) (w : World) (hA : Ints w B A n xs) (hA' : Ints w B' A' n ys) (hbig : n ≤ 1152921504606846976) :
    Calls Try.prog 82 #[.slice A n c, .slice A' n c'] w fun e w' => ∃ r : Int, e = .returned (.int .i64 r) ∧ decide (r < 0) = lessRB xs ys ∧ w' = w := by
  have hlen := Lib.hid hA.len
  have hlen' := Lib.hid hA'.len
  go_enter Try.func82, Try.ntmps82
  go_wp2
  go_loop [5, 6, 7, 8, 11] (fun _ _ _ _ i => ∃ k : Nat, k ≤ n ∧ i = .int .i64 k ∧ (∀ a, a < k → xs[a]?.getD 0 = ys[a]?.getD 0)) (fun _ _ _ _ i => n - (intOf i).toNat)
  case atStart => exact ⟨0, by omega, rfl, fun a ha => by omega⟩
  case round =>
    obtain ⟨k, hk, rfl, hok⟩ := hrel
    have Hok := Lib.hid hok
    clear hok
    by_cases hlt : k < n
    · obtain ⟨b, off, rfl, _, hc⟩ := hA.at_ hlt
      obtain ⟨b', off', rfl, _, hc'⟩ := hA'.at_ hlt
      have hck := hc k hlt
      have hck' := hc' k hlt
      have Hc := Lib.hid hc
      have Hc' := Lib.hid hc'
      clear hc hc'
      cases hne : (xs[k]?.getD 0 != ys[k]?.getD 0)
      · have Heq := Lib.hid (show xs[k]?.getD 0 = ys[k]?.getD 0 by simpa [bne] using hne)
        have Hst := Lib.hid (all_snoc (p := fun a => xs[a]?.getD 0 = ys[a]?.getD 0) Hok.out Heq.out)
        have Hz := Lib.hid (show cmpN (xs[k]?.getD 0) (ys[k]?.getD 0) = 0 by unfold cmpN; rw [Heq.out, if_neg (by omega), if_neg (by omega)])
        generalize xs[k]?.getD 0 = x at *
        generalize ys[k]?.getD 0 = y at *
        go_wp2_with fail
        refine (cmpI_any _ _ _).mono ?_
        rw [Hz.out]
        rintro e w' ⟨rfl, rfl⟩
        go_wp2_with fail
        go_round
        case rel => exact ⟨k + 1, by omega, by go_num, Hst.out⟩
        case measure => simp [intOf]; omega
      · have Hne := Lib.hid (lessRB_at (xs := xs) (ys := ys) (k := k) (by rw [hlen.out]; exact hlt) (by rw [hlen'.out]; exact hlt) Hok.out (by simpa [bne] using hne))
        have hxy : xs[k]?.getD 0 ≠ ys[k]?.getD 0 := by simpa [bne] using hne
        have Hxy := Lib.hid hxy
        clear hxy
        generalize xs[k]?.getD 0 = x at *
        generalize ys[k]?.getD 0 = y at *
        have Hz := Lib.hid (show decide (cmpN x y < 0) = decide (x < y) ∧ (cmpN x y != 0) = true by
          have := Hxy.out
          unfold cmpN
          by_cases h1 : x < y
          · rw [if_pos h1]; simp [h1]
          · rw [if_neg h1, if_pos (by omega)]; simp; omega)
        have hnz := Hz.out.2
        go_wp2_with fail
        refine (cmpI_any _ _ _).mono ?_
        rintro e w' ⟨rfl, rfl⟩
        go_wp2_with fail
        go_ret
        exact ⟨_, rfl, Hz.out.1.trans Hne.out.symm, rfl⟩
    · obtain rfl : k = n := by omega
      have Hf := Lib.hid (lessRB_end (xs := xs) (ys := ys) (k := k) (by rw [hlen.out]; exact Nat.le_refl _) (by rw [hlen'.out]; exact Nat.le_refl _) (.inl (by rw [hlen.out])) Hok.out)
      go_wp2
      go_ret
      exact ⟨0, rfl, by rw [Hf.out]; rfl, rfl⟩
end Go.Proofs.Ytghogabmkbadjaa

/- SelfMaps: the program's, whole. -/
namespace Go.Proofs.Ytghogabmkbadjaa
open Go.RowKit Go.Shelf
attribute [local go_sem] Oper.semAt_some
attribute [local go_sem, local simp] wide_fn

/-- A round that goes on, and keeps nothing. -/
theorem keep_end {α : Type} {own lent : α → Nat → Prop} {Lent : α → World → Prop} {M : Nat → Prop} {J : List α → (Nat → Prop) → World → Prop} {Jx : Code → List α → (Nat → Prop) → World → Prop} {x : α} {xs : List α} {D : Nat → Prop} {z : Nat} {Wb W' : World} {a : Act}
    (hj : J xs D W') (hle : Lent x W') (hLe : ∀ k, lent x k → ¬ D k) (hu : Upd (fun k => M k ∨ (D k ∨ own x k ∨ lent x k) ∨ z ≤ k) Wb W') :
    roundEnd M (fun xs D' W' => keepH lent Lent J x xs D' W') Jx xs (fun k => D k ∨ own x k ∨ lent x k) z Wb .normal a W' :=
  ⟨fun k => D k ∨ lent x k, ⟨D, fun _ => Iff.rfl, hLe, hj, hle⟩, hu, fun _ e => .inl (e.elim .inl (fun e => .inr (.inr e)))⟩
def selfN (zs : List Int) (ls : List (List Int)) : Nat := (ls.filter fun t => decide (rnL zs t = zs)).length
theorem selfN_snoc (zs : List Int) (ls : List (List Int)) (t : List Int) : selfN zs (ls ++ [t]) = selfN zs ls + (if rnL zs t = zs then 1 else 0) := by
  unfold selfN
  rw [List.filter_append, List.length_append, List.filter_cons]
  by_cases e : rnL zs t = zs <;> simp [e]

set_option maxRecDepth 100000 in
set_option maxHeartbeats 4000000 in
theorem selfMaps_any (b n c : Nat) (zs : List Int) (hvo : VoP zs) (hlen0 : zs.length = n) (w : World) (hA : Arr w b 59 zs) :
    Calls Try.prog 57 #[.slice (some ⟨b, 0, none⟩) n c] w fun e w' => e = .returned (.int .i64 (selfN zs (alL (zr n)) : Nat)) ∧ Below w.heap.size w w' := by
  have hlen := Lib.hid hlen0
  have hn6 : n ≤ 6 := by have := hvo.1; rw [hlen.out] at this; exact this
  clear hlen0
  refine (callsIn_wide (n := 9)).1 ?_
  refine callsIn_of_wp_marks Try.func57 rfl trivial ?_ rfl
  simp only [Try.ntmps57, List.size_toArray, List.length_cons, List.length_nil, Nat.reduceAdd, Nat.reduceSub, Array.replicate_succ, Array.replicate_zero, List.push_toArray, List.append_toArray, List.nil_append, List.cons_append]
  gi_wp2_with (gi_at_call 79; refine (callsIn_wide.2 (renumberings_any _ _ _ _)).mono ?_; rintro e w' ⟨rfl, rfl⟩)
  have bO := ((Boxed.new w 44 (.slice (some ⟨b, 0, none⟩) n c)).alloc (.cells #[Value.int .i64 0] 3)).alloc (.cells #[Value.slice (some ⟨b, 0, none⟩) n c] 44)
  have bW := (Boxed.new (w.alloc (.cells #[Value.slice (some ⟨b, 0, none⟩) n c] 44)) 3 (.int .i64 0)).alloc (.cells #[Value.slice (some ⟨b, 0, none⟩) n c] 44)
  have bP := Boxed.new ((w.alloc (.cells #[Value.slice (some ⟨b, 0, none⟩) n c] 44)).alloc (.cells #[Value.int .i64 0] 3)) 44 (.slice (some ⟨b, 0, none⟩) n c)
  have hu0 : Upd (fun _ => False) w (((w.alloc (.cells #[Value.slice (some ⟨b, 0, none⟩) n c] 44)).alloc (.cells #[Value.int .i64 0] 3)).alloc (.cells #[Value.slice (some ⟨b, 0, none⟩) n c] 44)) := (((Upd.refl _ w).alloc _).alloc _).alloc _
  have hz0' : (((w.alloc (.cells #[Value.slice (some ⟨b, 0, none⟩) n c] 44)).alloc (.cells #[Value.int .i64 0] 3)).alloc (.cells #[Value.slice (some ⟨b, 0, none⟩) n c] 44)).heap.size = w.heap.size + 3 := by simp
  simp only [World.size_alloc] at bO bW bP
  obtain ⟨W0, hW0⟩ : ∃ W0, (((w.alloc (.cells #[Value.slice (some ⟨b, 0, none⟩) n c] 44)).alloc (.cells #[Value.int .i64 0] 3)).alloc (.cells #[Value.slice (some ⟨b, 0, none⟩) n c] 44)) = W0 := ⟨_, rfl⟩
  rw [hW0] at bO bW bP hu0 hz0' ⊢
  clear hW0
  have hA0 := hA.upd hu0 (fun e => e)
  have hbl := hA.lt
  refine range_outH (n := 9) (gf := 94) (lb := #[.pointer (some ⟨w.heap.size + 1 + 1, 0, none⟩)]) rfl (enters_of Try.func94 (by kernel_rfl) rfl) (encs := rnEnc n) (own := rnOwn) (lent := rnLent) (Has := rnHas) (Lent := rnLies zs) rn_firm (rnLent_firm zs) (Ok := rnUp zs) (Full := rnFull zs)
    (fun k => k = w.heap.size + 1) (fun k e => by omega) (fun _ => rfl)
    (fun W1 l1 hu1 hl1 hl2 => renumberings_iter zs hvo b n c hlen.out _ _ W1 (hu1.boxed bP (fun e => e)) (hA0.upd hu1 (fun e => e)) (fun e => by omega) (fun e => by omega) (fun k e => by have := hu1.size; omega))
    (fun (pre : List Rn) D W => Boxed W (w.heap.size + 1) 3 (.int .i64 (selfN zs (pre.map fun x : Rn => x.1.1) : Nat)) ∧ Upd (fun k => k = w.heap.size + 1) W0 W)
    (fun _ _ _ _ => False)
    (fun _ D X Y hs hu => ⟨hu.boxed hs.1 (fun e => by omega), hs.2.trans' hu (fun i hi e => by omega)⟩)
    (fun _ _ _ _ _ hs _ => hs)
    ⟨bW, Upd.refl _ _⟩ ?owes ?done ?stop
  case owes =>
    rintro l1 pre x D1 W hl1 hl2 hDl hOl hLl hD1 hO1 hLe1 - - - hpre K hK
    have hnb : selfN zs (pre.map fun x => x.1.1) ≤ 46656 := by
      have h1 : selfN zs (pre.map fun x => x.1.1) ≤ (pre.map fun x => x.1.1).length := List.length_filter_le _ _
      have h2 := (show (pre ++ [x]).map (fun x => x.1.1) <+: alL (zr zs.length) from hpre).length_le
      have h3 := alL_count (zs := zr n) (by rw [zr_len]; exact hn6)
      rw [hlen.out] at h2
      simp at h1 h2
      omega
    have Hs := Lib.hid (show selfN zs ((pre ++ [x]).map fun x => x.1.1) = selfN zs (pre.map fun x => x.1.1) + (if rnL zs x.1.1 = zs then 1 else 0) by rw [List.map_append]; exact selfN_snoc _ _ _)
    have hxW : w.heap.size + 2 < x.2 ∧ x.2 < W.heap.size := by have := hLe1 x.2 rfl; omega
    clear hpre
    gi_wp2
    refine hK _ _ (Upd.refl _ _) ?_
    rintro Wb hWb - ⟨bW1, hU⟩ - hle
    clear hK
    have hsb := hU.size
    have hszb := hWb.size
    have hcO := (hU.boxed bO (by omega)).cell
    have hcW := bW1.cell
    have hfW := bW1.frozen
    have hAb := hA0.upd hU (by omega)
    have hLx : Arr Wb x.2 59 (rnL zs x.1.1) := hle
    have hIx := hLx.ints' (B := Wb.heap.size) hLx.lt (show (rnL zs x.1.1).length = n by rw [rnL_len, hlen.out])
    have hIz := hAb.ints' (B := Wb.heap.size) hAb.lt hlen.out
    generalize selfN zs (pre.map fun x => x.1.1) = q at *
    cases he : decide (rnL zs x.1.1 = zs)
    · have hne : ¬ rnL zs x.1.1 = zs := of_decide_eq_false he
      rw [if_neg hne] at Hs
      clear hne
      gi_wp2_with fail
      refine (CallsIn.inRound l1 (callsIn_wide.2 (ordEq_any _ _ n n n c _ _ (rnL zs x.1.1) zs Wb hIx hIz (by omega) (by omega)))).mono ?_
      rw [he]
      rintro e w2 ⟨rfl, m, rfl⟩
      gi_wp2
      have hum : Upd (fun _ => False) Wb (Wb.drewN m) := (Upd.refl _ _).drewN m
      exact keep_end ⟨by rw [Hs.out]; exact hum.boxed bW1 (fun e => e), hU.trans' hum (fun i hi e => e.elim)⟩ (hLx.upd hum (fun e => e)) (fun k e => (hLe1 k e).2.2) (hum.mono fun _ _ e => e.elim)
    · have hne : rnL zs x.1.1 = zs := of_decide_eq_true he
      rw [if_pos hne] at Hs
      clear hne
      gi_wp2_with fail
      refine (CallsIn.inRound l1 (callsIn_wide.2 (ordEq_any _ _ n n n c _ _ (rnL zs x.1.1) zs Wb hIx hIz (by omega) (by omega)))).mono ?_
      rw [he]
      rintro e w2 ⟨rfl, m, rfl⟩
      gi_wp2
      have hum : Upd (fun k => k = w.heap.size + 1) Wb ((Wb.drewN m).setCell ⟨w.heap.size + 1, 0, none⟩ (.int .i64 ((q : Int) + 1))) := ((Upd.refl (fun k => k = w.heap.size + 1) Wb).drewN m).setCell (p := ⟨w.heap.size + 1, 0, none⟩) (.inr rfl) _
      exact keep_end ⟨by rw [Hs.out]; exact (((Upd.refl (fun _ => False) Wb).drewN m).boxed bW1 (fun e => e)).set _, hU.trans' hum (fun i hi e => e)⟩ (hLx.upd hum (by omega)) (fun k e => (hLe1 k e).2.2) (hum.mono fun _ _ e => .inl e)
  case done =>
    rintro d D1 L W hd hF ⟨bW1, hU⟩ hD1 hKd
    rw [show L.map (fun x => x.1.1) = alL (zr n) by rw [← hlen.out]; exact hF] at bW1
    have hcW := bW1.cell
    gi_wp2
    refine leaves_marks [d] _ ⟨by simp, fun b hb => ?_⟩ (fun W' hu' => ?_)
    · rw [List.mem_singleton.1 hb]
      exact hKd
    · exact ⟨_, by simp [results, Try.f57, go_sem], rfl,
        (((hu0.mono fun _ _ e => e.elim).trans' hU (fun i hi e => by omega)).trans' hu' (fun i hi e => by simp at e; omega)).toBelow (R := fun _ => False) (fun _ e => e.elim) (Nat.le_refl _)⟩
  case stop =>
    rintro d D1 co pre W hd hpre h
    exact h.elim

set_option maxHeartbeats 1000000 in
theorem SelfMaps_any (A : Option Addr) (n c : Nat) (zs : List Int) (w : World) (h : Ints w w.heap.size A n zs) (hbig : n ≤ 1152921504606846976) :
    Calls Try.prog 25 #[.slice A n c] w fun e w' => e = .returned (.int .i64 (selfR zs)) ∧ Below w.heap.size w w' := by
  have hlen := Lib.hid h.len
  go_enter Try.func25, Try.ntmps25
  go_wp2_with fail
  refine (readTried_any _ _ _ zs _ h hbig).mono ?_
  rintro e w1 ⟨hB, (⟨hv, b, rfl, hb, hAr⟩ | ⟨hv, rfl⟩)⟩
  · have hvo := (triB_vo hv).1
    have Ht := Lib.hid (show selfR zs = (selfN zs (alL (zr n)) : Nat) by unfold selfR selfN; rw [hv, hlen.out]; rfl)
    clear hv
    go_wp2_with fail
    refine (selfMaps_any b n n zs hvo hlen.out w1 hAr).mono ?_
    rintro e w2 ⟨rfl, hB2⟩
    go_wp2_with fail
    go_ret
    exact ⟨ret_int Ht.out.symm, hB.trans (hB2.mono hB.size)⟩
  · have Ht := Lib.hid (show selfR zs = -1 by unfold selfR; rw [hv]; rfl)
    clear hv
    go_wp2_with fail
    go_ret
    exact ⟨ret_int Ht.out.symm, hB⟩
end Go.Proofs.Ytghogabmkbadjaa

/- CanonOf: the program's, whole. -/
namespace Go.Proofs.Ytghogabmkbadjaa
open Go.RowKit Go.Shelf
attribute [local go_sem] Oper.semAt_some
attribute [local go_sem, local simp] wide_fn

theorem ownQ_keep {w w' : World} {B n : Nat} {e : TypeId} {v : Value} {xs : List Value} {R : Nat → Prop} (h1 : w.ownsRow B e 1 v n xs) (hu : Upd R w w') (hS : ∀ k, v.ownBlock = some k → ¬ R k) : w'.ownsRow B e 1 v n xs := by
  refine ⟨h1.1, ?_⟩
  rcases h1.2 with e | ⟨g, cap, cur, rfl, hg, hc, hrest⟩
  · exact .inl e
  · exact .inr ⟨g, cap, cur, rfl, hg, (hu.block g (Array.getElem?_eq_some_iff.1 hc).1 (hS g rfl)).trans hc, hrest⟩
/-- copy of a whole order onto a row of as many sets. -/
theorem copyO_any (W : World) (base n g cap b : Nat) (xs ys : List Int) (ty : TypeId) (hO : W.ownsRow base 59 1 (.slice (some ⟨g, 0, none⟩) n cap) n (xs.map (Value.int .i64))) (hS : Arr W b 59 ys) (hl : ys.length = n) :
    ∃ W', (Builtin.copy_ #[44, 44] ty #[.slice (some ⟨g, 0, none⟩) n cap, .slice (some ⟨b, 0, none⟩) n n]).run Try.prog W = .ok (.int .i64 (n : Int)) W' ∧ W'.ownsRow base 59 1 (.slice (some ⟨g, 0, none⟩) n cap) n (ys.map (Value.int .i64)) ∧ Upd (fun k => k = g) W W' := by
  have hsz : (Try.prog.info? 59).map (·.size) = some 1 := by kernel_rfl
  rcases hO.2 with ⟨e, _⟩ | ⟨g', cap', cur, e, hg, hc, h1, h2, h3, ht⟩
  · cases e
  · cases e
    have hcl : (ys.map (Value.int .i64)).length = n := by rw [List.length_map, hl]
    have hr := run_copy_row (P := Try.prog) W 44 44 ty 59 g 0 n cap ⟨b, 0, none⟩ n n cur 59 (ys.map (Value.int .i64)) Try.underlying44 hsz hc (by rw [hcl]; exact (Nat.min_self n).symm) (fun j v hj => by
      rw [addr_add3, Nat.zero_add]
      rw [List.getElem?_map] at hj
      have hjl : j < ys.length := by
        rcases Nat.lt_or_ge j ys.length with h4 | h4
        · exact h4
        · rw [List.getElem?_eq_none h4] at hj; cases hj
      rw [hS.cell hjl, ← hj, List.getElem?_eq_getElem hjl]
      rfl) (by rw [hcl, h3]; omega) (fun v hv => by obtain ⟨z, _, rfl⟩ := List.mem_map.1 hv; rfl)
    rw [hcl] at hr
    refine ⟨_, hr, ⟨by simp [hl], .inr ⟨g, cap, _, rfl, hg, setRow_heap _ _ _ _ _ _ hc, h1, h2, ?_, ?_⟩⟩, rfl, rfl, rfl, by simp, fun i _ hi => setRow_other _ _ _ _ hi⟩
    · simp only [List.size_toArray, List.length_append, List.take_zero, List.length_nil, List.length_drop, hcl]
      rw [Array.length_toList, h3]
      omega
    · rw [List.take_zero, List.nil_append, List.take_append_of_le_length (by rw [hcl]; omega), List.take_of_length_le (by rw [hcl]; omega)]

set_option maxRecDepth 100000 in
set_option maxHeartbeats 8000000 in
theorem canon_any (b n c : Nat) (zs : List Int) (hvo : VoP zs) (hlen0 : zs.length = n) (w : World) (hA : Arr w b 59 zs) :
    Calls Try.prog 56 #[.slice (some ⟨b, 0, none⟩) n c] w fun e w' => ∃ A c', e = .returned (.slice A n c') ∧ Ints w' w'.heap.size A n (canT zs (alL (zr n))) ∧ Below w.heap.size w w' := by
  have hlen := Lib.hid hlen0
  have hn6 : n ≤ 6 := by have := hvo.1; rw [hlen.out] at this; exact this
  clear hlen0
  refine (callsIn_wide (n := 9)).1 ?_
  refine callsIn_of_wp_marks Try.func56 rfl trivial ?_ rfl
  simp only [Try.ntmps56, List.size_toArray, List.length_cons, List.length_nil, Nat.reduceAdd, Nat.reduceSub, Array.replicate_succ, Array.replicate_zero, List.push_toArray, List.append_toArray, List.nil_append, List.cons_append]
  gi_wp2_with fail
  refine (callsIn_wide.2 (clone_own b n c zs w hA hlen.out hn6)).mono ?_
  rintro e w1 ⟨v, rfl, hO, hB1⟩
  have z1 := hB1.size
  have hA1 := hA.below hB1 hA.lt
  have hbl := hA.lt
  have hO1 := hO.2
  rw [hlen.out] at hO1
  obtain ⟨A1, c1, rfl, -⟩ := rowC_of_own hO1
  have hge := hO.1
  have hlt1 := own_lt' hO1
  clear hO
  gi_wp2_with (gi_at_call 79; refine (callsIn_wide.2 (renumberings_any _ _ _ _)).mono ?_; rintro e w' ⟨rfl, rfl⟩)
  have bF := (Boxed.new w1 44 (.slice A1 n c1)).alloc (.cells #[Value.slice (some ⟨b, 0, none⟩) n c] 44)
  have bP := Boxed.new (w1.alloc (.cells #[Value.slice A1 n c1] 44)) 44 (.slice (some ⟨b, 0, none⟩) n c)
  have hu0 : Upd (fun _ => False) w1 ((w1.alloc (.cells #[Value.slice A1 n c1] 44)).alloc (.cells #[Value.slice (some ⟨b, 0, none⟩) n c] 44)) := ((Upd.refl _ w1).alloc _).alloc _
  have hz0 : ((w1.alloc (.cells #[Value.slice A1 n c1] 44)).alloc (.cells #[Value.slice (some ⟨b, 0, none⟩) n c] 44)).heap.size = w1.heap.size + 2 := by simp
  simp only [World.size_alloc] at bF bP
  obtain ⟨W0, hW0⟩ : ∃ W0, ((w1.alloc (.cells #[Value.slice A1 n c1] 44)).alloc (.cells #[Value.slice (some ⟨b, 0, none⟩) n c] 44)) = W0 := ⟨_, rfl⟩
  rw [hW0] at bF bP hu0 hz0 ⊢
  clear hW0
  have hA0 := hA1.upd hu0 (fun e => e)
  have hO0 := ownQ_keep hO1 hu0 (fun _ _ e => e)
  have hB0 : Below w.heap.size w W0 := hB1.trans (hu0.toBelow (fun _ e => e.elim) z1)
  refine range_outH (n := 9) (gf := 94) (lb := #[.pointer (some ⟨w1.heap.size + 1, 0, none⟩)]) rfl (enters_of Try.func94 (by kernel_rfl) rfl) (encs := rnEnc n) (own := rnOwn) (lent := rnLent) (Has := rnHas) (Lent := rnLies zs) rn_firm (rnLent_firm zs) (Ok := rnUp zs) (Full := rnFull zs)
    (fun k => A1 = some ⟨k, 0, none⟩) (fun k e => by have := hlt1 k (by rw [e]; rfl); omega) (fun _ => rfl)
    (fun W1 l1 hu1 hl1 hl2 => renumberings_iter zs hvo b n c hlen.out _ _ W1 (hu1.boxed bP (fun e => e)) (hA0.upd hu1 (fun e => e)) (fun e => by
      rcases e with e | e
      · have := hlt1 (w1.heap.size + 1) (by rw [e]; rfl); omega
      · omega) (fun e => by
      rcases e with e | e
      · have := hge b (by rw [e]; rfl); omega
      · omega) (fun k e => by
      have := hu1.size
      rcases e with e | e
      · have := hlt1 k (by rw [e]; rfl); omega
      · omega))
    (fun (pre : List Rn) D W => W.ownsRow w.heap.size 59 1 (.slice A1 n c1) n ((canT zs (pre.map fun x : Rn => x.1.1)).map (Value.int .i64)) ∧ Upd (fun k => A1 = some ⟨k, 0, none⟩) W0 W)
    (fun _ _ _ _ => False)
    (fun _ D X Y hs hu => ⟨ownQ_keep hs.1 hu (fun k hk e => by
      have h1 : A1 = some ⟨k, 0, none⟩ := by
        rcases hs.1.2 with ⟨e2, _⟩ | ⟨g, cap, cur, e2, _⟩
        · cases e2; cases hk
        · cases e2; cases hk; rfl
      have := hlt1 k hk; omega), hs.2.trans' hu (fun i hi e => by omega)⟩)
    (fun _ _ _ _ _ hs _ => hs)
    ⟨hO0, Upd.refl _ _⟩ ?owes ?done ?stop
  case owes =>
    rintro l1 pre x D1 W hl1 hl2 hDl hOl hLl hD1 hOw hLe1 - - - hpre K hK
    have Hs := Lib.hid (show canT zs ((pre ++ [x]).map fun x => x.1.1) = if lessRB (rnL zs x.1.1) (canT zs (pre.map fun x => x.1.1)) then rnL zs x.1.1 else canT zs (pre.map fun x => x.1.1) by rw [List.map_append]; exact canT_snoc _ _ _)
    have hxW : w1.heap.size + 1 < x.2 ∧ x.2 < W.heap.size := by have := hLe1 x.2 rfl; omega
    have hql : (canT zs (pre.map fun x => x.1.1)).length = n := by rw [canT_len, hlen.out]
    clear hpre
    gi_wp2
    refine hK _ _ (Upd.refl _ _) ?_
    rintro Wb hWb - ⟨hOb, hU⟩ - hle
    clear hK
    have hsb := hU.size
    have hszb := hWb.size
    have hcF := (hU.boxed bF (fun e => by have := hlt1 w1.heap.size (by rw [e]; rfl); omega)).cell
    have hLx : Arr Wb x.2 59 (rnL zs x.1.1) := hle
    have hll : (rnL zs x.1.1).length = n := by rw [rnL_len, hlen.out]
    have hIx := hLx.ints' (B := Wb.heap.size) hLx.lt hll
    obtain ⟨A3, c3, e3, hC3⟩ := rowC_of_own hOb
    cases e3
    have hIq := hC3.ints (B := Wb.heap.size) (Nat.le_refl _)
    generalize canT zs (pre.map fun x => x.1.1) = q at *
    gi_wp2_with fail
    refine (CallsIn.inRound l1 (callsIn_wide.2 (ocompare_any _ _ n n c1 _ _ (rnL zs x.1.1) q Wb hIx hIq (by omega)))).mono ?_
    rintro e w2 ⟨r, rfl, hr, rfl⟩
    cases he : lessRB (rnL zs x.1.1) q
    · rw [he] at Hs hr
      gi_wp2
      exact keep_end ⟨by rw [Hs.out]; exact hOb, hU⟩ hLx (fun k e => (hLe1 k e).2.2) (Upd.refl _ _)
    · rw [he] at Hs hr
      obtain ⟨g, rfl⟩ : ∃ g, A1 = some ⟨g, 0, none⟩ := by
        rcases hOb.2 with ⟨e2, h0⟩ | ⟨g, cap, cur, e2, _⟩
        · exfalso
          have e4 : rnL zs x.1.1 = [] := List.eq_nil_of_length_eq_zero (by omega)
          have e5 : q = [] := List.eq_nil_of_length_eq_zero (by omega)
          rw [e4, e5] at he
          cases he
        · cases e2; exact ⟨g, rfl⟩
      have hgl := hlt1 g rfl
      obtain ⟨W3, hcp, hO3, hu3⟩ := copyO_any w2 w.heap.size n g c1 x.2 q (rnL zs x.1.1) 3 hOb hLx hll
      have hu3' : Upd (fun k => (some ⟨g, 0, none⟩ : Option Addr) = some ⟨k, 0, none⟩) w2 W3 := hu3.mono fun k _ e => by rw [e]
      gi_wp2
      exact keep_end ⟨by rw [Hs.out]; exact hO3, hU.trans hu3'⟩ (hLx.upd hu3 (by omega)) (fun k e => (hLe1 k e).2.2) (hu3'.mono fun _ _ e => .inl e)
  case done =>
    rintro d D1 L W hd hF ⟨hO9, hU⟩ hD1 hKd
    rw [show L.map (fun x => x.1.1) = alL (zr n) by rw [← hlen.out]; exact hF] at hO9
    have hcF := (hU.boxed bF (fun e => by have := hlt1 w1.heap.size (by rw [e]; rfl); omega)).cell
    gi_wp2
    refine leaves_marks [d] _ ⟨by simp, fun b hb => ?_⟩ (fun W' hu' => ?_)
    · rw [List.mem_singleton.1 hb]
      exact hKd
    · have hud : Upd (fun k => k = d) W W' := hu'.mono fun k _ e => by simpa using e
      have hO10 := ownQ_keep hO9 hud (fun k hk e => by have := hlt1 k hk; omega)
      obtain ⟨A3, c3, e3, hC3⟩ := rowC_of_own hO10
      cases e3
      exact ⟨.slice A1 n c1, by simp [results, Try.f56, go_sem], A1, c1, rfl, hC3.ints (Nat.le_refl _),
        ((((Below.toUpd hB0).trans' hU (fun i hi e => by have := hge i (by rw [e]; rfl); omega)).trans' hud (fun i hi e => by omega)).toBelow (B := w.heap.size) (fun k e => e) (Nat.le_refl _))⟩
  case stop =>
    rintro d D1 co pre W hd hpre h
    exact h.elim

set_option maxHeartbeats 1000000 in
theorem CanonOf_any (A : Option Addr) (n c : Nat) (zs : List Int) (w : World) (h : Ints w w.heap.size A n zs) (hbig : n ≤ 1152921504606846976) :
    Calls Try.prog 23 #[.slice A n c] w (GivesRow w (canR zs)) := by
  have hlen := Lib.hid h.len
  go_enter Try.func23, Try.ntmps23
  go_wp2_with fail
  refine (readTried_any _ _ _ zs _ h hbig).mono ?_
  rintro e w1 ⟨hB, (⟨hv, b, rfl, hb, hAr⟩ | ⟨hv, rfl⟩)⟩
  · obtain ⟨hvo, h5⟩ := triB_vo hv
    rw [hlen.out] at h5
    have Ht := Lib.hid (show canR zs = canT zs (alL (zr n)) by unfold canR; rw [hv, hlen.out]; rfl)
    clear hv
    go_wp2_with fail
    refine (canon_any b n n zs hvo hlen.out w1 hAr).mono ?_
    rintro e w2 ⟨A2, c2, rfl, hI2, hB2⟩
    have z2 := hB2.size
    have C2 := hB.trans (hB2.mono hB.size)
    go_wp2_with fail
    refine (list_any _ _ _ _ _ hI2 (by omega)).mono ?_
    rintro e w3 ⟨rfl, hA3, hB3⟩
    go_wp2_with fail
    go_ret
    exact ⟨_, n, n, rfl, by rw [Ht.out]; exact Row.of hA3 (by rw [canT_len, hlen.out]) C2.size hA3.lt, C2.trans (hB3.mono C2.size)⟩
  · have Ht := Lib.hid (show canR zs = [] by unfold canR; rw [hv]; rfl)
    clear hv
    go_wp2_with fail
    go_ret
    exact ⟨none, 0, 0, rfl, by rw [Ht.out]; exact Row.nil _ _ _ _, hB⟩
end Go.Proofs.Ytghogabmkbadjaa

/- MapOrder: the program's, whole. -/
namespace Go.Proofs.Ytghogabmkbadjaa
open Go.RowKit Go.Shelf
attribute [local go_sem] Oper.semAt_some
attribute [local go_sem, local simp] wide_fn

theorem find_pre {p : List Int → Bool} {l pre : List (List Int)} {t : List Int} (h : pre ++ [t] <+: l) (hno : ∀ s ∈ pre, p s = false) (ht : p t = true) : l.find? p = some t := by
  obtain ⟨u, rfl⟩ := h
  have h1 : pre.find? p = none := List.find?_eq_none.2 fun s hs => by rw [hno s hs]; simp
  rw [List.append_assoc, List.find?_append, h1]
  simp [ht]
/-- What the search for a numbering gives. -/
def GivesMap (zs ys : List Int) (n : Nat) (w : World) (e : Ending) (w' : World) : Prop :=
  Below w.heap.size w w' ∧ ((∃ t A c, (alL (zr n)).find? (fun t => decide (rnL zs t = ys)) = some t ∧ e = .returned (.tuple #[.slice A n c, .bool true]) ∧ RowV w' w.heap.size w'.heap.size A n t) ∨ ((alL (zr n)).find? (fun t => decide (rnL zs t = ys)) = none ∧ e = .returned (.tuple #[.slice none 0 0, .bool false])))
def mapJ (zs ys : List Int) (z : Nat) (W0 : World) (pre : List Rn) (_ : Nat → Prop) (W : World) : Prop :=
  (∀ s ∈ pre.map (fun x : Rn => x.1.1), decide (rnL zs s = ys) = false) ∧ Boxed W (z + 1) 22 (.slice none 0 0) ∧ Boxed W (z + 2) 4 (.bool false) ∧ Upd (fun k => k = z + 1 ∨ k = z + 2) W0 W
def mapX (zs ys : List Int) (z : Nat) (W0 : World) (co : Code) (xs : List Rn) (D : Nat → Prop) (W : World) : Prop :=
  co = .ret ∧ ∃ (pre : List Rn) (x : Rn), xs = pre ++ [x] ∧ (∀ s ∈ pre.map (fun x : Rn => x.1.1), decide (rnL zs s = ys) = false) ∧ decide (rnL zs x.1.1 = ys) = true ∧ Boxed W (z + 1) 22 x.1.2 ∧ Boxed W (z + 2) 4 (.bool true) ∧ lnHas x.1 W ∧ (∀ k, lnOwn x.1 k → D k ∧ W0.heap.size ≤ k) ∧ Upd (fun k => k = z + 1 ∨ k = z + 2) W0 W
theorem mapJ_firm {zs ys : List Int} {z : Nat} {W0 : World} (hz : z + 2 < W0.heap.size) : Firm W0.heap.size (mapJ zs ys z W0) := fun _ _ _ _ hs hu =>
  ⟨hs.1, hu.boxed hs.2.1 (fun e => by omega), hu.boxed hs.2.2.1 (fun e => by omega), hs.2.2.2.trans' hu (fun i hi e => by omega)⟩
theorem mapX_firm {zs ys : List Int} {z : Nat} {W0 : World} (hz : z + 2 < W0.heap.size) (co : Code) : Firm W0.heap.size (mapX zs ys z W0 co) := by
  rintro xs D W W' ⟨h0, pre, x, h1, h2, h3, h4, h5, h6, h7, h8⟩ hu
  exact ⟨h0, pre, x, h1, h2, h3, hu.boxed h4 (fun e => by omega), hu.boxed h5 (fun e => by omega), lnHas_keep h6 hu (fun k hk e => e.2 (h7 k hk).1), h7, h8.trans' hu (fun i hi e => by omega)⟩

set_option maxRecDepth 100000 in
set_option maxHeartbeats 8000000 in
theorem mapTo_any (b n c b2 c2 : Nat) (zs ys : List Int) (hvo : VoP zs) (hlen0 : zs.length = n) (hlen2 : ys.length = n) (w : World) (hA : Arr w b 59 zs) (hA2 : Arr w b2 59 ys) :
    Calls Try.prog 54 #[.slice (some ⟨b, 0, none⟩) n c, .slice (some ⟨b2, 0, none⟩) n c2] w (GivesMap zs ys n w) := by
  have hlen := Lib.hid hlen0
  have hleny := Lib.hid hlen2
  have hn6 : n ≤ 6 := by have := hvo.1; rw [hlen.out] at this; exact this
  clear hlen0 hlen2
  refine (callsIn_wide (n := 9)).1 ?_
  refine callsIn_of_wp_marks Try.func54 rfl trivial ?_ rfl
  simp only [Try.ntmps54, List.size_toArray, List.length_cons, List.length_nil, Nat.reduceAdd, Nat.reduceSub, Array.replicate_succ, Array.replicate_zero, List.push_toArray, List.append_toArray, List.nil_append, List.cons_append]
  gi_wp2_with (gi_at_call 79; refine (callsIn_wide.2 (renumberings_any _ _ _ _)).mono ?_; rintro e w' ⟨rfl, rfl⟩)
  have bO := (((Boxed.new w 44 (.slice (some ⟨b2, 0, none⟩) n c2)).alloc (.cells #[Value.slice none 0 0] 22)).alloc (.cells #[Value.bool false] 4)).alloc (.cells #[Value.slice (some ⟨b, 0, none⟩) n c] 44)
  have bR := ((Boxed.new (w.alloc (.cells #[Value.slice (some ⟨b2, 0, none⟩) n c2] 44)) 22 (.slice none 0 0)).alloc (.cells #[Value.bool false] 4)).alloc (.cells #[Value.slice (some ⟨b, 0, none⟩) n c] 44)
  have bB := (Boxed.new ((w.alloc (.cells #[Value.slice (some ⟨b2, 0, none⟩) n c2] 44)).alloc (.cells #[Value.slice none 0 0] 22)) 4 (.bool false)).alloc (.cells #[Value.slice (some ⟨b, 0, none⟩) n c] 44)
  have bP := Boxed.new (((w.alloc (.cells #[Value.slice (some ⟨b2, 0, none⟩) n c2] 44)).alloc (.cells #[Value.slice none 0 0] 22)).alloc (.cells #[Value.bool false] 4)) 44 (.slice (some ⟨b, 0, none⟩) n c)
  have hu0 : Upd (fun _ => False) w ((((w.alloc (.cells #[Value.slice (some ⟨b2, 0, none⟩) n c2] 44)).alloc (.cells #[Value.slice none 0 0] 22)).alloc (.cells #[Value.bool false] 4)).alloc (.cells #[Value.slice (some ⟨b, 0, none⟩) n c] 44)) := ((((Upd.refl _ w).alloc _).alloc _).alloc _).alloc _
  have hz0' : ((((w.alloc (.cells #[Value.slice (some ⟨b2, 0, none⟩) n c2] 44)).alloc (.cells #[Value.slice none 0 0] 22)).alloc (.cells #[Value.bool false] 4)).alloc (.cells #[Value.slice (some ⟨b, 0, none⟩) n c] 44)).heap.size = w.heap.size + 4 := by simp
  simp only [World.size_alloc] at bO bR bB bP
  obtain ⟨W0, hW0⟩ : ∃ W0, ((((w.alloc (.cells #[Value.slice (some ⟨b2, 0, none⟩) n c2] 44)).alloc (.cells #[Value.slice none 0 0] 22)).alloc (.cells #[Value.bool false] 4)).alloc (.cells #[Value.slice (some ⟨b, 0, none⟩) n c] 44)) = W0 := ⟨_, rfl⟩
  rw [hW0] at bO bR bB bP hu0 hz0' ⊢
  clear hW0
  have hA0 := hA.upd hu0 (fun e => e)
  have hA20 := hA2.upd hu0 (fun e => e)
  have hbl := hA.lt
  have hbl2 := hA2.lt
  refine range_outH (n := 9) (gf := 94) (lb := #[.pointer (some ⟨w.heap.size + 1 + 1 + 1, 0, none⟩)]) rfl (enters_of Try.func94 (by kernel_rfl) rfl) (encs := rnEnc n) (own := rnOwn) (lent := rnLent) (Has := rnHas) (Lent := rnLies zs) rn_firm (rnLent_firm zs) (Ok := rnUp zs) (Full := rnFull zs)
    (fun k => k = w.heap.size + 1 ∨ k = w.heap.size + 2) (fun k e => by omega) (fun _ => rfl)
    (fun W1 l1 hu1 hl1 hl2 => renumberings_iter zs hvo b n c hlen.out _ _ W1 (hu1.boxed bP (fun e => e)) (hA0.upd hu1 (fun e => e)) (fun e => by omega) (fun e => by omega) (fun k e => by have := hu1.size; omega))
    (mapJ zs ys w.heap.size W0) (mapX zs ys w.heap.size W0) (mapJ_firm (by omega)) (mapX_firm (by omega))
    ⟨fun s hs => by simp at hs, bR, bB, Upd.refl _ _⟩ ?owes ?done ?stop
  case owes =>
    rintro l1 pre x D1 W hl1 hl2 hDl hOl hLl hD1 hO1 hLe1 - - - hpre K hK
    have hxW : w.heap.size + 3 < x.2 ∧ x.2 < W.heap.size := by have := hLe1 x.2 rfl; omega
    have hxl : x.1.1.length = n := by
      have h1 : x.1.1 ∈ (pre ++ [x]).map (fun x => x.1.1) := by simp
      have h2 := (alL_mem _ _).1 ((show (pre ++ [x]).map (fun x => x.1.1) <+: alL (zr zs.length) from hpre).subset h1)
      rw [hlen.out] at h2
      exact (zr_steps h2).1
    clear hpre
    gi_wp2
    refine hK _ _ (Upd.refl _ _) ?_
    rintro Wb hWb - ⟨hno, bR1, bB1, hU⟩ hxb hle
    clear hK
    have hsb := hU.size
    have hszb := hWb.size
    have hcO := (hU.boxed bO (by omega)).cell
    have hAb := hA20.upd hU (by omega)
    have hLx : Arr Wb x.2 59 (rnL zs x.1.1) := hle
    have hll : (rnL zs x.1.1).length = n := by rw [rnL_len, hlen.out]
    have hIx := hLx.ints' (B := Wb.heap.size) hLx.lt hll
    have hIz := hAb.ints' (B := Wb.heap.size) hAb.lt hleny.out
    obtain ⟨A', c', hv, -⟩ := lnHas_slice (show lnHas x.1 Wb from hxb)
    have Hno := Lib.hid hno
    clear hno
    cases he : decide (rnL zs x.1.1 = ys)
    · have Hsn := Lib.hid (show ∀ s ∈ (pre ++ [x]).map (fun x : Rn => x.1.1), decide (rnL zs s = ys) = false from fun s hs => by
        rw [List.map_append] at hs
        rcases List.mem_append.1 hs with h | h
        · exact Hno.out s h
        · simp at h; rw [h]; exact he)
      gi_wp2_with fail
      refine (CallsIn.inRound l1 (callsIn_wide.2 (ordEq_any _ _ n n n c2 _ _ (rnL zs x.1.1) ys Wb hIx hIz (by omega) (by omega)))).mono ?_
      rw [he]
      rintro e w2 ⟨rfl, m, rfl⟩
      gi_wp2
      have hum : Upd (fun _ => False) Wb (Wb.drewN m) := (Upd.refl _ _).drewN m
      exact keep_end ⟨Hsn.out, hum.boxed bR1 (fun e => e), hum.boxed bB1 (fun e => e), hU.trans' hum (fun i hi e => e.elim)⟩ (hLx.upd hum (fun e => e)) (fun k e => (hLe1 k e).2.2) (hum.mono fun _ _ e => e.elim)
    · have Heq := Lib.hid he
      clear he
      gi_wp2_with fail
      refine (CallsIn.inRound l1 (callsIn_wide.2 (ordEq_any _ _ n n n c2 _ _ (rnL zs x.1.1) ys Wb hIx hIz (by omega) (by omega)))).mono ?_
      rw [Heq.out]
      rintro e w2 ⟨rfl, m, rfl⟩
      have hum : Upd (fun _ => False) Wb (Wb.drewN m) := (Upd.refl _ _).drewN m
      have bR2 := hum.boxed bR1 (fun e => e)
      have bB2 := hum.boxed bB1 (fun e => e)
      generalize Wb.drewN m = Wn at *
      have hcR := bR2.cell
      have hfR := bR2.frozen
      have hcB := bB2.cell
      have hfB := bB2.frozen
      gi_wp2
      have hus : Upd (fun k => k = w.heap.size + 1 ∨ k = w.heap.size + 2) Wn ((Wn.setCell ⟨w.heap.size + 1, 0, none⟩ (.slice A' n c')).setCell ⟨w.heap.size + 2, 0, none⟩ (.bool true)) := ((Upd.refl (fun k => k = w.heap.size + 1 ∨ k = w.heap.size + 2) Wn).setCell (p := ⟨w.heap.size + 1, 0, none⟩) (.inr (.inl rfl)) _).setCell (p := ⟨w.heap.size + 2, 0, none⟩) (.inr (.inr rfl)) _
      have hus' : Upd (fun k => k = w.heap.size + 1 ∨ k = w.heap.size + 2) Wb ((Wn.setCell ⟨w.heap.size + 1, 0, none⟩ (.slice A' n c')).setCell ⟨w.heap.size + 2, 0, none⟩ (.bool true)) := (hum.mono fun _ _ e => e.elim).trans hus
      have bR3 : Boxed ((Wn.setCell ⟨w.heap.size + 1, 0, none⟩ (.slice A' n c')).setCell ⟨w.heap.size + 2, 0, none⟩ (.bool true)) (w.heap.size + 1) 22 x.1.2 := by
        rw [hv, hxl]
        exact ((Upd.refl (fun k => k = w.heap.size + 2) _).setCell (p := ⟨w.heap.size + 2, 0, none⟩) (.inr rfl) _).boxed (bR2.set _) (by omega)
      have bB3 : Boxed ((Wn.setCell ⟨w.heap.size + 1, 0, none⟩ (.slice A' n c')).setCell ⟨w.heap.size + 2, 0, none⟩ (.bool true)) (w.heap.size + 2) 4 (.bool true) :=
        (((Upd.refl (fun k => k = w.heap.size + 1) Wn).setCell (p := ⟨w.heap.size + 1, 0, none⟩) (.inr rfl) _).boxed bB2 (by omega)).set _
      have hx3 := lnHas_keep (show lnHas x.1 Wb from hxb) hus' (fun k hk e => by have := (hO1 k hk).1; omega)
      exact ⟨fun k => D1 k ∨ rnOwn x k ∨ rnLent x k, ⟨rfl, pre, x, rfl, Hno.out, Heq.out, bR3, bB3, hx3, fun k hk => ⟨.inr (.inl hk), (hO1 k hk).1⟩, hU.trans hus'⟩, hus'.mono fun k _ e => .inl e, fun k e => .inl e⟩
  case done =>
    rintro d D1 L W hd hF ⟨hno, bR1, bB1, hU⟩ hD1 hKd
    have hL : L.map (fun x : Rn => x.1.1) = alL (zr n) := by rw [← hlen.out]; exact hF
    have Hnone := Lib.hid (show (alL (zr n)).find? (fun t => decide (rnL zs t = ys)) = none from List.find?_eq_none.2 fun s hs => by rw [hno s (by rw [hL]; exact hs)]; simp)
    have hcR := bR1.cell
    have hfR := bR1.frozen
    have hcB := bB1.cell
    have hfB := bB1.frozen
    clear hno hL
    gi_wp2
    have hus : Upd (fun k => k = w.heap.size + 1 ∨ k = w.heap.size + 2) W ((W.setCell ⟨w.heap.size + 1, 0, none⟩ (.slice none 0 0)).setCell ⟨w.heap.size + 2, 0, none⟩ (.bool false)) := ((Upd.refl (fun k => k = w.heap.size + 1 ∨ k = w.heap.size + 2) W).setCell (p := ⟨w.heap.size + 1, 0, none⟩) (.inr (.inl rfl)) _).setCell (p := ⟨w.heap.size + 2, 0, none⟩) (.inr (.inr rfl)) _
    have bR3 := ((Upd.refl (fun k => k = w.heap.size + 2) _).setCell (p := ⟨w.heap.size + 2, 0, none⟩) (.inr rfl) (.bool false)).boxed (bR1.set (.slice none 0 0)) (by omega)
    have bB3 := (((Upd.refl (fun k => k = w.heap.size + 1) W).setCell (p := ⟨w.heap.size + 1, 0, none⟩) (.inr rfl) (.slice none 0 0)).boxed bB1 (by omega)).set (.bool false)
    refine leaves_marks [d] _ ⟨by simp, fun b hb => ?_⟩ (fun W' hu' => ?_)
    · rw [List.mem_singleton.1 hb]
      exact (hus.block d (Array.getElem?_eq_some_iff.1 hKd).1 (by omega)).trans hKd
    · have hc1 := (hu'.boxed bR3 (by simp; omega)).cell
      have hc2 := (hu'.boxed bB3 (by simp; omega)).cell
      refine ⟨.tuple #[.slice none 0 0, .bool false], by simp [results, Try.f54, go_sem, hc1, hc2], ?_, .inr ⟨Hnone.out, rfl⟩⟩
      exact ((((hu0.mono fun _ _ e => e.elim).trans' (hU.trans hus) (fun i hi e => by omega)).trans' hu' (fun i hi e => by simp at e; omega)).toBelow (R := fun _ => False) (fun _ e => e.elim) (Nat.le_refl _))
  case stop =>
    rintro d D1 co pre W hd hpre ⟨rfl, pr, x, rfl, hno, heq, bR1, bB1, hx1, hown, hU⟩ hD1 hKd
    have hcR := bR1.cell
    have hcB := bB1.cell
    have hpre' : (pr.map fun x : Rn => x.1.1) ++ [x.1.1] <+: alL (zr n) := by
      have h1 : (pr ++ [x]).map (fun x : Rn => x.1.1) <+: alL (zr zs.length) := hpre
      rw [List.map_append, hlen.out] at h1
      exact h1
    have Hf := Lib.hid (find_pre (p := fun t => decide (rnL zs t = ys)) hpre' hno heq)
    have hxl : x.1.1.length = n := by
      have h2 := (alL_mem _ _).1 (hpre'.subset (show x.1.1 ∈ (pr.map fun x : Rn => x.1.1) ++ [x.1.1] by simp))
      exact (zr_steps h2).1
    have hV := lnHas_rowV hx1 (lo := w.heap.size) (fun k hk => by have := (hown k hk).2; omega) hxl
    clear hno heq hpre hpre'
    gi_wp2
    refine leaves_marks [d] _ ⟨by simp, fun b hb => ?_⟩ (fun W' hu' => ?_)
    · rw [List.mem_singleton.1 hb]
      exact hKd
    · have hud : Upd (fun k => k = d) W W' := hu'.mono fun k _ e => by simpa using e
      have hc1 := (hud.boxed bR1 (by omega)).cell
      have hc2 := (hud.boxed bB1 (by omega)).cell
      have hx2 := lnHas_keep hx1 hud (fun k hk e => by have := hD1 k (hown k hk).1; omega)
      obtain ⟨A', c', hv, hV⟩ := lnHas_rowV hx2 (lo := w.heap.size) (fun k hk => by have := (hown k hk).2; omega) hxl
      rw [hv] at hc1
      refine ⟨.tuple #[.slice A' n c', .bool true], by simp [results, Try.f54, go_sem, hc1, hc2], ?_, .inl ⟨x.1.1, A', c', Hf.out, rfl, hV⟩⟩
      exact ((((hu0.mono fun _ _ e => e.elim).trans' hU (fun i hi e => by omega)).trans' hud (fun i hi e => by omega)).toBelow (R := fun _ => False) (fun _ e => e.elim) (Nat.le_refl _))

set_option maxRecDepth 100000 in
set_option maxHeartbeats 2000000 in
theorem MapOrder_any (A : Option Addr) (n c : Nat) (zs : List Int) (A2 : Option Addr) (n2 c2 : Nat) (ys : List Int) (w : World) (h : Ints w w.heap.size A n zs) (h' : Ints w w.heap.size A2 n2 ys) (hbig : n ≤ 1152921504606846976) (hbig' : n2 ≤ 1152921504606846976) :
    Calls Try.prog 21 #[.slice A n c, .slice A2 n2 c2] w (GivesAtV w (mapR zs ys) (mapB zs ys)) := by
  have hlen := Lib.hid h.len
  have hleny := Lib.hid h'.len
  have stop : ∀ (w9 : World), (triB zs && (triB ys && decide (zs.length = ys.length))) = false → Below w.heap.size w w9 → GivesAtV w (mapR zs ys) (mapB zs ys) (.returned (.tuple #[.slice none 0 0, .bool false])) w9 := fun w9 e hB => by
    obtain ⟨e1, e2⟩ := map_no e
    exact ⟨none, 0, 0, by rw [e1], by rw [e2]; exact RowV.nil _ _ _ _, hB⟩
  have Stop := Lib.hid stop
  clear stop
  go_enter Try.func21, Try.ntmps21
  go_wp2_with fail
  refine (readTried_any _ _ _ zs _ h hbig).mono ?_
  rintro e w1 ⟨hB, hor⟩
  have z1 := hB.size
  have j1 := h'.to hB (Nat.le_refl _) z1
  rcases hor with ⟨hv, b, rfl, hb, hAr⟩ | ⟨hv, rfl⟩
  · have Hv := Lib.hid hv
    obtain ⟨hvo, h5⟩ := triB_vo hv
    rw [hlen.out] at h5
    clear hv
    go_wp2_with fail
    refine (readTried_any _ _ _ ys _ j1 hbig').mono ?_
    rintro e w2 ⟨hB2, hor2⟩
    have z2 := hB2.size
    have C2 := hB.trans (hB2.mono z1)
    have hA2 := hAr.below hB2 hAr.lt
    rcases hor2 with ⟨hv2, b2, rfl, hb2, hAr2⟩ | ⟨hv2, rfl⟩
    · have Hv2 := Lib.hid hv2
      clear hv2
      by_cases hnn : n = n2
      · subst hnn
        have Hyes := Lib.hid (map_yes (a := zs) (b := ys) (by rw [Hv.out, Hv2.out, hlen.out, hleny.out]; simp))
        rw [hlen.out] at Hyes
        go_wp2_with fail
        refine (mapTo_any b n n b2 n zs ys hvo hlen.out hleny.out w2 hA2 hAr2).mono ?_
        rintro e w3 ⟨hB3, (⟨t, A3, c3, hf, rfl, hV⟩ | ⟨hf, rfl⟩)⟩
        · have Hf := Lib.hid hf
          clear hf
          go_wp2_with fail
          go_ret2
          exact ⟨A3, n, c3, by unfold mapB; rw [Hyes.out, Hf.out]; rfl, by unfold mapR; rw [Hyes.out, Hf.out]; exact hV.more C2.size (Nat.le_refl _), C2.trans (hB3.mono C2.size)⟩
        · have Hf := Lib.hid hf
          clear hf
          go_wp2_with fail
          go_ret2
          exact ⟨none, 0, 0, by unfold mapB; rw [Hyes.out, Hf.out]; rfl, by unfold mapR; rw [Hyes.out, Hf.out]; exact RowV.nil _ _ _ _, C2.trans (hB3.mono C2.size)⟩
      · have Hno := Lib.hid (show (triB zs && (triB ys && decide (zs.length = ys.length))) = false by rw [hlen.out, hleny.out]; simp [hnn])
        have hne : ((n : Int) != (n2 : Int)) = true := by simp; omega
        clear hnn
        go_wp2_with fail
        go_ret2
        exact Stop.out _ Hno.out C2
    · have Hno := Lib.hid (show (triB zs && (triB ys && decide (zs.length = ys.length))) = false by rw [hv2]; cases triB zs <;> rfl)
      clear hv2
      go_wp2_with fail
      go_ret2
      exact Stop.out _ Hno.out C2
  · have Hno := Lib.hid (show (triB zs && (triB ys && decide (zs.length = ys.length))) = false by rw [hv]; rfl)
    clear hv
    go_wp2_with fail
    refine (readTried_any _ _ _ ys _ j1 hbig').mono ?_
    rintro e w2 ⟨hB2, hor2⟩
    have C2 := hB.trans (hB2.mono z1)
    rcases hor2 with ⟨hv2, b2, rfl, hb2, hAr2⟩ | ⟨hv2, rfl⟩
    all_goals
      go_wp2_with fail
      go_ret2
      exact Stop.out _ Hno.out C2
theorem mapR_le (zs ys : List Int) : (mapR zs ys).length ≤ 1048576 := by
  unfold mapR mapO
  split
  · rename_i h
    rw [Bool.and_eq_true] at h
    have h5 := (triB_vo h.1).2
    cases e : (alL (zr zs.length)).find? (fun t => decide (rnL zs t = ys)) with
    | none => simp
    | some t =>
      have h2 := (alL_mem _ _).1 (List.mem_of_find?_eq_some e)
      have := (zr_steps h2).1
      simp only [Option.getD_some]
      omega
  · simp
end Go.Proofs.Ytghogabmkbadjaa

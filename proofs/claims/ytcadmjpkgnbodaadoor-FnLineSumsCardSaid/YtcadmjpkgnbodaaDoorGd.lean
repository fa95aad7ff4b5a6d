/- Texts that several claims share, one behind the other. -/
import Derived.Test.YtcadmjpkgnbodaaDoorGc
import Derived.Test.YtcadmjpkgnbodaaDoorGb
import Derived.Test.YtcadmjpkgnbodaaDoorGa
/- Numberings: withOneMore's sum, and whole. -/
namespace Go.Proofs.YtcadmjpkgnbodaaDoor
open Go.RowKit Go.Shelf
attribute [local go_sem] Oper.semAt_some
attribute [local go_sem, local simp] wide_fn

/-- A sum over ideals is small where each number is. -/
theorem oneMore_small {zs : List Int} (hn6 : zs.length ≤ 6) {g : Nat → Int} (hg : ∀ t, 0 ≤ g t ∧ g t ≤ 1000000000) (pre : List Nat) (hp : pre <+: idl zs) : -1000000000000 ≤ lsum g pre ∧ lsum g pre ≤ 1000000000000 := by
  have h1 := lsum_small (g := g) (B := 1000000000) (by decide) (fun x => ⟨by have := (hg x).1; omega, (hg x).2⟩) pre
  have h2 := hp.length_le
  have h3 : (idl zs).length ≤ 2 ^ zs.length := by
    unfold idl
    have := List.length_filter_le (fun j : Nat => idB zs (j : Int)) (List.range (2 ^ zs.length))
    simpa using this
  have h4 : 2 ^ zs.length ≤ 2 ^ 6 := Nat.pow_le_pow_right (by decide) hn6
  have h5 : pre.length ≤ 64 := by omega
  have h6 : (pre.length : Int) ≤ 64 := by omega
  omega

set_option maxRecDepth 100000 in
set_option maxHeartbeats 4000000 in
theorem nsum_any (zs : List Int) (q n : Nat) (F : Value) (ms : Int → Bool) (hF : Shares F zs q ms) (hn6 : zs.length ≤ 6) (I S C Z V s N m c : Nat) (A : Option Addr) (v1 : Value) (cs : List Int) (w : World) (hs : s < 64) (hsn : (s : Int) < powI zs.length)
    (bI : Boxed w I 37 (.int .i64 (s : Int))) (bS : w.heap[S]? = some (.cells #[v1, F] 52 (0, 0))) (bC : Boxed w C 23 (.slice (some ⟨Z, 0, none⟩) N N)) (bV : Boxed w V 32 (.slice A m c)) (hV : Ints w w.heap.size A m ((idl zs).map fun x : Nat => (x : Int)))
    (hA : Arr w q 37 zs) (hZ : Arr w Z 3 cs) (hcl : cs.length = N) (hN : 2 ^ zs.length ≤ N) (hcb : ∀ t : Nat, 0 ≤ cs[t]?.getD 0 ∧ cs[t]?.getD 0 ≤ 1000000000) (hm : m ≤ 64) (hm0 : 0 < m) :
    Calls Tryd.prog 42 #[.func (.func 52) #[] #[.pointer (some ⟨V, 0, none⟩)], .func (.func 44) #[] #[.pointer (some ⟨I, 0, none⟩), .pointer (some ⟨S, 0, none⟩), .pointer (some ⟨C, 0, none⟩)]] w
      fun e W' => e = .returned (.int .i64 (lsum (fun t => if inB' ms s t then cs[t]?.getD 0 else 0) (idl zs))) ∧ Below w.heap.size w W' := by
  have hSl := (Array.getElem?_eq_some_iff.1 bS).1
  have hgb : ∀ t : Nat, 0 ≤ (if inB' ms s t then cs[t]?.getD 0 else 0) ∧ (if inB' ms s t then cs[t]?.getD 0 else 0) ≤ 1000000000 := fun t => by
    have := hcb t
    split <;> omega
  refine (sumOverS_any (gf := 52) (vf := 44) #[.pointer (some ⟨V, 0, none⟩)] #[.pointer (some ⟨I, 0, none⟩), .pointer (some ⟨S, 0, none⟩), .pointer (some ⟨C, 0, none⟩)] (idl zs) (fun t => if inB' ms s t then cs[t]?.getD 0 else 0) w (fun _ => False) (fun i e => e.elim) (fun _ _ => True)
    (enters_of Tryd.func52 (by kernel_rfl) rfl) (enters_of Tryd.func44 (by kernel_rfl) rfl)
    (oneMore_small hn6 hgb)
    (fun W1 M' hu1 hM' _ => ?_)
    (fun pre x W hp hi hu => ?_)
    (fun pre X Y hi hz hu => trivial)
    trivial).mono ?_
  · exact values_iter A m c (idl zs) V M' W1 (hu1.boxed bV (fun e => e)) (fun e => (hM' V e).elim (fun e => e) (fun e => by have := bV.lt; omega)) (hV.to (hu1.toBelow (B := w.heap.size) (fun _ e => e.elim) (Nat.le_refl _)) (Nat.le_refl _) hu1.size) (fun a ha e => (hM' _ e).elim (fun e => e) (fun e => by
      obtain ⟨b, off, rfl, hb, -⟩ := hV.2 hm0
      cases ha
      exact absurd hb (Nat.not_lt.2 e))) hm
  · have hx : x ∈ idl zs := hp.subset (by simp)
    have hx2 := (mem_idl.1 hx).1
    have h64 : 2 ^ zs.length ≤ 2 ^ 6 := Nat.pow_le_pow_right (by decide) hn6
    refine (more1_any zs q n F ms hF I S C Z s x N v1 cs W hs hsn (by omega) (hu.boxed bI (fun e => e)) ((hu.block S hSl (fun e => e)).trans bS) (hu.boxed bC (fun e => e)) (hA.upd hu (fun e => e)) (hZ.upd hu (fun e => e)) hcl (by omega)).mono fun e W' h => ⟨h.1, trivial, (Upd.refl _ W).below h.2 (fun k h1 h2 => by omega)⟩
  · rintro e W' ⟨rfl, -, hU⟩
    exact ⟨rfl, hU.toBelow (fun _ e => e.elim) (Nat.le_refl _)⟩
end Go.Proofs.YtcadmjpkgnbodaaDoor

/- Numberings: withOneMore whole. -/
namespace Go.Proofs.YtcadmjpkgnbodaaDoor
open Go.RowKit Go.Shelf
attribute [local go_sem] Oper.semAt_some
attribute [local go_sem, local simp] wide_fn

/-- The row under way: the first k sets have their number. -/
def rowMore (g : Nat → Int) (L : List Nat) (N k : Nat) : List Int := (List.range N).map fun s => if s ∈ L.take k then g s else 0
theorem rowMore_zero (g : Nat → Int) (L : List Nat) (N : Nat) : rowMore g L N 0 = List.replicate N 0 := by
  apply List.ext_getElem <;> simp [rowMore]
theorem rowMore_len (g : Nat → Int) (L : List Nat) (N k : Nat) : (rowMore g L N k).length = N := by simp [rowMore]
theorem rowMore_succ (g : Nat → Int) (L : List Nat) (N k : Nat) (hk : k < L.length) : (rowMore g L N k).set (L[k]?.getD 0) (g (L[k]?.getD 0)) = rowMore g L N (k + 1) := by
  obtain ⟨e, -⟩ := take_step hk
  apply List.ext_getElem
  · simp [rowMore]
  · intro i h1 h2
    rw [List.getElem_set]
    simp only [rowMore, List.getElem_map, List.getElem_range, e, List.mem_append, List.mem_singleton]
    by_cases hi : L[k]?.getD 0 = i
    · simp [hi]
    · have hi' : ¬ i = L[k]?.getD 0 := fun e => hi e.symm
      simp [hi, hi']
theorem rowMore_full (g : Nat → Int) (L : List Nat) (N : Nat) {k : Nat} (hk : k = L.length) : rowMore g L N k = (List.range N).map fun s => if s ∈ L then g s else 0 := by
  subst hk; simp [rowMore]

set_option maxRecDepth 100000 in
set_option maxHeartbeats 8000000 in
theorem nmore_any (zs : List Int) (q n : Nat) (F : Value) (ms : Int → Bool) (hF : Shares F zs q ms) (hn6 : zs.length ≤ 6) (Z N m c : Nat) (A : Option Addr) (cs : List Int) (w : World)
    (hV : Ints w w.heap.size A m ((idl zs).map fun x : Nat => (x : Int))) (hA : Arr w q 37 zs) (hZ : Arr w Z 3 cs) (hcl0 : cs.length = N) (hN : 2 ^ zs.length ≤ N) (hN64 : N ≤ 64) (hcb : ∀ t : Nat, 0 ≤ cs[t]?.getD 0 ∧ cs[t]?.getD 0 ≤ 1000000000) (hm : m ≤ 64) (hm0 : 0 < m) :
    Calls Tryd.prog 28 #[.agg #[.slice A m c, F], .slice (some ⟨Z, 0, none⟩) N N] w fun e W' => ∃ Z', e = .returned (.slice (some ⟨Z', 0, none⟩) N N) ∧ w.heap.size ≤ Z' ∧
      Arr W' Z' 3 ((List.range N).map fun s => if s ∈ idl zs then lsum (fun t => if inB' ms s t then cs[t]?.getD 0 else 0) (idl zs) else 0) ∧ Below w.heap.size w W' := by
  have hmk := run_make_row' (P := Tryd.prog) 23 3 (.int .i64 0) 8 Tryd.underlying23 infoInt rfl .i64 .i64 N (by omega) (by omega)
  obtain ⟨f, bs, hFe, -, -⟩ := id hF
  subst hFe
  obtain ⟨bA, off, rfl, hbA, hcsA⟩ := hV.2 hm0
  have hVl := hV.1
  have Hil := Lib.hid (show (idl zs).length = m by simpa using hVl)
  have Hcl := Lib.hid hcl0
  clear hVl hcl0
  have hZw := hZ.lt
  have hqw := hA.lt
  have HN := Lib.hid (show ∀ s, s ∈ idl zs → s < N ∧ (s : Int) < powI zs.length from fun s hs => by
    have := (mem_idl.1 hs).1
    exact ⟨by omega, by rw [show powI (zs.length : Int) = ((2 ^ zs.length : Nat) : Int) by simp [powI]]; exact Int.ofNat_lt.2 this⟩)
  have HN2 := Lib.hid hN
  clear hN
  go_enter Tryd.func28, Tryd.ntmps28
  go_wp2
  have bS1 := heap_alloc_new w (.cells #[Value.slice (some ⟨bA, off, none⟩) m c, .func (.func f) bs #[]] 52)
  have hz1 : (w.alloc (.cells #[Value.slice (some ⟨bA, off, none⟩) m c, .func (.func f) bs #[]] 52)).heap.size = w.heap.size + 1 := by simp
  have hu1 : Upd (fun _ => False) w (w.alloc (.cells #[Value.slice (some ⟨bA, off, none⟩) m c, .func (.func f) bs #[]] 52)) := (Upd.refl _ w).alloc _
  obtain ⟨W1, hW1⟩ : ∃ W1, w.alloc (.cells #[Value.slice (some ⟨bA, off, none⟩) m c, .func (.func f) bs #[]] 52) = W1 := ⟨_, rfl⟩
  rw [hW1] at bS1 hz1 hu1 ⊢
  clear hW1
  have bC2 := Boxed.new W1 23 (.slice (some ⟨Z, 0, none⟩) N N)
  have hz2 : (W1.alloc (.cells #[Value.slice (some ⟨Z, 0, none⟩) N N] 23)).heap.size = W1.heap.size + 1 := by simp
  have hu2 : Upd (fun _ => False) W1 (W1.alloc (.cells #[Value.slice (some ⟨Z, 0, none⟩) N N] 23)) := (Upd.refl _ W1).alloc _
  obtain ⟨W2, hW2⟩ : ∃ W2, W1.alloc (.cells #[Value.slice (some ⟨Z, 0, none⟩) N N] 23) = W2 := ⟨_, rfl⟩
  rw [hW2] at bC2 hz2 hu2 ⊢
  clear hW2
  have aZ3 := Arr.new W2 3 N
  have hz3 : (W2.alloc (.cells (madeCells #[.int .i64 0] N) 3)).heap.size = W2.heap.size + 1 := by simp
  have hu3 : Upd (fun _ => False) W2 (W2.alloc (.cells (madeCells #[.int .i64 0] N) 3)) := (Upd.refl _ W2).alloc _
  obtain ⟨W3, hW3⟩ : ∃ W3, W2.alloc (.cells (madeCells #[.int .i64 0] N) 3) = W3 := ⟨_, rfl⟩
  rw [hW3] at aZ3 hz3 hu3 ⊢
  clear hW3 hmk
  have hU3 := (hu1.trans' hu2 (fun i hi e => e)).trans' hu3 (fun i hi e => e)
  have bS3 := ((hu2.trans' hu3 (fun i hi e => e)).block w.heap.size (by omega) (fun e => e)).trans bS1
  have bC3 := hu3.boxed bC2 (fun e => e)
  have hA3 := hA.upd hU3 (fun e => e)
  have hZ3 := hZ.upd hU3 (fun e => e)
  have hV3 : Ints W3 w.heap.size (some ⟨bA, off, none⟩) m ((idl zs).map fun x : Nat => (x : Int)) := hV.below (hU3.toBelow (fun _ e => e.elim) (Nat.le_refl _))
  rw [show W1.heap.size = w.heap.size + 1 from hz1] at bC3
  rw [show W2.heap.size = w.heap.size + 1 + 1 by omega] at aZ3
  obtain ⟨G, hG⟩ : ∃ G : Nat → Int, G = fun s => lsum (fun t => if inB' ms s t then cs[t]?.getD 0 else 0) (idl zs) := ⟨_, rfl⟩
  have HG := Lib.hid (show ∀ s, lsum (fun t => if inB' ms s t then cs[t]?.getD 0 else 0) (idl zs) = G s from fun s => by rw [hG])
  clear hG
  have hZl : Z < w.heap.size := hZw
  have hql : q < w.heap.size := hqw
  clear bS1 bC2 hu1 hu2 hu3 hA hZ hV hcsA
  go_loopw [14] (fun i wr => ∃ k : Nat, k ≤ m ∧ i = .int .i64 k ∧ Arr wr (w.heap.size + 1 + 1) 3 (rowMore G (idl zs) N k) ∧ Upd (fun i => i = w.heap.size + 1 + 1) W3 wr) (fun i _ => m - (intOf i).toNat)
  case atStart => exact ⟨0, by omega, rfl, by rw [rowMore_zero]; exact aZ3, Upd.refl _ _⟩
  case round =>
    obtain ⟨k, hk, rfl, hR, hU⟩ := hrel
    have hsr := hU.size
    by_cases hlt : k < m
    · have hVr : Ints wr w.heap.size (some ⟨bA, off, none⟩) m ((idl zs).map fun x : Nat => (x : Int)) := hV3.below (hU.toBelow (B := w.heap.size) (fun j e => by omega) (by omega))
      obtain ⟨b', off', e', -, hcr⟩ := hVr.2 hm0
      cases e'
      have hck := hcr k hlt
      clear hcr
      obtain ⟨s, hs⟩ : ∃ s : Nat, (idl zs)[k]?.getD 0 = s := ⟨_, rfl⟩
      have hsm : s ∈ idl zs := by rw [← hs, List.getElem?_eq_getElem (by rw [Hil.out]; exact hlt)]; exact List.getElem_mem _
      have hse : ((idl zs).map fun x : Nat => (x : Int))[k]?.getD 0 = (s : Int) := by rw [← hs]; simp [List.getElem?_map, List.getElem?_eq_getElem (show k < (idl zs).length by rw [Hil.out]; exact hlt)]
      rw [hse] at hck
      have Hrs := Lib.hid (show (rowMore G (idl zs) N k).set s (G s) = rowMore G (idl zs) N (k + 1) by rw [← hs]; exact rowMore_succ G (idl zs) N k (by rw [Hil.out]; exact hlt))
      clear hse hs
      obtain ⟨hsN, hsp⟩ := HN.out s hsm
      clear hsm
      go_wp2
      have bI := Boxed.new wr 37 (.int .i64 (s : Int))
      have hui : Upd (fun _ => False) wr (wr.alloc (.cells #[Value.int .i64 (s : Int)] 37)).drew := ((Upd.refl _ wr).alloc _).drew
      have bId : Boxed (wr.alloc (.cells #[Value.int .i64 (s : Int)] 37)).drew wr.heap.size 37 (.int .i64 (s : Int)) := bI
      have hzd : wr.heap.size < (wr.alloc (.cells #[Value.int .i64 (s : Int)] 37)).drew.heap.size := by show _ < (wr.alloc _).heap.size; simp
      refine region_T (S := (fun w' => w'.cell? ⟨wr.heap.size, 0, none⟩ = some (.int .i64 (s : Int)) ∧ w'.cell? ⟨w.heap.size, 0, none⟩ = some (.slice (some ⟨bA, off, none⟩) m c))) 8 (by kernel_rfl) ?_
      obtain ⟨Wd, hWd⟩ : ∃ Wd, (wr.alloc (.cells #[Value.int .i64 (s : Int)] 37)).drew = Wd := ⟨_, rfl⟩
      rw [hWd] at hui bId hzd ⊢
      clear hWd bI
      have hUd := hU.trans' hui (fun i hi e => e.elim)
      have bSd := (hUd.block w.heap.size (by omega) (fun e => by omega)).trans bS3
      have hcSd : Wd.cell? ⟨w.heap.size, 0, none⟩ = some (.slice (some ⟨bA, off, none⟩) m c) := by rw [cell_of_row _ _ 0 _ _ (0, 0) bSd]; rfl
      have hSd : (fun w' => w'.cell? ⟨wr.heap.size, 0, none⟩ = some (.int .i64 (s : Int)) ∧ w'.cell? ⟨w.heap.size, 0, none⟩ = some (.slice (some ⟨bA, off, none⟩) m c)) Wd := ⟨bId.cell, hcSd⟩
      refine anyT_take (i := 0) (oi := ?oi0a) (v := .slice (some ⟨w.heap.size + 1 + 1, 0, none⟩) N N) ?hi0a (by kernel_rfl) ?hq0a ?hy0a (by assumption) ?rest0a
      case hi0a => (simp only [List.getElem?_toArray, List.getElem?_cons_zero]; first | done | rfl)
      case hq0a => first | exact fun _ _ _ h => h | exact fun _ _ _ h => (by cases h.1)
      case hy0a => (refine Or.inl ⟨by rfl, ?_⟩; intro wz hSw; obtain ⟨hS1, hS2⟩ := hSw; go_simp; first | done | with_reducible rfl | simp | omega)
      try simp only [Act.put, List.setIfInBounds_toArray, List.set_cons_zero, List.set_cons_succ]
      refine anyT_take (i := 1) (oi := ?oi1a) (v := .int .i64 (s : Int)) ?hi1a (by kernel_rfl) ?hq1a ?hy1a (by assumption) ?rest1a
      case hi1a => (simp only [List.getElem?_toArray, List.getElem?_cons_succ, List.getElem?_cons_zero]; first | done | rfl)
      case hq1a => first | exact fun _ _ _ h => h | exact fun _ _ _ h => (by cases h.1)
      case hy1a => (refine Or.inl ⟨by rfl, ?_⟩; intro wz hSw; obtain ⟨hS1, hS2⟩ := hSw; go_simp; first | done | with_reducible rfl | simp | omega)
      try simp only [Act.put, List.setIfInBounds_toArray, List.set_cons_zero, List.set_cons_succ]
      refine anyT_take (i := 2) (oi := ?oi2a) (v := .pointer (some ⟨w.heap.size, 0, none⟩)) ?hi2a (by kernel_rfl) ?hq2a ?hy2a (by assumption) ?rest2a
      case hi2a => (simp only [List.getElem?_toArray, List.getElem?_cons_succ, List.getElem?_cons_zero]; first | done | rfl)
      case hq2a => first | exact fun _ _ _ h => h | exact fun _ _ _ h => (by cases h.1)
      case hy2a => (refine Or.inl ⟨by rfl, ?_⟩; intro wz hSw; obtain ⟨hS1, hS2⟩ := hSw; go_simp; first | done | with_reducible rfl | simp | omega)
      try simp only [Act.put, List.setIfInBounds_toArray, List.set_cons_zero, List.set_cons_succ]
      refine anyT_take (i := 3) (oi := ?oi3a) (v := .slice (some ⟨bA, off, none⟩) m c) ?hi3a (by kernel_rfl) ?hq3a ?hy3a (by assumption) ?rest3a
      case hi3a => (simp only [List.getElem?_toArray, List.getElem?_cons_succ, List.getElem?_cons_zero]; first | done | rfl)
      case hq3a => first | exact fun _ _ _ h => h | exact fun _ _ _ h => (by cases h.1)
      case hy3a => (refine Or.inl ⟨by rfl, ?_⟩; intro wz hSw; obtain ⟨hS1, hS2⟩ := hSw; go_simp; first | done | with_reducible rfl | simp | omega)
      try simp only [Act.put, List.setIfInBounds_toArray, List.set_cons_zero, List.set_cons_succ]
      refine anyT_take (i := 5) (oi := ?oi5a) (v := .func (.func 44) #[] #[.pointer (some ⟨wr.heap.size, 0, none⟩), .pointer (some ⟨w.heap.size, 0, none⟩), .pointer (some ⟨w.heap.size + 1, 0, none⟩)]) ?hi5a (by kernel_rfl) ?hq5a ?hy5a (by assumption) ?rest5a
      case hi5a => (simp only [List.getElem?_toArray, List.getElem?_cons_succ, List.getElem?_cons_zero]; first | done | rfl)
      case hq5a => first | exact fun _ _ _ h => h | exact fun _ _ _ h => (by cases h.1)
      case hy5a => (refine Or.inl ⟨by rfl, ?_⟩; intro wz hSw; obtain ⟨hS1, hS2⟩ := hSw; go_simp; first | done | with_reducible rfl | simp | omega)
      try simp only [Act.put, List.setIfInBounds_toArray, List.set_cons_zero, List.set_cons_succ]
      refine anyT_one (i := 4) (by kernel_rfl) rfl (fun K' hK => ?_)
      go_simp
      refine (values_any (some ⟨bA, off, none⟩) m c Wd).mono ?_
      rintro e w' ⟨rfl, rfl⟩
      have bV := Boxed.new Wd 32 (.slice (some ⟨bA, off, none⟩) m c)
      have hu5 := (Upd.refl (fun _ => False) Wd).alloc (.cells #[Value.slice (some ⟨bA, off, none⟩) m c] 32)
      obtain ⟨W5, hW5⟩ : ∃ W5, Wd.alloc (.cells #[Value.slice (some ⟨bA, off, none⟩) m c] 32) = W5 := ⟨_, rfl⟩
      rw [hW5] at bV hu5 ⊢
      clear hW5
      have hsz5 := hu5.size
      have hU5 := hUd.trans' hu5 (fun i hi e => e.elim)
      have bI5 := hu5.boxed bId (fun e => e)
      have bS5 := (hu5.block w.heap.size (by omega) (fun e => e)).trans bSd
      have hcS5 : W5.cell? ⟨w.heap.size, 0, none⟩ = some (.slice (some ⟨bA, off, none⟩) m c) := by rw [cell_of_row _ _ 0 _ _ (0, 0) bS5]; rfl
      have hS5 : (fun w' => w'.cell? ⟨wr.heap.size, 0, none⟩ = some (.int .i64 (s : Int)) ∧ w'.cell? ⟨w.heap.size, 0, none⟩ = some (.slice (some ⟨bA, off, none⟩) m c)) W5 := ⟨bI5.cell, hcS5⟩
      have bC5 := hU5.boxed bC3 (fun e => by omega)
      have hA5 := hA3.upd hU5 (fun e => by omega)
      have hZ5 := hZ3.upd hU5 (fun e => by omega)
      have hR5 := (hR.upd hui (fun e => e)).upd hu5 (fun e => e)
      have hV5 : Ints W5 W5.heap.size (some ⟨bA, off, none⟩) m ((idl zs).map fun x : Nat => (x : Int)) := hV3.to (hU5.toBelow (B := w.heap.size) (fun j e => by omega) (by omega)) (Nat.le_refl _) (by have := hU5.size; omega)
      refine hK.out _ _ (fun _ => hS5) ?_
      clear hK K'
      try simp only [Act.put, List.setIfInBounds_toArray, List.set_cons_zero, List.set_cons_succ]
      refine anyT_one (i := 6) (by kernel_rfl) rfl (fun K' hK => ?_)
      go_simp
      have hns := nsum_any zs q n (.func (.func f) bs #[]) ms hF hn6 wr.heap.size w.heap.size (w.heap.size + 1) Z Wd.heap.size s N m c (some ⟨bA, off, none⟩) _ cs W5 (by omega) hsp bI5 bS5 bC5 bV hV5 hA5 hZ5 Hcl.out HN2.out hcb hm hm0
      rw [HG.out] at hns
      refine hns.mono ?_
      clear hns
      rintro e w6 ⟨rfl, hB6⟩
      have hu6 := (Upd.refl (fun _ => False) W5).below hB6 (fun j h1 h2 => by omega)
      have hU6 := hU5.trans' hu6 (fun i hi e => e.elim)
      have bS6 := (hu6.block w.heap.size (by omega) (fun e => e)).trans bS5
      have hcS6 : w6.cell? ⟨w.heap.size, 0, none⟩ = some (.slice (some ⟨bA, off, none⟩) m c) := by rw [cell_of_row _ _ 0 _ _ (0, 0) bS6]; rfl
      have hS6 : (fun w' => w'.cell? ⟨wr.heap.size, 0, none⟩ = some (.int .i64 (s : Int)) ∧ w'.cell? ⟨w.heap.size, 0, none⟩ = some (.slice (some ⟨bA, off, none⟩) m c)) w6 := ⟨(hu6.boxed bI5 (fun e => e)).cell, hcS6⟩
      have hR6 := hR5.upd hu6 (fun e => e)
      have hcs := hR6.cell (k := s) (by rw [rowMore_len]; exact hsN)
      have hfs := hR6.frozen s
      refine hK.out _ _ (fun _ => hS6) ?_
      clear hK K'
      try simp only [Act.put, List.setIfInBounds_toArray, List.set_cons_zero, List.set_cons_succ]
      refine anyT_one (i := 7) (by kernel_rfl) rfl (fun K' hK => ?_)
      go_simp
      refine hK.out _ _ (fun _ => hS6) ?_
      clear hK K'
      try simp only [Act.put, List.setIfInBounds_toArray, List.set_cons_zero, List.set_cons_succ]
      refine anyT_one (i := 8) (by kernel_rfl) rfl (fun K' hK => ?_)
      go_simp
      refine hK.out _ _ (fun h => absurd rfl h) ?_
      clear hK K'
      try simp only [Act.put, List.setIfInBounds_toArray, List.set_cons_zero, List.set_cons_succ]
      refine anyT_done (by kernel_rfl) ?_ _
      go_wp2
      go_roundw
      case rel => exact ⟨k + 1, by omega, by go_num, by rw [← Hrs.out]; exact hR6.set _ _, hU6.setCell (p := ⟨w.heap.size + 1 + 1, s, none⟩) (.inr rfl) _⟩
      case measure => simp [intOf]; omega
    · obtain rfl : k = m := by omega
      go_wp2
      go_ret
      exact ⟨_, rfl, by omega, by simp only [HG.out]; rw [← rowMore_full _ _ _ Hil.out.symm]; exact hR, (hU3.trans' hU (fun i hi e => by omega)).toBelow (R := fun _ => False) (fun _ e => e.elim) (Nat.le_refl _)⟩
end Go.Proofs.YtcadmjpkgnbodaaDoor

/- Numberings: the program's counts, number by number. -/
namespace Go.Proofs.YtcadmjpkgnbodaaDoor
open Go.RowKit Go.Shelf

def cntL (ms : Int → Bool) (zs : List Int) (k : Nat) : List Int := (List.range (2 ^ zs.length)).map fun s => if s ∈ idl zs then (pN ms zs k s : Int) else 0
theorem cntL_len (ms : Int → Bool) (zs : List Int) (k : Nat) : (cntL ms zs k).length = 2 ^ zs.length := by simp [cntL]
theorem cntL_at (ms : Int → Bool) (zs : List Int) (k : Nat) {s : Nat} (h : s ∈ idl zs) : (cntL ms zs k)[s]?.getD 0 = (pN ms zs k s : Int) := by
  have hs := (mem_idl.1 h).1
  simp [cntL, List.getElem?_map, List.getElem?_range hs, h]
theorem nsum_le {α : Type} (f : α → Nat) (B : Nat) (hf : ∀ x, f x ≤ B) : ∀ l : List α, (l.map f).sum ≤ l.length * B
  | [] => by simp
  | x :: l => by
    have h1 := nsum_le f B hf l
    have h2 := hf x
    simp only [List.map_cons, List.sum_cons, List.length_cons, Nat.add_mul, Nat.one_mul]
    omega
theorem idl_len_le {zs : List Int} (hn6 : zs.length ≤ 6) : (idl zs).length ≤ 64 := by
  have h3 : (idl zs).length ≤ 2 ^ zs.length := by
    unfold idl
    have := List.length_filter_le (fun j : Nat => idB zs (j : Int)) (List.range (2 ^ zs.length))
    simpa using this
  have h4 : 2 ^ zs.length ≤ 2 ^ 6 := Nat.pow_le_pow_right (by decide) hn6
  omega
theorem pN_le {ms : Int → Bool} {zs : List Int} (hn6 : zs.length ≤ 6) : ∀ k s : Nat, pN ms zs k s ≤ 64 ^ k
  | 0, s => by rw [pN]; split <;> simp
  | k + 1, s => by
    rw [pN]
    have h1 := nsum_le (fun t => if inB' ms s t then pN ms zs k t else 0) (64 ^ k) (fun t => by
      have := pN_le (ms := ms) hn6 k t
      show (if inB' ms s t then pN ms zs k t else 0) ≤ 64 ^ k
      split <;> omega) (idl zs)
    have h2 := Nat.mul_le_mul_right (64 ^ k) (idl_len_le hn6)
    rw [Nat.pow_succ]
    omega
theorem pN_small {ms : Int → Bool} {zs : List Int} (hn6 : zs.length ≤ 6) {k : Nat} (hk : k ≤ 4) (s : Nat) : pN ms zs k s ≤ 1000000000 :=
  Nat.le_trans (pN_le hn6 k s) (Nat.le_trans (Nat.pow_le_pow_right (by decide) hk) (by decide))
theorem cntL_bd {ms : Int → Bool} {zs : List Int} (hn6 : zs.length ≤ 6) {k : Nat} (hk : k ≤ 4) (t : Nat) : 0 ≤ (cntL ms zs k)[t]?.getD 0 ∧ (cntL ms zs k)[t]?.getD 0 ≤ 1000000000 := by
  rcases Nat.lt_or_ge t (2 ^ zs.length) with h | h
  · have hp := pN_small (ms := ms) hn6 hk t
    have e : (cntL ms zs k)[t]?.getD 0 = if t ∈ idl zs then (pN ms zs k t : Int) else 0 := by simp [cntL, List.getElem?_map, List.getElem?_range h]
    rw [e]
    split <;> omega
  · rw [List.getElem?_eq_none (by rw [cntL_len]; exact h)]
    decide
theorem lsum_cast (f : Nat → Nat) (g : Nat → Int) : ∀ l : List Nat, (∀ x ∈ l, g x = (f x : Int)) → lsum g l = ((l.map f).sum : Nat)
  | [], _ => rfl
  | x :: l, h => by
    rw [lsum_cons, lsum_cast f g l (fun y hy => h y (List.mem_cons_of_mem _ hy)), h x List.mem_cons_self, List.map_cons, List.sum_cons]
    omega
/-- One number more. -/
theorem cntL_more (ms : Int → Bool) (zs : List Int) (k : Nat) : ((List.range (2 ^ zs.length)).map fun s => if s ∈ idl zs then lsum (fun t => if inB' ms s t then (cntL ms zs k)[t]?.getD 0 else 0) (idl zs) else 0) = cntL ms zs (k + 1) := by
  unfold cntL
  refine List.map_congr_left fun s _ => ?_
  split
  · rw [pN]
    refine lsum_cast _ _ _ fun t ht => ?_
    have := cntL_at ms zs k ht
    unfold cntL at this
    rw [this]
    split <;> rfl
  · rfl
theorem cntL_zero {ms : Int → Bool} {zs : List Int} (h0 : 0 ∈ idl zs) : cntL ms zs 0 = (List.replicate (2 ^ zs.length) 0).set 0 1 := by
  apply List.ext_getElem
  · simp [cntL]
  · intro i h1 h2
    rw [List.getElem_set]
    simp only [cntL, List.getElem_map, List.getElem_range, List.getElem_replicate, pN]
    by_cases hi : 0 = i
    · subst hi; simp [h0]
    · have hi' : ¬ i = 0 := fun e => hi e.symm
      simp [hi, hi']
end Go.Proofs.YtcadmjpkgnbodaaDoor

/- Numberings: countNumberings. -/
namespace Go.Proofs.YtcadmjpkgnbodaaDoor
open Go.RowKit Go.Shelf
attribute [local go_sem] Oper.semAt_some
attribute [local go_sem, local simp] wide_fn




theorem store_fun (P : Program) (w : World) (a : Addr) (f : Fn) (bs cs : Array Value) (m : Mode) : (store a (.func f bs cs) m).run P w = stored P w a (.func f bs cs) m := run_store P w a _ m rfl
attribute [local go_sem] store_fun

/-- In how many ways all items are numbered, for the first k numbers. -/
def totL (ms : Int → Bool) (zs : List Int) (k : Nat) : List Int := (List.range k).map fun j => (pN ms zs j (2 ^ zs.length - 1) : Int)
theorem totL_succ (ms : Int → Bool) (zs : List Int) (k : Nat) : totL ms zs (k + 1) = totL ms zs k ++ [(pN ms zs k (2 ^ zs.length - 1) : Int)] := by unfold totL; rw [List.range_succ, List.map_append]; rfl
theorem totL_len (ms : Int → Bool) (zs : List Int) (k : Nat) : (totL ms zs k).length = k := by simp [totL]
theorem own_lit (w : World) (e : TypeId) (u : Value) : (w.alloc (.cells #[u] e)).ownsRow w.heap.size e 1 (.slice (some ⟨w.heap.size, 0, none⟩) 1 1) 1 [u] :=
  ⟨rfl, .inr ⟨w.heap.size, 1, #[u], rfl, Nat.le_refl _, by show (w.heap.push _)[w.heap.size]? = _; simp, Nat.le_refl _, by simp [maxLen], rfl, rfl⟩⟩
theorem all_idl {zs : List Int} (h : VoP zs) : 2 ^ zs.length - 1 ∈ idl zs := by
  have hp : 0 < (2 : Nat) ^ zs.length := Nat.pow_pos (by decide)
  have hlt : 2 ^ zs.length - 1 < 2 ^ zs.length := by omega
  refine mem_idl.2 ⟨hlt, (idN_iff h hlt).2 fun a b _ hab => ?_⟩
  rw [Nat.testBit_two_pow_sub_one]
  exact decide_eq_true (upw_lt.1 hab).1
theorem zero_idl {zs : List Int} (h : VoP zs) : 0 ∈ idl zs := by
  have hp : 0 < (2 : Nat) ^ zs.length := Nat.pow_pos (by decide)
  exact mem_idl.2 ⟨hp, (idN_iff h hp).2 fun a b hb _ => by simp at hb⟩
theorem sets_idl (zs : List Int) : setsTo (idB zs) (2 ^ zs.length) = (idl zs).map fun x : Nat => (x : Int) := by
  first | rfl | (unfold setsTo idl; rfl) | (unfold setsTo idl; simp [List.filter_map]; rfl)

set_option maxRecDepth 100000 in
set_option maxHeartbeats 8000000 in
theorem numberings_any (zs : List Int) (q n : Nat) (F : Value) (ms : Int → Bool) (hF : Shares F zs q ms) (hvo : VoP zs) (hlen0 : zs.length = n) (w : World) (hA : Arr w q 37 zs) :
    Calls Tryd.prog 13 #[.slice (some ⟨q, 0, none⟩) n n, F] w fun e W' => ∃ v, e = .returned v ∧ OwnS (fun k => w.heap.size ≤ k) W' w.heap.size 3 v (totL ms zs 5) ∧ Below w.heap.size w W' := by
  have hn6 : zs.length ≤ 6 := hvo.1
  obtain ⟨i0, hi0, hz0i, hz1i, hz2i⟩ := info_parts infoInt
  obtain ⟨f, bs, hFe, -, -⟩ := id hF
  subst hFe
  have Hlen := Lib.hid hlen0
  have hall := fun w => oall_any (some ⟨q, 0, none⟩) n n w (by omega)
  have hid := oideals_any (some ⟨q, 0, none⟩) n n zs hvo w (hA.ints' hA.lt hlen0)
  obtain ⟨N, hN⟩ : ∃ N : Nat, N = 2 ^ n := ⟨_, rfl⟩
  have hNp : powI n = (N : Int) := by rw [hN]; simp [powI]
  have hN64 : N ≤ 64 := by
    have : 2 ^ n ≤ 2 ^ 6 := Nat.pow_le_pow_right (by decide) (by omega)
    omega
  have hN0 : 0 < N := by rw [hN]; exact Nat.pow_pos (by decide)
  rw [hNp] at hall
  rw [← hN] at hid
  have hsi : setsTo (idB zs) N = (idl zs).map fun x : Nat => (x : Int) := by rw [hN, ← hlen0]; exact sets_idl zs
  rw [hsi] at hid
  have hNz : 2 ^ zs.length = N := by rw [hN, ← hlen0]
  have Hal := Lib.hid (all_idl hvo)
  have Hc0 := Lib.hid (cntL_zero (ms := ms) (zero_idl hvo))
  have HcN := Lib.hid (fun k => (cntL_len ms zs k).trans hNz)
  have Htop := Lib.hid (fun k => cntL_at ms zs k Hal.out)
  have Hmore := Lib.hid (fun k => cntL_more ms zs k)
  have Hts := Lib.hid (fun k => totL_succ ms zs k)
  rw [hNz] at Hal Hc0 Htop Hmore Hts
  have Hnz := Lib.hid hNz
  clear hNz hsi
  have HN := Lib.hid hN
  clear hN hNp hlen0
  have hmk := run_make_row' (P := Tryd.prog) 23 3 (.int .i64 0) 8 Tryd.underlying23 infoInt rfl .i64 .i64 N (by omega) (by omega)
  have hwr : wrap64 ((N : Int) - 1 + 1) = (N : Int) := (IntWalk.wrap64_in _ ⟨by omega, by omega⟩).trans (by omega)
  obtain ⟨y, hy⟩ : ∃ y : Int, y = ((List.replicate N (0 : Int)).set 0 1)[N - 1]?.getD 0 := ⟨_, rfl⟩
  have Hset := Lib.hid (show (madeCells #[Value.int .i64 0] N).setIfInBounds 0 (Value.int .i64 1) = (((List.replicate N (0 : Int)).set 0 1).map (Value.int .i64)).toArray by
      apply Array.ext
      · simp [madeCells]
      · intro i h1 h2
        simp only [Array.getElem_setIfInBounds, List.getElem_toArray, List.getElem_map, List.getElem_set, List.getElem_replicate]
        by_cases hi : 0 = i
        · simp [hi]
        · rw [Array.getElem_setIfInBounds_ne (by simpa [madeCells] using h1) hi]
          simp [hi, madeCells, Nat.mod_one])
  have hel : ((madeCells #[Value.int .i64 0] N).setIfInBounds 0 (Value.int .i64 1))[N - 1]? = some (.int .i64 y) := by
    rw [Hset.out, hy]
    rw [List.getElem?_toArray, List.getElem?_map, List.getElem?_eq_getElem (by simp; omega)]
    rfl
  have hel0 : (madeCells #[Value.int .i64 0] N)[0]? = some (.int .i64 0) := by
    rw [Array.getElem?_eq_getElem (by simp [madeCells]; omega)]
    simp [madeCells]
  have Hy := Lib.hid hy
  clear hy
  go_enter Tryd.func13, Tryd.ntmps13
  go_wp2_with fail
  refine hid.mono ?_
  rintro e w1 ⟨A', m, c', rfl, hI, hB1⟩
  go_wp2_with (go_at_call 18; refine (hall _).mono ?_; rintro e w' ⟨rfl, rfl⟩)
  have hm64 : m ≤ 64 := by
    have h1 := hI.len
    rw [List.length_map] at h1
    rw [← h1]; exact idl_len_le hn6
  have hm0 : 0 < m := by
    have h1 := hI.len
    rw [List.length_map] at h1
    rw [← h1]; exact List.length_pos_of_mem Hal.out
  have z1 := hB1.size
  have hbox : ((w1.alloc (.cells #[Value.slice A' m c', .func (.func f) bs #[]] 52)).alloc (.cells ((madeCells #[Value.int .i64 0] N).setIfInBounds 0 (.int .i64 1)) 3)).heap[w1.heap.size]? = some (.cells #[Value.slice A' m c', .func (.func f) bs #[]] 52 (0, 0)) :=
    (Below.heap_alloc _ _ _ (by simp)).trans (heap_alloc_new w1 _)
  have hcn := heap_alloc_new (w1.alloc (.cells #[Value.slice A' m c', .func (.func f) bs #[]] 52)) (.cells ((madeCells #[Value.int .i64 0] N).setIfInBounds 0 (.int .i64 1)) 3)
  rw [World.size_alloc] at hcn
  have hU0 : Upd (fun _ => False) w1 ((w1.alloc (.cells #[Value.slice A' m c', .func (.func f) bs #[]] 52)).alloc (.cells ((madeCells #[Value.int .i64 0] N).setIfInBounds 0 (.int .i64 1)) 3)) := ((Upd.refl _ w1).alloc _).alloc _
  have hz0 : ((w1.alloc (.cells #[Value.slice A' m c', .func (.func f) bs #[]] 52)).alloc (.cells ((madeCells #[Value.int .i64 0] N).setIfInBounds 0 (.int .i64 1)) 3)).heap.size = w1.heap.size + 2 := by simp
  have e2 : w1.heap.size + 1 + 1 = ((w1.alloc (.cells #[Value.slice A' m c', .func (.func f) bs #[]] 52)).alloc (.cells ((madeCells #[Value.int .i64 0] N).setIfInBounds 0 (.int .i64 1)) 3)).heap.size := by simp
  rw [e2]
  clear e2
  have hcnt : ((madeCells #[Value.int .i64 0] N).setIfInBounds 0 (.int .i64 1)) = ((cntL ms zs 0).map (Value.int .i64)).toArray := by rw [Hc0.out]; exact Hset.out
  obtain ⟨W0, hW0⟩ : ∃ W0, (w1.alloc (.cells #[Value.slice A' m c', .func (.func f) bs #[]] 52)).alloc (.cells ((madeCells #[Value.int .i64 0] N).setIfInBounds 0 (.int .i64 1)) 3) = W0 := ⟨_, rfl⟩
  rw [hW0] at hbox hcn hU0 hz0 ⊢
  rw [hcnt] at hcn
  have hAr0 : Arr W0 (w1.heap.size + 1) 3 (cntL ms zs 0) := hcn
  clear hW0 hcnt hcn hel hel0 hmk
  have hOl := own_lit W0 3 (.int .i64 y)
  have hy0 := Lib.hid (show y = (pN ms zs 0 (N - 1) : Int) by rw [Hy.out, ← Htop.out, Hc0.out])
  have HU0 := Lib.hid hU0
  have hU1 : Upd (fun _ => False) W0 (W0.alloc (.cells #[Value.int .i64 y] 3)) := (Upd.refl _ W0).alloc _
  have hAr1 := hAr0.alloc (.cells #[Value.int .i64 y] 3)
  have hz1 : W0.heap.size < (W0.alloc (.cells #[Value.int .i64 y] 3)).heap.size := by simp
  obtain ⟨W1, hW1⟩ : ∃ W1, W0.alloc (.cells #[Value.int .i64 y] 3) = W1 := ⟨_, rfl⟩
  rw [hW1] at hOl hU1 hAr1 hz1 ⊢
  clear hW1 hAr0 hU0
  obtain ⟨hz0a, hz0b⟩ : w1.heap.size + 2 ≤ W0.heap.size ∧ W0.heap.size ≤ w1.heap.size + 2 := by omega
  clear hz0
  go_loopw [6, 7, 24] (fun cv tv i wr => ∃ k Z : Nat, k ≤ 4 ∧ i = .int .i64 k ∧ cv = .slice (some ⟨Z, 0, none⟩) N N ∧ w1.heap.size < Z ∧ Arr wr Z 3 (cntL ms zs k) ∧ (OwnS (fun j => W0.heap.size ≤ j) wr W0.heap.size 3 tv (totL ms zs (k + 1)) ∧ ∀ j, tv.ownBlock = some j → j ≠ Z) ∧ Upd (fun _ => False) W0 wr ∧ W0.heap.size < wr.heap.size) (fun _ _ i _ => 4 - (intOf i).toNat)
  case atStart => exact ⟨0, w1.heap.size + 1, by omega, rfl, rfl, by omega, hAr1, ⟨⟨fun j hj => by simp [Value.ownBlock] at hj; omega, by rw [totL_succ, Hnz.out, ← hy0.out]; exact hOl⟩, fun j hj => by simp [Value.ownBlock] at hj; omega⟩, hU1, hz1⟩
  case round =>
    clear hU1 hAr1 hOl
    obtain ⟨k, Z, hk, rfl, rfl, hZ1, hAr, ⟨hO, hne⟩, hU, hz⟩ := hrel
    rename World => wx
    have hB0x : Below W0.heap.size W0 wx := hU.toBelow (fun _ e => e.elim) (Nat.le_refl _)
    have hB1x : Below w1.heap.size w1 wx := (HU0.out.toBelow (fun _ e => e.elim) (Nat.le_refl _)).trans (hB0x.mono (by omega))
    by_cases hlt : k < 4
    · have hboxr := (hB0x.block w1.heap.size (by omega)).trans hbox
      have hVx : Ints wx wx.heap.size A' m ((idl zs).map fun x : Nat => (x : Int)) := (hI.below hB1x).more (by omega)
      have hAq := (hA.below hB1 hA.lt).below hB1x (by have := hA.lt; omega)
      have hlt2 : decide ((k : Int) < 4) = true := decide_eq_true (by omega)
      go_wp2_with (refine wpList_load_row rfl _ _ rfl w1.heap.size rfl _ _ (0, 0) _ hboxr Tryd.underlying52 rfl (by kernel_rfl) ?_)
      refine (nmore_any zs q n (.func (.func f) bs #[]) ms hF hn6 Z N m c' A' (cntL ms zs k) wx hVx hAq hAr (HcN.out k) (Nat.le_of_eq Hnz.out) hN64 (cntL_bd hn6 (by omega)) hm64 hm0).mono ?_
      rintro e w2 ⟨Z', rfl, hZ', hAr2, hB2⟩
      rw [Hmore.out k] at hAr2
      have z2 := hB2.size
      have hZl := hAr2.lt
      have hcN := hAr2.cell (k := N - 1) (by rw [HcN.out]; omega)
      rw [Htop.out] at hcN
      have hbelow := own_lt' hO.2
      have hO2 : OwnS (fun j => W0.heap.size ≤ j ∧ j < wx.heap.size) w2 W0.heap.size 3 _ (totL ms zs (k + 1)) := OwnS.keep (S := fun j => W0.heap.size ≤ j ∧ j < wx.heap.size) ⟨fun j hj => ⟨hO.1 j hj, hbelow j hj⟩, hO.2⟩ (R := fun j => wx.heap.size ≤ j) (Below.toUpd hB2) (fun j hj e => by omega)
      have Htl := Lib.hid (totL_len ms zs (k + 1))
      have Htk := Lib.hid (Hts.out (k + 1))
      have hU2 : Upd (fun _ => False) W0 w2 := hU.below hB2 (fun k h1 h2 => by omega)
      generalize (pN ms zs (k + 1) (N - 1) : Int) = p at *
      clear hVx hAq hAr hboxr hO
      go_wp2_with (first
        | (go_at_call 18; with_reducible refine (hall _).mono ?_; rintro e w' ⟨rfl, rfl⟩)
        | (at_builtin; refine wpList_append1 _ rfl (.tmp 29) (.tmp 35) _ rfl W0.heap.size 3 i0 _ 8 Tryd.underlying23 hi0 hz0i hz1i hz2i rfl _ (totL ms zs (k + 1)).length _ rfl (hO2.2.alloc _) w2.heap.size 1 (.int .i64 p) rfl (cell_new _ _ _) rfl (by rw [Htl.out]; omega) (by rw [Htl.out]; omega) (by simp; omega) ?_; rintro v' w' hown' hg' hv'))
      have zg := hg'.size
      simp at zg
      have hArw : Arr w' Z' 3 (cntL ms zs (k + 1)) := (hg'.block Z' (by simp; omega) (fun e => by have := hO2.1 Z' e.symm; omega)).trans (hAr2.alloc _)
      go_roundw
      case rel => exact ⟨k + 1, Z', by omega, by go_num, rfl, by omega, hArw, ⟨by rw [Htk.out]; exact hO2.step hown' hv' (fun j hj => hj.1) (fun _ => by omega), fun j hj e => by
        rcases hv' with h1 | h1
        · have := hO2.1 j (h1 ▸ hj); omega
        · rw [h1] at hj; simp at hj; omega⟩, (hU2.alloc _).grown hg' (fun j hj => .inl (hO2.1 j hj).1), by omega⟩
      case measure => simp [intOf]; omega
    · obtain rfl : k = 4 := by omega
      have hlt2 : decide (((4 : Nat) : Int) < 4) = false := by decide
      go_wp2
      go_ret
      exact ⟨_, rfl, ⟨fun j hj => by have := hO.1 j hj; omega, own_sooner hO.2 (by omega)⟩, hB1.trans (hB1x.mono (by omega))⟩
end Go.Proofs.YtcadmjpkgnbodaaDoor

/- LineSums, FallsBelow: the program's, whole. -/
namespace Go.Proofs.YtcadmjpkgnbodaaDoor
open Go.RowKit Go.Shelf
attribute [local go_sem] Oper.semAt_some
attribute [local go_sem, local simp] wide_fn

/-- In how many ways all items have numbers, for 0 to 4 numbers. -/
def numR (st : Bool) (zs : List Int) : List Int := if vo zs then (List.range 5).map fun k => (nuN st zs k : Int) else []
theorem numR_le (st : Bool) (zs : List Int) : (numR st zs).length ≤ 1048576 := by
  unfold numR; split <;> simp
theorem numR_no {st : Bool} {zs : List Int} (h : vo zs = false) : numR st zs = [] := by unfold numR; rw [h]; rfl
theorem numR_tot {st : Bool} {zs : List Int} (h : VoP zs) : numR st zs = totL (msOf st zs) zs 5 := by
  unfold numR totL
  rw [vo_true h, if_pos rfl]
  exact List.map_congr_left fun k _ => by rw [show nuN st zs k = pN (msOf st zs) zs k (2 ^ zs.length - 1) from num_both h k]
theorem msOf_false (zs : List Int) : msOf false zs = fun _ => true := by funext r; rfl
theorem msOf_true (zs : List Int) : msOf true zs = apB zs := by funext r; rfl

set_option maxHeartbeats 2000000 in
theorem LineSums_any (A : Option Addr) (n c : Nat) (zs : List Int) (w : World) (h : Ints w w.heap.size A n zs) (hbig : n ≤ 1152921504606846976) :
    Calls Tryd.prog 5 #[.slice A n c] w (GivesRowV w (numR false zs)) := by
  have hlen := Lib.hid h.len
  go_enter Tryd.func5, Tryd.ntmps5
  go_wp2_with fail
  refine (readOrder_any _ _ _ zs _ h hbig).mono ?_
  rintro e w1 ⟨hB1, (⟨hv, b, rfl, hb, hAr⟩ | ⟨hv, rfl⟩)⟩
  · have hvo : VoP zs := by simpa [vo] using hv
    have z1 := hB1.size
    have Ht := Lib.hid (numR_tot (st := false) hvo)
    rw [msOf_false] at Ht
    have Hcall := Lib.hid (numberings_any zs b n (.func (.func 14) #[] #[]) (fun _ => true) (shares_all zs b) hvo hlen.out w1 hAr)
    clear hv
    go_wp2_with fail
    refine Hcall.out.mono ?_
    rintro e w2 ⟨v, rfl, hO, hB2⟩
    have Hl := Lib.hid (totL_len (fun _ => true) zs 5)
    obtain ⟨A2, c2, rfl, hR⟩ := rowV_of_own hO.2
    rw [Hl.out] at hR ⊢
    go_wp2_with fail
    go_ret
    exact ⟨A2, 5, c2, rfl, by rw [Ht.out]; exact hR.more z1 (Nat.le_refl _), hB1.trans (hB2.mono z1)⟩
  · have Ht := Lib.hid (numR_no (st := false) hv)
    clear hv
    go_wp2_with fail
    go_ret
    exact ⟨none, 0, 0, rfl, by rw [Ht.out]; exact RowV.nil _ _ _ _, hB1⟩

end Go.Proofs.YtcadmjpkgnbodaaDoor

/- Numberings: what the model's counts turn on. -/
namespace Go.Proofs.YtcadmjpkgnbodaaDoor
open Go.RowKit Go.Shelf
attribute [local go_sem] Oper.semAt_some
attribute [local go_sem, local simp] wide_fn

section
variable {P : Program} (w : World)
theorem wpList_appendM {ops : Array Oper} {rest : List Oper} {o : Oper} {a : Act} {Q : Exit → Act → World → Prop} (hgd : o.guard = none) (s x : Operand) (t : TypeId)
    (ho : o.op = .call { callee := .builtin .append, args := #[s, x], argTypes := #[t, t] })
    (base : Nat) (e : TypeId) (i : TypeInfo) (z : Value) (bytes : Nat) (ht : P.underlying t = some (.slice e)) (hi : P.info? e = some i) (hz : i.zero = some z)
    (hsize : i.size = 1) (hby : i.bytes = bytes) (hzs : z.cells.size = 1)
    (v : Value) (n : Nat) (xs : List Value) (hs : a.eval s = v) (hown : w.ownsRow base e 1 v n xs)
    (ad : Addr) (m c : Nat) (news : List Value) (hx : a.eval x = .slice (some ad) m c) (hl : news.length = m) (hnews : ∀ j u, news[j]? = some u → w.cell? (ad.add j) = some u) (h1 : ∀ u ∈ news, u.oneCell' = true)
    (h63 : n + m ≤ maxLen) (hbytes : (n + m) * bytes ≤ 140737488355328) (hbase : base ≤ w.heap.size)
    (h : ∀ v' w', w'.ownsRow base e 1 v' (n + m) (xs ++ news) → w.grownBy w' v.ownBlock → wpList P ops Q rest (a.put o.dst v') w') : wpList P ops Q (o :: rest) a w := by
  obtain ⟨v', w', hrun, h2, h3, _, _⟩ := run_append_own_at (P := P) w base t o.type e i z 1 bytes ht hi hz hsize hby hzs (by omega) v n xs hown ad m c news (by omega) hnews h1 h63 hbytes hbase
  refine wpList_plain hgd fun K hK => ?_
  unfold Oper.wp execOp
  simp only [ho, resolve, invoke, builtin, Sem.run_bind, Sem.run_pure, Result.andThen_ok, List.map_toArray, List.map_cons, List.map_nil, hs, hx, hrun]
  exact hK _ _ (h v' w' h2 h3)
end

theorem bitI_nil (s j : Int) : (bitI s j == 0) = !bitB s j := by unfold bitI; cases bitB s j <;> rfl
theorem list_sum_le {α : Type} (g : α → Nat) (B : Nat) : ∀ l : List α, (∀ x ∈ l, g x ≤ B) → (l.map g).sum ≤ l.length * B
  | [], _ => by simp
  | x :: l, h => by
    have h1 := h x (by simp)
    have h2 := list_sum_le g B l fun y hy => h y (by simp [hy])
    rw [List.map_cons, List.sum_cons, List.length_cons, Nat.add_mul]
    omega
theorem mN_le (st : Bool) (zs : List Int) (k : Nat) : ∀ (f : Nat) (g : List Int), mN st zs k f g ≤ k ^ f
  | 0, _ => by simp [mN]
  | f + 1, g => by
    have h := list_sum_le (fun x : Nat => if fineB st zs g ((x : Int) + 1) then mN st zs k f (g ++ [(x : Int) + 1]) else 0) (k ^ f) (List.range k) fun x _ => by
      split
      · exact mN_le st zs k f _
      · exact Nat.zero_le _
    rw [List.length_range] at h
    rw [mN, Nat.pow_succ, Nat.mul_comm]
    exact h
/-- The sum over the first j numbers. -/
def mTo (st : Bool) (zs : List Int) (k f : Nat) (g : List Int) (j : Nat) : Nat := ((List.range j).map fun x : Nat => if fineB st zs g ((x : Int) + 1) then mN st zs k f (g ++ [(x : Int) + 1]) else 0).sum
theorem mTo_succ (st : Bool) (zs : List Int) (k f : Nat) (g : List Int) (j : Nat) : mTo st zs k f g (j + 1) = mTo st zs k f g j + if fineB st zs g ((j : Int) + 1) then mN st zs k f (g ++ [(j : Int) + 1]) else 0 := by
  unfold mTo; rw [List.range_succ, List.map_append, List.sum_append]; simp
theorem mTo_le {st : Bool} {zs : List Int} {k f : Nat} {g : List Int} (hk : k ≤ 4) (hf : f ≤ 6) {j : Nat} (hj : j ≤ 4) : mTo st zs k f g j ≤ 16384 := by
  have hp : k ^ f ≤ 4 ^ 6 := Nat.le_trans (Nat.pow_le_pow_left hk f) (Nat.pow_le_pow_right (by decide) hf)
  have h := list_sum_le (fun x : Nat => if fineB st zs g ((x : Int) + 1) then mN st zs k f (g ++ [(x : Int) + 1]) else 0) (4 ^ 6) (List.range j) fun x _ => by
    split
    · exact Nat.le_trans (mN_le st zs k f _) hp
    · exact Nat.zero_le _
  rw [List.length_range] at h
  unfold mTo
  have : j * 4 ^ 6 ≤ 4 * 4 ^ 6 := Nat.mul_le_mul_right _ hj
  omega
/-- The pairs with the first i. -/
def fiTo (st : Bool) (zs g : List Int) (x : Int) (i : Nat) : Bool := (List.range i).all (twB st zs g g.length x)
theorem fiTo_succ (st : Bool) (zs g : List Int) (x : Int) (i : Nat) : fiTo st zs g x (i + 1) = (fiTo st zs g x i && twB st zs g g.length x i) := by
  unfold fiTo; rw [List.range_succ, List.all_append]; simp
end Go.Proofs.YtcadmjpkgnbodaaDoor

/- Numberings: the model's counts. -/
namespace Go.Proofs.YtcadmjpkgnbodaaDoor
open Go.RowKit Go.Shelf
attribute [local go_sem] Oper.semAt_some
attribute [local go_sem, local simp] wide_fn

set_option maxRecDepth 100000 in
set_option maxHeartbeats 8000000 in
theorem scountMaps_any (zs : List Int) (hvo : VoP zs) (A : Option Addr) (n c k : Nat) (hk4 : k ≤ 4) (hlen0 : zs.length = n) : ∀ (f : Nat) (g : List Int) (bg og h c' : Nat) (w : World), Ints w w.heap.size A n zs → Ints w w.heap.size (some ⟨bg, og, none⟩) h g → h + f = n →
    Calls Tryd.prog 16 #[.slice A n c, .slice (some ⟨bg, og, none⟩) h c', .int .i64 (k : Int)] w fun e w' => e = .returned (.int .i64 (mN false zs k f g : Int)) ∧ Below w.heap.size w w'
  | 0, g, bg, og, h, c', w, hA, hG, hf => by
    have hq : ((h : Int) == (n : Int)) = true := by rw [show h = n by omega]; simp
    go_enter Tryd.func16, Tryd.ntmps16
    go_wp2
    go_ret
    exact ⟨rfl, Below.refl _ _⟩
  | f + 1, g, bg, og, h, c', w, hA, hG, hf => by
    have ih := scountMaps_any zs hvo A n c k hk4 hlen0 f
    obtain ⟨i0, hi0, hz0, hz1, hz2⟩ := info_parts infoInt
    have hlen := Lib.hid hlen0
    have hgl := Lib.hid hG.len
    have hn6 : n ≤ 6 := by have := hvo.1; rw [hlen0] at this; exact this
    clear hlen0
    have hq : ((h : Int) == (n : Int)) = false := by simpa using (show ¬ (h : Int) = (n : Int) by omega)
    have Hm := Lib.hid (show mN false zs k (f + 1) g = mTo false zs k f g k from rfl)
    go_enter Tryd.func16, Tryd.ntmps16
    go_wp2
    clear hq
    go_loopw [8, 9] (fun t i wr => ∃ j : Nat, j ≤ k ∧ i = .int .i64 ((j : Int) + 1) ∧ t = .int .i64 (mTo false zs k f g j : Int) ∧ Below w.heap.size w wr) (fun _ i _ => k + 1 - (intOf i).toNat)
    case atStart => exact ⟨0, by omega, rfl, rfl, Below.refl _ _⟩
    case round =>
      obtain ⟨j, hj, rfl, rfl, hB⟩ := hrel
      have zr := hB.size
      have hAr := hA.to hB (Nat.le_refl _) zr
      have hGr := hG.to hB (Nat.le_refl _) zr
      have hmb := mTo_le (st := false) (zs := zs) (g := g) hk4 (show f ≤ 6 by omega) (show j ≤ 4 by omega)
      by_cases hlt : j < k
      · have hle : decide ((j : Int) + 1 ≤ (k : Int)) = true := decide_eq_true (by omega)
        have Hms := Lib.hid (mTo_succ false zs k f g j)
        have Hfine := Lib.hid (show fiTo false zs g ((j : Int) + 1) h = fineB false zs g ((j : Int) + 1) by unfold fiTo fineB; rw [hgl.out])
        go_wp2_with fail
        go_loopw [10, 11] (fun t i wx => ∃ i' : Nat, i' ≤ h ∧ i = .int .i64 i' ∧ t = .bool (fiTo false zs g ((j : Int) + 1) i') ∧ wx = wr) (fun _ i _ => h - (intOf i).toNat)
        case atStart => exact ⟨0, by omega, rfl, rfl, rfl⟩
        case round =>
          obtain ⟨i, hi, rfl, rfl, rfl⟩ := hrel
          by_cases hit : i < h
          · obtain ⟨bg', og', hbg, -, hcg⟩ := hGr.at_ hit
            cases hbg
            have hcgi := hcg i hit
            obtain ⟨bl, off, rfl, -, hc⟩ := hAr.at_ (show i < n by omega)
            have hci := hc i (by omega)
            have hch := hc h (by omega)
            clear hcg hc
            have hzi := hvo.bd i (by rw [hlen.out]; omega)
            have hzh := hvo.bd h (by rw [hlen.out]; omega)
            have Hs := Lib.hid (fiTo_succ false zs g ((j : Int) + 1) i)
            have Ht := Lib.hid (show twB false zs g g.length ((j : Int) + 1) i = ((!upw zs i h || decide (g[i]?.getD 0 ≤ (j : Int) + 1)) && (!upw zs h i || decide ((j : Int) + 1 ≤ g[i]?.getD 0))) by unfold twB; rw [hgl.out]; rfl)
            have hb1 := fun w => bit_any (zs[i]?.getD 0) (h : Int) w (by omega) (by omega) (by omega) (by omega)
            have hb2 := fun w => bit_any (zs[h]?.getD 0) (i : Int) w (by omega) (by omega) (by omega) (by omega)
            have e1 : (bitI (zs[i]?.getD 0) h == 0) = !upw zs i h := bitI_nil _ _
            have e2 : (bitI (zs[h]?.getD 0) i == 0) = !upw zs h i := bitI_nil _ _
            generalize hx1 : decide (g[i]?.getD 0 ≤ (j : Int) + 1) = d1 at *
            generalize upw zs i h = u1 at *
            generalize upw zs h i = u2 at *
            generalize fiTo false zs g ((j : Int) + 1) i = t0 at *
            generalize g[i]?.getD 0 = gi at *
            generalize zs[i]?.getD 0 = zi at *
            generalize zs[h]?.getD 0 = zh at *
            cases t0
            · go_wp2_with (first
                | (go_at_call 30; with_reducible refine (hb1 _).mono ?_; rintro e w' ⟨rfl, rfl⟩)
                | (go_at_call 30; with_reducible refine (hb2 _).mono ?_; rintro e w' ⟨rfl, rfl⟩))
              go_roundw
              case rel => exact ⟨i + 1, by omega, by go_num, by rw [Hs.out, Ht.out]; rfl, by first | trivial | rfl⟩
              case measure => simp [intOf]; omega
            · cases u1
              · cases u2
                · go_wp2_with (first
                    | (go_at_call 30; with_reducible refine (hb1 _).mono ?_; rintro e w' ⟨rfl, rfl⟩)
                    | (go_at_call 30; with_reducible refine (hb2 _).mono ?_; rintro e w' ⟨rfl, rfl⟩))
                  go_roundw
                  case rel => exact ⟨i + 1, by omega, by go_num, by rw [Hs.out, Ht.out]; rfl, by first | trivial | rfl⟩
                  case measure => simp [intOf]; omega
                · go_wp2_with (first
                    | (go_at_call 30; with_reducible refine (hb1 _).mono ?_; rintro e w' ⟨rfl, rfl⟩)
                    | (go_at_call 30; with_reducible refine (hb2 _).mono ?_; rintro e w' ⟨rfl, rfl⟩))
                  go_roundw
                  case rel => exact ⟨i + 1, by omega, by go_num, by rw [Hs.out, Ht.out]; rfl, by first | trivial | rfl⟩
                  case measure => simp [intOf]; omega
              · cases d1
                · go_wp2_with (first
                    | (go_at_call 30; with_reducible refine (hb1 _).mono ?_; rintro e w' ⟨rfl, rfl⟩)
                    | (go_at_call 30; with_reducible refine (hb2 _).mono ?_; rintro e w' ⟨rfl, rfl⟩))
                  go_roundw
                  case rel => exact ⟨i + 1, by omega, by go_num, by rw [Hs.out, Ht.out]; rfl, by first | trivial | rfl⟩
                  case measure => simp [intOf]; omega
                · cases u2
                  · go_wp2_with (first
                      | (go_at_call 30; with_reducible refine (hb1 _).mono ?_; rintro e w' ⟨rfl, rfl⟩)
                      | (go_at_call 30; with_reducible refine (hb2 _).mono ?_; rintro e w' ⟨rfl, rfl⟩))
                    go_roundw
                    case rel => exact ⟨i + 1, by omega, by go_num, by rw [Hs.out, Ht.out]; rfl, by first | trivial | rfl⟩
                    case measure => simp [intOf]; omega
                  · go_wp2_with (first
                      | (go_at_call 30; with_reducible refine (hb1 _).mono ?_; rintro e w' ⟨rfl, rfl⟩)
                      | (go_at_call 30; with_reducible refine (hb2 _).mono ?_; rintro e w' ⟨rfl, rfl⟩))
                    go_roundw
                    case rel => exact ⟨i + 1, by omega, by go_num, by rw [Hs.out, Ht.out]; rfl, by first | trivial | rfl⟩
                    case measure => simp [intOf]; omega
          · obtain rfl : i = h := by omega
            rw [Hfine.out]
            cases hfb : fineB false zs g ((j : Int) + 1)
            · have Hn := Lib.hid (show mTo false zs k f g (j + 1) = mTo false zs k f g j by rw [Hms.out, hfb]; simp)
              clear hfb
              go_wp2
              go_roundw
              case rel => exact ⟨j + 1, by omega, by go_num, by rw [Hn.out], hB⟩
              case measure => simp [intOf]; omega
            · have Hn := Lib.hid (show mTo false zs k f g (j + 1) = mTo false zs k f g j + mN false zs k f (g ++ [(j : Int) + 1]) by rw [Hms.out, hfb, if_pos rfl])
              have hmb2 := mTo_le (st := false) (zs := zs) (g := g) hk4 (show f ≤ 6 by omega) (show j + 1 ≤ 4 by omega)
              rw [Hn.out] at hmb2
              have hadd : IntKind.i64.wrap ((mTo false zs k f g j : Int) + (mN false zs k f (g ++ [(j : Int) + 1]) : Int)) = ((mTo false zs k f g j + mN false zs k f (g ++ [(j : Int) + 1]) : Nat) : Int) := by rw [IntKind.wrap_i64]; omega
              have h1 := own_new wr 3
              have hu1 : Upd (fun _ => False) wr (wr.alloc (.cells #[] 3)) := (Upd.refl _ wr).alloc _
              have hG1 := hGr.below (hu1.toBelow (fun _ e => e.elim) (Nat.le_refl _))
              have hnews : ∀ j' u, (g.map (Value.int .i64))[j']? = some u → (wr.alloc (.cells #[] 3)).cell? ((⟨bg, og, none⟩ : Addr).add j') = some u := fun j' u hu => by
                have hj' : j' < i := by
                  have := (List.getElem?_eq_some_iff.1 hu).1
                  rw [List.length_map, hgl.out] at this
                  exact this
                obtain ⟨b3, o3, e3, -, hc3⟩ := hG1.at_ hj'
                cases e3
                rw [addr_add3, hc3 j' hj']
                rw [List.getElem?_map] at hu
                cases hgj : g[j']? with
                | none => rw [hgj] at hu; cases hu
                | some z => rw [hgj] at hu; simpa using hu
              clear hG1
              go_wp2_with (first
                | (at_builtin; refine wpList_appendM _ rfl (.tmp 66) (.tmp 67) _ rfl wr.heap.size 3 i0 _ 8 Tryd.underlying23 hi0 hz0 hz1 hz2 rfl _ 0 [] rfl h1 ⟨bg, og, none⟩ i c' _ rfl (by rw [List.length_map]; exact hgl.out) hnews (fun u hu => by obtain ⟨z, _, rfl⟩ := List.mem_map.1 hu; rfl) (by simp [maxLen]; omega) (by omega) (by simp) ?_; intro v1 w1 hown1 hg1; rw [Nat.zero_add, List.nil_append] at hown1; have zg1 := hg1.size)
                | (at_builtin; refine wpList_append1 _ rfl (.tmp 68) (.tmp 70) _ rfl wr.heap.size 3 i0 _ 8 Tryd.underlying23 hi0 hz0 hz1 hz2 rfl _ i _ rfl (hown1.alloc _) w1.heap.size 1 (.int .i64 ((j : Int) + 1)) rfl (cell_new _ _ _) rfl (by omega) (by omega) (by simp; simp at zg1; omega) ?_; rintro v2 w2 hown2 hg2 -))
              obtain ⟨g2, cap2, rfl⟩ := own_some hown2 (by omega)
              obtain ⟨A2, c2, e2, hI2⟩ := ints_of_own (zs := g ++ [(j : Int) + 1]) (by rw [List.map_append]; exact hown2)
              cases e2
              have hu2 : Upd (fun _ => False) wr w2 := ((hu1.grown hg1 (fun q hq => by simp [Value.ownBlock, Act.eval] at hq; exact .inl (by omega))).alloc _).grown hg2 (fun q hq => .inl (own_ge hown1 q hq))
              have hB2 : Below wr.heap.size wr w2 := hu2.toBelow (fun _ e => e.elim) (Nat.le_refl _)
              have z2 := hB2.size
              have hA2 := hAr.to hB2 (Nat.le_refl _) z2
              clear hown1 hown2 hg1 hg2 hu1 hu2 hnews h1 hGr
              refine (ih (g ++ [(j : Int) + 1]) g2 0 (i + 1) cap2 w2 hA2 hI2 (by omega)).mono ?_
              rintro e w3 ⟨rfl, hB3⟩
              generalize mTo false zs k f g j = q1 at *
              generalize mN false zs k f (g ++ [(j : Int) + 1]) = q2 at *
              go_wp2
              go_roundw
              case rel => exact ⟨j + 1, by omega, by go_num, by rw [Hn.out]; first | rfl | rw [hadd], hB.trans ((hB2.trans (hB3.mono z2)).mono zr)⟩
              case measure => simp [intOf]; omega
      · obtain rfl : j = k := by omega
        have hle : decide ((j : Int) + 1 ≤ (j : Int)) = false := decide_eq_false (by omega)
        go_wp2
        go_ret
        exact ⟨ret_int (by rw [Hm.out]), hB⟩
end Go.Proofs.YtcadmjpkgnbodaaDoor

/- Numberings: the model's counts, growing upward. -/
namespace Go.Proofs.YtcadmjpkgnbodaaDoor
open Go.RowKit Go.Shelf
attribute [local go_sem] Oper.semAt_some
attribute [local go_sem, local simp] wide_fn

end Go.Proofs.YtcadmjpkgnbodaaDoor

/- LineSums, FallsBelow: the model's, whole. -/
namespace Go.Proofs.YtcadmjpkgnbodaaDoor
open Go.RowKit Go.Shelf
attribute [local go_sem] Oper.semAt_some
attribute [local go_sem, local simp] wide_fn

def numL (st : Bool) (zs : List Int) (k : Nat) : List Int := (List.range k).map fun j => (mN st zs j zs.length [] : Int)
theorem numL_succ (st : Bool) (zs : List Int) (k : Nat) : numL st zs (k + 1) = numL st zs k ++ [(mN st zs k zs.length [] : Int)] := by unfold numL; rw [List.range_succ, List.map_append]; rfl
theorem numL_len (st : Bool) (zs : List Int) (k : Nat) : (numL st zs k).length = k := by simp [numL]
theorem numR_is {st : Bool} {zs : List Int} (h : vo zs = true) : numR st zs = numL st zs 5 := by unfold numR; rw [h]; rfl

set_option maxRecDepth 100000 in
set_option maxHeartbeats 4000000 in
theorem specLineSumsF_any (A : Option Addr) (n c : Nat) (zs : List Int) (w : World) (h : Ints w w.heap.size A n zs) (hbig : n ≤ 1152921504606846976) :
    Calls Tryd.prog 7 #[.slice A n c] w (GivesRowV w (numR false zs)) := by
  obtain ⟨i0, hi0, hz0, hz1, hz2⟩ := info_parts infoInt
  have hlen := Lib.hid h.len
  cases hv : vo zs
  · have Ht := Lib.hid (numR_no (st := false) hv)
    go_enter Tryd.func7, Tryd.ntmps7
    go_wp2_with fail
    refine (validOrder_any _ _ _ _ zs _ h hbig).mono ?_
    rw [hv]
    rintro e w1 ⟨rfl, m, hm⟩
    have hB : Below w.heap.size w w1 := by rw [hm]; exact below_drewN (Below.refl _ _) _
    clear hm
    go_wp2_with fail
    go_ret
    exact ⟨none, 0, 0, rfl, by rw [Ht.out]; exact RowV.nil _ _ _ _, hB⟩
  · have hvo : VoP zs := by simpa [vo] using hv
    have Ht := Lib.hid (numR_is (st := false) hv)
    have Hc := Lib.hid (fun k hk (w' : World) h1 h2 => scountMaps_any zs hvo A n c k hk hlen.out n [] w'.heap.size 0 0 0 (w'.alloc (.cells #[] 3)) h1 h2 (Nat.zero_add n))
    go_enter Tryd.func7, Tryd.ntmps7
    go_wp2_with fail
    refine (validOrder_any _ _ _ _ zs _ h hbig).mono ?_
    rw [hv]
    rintro e w1 ⟨rfl, m, hm⟩
    have hB1 : Below w.heap.size w w1 := by rw [hm]; exact below_drewN (Below.refl _ _) _
    have hx := h.below hB1
    have z1 := hB1.size
    clear hm
    go_wp2_with fail
    have h1 := own_new w1 3
    have hU1 : Upd (fun _ => False) w1 (w1.alloc (.cells #[] 3)) := (Upd.refl _ w1).alloc _
    have hzz : w1.heap.size < (w1.alloc (.cells #[] 3)).heap.size := by simp
    obtain ⟨W1, hW1⟩ : ∃ W1, w1.alloc (.cells #[] 3) = W1 := ⟨_, rfl⟩
    rw [hW1] at h1 hU1 hzz ⊢
    clear hW1
    go_loopw [3, 4] (fun v i wr => ∃ k : Nat, k ≤ 5 ∧ i = .int .i64 k ∧ OwnS (fun j => w1.heap.size ≤ j) wr w1.heap.size 3 v (numL false zs k) ∧ Below w1.heap.size w1 wr) (fun _ i _ => 5 - (intOf i).toNat)
    case atStart => exact ⟨0, by omega, rfl, ⟨fun j hj => by simp [Value.ownBlock] at hj; omega, h1⟩, hU1.toBelow (fun _ e => e.elim) (Nat.le_refl _)⟩
    case round =>
      clear h1 hU1
      obtain ⟨k, hk, rfl, hO, hB⟩ := hrel
      rename World => wx
      have zx := hB.size
      by_cases hlt : k < 5
      · have hle : decide ((k : Int) ≤ 4) = true := decide_eq_true (by omega)
        have hAx : Ints (wx.alloc (.cells #[] 3)) (wx.alloc (.cells #[] 3)).heap.size A n zs := ((hx.below (hB.mono z1)).more (by omega : w.heap.size ≤ wx.heap.size) |>.to ((Below.refl _ _).alloc (Nat.le_refl _) _) (Nat.le_refl _) (by simp))
        have hGx : Ints (wx.alloc (.cells #[] 3)) (wx.alloc (.cells #[] 3)).heap.size (some ⟨wx.heap.size, 0, none⟩) 0 [] := ⟨rfl, fun e => absurd e (by omega)⟩
        have Hcall := Lib.hid (Hc.out k (by omega) wx hAx hGx)
        have hU1 : Upd (fun _ => False) wx (wx.alloc (.cells #[] 3)) := (Upd.refl _ wx).alloc _
        have hzy : wx.heap.size < (wx.alloc (.cells #[] 3)).heap.size := by simp
        have Hnx := Lib.hid (numL_succ false zs k)
        have Hln := Lib.hid (numL_len false zs k)
        have hown := own_lt' hO.2
        clear hAx hGx
        go_wp2_with fail
        obtain ⟨W3, hW3⟩ : ∃ W3, wx.alloc (.cells #[] 3) = W3 := ⟨_, rfl⟩
        rw [hW3] at Hcall hU1 hzy ⊢
        clear hW3
        refine Hcall.out.mono ?_
        rw [hlen.out] at Hnx
        rintro e w4 ⟨rfl, hB4⟩
        have z4 := hB4.size
        have hU4 : Upd (fun j => wx.heap.size ≤ j) wx w4 := (hU1.mono (fun _ _ e => e.elim)).trans' (R := fun j => wx.heap.size ≤ j) (Below.toUpd hB4) (fun i hi e => by omega)
        have hO4 := OwnS.keep (S := fun j => w1.heap.size ≤ j ∧ j < wx.heap.size) ⟨fun j hj => ⟨hO.1 j hj, hown j hj⟩, hO.2⟩ hU4 (fun j hj e => by omega)
        have hB14 : Below w1.heap.size w1 w4 := hB.trans ((hU4.toBelow (fun _ e => e) (Nat.le_refl _)).mono zx)
        generalize (mN false zs k n [] : Int) = q at *
        clear hO Hcall hU4 hU1
        go_wp2_with (at_builtin; refine wpList_append1 _ rfl (.tmp 13) (.tmp 18) _ rfl w1.heap.size 3 i0 _ 8 Tryd.underlying23 hi0 hz0 hz1 hz2 rfl _ (numL false zs k).length _ rfl (hO4.2.alloc _) w4.heap.size 1 (.int .i64 q) rfl (cell_new _ _ _) rfl (by rw [Hln.out]; omega) (by rw [Hln.out]; omega) (by simp; omega) ?_; rintro v' w' hown' hg' hv')
        have zg := hg'.size
        simp at zg
        go_roundw
        case rel => exact ⟨k + 1, by omega, by go_num, by rw [Hnx.out]; exact hO4.step hown' hv' (fun j e => e.1) (fun _ => by omega), ((((Below.toUpd hB14).mono (S := fun j => w1.heap.size ≤ j) fun _ _ e => e).alloc _).grown hg' (fun j hj => .inl (hO4.1 j hj).1)).toBelow (fun _ e => e) (Nat.le_refl _)⟩
        case measure => simp [intOf]; omega
      · obtain rfl : k = 5 := by omega
        have hle : decide (((5 : Nat) : Int) ≤ 4) = false := by decide
        have Hl := Lib.hid (numL_len false zs 5)
        obtain ⟨A2, c2, hv2, hR⟩ := rowV_of_own hO.2
        subst hv2
        rw [Hl.out] at hR ⊢
        go_wp2_with fail
        go_ret
        exact ⟨A2, 5, c2, rfl, by rw [Ht.out]; exact hR.more z1 (Nat.le_refl _), hB1.trans (hB.mono z1)⟩

end Go.Proofs.YtcadmjpkgnbodaaDoor

/- How many items a set has, as the laws see it. -/
namespace Go.Proofs.YtcadmjpkgnbodaaDoor
open Go.RowKit

def sizeTo (s : Int) : Nat → Int
  | 0 => 0
  | k + 1 => sizeTo s k + bitI s k
theorem sizeTo_fin : ∀ k : Fin 64, sizeTo (k.val : Int) 62 = popI (k.val : Int) := by decide +kernel
theorem sizeTo_bd (s : Int) : ∀ k : Nat, 0 ≤ sizeTo s k ∧ sizeTo s k ≤ k
  | 0 => ⟨Int.le_refl _, Int.le_refl _⟩
  | k + 1 => by
    have h1 := sizeTo_bd s k
    have h2 := bitI_01 s k
    unfold sizeTo
    omega
end Go.Proofs.YtcadmjpkgnbodaaDoor

/- LineSums's own law. -/
namespace Go.Proofs.YtcadmjpkgnbodaaDoor
open Go.RowKit Go.Shelf

theorem ls_at {st : Bool} {zs T : List Int} (h : VoP zs) (hT : numR st zs = T) {k : Nat} (hk : k < 5) : T[k]?.getD 0 = (nuN st zs k : Int) := by
  rw [← hT]; unfold numR; rw [vo_true h, if_pos rfl, List.getElem?_map, List.getElem?_range hk]; rfl
theorem ls_up {zs T : List Int} (h : VoP zs) (hT : numR false zs = T) {k : Nat} (hk : k < 5) : T[k - 1]?.getD 0 ≤ T[k]?.getD 0 := by
  rw [ls_at h hT hk, ls_at h hT (show k - 1 < 5 by omega)]
  exact_mod_cast nuN_more h (Nat.sub_le k 1)
theorem ls_one {zs T : List Int} (h : VoP zs) (hT : numR false zs = T) : T[1]?.getD 0 = 1 := by
  rw [ls_at h hT (by omega), nuN_one h]; rfl
theorem ls_two {zs T : List Int} (h : VoP zs) (hT : numR false zs = T) : T[2]?.getD 0 = (ciN zs (2 ^ zs.length - 1) : Int) := by
  rw [ls_at h hT (by omega), nuN_two h]
theorem ls_du {st : Bool} {zs : List Int} (h : VoP zs) : numR st (du zs) = numR st zs := by
  unfold numR; rw [vo_true h, vo_true (du_vo h)]
  simp only [if_true]
  exact List.map_congr_left fun k _ => by rw [nuN_du h]

set_option maxRecDepth 100000 in
set_option maxHeartbeats 8000000 in
theorem fnLineSums_walk (A : Option Addr) (m c : Nat) (bs : List Int) (w : World) (h : Byts w w.heap.size A m bs) (hcap : m ≤ c) (hT : Tab w) (hw1 : 1 < w.heap.size) :
    Calls Tryd.prog 3 #[.slice A m c] w fun e w' => e = .returned (.bool true) ∧ Below w.heap.size w w' := by
  by_cases hs : m ≤ 1048576
  · go_enter Tryd.func3, Tryd.ntmps3
    go_wp2_with fail
    refine (drawLineSums_any A m c bs w h hcap (by omega)).mono ?_
    rintro e w1 ⟨A1, n, c1, zs, rfl, hn7, hI1, C1⟩
    have hlen := Lib.hid hI1.len
    cases hv : vo zs
    · have HL := Lib.hid (numR_no (st := false) hv)
      clear hv
      go_wp2_with fail
      refine (LineSums_any A1 n c1 zs w1 hI1 (by omega)).mono ?_
      rintro e w2 ⟨A2, m2, c2, rfl, r2, hB2⟩
      have z2 := hB2.size
      have C2 := C1.trans (hB2.mono C1.size)
      have hI2 := hI1.to hB2 (Nat.le_refl _) z2
      have ha2 := r2.ints (B := w2.heap.size) (Nat.le_refl _)
      have e2 := r2.len
      clear hI1 hB2 C1 r2
      rw [HL.out] at ha2 e2
      simp only [List.length_nil] at e2
      subst e2
      go_wp2_with fail
      refine (specLineSumsF_any A1 n c1 zs w2 hI2 (by omega)).mono ?_
      rintro e w3 ⟨A3, m3, c3, rfl, r3, hB3⟩
      have z3 := hB3.size
      have C3 := C2.trans (hB3.mono C2.size)
      have hI3 := hI2.to hB3 (Nat.le_refl _) z3
      have ha3 := ha2.to hB3 (Nat.le_refl _) z3
      have hb3 := r3.ints (B := w3.heap.size) (Nat.le_refl _)
      have e3 := r3.len
      clear hI2 ha2 hB3 C2 r3
      rw [HL.out] at hb3 e3
      simp only [List.length_nil] at e3
      subst e3
      go_wp2_with fail
      refine (equalSame_any _ _ _ _ _ _ _ _ _ _ ha3 hb3 (by omega) (by omega)).mono ?_
      rintro e w4 ⟨rfl, hB4⟩
      have z4 := hB4.size
      have C4 := C3.trans (hB4.mono C3.size)
      have hI4 := hI3.to hB4 (Nat.le_refl _) z4
      have ha4 := ha3.to hB4 (Nat.le_refl _) z4
      have hb4 := hb3.to hB4 (Nat.le_refl _) z4
      clear hI3 ha3 hb3 hB4 C3
      go_wp2_with fail
      refine (specLineSumsF_any A1 n c1 zs w4 hI4 (by omega)).mono ?_
      rintro e w5 ⟨A5, m5, c5, rfl, r5, hB5⟩
      have z5 := hB5.size
      have C5 := C4.trans (hB5.mono C4.size)
      have hI5 := hI4.to hB5 (Nat.le_refl _) z5
      have ha5 := ha4.to hB5 (Nat.le_refl _) z5
      have hb5 := hb4.to hB5 (Nat.le_refl _) z5
      have hx5 := r5.ints (B := w5.heap.size) (Nat.le_refl _)
      have e5 := r5.len
      clear hI4 ha4 hb4 hB5 C4 r5
      rw [HL.out] at hx5 e5
      simp only [List.length_nil] at e5
      subst e5
      go_wp2_with fail
      refine (equalSame_any _ _ _ _ _ _ _ _ _ _ ha5 hx5 (by omega) (by omega)).mono ?_
      rintro e w6 ⟨rfl, hB6⟩
      have z6 := hB6.size
      have C6 := C5.trans (hB6.mono C5.size)
      have hI6 := hI5.to hB6 (Nat.le_refl _) z6
      have ha6 := ha5.to hB6 (Nat.le_refl _) z6
      have hb6 := hb5.to hB6 (Nat.le_refl _) z6
      have hx6 := hx5.to hB6 (Nat.le_refl _) z6
      clear hI5 ha5 hb5 hx5 hB6 C5
      go_wp2_with fail
      go_ret
      exact ⟨rfl, C6⟩
    · have hvo : VoP zs := by simpa [vo] using hv
      clear hv
      obtain ⟨T, hT0⟩ : ∃ T, numR false zs = T := ⟨_, rfl⟩
      have hT5 : T.length = 5 := by rw [← hT0]; unfold numR; rw [vo_true hvo]; simp
      have HUp := Lib.hid (fun k hk => ls_up hvo hT0 (k := k) hk)
      have hT1 : T[1]?.getD 0 = 1 := ls_one hvo hT0
      have hT2 : T[2]?.getD 0 = (ciN zs (2 ^ zs.length - 1) : Int) := ls_two hvo hT0
      have HCI := Lib.hid (show countIdealsR zs = (ciN zs (2 ^ zs.length - 1) : Int) by unfold countIdealsR; rw [vo_true hvo]; rfl)
      obtain ⟨cc, hcc⟩ : ∃ cc : Int, (ciN zs (2 ^ zs.length - 1) : Int) = cc := ⟨_, rfl⟩
      rw [hcc] at hT2 HCI
      clear hcc
      have HD := Lib.hid (show dualR zs = du zs by unfold dualR; rw [vo_true hvo]; rfl)
      have HDN := Lib.hid (du_len zs)
      have HDT := Lib.hid ((ls_du hvo).trans hT0)
      have HT := Lib.hid hT0
      clear hT0
      go_wp2_with fail
      refine (LineSums_any A1 n c1 zs w1 hI1 (by omega)).mono ?_
      rintro e w2 ⟨A2, m2, c2, rfl, r2, hB2⟩
      have z2 := hB2.size
      have C2 := C1.trans (hB2.mono C1.size)
      have hI2 := hI1.to hB2 (Nat.le_refl _) z2
      have ha2 := r2.ints (B := w2.heap.size) (Nat.le_refl _)
      have e2 := r2.len
      clear hI1 hB2 C1 r2
      rw [HT.out] at ha2 e2
      rw [hT5] at e2
      subst e2
      go_wp2_with fail
      refine (specLineSumsF_any A1 n c1 zs w2 hI2 (by omega)).mono ?_
      rintro e w3 ⟨A3, m3, c3, rfl, r3, hB3⟩
      have z3 := hB3.size
      have C3 := C2.trans (hB3.mono C2.size)
      have hI3 := hI2.to hB3 (Nat.le_refl _) z3
      have ha3 := ha2.to hB3 (Nat.le_refl _) z3
      have hb3 := r3.ints (B := w3.heap.size) (Nat.le_refl _)
      have e3 := r3.len
      clear hI2 ha2 hB3 C2 r3
      rw [HT.out] at hb3 e3
      rw [hT5] at e3
      subst e3
      go_wp2_with fail
      refine (equalSame_any _ _ _ _ _ _ _ _ _ _ ha3 hb3 (by omega) (by omega)).mono ?_
      rintro e w4 ⟨rfl, hB4⟩
      have z4 := hB4.size
      have C4 := C3.trans (hB4.mono C3.size)
      have hI4 := hI3.to hB4 (Nat.le_refl _) z4
      have ha4 := ha3.to hB4 (Nat.le_refl _) z4
      have hb4 := hb3.to hB4 (Nat.le_refl _) z4
      clear hI3 ha3 hb3 hB4 C3
      clear hb4
      go_wp2_with fail
      go_loopw [5] (fun i wr => ∃ k : Nat, 1 ≤ k ∧ k ≤ 5 ∧ i = .int .i64 k ∧ Below w4.heap.size w4 wr) (fun i _ => 5 - (intOf i).toNat)
      case atStart => exact ⟨1, by omega, by omega, rfl, Below.refl _ _⟩
      case round =>
        obtain ⟨k, hk1, hk, rfl, hB⟩ := hrel
        rename World => wx
        have zx := hB.size
        have hIx := hI4.to hB (Nat.le_refl _) zx
        have hax := ha4.to hB (Nat.le_refl _) zx
        have Cx := C4.trans (hB.mono C4.size)
        obtain ⟨ba, oa, eA, hba, hca⟩ := (ha4.below hB).at_ (show 1 < 5 by omega)
        subst eA
        by_cases hlt : k < 5
        · have hck := hca k hlt
          have hcj := hca (k - 1) (by omega)
          have hup := HUp.out k (by omega)
          have hdec : decide ((k : Int) < 5) = true := decide_eq_true (by omega)
          have hsub : (k : Int) - 1 = ((k - 1 : Nat) : Int) := by omega
          have hwr : IntKind.i64.wrap ((k : Int) - 1) = ((k - 1 : Nat) : Int) := by rw [IntKind.wrap_i64]; omega
          have hwr2 : wrap64 ((k : Int) - 1) = ((k - 1 : Nat) : Int) := by rw [hsub]; exact IntWalk.wrap64_in _ ⟨by omega, by omega⟩
          have hkm : k - 1 < 5 := by omega
          clear hsub hca hax
          generalize T[k]?.getD 0 = tk at *
          generalize T[k - 1]?.getD 0 = tj at *
          generalize k - 1 = j at *
          have hlt2 : decide (tk < tj) = false := decide_eq_false (by omega)
          go_wp2_with fail
          refine region_T (S := (fun w' => w'.cell? ⟨ba, oa + k, none⟩ = some (.int .i64 tk) ∧ w'.cell? ⟨ba, oa + j, none⟩ = some (.int .i64 tj))) 9 (by kernel_rfl) ?_
          have hSd : (fun w' => w'.cell? ⟨ba, oa + k, none⟩ = some (.int .i64 tk) ∧ w'.cell? ⟨ba, oa + j, none⟩ = some (.int .i64 tj)) wx.drew := ⟨hck, hcj⟩
          have hBd : Below w4.heap.size w4 wx.drew := below_drewN hB 1
          obtain ⟨Wd, hWd⟩ : ∃ Wd, wx.drew = Wd := ⟨_, rfl⟩
          rw [hWd] at hSd hBd ⊢
          clear hWd hck hcj hIx
          refine anyT_take (i := 0) (oi := ?oi0a) (v := .slice (some ⟨ba, oa, none⟩) 5 c2) ?hi0a (by kernel_rfl) ?hq0a ?hy0a (by assumption) ?rest0a
          case hi0a => (simp only [List.getElem?_toArray, List.getElem?_cons_zero]; first | done | rfl)
          case hq0a => first | exact fun _ _ _ h => h | exact fun _ _ _ h => (by cases h.1)
          case hy0a => (refine Or.inl ⟨by rfl, ?_⟩; intro wz hSw; go_simp; first | done | with_reducible rfl | simp | omega)
          try simp only [Act.put, List.setIfInBounds_toArray, List.set_cons_zero, List.set_cons_succ]
          refine anyT_take (i := 1) (oi := ?oi1a) (v := .int .i64 (k : Int)) ?hi1a (by kernel_rfl) ?hq1a ?hy1a (by assumption) ?rest1a
          case hi1a => (simp only [List.getElem?_toArray, List.getElem?_cons_succ, List.getElem?_cons_zero]; first | done | rfl)
          case hq1a => first | exact fun _ _ _ h => h | exact fun _ _ _ h => (by cases h.1)
          case hy1a => (refine Or.inl ⟨by rfl, ?_⟩; intro wz hSw; go_simp; first | done | with_reducible rfl | simp | omega)
          try simp only [Act.put, List.setIfInBounds_toArray, List.set_cons_zero, List.set_cons_succ]
          refine anyT_take (i := 2) (oi := ?oi2a) (v := .pointer (some ⟨ba, oa + k, none⟩)) ?hi2a (by kernel_rfl) ?hq2a ?hy2a (by assumption) ?rest2a
          case hi2a => (simp only [List.getElem?_toArray, List.getElem?_cons_succ, List.getElem?_cons_zero]; first | done | rfl)
          case hq2a => first | exact fun _ _ _ h => h | exact fun _ _ _ h => (by cases h.1)
          case hy2a => (refine Or.inl ⟨by rfl, ?_⟩; intro wz hSw; go_simp; first | done | with_reducible rfl | simp | omega)
          try simp only [Act.put, List.setIfInBounds_toArray, List.set_cons_zero, List.set_cons_succ]
          refine anyT_take (i := 3) (oi := ?oi3a) (v := .int .i64 tk) ?hi3a (by kernel_rfl) ?hq3a ?hy3a (by assumption) ?rest3a
          case hi3a => (simp only [List.getElem?_toArray, List.getElem?_cons_succ, List.getElem?_cons_zero]; first | done | rfl)
          case hq3a => first | exact fun _ _ _ h => h | exact fun _ _ _ h => (by cases h.1)
          case hy3a => (refine Or.inl ⟨by rfl, ?_⟩; intro wz hSw; obtain ⟨hS1, hS2⟩ := hSw; go_simp; first | done | with_reducible rfl | simp | omega)
          try simp only [Act.put, List.setIfInBounds_toArray, List.set_cons_zero, List.set_cons_succ]
          refine anyT_take (i := 4) (oi := ?oi4a) (v := .slice (some ⟨ba, oa, none⟩) 5 c2) ?hi4a (by kernel_rfl) ?hq4a ?hy4a (by assumption) ?rest4a
          case hi4a => (simp only [List.getElem?_toArray, List.getElem?_cons_succ, List.getElem?_cons_zero]; first | done | rfl)
          case hq4a => first | exact fun _ _ _ h => h | exact fun _ _ _ h => (by cases h.1)
          case hy4a => (refine Or.inl ⟨by rfl, ?_⟩; intro wz hSw; go_simp; first | done | with_reducible rfl | simp | omega)
          try simp only [Act.put, List.setIfInBounds_toArray, List.set_cons_zero, List.set_cons_succ]
          refine anyT_take (i := 5) (oi := ?oi5a) (v := .int .i64 (k : Int)) ?hi5a (by kernel_rfl) ?hq5a ?hy5a (by assumption) ?rest5a
          case hi5a => (simp only [List.getElem?_toArray, List.getElem?_cons_succ, List.getElem?_cons_zero]; first | done | rfl)
          case hq5a => first | exact fun _ _ _ h => h | exact fun _ _ _ h => (by cases h.1)
          case hy5a => (refine Or.inl ⟨by rfl, ?_⟩; intro wz hSw; go_simp; first | done | with_reducible rfl | simp | omega)
          try simp only [Act.put, List.setIfInBounds_toArray, List.set_cons_zero, List.set_cons_succ]
          refine anyT_take (i := 6) (oi := ?oi6a) (v := .int .i64 (j : Int)) ?hi6a (by kernel_rfl) ?hq6a ?hy6a (by assumption) ?rest6a
          case hi6a => (simp only [List.getElem?_toArray, List.getElem?_cons_succ, List.getElem?_cons_zero]; first | done | rfl)
          case hq6a => first | exact fun _ _ _ h => h | exact fun _ _ _ h => (by cases h.1)
          case hy6a => (refine Or.inl ⟨by rfl, ?_⟩; intro wz hSw; go_simp; first | done | with_reducible rfl | simp [hwr, hwr2] | omega)
          try simp only [Act.put, List.setIfInBounds_toArray, List.set_cons_zero, List.set_cons_succ]
          refine anyT_take (i := 7) (oi := ?oi7a) (v := .pointer (some ⟨ba, oa + j, none⟩)) ?hi7a (by kernel_rfl) ?hq7a ?hy7a (by assumption) ?rest7a
          case hi7a => (simp only [List.getElem?_toArray, List.getElem?_cons_succ, List.getElem?_cons_zero]; first | done | rfl)
          case hq7a => first | exact fun _ _ _ h => h | exact fun _ _ _ h => (by cases h.1)
          case hy7a => (refine Or.inl ⟨by rfl, ?_⟩; intro wz hSw; go_simp; first | done | with_reducible rfl | simp | omega)
          try simp only [Act.put, List.setIfInBounds_toArray, List.set_cons_zero, List.set_cons_succ]
          refine anyT_take (i := 8) (oi := ?oi8a) (v := .int .i64 tj) ?hi8a (by kernel_rfl) ?hq8a ?hy8a (by assumption) ?rest8a
          case hi8a => (simp only [List.getElem?_toArray, List.getElem?_cons_succ, List.getElem?_cons_zero]; first | done | rfl)
          case hq8a => first | exact fun _ _ _ h => h | exact fun _ _ _ h => (by cases h.1)
          case hy8a => (refine Or.inl ⟨by rfl, ?_⟩; intro wz hSw; obtain ⟨hS1, hS2⟩ := hSw; go_simp; first | done | with_reducible rfl | simp | omega)
          try simp only [Act.put, List.setIfInBounds_toArray, List.set_cons_zero, List.set_cons_succ]
          refine anyT_one (i := 9) (by kernel_rfl) rfl (fun K' hK => ?_)
          go_simp
          refine hK.out _ _ (fun h => absurd rfl h) ?_
          clear hK K'
          try simp only [Act.put, List.setIfInBounds_toArray, List.set_cons_zero, List.set_cons_succ]
          refine anyT_done (by kernel_rfl) ?_ _
          go_wp2
          go_roundw
          case rel => exact ⟨k + 1, by omega, by omega, by go_num, hBd⟩
          case measure => simp [intOf]; omega
        · have hkk : k = 5 := by omega
          subst hkk
          have hc1 := hca 1 (by omega)
          have hc2 := hca 2 (by omega)
          rw [hT1] at hc1
          rw [hT2] at hc2
          clear hca
          go_wp2_with fail
          refine region_T (S := (fun w' => w'.cell? ⟨ba, oa + 1, none⟩ = some (.int .i64 1) ∧ w'.cell? ⟨ba, oa + 2, none⟩ = some (.int .i64 cc))) 24 (by kernel_rfl) ?_
          have hSd : (fun w' => w'.cell? ⟨ba, oa + 1, none⟩ = some (.int .i64 1) ∧ w'.cell? ⟨ba, oa + 2, none⟩ = some (.int .i64 cc)) wx.drew := ⟨hc1, hc2⟩
          have hId : Ints wx.drew wx.drew.heap.size A1 n zs := hIx
          have had : Ints wx.drew wx.drew.heap.size (some ⟨ba, oa, none⟩) 5 T := hax
          have hBd : Below w.heap.size w wx.drew := below_drewN Cx 1
          have zw : w4.heap.size ≤ wx.drew.heap.size := zx
          obtain ⟨Wd, hWd⟩ : ∃ Wd, wx.drew = Wd := ⟨_, rfl⟩
          rw [hWd] at hSd hId had hBd zw ⊢
          clear hWd hc1 hc2 hIx hax Cx
          have zd := hBd.size
          refine anyT_take (i := 0) (oi := ?oi0e) (v := .slice (some ⟨ba, oa, none⟩) 5 c2) ?hi0e (by kernel_rfl) ?hq0e ?hy0e (by assumption) ?rest0e
          case hi0e => (simp only [List.getElem?_toArray, List.getElem?_cons_zero]; first | done | rfl)
          case hq0e => first | exact fun _ _ _ h => h | exact fun _ _ _ h => (by cases h.1)
          case hy0e => (refine Or.inl ⟨by rfl, ?_⟩; intro wz hSw; go_simp; first | done | with_reducible rfl | simp | omega)
          try simp only [Act.put, List.setIfInBounds_toArray, List.set_cons_zero, List.set_cons_succ]
          refine anyT_take (i := 1) (oi := ?oi1e) (v := .int .i64 5) ?hi1e (by kernel_rfl) ?hq1e ?hy1e (by assumption) ?rest1e
          case hi1e => (simp only [List.getElem?_toArray, List.getElem?_cons_succ, List.getElem?_cons_zero]; first | done | rfl)
          case hq1e => first | exact fun _ _ _ h => h | exact fun _ _ _ h => (by cases h.1)
          case hy1e => (refine Or.inl ⟨by rfl, ?_⟩; intro wz hSw; go_simp; first | done | with_reducible rfl | simp | omega)
          try simp only [Act.put, List.setIfInBounds_toArray, List.set_cons_zero, List.set_cons_succ]
          refine anyT_take (i := 2) (oi := ?oi2e) (v := .bool true) ?hi2e (by kernel_rfl) ?hq2e ?hy2e (by assumption) ?rest2e
          case hi2e => (simp only [List.getElem?_toArray, List.getElem?_cons_succ, List.getElem?_cons_zero]; first | done | rfl)
          case hq2e => first | exact fun _ _ _ h => h | exact fun _ _ _ h => (by cases h.1)
          case hy2e => (refine Or.inl ⟨by rfl, ?_⟩; intro wz hSw; go_simp; first | done | with_reducible rfl | simp | omega)
          try simp only [Act.put, List.setIfInBounds_toArray, List.set_cons_zero, List.set_cons_succ]
          refine anyT_take (i := 3) (oi := ?oi3e) (v := .bool true) ?hi3e (by kernel_rfl) ?hq3e ?hy3e (by assumption) ?rest3e
          case hi3e => (simp only [List.getElem?_toArray, List.getElem?_cons_succ, List.getElem?_cons_zero]; first | done | rfl)
          case hq3e => first | exact fun _ _ _ h => h | exact fun _ _ _ h => (by cases h.1)
          case hy3e => (refine Or.inl ⟨by rfl, ?_⟩; intro wz hSw; go_simp; first | done | with_reducible rfl | simp | omega)
          try simp only [Act.put, List.setIfInBounds_toArray, List.set_cons_zero, List.set_cons_succ]
          refine anyT_take (i := 4) (oi := ?oi4e) (v := .slice (some ⟨ba, oa, none⟩) 5 c2) ?hi4e (by kernel_rfl) ?hq4e ?hy4e (by assumption) ?rest4e
          case hi4e => (simp only [List.getElem?_toArray, List.getElem?_cons_succ, List.getElem?_cons_zero]; first | done | rfl)
          case hq4e => first | exact fun _ _ _ h => h | exact fun _ _ _ h => (by cases h.1)
          case hy4e => (refine Or.inl ⟨by rfl, ?_⟩; intro wz hSw; go_simp; first | done | with_reducible rfl | simp | omega)
          try simp only [Act.put, List.setIfInBounds_toArray, List.set_cons_zero, List.set_cons_succ]
          refine anyT_take (i := 5) (oi := ?oi5e) (v := .pointer (some ⟨ba, oa + 1, none⟩)) ?hi5e (by kernel_rfl) ?hq5e ?hy5e (by assumption) ?rest5e
          case hi5e => (simp only [List.getElem?_toArray, List.getElem?_cons_succ, List.getElem?_cons_zero]; first | done | rfl)
          case hq5e => first | exact fun _ _ _ h => h | exact fun _ _ _ h => (by cases h.1)
          case hy5e => (refine Or.inl ⟨by rfl, ?_⟩; intro wz hSw; go_simp; first | done | with_reducible rfl | simp | omega)
          try simp only [Act.put, List.setIfInBounds_toArray, List.set_cons_zero, List.set_cons_succ]
          refine anyT_take (i := 6) (oi := ?oi6e) (v := .int .i64 1) ?hi6e (by kernel_rfl) ?hq6e ?hy6e (by assumption) ?rest6e
          case hi6e => (simp only [List.getElem?_toArray, List.getElem?_cons_succ, List.getElem?_cons_zero]; first | done | rfl)
          case hq6e => first | exact fun _ _ _ h => h | exact fun _ _ _ h => (by cases h.1)
          case hy6e => (refine Or.inl ⟨by rfl, ?_⟩; intro wz hSw; obtain ⟨hS1, hS2⟩ := hSw; go_simp; first | done | with_reducible rfl | simp | omega)
          try simp only [Act.put, List.setIfInBounds_toArray, List.set_cons_zero, List.set_cons_succ]
          refine anyT_take (i := 7) (oi := ?oi7e) (v := .bool true) ?hi7e (by kernel_rfl) ?hq7e ?hy7e (by assumption) ?rest7e
          case hi7e => (simp only [List.getElem?_toArray, List.getElem?_cons_succ, List.getElem?_cons_zero]; first | done | rfl)
          case hq7e => first | exact fun _ _ _ h => h | exact fun _ _ _ h => (by cases h.1)
          case hy7e => (refine Or.inl ⟨by rfl, ?_⟩; intro wz hSw; go_simp; first | done | with_reducible rfl | simp | omega)
          try simp only [Act.put, List.setIfInBounds_toArray, List.set_cons_zero, List.set_cons_succ]
          refine anyT_take (i := 8) (oi := ?oi8e) (v := .bool true) ?hi8e (by kernel_rfl) ?hq8e ?hy8e (by assumption) ?rest8e
          case hi8e => (simp only [List.getElem?_toArray, List.getElem?_cons_succ, List.getElem?_cons_zero]; first | done | rfl)
          case hq8e => first | exact fun _ _ _ h => h | exact fun _ _ _ h => (by cases h.1)
          case hy8e => (refine Or.inl ⟨by rfl, ?_⟩; intro wz hSw; go_simp; first | done | with_reducible rfl | simp | omega)
          try simp only [Act.put, List.setIfInBounds_toArray, List.set_cons_zero, List.set_cons_succ]
          refine anyT_take (i := 9) (oi := ?oi9e) (v := .bool true) ?hi9e (by kernel_rfl) ?hq9e ?hy9e (by assumption) ?rest9e
          case hi9e => (simp only [List.getElem?_toArray, List.getElem?_cons_succ, List.getElem?_cons_zero]; first | done | rfl)
          case hq9e => first | exact fun _ _ _ h => h | exact fun _ _ _ h => (by cases h.1)
          case hy9e => (refine Or.inl ⟨by rfl, ?_⟩; intro wz hSw; go_simp; first | done | with_reducible rfl | simp | omega)
          try simp only [Act.put, List.setIfInBounds_toArray, List.set_cons_zero, List.set_cons_succ]
          refine anyT_take (i := 10) (oi := ?oi10e) (v := .slice (some ⟨ba, oa, none⟩) 5 c2) ?hi10e (by kernel_rfl) ?hq10e ?hy10e (by assumption) ?rest10e
          case hi10e => (simp only [List.getElem?_toArray, List.getElem?_cons_succ, List.getElem?_cons_zero]; first | done | rfl)
          case hq10e => first | exact fun _ _ _ h => h | exact fun _ _ _ h => (by cases h.1)
          case hy10e => (refine Or.inl ⟨by rfl, ?_⟩; intro wz hSw; go_simp; first | done | with_reducible rfl | simp | omega)
          try simp only [Act.put, List.setIfInBounds_toArray, List.set_cons_zero, List.set_cons_succ]
          refine anyT_take (i := 11) (oi := ?oi11e) (v := .pointer (some ⟨ba, oa + 2, none⟩)) ?hi11e (by kernel_rfl) ?hq11e ?hy11e (by assumption) ?rest11e
          case hi11e => (simp only [List.getElem?_toArray, List.getElem?_cons_succ, List.getElem?_cons_zero]; first | done | rfl)
          case hq11e => first | exact fun _ _ _ h => h | exact fun _ _ _ h => (by cases h.1)
          case hy11e => (refine Or.inl ⟨by rfl, ?_⟩; intro wz hSw; go_simp; first | done | with_reducible rfl | simp | omega)
          try simp only [Act.put, List.setIfInBounds_toArray, List.set_cons_zero, List.set_cons_succ]
          refine anyT_take (i := 12) (oi := ?oi12e) (v := .int .i64 cc) ?hi12e (by kernel_rfl) ?hq12e ?hy12e (by assumption) ?rest12e
          case hi12e => (simp only [List.getElem?_toArray, List.getElem?_cons_succ, List.getElem?_cons_zero]; first | done | rfl)
          case hq12e => first | exact fun _ _ _ h => h | exact fun _ _ _ h => (by cases h.1)
          case hy12e => (refine Or.inl ⟨by rfl, ?_⟩; intro wz hSw; obtain ⟨hS1, hS2⟩ := hSw; go_simp; first | done | with_reducible rfl | simp | omega)
          try simp only [Act.put, List.setIfInBounds_toArray, List.set_cons_zero, List.set_cons_succ]
          refine anyT_take (i := 13) (oi := ?oi13e) (v := .slice A1 n c1) ?hi13e (by kernel_rfl) ?hq13e ?hy13e (by assumption) ?rest13e
          case hi13e => (simp only [List.getElem?_toArray, List.getElem?_cons_succ, List.getElem?_cons_zero]; first | done | rfl)
          case hq13e => first | exact fun _ _ _ h => h | exact fun _ _ _ h => (by cases h.1)
          case hy13e => (refine Or.inl ⟨by rfl, ?_⟩; intro wz hSw; go_simp; first | done | with_reducible rfl | simp | omega)
          try simp only [Act.put, List.setIfInBounds_toArray, List.set_cons_zero, List.set_cons_succ]
          refine anyT_one (i := 14) (by kernel_rfl) rfl (fun K' hK => ?_)
          go_simp
          refine (CountIdeals_any A1 n c1 zs Wd hId (by omega) (hT.below hBd hw1) (by omega)).mono ?_
          rw [HCI.out]
          rintro e W2 ⟨rfl, hB2⟩
          have z2 := hB2.size
          have hE2 := hBd.trans (hB2.mono zd)
          have hI2 := hId.to hB2 (Nat.le_refl _) z2
          have ha2 := had.to hB2 (Nat.le_refl _) z2
          have hS2 : (fun w' => w'.cell? ⟨ba, oa + 1, none⟩ = some (.int .i64 1) ∧ w'.cell? ⟨ba, oa + 2, none⟩ = some (.int .i64 cc)) W2 := ⟨(World.cell?_of_block (hB2.block ba (by show ba < Wd.heap.size; omega))).trans hSd.1, (World.cell?_of_block (hB2.block ba (by show ba < Wd.heap.size; omega))).trans hSd.2⟩
          refine hK.out _ _ (fun _ => hS2) ?_
          clear hSd hB2 hId had hBd
          clear hK K'
          try simp only [Act.put, List.setIfInBounds_toArray, List.set_cons_zero, List.set_cons_succ]
          refine anyT_take (i := 15) (oi := ?oi15f) (v := .bool true) ?hi15f (by kernel_rfl) ?hq15f ?hy15f (by assumption) ?rest15f
          case hi15f => (simp only [List.getElem?_toArray, List.getElem?_cons_succ, List.getElem?_cons_zero]; first | done | rfl)
          case hq15f => first | exact fun _ _ _ h => h | exact fun _ _ _ h => (by cases h.1)
          case hy15f => (refine Or.inl ⟨by rfl, ?_⟩; intro wz hSw; go_simp; first | done | with_reducible rfl | simp | omega)
          try simp only [Act.put, List.setIfInBounds_toArray, List.set_cons_zero, List.set_cons_succ]
          refine anyT_take (i := 16) (oi := ?oi16f) (v := .bool true) ?hi16f (by kernel_rfl) ?hq16f ?hy16f (by assumption) ?rest16f
          case hi16f => (simp only [List.getElem?_toArray, List.getElem?_cons_succ, List.getElem?_cons_zero]; first | done | rfl)
          case hq16f => first | exact fun _ _ _ h => h | exact fun _ _ _ h => (by cases h.1)
          case hy16f => (refine Or.inl ⟨by rfl, ?_⟩; intro wz hSw; go_simp; first | done | with_reducible rfl | simp | omega)
          try simp only [Act.put, List.setIfInBounds_toArray, List.set_cons_zero, List.set_cons_succ]
          refine anyT_take (i := 17) (oi := ?oi17f) (v := .bool true) ?hi17f (by kernel_rfl) ?hq17f ?hy17f (by assumption) ?rest17f
          case hi17f => (simp only [List.getElem?_toArray, List.getElem?_cons_succ, List.getElem?_cons_zero]; first | done | rfl)
          case hq17f => first | exact fun _ _ _ h => h | exact fun _ _ _ h => (by cases h.1)
          case hy17f => (refine Or.inl ⟨by rfl, ?_⟩; intro wz hSw; go_simp; first | done | with_reducible rfl | simp | omega)
          try simp only [Act.put, List.setIfInBounds_toArray, List.set_cons_zero, List.set_cons_succ]
          refine anyT_take (i := 18) (oi := ?oi18f) (v := .slice A1 n c1) ?hi18f (by kernel_rfl) ?hq18f ?hy18f (by assumption) ?rest18f
          case hi18f => (simp only [List.getElem?_toArray, List.getElem?_cons_succ, List.getElem?_cons_zero]; first | done | rfl)
          case hq18f => first | exact fun _ _ _ h => h | exact fun _ _ _ h => (by cases h.1)
          case hy18f => (refine Or.inl ⟨by rfl, ?_⟩; intro wz hSw; go_simp; first | done | with_reducible rfl | simp | omega)
          try simp only [Act.put, List.setIfInBounds_toArray, List.set_cons_zero, List.set_cons_succ]
          refine anyT_take (i := 21) (oi := ?oi21f) (v := .slice (some ⟨ba, oa, none⟩) 5 c2) ?hi21f (by kernel_rfl) ?hq21f ?hy21f (by assumption) ?rest21f
          case hi21f => (simp only [List.getElem?_toArray, List.getElem?_cons_succ, List.getElem?_cons_zero]; first | done | rfl)
          case hq21f => first | exact fun _ _ _ h => h | exact fun _ _ _ h => (by cases h.1)
          case hy21f => (refine Or.inl ⟨by rfl, ?_⟩; intro wz hSw; go_simp; first | done | with_reducible rfl | simp | omega)
          try simp only [Act.put, List.setIfInBounds_toArray, List.set_cons_zero, List.set_cons_succ]
          refine anyT_one (i := 19) (by kernel_rfl) rfl (fun K' hK => ?_)
          go_simp
          refine (DualOf_any A1 n c1 zs W2 hI2 (by omega)).mono ?_
          rintro e W3 ⟨A9, m9, c9, rfl, r9, hB3⟩
          have z3 := hB3.size
          have hE3 := hE2.trans (hB3.mono hE2.size)
          have h9 := r9.ints (B := W3.heap.size) (Nat.le_refl _)
          have e9 := r9.len
          have ha3 := ha2.to hB3 (Nat.le_refl _) z3
          rw [HD.out] at h9 e9
          rw [HDN.out, hlen.out] at e9
          subst e9
          have hS3 : (fun w' => w'.cell? ⟨ba, oa + 1, none⟩ = some (.int .i64 1) ∧ w'.cell? ⟨ba, oa + 2, none⟩ = some (.int .i64 cc)) W3 := ⟨(World.cell?_of_block (hB3.block ba (by show ba < W2.heap.size; omega))).trans hS2.1, (World.cell?_of_block (hB3.block ba (by show ba < W2.heap.size; omega))).trans hS2.2⟩
          refine hK.out _ _ (fun _ => hS3) ?_
          clear hS2 hB3 hI2 ha2 hE2 r9
          clear hK K'
          try simp only [Act.put, List.setIfInBounds_toArray, List.set_cons_zero, List.set_cons_succ]
          refine anyT_one (i := 20) (by kernel_rfl) rfl (fun K' hK => ?_)
          go_simp
          refine (LineSums_any A9 _ c9 (du zs) W3 h9 (by omega)).mono ?_
          rw [HDT.out]
          rintro e W4 ⟨A8, m8, c8, rfl, r8, hB4⟩
          have z4 := hB4.size
          have hE4 := hE3.trans (hB4.mono hE3.size)
          have h8 := r8.ints (B := W4.heap.size) (Nat.le_refl _)
          have e8 := r8.len
          have ha4 := ha3.to hB4 (Nat.le_refl _) z4
          rw [hT5] at e8
          subst e8
          have hS4 : (fun w' => w'.cell? ⟨ba, oa + 1, none⟩ = some (.int .i64 1) ∧ w'.cell? ⟨ba, oa + 2, none⟩ = some (.int .i64 cc)) W4 := ⟨(World.cell?_of_block (hB4.block ba (by show ba < W3.heap.size; omega))).trans hS3.1, (World.cell?_of_block (hB4.block ba (by show ba < W3.heap.size; omega))).trans hS3.2⟩
          refine hK.out _ _ (fun _ => hS4) ?_
          clear hS3 hB4 ha3 hE3 r8 h9
          clear hK K'
          try simp only [Act.put, List.setIfInBounds_toArray, List.set_cons_zero, List.set_cons_succ]
          refine anyT_one (i := 22) (by kernel_rfl) rfl (fun K' hK => ?_)
          go_simp
          refine (equalSame_any _ _ _ _ _ _ _ _ _ _ h8 ha4 (by omega) (by omega)).mono ?_
          rintro e W5 ⟨rfl, hB5⟩
          have hE5 := hE4.trans (hB5.mono hE4.size)
          have hS5 : (fun w' => w'.cell? ⟨ba, oa + 1, none⟩ = some (.int .i64 1) ∧ w'.cell? ⟨ba, oa + 2, none⟩ = some (.int .i64 cc)) W5 := ⟨(World.cell?_of_block (hB5.block ba (by show ba < W4.heap.size; omega))).trans hS4.1, (World.cell?_of_block (hB5.block ba (by show ba < W4.heap.size; omega))).trans hS4.2⟩
          refine hK.out _ _ (fun _ => hS5) ?_
          clear hS4 hB5
          clear hK K'
          try simp only [Act.put, List.setIfInBounds_toArray, List.set_cons_zero, List.set_cons_succ]
          refine anyT_take (i := 23) (oi := ?oi23g) (v := .bool true) ?hi23g (by kernel_rfl) ?hq23g ?hy23g (by assumption) ?rest23g
          case hi23g => (simp only [List.getElem?_toArray, List.getElem?_cons_succ, List.getElem?_cons_zero]; first | done | rfl)
          case hq23g => first | exact fun _ _ _ h => h | exact fun _ _ _ h => (by cases h.1)
          case hy23g => (refine Or.inl ⟨by rfl, ?_⟩; intro wz hSw; go_simp; first | done | with_reducible rfl | simp | omega)
          try simp only [Act.put, List.setIfInBounds_toArray, List.set_cons_zero, List.set_cons_succ]
          refine anyT_one (i := 24) (by kernel_rfl) rfl (fun K' hK => ?_)
          go_simp
          refine hK.out _ _ (fun h => absurd rfl h) ?_
          clear hK K'
          try simp only [Act.put, List.setIfInBounds_toArray, List.set_cons_zero, List.set_cons_succ]
          refine anyT_done (by kernel_rfl) ?_ _
          go_wp2_with fail
          go_ret
          exact ⟨rfl, hE5⟩
  · go_enter Tryd.func3, Tryd.ntmps3
    go_wp2
    go_ret
    exact ⟨rfl, Below.refl _ _⟩
end Go.Proofs.YtcadmjpkgnbodaaDoor

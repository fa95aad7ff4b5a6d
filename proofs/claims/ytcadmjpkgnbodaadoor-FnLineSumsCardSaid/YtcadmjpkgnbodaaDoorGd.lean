/- Texts that several claims share, one behind the other. -/
import Derived.Test.YtcadmjpkgnbodaaDoorGc
import Derived.Test.YtcadmjpkgnbodaaDoorGb
import Derived.Test.YtcadmjpkgnbodaaDoorGa
/- Numberings: withOneMore's sum, and whole. -/
namespace Go.Proofs.YtcadmjpkgnbodaaDoor
open Go.RowKit Go.Shelf
attribute [local go_sem] Oper.semAt_some
attribute [local go_sem, local simp] wide_fn

/-- A sum over ideals is small where each number is. -/
theorem oneMore_small {zs : List Int} (hn6 : zs.length ≤ 6) {g : Nat → Int} (hg : ∀ t, 0 ≤ g t ∧ g t ≤ 1000000000) (pre : List Nat) (hp : pre <+: idl zs) : -1000000000000 ≤ lsum g pre ∧ lsum g pre ≤ 1000000000000 := by
  have h1 := lsum_small (g := g) (B := 1000000000) (by decide) (fun x => ⟨by have := (hg x).1; omega, (hg x).2⟩) pre
  have h2 := hp.length_le
  have h3 : (idl zs).length ≤ 2 ^ zs.length := by
    unfold idl
    have := List.length_filter_le (fun j : Nat => idB zs (j : Int)) (List.range (2 ^ zs.length))
    simpa using this
  have h4 : 2 ^ zs.length ≤ 2 ^ 6 := Nat.pow_le_pow_right (by decide) hn6
  have h5 : pre.length ≤ 64 := by omega
  have h6 : (pre.length : Int) ≤ 64 := by omega
  omega

set_option maxRecDepth 100000 in
set_option maxHeartbeats 4000000 in
theorem nsum_any (zs : List Int) (q n : Nat) (F : Value) (ms : Int → Bool) (hF : Shares F zs q ms) (hn6 : zs.length ≤ 6) (I S C Z V s N m c : Nat) (A : Option Addr) (v1 : Value) (cs : List Int) (w : World) (hs : s < 64) (hsn : (s : Int) < powI zs.length)
    (bI : Boxed w I 37 (.int .i64 (s : Int))) (bS : w.heap[S]? = some (.cells #[v1, F] 52 (0, 0))) (bC : Boxed w C 23 (.slice (some ⟨Z, 0, none⟩) N N)) (bV : Boxed w V 32 (.slice A m c)) (hV : Ints w w.heap.size A m ((idl zs).map fun x : Nat => (x : Int)))
    (hA : Arr w q 37 zs) (hZ : Arr w Z 3 cs) (hcl : cs.length = N) (hN : 2 ^ zs.length ≤ N) (hcb : ∀ t : Nat, 0 ≤ cs[t]?.getD 0 ∧ cs[t]?.getD 0 ≤ 1000000000) (hm : m ≤ 64) (hm0 : 0 < m) :
    Calls Tryd.prog 42 #[.func (.func 52) #[] #[.pointer (some ⟨V, 0, none⟩)], .func (.func 44) #[] #[.pointer (some ⟨I, 0, none⟩), .pointer (some ⟨S, 0, none⟩), .pointer (some ⟨C, 0, none⟩)]] w
      fun e W' => e = .returned (.int .i64 (lsum (fun t => if inB' ms s t then cs[t]?.getD 0 else 0) (idl zs))) ∧ Below w.heap.size w W' := by
  have hSl := (Array.getElem?_eq_some_iff.1 bS).1
  have hgb : ∀ t : Nat, 0 ≤ (if inB' ms s t then cs[t]?.getD 0 else 0) ∧ (if inB' ms s t then cs[t]?.getD 0 else 0) ≤ 1000000000 := fun t => by
    have := hcb t
    split <;> omega
  refine (sumOverS_any (gf := 52) (vf := 44) #[.pointer (some ⟨V, 0, none⟩)] #[.pointer (some ⟨I, 0, none⟩), .pointer (some ⟨S, 0, none⟩), .pointer (some ⟨C, 0, none⟩)] (idl zs) (fun t => if inB' ms s t then cs[t]?.getD 0 else 0) w (fun _ => False) (fun i e => e.elim) (fun _ _ => True)
    (enters_of Tryd.func52 (by kernel_rfl) rfl) (enters_of Tryd.func44 (by kernel_rfl) rfl)
    (oneMore_small hn6 hgb)
    (fun W1 M' hu1 hM' _ => ?_)
    (fun pre x W hp hi hu => ?_)
    (fun pre X Y hi hz hu => trivial)
    trivial).mono ?_
  · exact values_iter A m c (idl zs) V M' W1 (hu1.boxed bV (fun e => e)) (fun e => (hM' V e).elim (fun e => e) (fun e => by have := bV.lt; omega)) (hV.to (hu1.toBelow (B := w.heap.size) (fun _ e => e.elim) (Nat.le_refl _)) (Nat.le_refl _) hu1.size) (fun a ha e => (hM' _ e).elim (fun e => e) (fun e => by
      obtain ⟨b, off, rfl, hb, -⟩ := hV.2 hm0
      cases ha
      exact absurd hb (Nat.not_lt.2 e))) hm
  · have hx : x ∈ idl zs := hp.subset (by simp)
    have hx2 := (mem_idl.1 hx).1
    have h64 : 2 ^ zs.length ≤ 2 ^ 6 := Nat.pow_le_pow_right (by decide) hn6
    refine (more1_any zs q n F ms hF I S C Z s x N v1 cs W hs hsn (by omega) (hu.boxed bI (fun e => e)) ((hu.block S hSl (fun e => e)).trans bS) (hu.boxed bC (fun e => e)) (hA.upd hu (fun e => e)) (hZ.upd hu (fun e => e)) hcl (by omega)).mono fun e W' h => ⟨h.1, trivial, (Upd.refl _ W).below h.2 (fun k h1 h2 => by omega)⟩
  · rintro e W' ⟨rfl, -, hU⟩
    exact ⟨rfl, hU.toBelow (fun _ e => e.elim) (Nat.le_refl _)⟩
end Go.Proofs.YtcadmjpkgnbodaaDoor

/- Numberings: withOneMore whole. -/
namespace Go.Proofs.YtcadmjpkgnbodaaDoor
open Go.RowKit Go.Shelf
attribute [local go_sem] Oper.semAt_some
attribute [local go_sem, local simp] wide_fn

/-- The row under way: the first k sets have their number. -/
def rowMore (g : Nat → Int) (L : List Nat) (N k : Nat) : List Int := (List.range N).map fun s => if s ∈ L.take k then g s else 0
theorem rowMore_zero (g : Nat → Int) (L : List Nat) (N : Nat) : rowMore g L N 0 = List.replicate N 0 := by
  apply List.ext_getElem <;> simp [rowMore]
theorem rowMore_len (g : Nat → Int) (L : List Nat) (N k : Nat) : (rowMore g L N k).length = N := by simp [rowMore]
theorem rowMore_succ (g : Nat → Int) (L : List Nat) (N k : Nat) (hk : k < L.length) : (rowMore g L N k).set (L[k]?.getD 0) (g (L[k]?.getD 0)) = rowMore g L N (k + 1) := by
  obtain ⟨e, -⟩ := take_step hk
  apply List.ext_getElem
  · simp [rowMore]
  · intro i h1 h2
    rw [List.getElem_set]
    simp only [rowMore, List.getElem_map, List.getElem_range, e, List.mem_append, List.mem_singleton]
    by_cases hi : L[k]?.getD 0 = i
    · simp [hi]
    · have hi' : ¬ i = L[k]?.getD 0 := fun e => hi e.symm
      simp [hi, hi']
theorem rowMore_full (g : Nat → Int) (L : List Nat) (N : Nat) {k : Nat} (hk : k = L.length) : rowMore g L N k = (List.range N).map fun s => if s ∈ L then g s else 0 := by
  subst hk; simp [rowMore]

set_option maxRecDepth 100000 in
set_option maxHeartbeats 8000000 in
theorem nmore_any (zs : List Int) (q n : Nat) (F : Value) (ms : Int → Bool) (hF : Shares F zs q ms) (hn6 : zs.length ≤ 6) (Z N m c : Nat) (A : Option Addr) (cs : List Int) (w : World)
    (hV : Ints w w.heap.size A m ((idl zs).map fun x : Nat => (x : Int))) (hA : Arr w q 37 zs) (hZ : Arr w Z 3 cs) (hcl0 : cs.length = N) (hN : 2 ^ zs.length ≤ N) (hN64 : N ≤ 64) (hcb : ∀ t : Nat, 0 ≤ cs[t]?.getD 0 ∧ cs[t]?.getD 0 ≤ 1000000000) (hm : m ≤ 64) (hm0 : 0 < m) :
    Calls Tryd.prog 28 #[.agg #[.slice A m c, F], .slice (some ⟨Z, 0, none⟩) N N] w fun e W' => ∃ Z', e = .returned (.slice (some ⟨Z', 0, none⟩) N N) ∧ w.heap.size ≤ Z' ∧
      Arr W' Z' 3 ((List.range N).map fun s => if s ∈ idl zs then lsum (fun t => if inB' ms s t then cs[t]?.getD 0 else 0) (idl zs) else 0) ∧ Below w.heap.size w W' := by
  have hmk := run_make_row' (P := Tryd.prog) 23 3 (.int .i64 0) 8 Tryd.underlying23 infoInt rfl .i64 .i64 N (by omega) (by omega)
  obtain ⟨f, bs, hFe, -, -⟩ := id hF
  subst hFe
  obtain ⟨bA, off, rfl, hbA, hcsA⟩ := hV.2 hm0
  have hVl := hV.1
  have Hil := Lib.hid (show (idl zs).length = m by simpa using hVl)
  have Hcl := Lib.hid hcl0
  clear hVl hcl0
  have hZw := hZ.lt
  have hqw := hA.lt
  have HN := Lib.hid (show ∀ s, s ∈ idl zs → s < N ∧ (s : Int) < powI zs.length from fun s hs => by
    have := (mem_idl.1 hs).1
    exact ⟨by omega, by rw [show powI (zs.length : Int) = ((2 ^ zs.length : Nat) : Int) by simp [powI]]; exact Int.ofNat_lt.2 this⟩)
  have HN2 := Lib.hid hN
  clear hN
  go_enter Tryd.func28, Tryd.ntmps28
  go_wp2
  have bS1 := heap_alloc_new w (.cells #[Value.slice (some ⟨bA, off, none⟩) m c, .func (.func f) bs #[]] 52)
  have hz1 : (w.alloc (.cells #[Value.slice (some ⟨bA, off, none⟩) m c, .func (.func f) bs #[]] 52)).heap.size = w.heap.size + 1 := by simp
  have hu1 : Upd (fun _ => False) w (w.alloc (.cells #[Value.slice (some ⟨bA, off, none⟩) m c, .func (.func f) bs #[]] 52)) := (Upd.refl _ w).alloc _
  obtain ⟨W1, hW1⟩ : ∃ W1, w.alloc (.cells #[Value.slice (some ⟨bA, off, none⟩) m c, .func (.func f) bs #[]] 52) = W1 := ⟨_, rfl⟩
  rw [hW1] at bS1 hz1 hu1 ⊢
  clear hW1
  have bC2 := Boxed.new W1 23 (.slice (some ⟨Z, 0, none⟩) N N)
  have hz2 : (W1.alloc (.cells #[Value.slice (some ⟨Z, 0, none⟩) N N] 23)).heap.size = W1.heap.size + 1 := by simp
  have hu2 : Upd (fun _ => False) W1 (W1.alloc (.cells #[Value.slice (some ⟨Z, 0, none⟩) N N] 23)) := (Upd.refl _ W1).alloc _
  obtain ⟨W2, hW2⟩ : ∃ W2, W1.alloc (.cells #[Value.slice (some ⟨Z, 0, none⟩) N N] 23) = W2 := ⟨_, rfl⟩
  rw [hW2] at bC2 hz2 hu2 ⊢
  clear hW2
  have aZ3 := Arr.new W2 3 N
  have hz3 : (W2.alloc (.cells (madeCells #[.int .i64 0] N) 3)).heap.size = W2.heap.size + 1 := by simp
  have hu3 : Upd (fun _ => False) W2 (W2.alloc (.cells (madeCells #[.int .i64 0] N) 3)) := (Upd.refl _ W2).alloc _
  obtain ⟨W3, hW3⟩ : ∃ W3, W2.alloc (.cells (madeCells #[.int .i64 0] N) 3) = W3 := ⟨_, rfl⟩
  rw [hW3] at aZ3 hz3 hu3 ⊢
  clear hW3 hmk
  have hU3 := (hu1.trans' hu2 (fun i hi e => e)).trans' hu3 (fun i hi e => e)
  have bS3 := ((hu2.trans' hu3 (fun i hi e => e)).block w.heap.size (by omega) (fun e => e)).trans bS1
  have bC3 := hu3.boxed bC2 (fun e => e)
  have hA3 := hA.upd hU3 (fun e => e)
  have hZ3 := hZ.upd hU3 (fun e => e)
  have hV3 : Ints W3 w.heap.size (some ⟨bA, off, none⟩) m ((idl zs).map fun x : Nat => (x : Int)) := hV.below (hU3.toBelow (fun _ e => e.elim) (Nat.le_refl _))
  rw [show W1.heap.size = w.heap.size + 1 from hz1] at bC3
  rw [show W2.heap.size = w.heap.size + 1 + 1 by omega] at aZ3
  obtain ⟨G, hG⟩ : ∃ G : Nat → Int, G = fun s => lsum (fun t => if inB' ms s t then cs[t]?.getD 0 else 0) (idl zs) := ⟨_, rfl⟩
  have HG := Lib.hid (show ∀ s, lsum (fun t => if inB' ms s t then cs[t]?.getD 0 else 0) (idl zs) = G s from fun s => by rw [hG])
  clear hG
  have hZl : Z < w.heap.size := hZw
  have hql : q < w.heap.size := hqw
  clear bS1 bC2 hu1 hu2 hu3 hA hZ hV hcsA
  go_loopw [14] (fun i wr => ∃ k : Nat, k ≤ m ∧ i = .int .i64 k ∧ Arr wr (w.heap.size + 1 + 1) 3 (rowMore G (idl zs) N k) ∧ Upd (fun i => i = w.heap.size + 1 + 1) W3 wr) (fun i _ => m - (intOf i).toNat)
  case atStart => exact ⟨0, by omega, rfl, by rw [rowMore_zero]; exact aZ3, Upd.refl _ _⟩
  case round =>
    obtain ⟨k, hk, rfl, hR, hU⟩ := hrel
    have hsr := hU.size
    by_cases hlt : k < m
    · have hVr : Ints wr w.heap.size (some ⟨bA, off, none⟩) m ((idl zs).map fun x : Nat => (x : Int)) := hV3.below (hU.toBelow (B := w.heap.size) (fun j e => by omega) (by omega))
      obtain ⟨b', off', e', -, hcr⟩ := hVr.2 hm0
      cases e'
      have hck := hcr k hlt
      clear hcr
      obtain ⟨s, hs⟩ : ∃ s : Nat, (idl zs)[k]?.getD 0 = s := ⟨_, rfl⟩
      have hsm : s ∈ idl zs := by rw [← hs, List.getElem?_eq_getElem (by rw [Hil.out]; exact hlt)]; exact List.getElem_mem _
      have hse : ((idl zs).map fun x : Nat => (x : Int))[k]?.getD 0 = (s : Int) := by rw [← hs]; simp [List.getElem?_map, List.getElem?_eq_getElem (show k < (idl zs).length by rw [Hil.out]; exact hlt)]
      rw [hse] at hck
      have Hrs := Lib.hid (show (rowMore G (idl zs) N k).set s (G s) = rowMore G (idl zs) N (k + 1) by rw [← hs]; exact rowMore_succ G (idl zs) N k (by rw [Hil.out]; exact hlt))
      clear hse hs
      obtain ⟨hsN, hsp⟩ := HN.out s hsm
      clear hsm
      go_wp2
      have bI := Boxed.new wr 37 (.int .i64 (s : Int))
      have hui : Upd (fun _ => False) wr (wr.alloc (.cells #[Value.int .i64 (s : Int)] 37)).drew := ((Upd.refl _ wr).alloc _).drew
      have bId : Boxed (wr.alloc (.cells #[Value.int .i64 (s : Int)] 37)).drew wr.heap.size 37 (.int .i64 (s : Int)) := bI
      have hzd : wr.heap.size < (wr.alloc (.cells #[Value.int .i64 (s : Int)] 37)).drew.heap.size := by show _ < (wr.alloc _).heap.size; simp
      refine region_T (S := (fun w' => w'.cell? ⟨wr.heap.size, 0, none⟩ = some (.int .i64 (s : Int)) ∧ w'.cell? ⟨w.heap.size, 0, none⟩ = some (.slice (some ⟨bA, off, none⟩) m c))) 8 (by kernel_rfl) ?_
      obtain ⟨Wd, hWd⟩ : ∃ Wd, (wr.alloc (.cells #[Value.int .i64 (s : Int)] 37)).drew = Wd := ⟨_, rfl⟩
      rw [hWd] at hui bId hzd ⊢
      clear hWd bI
      have hUd := hU.trans' hui (fun i hi e => e.elim)
      have bSd := (hUd.block w.heap.size (by omega) (fun e => by omega)).trans bS3
      have hcSd : Wd.cell? ⟨w.heap.size, 0, none⟩ = some (.slice (some ⟨bA, off, none⟩) m c) := by rw [cell_of_row _ _ 0 _ _ (0, 0) bSd]; rfl
      have hSd : (fun w' => w'.cell? ⟨wr.heap.size, 0, none⟩ = some (.int .i64 (s : Int)) ∧ w'.cell? ⟨w.heap.size, 0, none⟩ = some (.slice (some ⟨bA, off, none⟩) m c)) Wd := ⟨bId.cell, hcSd⟩
      refine anyT_take (i := 0) (oi := ?oi0a) (v := .slice (some ⟨w.heap.size + 1 + 1, 0, none⟩) N N) ?hi0a (by kernel_rfl) ?hq0a ?hy0a (by assumption) ?rest0a
      case hi0a => (simp only [List.getElem?_toArray, List.getElem?_cons_zero]; first | done | rfl)
      case hq0a => first | exact fun _ _ _ h => h | exact fun _ _ _ h => (by cases h.1)
      case hy0a => (refine Or.inl ⟨by rfl, ?_⟩; intro wz hSw; obtain ⟨hS1, hS2⟩ := hSw; go_simp; first | done | with_reducible rfl | simp | omega)
      try simp only [Act.put, List.setIfInBounds_toArray, List.set_cons_zero, List.set_cons_succ]
      refine anyT_take (i := 1) (oi := ?oi1a) (v := .int .i64 (s : Int)) ?hi1a (by kernel_rfl) ?hq1a ?hy1a (by assumption) ?rest1a
      case hi1a => (simp only [List.getElem?_toArray, List.getElem?_cons_succ, List.getElem?_cons_zero]; first | done | rfl)
      case hq1a => first | exact fun _ _ _ h => h | exact fun _ _ _ h => (by cases h.1)
      case hy1a => (refine Or.inl ⟨by rfl, ?_⟩; intro wz hSw; obtain ⟨hS1, hS2⟩ := hSw; go_simp; first | done | with_reducible rfl | simp | omega)
      try simp only [Act.put, List.setIfInBounds_toArray, List.set_cons_zero, List.set_cons_succ]
      refine anyT_take (i := 2) (oi := ?oi2a) (v := .pointer (some ⟨w.heap.size, 0, none⟩)) ?hi2a (by kernel_rfl) ?hq2a ?hy2a (by assumption) ?rest2a
      case hi2a => (simp only [List.getElem?_toArray, List.getElem?_cons_succ, List.getElem?_cons_zero]; first | done | rfl)
      case hq2a => first | exact fun _ _ _ h => h | exact fun _ _ _ h => (by cases h.1)
      case hy2a => (refine Or.inl ⟨by rfl, ?_⟩; intro wz hSw; obtain ⟨hS1, hS2⟩ := hSw; go_simp; first | done | with_reducible rfl | simp | omega)
      try simp only [Act.put, List.setIfInBounds_toArray, List.set_cons_zero, List.set_cons_succ]
      refine anyT_take (i := 3) (oi := ?oi3a) (v := .slice (some ⟨bA, off, none⟩) m c) ?hi3a (by kernel_rfl) ?hq3a ?hy3a (by assumption) ?rest3a
      case hi3a => (simp only [List.getElem?_toArray, List.getElem?_cons_succ, List.getElem?_cons_zero]; first | done | rfl)
      case hq3a => first | exact fun _ _ _ h => h | exact fun _ _ _ h => (by cases h.1)
      case hy3a => (refine Or.inl ⟨by rfl, ?_⟩; intro wz hSw; obtain ⟨hS1, hS2⟩ := hSw; go_simp; first | done | with_reducible rfl | simp | omega)
      try simp only [Act.put, List.setIfInBounds_toArray, List.set_cons_zero, List.set_cons_succ]
      refine anyT_take (i := 5) (oi := ?oi5a) (v := .func (.func 44) #[] #[.pointer (some ⟨wr.heap.size, 0, none⟩), .pointer (some ⟨w.heap.size, 0, none⟩), .pointer (some ⟨w.heap.size + 1, 0, none⟩)]) ?hi5a (by kernel_rfl) ?hq5a ?hy5a (by assumption) ?rest5a
      case hi5a => (simp only [List.getElem?_toArray, List.getElem?_cons_succ, List.getElem?_cons_zero]; first | done | rfl)
      case hq5a => first | exact fun _ _ _ h => h | exact fun _ _ _ h => (by cases h.1)
      case hy5a => (refine Or.inl ⟨by rfl, ?_⟩; intro wz hSw; obtain ⟨hS1, hS2⟩ := hSw; go_simp; first | done | with_reducible rfl | simp | omega)
      try simp only [Act.put, List.setIfInBounds_toArray, List.set_cons_zero, List.set_cons_succ]
      refine anyT_one (i := 4) (by kernel_rfl) rfl (fun K' hK => ?_)
      go_simp
      refine (values_any (some ⟨bA, off, none⟩) m c Wd).mono ?_
      rintro e w' ⟨rfl, rfl⟩
      have bV := Boxed.new Wd 32 (.slice (some ⟨bA, off, none⟩) m c)
      have hu5 := (Upd.refl (fun _ => False) Wd).alloc (.cells #[Value.slice (some ⟨bA, off, none⟩) m c] 32)
      obtain ⟨W5, hW5⟩ : ∃ W5, Wd.alloc (.cells #[Value.slice (some ⟨bA, off, none⟩) m c] 32) = W5 := ⟨_, rfl⟩
      rw [hW5] at bV hu5 ⊢
      clear hW5
      have hsz5 := hu5.size
      have hU5 := hUd.trans' hu5 (fun i hi e => e.elim)
      have bI5 := hu5.boxed bId (fun e => e)
      have bS5 := (hu5.block w.heap.size (by omega) (fun e => e)).trans bSd
      have hcS5 : W5.cell? ⟨w.heap.size, 0, none⟩ = some (.slice (some ⟨bA, off, none⟩) m c) := by rw [cell_of_row _ _ 0 _ _ (0, 0) bS5]; rfl
      have hS5 : (fun w' => w'.cell? ⟨wr.heap.size, 0, none⟩ = some (.int .i64 (s : Int)) ∧ w'.cell? ⟨w.heap.size, 0, none⟩ = some (.slice (some ⟨bA, off, none⟩) m c)) W5 := ⟨bI5.cell, hcS5⟩
      have bC5 := hU5.boxed bC3 (fun e => by omega)
      have hA5 := hA3.upd hU5 (fun e => by omega)
      have hZ5 := hZ3.upd hU5 (fun e => by omega)
      have hR5 := (hR.upd hui (fun e => e)).upd hu5 (fun e => e)
      have hV5 : Ints W5 W5.heap.size (some ⟨bA, off, none⟩) m ((idl zs).map fun x : Nat => (x : Int)) := hV3.to (hU5.toBelow (B := w.heap.size) (fun j e => by omega) (by omega)) (Nat.le_refl _) (by have := hU5.size; omega)
      refine hK.out _ _ (fun _ => hS5) ?_
      clear hK K'
      try simp only [Act.put, List.setIfInBounds_toArray, List.set_cons_zero, List.set_cons_succ]
      refine anyT_one (i := 6) (by kernel_rfl) rfl (fun K' hK => ?_)
      go_simp
      have hns := nsum_any zs q n (.func (.func f) bs #[]) ms hF hn6 wr.heap.size w.heap.size (w.heap.size + 1) Z Wd.heap.size s N m c (some ⟨bA, off, none⟩) _ cs W5 (by omega) hsp bI5 bS5 bC5 bV hV5 hA5 hZ5 Hcl.out HN2.out hcb hm hm0
      rw [HG.out] at hns
      refine hns.mono ?_
      clear hns
      rintro e w6 ⟨rfl, hB6⟩
      have hu6 := (Upd.refl (fun _ => False) W5).below hB6 (fun j h1 h2 => by omega)
      have hU6 := hU5.trans' hu6 (fun i hi e => e.elim)
      have bS6 := (hu6.block w.heap.size (by omega) (fun e => e)).trans bS5
      have hcS6 : w6.cell? ⟨w.heap.size, 0, none⟩ = some (.slice (some ⟨bA, off, none⟩) m c) := by rw [cell_of_row _ _ 0 _ _ (0, 0) bS6]; rfl
      have hS6 : (fun w' => w'.cell? ⟨wr.heap.size, 0, none⟩ = some (.int .i64 (s : Int)) ∧ w'.cell? ⟨w.heap.size, 0, none⟩ = some (.slice (some ⟨bA, off, none⟩) m c)) w6 := ⟨(hu6.boxed bI5 (fun e => e)).cell, hcS6⟩
      have hR6 := hR5.upd hu6 (fun e => e)
      have hcs := hR6.cell (k := s) (by rw [rowMore_len]; exact hsN)
      have hfs := hR6.frozen s
      refine hK.out _ _ (fun _ => hS6) ?_
      clear hK K'
      try simp only [Act.put, List.setIfInBounds_toArray, List.set_cons_zero, List.set_cons_succ]
      refine anyT_one (i := 7) (by kernel_rfl) rfl (fun K' hK => ?_)
      go_simp
      refine hK.out _ _ (fun _ => hS6) ?_
      clear hK K'
      try simp only [Act.put, List.setIfInBounds_toArray, List.set_cons_zero, List.set_cons_succ]
      refine anyT_one (i := 8) (by kernel_rfl) rfl (fun K' hK => ?_)
      go_simp
      refine hK.out _ _ (fun h => absurd rfl h) ?_
      clear hK K'
      try simp only [Act.put, List.setIfInBounds_toArray, List.set_cons_zero, List.set_cons_succ]
      refine anyT_done (by kernel_rfl) ?_ _
      go_wp2
      go_roundw
      case rel => exact ⟨k + 1, by omega, by go_num, by rw [← Hrs.out]; exact hR6.set _ _, hU6.setCell (p := ⟨w.heap.size + 1 + 1, s, none⟩) (.inr rfl) _⟩
      case measure => simp [intOf]; omega
    · obtain rfl : k = m := by omega
      go_wp2
      go_ret
      exact ⟨_, rfl, by omega, by simp only [HG.out]; rw [← rowMore_full _ _ _ Hil.out.symm]; exact hR, (hU3.trans' hU (fun i hi e => by omega)).toBelow (R := fun _ => False) (fun _ e => e.elim) (Nat.le_refl _)⟩
end Go.Proofs.YtcadmjpkgnbodaaDoor

/- Numberings: the program's counts, number by number. -/
namespace Go.Proofs.YtcadmjpkgnbodaaDoor
open Go.RowKit Go.Shelf

def cntL (ms : Int → Bool) (zs : List Int) (k : Nat) : List Int := (List.range (2 ^ zs.length)).map fun s => if s ∈ idl zs then (pN ms zs k s : Int) else 0
theorem cntL_len (ms : Int → Bool) (zs : List Int) (k : Nat) : (cntL ms zs k).length = 2 ^ zs.length := by simp [cntL]
theorem cntL_at (ms : Int → Bool) (zs : List Int) (k : Nat) {s : Nat} (h : s ∈ idl zs) : (cntL ms zs k)[s]?.getD 0 = (pN ms zs k s : Int) := by
  have hs := (mem_idl.1 h).1
  simp [cntL, List.getElem?_map, List.getElem?_range hs, h]
theorem nsum_le {α : Type} (f : α → Nat) (B : Nat) (hf : ∀ x, f x ≤ B) : ∀ l : List α, (l.map f).sum ≤ l.length * B
  | [] => by simp
  | x :: l => by
    have h1 := nsum_le f B hf l
    have h2 := hf x
    simp only [List.map_cons, List.sum_cons, List.length_cons, Nat.add_mul, Nat.one_mul]
    omega
theorem idl_len_le {zs : List Int} (hn6 : zs.length ≤ 6) : (idl zs).length ≤ 64 := by
  have h3 : (idl zs).length ≤ 2 ^ zs.length := by
    unfold idl
    have := List.length_filter_le (fun j : Nat => idB zs (j : Int)) (List.range (2 ^ zs.length))
    simpa using this
  have h4 : 2 ^ zs.length ≤ 2 ^ 6 := Nat.pow_le_pow_right (by decide) hn6
  omega
theorem pN_le {ms : Int → Bool} {zs : List Int} (hn6 : zs.length ≤ 6) : ∀ k s : Nat, pN ms zs k s ≤ 64 ^ k
  | 0, s => by rw [pN]; split <;> simp
  | k + 1, s => by
    rw [pN]
    have h1 := nsum_le (fun t => if inB' ms s t then pN ms zs k t else 0) (64 ^ k) (fun t => by
      have := pN_le (ms := ms) hn6 k t
      show (if inB' ms s t then pN ms zs k t else 0) ≤ 64 ^ k
      split <;> omega) (idl zs)
    have h2 := Nat.mul_le_mul_right (64 ^ k) (idl_len_le hn6)
    rw [Nat.pow_succ]
    omega
theorem pN_small {ms : Int → Bool} {zs : List Int} (hn6 : zs.length ≤ 6) {k : Nat} (hk : k ≤ 4) (s : Nat) : pN ms zs k s ≤ 1000000000 :=
  Nat.le_trans (pN_le hn6 k s) (Nat.le_trans (Nat.pow_le_pow_right (by decide) hk) (by decide))
theorem cntL_bd {ms : Int → Bool} {zs : List Int} (hn6 : zs.length ≤ 6) {k : Nat} (hk : k ≤ 4) (t : Nat) : 0 ≤ (cntL ms zs k)[t]?.getD 0 ∧ (cntL ms zs k)[t]?.getD 0 ≤ 1000000000 := by
  rcases Nat.lt_or_ge t (2 ^ zs.length) with h | h
  · have hp := pN_small (ms := ms) hn6 hk t
    have e : (cntL ms zs k)[t]?.getD 0 = if t ∈ idl zs then (pN ms zs k t : Int) else 0 := by simp [cntL, List.getElem?_map, List.getElem?_range h]
    rw [e]
    split <;> omega
  · rw [List.getElem?_eq_none (by rw [cntL_len]; exact h)]
    decide
theorem lsum_cast (f : Nat → Nat) (g : Nat → Int) : ∀ l : List Nat, (∀ x ∈ l, g x = (f x : Int)) → lsum g l = ((l.map f).sum : Nat)
  | [], _ => rfl
  | x :: l, h => by
    rw [lsum_cons, lsum_cast f g l (fun y hy => h y (List.mem_cons_of_mem _ hy)), h x List.mem_cons_self, List.map_cons, List.sum_cons]
    omega
/-- One number more. -/
theorem cntL_more (ms : Int → Bool) (zs : List Int) (k : Nat) : ((List.range (2 ^ zs.length)).map fun s => if s ∈ idl zs then lsum (fun t => if inB' ms s t then (cntL ms zs k)[t]?.getD 0 else 0) (idl zs) else 0) = cntL ms zs (k + 1) := by
  unfold cntL
  refine List.map_congr_left fun s _ => ?_
  split
  · rw [pN]
    refine lsum_cast _ _ _ fun t ht => ?_
    have := cntL_at ms zs k ht
    unfold cntL at this
    rw [this]
    split <;> rfl
  · rfl
theorem cntL_zero {ms : Int → Bool} {zs : List Int} (h0 : 0 ∈ idl zs) : cntL ms zs 0 = (List.replicate (2 ^ zs.length) 0).set 0 1 := by
  apply List.ext_getElem
  · simp [cntL]
  · intro i h1 h2
    rw [List.getElem_set]
    simp only [cntL, List.getElem_map, List.getElem_range, List.getElem_replicate, pN]
    by_cases hi : 0 = i
    · subst hi; simp [h0]
    · have hi' : ¬ i = 0 := fun e => hi e.symm
      simp [hi, hi']
end Go.Proofs.YtcadmjpkgnbodaaDoor

/- Numberings: countNumberings. -/
namespace Go.Proofs.YtcadmjpkgnbodaaDoor
open Go.RowKit Go.Shelf
attribute [local go_sem] Oper.semAt_some
attribute [local go_sem, local simp] wide_fn




theorem store_fun (P : Program) (w : World) (a : Addr) (f : Fn) (bs cs : Array Value) (m : Mode) : (store a (.func f bs cs) m).run P w = stored P w a (.func f bs cs) m := run_store P w a _ m rfl
attribute [local go_sem] store_fun

/-- In how many ways all items are numbered, for the first k numbers. -/
def totL (ms : Int → Bool) (zs : List Int) (k : Nat) : List Int := (List.range k).map fun j => (pN ms zs j (2 ^ zs.length - 1) : Int)
theorem totL_succ (ms : Int → Bool) (zs : List Int) (k : Nat) : totL ms zs (k + 1) = totL ms zs k ++ [(pN ms zs k (2 ^ zs.length - 1) : Int)] := by unfold totL; rw [List.range_succ, List.map_append]; rfl
theorem totL_len (ms : Int → Bool) (zs : List Int) (k : Nat) : (totL ms zs k).length = k := by simp [totL]
theorem own_lit (w : World) (e : TypeId) (u : Value) : (w.alloc (.cells #[u] e)).ownsRow w.heap.size e 1 (.slice (some ⟨w.heap.size, 0, none⟩) 1 1) 1 [u] :=
  ⟨rfl, .inr ⟨w.heap.size, 1, #[u], rfl, Nat.le_refl _, by show (w.heap.push _)[w.heap.size]? = _; simp, Nat.le_refl _, by simp [maxLen], rfl, rfl⟩⟩
theorem all_idl {zs : List Int} (h : VoP zs) : 2 ^ zs.length - 1 ∈ idl zs := by
  have hp : 0 < (2 : Nat) ^ zs.length := Nat.pow_pos (by decide)
  have hlt : 2 ^ zs.length - 1 < 2 ^ zs.length := by omega
  refine mem_idl.2 ⟨hlt, (idN_iff h hlt).2 fun a b _ hab => ?_⟩
  rw [Nat.testBit_two_pow_sub_one]
  exact decide_eq_true (upw_lt.1 hab).1
theorem zero_idl {zs : List Int} (h : VoP zs) : 0 ∈ idl zs := by
  have hp : 0 < (2 : Nat) ^ zs.length := Nat.pow_pos (by decide)
  exact mem_idl.2 ⟨hp, (idN_iff h hp).2 fun a b hb _ => by simp at hb⟩
theorem sets_idl (zs : List Int) : setsTo (idB zs) (2 ^ zs.length) = (idl zs).map fun x : Nat => (x : Int) := by
  first | rfl | (unfold setsTo idl; rfl) | (unfold setsTo idl; simp [List.filter_map]; rfl)

set_option maxRecDepth 100000 in
set_option maxHeartbeats 8000000 in
theorem numberings_any (zs : List Int) (q n : Nat) (F : Value) (ms : Int → Bool) (hF : Shares F zs q ms) (hvo : VoP zs) (hlen0 : zs.length = n) (w : World) (hA : Arr w q 37 zs) :
    Calls Tryd.prog 13 #[.slice (some ⟨q, 0, none⟩) n n, F] w fun e W' => ∃ v, e = .returned v ∧ OwnS (fun k => w.heap.size ≤ k) W' w.heap.size 3 v (totL ms zs 5) ∧ Below w.heap.size w W' := by
  have hn6 : zs.length ≤ 6 := hvo.1
  obtain ⟨i0, hi0, hz0i, hz1i, hz2i⟩ := info_parts infoInt
  obtain ⟨f, bs, hFe, -, -⟩ := id hF
  subst hFe
  have Hlen := Lib.hid hlen0
  have hall := fun w => oall_any (some ⟨q, 0, none⟩) n n w (by omega)
  have hid := oideals_any (some ⟨q, 0, none⟩) n n zs hvo w (hA.ints' hA.lt hlen0)
  obtain ⟨N, hN⟩ : ∃ N : Nat, N = 2 ^ n := ⟨_, rfl⟩
  have hNp : powI n = (N : Int) := by rw [hN]; simp [powI]
  have hN64 : N ≤ 64 := by
    have : 2 ^ n ≤ 2 ^ 6 := Nat.pow_le_pow_right (by decide) (by omega)
    omega
  have hN0 : 0 < N := by rw [hN]; exact Nat.pow_pos (by decide)
  rw [hNp] at hall
  rw [← hN] at hid
  have hsi : setsTo (idB zs) N = (idl zs).map fun x : Nat => (x : Int) := by rw [hN, ← hlen0]; exact sets_idl zs
  rw [hsi] at hid
  have hNz : 2 ^ zs.length = N := by rw [hN, ← hlen0]
  have Hal := Lib.hid (all_idl hvo)
  have Hc0 := Lib.hid (cntL_zero (ms := ms) (zero_idl hvo))
  have HcN := Lib.hid (fun k => (cntL_len ms zs k).trans hNz)
  have Htop := Lib.hid (fun k => cntL_at ms zs k Hal.out)
  have Hmore := Lib.hid (fun k => cntL_more ms zs k)
  have Hts := Lib.hid (fun k => totL_succ ms zs k)
  rw [hNz] at Hal Hc0 Htop Hmore Hts
  have Hnz := Lib.hid hNz
  clear hNz hsi
  have HN := Lib.hid hN
  clear hN hNp hlen0
  have hmk := run_make_row' (P := Tryd.prog) 23 3 (.int .i64 0) 8 Tryd.underlying23 infoInt rfl .i64 .i64 N (by omega) (by omega)
  have hwr : wrap64 ((N : Int) - 1 + 1) = (N : Int) := (IntWalk.wrap64_in _ ⟨by omega, by omega⟩).trans (by omega)
  obtain ⟨y, hy⟩ : ∃ y : Int, y = ((List.replicate N (0 : Int)).set 0 1)[N - 1]?.getD 0 := ⟨_, rfl⟩
  have Hset := Lib.hid (show (madeCells #[Value.int .i64 0] N).setIfInBounds 0 (Value.int .i64 1) = (((List.replicate N (0 : Int)).set 0 1).map (Value.int .i64)).toArray by
      apply Array.ext
      · simp [madeCells]
      · intro i h1 h2
        simp only [Array.getElem_setIfInBounds, List.getElem_toArray, List.getElem_map, List.getElem_set, List.getElem_replicate]
        by_cases hi : 0 = i
        · simp [hi]
        · rw [Array.getElem_setIfInBounds_ne (by simpa [madeCells] using h1) hi]
          simp [hi, madeCells, Nat.mod_one])
  have hel : ((madeCells #[Value.int .i64 0] N).setIfInBounds 0 (Value.int .i64 1))[N - 1]? = some (.int .i64 y) := by
    rw [Hset.out, hy]
    rw [List.getElem?_toArray, List.getElem?_map, List.getElem?_eq_getElem (by simp; omega)]
    rfl
  have hel0 : (madeCells #[Value.int .i64 0] N)[0]? = some (.int .i64 0) := by
    rw [Array.getElem?_eq_getElem (by simp [madeCells]; omega)]
    simp [madeCells]
  have Hy := Lib.hid hy
  clear hy
  go_enter Tryd.func13, Tryd.ntmps13
  go_wp2_with fail
  refine hid.mono ?_
  rintro e w1 ⟨A', m, c', rfl, hI, hB1⟩
  go_wp2_with (go_at_call 18; refine (hall _).mono ?_; rintro e w' ⟨rfl, rfl⟩)
  have hm64 : m ≤ 64 := by
    have h1 := hI.len
    rw [List.length_map] at h1
    rw [← h1]; exact idl_len_le hn6
  have hm0 : 0 < m := by
    have h1 := hI.len
    rw [List.length_map] at h1
    rw [← h1]; exact List.length_pos_of_mem Hal.out
  have z1 := hB1.size
  have hbox : ((w1.alloc (.cells #[Value.slice A' m c', .func (.func f) bs #[]] 52)).alloc (.cells ((madeCells #[Value.int .i64 0] N).setIfInBounds 0 (.int .i64 1)) 3)).heap[w1.heap.size]? = some (.cells #[Value.slice A' m c', .func (.func f) bs #[]] 52 (0, 0)) :=
    (Below.heap_alloc _ _ _ (by simp)).trans (heap_alloc_new w1 _)
  have hcn := heap_alloc_new (w1.alloc (.cells #[Value.slice A' m c', .func (.func f) bs #[]] 52)) (.cells ((madeCells #[Value.int .i64 0] N).setIfInBounds 0 (.int .i64 1)) 3)
  rw [World.size_alloc] at hcn
  have hU0 : Upd (fun _ => False) w1 ((w1.alloc (.cells #[Value.slice A' m c', .func (.func f) bs #[]] 52)).alloc (.cells ((madeCells #[Value.int .i64 0] N).setIfInBounds 0 (.int .i64 1)) 3)) := ((Upd.refl _ w1).alloc _).alloc _
  have hz0 : ((w1.alloc (.cells #[Value.slice A' m c', .func (.func f) bs #[]] 52)).alloc (.cells ((madeCells #[Value.int .i64 0] N).setIfInBounds 0 (.int .i64 1)) 3)).heap.size = w1.heap.size + 2 := by simp
  have e2 : w1.heap.size + 1 + 1 = ((w1.alloc (.cells #[Value.slice A' m c', .func (.func f) bs #[]] 52)).alloc (.cells ((madeCells #[Value.int .i64 0] N).setIfInBounds 0 (.int .i64 1)) 3)).heap.size := by simp
  rw [e2]
  clear e2
  have hcnt : ((madeCells #[Value.int .i64 0] N).setIfInBounds 0 (.int .i64 1)) = ((cntL ms zs 0).map (Value.int .i64)).toArray := by rw [Hc0.out]; exact Hset.out
  obtain ⟨W0, hW0⟩ : ∃ W0, (w1.alloc (.cells #[Value.slice A' m c', .func (.func f) bs #[]] 52)).alloc (.cells ((madeCells #[Value.int .i64 0] N).setIfInBounds 0 (.int .i64 1)) 3) = W0 := ⟨_, rfl⟩
  rw [hW0] at hbox hcn hU0 hz0 ⊢
  rw [hcnt] at hcn
  have hAr0 : Arr W0 (w1.heap.size + 1) 3 (cntL ms zs 0) := hcn
  clear hW0 hcnt hcn hel hel0 hmk
  have hOl := own_lit W0 3 (.int .i64 y)
  have hy0 := Lib.hid (show y = (pN ms zs 0 (N - 1) : Int) by rw [Hy.out, ← Htop.out, Hc0.out])
  have HU0 := Lib.hid hU0
  have hU1 : Upd (fun _ => False) W0 (W0.alloc (.cells #[Value.int .i64 y] 3)) := (Upd.refl _ W0).alloc _
  have hAr1 := hAr0.alloc (.cells #[Value.int .i64 y] 3)
  have hz1 : W0.heap.size < (W0.alloc (.cells #[Value.int .i64 y] 3)).heap.size := by simp
  obtain ⟨W1, hW1⟩ : ∃ W1, W0.alloc (.cells #[Value.int .i64 y] 3) = W1 := ⟨_, rfl⟩
  rw [hW1] at hOl hU1 hAr1 hz1 ⊢
  clear hW1 hAr0 hU0
  obtain ⟨hz0a, hz0b⟩ : w1.heap.size + 2 ≤ W0.heap.size ∧ W0.heap.size ≤ w1.heap.size + 2 := by omega
  clear hz0
  go_loopw [6, 7, 24] (fun cv tv i wr => ∃ k Z : Nat, k ≤ 4 ∧ i = .int .i64 k ∧ cv = .slice (some ⟨Z, 0, none⟩) N N ∧ w1.heap.size < Z ∧ Arr wr Z 3 (cntL ms zs k) ∧ (OwnS (fun j => W0.heap.size ≤ j) wr W0.heap.size 3 tv (totL ms zs (k + 1)) ∧ ∀ j, tv.ownBlock = some j → j ≠ Z) ∧ Upd (fun _ => False) W0 wr ∧ W0.heap.size < wr.heap.size) (fun _ _ i _ => 4 - (intOf i).toNat)
  case atStart => exact ⟨0, w1.heap.size + 1, by omega, rfl, rfl, by omega, hAr1, ⟨⟨fun j hj => by simp [Value.ownBlock] at hj; omega, by rw [totL_succ, Hnz.out, ← hy0.out]; exact hOl⟩, fun j hj => by simp [Value.ownBlock] at hj; omega⟩, hU1, hz1⟩
  case round =>
    clear hU1 hAr1 hOl
    obtain ⟨k, Z, hk, rfl, rfl, hZ1, hAr, ⟨hO, hne⟩, hU, hz⟩ := hrel
    rename World => wx
    have hB0x : Below W0.heap.size W0 wx := hU.toBelow (fun _ e => e.elim) (Nat.le_refl _)
    have hB1x : Below w1.heap.size w1 wx := (HU0.out.toBelow (fun _ e => e.elim) (Nat.le_refl _)).trans (hB0x.mono (by omega))
    by_cases hlt : k < 4
    · have hboxr := (hB0x.block w1.heap.size (by omega)).trans hbox
      have hVx : Ints wx wx.heap.size A' m ((idl zs).map fun x : Nat => (x : Int)) := (hI.below hB1x).more (by omega)
      have hAq := (hA.below hB1 hA.lt).below hB1x (by have := hA.lt; omega)
      have hlt2 : decide ((k : Int) < 4) = true := decide_eq_true (by omega)
      go_wp2_with (refine wpList_load_row rfl _ _ rfl w1.heap.size rfl _ _ (0, 0) _ hboxr Tryd.underlying52 rfl (by kernel_rfl) ?_)
      refine (nmore_any zs q n (.func (.func f) bs #[]) ms hF hn6 Z N m c' A' (cntL ms zs k) wx hVx hAq hAr (HcN.out k) (Nat.le_of_eq Hnz.out) hN64 (cntL_bd hn6 (by omega)) hm64 hm0).mono ?_
      rintro e w2 ⟨Z', rfl, hZ', hAr2, hB2⟩
      rw [Hmore.out k] at hAr2
      have z2 := hB2.size
      have hZl := hAr2.lt
      have hcN := hAr2.cell (k := N - 1) (by rw [HcN.out]; omega)
      rw [Htop.out] at hcN
      have hbelow := own_lt' hO.2
      have hO2 : OwnS (fun j => W0.heap.size ≤ j ∧ j < wx.heap.size) w2 W0.heap.size 3 _ (totL ms zs (k + 1)) := OwnS.keep (S := fun j => W0.heap.size ≤ j ∧ j < wx.heap.size) ⟨fun j hj => ⟨hO.1 j hj, hbelow j hj⟩, hO.2⟩ (R := fun j => wx.heap.size ≤ j) (Below.toUpd hB2) (fun j hj e => by omega)
      have Htl := Lib.hid (totL_len ms zs (k + 1))
      have Htk := Lib.hid (Hts.out (k + 1))
      have hU2 : Upd (fun _ => False) W0 w2 := hU.below hB2 (fun k h1 h2 => by omega)
      generalize (pN ms zs (k + 1) (N - 1) : Int) = p at *
      clear hVx hAq hAr hboxr hO
      go_wp2_with (first
        | (go_at_call 18; with_reducible refine (hall _).mono ?_; rintro e w' ⟨rfl, rfl⟩)
        | (at_builtin; refine wpList_append1 _ rfl (.tmp 29) (.tmp 35) _ rfl W0.heap.size 3 i0 _ 8 Tryd.underlying23 hi0 hz0i hz1i hz2i rfl _ (totL ms zs (k + 1)).length _ rfl (hO2.2.alloc _) w2.heap.size 1 (.int .i64 p) rfl (cell_new _ _ _) rfl (by rw [Htl.out]; omega) (by rw [Htl.out]; omega) (by simp; omega) ?_; rintro v' w' hown' hg' hv'))
      have zg := hg'.size
      simp at zg
      have hArw : Arr w' Z' 3 (cntL ms zs (k + 1)) := (hg'.block Z' (by simp; omega) (fun e => by have := hO2.1 Z' e.symm; omega)).trans (hAr2.alloc _)
      go_roundw
      case rel => exact ⟨k + 1, Z', by omega, by go_num, rfl, by omega, hArw, ⟨by rw [Htk.out]; exact hO2.step hown' hv' (fun j hj => hj.1) (fun _ => by omega), fun j hj e => by
        rcases hv' with h1 | h1
        · have := hO2.1 j (h1 ▸ hj); omega
        · rw [h1] at hj; simp at hj; omega⟩, (hU2.alloc _).grown hg' (fun j hj => .inl (hO2.1 j hj).1), by omega⟩
      case measure => simp [intOf]; omega
    · obtain rfl : k = 4 := by omega
      have hlt2 : decide (((4 : Nat) : Int) < 4) = false := by decide
      go_wp2
      go_ret
      exact ⟨_, rfl, ⟨fun j hj => by have := hO.1 j hj; omega, own_sooner hO.2 (by omega)⟩, hB1.trans (hB1x.mono (by omega))⟩
end Go.Proofs.YtcadmjpkgnbodaaDoor

/- LineSums, FallsBelow: the program's, whole. -/
namespace Go.Proofs.YtcadmjpkgnbodaaDoor
open Go.RowKit Go.Shelf
attribute [local go_sem] Oper.semAt_some
attribute [local go_sem, local simp] wide_fn

/-- In how many ways all items have numbers, for 0 to 4 numbers. -/
def numR (st : Bool) (zs : List Int) : List Int := if vo zs then (List.range 5).map fun k => (nuN st zs k : Int) else []
theorem numR_le (st : Bool) (zs : List Int) : (numR st zs).length ≤ 1048576 := by
  unfold numR; split <;> simp
theorem numR_no {st : Bool} {zs : List Int} (h : vo zs = false) : numR st zs = [] := by unfold numR; rw [h]; rfl
theorem numR_tot {st : Bool} {zs : List Int} (h : VoP zs) : numR st zs = totL (msOf st zs) zs 5 := by
  unfold numR totL
  rw [vo_true h, if_pos rfl]
  exact List.map_congr_left fun k _ => by rw [show nuN st zs k = pN (msOf st zs) zs k (2 ^ zs.length - 1) from num_both h k]
theorem msOf_false (zs : List Int) : msOf false zs = fun _ => true := by funext r; rfl
theorem msOf_true (zs : List Int) : msOf true zs = apB zs := by funext r; rfl

set_option maxHeartbeats 2000000 in
theorem LineSums_any (A : Option Addr) (n c : Nat) (zs : List Int) (w : World) (h : Ints w w.heap.size A n zs) (hbig : n ≤ 1152921504606846976) :
    Calls Tryd.prog 5 #[.slice A n c] w (GivesRowV w (numR false zs)) := by
  have hlen := Lib.hid h.len
  go_enter Tryd.func5, Tryd.ntmps5
  go_wp2_with fail
  refine (readOrder_any _ _ _ zs _ h hbig).mono ?_
  rintro e w1 ⟨hB1, (⟨hv, b, rfl, hb, hAr⟩ | ⟨hv, rfl⟩)⟩
  · have hvo : VoP zs := by simpa [vo] using hv
    have z1 := hB1.size
    have Ht := Lib.hid (numR_tot (st := false) hvo)
    rw [msOf_false] at Ht
    have Hcall := Lib.hid (numberings_any zs b n (.func (.func 14) #[] #[]) (fun _ => true) (shares_all zs b) hvo hlen.out w1 hAr)
    clear hv
    go_wp2_with fail
    refine Hcall.out.mono ?_
    rintro e w2 ⟨v, rfl, hO, hB2⟩
    have Hl := Lib.hid (totL_len (fun _ => true) zs 5)
    obtain ⟨A2, c2, rfl, hR⟩ := rowV_of_own hO.2
    rw [Hl.out] at hR ⊢
    go_wp2_with fail
    go_ret
    exact ⟨A2, 5, c2, rfl, by rw [Ht.out]; exact hR.more z1 (Nat.le_refl _), hB1.trans (hB2.mono z1)⟩
  · have Ht := Lib.hid (numR_no (st := false) hv)
    clear hv
    go_wp2_with fail
    go_ret
    exact ⟨none, 0, 0, rfl, by rw [Ht.out]; exact RowV.nil _ _ _ _, hB1⟩

end Go.Proofs.YtcadmjpkgnbodaaDoor

/- Numberings: what the model's counts turn on. -/
namespace Go.Proofs.YtcadmjpkgnbodaaDoor
open Go.RowKit Go.Shelf
attribute [local go_sem] Oper.semAt_some
attribute [local go_sem, local simp] wide_fn

section
variable {P : Program} (w : World)
theorem wpList_appendM {ops : Array Oper} {rest : List Oper} {o : Oper} {a : Act} {Q : Exit → Act → World → Prop} (hgd : o.guard = none) (s x : Operand) (t : TypeId)
    (ho : o.op = .call { callee := .builtin .append, args := #[s, x], argTypes := #[t, t] })
    (base : Nat) (e : TypeId) (i : TypeInfo) (z : Value) (bytes : Nat) (ht : P.underlying t = some (.slice e)) (hi : P.info? e = some i) (hz : i.zero = some z)
    (hsize : i.size = 1) (hby : i.bytes = bytes) (hzs : z.cells.size = 1)
    (v : Value) (n : Nat) (xs : List Value) (hs : a.eval s = v) (hown : w.ownsRow base e 1 v n xs)
    (ad : Addr) (m c : Nat) (news : List Value) (hx : a.eval x = .slice (some ad) m c) (hl : news.length = m) (hnews : ∀ j u, news[j]? = some u → w.cell? (ad.add j) = some u) (h1 : ∀ u ∈ news, u.oneCell' = true)
    (h63 : n + m ≤ maxLen) (hbytes : (n + m) * bytes ≤ 140737488355328) (hbase : base ≤ w.heap.size)
    (h : ∀ v' w', w'.ownsRow base e 1 v' (n + m) (xs ++ news) → w.grownBy w' v.ownBlock → wpList P ops Q rest (a.put o.dst v') w') : wpList P ops Q (o :: rest) a w := by
  obtain ⟨v', w', hrun, h2, h3, _, _⟩ := run_append_own_at (P := P) w base t o.type e i z 1 bytes ht hi hz hsize hby hzs (by omega) v n xs hown ad m c news (by omega) hnews h1 h63 hbytes hbase
  refine wpList_plain hgd fun K hK => ?_
  unfold Oper.wp execOp
  simp only [ho, resolve, invoke, builtin, Sem.run_bind, Sem.run_pure, Result.andThen_ok, List.map_toArray, List.map_cons, List.map_nil, hs, hx, hrun]
  exact hK _ _ (h v' w' h2 h3)
end

theorem bitI_nil (s j : Int) : (bitI s j == 0) = !bitB s j := by unfold bitI; cases bitB s j <;> rfl
theorem list_sum_le {α : Type} (g : α → Nat) (B : Nat) : ∀ l : List α, (∀ x ∈ l, g x ≤ B) → (l.map g).sum ≤ l.length * B
  | [], _ => by simp
  | x :: l, h => by
    have h1 := h x (by simp)
    have h2 := list_sum_le g B l fun y hy => h y (by simp [hy])
    rw [List.map_cons, List.sum_cons, List.length_cons, Nat.add_mul]
    omega
theorem mN_le (st : Bool) (zs : List Int) (k : Nat) : ∀ (f : Nat) (g : List Int), mN st zs k f g ≤ k ^ f
  | 0, _ => by simp [mN]
  | f + 1, g => by
    have h := list_sum_le (fun x : Nat => if fineB st zs g ((x : Int) + 1) then mN st zs k f (g ++ [(x : Int) + 1]) else 0) (k ^ f) (List.range k) fun x _ => by
      split
      · exact mN_le st zs k f _
      · exact Nat.zero_le _
    rw [List.length_range] at h
    rw [mN, Nat.pow_succ, Nat.mul_comm]
    exact h
/-- The sum over the first j numbers. -/
def mTo (st : Bool) (zs : List Int) (k f : Nat) (g : List Int) (j : Nat) : Nat := ((List.range j).map fun x : Nat => if fineB st zs g ((x : Int) + 1) then mN st zs k f (g ++ [(x : Int) + 1]) else 0).sum
theorem mTo_succ (st : Bool) (zs : List Int) (k f : Nat) (g : List Int) (j : Nat) : mTo st zs k f g (j + 1) = mTo st zs k f g j + if fineB st zs g ((j : Int) + 1) then mN st zs k f (g ++ [(j : Int) + 1]) else 0 := by
  unfold mTo; rw [List.range_succ, List.map_append, List.sum_append]; simp
theorem mTo_le {st : Bool} {zs : List Int} {k f : Nat} {g : List Int} (hk : k ≤ 4) (hf : f ≤ 6) {j : Nat} (hj : j ≤ 4) : mTo st zs k f g j ≤ 16384 := by
  have hp : k ^ f ≤ 4 ^ 6 := Nat.le_trans (Nat.pow_le_pow_left hk f) (Nat.pow_le_pow_right (by decide) hf)
  have h := list_sum_le (fun x : Nat => if fineB st zs g ((x : Int) + 1) then mN st zs k f (g ++ [(x : Int) + 1]) else 0) (4 ^ 6) (List.range j) fun x _ => by
    split
    · exact Nat.le_trans (mN_le st zs k f _) hp
    · exact Nat.zero_le _
  rw [List.length_range] at h
  unfold mTo
  have : j * 4 ^ 6 ≤ 4 * 4 ^ 6 := Nat.mul_le_mul_right _ hj
  omega
/-- The pairs with the first i. -/
def fiTo (st : Bool) (zs g : List Int) (x : Int) (i : Nat) : Bool := (List.range i).all (twB st zs g g.length x)
theorem fiTo_succ (st : Bool) (zs g : List Int) (x : Int) (i : Nat) : fiTo st zs g x (i + 1) = (fiTo st zs g x i && twB st zs g g.length x i) := by
  unfold fiTo; rw [List.range_succ, List.all_append]; simp
end Go.Proofs.YtcadmjpkgnbodaaDoor

/- How many items a set has, as the laws see it. -/
namespace Go.Proofs.YtcadmjpkgnbodaaDoor
open Go.RowKit

def sizeTo (s : Int) : Nat → Int
  | 0 => 0
  | k + 1 => sizeTo s k + bitI s k
theorem sizeTo_fin : ∀ k : Fin 64, sizeTo (k.val : Int) 62 = popI (k.val : Int) := by decide +kernel
theorem sizeTo_bd (s : Int) : ∀ k : Nat, 0 ≤ sizeTo s k ∧ sizeTo s k ≤ k
  | 0 => ⟨Int.le_refl _, Int.le_refl _⟩
  | k + 1 => by
    have h1 := sizeTo_bd s k
    have h2 := bitI_01 s k
    unfold sizeTo
    omega
end Go.Proofs.YtcadmjpkgnbodaaDoor

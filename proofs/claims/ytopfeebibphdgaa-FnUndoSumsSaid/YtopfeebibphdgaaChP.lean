/- SignByChains: the program's. -/
import Derived.Test.YtopfeebibphdgaaChI
namespace Go.Proofs.Ytopfeebibphdgaa
open Go.RowKit Go.Shelf
attribute [local go_sem] Oper.semAt_some
attribute [local go_sem, local simp] wide_fn

section
variable {P : Program} {ops : Array Oper} {Q : Exit → Act → World → Prop} {S : World → Prop} {md : Region.Mode} {z : Nat}
/-- Two may come up: both ways. -/
theorem anyT_two2 {i j : Nat} {oi oj : Oper} {fuel : Nat} {listed : Array Bool} {a : Act} {w : World} (hr : Region.ready md ops listed = [i, j]) (hoi : ops[i]? = some oi) (hoj : ops[j]? = some oj)
    (h1 : ∀ K' : Act → World → Prop, Shut (∀ a w, (i ≠ z → S w) → anyT P md ops Q S z fuel (listed.setIfInBounds i true) a w → K' a w) → if Region.wanted oi (yielded ops a.tmps) = true then Oper.wp P oi a w K' Q else K' (a.put oi.dst undef) w)
    (h2 : ∀ K' : Act → World → Prop, Shut (∀ a w, (j ≠ z → S w) → anyT P md ops Q S z fuel (listed.setIfInBounds j true) a w → K' a w) → if Region.wanted oj (yielded ops a.tmps) = true then Oper.wp P oj a w K' Q else K' (a.put oj.dst undef) w) :
    anyT P md ops Q S z (fuel + 1) listed a w :=
  ⟨fun h0 => (by rw [hr] at h0; cases h0), fun k hk => by
    rw [hr] at hk
    rcases List.mem_cons.1 hk with rfl | hk
    · exact wpOp_step hoi (fun K' hK => h1 K' (fun a w hS hW => hK a w ⟨hS, hW⟩))
    · obtain rfl := List.mem_singleton.1 hk
      exact wpOp_step hoj (fun K' hK => h2 K' (fun a w hS hW => hK a w ⟨hS, hW⟩))⟩
/-- Three may come up. -/
theorem anyT_three {i j k : Nat} {oi oj ok : Oper} {fuel : Nat} {listed : Array Bool} {a : Act} {w : World} (hr : Region.ready md ops listed = [i, j, k]) (hoi : ops[i]? = some oi) (hoj : ops[j]? = some oj) (hok : ops[k]? = some ok)
    (h1 : ∀ K' : Act → World → Prop, Shut (∀ a w, (i ≠ z → S w) → anyT P md ops Q S z fuel (listed.setIfInBounds i true) a w → K' a w) → if Region.wanted oi (yielded ops a.tmps) = true then Oper.wp P oi a w K' Q else K' (a.put oi.dst undef) w)
    (h2 : ∀ K' : Act → World → Prop, Shut (∀ a w, (j ≠ z → S w) → anyT P md ops Q S z fuel (listed.setIfInBounds j true) a w → K' a w) → if Region.wanted oj (yielded ops a.tmps) = true then Oper.wp P oj a w K' Q else K' (a.put oj.dst undef) w)
    (h3 : ∀ K' : Act → World → Prop, Shut (∀ a w, (k ≠ z → S w) → anyT P md ops Q S z fuel (listed.setIfInBounds k true) a w → K' a w) → if Region.wanted ok (yielded ops a.tmps) = true then Oper.wp P ok a w K' Q else K' (a.put ok.dst undef) w) :
    anyT P md ops Q S z (fuel + 1) listed a w :=
  ⟨fun h0 => (by rw [hr] at h0; cases h0), fun x hx => by
    rw [hr] at hx
    rcases List.mem_cons.1 hx with rfl | hx
    · exact wpOp_step hoi (fun K' hK => h1 K' (fun a w hS hW => hK a w ⟨hS, hW⟩))
    · rcases List.mem_cons.1 hx with rfl | hx
      · exact wpOp_step hoj (fun K' hK => h2 K' (fun a w hS hW => hK a w ⟨hS, hW⟩))
      · obtain rfl := List.mem_singleton.1 hx
        exact wpOp_step hok (fun K' hK => h3 K' (fun a w hS hW => hK a w ⟨hS, hW⟩))⟩
end

/-- What holds of each world met. -/
def ChF (w : World) (q n a b : Nat) (zs : List Int) (V : World) : Prop :=
  (fun w' => w'.cell? ⟨w.heap.size, 0, none⟩ = some (.slice (some ⟨q, 0, none⟩) n n) ∧ w'.heap[w.heap.size + 1]? = some (.cells #[Value.int .i64 (a : Int), .int .i64 (b : Int)] 44 (0, 0)) ∧ w'.cell? ⟨w.heap.size + 1, 0, none⟩ = some (.int .i64 (a : Int)) ∧ w'.cell? ⟨w.heap.size + 1, 1, none⟩ = some (.int .i64 (b : Int))) V ∧ Upd (fun _ => False) w V ∧ Arr V q 57 zs ∧ w.heap.size + 2 ≤ V.heap.size ∧ Boxed V w.heap.size 39 (.slice (some ⟨q, 0, none⟩) n n)
theorem ChF.upd {w V V' : World} {q n a b : Nat} {zs : List Int} (h : ChF w q n a b zs V) {R : Nat → Prop} (hu : Upd R V V') (hR : ∀ k, k < V.heap.size → ¬ R k) : ChF w q n a b zs V' := by
  obtain ⟨⟨h1, h2, h3, h4⟩, h5, h6, h7, h8⟩ := h
  have hz := hu.size
  have hu' : Upd (fun _ => False) V V' := hu.mono fun k hk e => hR k hk e
  exact ⟨⟨hu'.cell h1 (fun e => e), (hu'.block _ (by omega) (fun e => e)).trans h2, hu'.cell h3 (fun e => e), hu'.cell h4 (fun e => e)⟩, h5.trans' hu' (fun i hi e => e), h6.upd hu' (fun e => e), by omega, hu'.boxed h8 (fun e => e)⟩
theorem ChF.below {w V V' : World} {q n a b : Nat} {zs : List Int} (h : ChF w q n a b zs V) (hB : Below V.heap.size V V') : ChF w q n a b zs V' := h.upd (Below.toUpd hB) (fun k hk e => by omega)
theorem ChF.alloc {w V : World} {q n a b : Nat} {zs : List Int} (h : ChF w q n a b zs V) (o : Obj) : ChF w q n a b zs (V.alloc o) := h.upd ((Upd.refl (fun _ => False) V).alloc o) (fun _ _ e => e)

set_option maxRecDepth 100000 in
set_option maxHeartbeats 16000000 in
theorem ochains_any (q n : Nat) (zs : List Int) (hvo : VoP zs) (hlen0 : zs.length = n) (a b : Nat) (ha : a < n) (hb : b < n) (w : World) (hA : Arr w q 57 zs) :
    Calls Try.prog 54 #[.slice (some ⟨q, 0, none⟩) n n, endV a b] w fun e w' => ∃ bo bw, e = .returned (.func (.func 83) #[] #[.pointer (some ⟨w.heap.size, 0, none⟩), .pointer (some ⟨bo, 0, none⟩), .pointer (some ⟨bw, 0, none⟩)]) ∧
      Boxed w' w.heap.size 39 (.slice (some ⟨q, 0, none⟩) n n) ∧ Boxed w' bo 57 (.int .i64 (twoS a b)) ∧ Boxed w' bw 57 (.int .i64 (btw zs a b)) ∧ Arr w' q 57 zs ∧ Upd (fun _ => False) w w' := by
  have hlen := Lib.hid hlen0
  have hn6 : n ≤ 6 := by have := hvo.1; rw [hlen0] at this; exact this
  clear hlen0
  have hw1 := fun w => with_any 0 (a : Int) w (by omega) (by omega) (by omega) (by omega)
  have hob := one_bd ha
  have hpn := powI_le6 (n := (n : Int)) (by omega)
  have hw2 := fun w => with_any (orI 0 (powI (a : Int))) (b : Int) w (by omega) (by omega) (by omega) (by omega)
  rw [show orI (orI 0 (powI (a : Int))) (powI (b : Int)) = twoS a b from rfl] at hw2
  generalize orI 0 (powI (a : Int)) = oa at *
  have key : ∀ (k5 k6 : Nat) (V : World), ChF w q n a b zs V → Boxed V k5 57 (.int .i64 0) → Boxed V k6 57 (.int .i64 0) → k5 ≠ k6 → w.heap.size + 2 ≤ k5 → w.heap.size + 2 ≤ k6 →
      (V.setCell ⟨k5, 0, none⟩ (.int .i64 (twoS a b))).cell? ⟨k6, 0, none⟩ = some (.int .i64 0) ∧ (V.setCell ⟨k5, 0, none⟩ (.int .i64 (twoS a b))).frozen? ⟨k6, 0, none⟩ = false ∧ (fun w' => w'.cell? ⟨w.heap.size, 0, none⟩ = some (.slice (some ⟨q, 0, none⟩) n n) ∧ w'.heap[w.heap.size + 1]? = some (.cells #[Value.int .i64 (a : Int), .int .i64 (b : Int)] 44 (0, 0)) ∧ w'.cell? ⟨w.heap.size + 1, 0, none⟩ = some (.int .i64 (a : Int)) ∧ w'.cell? ⟨w.heap.size + 1, 1, none⟩ = some (.int .i64 (b : Int))) (V.setCell ⟨k5, 0, none⟩ (.int .i64 (twoS a b))) ∧
      Boxed ((V.setCell ⟨k5, 0, none⟩ (.int .i64 (twoS a b))).setCell ⟨k6, 0, none⟩ (.int .i64 (btw zs a b))) w.heap.size 39 (.slice (some ⟨q, 0, none⟩) n n) ∧ Boxed ((V.setCell ⟨k5, 0, none⟩ (.int .i64 (twoS a b))).setCell ⟨k6, 0, none⟩ (.int .i64 (btw zs a b))) k5 57 (.int .i64 (twoS a b)) ∧ Boxed ((V.setCell ⟨k5, 0, none⟩ (.int .i64 (twoS a b))).setCell ⟨k6, 0, none⟩ (.int .i64 (btw zs a b))) k6 57 (.int .i64 (btw zs a b)) ∧ Arr ((V.setCell ⟨k5, 0, none⟩ (.int .i64 (twoS a b))).setCell ⟨k6, 0, none⟩ (.int .i64 (btw zs a b))) q 57 zs ∧ Upd (fun _ => False) w ((V.setCell ⟨k5, 0, none⟩ (.int .i64 (twoS a b))).setCell ⟨k6, 0, none⟩ (.int .i64 (btw zs a b))) := by
    intro k5 k6 V hF g5 g6 hne z5 z6
    have u5 : Upd (fun k => k = k5) V (V.setCell ⟨k5, 0, none⟩ (.int .i64 (twoS a b))) := (Upd.refl (fun k => k = k5) V).setCell (p := ⟨k5, 0, none⟩) (.inr rfl) _
    have u6 : Upd (fun k => k = k6) (V.setCell ⟨k5, 0, none⟩ (.int .i64 (twoS a b))) ((V.setCell ⟨k5, 0, none⟩ (.int .i64 (twoS a b))).setCell ⟨k6, 0, none⟩ (.int .i64 (btw zs a b))) := (Upd.refl (fun k => k = k6) _).setCell (p := ⟨k6, 0, none⟩) (.inr rfl) _
    have g6' := u5.boxed g6 (fun e => hne e.symm)
    obtain ⟨⟨h1, h2, h3, h4⟩, h5, h6, h7, h8⟩ := hF
    have hql := hA.lt
    refine ⟨g6'.cell, g6'.frozen, ⟨u5.cell h1 (fun e => by simp at e; omega), (u5.block _ (by omega) (fun e => by omega)).trans h2, u5.cell h3 (fun e => by simp at e; omega), u5.cell h4 (fun e => by simp at e; omega)⟩, u6.boxed (u5.boxed h8 (fun e => by omega)) (fun e => by omega), u6.boxed (g5.set _) (fun e => hne e), g6'.set _, (h6.upd u5 (fun e => by omega)).upd u6 (fun e => by omega), ?_⟩
    exact (h5.trans' u5 (fun i hi e => by omega)).trans' u6 (fun i hi e => by omega)
  unfold endV
  go_enter Try.func54, Try.ntmps54
  go_wp2
  have bE := heap_alloc_new (w.alloc (.cells #[Value.slice (some ⟨q, 0, none⟩) n n] 39)) (.cells #[Value.int .i64 (a : Int), .int .i64 (b : Int)] 44)
  have bO := (Boxed.new w 39 (.slice (some ⟨q, 0, none⟩) n n)).alloc (.cells #[Value.int .i64 (a : Int), .int .i64 (b : Int)] 44)
  simp only [World.size_alloc] at bE
  have f0 : ChF w q n a b zs ((w.alloc (.cells #[Value.slice (some ⟨q, 0, none⟩) n n] 39)).alloc (.cells #[Value.int .i64 (a : Int), .int .i64 (b : Int)] 44)) := ⟨⟨bO.cell, bE, by rw [cell_of_row _ _ 0 _ _ (0, 0) bE]; rfl, by rw [cell_of_row _ _ 1 _ _ (0, 0) bE]; rfl⟩, ((Upd.refl _ w).alloc _).alloc _, (hA.alloc _).alloc _, by simp, bO⟩
  have f0d : ChF w q n a b zs ((w.alloc (.cells #[Value.slice (some ⟨q, 0, none⟩) n n] 39)).alloc (.cells #[Value.int .i64 (a : Int), .int .i64 (b : Int)] 44)).drew := f0.upd ((Upd.refl (fun _ => False) _).drew) (fun _ _ e => e)
  refine region_T (S := (fun w' => w'.cell? ⟨w.heap.size, 0, none⟩ = some (.slice (some ⟨q, 0, none⟩) n n) ∧ w'.heap[w.heap.size + 1]? = some (.cells #[Value.int .i64 (a : Int), .int .i64 (b : Int)] 44 (0, 0)) ∧ w'.cell? ⟨w.heap.size + 1, 0, none⟩ = some (.int .i64 (a : Int)) ∧ w'.cell? ⟨w.heap.size + 1, 1, none⟩ = some (.int .i64 (b : Int)))) 12 (by kernel_rfl) ?_
  clear bE bO f0
  obtain ⟨V0, hV0⟩ : ∃ V0, ((w.alloc (.cells #[Value.slice (some ⟨q, 0, none⟩) n n] 39)).alloc (.cells #[Value.int .i64 (a : Int), .int .i64 (b : Int)] 44)).drew = V0 := ⟨_, rfl⟩
  rw [hV0] at f0d ⊢
  clear hV0
  have f0 := f0d
  have hS0 := f0d.1
  clear f0d
  refine anyT_take (i := 0) (oi := ?oi0a) (v := .pointer (some ⟨w.heap.size + 1, 0, none⟩)) ?hi0a (by kernel_rfl) ?hq0a ?hy0a (by assumption) ?rest0a
  case hi0a => (simp only [List.getElem?_toArray, List.getElem?_cons_zero]; first | done | rfl)
  case hq0a => first | exact fun _ _ _ h => h | exact fun _ _ _ h => (by cases h.1)
  case hy0a => (refine Or.inl ⟨by rfl, ?_⟩; intro wz hSw; obtain ⟨hS1, hS2, hS3, hS4⟩ := hSw; go_simp; first | done | with_reducible rfl | simp | omega)
  try simp only [Act.put, List.setIfInBounds_toArray, List.set_cons_zero, List.set_cons_succ]
  refine anyT_take (i := 1) (oi := ?oi1a) (v := .int .i64 (a : Int)) ?hi1a (by kernel_rfl) ?hq1a ?hy1a (by assumption) ?rest1a
  case hi1a => (simp only [List.getElem?_toArray, List.getElem?_cons_succ, List.getElem?_cons_zero]; first | done | rfl)
  case hq1a => first | exact fun _ _ _ h => h | exact fun _ _ _ h => (by cases h.1)
  case hy1a => (refine Or.inl ⟨by rfl, ?_⟩; intro wz hSw; obtain ⟨hS1, hS2, hS3, hS4⟩ := hSw; go_simp; first | done | with_reducible rfl | simp | omega)
  try simp only [Act.put, List.setIfInBounds_toArray, List.set_cons_zero, List.set_cons_succ]
  refine anyT_take (i := 3) (oi := ?oi3a) (v := .pointer (some ⟨w.heap.size + 1, 1, none⟩)) ?hi3a (by kernel_rfl) ?hq3a ?hy3a (by assumption) ?rest3a
  case hi3a => (simp only [List.getElem?_toArray, List.getElem?_cons_succ, List.getElem?_cons_zero]; first | done | rfl)
  case hq3a => first | exact fun _ _ _ h => h | exact fun _ _ _ h => (by cases h.1)
  case hy3a => (refine Or.inl ⟨by rfl, ?_⟩; intro wz hSw; obtain ⟨hS1, hS2, hS3, hS4⟩ := hSw; go_simp; first | done | with_reducible rfl | simp | omega)
  try simp only [Act.put, List.setIfInBounds_toArray, List.set_cons_zero, List.set_cons_succ]
  refine anyT_take (i := 4) (oi := ?oi4a) (v := .int .i64 (b : Int)) ?hi4a (by kernel_rfl) ?hq4a ?hy4a (by assumption) ?rest4a
  case hi4a => (simp only [List.getElem?_toArray, List.getElem?_cons_succ, List.getElem?_cons_zero]; first | done | rfl)
  case hq4a => first | exact fun _ _ _ h => h | exact fun _ _ _ h => (by cases h.1)
  case hy4a => (refine Or.inl ⟨by rfl, ?_⟩; intro wz hSw; obtain ⟨hS1, hS2, hS3, hS4⟩ := hSw; go_simp; first | done | with_reducible rfl | simp | omega)
  try simp only [Act.put, List.setIfInBounds_toArray, List.set_cons_zero, List.set_cons_succ]
  refine anyT_take (i := 6) (oi := ?oi6a) (v := .slice (some ⟨q, 0, none⟩) n n) ?hi6a (by kernel_rfl) ?hq6a ?hy6a (by assumption) ?rest6a
  case hi6a => (simp only [List.getElem?_toArray, List.getElem?_cons_succ, List.getElem?_cons_zero]; first | done | rfl)
  case hq6a => first | exact fun _ _ _ h => h | exact fun _ _ _ h => (by cases h.1)
  case hy6a => (refine Or.inl ⟨by rfl, ?_⟩; intro wz hSw; obtain ⟨hS1, hS2, hS3, hS4⟩ := hSw; go_simp; first | done | with_reducible rfl | simp | omega)
  try simp only [Act.put, List.setIfInBounds_toArray, List.set_cons_zero, List.set_cons_succ]
  refine anyT_take (i := 7) (oi := ?oi7a) (v := .agg #[Value.int .i64 (a : Int), .int .i64 (b : Int)]) ?hi7a (by kernel_rfl) ?hq7a ?hy7a (by assumption) ?rest7a
  case hi7a => (simp only [List.getElem?_toArray, List.getElem?_cons_succ, List.getElem?_cons_zero]; first | done | rfl)
  case hq7a => first | exact fun _ _ _ h => h | exact fun _ _ _ h => (by cases h.1)
  case hy7a => exact yieldsIf_load_row (by rfl) _ _ rfl _ rfl _ _ _ (fun _ h => h.2.1) Try.underlying44 rfl (by kernel_rfl)
  try simp only [Act.put, List.setIfInBounds_toArray, List.set_cons_zero, List.set_cons_succ]
  refine anyT_three (i := 2) (j := 9) (k := 10) (by kernel_rfl) rfl rfl rfl (fun K' hK => ?_) (fun K' hK => ?_) (fun K' hK => ?_)
  · go_simp
    refine (hw1 _).mono ?_
    rintro e w' ⟨rfl, rfl⟩
    refine hK.out _ _ (fun _ => f0.1) ?_
    clear hK K'
    try simp only [Act.put, List.setIfInBounds_toArray, List.set_cons_zero, List.set_cons_succ]
    refine anyT_three (i := 5) (j := 9) (k := 10) (by kernel_rfl) rfl rfl rfl (fun K' hK => ?_) (fun K' hK => ?_) (fun K' hK => ?_)
    · go_simp
      refine (hw2 _).mono ?_
      rintro e w' ⟨rfl, rfl⟩
      refine hK.out _ _ (fun _ => f0.1) ?_
      clear hK K'
      try simp only [Act.put, List.setIfInBounds_toArray, List.set_cons_zero, List.set_cons_succ]
      refine anyT_three (i := 8) (j := 9) (k := 10) (by kernel_rfl) rfl rfl rfl (fun K' hK => ?_) (fun K' hK => ?_) (fun K' hK => ?_)
      · go_simp
        refine (obetween_any _ n n zs a b hvo V0 (f0.2.2.1.ints' f0.2.2.1.lt hlen.out) ha hb).mono ?_
        rintro e V1 ⟨rfl, hB⟩
        have f1 := f0.below hB
        refine hK.out _ _ (fun _ => f1.1) ?_
        clear hK K'
        try simp only [Act.put, List.setIfInBounds_toArray, List.set_cons_zero, List.set_cons_succ]
        refine anyT_two2 (i := 9) (j := 10) (by kernel_rfl) rfl rfl (fun K' hK => ?_) (fun K' hK => ?_)
        · go_simp
          have f2 := f1.alloc (.cells #[Value.int .i64 0] 57)
          have g52 := Boxed.new V1 57 (.int .i64 0)
          have hd2 : ∀ k, k < V1.heap.size → k ≠ V1.heap.size := fun k h e => by omega
          refine hK.out _ _ (fun _ => f2.1) ?_
          clear hK K'
          try simp only [Act.put, List.setIfInBounds_toArray, List.set_cons_zero, List.set_cons_succ]
          obtain ⟨V2, hV2⟩ : ∃ V2, V1.alloc (.cells #[Value.int .i64 0] 57) = V2 := ⟨_, rfl⟩
          rw [hV2] at f2 g52 ⊢
          clear hV2 hd2
          refine anyT_one (i := 10) (by kernel_rfl) rfl (fun K' hK => ?_)
          go_simp
          have f3 := f2.alloc (.cells #[Value.int .i64 0] 57)
          have g53 := g52.alloc (.cells #[Value.int .i64 0] 57)
          have g63 := Boxed.new V2 57 (.int .i64 0)
          have hd3 : ∀ k, k < V2.heap.size → k ≠ V2.heap.size := fun k h e => by omega
          refine hK.out _ _ (fun _ => f3.1) ?_
          clear hK K'
          try simp only [Act.put, List.setIfInBounds_toArray, List.set_cons_zero, List.set_cons_succ]
          have hne := hd3 _ g52.lt
          obtain ⟨V3, hV3⟩ : ∃ V3, V2.alloc (.cells #[Value.int .i64 0] 57) = V3 := ⟨_, rfl⟩
          rw [hV3] at f3 g53 g63 ⊢
          clear hV3 hd3
          obtain ⟨l1, l2, l3, l4⟩ := key _ _ V3 f3 g53 g63 (by first | exact hne | exact hne.symm) f1.2.2.2.1 f2.2.2.2.1
          have hc5 := g53.cell
          have hf5 := g53.frozen
          have hc6 := l1
          have hf6 := l2
          refine anyT_one (i := 11) (by kernel_rfl) rfl (fun K' hK => ?_)
          go_simp
          refine hK.out _ _ (fun _ => l3) ?_
          clear hK K'
          try simp only [Act.put, List.setIfInBounds_toArray, List.set_cons_zero, List.set_cons_succ]
          refine anyT_one (i := 12) (by kernel_rfl) rfl (fun K' hK => ?_)
          go_simp
          refine hK.out _ _ (fun h => absurd rfl h) ?_
          clear hK K'
          try simp only [Act.put, List.setIfInBounds_toArray, List.set_cons_zero, List.set_cons_succ]
          refine anyT_done (by kernel_rfl) ?_ _
          go_wp2
          go_ret
          exact ⟨_, _, rfl, l4⟩
        · go_simp
          have f4 := f1.alloc (.cells #[Value.int .i64 0] 57)
          have g64 := Boxed.new V1 57 (.int .i64 0)
          have hd4 : ∀ k, k < V1.heap.size → k ≠ V1.heap.size := fun k h e => by omega
          refine hK.out _ _ (fun _ => f4.1) ?_
          clear hK K'
          try simp only [Act.put, List.setIfInBounds_toArray, List.set_cons_zero, List.set_cons_succ]
          obtain ⟨V4, hV4⟩ : ∃ V4, V1.alloc (.cells #[Value.int .i64 0] 57) = V4 := ⟨_, rfl⟩
          rw [hV4] at f4  g64 ⊢
          clear hV4 hd4
          refine anyT_one (i := 9) (by kernel_rfl) rfl (fun K' hK => ?_)
          go_simp
          have f5 := f4.alloc (.cells #[Value.int .i64 0] 57)
          have g65 := g64.alloc (.cells #[Value.int .i64 0] 57)
          have g55 := Boxed.new V4 57 (.int .i64 0)
          have hd5 : ∀ k, k < V4.heap.size → k ≠ V4.heap.size := fun k h e => by omega
          refine hK.out _ _ (fun _ => f5.1) ?_
          clear hK K'
          try simp only [Act.put, List.setIfInBounds_toArray, List.set_cons_zero, List.set_cons_succ]
          have hne := hd5 _ g64.lt
          obtain ⟨V5, hV5⟩ : ∃ V5, V4.alloc (.cells #[Value.int .i64 0] 57) = V5 := ⟨_, rfl⟩
          rw [hV5] at f5 g55 g65 ⊢
          clear hV5 hd5
          obtain ⟨l1, l2, l3, l4⟩ := key _ _ V5 f5 g55 g65 (by first | exact hne | exact hne.symm) f4.2.2.2.1 f1.2.2.2.1
          have hc5 := g55.cell
          have hf5 := g55.frozen
          have hc6 := l1
          have hf6 := l2
          refine anyT_one (i := 11) (by kernel_rfl) rfl (fun K' hK => ?_)
          go_simp
          refine hK.out _ _ (fun _ => l3) ?_
          clear hK K'
          try simp only [Act.put, List.setIfInBounds_toArray, List.set_cons_zero, List.set_cons_succ]
          refine anyT_one (i := 12) (by kernel_rfl) rfl (fun K' hK => ?_)
          go_simp
          refine hK.out _ _ (fun h => absurd rfl h) ?_
          clear hK K'
          try simp only [Act.put, List.setIfInBounds_toArray, List.set_cons_zero, List.set_cons_succ]
          refine anyT_done (by kernel_rfl) ?_ _
          go_wp2
          go_ret
          exact ⟨_, _, rfl, l4⟩
      · go_simp
        have f6 := f0.alloc (.cells #[Value.int .i64 0] 57)
        have g56 := Boxed.new V0 57 (.int .i64 0)
        have hd6 : ∀ k, k < V0.heap.size → k ≠ V0.heap.size := fun k h e => by omega
        refine hK.out _ _ (fun _ => f6.1) ?_
        clear hK K'
        try simp only [Act.put, List.setIfInBounds_toArray, List.set_cons_zero, List.set_cons_succ]
        obtain ⟨V6, hV6⟩ : ∃ V6, V0.alloc (.cells #[Value.int .i64 0] 57) = V6 := ⟨_, rfl⟩
        rw [hV6] at f6 g56 ⊢
        clear hV6 hd6
        refine anyT_two2 (i := 8) (j := 10) (by kernel_rfl) rfl rfl (fun K' hK => ?_) (fun K' hK => ?_)
        · go_simp
          refine (obetween_any _ n n zs a b hvo V6 (f6.2.2.1.ints' f6.2.2.1.lt hlen.out) ha hb).mono ?_
          rintro e V7 ⟨rfl, hB⟩
          have f7 := f6.below hB
          have g57 := (Below.toUpd hB).boxed g56 (fun e => by have := g56.lt; omega)
          refine hK.out _ _ (fun _ => f7.1) ?_
          clear hK K'
          try simp only [Act.put, List.setIfInBounds_toArray, List.set_cons_zero, List.set_cons_succ]
          refine anyT_one (i := 10) (by kernel_rfl) rfl (fun K' hK => ?_)
          go_simp
          have f8 := f7.alloc (.cells #[Value.int .i64 0] 57)
          have g58 := g57.alloc (.cells #[Value.int .i64 0] 57)
          have g68 := Boxed.new V7 57 (.int .i64 0)
          have hd8 : ∀ k, k < V7.heap.size → k ≠ V7.heap.size := fun k h e => by omega
          refine hK.out _ _ (fun _ => f8.1) ?_
          clear hK K'
          try simp only [Act.put, List.setIfInBounds_toArray, List.set_cons_zero, List.set_cons_succ]
          have hne := hd8 _ g57.lt
          obtain ⟨V8, hV8⟩ : ∃ V8, V7.alloc (.cells #[Value.int .i64 0] 57) = V8 := ⟨_, rfl⟩
          rw [hV8] at f8 g58 g68 ⊢
          clear hV8 hd8
          obtain ⟨l1, l2, l3, l4⟩ := key _ _ V8 f8 g58 g68 (by first | exact hne | exact hne.symm) f0.2.2.2.1 f7.2.2.2.1
          have hc5 := g58.cell
          have hf5 := g58.frozen
          have hc6 := l1
          have hf6 := l2
          refine anyT_one (i := 11) (by kernel_rfl) rfl (fun K' hK => ?_)
          go_simp
          refine hK.out _ _ (fun _ => l3) ?_
          clear hK K'
          try simp only [Act.put, List.setIfInBounds_toArray, List.set_cons_zero, List.set_cons_succ]
          refine anyT_one (i := 12) (by kernel_rfl) rfl (fun K' hK => ?_)
          go_simp
          refine hK.out _ _ (fun h => absurd rfl h) ?_
          clear hK K'
          try simp only [Act.put, List.setIfInBounds_toArray, List.set_cons_zero, List.set_cons_succ]
          refine anyT_done (by kernel_rfl) ?_ _
          go_wp2
          go_ret
          exact ⟨_, _, rfl, l4⟩
        · go_simp
          have f9 := f6.alloc (.cells #[Value.int .i64 0] 57)
          have g59 := g56.alloc (.cells #[Value.int .i64 0] 57)
          have g69 := Boxed.new V6 57 (.int .i64 0)
          have hd9 : ∀ k, k < V6.heap.size → k ≠ V6.heap.size := fun k h e => by omega
          refine hK.out _ _ (fun _ => f9.1) ?_
          clear hK K'
          try simp only [Act.put, List.setIfInBounds_toArray, List.set_cons_zero, List.set_cons_succ]
          have hne := hd9 _ g56.lt
          obtain ⟨V9, hV9⟩ : ∃ V9, V6.alloc (.cells #[Value.int .i64 0] 57) = V9 := ⟨_, rfl⟩
          rw [hV9] at f9 g59 g69 ⊢
          clear hV9 hd9
          refine anyT_one (i := 8) (by kernel_rfl) rfl (fun K' hK => ?_)
          go_simp
          refine (obetween_any _ n n zs a b hvo V9 (f9.2.2.1.ints' f9.2.2.1.lt hlen.out) ha hb).mono ?_
          rintro e V10 ⟨rfl, hB⟩
          have f10 := f9.below hB
          have g510 := (Below.toUpd hB).boxed g59 (fun e => by have := g59.lt; omega)
          have g610 := (Below.toUpd hB).boxed g69 (fun e => by have := g69.lt; omega)
          refine hK.out _ _ (fun _ => f10.1) ?_
          clear hK K'
          try simp only [Act.put, List.setIfInBounds_toArray, List.set_cons_zero, List.set_cons_succ]
          obtain ⟨l1, l2, l3, l4⟩ := key _ _ V10 f10 g510 g610 (by first | exact hne | exact hne.symm) f0.2.2.2.1 f6.2.2.2.1
          have hc5 := g510.cell
          have hf5 := g510.frozen
          have hc6 := l1
          have hf6 := l2
          refine anyT_one (i := 11) (by kernel_rfl) rfl (fun K' hK => ?_)
          go_simp
          refine hK.out _ _ (fun _ => l3) ?_
          clear hK K'
          try simp only [Act.put, List.setIfInBounds_toArray, List.set_cons_zero, List.set_cons_succ]
          refine anyT_one (i := 12) (by kernel_rfl) rfl (fun K' hK => ?_)
          go_simp
          refine hK.out _ _ (fun h => absurd rfl h) ?_
          clear hK K'
          try simp only [Act.put, List.setIfInBounds_toArray, List.set_cons_zero, List.set_cons_succ]
          refine anyT_done (by kernel_rfl) ?_ _
          go_wp2
          go_ret
          exact ⟨_, _, rfl, l4⟩
      · go_simp
        have f11 := f0.alloc (.cells #[Value.int .i64 0] 57)
        have g611 := Boxed.new V0 57 (.int .i64 0)
        have hd11 : ∀ k, k < V0.heap.size → k ≠ V0.heap.size := fun k h e => by omega
        refine hK.out _ _ (fun _ => f11.1) ?_
        clear hK K'
        try simp only [Act.put, List.setIfInBounds_toArray, List.set_cons_zero, List.set_cons_succ]
        obtain ⟨V11, hV11⟩ : ∃ V11, V0.alloc (.cells #[Value.int .i64 0] 57) = V11 := ⟨_, rfl⟩
        rw [hV11] at f11  g611 ⊢
        clear hV11 hd11
        refine anyT_two2 (i := 8) (j := 9) (by kernel_rfl) rfl rfl (fun K' hK => ?_) (fun K' hK => ?_)
        · go_simp
          refine (obetween_any _ n n zs a b hvo V11 (f11.2.2.1.ints' f11.2.2.1.lt hlen.out) ha hb).mono ?_
          rintro e V12 ⟨rfl, hB⟩
          have f12 := f11.below hB
          have g612 := (Below.toUpd hB).boxed g611 (fun e => by have := g611.lt; omega)
          refine hK.out _ _ (fun _ => f12.1) ?_
          clear hK K'
          try simp only [Act.put, List.setIfInBounds_toArray, List.set_cons_zero, List.set_cons_succ]
          refine anyT_one (i := 9) (by kernel_rfl) rfl (fun K' hK => ?_)
          go_simp
          have f13 := f12.alloc (.cells #[Value.int .i64 0] 57)
          have g613 := g612.alloc (.cells #[Value.int .i64 0] 57)
          have g513 := Boxed.new V12 57 (.int .i64 0)
          have hd13 : ∀ k, k < V12.heap.size → k ≠ V12.heap.size := fun k h e => by omega
          refine hK.out _ _ (fun _ => f13.1) ?_
          clear hK K'
          try simp only [Act.put, List.setIfInBounds_toArray, List.set_cons_zero, List.set_cons_succ]
          have hne := hd13 _ g612.lt
          obtain ⟨V13, hV13⟩ : ∃ V13, V12.alloc (.cells #[Value.int .i64 0] 57) = V13 := ⟨_, rfl⟩
          rw [hV13] at f13 g513 g613 ⊢
          clear hV13 hd13
          obtain ⟨l1, l2, l3, l4⟩ := key _ _ V13 f13 g513 g613 (by first | exact hne | exact hne.symm) f12.2.2.2.1 f0.2.2.2.1
          have hc5 := g513.cell
          have hf5 := g513.frozen
          have hc6 := l1
          have hf6 := l2
          refine anyT_one (i := 11) (by kernel_rfl) rfl (fun K' hK => ?_)
          go_simp
          refine hK.out _ _ (fun _ => l3) ?_
          clear hK K'
          try simp only [Act.put, List.setIfInBounds_toArray, List.set_cons_zero, List.set_cons_succ]
          refine anyT_one (i := 12) (by kernel_rfl) rfl (fun K' hK => ?_)
          go_simp
          refine hK.out _ _ (fun h => absurd rfl h) ?_
          clear hK K'
          try simp only [Act.put, List.setIfInBounds_toArray, List.set_cons_zero, List.set_cons_succ]
          refine anyT_done (by kernel_rfl) ?_ _
          go_wp2
          go_ret
          exact ⟨_, _, rfl, l4⟩
        · go_simp
          have f14 := f11.alloc (.cells #[Value.int .i64 0] 57)
          have g614 := g611.alloc (.cells #[Value.int .i64 0] 57)
          have g514 := Boxed.new V11 57 (.int .i64 0)
          have hd14 : ∀ k, k < V11.heap.size → k ≠ V11.heap.size := fun k h e => by omega
          refine hK.out _ _ (fun _ => f14.1) ?_
          clear hK K'
          try simp only [Act.put, List.setIfInBounds_toArray, List.set_cons_zero, List.set_cons_succ]
          have hne := hd14 _ g611.lt
          obtain ⟨V14, hV14⟩ : ∃ V14, V11.alloc (.cells #[Value.int .i64 0] 57) = V14 := ⟨_, rfl⟩
          rw [hV14] at f14 g514 g614 ⊢
          clear hV14 hd14
          refine anyT_one (i := 8) (by kernel_rfl) rfl (fun K' hK => ?_)
          go_simp
          refine (obetween_any _ n n zs a b hvo V14 (f14.2.2.1.ints' f14.2.2.1.lt hlen.out) ha hb).mono ?_
          rintro e V15 ⟨rfl, hB⟩
          have f15 := f14.below hB
          have g515 := (Below.toUpd hB).boxed g514 (fun e => by have := g514.lt; omega)
          have g615 := (Below.toUpd hB).boxed g614 (fun e => by have := g614.lt; omega)
          refine hK.out _ _ (fun _ => f15.1) ?_
          clear hK K'
          try simp only [Act.put, List.setIfInBounds_toArray, List.set_cons_zero, List.set_cons_succ]
          obtain ⟨l1, l2, l3, l4⟩ := key _ _ V15 f15 g515 g615 (by first | exact hne | exact hne.symm) f11.2.2.2.1 f0.2.2.2.1
          have hc5 := g515.cell
          have hf5 := g515.frozen
          have hc6 := l1
          have hf6 := l2
          refine anyT_one (i := 11) (by kernel_rfl) rfl (fun K' hK => ?_)
          go_simp
          refine hK.out _ _ (fun _ => l3) ?_
          clear hK K'
          try simp only [Act.put, List.setIfInBounds_toArray, List.set_cons_zero, List.set_cons_succ]
          refine anyT_one (i := 12) (by kernel_rfl) rfl (fun K' hK => ?_)
          go_simp
          refine hK.out _ _ (fun h => absurd rfl h) ?_
          clear hK K'
          try simp only [Act.put, List.setIfInBounds_toArray, List.set_cons_zero, List.set_cons_succ]
          refine anyT_done (by kernel_rfl) ?_ _
          go_wp2
          go_ret
          exact ⟨_, _, rfl, l4⟩
    · go_simp
      have f16 := f0.alloc (.cells #[Value.int .i64 0] 57)
      have g516 := Boxed.new V0 57 (.int .i64 0)
      have hd16 : ∀ k, k < V0.heap.size → k ≠ V0.heap.size := fun k h e => by omega
      refine hK.out _ _ (fun _ => f16.1) ?_
      clear hK K'
      try simp only [Act.put, List.setIfInBounds_toArray, List.set_cons_zero, List.set_cons_succ]
      obtain ⟨V16, hV16⟩ : ∃ V16, V0.alloc (.cells #[Value.int .i64 0] 57) = V16 := ⟨_, rfl⟩
      rw [hV16] at f16 g516 ⊢
      clear hV16 hd16
      refine anyT_two2 (i := 5) (j := 10) (by kernel_rfl) rfl rfl (fun K' hK => ?_) (fun K' hK => ?_)
      · go_simp
        refine (hw2 _).mono ?_
        rintro e w' ⟨rfl, rfl⟩
        refine hK.out _ _ (fun _ => f16.1) ?_
        clear hK K'
        try simp only [Act.put, List.setIfInBounds_toArray, List.set_cons_zero, List.set_cons_succ]
        refine anyT_two2 (i := 8) (j := 10) (by kernel_rfl) rfl rfl (fun K' hK => ?_) (fun K' hK => ?_)
        · go_simp
          refine (obetween_any _ n n zs a b hvo V16 (f16.2.2.1.ints' f16.2.2.1.lt hlen.out) ha hb).mono ?_
          rintro e V17 ⟨rfl, hB⟩
          have f17 := f16.below hB
          have g517 := (Below.toUpd hB).boxed g516 (fun e => by have := g516.lt; omega)
          refine hK.out _ _ (fun _ => f17.1) ?_
          clear hK K'
          try simp only [Act.put, List.setIfInBounds_toArray, List.set_cons_zero, List.set_cons_succ]
          refine anyT_one (i := 10) (by kernel_rfl) rfl (fun K' hK => ?_)
          go_simp
          have f18 := f17.alloc (.cells #[Value.int .i64 0] 57)
          have g518 := g517.alloc (.cells #[Value.int .i64 0] 57)
          have g618 := Boxed.new V17 57 (.int .i64 0)
          have hd18 : ∀ k, k < V17.heap.size → k ≠ V17.heap.size := fun k h e => by omega
          refine hK.out _ _ (fun _ => f18.1) ?_
          clear hK K'
          try simp only [Act.put, List.setIfInBounds_toArray, List.set_cons_zero, List.set_cons_succ]
          have hne := hd18 _ g517.lt
          obtain ⟨V18, hV18⟩ : ∃ V18, V17.alloc (.cells #[Value.int .i64 0] 57) = V18 := ⟨_, rfl⟩
          rw [hV18] at f18 g518 g618 ⊢
          clear hV18 hd18
          obtain ⟨l1, l2, l3, l4⟩ := key _ _ V18 f18 g518 g618 (by first | exact hne | exact hne.symm) f0.2.2.2.1 f17.2.2.2.1
          have hc5 := g518.cell
          have hf5 := g518.frozen
          have hc6 := l1
          have hf6 := l2
          refine anyT_one (i := 11) (by kernel_rfl) rfl (fun K' hK => ?_)
          go_simp
          refine hK.out _ _ (fun _ => l3) ?_
          clear hK K'
          try simp only [Act.put, List.setIfInBounds_toArray, List.set_cons_zero, List.set_cons_succ]
          refine anyT_one (i := 12) (by kernel_rfl) rfl (fun K' hK => ?_)
          go_simp
          refine hK.out _ _ (fun h => absurd rfl h) ?_
          clear hK K'
          try simp only [Act.put, List.setIfInBounds_toArray, List.set_cons_zero, List.set_cons_succ]
          refine anyT_done (by kernel_rfl) ?_ _
          go_wp2
          go_ret
          exact ⟨_, _, rfl, l4⟩
        · go_simp
          have f19 := f16.alloc (.cells #[Value.int .i64 0] 57)
          have g519 := g516.alloc (.cells #[Value.int .i64 0] 57)
          have g619 := Boxed.new V16 57 (.int .i64 0)
          have hd19 : ∀ k, k < V16.heap.size → k ≠ V16.heap.size := fun k h e => by omega
          refine hK.out _ _ (fun _ => f19.1) ?_
          clear hK K'
          try simp only [Act.put, List.setIfInBounds_toArray, List.set_cons_zero, List.set_cons_succ]
          have hne := hd19 _ g516.lt
          obtain ⟨V19, hV19⟩ : ∃ V19, V16.alloc (.cells #[Value.int .i64 0] 57) = V19 := ⟨_, rfl⟩
          rw [hV19] at f19 g519 g619 ⊢
          clear hV19 hd19
          refine anyT_one (i := 8) (by kernel_rfl) rfl (fun K' hK => ?_)
          go_simp
          refine (obetween_any _ n n zs a b hvo V19 (f19.2.2.1.ints' f19.2.2.1.lt hlen.out) ha hb).mono ?_
          rintro e V20 ⟨rfl, hB⟩
          have f20 := f19.below hB
          have g520 := (Below.toUpd hB).boxed g519 (fun e => by have := g519.lt; omega)
          have g620 := (Below.toUpd hB).boxed g619 (fun e => by have := g619.lt; omega)
          refine hK.out _ _ (fun _ => f20.1) ?_
          clear hK K'
          try simp only [Act.put, List.setIfInBounds_toArray, List.set_cons_zero, List.set_cons_succ]
          obtain ⟨l1, l2, l3, l4⟩ := key _ _ V20 f20 g520 g620 (by first | exact hne | exact hne.symm) f0.2.2.2.1 f16.2.2.2.1
          have hc5 := g520.cell
          have hf5 := g520.frozen
          have hc6 := l1
          have hf6 := l2
          refine anyT_one (i := 11) (by kernel_rfl) rfl (fun K' hK => ?_)
          go_simp
          refine hK.out _ _ (fun _ => l3) ?_
          clear hK K'
          try simp only [Act.put, List.setIfInBounds_toArray, List.set_cons_zero, List.set_cons_succ]
          refine anyT_one (i := 12) (by kernel_rfl) rfl (fun K' hK => ?_)
          go_simp
          refine hK.out _ _ (fun h => absurd rfl h) ?_
          clear hK K'
          try simp only [Act.put, List.setIfInBounds_toArray, List.set_cons_zero, List.set_cons_succ]
          refine anyT_done (by kernel_rfl) ?_ _
          go_wp2
          go_ret
          exact ⟨_, _, rfl, l4⟩
      · go_simp
        have f21 := f16.alloc (.cells #[Value.int .i64 0] 57)
        have g521 := g516.alloc (.cells #[Value.int .i64 0] 57)
        have g621 := Boxed.new V16 57 (.int .i64 0)
        have hd21 : ∀ k, k < V16.heap.size → k ≠ V16.heap.size := fun k h e => by omega
        refine hK.out _ _ (fun _ => f21.1) ?_
        clear hK K'
        try simp only [Act.put, List.setIfInBounds_toArray, List.set_cons_zero, List.set_cons_succ]
        have hne := hd21 _ g516.lt
        obtain ⟨V21, hV21⟩ : ∃ V21, V16.alloc (.cells #[Value.int .i64 0] 57) = V21 := ⟨_, rfl⟩
        rw [hV21] at f21 g521 g621 ⊢
        clear hV21 hd21
        refine anyT_one (i := 5) (by kernel_rfl) rfl (fun K' hK => ?_)
        go_simp
        refine (hw2 _).mono ?_
        rintro e w' ⟨rfl, rfl⟩
        refine hK.out _ _ (fun _ => f21.1) ?_
        clear hK K'
        try simp only [Act.put, List.setIfInBounds_toArray, List.set_cons_zero, List.set_cons_succ]
        refine anyT_one (i := 8) (by kernel_rfl) rfl (fun K' hK => ?_)
        go_simp
        refine (obetween_any _ n n zs a b hvo V21 (f21.2.2.1.ints' f21.2.2.1.lt hlen.out) ha hb).mono ?_
        rintro e V22 ⟨rfl, hB⟩
        have f22 := f21.below hB
        have g522 := (Below.toUpd hB).boxed g521 (fun e => by have := g521.lt; omega)
        have g622 := (Below.toUpd hB).boxed g621 (fun e => by have := g621.lt; omega)
        refine hK.out _ _ (fun _ => f22.1) ?_
        clear hK K'
        try simp only [Act.put, List.setIfInBounds_toArray, List.set_cons_zero, List.set_cons_succ]
        obtain ⟨l1, l2, l3, l4⟩ := key _ _ V22 f22 g522 g622 (by first | exact hne | exact hne.symm) f0.2.2.2.1 f16.2.2.2.1
        have hc5 := g522.cell
        have hf5 := g522.frozen
        have hc6 := l1
        have hf6 := l2
        refine anyT_one (i := 11) (by kernel_rfl) rfl (fun K' hK => ?_)
        go_simp
        refine hK.out _ _ (fun _ => l3) ?_
        clear hK K'
        try simp only [Act.put, List.setIfInBounds_toArray, List.set_cons_zero, List.set_cons_succ]
        refine anyT_one (i := 12) (by kernel_rfl) rfl (fun K' hK => ?_)
        go_simp
        refine hK.out _ _ (fun h => absurd rfl h) ?_
        clear hK K'
        try simp only [Act.put, List.setIfInBounds_toArray, List.set_cons_zero, List.set_cons_succ]
        refine anyT_done (by kernel_rfl) ?_ _
        go_wp2
        go_ret
        exact ⟨_, _, rfl, l4⟩
    · go_simp
      have f23 := f0.alloc (.cells #[Value.int .i64 0] 57)
      have g623 := Boxed.new V0 57 (.int .i64 0)
      have hd23 : ∀ k, k < V0.heap.size → k ≠ V0.heap.size := fun k h e => by omega
      refine hK.out _ _ (fun _ => f23.1) ?_
      clear hK K'
      try simp only [Act.put, List.setIfInBounds_toArray, List.set_cons_zero, List.set_cons_succ]
      obtain ⟨V23, hV23⟩ : ∃ V23, V0.alloc (.cells #[Value.int .i64 0] 57) = V23 := ⟨_, rfl⟩
      rw [hV23] at f23  g623 ⊢
      clear hV23 hd23
      refine anyT_two2 (i := 5) (j := 9) (by kernel_rfl) rfl rfl (fun K' hK => ?_) (fun K' hK => ?_)
      · go_simp
        refine (hw2 _).mono ?_
        rintro e w' ⟨rfl, rfl⟩
        refine hK.out _ _ (fun _ => f23.1) ?_
        clear hK K'
        try simp only [Act.put, List.setIfInBounds_toArray, List.set_cons_zero, List.set_cons_succ]
        refine anyT_two2 (i := 8) (j := 9) (by kernel_rfl) rfl rfl (fun K' hK => ?_) (fun K' hK => ?_)
        · go_simp
          refine (obetween_any _ n n zs a b hvo V23 (f23.2.2.1.ints' f23.2.2.1.lt hlen.out) ha hb).mono ?_
          rintro e V24 ⟨rfl, hB⟩
          have f24 := f23.below hB
          have g624 := (Below.toUpd hB).boxed g623 (fun e => by have := g623.lt; omega)
          refine hK.out _ _ (fun _ => f24.1) ?_
          clear hK K'
          try simp only [Act.put, List.setIfInBounds_toArray, List.set_cons_zero, List.set_cons_succ]
          refine anyT_one (i := 9) (by kernel_rfl) rfl (fun K' hK => ?_)
          go_simp
          have f25 := f24.alloc (.cells #[Value.int .i64 0] 57)
          have g625 := g624.alloc (.cells #[Value.int .i64 0] 57)
          have g525 := Boxed.new V24 57 (.int .i64 0)
          have hd25 : ∀ k, k < V24.heap.size → k ≠ V24.heap.size := fun k h e => by omega
          refine hK.out _ _ (fun _ => f25.1) ?_
          clear hK K'
          try simp only [Act.put, List.setIfInBounds_toArray, List.set_cons_zero, List.set_cons_succ]
          have hne := hd25 _ g624.lt
          obtain ⟨V25, hV25⟩ : ∃ V25, V24.alloc (.cells #[Value.int .i64 0] 57) = V25 := ⟨_, rfl⟩
          rw [hV25] at f25 g525 g625 ⊢
          clear hV25 hd25
          obtain ⟨l1, l2, l3, l4⟩ := key _ _ V25 f25 g525 g625 (by first | exact hne | exact hne.symm) f24.2.2.2.1 f0.2.2.2.1
          have hc5 := g525.cell
          have hf5 := g525.frozen
          have hc6 := l1
          have hf6 := l2
          refine anyT_one (i := 11) (by kernel_rfl) rfl (fun K' hK => ?_)
          go_simp
          refine hK.out _ _ (fun _ => l3) ?_
          clear hK K'
          try simp only [Act.put, List.setIfInBounds_toArray, List.set_cons_zero, List.set_cons_succ]
          refine anyT_one (i := 12) (by kernel_rfl) rfl (fun K' hK => ?_)
          go_simp
          refine hK.out _ _ (fun h => absurd rfl h) ?_
          clear hK K'
          try simp only [Act.put, List.setIfInBounds_toArray, List.set_cons_zero, List.set_cons_succ]
          refine anyT_done (by kernel_rfl) ?_ _
          go_wp2
          go_ret
          exact ⟨_, _, rfl, l4⟩
        · go_simp
          have f26 := f23.alloc (.cells #[Value.int .i64 0] 57)
          have g626 := g623.alloc (.cells #[Value.int .i64 0] 57)
          have g526 := Boxed.new V23 57 (.int .i64 0)
          have hd26 : ∀ k, k < V23.heap.size → k ≠ V23.heap.size := fun k h e => by omega
          refine hK.out _ _ (fun _ => f26.1) ?_
          clear hK K'
          try simp only [Act.put, List.setIfInBounds_toArray, List.set_cons_zero, List.set_cons_succ]
          have hne := hd26 _ g623.lt
          obtain ⟨V26, hV26⟩ : ∃ V26, V23.alloc (.cells #[Value.int .i64 0] 57) = V26 := ⟨_, rfl⟩
          rw [hV26] at f26 g526 g626 ⊢
          clear hV26 hd26
          refine anyT_one (i := 8) (by kernel_rfl) rfl (fun K' hK => ?_)
          go_simp
          refine (obetween_any _ n n zs a b hvo V26 (f26.2.2.1.ints' f26.2.2.1.lt hlen.out) ha hb).mono ?_
          rintro e V27 ⟨rfl, hB⟩
          have f27 := f26.below hB
          have g527 := (Below.toUpd hB).boxed g526 (fun e => by have := g526.lt; omega)
          have g627 := (Below.toUpd hB).boxed g626 (fun e => by have := g626.lt; omega)
          refine hK.out _ _ (fun _ => f27.1) ?_
          clear hK K'
          try simp only [Act.put, List.setIfInBounds_toArray, List.set_cons_zero, List.set_cons_succ]
          obtain ⟨l1, l2, l3, l4⟩ := key _ _ V27 f27 g527 g627 (by first | exact hne | exact hne.symm) f23.2.2.2.1 f0.2.2.2.1
          have hc5 := g527.cell
          have hf5 := g527.frozen
          have hc6 := l1
          have hf6 := l2
          refine anyT_one (i := 11) (by kernel_rfl) rfl (fun K' hK => ?_)
          go_simp
          refine hK.out _ _ (fun _ => l3) ?_
          clear hK K'
          try simp only [Act.put, List.setIfInBounds_toArray, List.set_cons_zero, List.set_cons_succ]
          refine anyT_one (i := 12) (by kernel_rfl) rfl (fun K' hK => ?_)
          go_simp
          refine hK.out _ _ (fun h => absurd rfl h) ?_
          clear hK K'
          try simp only [Act.put, List.setIfInBounds_toArray, List.set_cons_zero, List.set_cons_succ]
          refine anyT_done (by kernel_rfl) ?_ _
          go_wp2
          go_ret
          exact ⟨_, _, rfl, l4⟩
      · go_simp
        have f28 := f23.alloc (.cells #[Value.int .i64 0] 57)
        have g628 := g623.alloc (.cells #[Value.int .i64 0] 57)
        have g528 := Boxed.new V23 57 (.int .i64 0)
        have hd28 : ∀ k, k < V23.heap.size → k ≠ V23.heap.size := fun k h e => by omega
        refine hK.out _ _ (fun _ => f28.1) ?_
        clear hK K'
        try simp only [Act.put, List.setIfInBounds_toArray, List.set_cons_zero, List.set_cons_succ]
        have hne := hd28 _ g623.lt
        obtain ⟨V28, hV28⟩ : ∃ V28, V23.alloc (.cells #[Value.int .i64 0] 57) = V28 := ⟨_, rfl⟩
        rw [hV28] at f28 g528 g628 ⊢
        clear hV28 hd28
        refine anyT_one (i := 5) (by kernel_rfl) rfl (fun K' hK => ?_)
        go_simp
        refine (hw2 _).mono ?_
        rintro e w' ⟨rfl, rfl⟩
        refine hK.out _ _ (fun _ => f28.1) ?_
        clear hK K'
        try simp only [Act.put, List.setIfInBounds_toArray, List.set_cons_zero, List.set_cons_succ]
        refine anyT_one (i := 8) (by kernel_rfl) rfl (fun K' hK => ?_)
        go_simp
        refine (obetween_any _ n n zs a b hvo V28 (f28.2.2.1.ints' f28.2.2.1.lt hlen.out) ha hb).mono ?_
        rintro e V29 ⟨rfl, hB⟩
        have f29 := f28.below hB
        have g529 := (Below.toUpd hB).boxed g528 (fun e => by have := g528.lt; omega)
        have g629 := (Below.toUpd hB).boxed g628 (fun e => by have := g628.lt; omega)
        refine hK.out _ _ (fun _ => f29.1) ?_
        clear hK K'
        try simp only [Act.put, List.setIfInBounds_toArray, List.set_cons_zero, List.set_cons_succ]
        obtain ⟨l1, l2, l3, l4⟩ := key _ _ V29 f29 g529 g629 (by first | exact hne | exact hne.symm) f23.2.2.2.1 f0.2.2.2.1
        have hc5 := g529.cell
        have hf5 := g529.frozen
        have hc6 := l1
        have hf6 := l2
        refine anyT_one (i := 11) (by kernel_rfl) rfl (fun K' hK => ?_)
        go_simp
        refine hK.out _ _ (fun _ => l3) ?_
        clear hK K'
        try simp only [Act.put, List.setIfInBounds_toArray, List.set_cons_zero, List.set_cons_succ]
        refine anyT_one (i := 12) (by kernel_rfl) rfl (fun K' hK => ?_)
        go_simp
        refine hK.out _ _ (fun h => absurd rfl h) ?_
        clear hK K'
        try simp only [Act.put, List.setIfInBounds_toArray, List.set_cons_zero, List.set_cons_succ]
        refine anyT_done (by kernel_rfl) ?_ _
        go_wp2
        go_ret
        exact ⟨_, _, rfl, l4⟩
  · go_simp
    have f30 := f0.alloc (.cells #[Value.int .i64 0] 57)
    have g530 := Boxed.new V0 57 (.int .i64 0)
    have hd30 : ∀ k, k < V0.heap.size → k ≠ V0.heap.size := fun k h e => by omega
    refine hK.out _ _ (fun _ => f30.1) ?_
    clear hK K'
    try simp only [Act.put, List.setIfInBounds_toArray, List.set_cons_zero, List.set_cons_succ]
    obtain ⟨V30, hV30⟩ : ∃ V30, V0.alloc (.cells #[Value.int .i64 0] 57) = V30 := ⟨_, rfl⟩
    rw [hV30] at f30 g530 ⊢
    clear hV30 hd30
    refine anyT_two2 (i := 2) (j := 10) (by kernel_rfl) rfl rfl (fun K' hK => ?_) (fun K' hK => ?_)
    · go_simp
      refine (hw1 _).mono ?_
      rintro e w' ⟨rfl, rfl⟩
      refine hK.out _ _ (fun _ => f30.1) ?_
      clear hK K'
      try simp only [Act.put, List.setIfInBounds_toArray, List.set_cons_zero, List.set_cons_succ]
      refine anyT_two2 (i := 5) (j := 10) (by kernel_rfl) rfl rfl (fun K' hK => ?_) (fun K' hK => ?_)
      · go_simp
        refine (hw2 _).mono ?_
        rintro e w' ⟨rfl, rfl⟩
        refine hK.out _ _ (fun _ => f30.1) ?_
        clear hK K'
        try simp only [Act.put, List.setIfInBounds_toArray, List.set_cons_zero, List.set_cons_succ]
        refine anyT_two2 (i := 8) (j := 10) (by kernel_rfl) rfl rfl (fun K' hK => ?_) (fun K' hK => ?_)
        · go_simp
          refine (obetween_any _ n n zs a b hvo V30 (f30.2.2.1.ints' f30.2.2.1.lt hlen.out) ha hb).mono ?_
          rintro e V31 ⟨rfl, hB⟩
          have f31 := f30.below hB
          have g531 := (Below.toUpd hB).boxed g530 (fun e => by have := g530.lt; omega)
          refine hK.out _ _ (fun _ => f31.1) ?_
          clear hK K'
          try simp only [Act.put, List.setIfInBounds_toArray, List.set_cons_zero, List.set_cons_succ]
          refine anyT_one (i := 10) (by kernel_rfl) rfl (fun K' hK => ?_)
          go_simp
          have f32 := f31.alloc (.cells #[Value.int .i64 0] 57)
          have g532 := g531.alloc (.cells #[Value.int .i64 0] 57)
          have g632 := Boxed.new V31 57 (.int .i64 0)
          have hd32 : ∀ k, k < V31.heap.size → k ≠ V31.heap.size := fun k h e => by omega
          refine hK.out _ _ (fun _ => f32.1) ?_
          clear hK K'
          try simp only [Act.put, List.setIfInBounds_toArray, List.set_cons_zero, List.set_cons_succ]
          have hne := hd32 _ g531.lt
          obtain ⟨V32, hV32⟩ : ∃ V32, V31.alloc (.cells #[Value.int .i64 0] 57) = V32 := ⟨_, rfl⟩
          rw [hV32] at f32 g532 g632 ⊢
          clear hV32 hd32
          obtain ⟨l1, l2, l3, l4⟩ := key _ _ V32 f32 g532 g632 (by first | exact hne | exact hne.symm) f0.2.2.2.1 f31.2.2.2.1
          have hc5 := g532.cell
          have hf5 := g532.frozen
          have hc6 := l1
          have hf6 := l2
          refine anyT_one (i := 11) (by kernel_rfl) rfl (fun K' hK => ?_)
          go_simp
          refine hK.out _ _ (fun _ => l3) ?_
          clear hK K'
          try simp only [Act.put, List.setIfInBounds_toArray, List.set_cons_zero, List.set_cons_succ]
          refine anyT_one (i := 12) (by kernel_rfl) rfl (fun K' hK => ?_)
          go_simp
          refine hK.out _ _ (fun h => absurd rfl h) ?_
          clear hK K'
          try simp only [Act.put, List.setIfInBounds_toArray, List.set_cons_zero, List.set_cons_succ]
          refine anyT_done (by kernel_rfl) ?_ _
          go_wp2
          go_ret
          exact ⟨_, _, rfl, l4⟩
        · go_simp
          have f33 := f30.alloc (.cells #[Value.int .i64 0] 57)
          have g533 := g530.alloc (.cells #[Value.int .i64 0] 57)
          have g633 := Boxed.new V30 57 (.int .i64 0)
          have hd33 : ∀ k, k < V30.heap.size → k ≠ V30.heap.size := fun k h e => by omega
          refine hK.out _ _ (fun _ => f33.1) ?_
          clear hK K'
          try simp only [Act.put, List.setIfInBounds_toArray, List.set_cons_zero, List.set_cons_succ]
          have hne := hd33 _ g530.lt
          obtain ⟨V33, hV33⟩ : ∃ V33, V30.alloc (.cells #[Value.int .i64 0] 57) = V33 := ⟨_, rfl⟩
          rw [hV33] at f33 g533 g633 ⊢
          clear hV33 hd33
          refine anyT_one (i := 8) (by kernel_rfl) rfl (fun K' hK => ?_)
          go_simp
          refine (obetween_any _ n n zs a b hvo V33 (f33.2.2.1.ints' f33.2.2.1.lt hlen.out) ha hb).mono ?_
          rintro e V34 ⟨rfl, hB⟩
          have f34 := f33.below hB
          have g534 := (Below.toUpd hB).boxed g533 (fun e => by have := g533.lt; omega)
          have g634 := (Below.toUpd hB).boxed g633 (fun e => by have := g633.lt; omega)
          refine hK.out _ _ (fun _ => f34.1) ?_
          clear hK K'
          try simp only [Act.put, List.setIfInBounds_toArray, List.set_cons_zero, List.set_cons_succ]
          obtain ⟨l1, l2, l3, l4⟩ := key _ _ V34 f34 g534 g634 (by first | exact hne | exact hne.symm) f0.2.2.2.1 f30.2.2.2.1
          have hc5 := g534.cell
          have hf5 := g534.frozen
          have hc6 := l1
          have hf6 := l2
          refine anyT_one (i := 11) (by kernel_rfl) rfl (fun K' hK => ?_)
          go_simp
          refine hK.out _ _ (fun _ => l3) ?_
          clear hK K'
          try simp only [Act.put, List.setIfInBounds_toArray, List.set_cons_zero, List.set_cons_succ]
          refine anyT_one (i := 12) (by kernel_rfl) rfl (fun K' hK => ?_)
          go_simp
          refine hK.out _ _ (fun h => absurd rfl h) ?_
          clear hK K'
          try simp only [Act.put, List.setIfInBounds_toArray, List.set_cons_zero, List.set_cons_succ]
          refine anyT_done (by kernel_rfl) ?_ _
          go_wp2
          go_ret
          exact ⟨_, _, rfl, l4⟩
      · go_simp
        have f35 := f30.alloc (.cells #[Value.int .i64 0] 57)
        have g535 := g530.alloc (.cells #[Value.int .i64 0] 57)
        have g635 := Boxed.new V30 57 (.int .i64 0)
        have hd35 : ∀ k, k < V30.heap.size → k ≠ V30.heap.size := fun k h e => by omega
        refine hK.out _ _ (fun _ => f35.1) ?_
        clear hK K'
        try simp only [Act.put, List.setIfInBounds_toArray, List.set_cons_zero, List.set_cons_succ]
        have hne := hd35 _ g530.lt
        obtain ⟨V35, hV35⟩ : ∃ V35, V30.alloc (.cells #[Value.int .i64 0] 57) = V35 := ⟨_, rfl⟩
        rw [hV35] at f35 g535 g635 ⊢
        clear hV35 hd35
        refine anyT_one (i := 5) (by kernel_rfl) rfl (fun K' hK => ?_)
        go_simp
        refine (hw2 _).mono ?_
        rintro e w' ⟨rfl, rfl⟩
        refine hK.out _ _ (fun _ => f35.1) ?_
        clear hK K'
        try simp only [Act.put, List.setIfInBounds_toArray, List.set_cons_zero, List.set_cons_succ]
        refine anyT_one (i := 8) (by kernel_rfl) rfl (fun K' hK => ?_)
        go_simp
        refine (obetween_any _ n n zs a b hvo V35 (f35.2.2.1.ints' f35.2.2.1.lt hlen.out) ha hb).mono ?_
        rintro e V36 ⟨rfl, hB⟩
        have f36 := f35.below hB
        have g536 := (Below.toUpd hB).boxed g535 (fun e => by have := g535.lt; omega)
        have g636 := (Below.toUpd hB).boxed g635 (fun e => by have := g635.lt; omega)
        refine hK.out _ _ (fun _ => f36.1) ?_
        clear hK K'
        try simp only [Act.put, List.setIfInBounds_toArray, List.set_cons_zero, List.set_cons_succ]
        obtain ⟨l1, l2, l3, l4⟩ := key _ _ V36 f36 g536 g636 (by first | exact hne | exact hne.symm) f0.2.2.2.1 f30.2.2.2.1
        have hc5 := g536.cell
        have hf5 := g536.frozen
        have hc6 := l1
        have hf6 := l2
        refine anyT_one (i := 11) (by kernel_rfl) rfl (fun K' hK => ?_)
        go_simp
        refine hK.out _ _ (fun _ => l3) ?_
        clear hK K'
        try simp only [Act.put, List.setIfInBounds_toArray, List.set_cons_zero, List.set_cons_succ]
        refine anyT_one (i := 12) (by kernel_rfl) rfl (fun K' hK => ?_)
        go_simp
        refine hK.out _ _ (fun h => absurd rfl h) ?_
        clear hK K'
        try simp only [Act.put, List.setIfInBounds_toArray, List.set_cons_zero, List.set_cons_succ]
        refine anyT_done (by kernel_rfl) ?_ _
        go_wp2
        go_ret
        exact ⟨_, _, rfl, l4⟩
    · go_simp
      have f37 := f30.alloc (.cells #[Value.int .i64 0] 57)
      have g537 := g530.alloc (.cells #[Value.int .i64 0] 57)
      have g637 := Boxed.new V30 57 (.int .i64 0)
      have hd37 : ∀ k, k < V30.heap.size → k ≠ V30.heap.size := fun k h e => by omega
      refine hK.out _ _ (fun _ => f37.1) ?_
      clear hK K'
      try simp only [Act.put, List.setIfInBounds_toArray, List.set_cons_zero, List.set_cons_succ]
      have hne := hd37 _ g530.lt
      obtain ⟨V37, hV37⟩ : ∃ V37, V30.alloc (.cells #[Value.int .i64 0] 57) = V37 := ⟨_, rfl⟩
      rw [hV37] at f37 g537 g637 ⊢
      clear hV37 hd37
      refine anyT_one (i := 2) (by kernel_rfl) rfl (fun K' hK => ?_)
      go_simp
      refine (hw1 _).mono ?_
      rintro e w' ⟨rfl, rfl⟩
      refine hK.out _ _ (fun _ => f37.1) ?_
      clear hK K'
      try simp only [Act.put, List.setIfInBounds_toArray, List.set_cons_zero, List.set_cons_succ]
      refine anyT_one (i := 5) (by kernel_rfl) rfl (fun K' hK => ?_)
      go_simp
      refine (hw2 _).mono ?_
      rintro e w' ⟨rfl, rfl⟩
      refine hK.out _ _ (fun _ => f37.1) ?_
      clear hK K'
      try simp only [Act.put, List.setIfInBounds_toArray, List.set_cons_zero, List.set_cons_succ]
      refine anyT_one (i := 8) (by kernel_rfl) rfl (fun K' hK => ?_)
      go_simp
      refine (obetween_any _ n n zs a b hvo V37 (f37.2.2.1.ints' f37.2.2.1.lt hlen.out) ha hb).mono ?_
      rintro e V38 ⟨rfl, hB⟩
      have f38 := f37.below hB
      have g538 := (Below.toUpd hB).boxed g537 (fun e => by have := g537.lt; omega)
      have g638 := (Below.toUpd hB).boxed g637 (fun e => by have := g637.lt; omega)
      refine hK.out _ _ (fun _ => f38.1) ?_
      clear hK K'
      try simp only [Act.put, List.setIfInBounds_toArray, List.set_cons_zero, List.set_cons_succ]
      obtain ⟨l1, l2, l3, l4⟩ := key _ _ V38 f38 g538 g638 (by first | exact hne | exact hne.symm) f0.2.2.2.1 f30.2.2.2.1
      have hc5 := g538.cell
      have hf5 := g538.frozen
      have hc6 := l1
      have hf6 := l2
      refine anyT_one (i := 11) (by kernel_rfl) rfl (fun K' hK => ?_)
      go_simp
      refine hK.out _ _ (fun _ => l3) ?_
      clear hK K'
      try simp only [Act.put, List.setIfInBounds_toArray, List.set_cons_zero, List.set_cons_succ]
      refine anyT_one (i := 12) (by kernel_rfl) rfl (fun K' hK => ?_)
      go_simp
      refine hK.out _ _ (fun h => absurd rfl h) ?_
      clear hK K'
      try simp only [Act.put, List.setIfInBounds_toArray, List.set_cons_zero, List.set_cons_succ]
      refine anyT_done (by kernel_rfl) ?_ _
      go_wp2
      go_ret
      exact ⟨_, _, rfl, l4⟩
  · go_simp
    have f39 := f0.alloc (.cells #[Value.int .i64 0] 57)
    have g639 := Boxed.new V0 57 (.int .i64 0)
    have hd39 : ∀ k, k < V0.heap.size → k ≠ V0.heap.size := fun k h e => by omega
    refine hK.out _ _ (fun _ => f39.1) ?_
    clear hK K'
    try simp only [Act.put, List.setIfInBounds_toArray, List.set_cons_zero, List.set_cons_succ]
    obtain ⟨V39, hV39⟩ : ∃ V39, V0.alloc (.cells #[Value.int .i64 0] 57) = V39 := ⟨_, rfl⟩
    rw [hV39] at f39  g639 ⊢
    clear hV39 hd39
    refine anyT_two2 (i := 2) (j := 9) (by kernel_rfl) rfl rfl (fun K' hK => ?_) (fun K' hK => ?_)
    · go_simp
      refine (hw1 _).mono ?_
      rintro e w' ⟨rfl, rfl⟩
      refine hK.out _ _ (fun _ => f39.1) ?_
      clear hK K'
      try simp only [Act.put, List.setIfInBounds_toArray, List.set_cons_zero, List.set_cons_succ]
      refine anyT_two2 (i := 5) (j := 9) (by kernel_rfl) rfl rfl (fun K' hK => ?_) (fun K' hK => ?_)
      · go_simp
        refine (hw2 _).mono ?_
        rintro e w' ⟨rfl, rfl⟩
        refine hK.out _ _ (fun _ => f39.1) ?_
        clear hK K'
        try simp only [Act.put, List.setIfInBounds_toArray, List.set_cons_zero, List.set_cons_succ]
        refine anyT_two2 (i := 8) (j := 9) (by kernel_rfl) rfl rfl (fun K' hK => ?_) (fun K' hK => ?_)
        · go_simp
          refine (obetween_any _ n n zs a b hvo V39 (f39.2.2.1.ints' f39.2.2.1.lt hlen.out) ha hb).mono ?_
          rintro e V40 ⟨rfl, hB⟩
          have f40 := f39.below hB
          have g640 := (Below.toUpd hB).boxed g639 (fun e => by have := g639.lt; omega)
          refine hK.out _ _ (fun _ => f40.1) ?_
          clear hK K'
          try simp only [Act.put, List.setIfInBounds_toArray, List.set_cons_zero, List.set_cons_succ]
          refine anyT_one (i := 9) (by kernel_rfl) rfl (fun K' hK => ?_)
          go_simp
          have f41 := f40.alloc (.cells #[Value.int .i64 0] 57)
          have g641 := g640.alloc (.cells #[Value.int .i64 0] 57)
          have g541 := Boxed.new V40 57 (.int .i64 0)
          have hd41 : ∀ k, k < V40.heap.size → k ≠ V40.heap.size := fun k h e => by omega
          refine hK.out _ _ (fun _ => f41.1) ?_
          clear hK K'
          try simp only [Act.put, List.setIfInBounds_toArray, List.set_cons_zero, List.set_cons_succ]
          have hne := hd41 _ g640.lt
          obtain ⟨V41, hV41⟩ : ∃ V41, V40.alloc (.cells #[Value.int .i64 0] 57) = V41 := ⟨_, rfl⟩
          rw [hV41] at f41 g541 g641 ⊢
          clear hV41 hd41
          obtain ⟨l1, l2, l3, l4⟩ := key _ _ V41 f41 g541 g641 (by first | exact hne | exact hne.symm) f40.2.2.2.1 f0.2.2.2.1
          have hc5 := g541.cell
          have hf5 := g541.frozen
          have hc6 := l1
          have hf6 := l2
          refine anyT_one (i := 11) (by kernel_rfl) rfl (fun K' hK => ?_)
          go_simp
          refine hK.out _ _ (fun _ => l3) ?_
          clear hK K'
          try simp only [Act.put, List.setIfInBounds_toArray, List.set_cons_zero, List.set_cons_succ]
          refine anyT_one (i := 12) (by kernel_rfl) rfl (fun K' hK => ?_)
          go_simp
          refine hK.out _ _ (fun h => absurd rfl h) ?_
          clear hK K'
          try simp only [Act.put, List.setIfInBounds_toArray, List.set_cons_zero, List.set_cons_succ]
          refine anyT_done (by kernel_rfl) ?_ _
          go_wp2
          go_ret
          exact ⟨_, _, rfl, l4⟩
        · go_simp
          have f42 := f39.alloc (.cells #[Value.int .i64 0] 57)
          have g642 := g639.alloc (.cells #[Value.int .i64 0] 57)
          have g542 := Boxed.new V39 57 (.int .i64 0)
          have hd42 : ∀ k, k < V39.heap.size → k ≠ V39.heap.size := fun k h e => by omega
          refine hK.out _ _ (fun _ => f42.1) ?_
          clear hK K'
          try simp only [Act.put, List.setIfInBounds_toArray, List.set_cons_zero, List.set_cons_succ]
          have hne := hd42 _ g639.lt
          obtain ⟨V42, hV42⟩ : ∃ V42, V39.alloc (.cells #[Value.int .i64 0] 57) = V42 := ⟨_, rfl⟩
          rw [hV42] at f42 g542 g642 ⊢
          clear hV42 hd42
          refine anyT_one (i := 8) (by kernel_rfl) rfl (fun K' hK => ?_)
          go_simp
          refine (obetween_any _ n n zs a b hvo V42 (f42.2.2.1.ints' f42.2.2.1.lt hlen.out) ha hb).mono ?_
          rintro e V43 ⟨rfl, hB⟩
          have f43 := f42.below hB
          have g543 := (Below.toUpd hB).boxed g542 (fun e => by have := g542.lt; omega)
          have g643 := (Below.toUpd hB).boxed g642 (fun e => by have := g642.lt; omega)
          refine hK.out _ _ (fun _ => f43.1) ?_
          clear hK K'
          try simp only [Act.put, List.setIfInBounds_toArray, List.set_cons_zero, List.set_cons_succ]
          obtain ⟨l1, l2, l3, l4⟩ := key _ _ V43 f43 g543 g643 (by first | exact hne | exact hne.symm) f39.2.2.2.1 f0.2.2.2.1
          have hc5 := g543.cell
          have hf5 := g543.frozen
          have hc6 := l1
          have hf6 := l2
          refine anyT_one (i := 11) (by kernel_rfl) rfl (fun K' hK => ?_)
          go_simp
          refine hK.out _ _ (fun _ => l3) ?_
          clear hK K'
          try simp only [Act.put, List.setIfInBounds_toArray, List.set_cons_zero, List.set_cons_succ]
          refine anyT_one (i := 12) (by kernel_rfl) rfl (fun K' hK => ?_)
          go_simp
          refine hK.out _ _ (fun h => absurd rfl h) ?_
          clear hK K'
          try simp only [Act.put, List.setIfInBounds_toArray, List.set_cons_zero, List.set_cons_succ]
          refine anyT_done (by kernel_rfl) ?_ _
          go_wp2
          go_ret
          exact ⟨_, _, rfl, l4⟩
      · go_simp
        have f44 := f39.alloc (.cells #[Value.int .i64 0] 57)
        have g644 := g639.alloc (.cells #[Value.int .i64 0] 57)
        have g544 := Boxed.new V39 57 (.int .i64 0)
        have hd44 : ∀ k, k < V39.heap.size → k ≠ V39.heap.size := fun k h e => by omega
        refine hK.out _ _ (fun _ => f44.1) ?_
        clear hK K'
        try simp only [Act.put, List.setIfInBounds_toArray, List.set_cons_zero, List.set_cons_succ]
        have hne := hd44 _ g639.lt
        obtain ⟨V44, hV44⟩ : ∃ V44, V39.alloc (.cells #[Value.int .i64 0] 57) = V44 := ⟨_, rfl⟩
        rw [hV44] at f44 g544 g644 ⊢
        clear hV44 hd44
        refine anyT_one (i := 5) (by kernel_rfl) rfl (fun K' hK => ?_)
        go_simp
        refine (hw2 _).mono ?_
        rintro e w' ⟨rfl, rfl⟩
        refine hK.out _ _ (fun _ => f44.1) ?_
        clear hK K'
        try simp only [Act.put, List.setIfInBounds_toArray, List.set_cons_zero, List.set_cons_succ]
        refine anyT_one (i := 8) (by kernel_rfl) rfl (fun K' hK => ?_)
        go_simp
        refine (obetween_any _ n n zs a b hvo V44 (f44.2.2.1.ints' f44.2.2.1.lt hlen.out) ha hb).mono ?_
        rintro e V45 ⟨rfl, hB⟩
        have f45 := f44.below hB
        have g545 := (Below.toUpd hB).boxed g544 (fun e => by have := g544.lt; omega)
        have g645 := (Below.toUpd hB).boxed g644 (fun e => by have := g644.lt; omega)
        refine hK.out _ _ (fun _ => f45.1) ?_
        clear hK K'
        try simp only [Act.put, List.setIfInBounds_toArray, List.set_cons_zero, List.set_cons_succ]
        obtain ⟨l1, l2, l3, l4⟩ := key _ _ V45 f45 g545 g645 (by first | exact hne | exact hne.symm) f39.2.2.2.1 f0.2.2.2.1
        have hc5 := g545.cell
        have hf5 := g545.frozen
        have hc6 := l1
        have hf6 := l2
        refine anyT_one (i := 11) (by kernel_rfl) rfl (fun K' hK => ?_)
        go_simp
        refine hK.out _ _ (fun _ => l3) ?_
        clear hK K'
        try simp only [Act.put, List.setIfInBounds_toArray, List.set_cons_zero, List.set_cons_succ]
        refine anyT_one (i := 12) (by kernel_rfl) rfl (fun K' hK => ?_)
        go_simp
        refine hK.out _ _ (fun h => absurd rfl h) ?_
        clear hK K'
        try simp only [Act.put, List.setIfInBounds_toArray, List.set_cons_zero, List.set_cons_succ]
        refine anyT_done (by kernel_rfl) ?_ _
        go_wp2
        go_ret
        exact ⟨_, _, rfl, l4⟩
    · go_simp
      have f46 := f39.alloc (.cells #[Value.int .i64 0] 57)
      have g646 := g639.alloc (.cells #[Value.int .i64 0] 57)
      have g546 := Boxed.new V39 57 (.int .i64 0)
      have hd46 : ∀ k, k < V39.heap.size → k ≠ V39.heap.size := fun k h e => by omega
      refine hK.out _ _ (fun _ => f46.1) ?_
      clear hK K'
      try simp only [Act.put, List.setIfInBounds_toArray, List.set_cons_zero, List.set_cons_succ]
      have hne := hd46 _ g639.lt
      obtain ⟨V46, hV46⟩ : ∃ V46, V39.alloc (.cells #[Value.int .i64 0] 57) = V46 := ⟨_, rfl⟩
      rw [hV46] at f46 g546 g646 ⊢
      clear hV46 hd46
      refine anyT_one (i := 2) (by kernel_rfl) rfl (fun K' hK => ?_)
      go_simp
      refine (hw1 _).mono ?_
      rintro e w' ⟨rfl, rfl⟩
      refine hK.out _ _ (fun _ => f46.1) ?_
      clear hK K'
      try simp only [Act.put, List.setIfInBounds_toArray, List.set_cons_zero, List.set_cons_succ]
      refine anyT_one (i := 5) (by kernel_rfl) rfl (fun K' hK => ?_)
      go_simp
      refine (hw2 _).mono ?_
      rintro e w' ⟨rfl, rfl⟩
      refine hK.out _ _ (fun _ => f46.1) ?_
      clear hK K'
      try simp only [Act.put, List.setIfInBounds_toArray, List.set_cons_zero, List.set_cons_succ]
      refine anyT_one (i := 8) (by kernel_rfl) rfl (fun K' hK => ?_)
      go_simp
      refine (obetween_any _ n n zs a b hvo V46 (f46.2.2.1.ints' f46.2.2.1.lt hlen.out) ha hb).mono ?_
      rintro e V47 ⟨rfl, hB⟩
      have f47 := f46.below hB
      have g547 := (Below.toUpd hB).boxed g546 (fun e => by have := g546.lt; omega)
      have g647 := (Below.toUpd hB).boxed g646 (fun e => by have := g646.lt; omega)
      refine hK.out _ _ (fun _ => f47.1) ?_
      clear hK K'
      try simp only [Act.put, List.setIfInBounds_toArray, List.set_cons_zero, List.set_cons_succ]
      obtain ⟨l1, l2, l3, l4⟩ := key _ _ V47 f47 g547 g647 (by first | exact hne | exact hne.symm) f39.2.2.2.1 f0.2.2.2.1
      have hc5 := g547.cell
      have hf5 := g547.frozen
      have hc6 := l1
      have hf6 := l2
      refine anyT_one (i := 11) (by kernel_rfl) rfl (fun K' hK => ?_)
      go_simp
      refine hK.out _ _ (fun _ => l3) ?_
      clear hK K'
      try simp only [Act.put, List.setIfInBounds_toArray, List.set_cons_zero, List.set_cons_succ]
      refine anyT_one (i := 12) (by kernel_rfl) rfl (fun K' hK => ?_)
      go_simp
      refine hK.out _ _ (fun h => absurd rfl h) ?_
      clear hK K'
      try simp only [Act.put, List.setIfInBounds_toArray, List.set_cons_zero, List.set_cons_succ]
      refine anyT_done (by kernel_rfl) ?_ _
      go_wp2
      go_ret
      exact ⟨_, _, rfl, l4⟩
end Go.Proofs.Ytopfeebibphdgaa

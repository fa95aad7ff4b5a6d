/- sumOver: the sum over all that a function yields, of what another function tells (over sets). -/
import Derived.Test.YtopfeebibphdgaaGb
import Derived.Test.YtopfeebibphdgaaGa
namespace Go.Proofs.Ytopfeebibphdgaa
open Go.RowKit Go.Shelf
attribute [local go_sem] Oper.semAt_some
attribute [local go_sem, local simp] wide_fn


set_option maxRecDepth 100000 in
set_option maxHeartbeats 4000000 in
theorem sumOverS_any {gf vf : Nat} (lb vb : Array Value) (L : List Nat) (g : Nat → Int) (w : World) (M : Nat → Prop) (hM : ∀ k, M k → k < w.heap.size) (Inv : List Nat → World → Prop)
    (eg : ∀ args w, (callFunc gf args).run Try.prog w = .ok (.enter gf args) w)
    (ev : ∀ args w, (callFunc vf args).run Try.prog w = .ok (.enter vf args) w)
    (hsmall : ∀ pre, pre <+: L → -1000000000000 ≤ lsum g pre ∧ lsum g pre ≤ 1000000000000)
    (hI : ∀ (W1 : World) (M' : Nat → Prop), Upd (fun _ => False) w W1 → (∀ k, M' k → M k ∨ w.heap.size ≤ k) → (∀ k, M' k → k < W1.heap.size) → Iter Try.prog gf lb encS L M' W1)
    (hv : ∀ pre x W, pre ++ [x] <+: L → Inv pre W → Upd M w W → Calls Try.prog vf (#[.int .i64 (x : Int)] ++ vb) W fun e W' => e = .returned (.int .i64 (g x)) ∧ Inv (pre ++ [x]) W' ∧ Upd M W W')
    (hInv : ∀ pre X Y, Inv pre X → w.heap.size ≤ X.heap.size → Upd (fun k => w.heap.size ≤ k) X Y → Inv pre Y)
    (h0 : Inv [] w) :
    Calls Try.prog 53 #[.func (.func gf) #[] lb, .func (.func vf) #[] vb] w fun e W' => e = .returned (.int .i64 (lsum g L)) ∧ Inv L W' ∧ Upd M w W' := by
  refine (callsIn_wide (n := 9)).1 ?_
  refine callsIn_of_wp_marks Try.func53 rfl trivial ?_ rfl
  simp only [Try.ntmps53, List.size_toArray, List.length_cons, List.length_nil, Nat.reduceAdd, Nat.reduceSub, Array.replicate_succ, Array.replicate_zero, List.push_toArray, List.append_toArray, List.nil_append, List.cons_append]
  have bV0 := ((Boxed.new w 61 (.func (.func vf) #[] vb)).alloc (.cells #[Value.int .i64 0] 3))
  have bS0 := Boxed.new (w.alloc (.cells #[Value.func (.func vf) #[] vb] 61)) 3 (.int .i64 0)
  have hu0 : Upd (fun _ => False) w ((w.alloc (.cells #[Value.func (.func vf) #[] vb] 61)).alloc (.cells #[Value.int .i64 0] 3)) := ((Upd.refl _ w).alloc _).alloc _
  have hz0 : ((w.alloc (.cells #[Value.func (.func vf) #[] vb] 61)).alloc (.cells #[Value.int .i64 0] 3)).heap.size = w.heap.size + 2 := by simp
  simp only [World.size_alloc] at bV0 bS0
  gi_wp2_with fail
  obtain ⟨W0, hW0⟩ : ∃ W0, (w.alloc (.cells #[Value.func (.func vf) #[] vb] 61)).alloc (.cells #[Value.int .i64 0] 3) = W0 := ⟨_, rfl⟩
  rw [hW0] at bV0 bS0 hu0 hz0 ⊢
  clear hW0
  have hInv0 := hInv _ _ _ h0 (Nat.le_refl _) (hu0.mono fun _ _ e => e.elim)
  refine range_out (n := 9) (gf := gf) (lb := lb) rfl eg (encs := encS) (L := L)
    (fun k => M k ∨ k = w.heap.size + 1) (fun k e => e.elim (fun e => by have := hM k e; omega) (fun e => by omega)) (fun _ => rfl)
    (fun W1 l1 hu1 hl1 hl2 => hI W1 _ (hu0.trans' hu1 (fun i hi e => e)) (fun k e => e.elim (fun e => e.elim .inl (fun e => .inr (by omega))) (fun e => .inr (by omega))) (fun k e => by have := hu1.size; exact e.elim (fun e => e.elim (fun e => by have := hM k e; omega) (fun e => by omega)) (fun e => by omega)))
    (fun pre D W => Boxed W (w.heap.size + 1) 3 (.int .i64 (lsum g pre)) ∧ Inv pre W ∧ Upd (fun k => M k ∨ k = w.heap.size + 1) W0 W)
    (fun _ _ _ _ => False)
    (fun _ D X Y hs hu => by
      obtain ⟨h1, h2, h3⟩ := hs
      have := h3.size
      exact ⟨hu.boxed h1 (fun e => by omega), hInv _ _ _ h2 (by omega) (hu.mono fun k _ e => by omega), h3.trans' hu (fun i hi e => by omega)⟩)
    (fun _ _ _ _ _ hs _ => hs)
    ⟨bS0, hInv0, Upd.refl _ _⟩ ?owes ?done ?stop
  case owes =>
    rintro l1 pre x D1 W hl1 hl2 hDl hD1 - hpre K hK
    gi_wp2
    refine hK _ _ (Upd.refl _ _) ?_
    rintro Wb hWb - ⟨bS1, hi1, hU⟩
    clear hK
    have hszb := hWb.size
    have hsb := hU.size
    have bV1 := hU.boxed bV0 (fun e => e.elim (fun e => by have := hM _ e; omega) (fun e => by omega))
    have hUM : Upd M w Wb := (hu0.mono fun _ _ e => e.elim).trans' hU (fun i hi e => e.elim id (fun e => by omega))
    have hcall := hv pre x Wb hpre hi1 hUM
    have hb1 := hsmall pre ((List.prefix_append _ _).trans hpre)
    have hb2 := hsmall (pre ++ [x]) hpre
    rw [lsum_snoc] at hb2
    have hwr : IntKind.i64.wrap (lsum g pre + g x) = lsum g pre + g x := by rw [IntKind.wrap_i64]; omega
    have Hsn := Lib.hid (lsum_snoc g pre x)
    gi_wp2
    have bSd : Boxed Wb.drew (w.heap.size + 1) 3 (.int .i64 (lsum g pre)) := bS1
    have bVd : Boxed Wb.drew w.heap.size 61 (.func (.func vf) #[] vb) := bV1
    have hcalld := hv pre x Wb.drew hpre (hInv _ _ _ hi1 (by omega) ((Upd.refl _ Wb).drew)) (hUM.drew)
    have hWd : Upd (fun _ => False) Wb Wb.drew := (Upd.refl _ Wb).drew
    have hUd : Upd (fun k => M k ∨ k = w.heap.size + 1) W0 Wb.drew := hU.drew
    clear bS1 bV1 hcall
    refine region_T_round (S := (fun w' => w'.cell? ⟨w.heap.size + 1, 0, none⟩ = some (.int .i64 (lsum g pre)) ∧ w'.cell? ⟨w.heap.size, 0, none⟩ = some (.func (.func vf) #[] vb))) 5 (by kernel_rfl) (by kernel_rfl) (by rintro ⟨_, _, h⟩; exact h) ?_
    obtain ⟨Wd, hWd2⟩ : ∃ Wd, Wb.drew = Wd := ⟨_, rfl⟩
    rw [hWd2] at bSd bVd hcalld hWd hUd ⊢
    clear hWd2
    have hSd : (fun w' => w'.cell? ⟨w.heap.size + 1, 0, none⟩ = some (.int .i64 (lsum g pre)) ∧ w'.cell? ⟨w.heap.size, 0, none⟩ = some (.func (.func vf) #[] vb)) Wd := ⟨bSd.cell, bVd.cell⟩
    refine anyT_take (i := 0) (oi := ?oi0a) (v := .int .i64 (lsum g pre)) ?hi0a (by kernel_rfl) ?hq0a ?hy0a (by assumption) ?rest0a
    case hi0a => (simp only [List.getElem?_toArray, List.getElem?_cons_zero]; first | done | rfl)
    case hq0a => first | exact fun _ _ _ h => h | exact fun _ _ _ h => (by cases h.1)
    case hy0a => (refine Or.inl ⟨by rfl, ?_⟩; intro wz hSw; obtain ⟨hS1, hS2⟩ := hSw; go_simp; first | done | with_reducible rfl | simp | omega)
    try simp only [Act.put, List.setIfInBounds_toArray, List.set_cons_zero, List.set_cons_succ]
    refine anyT_take (i := 1) (oi := ?oi1a) (v := .func (.func vf) #[] vb) ?hi1a (by kernel_rfl) ?hq1a ?hy1a (by assumption) ?rest1a
    case hi1a => (simp only [List.getElem?_toArray, List.getElem?_cons_succ, List.getElem?_cons_zero]; first | done | rfl)
    case hq1a => first | exact fun _ _ _ h => h | exact fun _ _ _ h => (by cases h.1)
    case hy1a => (refine Or.inl ⟨by rfl, ?_⟩; intro wz hSw; obtain ⟨hS1, hS2⟩ := hSw; go_simp; first | done | with_reducible rfl | simp | omega)
    try simp only [Act.put, List.setIfInBounds_toArray, List.set_cons_zero, List.set_cons_succ]
    refine anyT_take (i := 2) (oi := ?oi2a) (v := .int .i64 (x : Int)) ?hi2a (by kernel_rfl) ?hq2a ?hy2a (by assumption) ?rest2a
    case hi2a => (simp only [List.getElem?_toArray, List.getElem?_cons_succ, List.getElem?_cons_zero]; first | done | rfl)
    case hq2a => first | exact fun _ _ _ h => h | exact fun _ _ _ h => (by cases h.1)
    case hy2a => (refine Or.inl ⟨by rfl, ?_⟩; intro wz hSw; obtain ⟨hS1, hS2⟩ := hSw; go_simp; first | done | with_reducible rfl | simp | omega)
    try simp only [Act.put, List.setIfInBounds_toArray, List.set_cons_zero, List.set_cons_succ]
    refine anyT_one (i := 3) (by kernel_rfl) rfl (fun K' hK => ?_)
    go_simp
    refine hcalld.mono ?_
    rintro e W2 ⟨rfl, hi2, hU2⟩
    have bS2 := hU2.boxed bSd (fun e => by have := hM _ e; omega)
    have bV2 := hU2.boxed bVd (fun e => by have := hM _ e; omega)
    have hS2 : (fun w' => w'.cell? ⟨w.heap.size + 1, 0, none⟩ = some (.int .i64 (lsum g pre)) ∧ w'.cell? ⟨w.heap.size, 0, none⟩ = some (.func (.func vf) #[] vb)) W2 := ⟨bS2.cell, bV2.cell⟩
    refine hK.out _ _ (fun _ => hS2) ?_
    clear hK K'
    try simp only [Act.put, List.setIfInBounds_toArray, List.set_cons_zero, List.set_cons_succ]
    refine anyT_one (i := 4) (by kernel_rfl) rfl (fun K' hK => ?_)
    go_simp
    refine hK.out _ _ (fun _ => hS2) ?_
    clear hK K'
    try simp only [Act.put, List.setIfInBounds_toArray, List.set_cons_zero, List.set_cons_succ]
    have hcS2 := bS2.cell
    have hfS2 := bS2.frozen
    refine anyT_one (i := 5) (by kernel_rfl) rfl (fun K' hK => ?_)
    go_simp
    refine hK.out _ _ (fun h => absurd rfl h) ?_
    clear hK K'
    try simp only [Act.put, List.setIfInBounds_toArray, List.set_cons_zero, List.set_cons_succ]
    refine anyT_done (by kernel_rfl) ?_ _
    have hz2 := hU2.size
    have hzd := hWd.size
    have hus : Upd (fun k => k = w.heap.size + 1) W2 (W2.setCell ⟨w.heap.size + 1, 0, none⟩ (.int .i64 (lsum g pre + g x))) := (Upd.refl (fun k => k = w.heap.size + 1) W2).setCell (p := ⟨w.heap.size + 1, 0, none⟩) (.inr rfl) _
    have hV2 : Upd (fun k => (M k ∨ k = w.heap.size + 1) ∨ D1 k ∨ W.heap.size ≤ k) Wb W2 := (hWd.mono (fun _ _ e => e.elim)).trans' hU2 (fun i hi e => .inl (.inl e))
    gi_wp2
    exact ⟨D1, ⟨by rw [Hsn.out]; exact bS2.set _, hInv _ _ _ hi2 (by omega) (hus.mono fun _ _ e => by omega), (hUd.trans' hU2 (fun i hi e => .inl e)).trans' hus (fun i hi e => .inr e)⟩, hV2.trans' hus (fun i hi e => .inl (.inr e)), fun k hk => .inl hk⟩
  case done =>
    rintro d D1 W hd ⟨bS1, hi1, hU⟩ hD1 hKd
    have hcS := bS1.cell
    gi_wp2
    refine leaves_marks [d] _ ⟨by simp, fun b hb => ?_⟩ (fun W' hu' => ?_)
    · rw [List.mem_singleton.1 hb]
      exact hKd
    · have hsz := hU.size
      exact ⟨_, by simp [results, Try.f53, go_sem], rfl, hInv _ _ _ hi1 (by omega) (hu'.mono fun k _ e => by simp at e; omega),
        ((hu0.mono fun _ _ e => e.elim).trans' hU (fun i hi e => e.elim id (fun e => by omega))).trans' hu' (fun i hi e => by simp at e; omega)⟩
  case stop =>
    rintro d D1 co pre W hd hpre h
    exact h.elim
end Go.Proofs.Ytopfeebibphdgaa

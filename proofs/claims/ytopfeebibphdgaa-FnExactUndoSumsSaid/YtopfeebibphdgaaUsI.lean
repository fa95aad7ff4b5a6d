/- UndoSums: the program's. -/
import Derived.Test.YtopfeebibphdgaaSgQ
import Derived.Test.YtopfeebibphdgaaChP
namespace Go.Proofs.Ytopfeebibphdgaa
open Go.RowKit Go.Shelf
attribute [local go_sem] Oper.semAt_some
attribute [local go_sem, local simp] wide_fn

set_option maxRecDepth 100000 in
set_option maxHeartbeats 4000000 in
theorem undo1_any (b m n S V I x it B : Nat) (A' : Option Addr) (c' : Nat) (vs : List Int) (v : Int) (w : World) (R : World → Prop) (bV : Boxed w V 22 (.slice A' n c')) (hV : Ints w B A' n vs) (hBm : B ≤ m)
    (bS : w.heap[S]? = some (.cells #[Value.slice (some ⟨b, 0, none⟩) n n, .map (some m)] 49 (0, 0))) (bI : Boxed w I 3 (.int .i64 (it : Int))) (hx : x < n) (hvx : -1000 ≤ vs[x]?.getD 0 ∧ vs[x]?.getD 0 ≤ 1000) (hv : -279936 ≤ v ∧ v ≤ 279936) (hne : V ≠ m ∧ S ≠ m ∧ I ≠ m)
    (hrec : Calls Try.prog 47 #[signV b m n, endV x it] w.drew fun e w' => e = .returned (.int .i64 v) ∧ R w' ∧ Upd (fun i => i = m) w.drew w') :
    Calls Try.prog 88 #[.int .i64 (x : Int), .pointer (some ⟨V, 0, none⟩), .pointer (some ⟨S, 0, none⟩), .pointer (some ⟨I, 0, none⟩)] w fun e w' => e = .returned (.int .i64 (vs[x]?.getD 0 * v)) ∧ R w' ∧ Upd (fun i => i = m) w w' := by
  obtain ⟨bl, off, rfl, hbl, hcs⟩ := hV.at_ hx
  have hcx := hcs x hx
  clear hcs
  obtain ⟨n1, n2, n3⟩ := hne
  have hm := mul_in hvx.1 hvx.2 hv.1 hv.2
  have hwm : IntKind.i64.wrap (vs[x]?.getD 0 * v) = vs[x]?.getD 0 * v := by rw [IntKind.wrap_i64]; omega
  have hVl := bV.lt
  have hIl := bI.lt
  have hSl := (Array.getElem?_eq_some_iff.1 bS).1
  have hu : Upd (fun i => i = m) w w.drew := (Upd.refl _ w).drew
  unfold signV endV at hrec
  generalize vs[x]?.getD 0 = y at *
  go_enter Try.func88, Try.ntmps88
  go_wp2
  have bVd : Boxed w.drew V 22 (.slice (some ⟨bl, off, none⟩) n c') := bV
  have bId : Boxed w.drew I 3 (.int .i64 (it : Int)) := bI
  have bSd : w.drew.heap[S]? = some (.cells #[Value.slice (some ⟨b, 0, none⟩) n n, .map (some m)] 49 (0, 0)) := bS
  have hcd : w.drew.cell? ⟨bl, off + x, none⟩ = some (.int .i64 y) := hcx
  refine region_T (S := (fun w' => w'.cell? ⟨V, 0, none⟩ = some (.slice (some ⟨bl, off, none⟩) n c') ∧ w'.cell? ⟨bl, off + x, none⟩ = some (.int .i64 y) ∧ w'.heap[S]? = some (.cells #[Value.slice (some ⟨b, 0, none⟩) n n, .map (some m)] 49 (0, 0)) ∧ w'.cell? ⟨I, 0, none⟩ = some (.int .i64 (it : Int)))) 10 (by kernel_rfl) ?_
  obtain ⟨Wd, hWd⟩ : ∃ Wd, w.drew = Wd := ⟨_, rfl⟩
  rw [hWd] at bVd bId bSd hcd hrec hu ⊢
  clear hWd
  have hSd : (fun w' => w'.cell? ⟨V, 0, none⟩ = some (.slice (some ⟨bl, off, none⟩) n c') ∧ w'.cell? ⟨bl, off + x, none⟩ = some (.int .i64 y) ∧ w'.heap[S]? = some (.cells #[Value.slice (some ⟨b, 0, none⟩) n n, .map (some m)] 49 (0, 0)) ∧ w'.cell? ⟨I, 0, none⟩ = some (.int .i64 (it : Int))) Wd := ⟨bVd.cell, hcd, bSd, bId.cell⟩
  refine anyT_take (i := 0) (oi := ?oi0a) (v := .slice (some ⟨bl, off, none⟩) n c') ?hi0a (by kernel_rfl) ?hq0a ?hy0a (by assumption) ?rest0a
  case hi0a => (simp only [List.getElem?_toArray, List.getElem?_cons_zero]; first | done | rfl)
  case hq0a => first | exact fun _ _ _ h => h | exact fun _ _ _ h => (by cases h.1)
  case hy0a => (refine Or.inl ⟨by rfl, ?_⟩; intro wz hSw; obtain ⟨hS1, hS2, hS3, hS4⟩ := hSw; go_simp; first | done | with_reducible rfl | simp | omega)
  try simp only [Act.put, List.setIfInBounds_toArray, List.set_cons_zero, List.set_cons_succ]
  refine anyT_take (i := 1) (oi := ?oi1a) (v := .int .i64 (x : Int)) ?hi1a (by kernel_rfl) ?hq1a ?hy1a (by assumption) ?rest1a
  case hi1a => (simp only [List.getElem?_toArray, List.getElem?_cons_succ, List.getElem?_cons_zero]; first | done | rfl)
  case hq1a => first | exact fun _ _ _ h => h | exact fun _ _ _ h => (by cases h.1)
  case hy1a => (refine Or.inl ⟨by rfl, ?_⟩; intro wz hSw; obtain ⟨hS1, hS2, hS3, hS4⟩ := hSw; go_simp; first | done | with_reducible rfl | simp | omega)
  try simp only [Act.put, List.setIfInBounds_toArray, List.set_cons_zero, List.set_cons_succ]
  refine anyT_take (i := 2) (oi := ?oi2a) (v := .pointer (some ⟨bl, off + x, none⟩)) ?hi2a (by kernel_rfl) ?hq2a ?hy2a (by assumption) ?rest2a
  case hi2a => (simp only [List.getElem?_toArray, List.getElem?_cons_succ, List.getElem?_cons_zero]; first | done | rfl)
  case hq2a => first | exact fun _ _ _ h => h | exact fun _ _ _ h => (by cases h.1)
  case hy2a => (refine Or.inl ⟨by rfl, ?_⟩; intro wz hSw; obtain ⟨hS1, hS2, hS3, hS4⟩ := hSw; go_simp; first | done | with_reducible rfl | simp | omega)
  try simp only [Act.put, List.setIfInBounds_toArray, List.set_cons_zero, List.set_cons_succ]
  refine anyT_take (i := 3) (oi := ?oi3a) (v := .int .i64 y) ?hi3a (by kernel_rfl) ?hq3a ?hy3a (by assumption) ?rest3a
  case hi3a => (simp only [List.getElem?_toArray, List.getElem?_cons_succ, List.getElem?_cons_zero]; first | done | rfl)
  case hq3a => first | exact fun _ _ _ h => h | exact fun _ _ _ h => (by cases h.1)
  case hy3a => (refine Or.inl ⟨by rfl, ?_⟩; intro wz hSw; obtain ⟨hS1, hS2, hS3, hS4⟩ := hSw; go_simp; first | done | with_reducible rfl | simp | omega)
  try simp only [Act.put, List.setIfInBounds_toArray, List.set_cons_zero, List.set_cons_succ]
  refine anyT_take (i := 4) (oi := ?oi4a) (v := .agg #[Value.slice (some ⟨b, 0, none⟩) n n, .map (some m)]) ?hi4a (by kernel_rfl) ?hq4a ?hy4a (by assumption) ?rest4a
  case hi4a => (simp only [List.getElem?_toArray, List.getElem?_cons_succ, List.getElem?_cons_zero]; first | done | rfl)
  case hq4a => first | exact fun _ _ _ h => h | exact fun _ _ _ h => (by cases h.1)
  case hy4a => exact yieldsIf_load_row (by rfl) _ _ rfl _ rfl _ _ _ (fun _ h => h.2.2.1) Try.underlying49 rfl (by kernel_rfl)
  try simp only [Act.put, List.setIfInBounds_toArray, List.set_cons_zero, List.set_cons_succ]
  refine anyT_take (i := 5) (oi := ?oi5a) (v := .int .i64 (x : Int)) ?hi5a (by kernel_rfl) ?hq5a ?hy5a (by assumption) ?rest5a
  case hi5a => (simp only [List.getElem?_toArray, List.getElem?_cons_succ, List.getElem?_cons_zero]; first | done | rfl)
  case hq5a => first | exact fun _ _ _ h => h | exact fun _ _ _ h => (by cases h.1)
  case hy5a => (refine Or.inl ⟨by rfl, ?_⟩; intro wz hSw; obtain ⟨hS1, hS2, hS3, hS4⟩ := hSw; go_simp; first | done | with_reducible rfl | simp | omega)
  try simp only [Act.put, List.setIfInBounds_toArray, List.set_cons_zero, List.set_cons_succ]
  refine anyT_take (i := 6) (oi := ?oi6a) (v := .int .i64 (it : Int)) ?hi6a (by kernel_rfl) ?hq6a ?hy6a (by assumption) ?rest6a
  case hi6a => (simp only [List.getElem?_toArray, List.getElem?_cons_succ, List.getElem?_cons_zero]; first | done | rfl)
  case hq6a => first | exact fun _ _ _ h => h | exact fun _ _ _ h => (by cases h.1)
  case hy6a => (refine Or.inl ⟨by rfl, ?_⟩; intro wz hSw; obtain ⟨hS1, hS2, hS3, hS4⟩ := hSw; go_simp; first | done | with_reducible rfl | simp | omega)
  try simp only [Act.put, List.setIfInBounds_toArray, List.set_cons_zero, List.set_cons_succ]
  refine anyT_take (i := 7) (oi := ?oi7a) (v := .agg #[.int .i64 (x : Int), .int .i64 (it : Int)]) ?hi7a (by kernel_rfl) ?hq7a ?hy7a (by assumption) ?rest7a
  case hi7a => (simp only [List.getElem?_toArray, List.getElem?_cons_succ, List.getElem?_cons_zero]; first | done | rfl)
  case hq7a => first | exact fun _ _ _ h => h | exact fun _ _ _ h => (by cases h.1)
  case hy7a => (refine Or.inl ⟨by rfl, ?_⟩; intro wz hSw; obtain ⟨hS1, hS2, hS3, hS4⟩ := hSw; go_simp; first | done | with_reducible rfl | simp | omega)
  try simp only [Act.put, List.setIfInBounds_toArray, List.set_cons_zero, List.set_cons_succ]
  refine anyT_one (i := 8) (by kernel_rfl) rfl (fun K' hK => ?_)
  go_simp
  refine hrec.mono ?_
  rintro e w2 ⟨rfl, hR, hU⟩
  have hS2 : (fun w' => w'.cell? ⟨V, 0, none⟩ = some (.slice (some ⟨bl, off, none⟩) n c') ∧ w'.cell? ⟨bl, off + x, none⟩ = some (.int .i64 y) ∧ w'.heap[S]? = some (.cells #[Value.slice (some ⟨b, 0, none⟩) n n, .map (some m)] 49 (0, 0)) ∧ w'.cell? ⟨I, 0, none⟩ = some (.int .i64 (it : Int))) w2 := ⟨(hU.boxed bVd n1).cell, hU.cell hcd (by simp; omega), (hU.block S (Array.getElem?_eq_some_iff.1 bSd).1 n2).trans bSd, (hU.boxed bId n3).cell⟩
  refine hK.out _ _ (fun _ => hS2) ?_
  clear hK K'
  try simp only [Act.put, List.setIfInBounds_toArray, List.set_cons_zero, List.set_cons_succ]
  refine anyT_one (i := 9) (by kernel_rfl) rfl (fun K' hK => ?_)
  go_simp
  refine hK.out _ _ (fun _ => hS2) ?_
  clear hK K'
  try simp only [Act.put, List.setIfInBounds_toArray, List.set_cons_zero, List.set_cons_succ]
  refine anyT_one (i := 10) (by kernel_rfl) rfl (fun K' hK => ?_)
  go_simp
  refine hK.out _ _ (fun h => absurd rfl h) ?_
  clear hK K'
  try simp only [Act.put, List.setIfInBounds_toArray, List.set_cons_zero, List.set_cons_succ]
  refine anyT_done (by kernel_rfl) ?_ _
  go_wp2
  go_ret
  exact ⟨rfl, hR, hu.trans' hU (fun i hi e => e)⟩

theorem lsum_all (g : Nat → Int) {n : Nat} (hn : n ≤ 6) : lsum g (itemsL (powI n - 1)) = smTo g n := by
  have hp := powI_pos (n : Int)
  rw [← itemsTo_all (n := n) (by omega) hn, lsum_items]
  refine smTo_congr _ fun c hc => ?_
  rw [all_bits', decide_eq_true hc]; rfl

set_option maxRecDepth 100000 in
set_option maxHeartbeats 4000000 in
theorem undoSum_any (q m n S V I E k B K : Nat) (al : Int) (zs : List Int) (A' : Option Addr) (c' : Nat) (vs : List Int) (hvo : VoP zs) (hlen : zs.length = n) (hvb : valB vs = true) (hk : k < n) (w : World) (h0 : 0 ≤ al) (h1 : al < 64) (hin : ∀ x ∈ itemsL al, x < n)
    (bV : Boxed w V 22 (.slice A' n c')) (bS : w.heap[S]? = some (.cells #[Value.slice (some ⟨q, 0, none⟩) n n, .map (some m)] 49 (0, 0))) (bI : Boxed w I 3 (.int .i64 (k : Int))) (bE : Boxed w E 57 (.int .i64 al))
    (hA : Arr w q 57 zs) (hV : Ints w B A' n vs) (hB : B ≤ m) (hM : EMap zs w m K) (hne : V ≠ m ∧ S ≠ m ∧ I ≠ m) (hE : E ≠ m) (hq : q ≠ m) (hK : K + 6 * ecost 7 ≤ 100000000) :
    Calls Try.prog 74 #[.func (.func 103) #[] #[.pointer (some ⟨E, 0, none⟩)], .func (.func 88) #[] #[.pointer (some ⟨V, 0, none⟩), .pointer (some ⟨S, 0, none⟩), .pointer (some ⟨I, 0, none⟩)]] w
      fun e W' => e = .returned (.int .i64 (lsum (fun x => vs[x]?.getD 0 * muI zs x k) (itemsL al))) ∧ EMap zs W' m (K + 6 * ecost 7) ∧ Upd (fun i => i = m) w W' := by
  have hsof := fun x K' W h1 h2 h3 h4 => sof_any zs hvo n hlen q m hq 7 x k K' W (rank_le6 hvo k) (Nat.le_refl 7) h1 hk h2 h3 h4
  obtain ⟨c7, hc7⟩ : ∃ c7, ecost 7 = c7 := ⟨_, rfl⟩
  simp only [hc7] at hsof hK ⊢
  clear hc7
  have hml := hM.lt
  have hEl := bE.lt
  have hSl := (Array.getElem?_eq_some_iff.1 bS).1
  have h6 := len_items al
  refine (sumOver_any (gf := 103) (vf := 88) #[.pointer (some ⟨E, 0, none⟩)] #[.pointer (some ⟨V, 0, none⟩), .pointer (some ⟨S, 0, none⟩), .pointer (some ⟨I, 0, none⟩)] (itemsL al) (fun x => vs[x]?.getD 0 * muI zs x k) w (fun i => i = m) (fun i e => by omega) (fun pre W => EMap zs W m (K + pre.length * c7))
    (enters_of Try.func103 (by kernel_rfl) rfl) (enters_of Try.func88 (by kernel_rfl) rfl)
    (fun pre hp => pre_small (B := 279936000) (by omega) (by omega) (fun x => by
      have h1 := valB_at hvb x
      have h2 := muI_bd hvo.1 x k
      exact mul_in h1.1 h1.2 h2.1 h2.2) pre hp)
    (fun W1 M' hu1 hM' => each_iter al h0 h1 E M' W1 (hu1.boxed bE (fun e => e)) (fun e => (hM' E e).elim (fun e => by omega) (fun e => by omega)))
    (fun pre x W hp hi hu => ?_)
    (fun pre X Y hi hz hu => hi.upd hu (fun e => by omega))
    (by simpa using hM)).mono ?_
  · have hxn := hin x (hp.subset (by simp))
    have hpl : pre.length + 1 ≤ 6 := by
      have h1 := hp.length_le
      simp at h1; omega
    have hmul : pre.length * c7 ≤ 5 * c7 := Nat.mul_le_mul_right _ (by omega)
    have hs1 : (pre ++ [x]).length * c7 = pre.length * c7 + c7 := by rw [List.length_append, List.length_singleton, Nat.add_mul, Nat.one_mul]
    rw [hs1]
    generalize pre.length * c7 = P at *
    have hcall := hsof x (K + P) W.drew hxn (hA.upd hu (fun e => hq e) : Arr W q 57 zs) (hi : EMap zs W m (K + P)) (by omega)
    refine (undo1_any q m n S V I x k B A' c' vs (muI zs x k) W (fun W' => EMap zs W' m (K + P + c7)) (hu.boxed bV hne.1) (hV.below (hu.toBelow (B := B) (fun k e => by omega) (by omega))) hB ((hu.block S hSl hne.2.1).trans bS) (hu.boxed bI hne.2.2) hxn (valB_at hvb x) (muI_bd hvo.1 x k) hne hcall).mono fun e W' h => ⟨h.1, ?_, h.2.2⟩
    rw [← Nat.add_assoc]
    exact h.2.1
  · rintro e W' ⟨rfl, hM', hU⟩
    exact ⟨rfl, hM'.mono (Nat.add_le_add_left (Nat.mul_le_mul_right _ h6) _), hU⟩

set_option maxRecDepth 100000 in
set_option maxHeartbeats 8000000 in
theorem oundoSums_any (q n : Nat) (zs : List Int) (A' : Option Addr) (c' : Nat) (vs : List Int) (hvo : VoP zs) (hlen0 : zs.length = n) (hvb : valB vs = true) (w : World) (hA : Arr w q 57 zs) (hV : Ints w w.heap.size A' n vs) :
    Calls Try.prog 56 #[.slice (some ⟨q, 0, none⟩) n n, .slice A' n c'] w fun e W' => ∃ Z, e = .returned (.slice (some ⟨Z, 0, none⟩) n n) ∧ w.heap.size ≤ Z ∧ Arr W' Z 3 (undoL zs vs) ∧ Below w.heap.size w W' := by
  have hlen := Lib.hid hlen0
  have hn6 : n ≤ 6 := by have := hvo.1; rw [hlen0] at this; exact this
  clear hlen0
  have hmk := run_make_row' (P := Try.prog) 22 3 (.int .i64 0) 8 Try.underlying22 infoInt rfl .i64 .i64 n (by omega) (by omega)
  have Hsl := Lib.hid (show (undoL zs vs).length = n by rw [undoL_len, hlen.out])
  have hql := hA.lt
  have bV0 := Boxed.new w 22 (.slice A' n c')
  have hu0 : Upd (fun _ => False) w (w.alloc (.cells #[Value.slice A' n c'] 22)) := (Upd.refl _ w).alloc _
  have hz0 : (w.alloc (.cells #[Value.slice A' n c'] 22)).heap.size = w.heap.size + 1 := by simp
  go_enter Try.func56, Try.ntmps56
  go_wp2_with fail
  obtain ⟨W0, hW0⟩ : ∃ W0, w.alloc (.cells #[Value.slice A' n c'] 22) = W0 := ⟨_, rfl⟩
  rw [hW0] at bV0 hu0 hz0 ⊢
  clear hW0
  refine (osigns_any q n zs W0 (hA.upd hu0 (fun e => e))).mono ?_
  rintro e w2 ⟨m, rfl, hm, hmz, hB2⟩
  have z2 := hB2.size
  have hml := (Array.getElem?_eq_some_iff.1 hm).1
  unfold signV
  go_wp2
  have bS4 := (Below.heap_alloc (w2.alloc (.cells #[Value.slice (some ⟨q, 0, none⟩) n n, .map (some m)] 49)) (.cells (madeCells #[.int .i64 0] n) 3) w2.heap.size (by simp)).trans (heap_alloc_new w2 (.cells #[Value.slice (some ⟨q, 0, none⟩) n n, .map (some m)] 49))
  have aZ4 := Arr.new (w2.alloc (.cells #[Value.slice (some ⟨q, 0, none⟩) n n, .map (some m)] 49)) 3 n
  have hu4 : Upd (fun _ => False) w2 ((w2.alloc (.cells #[Value.slice (some ⟨q, 0, none⟩) n n, .map (some m)] 49)).alloc (.cells (madeCells #[.int .i64 0] n) 3)) := ((Upd.refl _ w2).alloc _).alloc _
  have hz4 : ((w2.alloc (.cells #[Value.slice (some ⟨q, 0, none⟩) n n, .map (some m)] 49)).alloc (.cells (madeCells #[.int .i64 0] n) 3)).heap.size = w2.heap.size + 2 := by simp
  simp only [World.size_alloc] at aZ4
  obtain ⟨W4, hW4⟩ : ∃ W4, ((w2.alloc (.cells #[Value.slice (some ⟨q, 0, none⟩) n n, .map (some m)] 49)).alloc (.cells (madeCells #[.int .i64 0] n) 3)) = W4 := ⟨_, rfl⟩
  rw [hW4] at bS4 aZ4 hu4 hz4 ⊢
  clear hW4 hmk
  have hU4 : Upd (fun _ => False) w W4 := (hu0.below hB2 (fun k h1 h2 => by omega)).trans' hu4 (fun i hi e => e)
  have bV4 := hu4.boxed ((Below.toUpd hB2).boxed bV0 (fun e => by omega)) (fun e => e)
  have hM4 : EMap zs W4 m 0 := (EMap.new hm).upd hu4 (fun e => e)
  have hA4 := hA.upd hU4 (fun e => e)
  have hV4 : Ints W4 w.heap.size A' n vs := hV.below (hU4.toBelow (fun _ e => e.elim) (Nat.le_refl _))
  clear hu0 hB2 hu4 bV0 hm
  obtain ⟨C6, hC6⟩ : ∃ C6, 6 * ecost 7 = C6 := ⟨_, rfl⟩
  have hC6b : C6 ≤ 400000 := by rw [← hC6]; decide
  go_loopw [15] (fun i wr => ∃ k : Nat, k ≤ n ∧ i = .int .i64 k ∧ Arr wr (w2.heap.size + 1) 3 (copied (undoL zs vs) n k) ∧ EMap zs wr m (k * C6) ∧ Upd (fun i => i = m ∨ i = w2.heap.size + 1) W4 wr) (fun i _ => n - (intOf i).toNat)
  case atStart => exact ⟨0, by omega, rfl, by rw [copied_zero]; exact aZ4, by simpa using hM4, Upd.refl _ _⟩
  case round =>
    obtain ⟨k, hk, rfl, hZ, hM, hU⟩ := hrel
    have hsr := hU.size
    by_cases hlt : k < n
    · have hp := powI_pos (n : Int)
      have hpn := powI_le6 (n := (n : Int)) (by omega)
      have hkC : k * C6 ≤ 6 * C6 := Nat.mul_le_mul_right _ (by omega)
      have Hcp := Lib.hid (copied_succ Hsl.out hlt)
      have Hget := Lib.hid (show (undoL zs vs)[k]?.getD 0 = usI zs vs k from undoL_get (by rw [hlen.out]; exact hlt))
      have Hcl := Lib.hid (copied_len Hsl.out hk)
      have Hls := Lib.hid (show lsum (fun x => vs[x]?.getD 0 * muI zs x k) (itemsL (powI n - 1)) = usI zs vs k by rw [lsum_all _ hn6]; unfold usI; rw [hlen.out])
      have bVr := hU.boxed bV4 (fun e => by omega)
      have bSr := (hU.block w2.heap.size (by omega) (fun e => by omega)).trans bS4
      have hAr := hA4.upd hU (fun e => by omega)
      have hVr : Ints wr w.heap.size A' n vs := hV4.below (hU.toBelow (B := w.heap.size) (fun k e => by omega) (by omega))
      have hall := fun w => oall_any (some ⟨q, 0, none⟩) n n w (by omega)
      have hali : ∀ x ∈ itemsL (powI n - 1), x < n := fun x hx => bitB_lt (s := powI n - 1) (by omega) ((mem_itemsL (show powI n - 1 < 64 by omega)).1 hx)
      have hal0 : 0 ≤ powI n - 1 := by omega
      have hal64 : powI n - 1 < 64 := by omega
      generalize powI n - 1 = al at *
      clear hp hpn
      go_wp2
      have bI := Boxed.new wr 3 (.int .i64 (k : Int))
      have hui : Upd (fun _ => False) wr (wr.alloc (.cells #[Value.int .i64 (k : Int)] 3)).drew := ((Upd.refl _ wr).alloc _).drew
      have bId : Boxed (wr.alloc (.cells #[Value.int .i64 (k : Int)] 3)).drew wr.heap.size 3 (.int .i64 (k : Int)) := bI
      have hzd : wr.heap.size < (wr.alloc (.cells #[Value.int .i64 (k : Int)] 3)).drew.heap.size := by show _ < (wr.alloc _).heap.size; simp
      refine region_T (S := (fun w' => w'.cell? ⟨wr.heap.size, 0, none⟩ = some (.int .i64 (k : Int)))) 8 (by kernel_rfl) ?_
      obtain ⟨Wd, hWd⟩ : ∃ Wd, (wr.alloc (.cells #[Value.int .i64 (k : Int)] 3)).drew = Wd := ⟨_, rfl⟩
      rw [hWd] at hui bId hzd ⊢
      clear hWd bI
      have hSd : (fun w' => w'.cell? ⟨wr.heap.size, 0, none⟩ = some (.int .i64 (k : Int))) Wd := bId.cell
      refine anyT_take (i := 0) (oi := ?oi0a) (v := .slice (some ⟨w2.heap.size + 1, 0, none⟩) n n) ?hi0a (by kernel_rfl) ?hq0a ?hy0a (by assumption) ?rest0a
      case hi0a => (simp only [List.getElem?_toArray, List.getElem?_cons_zero]; first | done | rfl)
      case hq0a => first | exact fun _ _ _ h => h | exact fun _ _ _ h => (by cases h.1)
      case hy0a => (refine Or.inl ⟨by rfl, ?_⟩; intro wz hSw; go_simp; first | done | with_reducible rfl | simp | omega)
      try simp only [Act.put, List.setIfInBounds_toArray, List.set_cons_zero, List.set_cons_succ]
      refine anyT_take (i := 1) (oi := ?oi1a) (v := .int .i64 (k : Int)) ?hi1a (by kernel_rfl) ?hq1a ?hy1a (by assumption) ?rest1a
      case hi1a => (simp only [List.getElem?_toArray, List.getElem?_cons_succ, List.getElem?_cons_zero]; first | done | rfl)
      case hq1a => first | exact fun _ _ _ h => h | exact fun _ _ _ h => (by cases h.1)
      case hy1a => (refine Or.inl ⟨by rfl, ?_⟩; intro wz hSw; go_simp; first | done | with_reducible rfl | simp | omega)
      try simp only [Act.put, List.setIfInBounds_toArray, List.set_cons_zero, List.set_cons_succ]
      refine anyT_take (i := 2) (oi := ?oi2a) (v := .slice (some ⟨q, 0, none⟩) n n) ?hi2a (by kernel_rfl) ?hq2a ?hy2a (by assumption) ?rest2a
      case hi2a => (simp only [List.getElem?_toArray, List.getElem?_cons_succ, List.getElem?_cons_zero]; first | done | rfl)
      case hq2a => first | exact fun _ _ _ h => h | exact fun _ _ _ h => (by cases h.1)
      case hy2a => (refine Or.inl ⟨by rfl, ?_⟩; intro wz hSw; go_simp; first | done | with_reducible rfl | simp | omega)
      try simp only [Act.put, List.setIfInBounds_toArray, List.set_cons_zero, List.set_cons_succ]
      refine anyT_take (i := 5) (oi := ?oi5a) (v := .func (.func 88) #[] #[.pointer (some ⟨w.heap.size, 0, none⟩), .pointer (some ⟨w2.heap.size, 0, none⟩), .pointer (some ⟨wr.heap.size, 0, none⟩)]) ?hi5a (by kernel_rfl) ?hq5a ?hy5a (by assumption) ?rest5a
      case hi5a => (simp only [List.getElem?_toArray, List.getElem?_cons_succ, List.getElem?_cons_zero]; first | done | rfl)
      case hq5a => first | exact fun _ _ _ h => h | exact fun _ _ _ h => (by cases h.1)
      case hy5a => (refine Or.inl ⟨by rfl, ?_⟩; intro wz hSw; go_simp; first | done | with_reducible rfl | simp | omega)
      try simp only [Act.put, List.setIfInBounds_toArray, List.set_cons_zero, List.set_cons_succ]
      refine anyT_one (i := 3) (by kernel_rfl) rfl (fun K' hK => ?_)
      go_simp
      refine (hall _).mono ?_
      rintro e w' ⟨rfl, rfl⟩
      refine hK.out _ _ (fun _ => hSd) ?_
      clear hK K'
      try simp only [Act.put, List.setIfInBounds_toArray, List.set_cons_zero, List.set_cons_succ]
      refine anyT_one (i := 4) (by kernel_rfl) rfl (fun K' hK => ?_)
      go_simp
      refine (each_any al Wd).mono ?_
      rintro e w' ⟨rfl, rfl⟩
      have hS5 : (fun w' => w'.cell? ⟨wr.heap.size, 0, none⟩ = some (.int .i64 (k : Int))) (Wd.alloc (.cells #[Value.int .i64 al] 57)) := (bId.alloc _).cell
      have bE := Boxed.new Wd 57 (.int .i64 al)
      have hu5 := hui.alloc (.cells #[Value.int .i64 al] 57)
      have bI5 := bId.alloc (.cells #[Value.int .i64 al] 57)
      have hz5 : Wd.heap.size < (Wd.alloc (.cells #[Value.int .i64 al] 57)).heap.size := by simp
      refine hK.out _ _ (fun _ => hS5) ?_
      clear hK K'
      try simp only [Act.put, List.setIfInBounds_toArray, List.set_cons_zero, List.set_cons_succ]
      obtain ⟨W5, hW5⟩ : ∃ W5, Wd.alloc (.cells #[Value.int .i64 al] 57) = W5 := ⟨_, rfl⟩
      rw [hW5] at hS5 bE hu5 bI5 hz5 ⊢
      clear hW5
      have bV5 := hu5.boxed bVr (fun e => e)
      have bS5 := (hu5.block w2.heap.size (by omega) (fun e => e)).trans bSr
      have hA5 := hAr.upd hu5 (fun e => e)
      have hM5 := hM.upd hu5 (fun e => e)
      have hV5 : Ints W5 w.heap.size A' n vs := hVr.below (hu5.toBelow (fun _ e => e.elim) (by omega))
      refine anyT_one (i := 6) (by kernel_rfl) rfl (fun K' hK => ?_)
      go_simp
      have hus := (undoSum_any q m n w2.heap.size w.heap.size wr.heap.size Wd.heap.size k w.heap.size (k * C6) al zs A' c' vs hvo hlen.out hvb hlt W5 hal0 hal64 hali bV5 bS5 bI5 bE hA5 hV5 (by omega) hM5 ⟨by omega, by omega, by omega⟩ (by omega) (by omega) (by rw [hC6]; omega))
      rw [hC6, Hls.out] at hus
      refine hus.mono ?_
      clear hus
      rintro e w6 ⟨rfl, hM6, hU6⟩
      have hS6 : (fun w' => w'.cell? ⟨wr.heap.size, 0, none⟩ = some (.int .i64 (k : Int))) w6 := (hU6.boxed bI5 (fun e => by omega)).cell
      have hZ6 := (hZ.upd hu5 (fun e => e)).upd hU6 (fun e => by omega)
      have hcs := hZ6.cell (k := k) (by rw [Hcl.out]; exact hlt)
      have hfs := hZ6.frozen k
      refine hK.out _ _ (fun _ => hS6) ?_
      clear hK K'
      try simp only [Act.put, List.setIfInBounds_toArray, List.set_cons_zero, List.set_cons_succ]
      refine anyT_one (i := 7) (by kernel_rfl) rfl (fun K' hK => ?_)
      go_simp
      refine hK.out _ _ (fun _ => hS6) ?_
      clear hK K'
      try simp only [Act.put, List.setIfInBounds_toArray, List.set_cons_zero, List.set_cons_succ]
      refine anyT_one (i := 8) (by kernel_rfl) rfl (fun K' hK => ?_)
      go_simp
      refine hK.out _ _ (fun h => absurd rfl h) ?_
      clear hK K'
      try simp only [Act.put, List.setIfInBounds_toArray, List.set_cons_zero, List.set_cons_succ]
      refine anyT_done (by kernel_rfl) ?_ _
      have hW6 : Upd (fun i => i = m ∨ i = w2.heap.size + 1) W4 w6 := (hU.trans' hu5 (fun i hi e => e.elim)).trans' hU6 (fun i hi e => .inl e)
      have hM7 : EMap zs w6 m ((k + 1) * C6) := hM6.mono (by rw [Nat.add_mul, Nat.one_mul]; exact Nat.le_refl _)
      go_wp2
      go_roundw
      case rel => exact ⟨k + 1, by omega, by go_num, by rw [← Hcp.out, Hget.out]; exact hZ6.set _ _, hM7.upd ((Upd.refl (fun i => i = w2.heap.size + 1) w6).setCell (p := ⟨w2.heap.size + 1, k, none⟩) (.inr rfl) _) (fun e => by omega), hW6.setCell (p := ⟨w2.heap.size + 1, k, none⟩) (.inr (.inr rfl)) _⟩
      case measure => simp [intOf]; omega
    · obtain rfl : k = n := by omega
      have Hfull := Lib.hid (copied_full Hsl.out)
      go_wp2
      go_ret
      exact ⟨_, rfl, by omega, by rw [← Hfull.out]; exact hZ, ((hU4.mono fun _ _ e => e.elim).trans' hU (fun i hi e => by omega)).toBelow (R := fun _ => False) (fun _ e => e.elim) (Nat.le_refl _)⟩

theorem UndoSums_any (A : Option Addr) (n c : Nat) (zs : List Int) (A' : Option Addr) (n' c' : Nat) (vs : List Int) (w : World) (h : Ints w w.heap.size A n zs) (h' : Ints w w.heap.size A' n' vs) (hbig : n ≤ 1152921504606846976) (hbig' : n' ≤ 1152921504606846976) :
    Calls Try.prog 25 #[.slice A n c, .slice A' n' c'] w (GivesRow w (undoR zs vs)) := by
  have hlen := Lib.hid h.len
  have hlen' := Lib.hid h'.len
  go_enter Try.func25, Try.ntmps25
  go_wp2_with fail
  refine (readValued_any A n c zs A' n' c' vs w h h' hbig hbig').mono ?_
  rintro e w1 ⟨hB, (⟨hv, b, rfl, hb, hAr⟩ | ⟨hv, rfl⟩)⟩
  · obtain ⟨hvo, hl, hvb⟩ := valR_parts hv
    obtain rfl : n' = n := by have h1 := hlen.out; have h2 := hlen'.out; omega
    have Ht := Lib.hid (show undoR zs vs = undoL zs vs by unfold undoR; rw [hv]; rfl)
    have hz := hB.size
    clear hv
    go_wp2_with fail
    refine (oundoSums_any b n' zs A' c' vs hvo hlen.out hvb w1 hAr (h'.to hB (Nat.le_refl _) hz)).mono ?_
    rintro e w2 ⟨Z, rfl, hZ, hZA, hB2⟩
    go_wp2_with fail
    go_ret
    exact ⟨_, n', n', rfl, by rw [Ht.out]; exact Row.of hZA (by rw [undoL_len, hlen.out]) (by omega) hZA.lt, hB.trans (hB2.mono hz)⟩
  · have Ht := Lib.hid (show undoR zs vs = [] by unfold undoR; rw [hv]; rfl)
    go_wp2_with fail
    go_ret
    exact ⟨none, 0, 0, rfl, by rw [Ht.out]; exact Row.nil _ _ _ _, hB⟩
end Go.Proofs.Ytopfeebibphdgaa

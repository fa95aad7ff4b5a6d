/- The program's lines: tellFrom, the recursion. -/
import Derived.Test.YtghogabmkbadjaaTlI
import Derived.Test.YtghogabmkbadjaaMk6
set_option linter.unusedVariables false
set_option linter.unusedSimpArgs false
namespace Go.Proofs.Ytghogabmkbadjaa
open Go.RowKit Go.Shelf
attribute [local go_sem] Oper.semAt_some
attribute [local go_sem, local simp] wide_fn

/-- What holds between two rounds over the items that may be next. -/
def TlJ (zs : List Int) (M : Nat → Prop) (J : List Ln → (Nat → Prop) → World → Prop) (k : Nat) (so : List Int) (s : Int) (v : Value) (pre : List Ln) (D : Nat → Prop) (W0 : World) (xs : List Nat) (D1 : Nat → Prop) (W : World) : Prop :=
  ∃ post D2, post.map Prod.fst = alX zs k so s xs ∧ J (pre ++ post) D2 W ∧ (∀ j, D2 j → D j ∨ D1 j) ∧ W.ownsRow 0 3 1 v so.length (so.map (Value.int .i64)) ∧ Upd (fun j => M j ∨ D j ∨ v.ownBlock = some j) W0 W
/-- What holds where a round has said no more. -/
def TlX (zs : List Int) (M : Nat → Prop) (Jx : List Ln → (Nat → Prop) → World → Prop) (v : Value) (pre : List Ln) (D : Nat → Prop) (r : Nat) (W0 : World) (D1 : Nat → Prop) (W : World) : Prop :=
  ∃ post D2, lnUp zs (pre ++ post) ∧ Jx (pre ++ post) D2 W ∧ (∀ j, D2 j → D j ∨ D1 j) ∧ Boxed W r 4 (.bool false) ∧ Upd (fun j => M j ∨ D j ∨ v.ownBlock = some j ∨ j = r) W0 W
section
variable {zs : List Int} {M D : Nat → Prop} {J Jx : List Ln → (Nat → Prop) → World → Prop} {k : Nat} {so : List Int} {s : Int} {v : Value} {pre : List Ln} {W0 : World} {B : Nat}
theorem TlJ.firm (hJ : Firm B J) (hB : B ≤ W0.heap.size) (hD : ∀ j, D j → j < W0.heap.size) (hv : ∀ j, v.ownBlock = some j → j < W0.heap.size) : Firm W0.heap.size (TlJ zs M J k so s v pre D W0) := by
  rintro xs D1 W W' ⟨post, D2, h1, h2, h3, h4, h5⟩ hu
  refine ⟨post, D2, h1, hJ _ _ _ _ h2 (hu.mono fun j _ e => ⟨by omega, fun e2 => (h3 j e2).elim (fun e3 => by have := hD j e3; omega) e.2⟩), h3, ?_, h5.trans' hu (fun i hi e => by omega)⟩
  exact (OwnS.keep (S := fun j => v.ownBlock = some j) ⟨fun _ h => h, h4⟩ hu (fun j hj e => by have := hv j hj; omega)).2
theorem TlX.firm {r : Nat} (hJx : Firm B Jx) (hB : B ≤ W0.heap.size) (hD : ∀ j, D j → j < W0.heap.size) (hr : r < W0.heap.size) : Firm W0.heap.size (fun (_ : List Nat) D1 W => TlX zs M Jx v pre D r W0 D1 W) := by
  rintro xs D1 W W' ⟨post, D2, h1, h2, h3, h4, h5⟩ hu
  exact ⟨post, D2, h1, hJx _ _ _ _ h2 (hu.mono fun j _ e => ⟨by omega, fun e2 => (h3 j e2).elim (fun e3 => by have := hD j e3; omega) e.2⟩), h3, hu.boxed h4 (fun e => by omega), h5.trans' hu (fun i hi e => by omega)⟩
end

set_option maxRecDepth 100000 in
set_option maxHeartbeats 8000000 in
theorem tell_any (zs : List Int) (hvo : VoP zs) (n : Nat) (hlen0 : zs.length = n) (b m l B : Nat) (M : Nat → Prop) (J Jx : List Ln → (Nat → Prop) → World → Prop) (hJ : Firm B J) (hJx : Firm B Jx) (hY : LnYield l B zs M J Jx) (hMb : ∀ k, M k → k < B) (hBb : B ≤ b) :
    ∀ (k : Nat) (so : List Int) (s left : Int) (v : Value) (pre : List Ln) (D : Nat → Prop) (w : World), so.length + k = n → Lft n s left k → pre.map Prod.fst ++ alG zs k so s <+: alL zs → w.ownsRow 0 3 1 v so.length (so.map (Value.int .i64)) →
    J pre D w → B ≤ w.heap.size → (∀ j, D j → B ≤ j ∧ j < w.heap.size) → (∀ j, v.ownBlock = some j → B ≤ j ∧ ¬ D j) → Arr w b 59 (du zs) → ¬ D b → v.ownBlock ≠ some b →
    Calls Try.prog 107 #[lineV b m n, v, .int .i64 left, .func (.yield l) #[] #[]] w (LnTold zs M J Jx k so s v pre D w)
  | 0, so, s, left, v, pre, D, w, hk, hL, hpre, hO, hj, hB, hD, hOB, hA, hDb, hvb => by
    have hn6 : n ≤ 6 := by have := hvo.1; rw [hlen0] at this; exact this
    rw [(lft_zero hn6 hL).2 rfl]
    exact tell_last zs n b m l B M J Jx hJ hJx hY so s v pre D w (by omega) hpre hO hj hB hD hMb hOB
  | k + 1, so, s, left, v, pre, D, w, hk, hL, hpre, hO, hj, hB, hD, hOB, hA, hDb, hvb => by
    have ih := tell_any zs hvo n hlen0 b m l B M J Jx hJ hJx hY hMb hBb k
    have hlen := Lib.hid hlen0
    have hn6 : n ≤ 6 := by have := hvo.1; rw [hlen0] at this; exact this
    have hnz : left ≠ 0 := fun e => by have := (lft_zero hn6 hL).1 e; omega
    have hsb : (left == 0) = false := by simpa using hnz
    obtain ⟨A, c, rfl, -, -⟩ := ints_of_own_at hO
    have hlt0 := own_lt' hO
    have hl0 := hL.l0
    have hl1 := hL.l1
    have hpn : powI n ≤ 64 := powI_le6 (by omega)
    have hbl := hA.lt
    have HL := Lib.hid hL
    have Hpre := Lib.hid hpre
    have Hk := Lib.hid hk
    have hso : so.length ≤ 5 := by omega
    clear hlen0 hL hpre hnz hk
    unfold lineV
    refine (callsIn_wide (n := 9)).1 ?_
    refine callsIn_of_wp_marks Try.func107 rfl trivial ?_ rfl
    simp only [Try.ntmps107, List.size_toArray, List.length_cons, List.length_nil, Nat.reduceAdd, Nat.reduceSub, Array.replicate_succ, Array.replicate_zero, List.push_toArray, List.append_toArray, List.nil_append, List.cons_append]
    obtain ⟨X0, hX0⟩ : ∃ X0, (((((w.alloc (Obj.cells #[Value.slice (some { block := b, off := 0 }) n n, Value.map (some m)] 68)).alloc (Obj.cells #[.slice A so.length c] 22)).alloc (Obj.cells #[Value.int IntKind.i64 left] 59)).alloc (Obj.cells #[Value.func (Fn.yield l) #[] #[]] 28)).alloc (Obj.cells #[Value.bool false] 4)) = X0 := ⟨_, rfl⟩
    have hz0 : X0.heap.size = w.heap.size + 5 := by rw [← hX0]; simp
    have hu0 : Upd (fun _ => False) w X0 := by rw [← hX0]; exact (((((Upd.refl _ w).alloc _).alloc _).alloc _).alloc _).alloc _
    have bL : (((((w.alloc (Obj.cells #[Value.slice (some { block := b, off := 0 }) n n, Value.map (some m)] 68)).alloc (Obj.cells #[.slice A so.length c] 22)).alloc (Obj.cells #[Value.int IntKind.i64 left] 59)).alloc (Obj.cells #[Value.func (Fn.yield l) #[] #[]] 28)).alloc (Obj.cells #[Value.bool false] 4)).heap[w.heap.size]? = some (.cells #[Value.slice (some ⟨b, 0, none⟩) n n, .map (some m)] 68 (0, 0)) := ((((Below.heap_alloc _ _ _ (by simp; omega)).trans (Below.heap_alloc _ _ _ (by simp; omega))).trans (Below.heap_alloc _ _ _ (by simp; omega))).trans (Below.heap_alloc _ _ _ (by simp))).trans (heap_alloc_new w _)
    have bLn : Boxed X0 (w.heap.size + 1) 22 (.slice A so.length c) := by
      rw [← hX0]
      have := (((Boxed.new (w.alloc (Obj.cells #[Value.slice (some { block := b, off := 0 }) n n, Value.map (some m)] 68)) 22 (.slice A so.length c)).alloc (Obj.cells #[Value.int IntKind.i64 left] 59)).alloc (Obj.cells #[Value.func (Fn.yield l) #[] #[]] 28)).alloc (Obj.cells #[Value.bool false] 4)
      simpa only [World.size_alloc] using this
    have bS : Boxed (((((w.alloc (Obj.cells #[Value.slice (some { block := b, off := 0 }) n n, Value.map (some m)] 68)).alloc (Obj.cells #[.slice A so.length c] 22)).alloc (Obj.cells #[Value.int IntKind.i64 left] 59)).alloc (Obj.cells #[Value.func (Fn.yield l) #[] #[]] 28)).alloc (Obj.cells #[Value.bool false] 4)) (w.heap.size + 1 + 1) 59 (.int .i64 left) := by
      have := ((Boxed.new ((w.alloc (Obj.cells #[Value.slice (some { block := b, off := 0 }) n n, Value.map (some m)] 68)).alloc (Obj.cells #[.slice A so.length c] 22)) 59 (Value.int IntKind.i64 left)).alloc (Obj.cells #[Value.func (Fn.yield l) #[] #[]] 28)).alloc (Obj.cells #[Value.bool false] 4)
      simpa only [World.size_alloc] using this
    have bTl : Boxed X0 (w.heap.size + 1 + 1 + 1) 28 (.func (.yield l) #[] #[]) := by
      rw [← hX0]
      have := (Boxed.new (((w.alloc (Obj.cells #[Value.slice (some { block := b, off := 0 }) n n, Value.map (some m)] 68)).alloc (Obj.cells #[.slice A so.length c] 22)).alloc (Obj.cells #[Value.int IntKind.i64 left] 59)) 28 (Value.func (Fn.yield l) #[] #[])).alloc (Obj.cells #[Value.bool false] 4)
      simpa only [World.size_alloc] using this
    have bRs : Boxed X0 (w.heap.size + 1 + 1 + 1 + 1) 4 (.bool false) := by
      rw [← hX0]
      have := Boxed.new ((((w.alloc (Obj.cells #[Value.slice (some { block := b, off := 0 }) n n, Value.map (some m)] 68)).alloc (Obj.cells #[.slice A so.length c] 22)).alloc (Obj.cells #[Value.int IntKind.i64 left] 59)).alloc (Obj.cells #[Value.func (Fn.yield l) #[] #[]] 28)) 4 (Value.bool false)
      simpa only [World.size_alloc] using this
    have HX := Lib.hid hX0
    clear hX0
    have hcS := bS.cell
    gi_wp2_with (first
      | (refine wpListIn_load_row rfl _ _ rfl w.heap.size rfl _ _ (0, 0) _ bL Try.underlying68 rfl (by kernel_rfl) ?_))
    rw [HX.out] at bL bS ⊢
    clear HX hcS
    have hAX : Arr X0 b 59 (du zs) := hA.upd hu0 (fun e => e)
    refine (callsIn_wide.2 (free_any b m n zs left hvo.sets X0 (hAX.ints' hAX.lt (by rw [du_len, hlen.out])) hl0 hl1)).mono ?_
    rintro e w4 ⟨rfl, hB4⟩
    have z4 := hB4.size
    have hT := topsTo_bd (du zs) left n
    have Hnx := Lib.hid (next_items hvo hlen.out hn6 HL.out)
    generalize topsTo (du zs) left n = T at *
    gi_wp2_with (gi_at_call 93; refine (callsIn_wide.2 (each_any _ _)).mono ?_; rintro e w' ⟨rfl, rfl⟩)
    have bE := Boxed.new w4 59 (.int .i64 T)
    have hu4 : Upd (fun _ => False) X0 (w4.alloc (.cells #[Value.int .i64 T] 59)) := ((Upd.refl _ X0).below hB4 (fun k h1 h2 => by omega)).alloc _
    have hzz : (w4.alloc (.cells #[Value.int .i64 T] 59)).heap.size = w4.heap.size + 1 := by simp
    obtain ⟨W0, hW0⟩ : ∃ W0, w4.alloc (.cells #[Value.int .i64 T] 59) = W0 := ⟨_, rfl⟩
    rw [hW0] at bE hu4 hzz ⊢
    clear hW0
    have hA0 := hAX.upd hu4 (fun e => e)
    have bL0 := (hu4.block w.heap.size (by omega) (fun e => e)).trans bL
    have bS0 := hu4.boxed bS (fun e => e)
    have bLn0 := hu4.boxed bLn (fun e => e)
    have bTl0 := hu4.boxed bTl (fun e => e)
    have bRs0 := hu4.boxed bRs (fun e => e)
    have hU0 : Upd (fun _ => False) w W0 := hu0.trans' hu4 (fun i hi e => e)
    have hW0s : w.heap.size + 5 < W0.heap.size ∧ w4.heap.size < W0.heap.size ∧ w.heap.size + 5 ≤ w4.heap.size := by omega
    obtain ⟨hW1, hW2, hW3⟩ := hW0s
    have hO0 : W0.ownsRow 0 3 1 (.slice A so.length c) so.length (so.map (Value.int .i64)) := (OwnS.keep (S := fun _ => True) (R := fun _ => False) ⟨fun _ _ => trivial, hO⟩ hU0 (fun _ _ e => e)).2
    have hj0 : J pre D W0 := hJ _ _ _ _ hj (hU0.mono fun _ _ e => e.elim)
    clear hu0 hu4 bL bS hAX hB4 bLn bTl bRs hz0 z4 hzz hO hj hA
    refine range_out (n := 9) (gf := 102) (lb := #[.pointer (some ⟨w4.heap.size, 0, none⟩)]) rfl (enters_of Try.func102 (by kernel_rfl) rfl) (encs := encI) (L := itemsL T)
      (fun j => M j ∨ D j ∨ (Value.slice A so.length c).ownBlock = some j ∨ j = w.heap.size + 1 + 1 + 1 + 1) (fun i e => by
        rcases e with e | e | e | e
        · have := hMb i e; omega
        · have := hD i e; omega
        · have := hlt0 i e; omega
        · omega) (fun _ => rfl)
      (fun W1 l1 hu1 hl1 hl2 => each_iter T hT.1 (by omega) _ _ W1 (hu1.boxed bE (fun e => e)) (fun e => by
        rcases e with (e | e | e | e) | e
        · have := hMb _ e; omega
        · have := hD _ e; omega
        · have := hlt0 _ e; omega
        · omega
        · omega))
      (TlJ zs M J k so s (.slice A so.length c) pre D W0)
      (fun co _ D1 W => co = .ret ∧ TlX zs M Jx (.slice A so.length c) pre D (w.heap.size + 1 + 1 + 1 + 1) W0 D1 W)
      (TlJ.firm hJ (by omega) (fun j e => by have := hD j e; omega) (fun j e => by have := hlt0 j e; omega))
      (fun co xs D1 W W' hs hu => ⟨hs.1, TlX.firm hJx (by omega) (fun j e => by have := hD j e; omega) (by omega) xs D1 W W' hs.2 hu⟩)
      ⟨[], D, rfl, by rw [List.append_nil]; exact hj0, fun _ e => .inl e, hO0, Upd.refl _ _⟩ ?owes ?done ?stop
    case owes =>
      rintro l1 xs x D1 W hl1 hl2 hDl hD1 - hxs K hK
      gi_wp2
      refine hK _ _ (Upd.refl _ _) ?_
      rintro Wb hWb - ⟨post, D2, hp1, hj2, hp3, hO2, hU⟩
      clear hK
      rw [Hnx.out] at hxs
      have hxm := nxA_mem (hxs.subset (by simp : x ∈ xs ++ [x]))
      rw [hlen.out] at hxm
      obtain ⟨hxn, hxs2⟩ := hxm
      have hstep := lft_step hlen.out hn6 HL.out hxn hxs2
      have hsn := alX_snoc zs k so s xs x
      have hpx := alX_pre zs k so s hxs
      have zb := hU.size
      have zW := hWb.size
      have hno : ∀ j, w.heap.size ≤ j → j < W0.heap.size → ¬ (M j ∨ D j ∨ (Value.slice A so.length c).ownBlock = some j) := fun j h1 h2 e => by
        rcases e with e | e | e
        · have := hMb _ e; omega
        · have := hD _ e; omega
        · have := hlt0 _ e; omega
      have bLb := (hU.block w.heap.size (by omega) (hno _ (by omega) (by omega))).trans bL0
      have bLnb := hU.boxed bLn0 (hno _ (by omega) (by omega))
      have bSb := hU.boxed bS0 (hno _ (by omega) (by omega))
      have bTb := hU.boxed bTl0 (hno _ (by omega) (by omega))
      have bRb := hU.boxed bRs0 (hno _ (by omega) (by omega))
      have hbno : ¬ (M b ∨ D b ∨ (Value.slice A so.length c).ownBlock = some b) := fun e => by
        rcases e with e | e | e
        · have := hMb _ e; omega
        · exact hDb e
        · exact hvb e
      have hAb := hA0.upd hU hbno
      have hO3 := hOB
      have hD2 : ∀ j, D2 j → B ≤ j ∧ j < W.heap.size ∧ (j < w.heap.size → D j) := fun j e => by
        rcases hp3 j e with e | e
        · have := hD j e; exact ⟨by omega, by omega, fun _ => e⟩
        · have := hD1 j e; exact ⟨by omega, by omega, fun h => by omega⟩
      have hpre2 : (pre ++ post).map Prod.fst ++ alG zs k (so ++ [(x : Int)]) (orI s (powI x)) <+: alL zs := by
        rw [List.map_append, hp1, List.append_assoc, ← hsn]
        exact ((List.prefix_append_right_inj _).2 hpx).trans Hpre.out
      have Hstep := Lib.hid hstep
      have Hpre2 := Lib.hid hpre2
      have Hsn := Lib.hid hsn
      have Hp1 := Lib.hid hp1
      clear hstep hpre2 hsn hpx hp1 hxs2
      have hxl : (so ++ [(x : Int)]).length = so.length + 1 := by simp
      have hlk := Hk.out
      have Hxl := Lib.hid (show (so ++ [(x : Int)]).length + k = n by omega)
      have Hmp := Lib.hid (show (so ++ [(x : Int)]).map (Value.int .i64) = so.map (Value.int .i64) ++ [Value.int .i64 (x : Int)] by simp)
      have Hxl1 := Lib.hid hxl
      clear hxl hlk
      obtain ⟨i0, hi0, hz0, hz1, hz2⟩ := info_parts infoInt
      gi_wp2
      refine region_T_round (S := fun w' => w'.heap[w.heap.size]? = some (.cells #[Value.slice (some ⟨b, 0, none⟩) n n, .map (some m)] 68 (0, 0)) ∧ w'.cell? ⟨w.heap.size + 1, 0, none⟩ = some (.slice A so.length c) ∧ w'.cell? ⟨w.heap.size + 1 + 1, 0, none⟩ = some (.int .i64 left) ∧ w'.cell? ⟨w.heap.size + 1 + 1 + 1, 0, none⟩ = some (.func (.yield l) #[] #[])) 10 (by kernel_rfl) (by kernel_rfl) (by rintro ⟨_, _, h⟩; exact h) ?_
      obtain ⟨Wd, hWd⟩ : ∃ Wd, Wb.drew = Wd := ⟨_, rfl⟩
      have hbd : Upd (fun _ => False) Wb Wd := by rw [← hWd]; exact (Upd.refl _ Wb).drew
      have hsd : Wb.heap.size ≤ Wd.heap.size := hbd.size
      rw [hWd]
      clear hWd
      have bLd := (hbd.block w.heap.size (by omega) (fun e => e)).trans bLb
      have bLnd := hbd.boxed bLnb (fun e => e)
      have bSd := hbd.boxed bSb (fun e => e)
      have bTd := hbd.boxed bTb (fun e => e)
      have bRd := hbd.boxed bRb (fun e => e)
      have hAd := hAb.upd hbd (fun e => e)
      have hOd : Wd.ownsRow 0 3 1 (.slice A so.length c) so.length (so.map (Value.int .i64)) := (OwnS.keep (S := fun _ => True) (R := fun _ => False) ⟨fun _ _ => trivial, hO2⟩ hbd (fun _ _ e => e)).2
      have hjd := hJ _ _ _ _ hj2 (hbd.mono fun _ _ e => e.elim)
      have hSd : (fun w' : World => w'.heap[w.heap.size]? = some (.cells #[Value.slice (some ⟨b, 0, none⟩) n n, .map (some m)] 68 (0, 0)) ∧ w'.cell? ⟨w.heap.size + 1, 0, none⟩ = some (.slice A so.length c) ∧ w'.cell? ⟨w.heap.size + 1 + 1, 0, none⟩ = some (.int .i64 left) ∧ w'.cell? ⟨w.heap.size + 1 + 1 + 1, 0, none⟩ = some (.func (.yield l) #[] #[])) Wd := ⟨bLd, bLnd.cell, bSd.cell, bTd.cell⟩
      clear bLb bLnb bSb bTb bRb hAb hO2 hj2
      refine anyT_take (i := 0) (oi := ?oi0a) (v := .agg #[Value.slice (some ⟨b, 0, none⟩) n n, .map (some m)]) ?hi0a (by kernel_rfl) ?hq0a ?hy0a (by assumption) ?rest0a
      case hi0a => (simp only [List.getElem?_toArray, List.getElem?_cons_zero]; first | done | rfl)
      case hq0a => first | exact fun _ _ _ h => h | exact fun _ _ _ h => (by cases h.1)
      case hy0a => exact yieldsIf_load_row (by rfl) _ _ rfl _ rfl _ _ _ (fun _ h => h.1) Try.underlying68 rfl (by kernel_rfl)
      try simp only [Act.put, List.setIfInBounds_toArray, List.set_cons_zero, List.set_cons_succ]
      refine anyT_take (i := 1) (oi := ?oi1a) (v := .slice A so.length c) ?hi1a (by kernel_rfl) ?hq1a ?hy1a (by assumption) ?rest1a
      case hi1a => (simp only [List.getElem?_toArray, List.getElem?_cons_succ, List.getElem?_cons_zero]; first | done | rfl)
      case hq1a => first | exact fun _ _ _ h => h | exact fun _ _ _ h => (by cases h.1)
      case hy1a => (refine Or.inl ⟨by rfl, ?_⟩; intro wz hSw; obtain ⟨hSa, hSb, hSc, hSe⟩ := hSw; go_simp; first | done | with_reducible rfl | simp | omega)
      try simp only [Act.put, List.setIfInBounds_toArray, List.set_cons_zero, List.set_cons_succ]
      refine anyT_take (i := 2) (oi := ?oi2a) (v := .int .i64 (x : Int)) ?hi2a (by kernel_rfl) ?hq2a ?hy2a (by assumption) ?rest2a
      case hi2a => (simp only [List.getElem?_toArray, List.getElem?_cons_succ, List.getElem?_cons_zero]; first | done | rfl)
      case hq2a => first | exact fun _ _ _ h => h | exact fun _ _ _ h => (by cases h.1)
      case hy2a => (refine Or.inl ⟨by rfl, ?_⟩; intro wz hSw; obtain ⟨hSa, hSb, hSc, hSe⟩ := hSw; go_simp; first | done | with_reducible rfl | simp | omega)
      try simp only [Act.put, List.setIfInBounds_toArray, List.set_cons_zero, List.set_cons_succ]
      refine anyT_take (i := 5) (oi := ?oi5a) (v := .int .i64 left) ?hi5a (by kernel_rfl) ?hq5a ?hy5a (by assumption) ?rest5a
      case hi5a => (simp only [List.getElem?_toArray, List.getElem?_cons_succ, List.getElem?_cons_zero]; first | done | rfl)
      case hq5a => first | exact fun _ _ _ h => h | exact fun _ _ _ h => (by cases h.1)
      case hy5a => (refine Or.inl ⟨by rfl, ?_⟩; intro wz hSw; obtain ⟨hSa, hSb, hSc, hSe⟩ := hSw; go_simp; first | done | with_reducible rfl | simp | omega)
      try simp only [Act.put, List.setIfInBounds_toArray, List.set_cons_zero, List.set_cons_succ]
      refine anyT_take (i := 6) (oi := ?oi6a) (v := .int .i64 (x : Int)) ?hi6a (by kernel_rfl) ?hq6a ?hy6a (by assumption) ?rest6a
      case hi6a => (simp only [List.getElem?_toArray, List.getElem?_cons_succ, List.getElem?_cons_zero]; first | done | rfl)
      case hq6a => first | exact fun _ _ _ h => h | exact fun _ _ _ h => (by cases h.1)
      case hy6a => (refine Or.inl ⟨by rfl, ?_⟩; intro wz hSw; obtain ⟨hSa, hSb, hSc, hSe⟩ := hSw; go_simp; first | done | with_reducible rfl | simp | omega)
      try simp only [Act.put, List.setIfInBounds_toArray, List.set_cons_zero, List.set_cons_succ]
      refine anyT_take (i := 8) (oi := ?oi8a) (v := .func (.yield l) #[] #[]) ?hi8a (by kernel_rfl) ?hq8a ?hy8a (by assumption) ?rest8a
      case hi8a => (simp only [List.getElem?_toArray, List.getElem?_cons_succ, List.getElem?_cons_zero]; first | done | rfl)
      case hq8a => first | exact fun _ _ _ h => h | exact fun _ _ _ h => (by cases h.1)
      case hy8a => (refine Or.inl ⟨by rfl, ?_⟩; intro wz hSw; obtain ⟨hSa, hSb, hSc, hSe⟩ := hSw; go_simp; first | done | with_reducible rfl | simp | omega)
      try simp only [Act.put, List.setIfInBounds_toArray, List.set_cons_zero, List.set_cons_succ]
      refine anyT_one (i := 3) (by kernel_rfl) rfl (fun K' hK => ?_)
      go_simp
      have hu3 : Upd (fun _ => False) Wd (Wd.alloc (.cells #[Value.int .i64 (x : Int)] 3)) := (Upd.refl _ Wd).alloc _
      have hS2 : (fun w' : World => w'.heap[w.heap.size]? = some (.cells #[Value.slice (some ⟨b, 0, none⟩) n n, .map (some m)] 68 (0, 0)) ∧ w'.cell? ⟨w.heap.size + 1, 0, none⟩ = some (.slice A so.length c) ∧ w'.cell? ⟨w.heap.size + 1 + 1, 0, none⟩ = some (.int .i64 left) ∧ w'.cell? ⟨w.heap.size + 1 + 1 + 1, 0, none⟩ = some (.func (.yield l) #[] #[])) (Wd.alloc (.cells #[Value.int .i64 (x : Int)] 3)) := ⟨(hu3.block w.heap.size (by omega) (fun e => e)).trans hSd.1, hu3.cell hSd.2.1 (fun e => e), hu3.cell hSd.2.2.1 (fun e => e), hu3.cell hSd.2.2.2 (fun e => e)⟩
      refine hK.out _ _ (fun _ => hS2) ?_
      clear hK K'
      try simp only [Act.put, List.setIfInBounds_toArray, List.set_cons_zero, List.set_cons_succ]
      refine anyT_one (i := 4) (by kernel_rfl) rfl (fun K' hK => ?_)
      refine step_append1c rfl (.tmp 22) (.tmp 24) _ rfl 0 3 i0 _ 8 Try.underlying22 hi0 hz0 hz1 hz2 rfl _ so.length _ rfl (hOd.alloc _) Wd.heap.size 1 (.int .i64 (x : Int)) rfl (cell_new _ _ _) rfl (by omega) (by omega) (by omega) ?_
      rintro v' w5 hown' hg' hv'
      replace hv' : (∃ g cap, Value.slice A so.length c = .slice (some ⟨g, 0, none⟩) so.length cap ∧ v' = .slice (some ⟨g, 0, none⟩) (so.length + 1) cap) ∨ v'.ownBlock = some (Wd.alloc (.cells #[Value.int .i64 (x : Int)] 3)).heap.size ∧ (Wd.alloc (.cells #[Value.int .i64 (x : Int)] 3)).grownBy w5 none := hv'
      have zg := hg'.size
      rw [World.size_alloc] at zg
      have hOv : ∀ j, (Value.slice A so.length c).ownBlock = some j → B ≤ j ∧ j < w.heap.size ∧ ¬ D2 j := fun j e => ⟨(hOB j e).1, hlt0 j e, fun e2 => (hOB j e).2 ((hD2 j e2).2.2 (hlt0 j e))⟩
      have hu5 : Upd (fun j => (Value.slice A so.length c).ownBlock = some j) Wd w5 := ((Upd.refl _ Wd).alloc _).grown hg' (fun j hk => .inr hk)
      have hS5 : (fun w' : World => w'.heap[w.heap.size]? = some (.cells #[Value.slice (some ⟨b, 0, none⟩) n n, .map (some m)] 68 (0, 0)) ∧ w'.cell? ⟨w.heap.size + 1, 0, none⟩ = some (.slice A so.length c) ∧ w'.cell? ⟨w.heap.size + 1 + 1, 0, none⟩ = some (.int .i64 left) ∧ w'.cell? ⟨w.heap.size + 1 + 1 + 1, 0, none⟩ = some (.func (.yield l) #[] #[])) w5 := ⟨(hu5.block w.heap.size (by omega) (fun e => by have := hOv _ e; omega)).trans hSd.1, hu5.cell hSd.2.1 (fun e => by have := hOv _ e; simp only at this; omega), hu5.cell hSd.2.2.1 (fun e => by have := hOv _ e; simp only at this; omega), hu5.cell hSd.2.2.2 (fun e => by have := hOv _ e; simp only at this; omega)⟩
      have hj5 := hJ _ _ _ _ hjd (hu5.mono fun j _ e => ⟨(hOv j e).1, (hOv j e).2.2⟩)
      have hA5 := hAd.upd hu5 (fun e => hvb e)
      have bR5 := hu5.boxed bRd (fun e => by have := hOv _ e; omega)
      have hvn : ∀ j, v'.ownBlock = some j → (Value.slice A so.length c).ownBlock = some j ∨ Wd.heap.size ≤ j := fun j e => by
        rcases hv' with ⟨g, cap, e1, e2⟩ | ⟨e1, _⟩
        · left; rw [e2] at e; rw [e1]; exact e
        · right; rw [e1, World.size_alloc] at e; injection e with e; omega
      have hback : ∀ (R : Nat → Prop) (w6 : World), Upd R w5 w6 → (∀ j, R j → j < w.heap.size → (v'.ownBlock = some j ∨ ¬ (Value.slice A so.length c).ownBlock = some j)) → w6.ownsRow 0 3 1 v' (so ++ [(x : Int)]).length ((so ++ [(x : Int)]).map (Value.int .i64)) → w6.ownsRow 0 3 1 (.slice A so.length c) so.length (so.map (Value.int .i64)) := fun R w6 hu6 hR h6 => by
        rcases hv' with ⟨g, cap, e1, e2⟩ | ⟨e1, hg0⟩
        · rw [e2, Hxl1.out, Hmp.out] at h6
          rw [e1]
          exact own_back h6
        · have hn5 : Upd (fun _ => False) Wd w5 := ((Upd.refl _ Wd).alloc _).grown hg0 (fun j hk => by cases hk)
          refine (OwnS.keep (S := fun j => (Value.slice A so.length c).ownBlock = some j) ⟨fun _ h => h, (OwnS.keep (S := fun _ => True) (R := fun _ => False) ⟨fun _ _ => trivial, hOd⟩ hn5 (fun _ _ e => e)).2⟩ hu6 (fun j hj e => ?_)).2
          rcases hR j e (hlt0 j hj) with e3 | e3
          · rw [e1, World.size_alloc] at e3
            injection e3 with e3
            have := hlt0 j hj
            omega
          · exact e3 hj
      have Hbk := Lib.hid hback
      have hO5 : w5.ownsRow 0 3 1 v' (so ++ [(x : Int)]).length ((so ++ [(x : Int)]).map (Value.int .i64)) := by rw [Hxl1.out, Hmp.out]; exact hown'
      have hrec := ih (so ++ [(x : Int)]) (orI s (powI x)) (lessI left (powI x)) v' (pre ++ post) D2 w5 Hxl.out Hstep.out Hpre2.out hO5 hj5 (by omega) (fun j e => by have := hD2 j e; omega)
        (fun j e => by
          rcases hvn j e with e | e
          · exact ⟨(hOv j e).1, (hOv j e).2.2⟩
          · exact ⟨by omega, fun e2 => by have := hD2 j e2; omega⟩)
        hA5 (fun e => hDb ((hD2 b e).2.2 hbl)) (fun e => by
          rcases hvn b e with e | e
          · exact hvb e
          · omega)
      clear hback hv' hg' hown' hjd hO5 hA5 hj5 hAd hOd
      refine hK.out _ _ (fun _ => hS5) ?_
      clear hK K'
      try simp only [Act.put, List.setIfInBounds_toArray, List.set_cons_zero, List.set_cons_succ]
      refine anyT_one (i := 7) (by kernel_rfl) rfl (fun K' hK => ?_)
      go_simp
      refine (without_any left (x : Int) _ (by omega) (by omega) (by omega) (by omega)).mono ?_
      rintro e wq ⟨rfl, rfl⟩
      refine hK.out _ _ (fun _ => hS5) ?_
      clear hK K'
      try simp only [Act.put, List.setIfInBounds_toArray, List.set_cons_zero, List.set_cons_succ]
      refine anyT_one (i := 9) (by kernel_rfl) rfl (fun K' hK => ?_)
      go_simp
      refine hrec.mono ?_
      have hU5 : Upd (fun j => M j ∨ D j ∨ (Value.slice A so.length c).ownBlock = some j) W0 w5 := (hU.trans' hbd (fun i hi e => e.elim)).trans' hu5 (fun i hi e => .inr (.inr e))
      have hV5 : Upd (fun j => (Value.slice A so.length c).ownBlock = some j) Wb w5 := (hbd.mono fun _ _ e => e.elim).trans' hu5 (fun i hi e => e)
      have hS6 : ∀ w6, Upd (fun j => M j ∨ D2 j ∨ v'.ownBlock = some j) w5 w6 → (fun w' : World => w'.heap[w.heap.size]? = some (.cells #[Value.slice (some ⟨b, 0, none⟩) n n, .map (some m)] 68 (0, 0)) ∧ w'.cell? ⟨w.heap.size + 1, 0, none⟩ = some (.slice A so.length c) ∧ w'.cell? ⟨w.heap.size + 1 + 1, 0, none⟩ = some (.int .i64 left) ∧ w'.cell? ⟨w.heap.size + 1 + 1 + 1, 0, none⟩ = some (.func (.yield l) #[] #[])) w6 ∧ Boxed w6 (w.heap.size + 1 + 1 + 1 + 1) 4 (.bool false) := fun w6 hu6 => by
        have hn : ∀ j, w.heap.size ≤ j → j < W0.heap.size → ¬ (M j ∨ D2 j ∨ v'.ownBlock = some j) := fun j h1 h2 e => by
          rcases e with e | e | e
          · have := hMb _ e; omega
          · rcases hp3 j e with e | e
            · have := hD _ e; omega
            · have := hD1 _ e; omega
          · rcases hvn _ e with e | e
            · have := hlt0 _ e; omega
            · omega
        exact ⟨⟨(hu6.block w.heap.size (by omega) (hn _ (by omega) (by omega))).trans hS5.1, hu6.cell hS5.2.1 (hn _ (by simp only; omega) (by simp only; omega)), hu6.cell hS5.2.2.1 (hn _ (by simp only; omega) (by simp only; omega)), hu6.cell hS5.2.2.2 (hn _ (by simp only; omega) (by simp only; omega))⟩, hu6.boxed bR5 (hn _ (by omega) (by omega))⟩
      have hU6 : ∀ w6, Upd (fun j => M j ∨ D2 j ∨ v'.ownBlock = some j) w5 w6 → Upd (fun j => M j ∨ D j ∨ (Value.slice A so.length c).ownBlock = some j) W0 w6 ∧ Upd (fun j => (M j ∨ D j ∨ (Value.slice A so.length c).ownBlock = some j ∨ j = w.heap.size + 1 + 1 + 1 + 1) ∨ D1 j ∨ W.heap.size ≤ j) Wb w6 := fun w6 hu6 => by
        refine ⟨hU5.trans' hu6 (fun i hi e => ?_), (hV5.mono fun i _ e => .inl (.inr (.inr (.inl e)))).trans' hu6 (fun i hi e => ?_)⟩
        · rcases e with e | e | e
          · exact .inl e
          · rcases hp3 i e with e | e
            · exact .inr (.inl e)
            · have := hD1 i e; omega
          · rcases hvn i e with e | e
            · exact .inr (.inr e)
            · omega
        · rcases e with e | e | e
          · exact .inl (.inl e)
          · rcases hp3 i e with e | e
            · exact .inl (.inr (.inl e))
            · exact .inr (.inl e)
          · rcases hvn i e with e | e
            · exact .inl (.inr (.inr (.inl e)))
            · omega
      have hD6 : ∀ (w6 : World) (D3 : Nat → Prop), (∀ j, D3 j → D2 j ∨ w5.heap.size ≤ j ∧ j < w6.heap.size) → ∀ j, D3 j → D j ∨ (D1 j ∨ W.heap.size ≤ j ∧ j < w6.heap.size) := fun w6 D3 h j e => by
        rcases h j e with e | e
        · rcases hp3 j e with e | e
          · exact .inl e
          · exact .inr (.inl e)
        · exact .inr (.inr ⟨by omega, e.2⟩)
      rintro e w6 (⟨rfl, post2, D3, hq1, hj6, hu6, hD3, hO6⟩ | ⟨rfl, post2, D3, hq1, hj6, hu6, hD3⟩)
      · have hb6 := Hbk.out _ _ hu6 (fun j e hjl => by
          rcases e with e | e | e
          · right; intro e2; have := hMb _ e; have := hOv _ e2; omega
          · right; intro e2; exact (hOv _ e2).2.2 e
          · left; exact e) hO6
        obtain ⟨hS7, bR7⟩ := hS6 _ hu6
        obtain ⟨hU7, hV7⟩ := hU6 _ hu6
        have hD7 := hD6 _ _ hD3
        have hz6 := hu6.size
        refine hK.out _ _ (fun _ => hS7) ?_
        clear hK K'
        try simp only [Act.put, List.setIfInBounds_toArray, List.set_cons_zero, List.set_cons_succ]
        refine anyT_one (i := 10) (by kernel_rfl) rfl (fun K' hK => ?_)
        go_simp
        refine hK.out _ _ (fun h => absurd rfl h) ?_
        clear hK K'
        try simp only [Act.put, List.setIfInBounds_toArray, List.set_cons_zero, List.set_cons_succ]
        refine anyT_done (by kernel_rfl) ?_ _
        gi_wp2
        refine ⟨fun j => D1 j ∨ W.heap.size ≤ j ∧ j < w6.heap.size, ⟨post ++ post2, D3, by rw [List.map_append, Hp1.out, hq1, Hsn.out], by rw [← List.append_assoc]; exact hj6, hD7, hb6, hU7⟩, hV7, fun j e => e⟩
      · obtain ⟨hS7, bR7⟩ := hS6 _ hu6
        obtain ⟨hU7, hV7⟩ := hU6 _ hu6
        have hD7 := hD6 _ _ hD3
        have hz6 := hu6.size
        refine hK.out _ _ (fun _ => hS7) ?_
        clear hK K'
        try simp only [Act.put, List.setIfInBounds_toArray, List.set_cons_zero, List.set_cons_succ]
        refine anyT_one (i := 10) (by kernel_rfl) rfl (fun K' hK => ?_)
        go_simp
        refine hK.out _ _ (fun h => absurd rfl h) ?_
        clear hK K'
        try simp only [Act.put, List.setIfInBounds_toArray, List.set_cons_zero, List.set_cons_succ]
        refine anyT_done (by kernel_rfl) ?_ _
        have hcR7 := bR7.cell
        have hfR7 := bR7.frozen
        gi_wp2
        have hus : Upd (fun j => j = w.heap.size + 1 + 1 + 1 + 1) w6 (w6.setCell ⟨w.heap.size + 1 + 1 + 1 + 1, 0, none⟩ (.bool false)) := (Upd.refl (fun j => j = w.heap.size + 1 + 1 + 1 + 1) w6).setCell (p := ⟨w.heap.size + 1 + 1 + 1 + 1, 0, none⟩) (.inr rfl) _
        have hz8 := hus.size
        have hnD3 : ¬ D3 (w.heap.size + 1 + 1 + 1 + 1) := fun e => by
          rcases hD3 _ e with e | e
          · rcases hp3 _ e with e | e
            · have := hD _ e; omega
            · have := hD1 _ e; omega
          · omega
        refine ⟨fun j => D1 j ∨ W.heap.size ≤ j ∧ j < w6.heap.size, ⟨rfl, post ++ post2, D3, by rw [← List.append_assoc]; exact hq1, by rw [← List.append_assoc]; exact hJx _ _ _ _ hj6 (hus.mono fun j _ e => ⟨by omega, fun e2 => hnD3 (by rw [← e]; exact e2)⟩), hD7, bR7.set _, ?_⟩, ?_, fun j e => e.elim .inl (fun e => .inr ⟨e.1, by omega⟩)⟩
        · exact (hU7.mono (S := fun j => M j ∨ D j ∨ (Value.slice A so.length c).ownBlock = some j ∨ j = w.heap.size + 1 + 1 + 1 + 1) fun i _ e => by
            rcases e with e | e | e
            · exact .inl e
            · exact .inr (.inl e)
            · exact .inr (.inr (.inl e))).trans' hus (fun i hi e => .inr (.inr (.inr e)))
        · exact hV7.trans' hus (fun i hi e => .inl (.inr (.inr (.inr e))))
    case done =>
      rintro d D1 W hd ⟨post, D2, hp1, hj2, hp3, hO2, hU⟩ hD1 hKd
      rw [Hnx.out, alX_all] at hp1
      have zb := hU.size
      have hno : ∀ j, w.heap.size ≤ j → j < W0.heap.size → ¬ (M j ∨ D j ∨ (Value.slice A so.length c).ownBlock = some j) := fun j h1 h2 e => by
        rcases e with e | e | e
        · have := hMb _ e; omega
        · have := hD _ e; omega
        · have := hlt0 _ e; omega
      have bRb := hU.boxed bRs0 (hno _ (by omega) (by omega))
      have hcR := bRb.cell
      have hfR := bRb.frozen
      have hdl := (Array.getElem?_eq_some_iff.1 hKd).1
      have Hp1 := Lib.hid hp1
      clear hp1
      gi_wp2
      have hus : Upd (fun j => j = w.heap.size + 1 + 1 + 1 + 1) W (W.setCell ⟨w.heap.size + 1 + 1 + 1 + 1, 0, none⟩ (.bool true)) := (Upd.refl (fun j => j = w.heap.size + 1 + 1 + 1 + 1) W).setCell (p := ⟨w.heap.size + 1 + 1 + 1 + 1, 0, none⟩) (.inr rfl) _
      have hz8 := hus.size
      refine leaves_marks [d] _ ⟨by simp, fun b hb => ?_⟩ (fun W' hu' => ?_)
      · rw [List.mem_singleton.1 hb]
        exact (hus.block d hdl (by omega)).trans hKd
      · have hz9 := hu'.size
        have hu9 : Upd (fun j => j = w.heap.size + 1 + 1 + 1 + 1 ∨ j = d) W W' := (hus.mono fun i _ e => .inl e).trans' hu' (fun i hi e => by simp at e; exact .inr e)
        have hc' := (hu'.boxed (bRb.set (.bool true)) (by simp; omega)).cell
        have hn9 : ∀ j, j = w.heap.size + 1 + 1 + 1 + 1 ∨ j = d → w.heap.size ≤ j ∧ ¬ D2 j := fun j e => ⟨by omega, fun e2 => by
          rcases hp3 j e2 with e3 | e3
          · have := hD j e3; omega
          · have := hD1 j e3; omega⟩
        refine ⟨.bool true, by simp [results, Try.f107, go_sem, hc'], .inl ⟨rfl, post, D2, Hp1.out, hJ _ _ _ _ hj2 (hu9.mono fun j _ e => ⟨by have := hn9 j e; omega, (hn9 j e).2⟩), ?_, fun j e => ?_, ?_⟩⟩
        · exact ((hU0.mono fun _ _ e => e.elim).trans' hU (fun i hi e => e)).trans' hu9 (fun i hi e => by have := hn9 i e; omega)
        · rcases hp3 j e with e | e
          · exact .inl e
          · have := hD1 j e
            exact .inr ⟨by omega, by omega⟩
        · exact (OwnS.keep (S := fun j => (Value.slice A so.length c).ownBlock = some j) ⟨fun _ h => h, hO2⟩ hu9 (fun j hj e => by have := hn9 j e; have := hlt0 j hj; omega)).2
    case stop =>
      rintro d D1 co xs W hd hxs ⟨rfl, post, D2, hp1, hj2, hp3, bR2, hU⟩ hD1 hKd
      have zb := hU.size
      have hdl := (Array.getElem?_eq_some_iff.1 hKd).1
      have Hp1 := Lib.hid hp1
      clear hp1
      gi_wp2
      refine leaves_marks [d] _ ⟨by simp, fun b hb => ?_⟩ (fun W' hu' => ?_)
      · rw [List.mem_singleton.1 hb]
        exact hKd
      · have hz9 := hu'.size
        have hc' := (hu'.boxed bR2 (by simp; omega)).cell
        have hu9 : Upd (fun j => j = d) W W' := hu'.mono fun i hi e => by simpa using e
        refine ⟨.bool false, by simp [results, Try.f107, go_sem, hc'], .inr ⟨rfl, post, D2, Hp1.out, hJx _ _ _ _ hj2 (hu9.mono fun j _ e => ⟨by omega, fun e2 => by
          rcases hp3 j e2 with e3 | e3
          · have := hD j e3; omega
          · have := hD1 j e3; omega⟩), ?_, fun j e => ?_⟩⟩
        · exact ((hU0.mono fun _ _ e => e.elim).trans' hU (fun i hi e => by
            rcases e with e | e | e | e
            · exact .inl e
            · exact .inr (.inl e)
            · exact .inr (.inr e)
            · omega)).trans' hu9 (fun i hi e => by omega)
        · rcases hp3 j e with e | e
          · exact .inl e
          · have := hD1 j e
            exact .inr ⟨by omega, by omega⟩
end Go.Proofs.Ytghogabmkbadjaa

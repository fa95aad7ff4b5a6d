/- Texts that several claims share, one behind the other. -/
import Derived.Test.YtghogabmkbadjaaGxf
import Derived.Test.YtghogabmkbadjaaMk6
import Derived.Test.YtghogabmkbadjaaRdT
import Derived.Test.YtghogabmkbadjaaGa
import Derived.Maps.AppendAt
set_option linter.unusedVariables false
set_option linter.unusedSimpArgs false
/- The program's lines: tellFrom, the recursion. -/
namespace Go.Proofs.Ytghogabmkbadjaa
open Go.RowKit Go.Shelf
attribute [local go_sem] Oper.semAt_some
attribute [local go_sem, local simp] wide_fn

/-- What holds between two rounds over the items that may be next. -/
def TlJ (zs : List Int) (M : Nat → Prop) (J : List Ln → (Nat → Prop) → World → Prop) (k : Nat) (so : List Int) (s : Int) (v : Value) (pre : List Ln) (D : Nat → Prop) (W0 : World) (xs : List Nat) (D1 : Nat → Prop) (W : World) : Prop :=
  ∃ post D2, post.map Prod.fst = alX zs k so s xs ∧ J (pre ++ post) D2 W ∧ (∀ j, D2 j → D j ∨ D1 j) ∧ W.ownsRow 0 3 1 v so.length (so.map (Value.int .i64)) ∧ Upd (fun j => M j ∨ D j ∨ v.ownBlock = some j) W0 W
/-- What holds where a round has said no more. -/
def TlX (zs : List Int) (M : Nat → Prop) (Jx : List Ln → (Nat → Prop) → World → Prop) (v : Value) (pre : List Ln) (D : Nat → Prop) (r : Nat) (W0 : World) (D1 : Nat → Prop) (W : World) : Prop :=
  ∃ post D2, lnUp zs (pre ++ post) ∧ Jx (pre ++ post) D2 W ∧ (∀ j, D2 j → D j ∨ D1 j) ∧ Boxed W r 4 (.bool false) ∧ Upd (fun j => M j ∨ D j ∨ v.ownBlock = some j ∨ j = r) W0 W
section
variable {zs : List Int} {M D : Nat → Prop} {J Jx : List Ln → (Nat → Prop) → World → Prop} {k : Nat} {so : List Int} {s : Int} {v : Value} {pre : List Ln} {W0 : World} {B : Nat}
theorem TlJ.firm (hJ : Firm B J) (hB : B ≤ W0.heap.size) (hD : ∀ j, D j → j < W0.heap.size) (hv : ∀ j, v.ownBlock = some j → j < W0.heap.size) : Firm W0.heap.size (TlJ zs M J k so s v pre D W0) := by
  rintro xs D1 W W' ⟨post, D2, h1, h2, h3, h4, h5⟩ hu
  refine ⟨post, D2, h1, hJ _ _ _ _ h2 (hu.mono fun j _ e => ⟨by omega, fun e2 => (h3 j e2).elim (fun e3 => by have := hD j e3; omega) e.2⟩), h3, ?_, h5.trans' hu (fun i hi e => by omega)⟩
  exact (OwnS.keep (S := fun j => v.ownBlock = some j) ⟨fun _ h => h, h4⟩ hu (fun j hj e => by have := hv j hj; omega)).2
theorem TlX.firm {r : Nat} (hJx : Firm B Jx) (hB : B ≤ W0.heap.size) (hD : ∀ j, D j → j < W0.heap.size) (hr : r < W0.heap.size) : Firm W0.heap.size (fun (_ : List Nat) D1 W => TlX zs M Jx v pre D r W0 D1 W) := by
  rintro xs D1 W W' ⟨post, D2, h1, h2, h3, h4, h5⟩ hu
  exact ⟨post, D2, h1, hJx _ _ _ _ h2 (hu.mono fun j _ e => ⟨by omega, fun e2 => (h3 j e2).elim (fun e3 => by have := hD j e3; omega) e.2⟩), h3, hu.boxed h4 (fun e => by omega), h5.trans' hu (fun i hi e => by omega)⟩
end

set_option maxRecDepth 100000 in
set_option maxHeartbeats 8000000 in
theorem tell_any (zs : List Int) (hvo : VoP zs) (n : Nat) (hlen0 : zs.length = n) (b m l B : Nat) (M : Nat → Prop) (J Jx : List Ln → (Nat → Prop) → World → Prop) (hJ : Firm B J) (hJx : Firm B Jx) (hY : LnYield l B zs M J Jx) (hMb : ∀ k, M k → k < B) (hBb : B ≤ b) :
    ∀ (k : Nat) (so : List Int) (s left : Int) (v : Value) (pre : List Ln) (D : Nat → Prop) (w : World), so.length + k = n → Lft n s left k → pre.map Prod.fst ++ alG zs k so s <+: alL zs → w.ownsRow 0 3 1 v so.length (so.map (Value.int .i64)) →
    J pre D w → B ≤ w.heap.size → (∀ j, D j → B ≤ j ∧ j < w.heap.size) → (∀ j, v.ownBlock = some j → B ≤ j ∧ ¬ D j) → Arr w b 59 (du zs) → ¬ D b → v.ownBlock ≠ some b →
    Calls Try.prog 107 #[lineV b m n, v, .int .i64 left, .func (.yield l) #[] #[]] w (LnTold zs M J Jx k so s v pre D w)
  | 0, so, s, left, v, pre, D, w, hk, hL, hpre, hO, hj, hB, hD, hOB, hA, hDb, hvb => by
    have hn6 : n ≤ 6 := by have := hvo.1; rw [hlen0] at this; exact this
    rw [(lft_zero hn6 hL).2 rfl]
    exact tell_last zs n b m l B M J Jx hJ hJx hY so s v pre D w (by omega) hpre hO hj hB hD hMb hOB
  | k + 1, so, s, left, v, pre, D, w, hk, hL, hpre, hO, hj, hB, hD, hOB, hA, hDb, hvb => by
    have ih := tell_any zs hvo n hlen0 b m l B M J Jx hJ hJx hY hMb hBb k
    have hlen := Lib.hid hlen0
    have hn6 : n ≤ 6 := by have := hvo.1; rw [hlen0] at this; exact this
    have hnz : left ≠ 0 := fun e => by have := (lft_zero hn6 hL).1 e; omega
    have hsb : (left == 0) = false := by simpa using hnz
    obtain ⟨A, c, rfl, -, -⟩ := ints_of_own_at hO
    have hlt0 := own_lt' hO
    have hl0 := hL.l0
    have hl1 := hL.l1
    have hpn : powI n ≤ 64 := powI_le6 (by omega)
    have hbl := hA.lt
    have HL := Lib.hid hL
    have Hpre := Lib.hid hpre
    have Hk := Lib.hid hk
    have hso : so.length ≤ 5 := by omega
    clear hlen0 hL hpre hnz hk
    unfold lineV
    refine (callsIn_wide (n := 9)).1 ?_
    refine callsIn_of_wp_marks Try.func107 rfl trivial ?_ rfl
    simp only [Try.ntmps107, List.size_toArray, List.length_cons, List.length_nil, Nat.reduceAdd, Nat.reduceSub, Array.replicate_succ, Array.replicate_zero, List.push_toArray, List.append_toArray, List.nil_append, List.cons_append]
    obtain ⟨X0, hX0⟩ : ∃ X0, (((((w.alloc (Obj.cells #[Value.slice (some { block := b, off := 0 }) n n, Value.map (some m)] 68)).alloc (Obj.cells #[.slice A so.length c] 22)).alloc (Obj.cells #[Value.int IntKind.i64 left] 59)).alloc (Obj.cells #[Value.func (Fn.yield l) #[] #[]] 28)).alloc (Obj.cells #[Value.bool false] 4)) = X0 := ⟨_, rfl⟩
    have hz0 : X0.heap.size = w.heap.size + 5 := by rw [← hX0]; simp
    have hu0 : Upd (fun _ => False) w X0 := by rw [← hX0]; exact (((((Upd.refl _ w).alloc _).alloc _).alloc _).alloc _).alloc _
    have bL : (((((w.alloc (Obj.cells #[Value.slice (some { block := b, off := 0 }) n n, Value.map (some m)] 68)).alloc (Obj.cells #[.slice A so.length c] 22)).alloc (Obj.cells #[Value.int IntKind.i64 left] 59)).alloc (Obj.cells #[Value.func (Fn.yield l) #[] #[]] 28)).alloc (Obj.cells #[Value.bool false] 4)).heap[w.heap.size]? = some (.cells #[Value.slice (some ⟨b, 0, none⟩) n n, .map (some m)] 68 (0, 0)) := ((((Below.heap_alloc _ _ _ (by simp; omega)).trans (Below.heap_alloc _ _ _ (by simp; omega))).trans (Below.heap_alloc _ _ _ (by simp; omega))).trans (Below.heap_alloc _ _ _ (by simp))).trans (heap_alloc_new w _)
    have bLn : Boxed X0 (w.heap.size + 1) 22 (.slice A so.length c) := by
      rw [← hX0]
      have := (((Boxed.new (w.alloc (Obj.cells #[Value.slice (some { block := b, off := 0 }) n n, Value.map (some m)] 68)) 22 (.slice A so.length c)).alloc (Obj.cells #[Value.int IntKind.i64 left] 59)).alloc (Obj.cells #[Value.func (Fn.yield l) #[] #[]] 28)).alloc (Obj.cells #[Value.bool false] 4)
      simpa only [World.size_alloc] using this
    have bS : Boxed (((((w.alloc (Obj.cells #[Value.slice (some { block := b, off := 0 }) n n, Value.map (some m)] 68)).alloc (Obj.cells #[.slice A so.length c] 22)).alloc (Obj.cells #[Value.int IntKind.i64 left] 59)).alloc (Obj.cells #[Value.func (Fn.yield l) #[] #[]] 28)).alloc (Obj.cells #[Value.bool false] 4)) (w.heap.size + 1 + 1) 59 (.int .i64 left) := by
      have := ((Boxed.new ((w.alloc (Obj.cells #[Value.slice (some { block := b, off := 0 }) n n, Value.map (some m)] 68)).alloc (Obj.cells #[.slice A so.length c] 22)) 59 (Value.int IntKind.i64 left)).alloc (Obj.cells #[Value.func (Fn.yield l) #[] #[]] 28)).alloc (Obj.cells #[Value.bool false] 4)
      simpa only [World.size_alloc] using this
    have bTl : Boxed X0 (w.heap.size + 1 + 1 + 1) 28 (.func (.yield l) #[] #[]) := by
      rw [← hX0]
      have := (Boxed.new (((w.alloc (Obj.cells #[Value.slice (some { block := b, off := 0 }) n n, Value.map (some m)] 68)).alloc (Obj.cells #[.slice A so.length c] 22)).alloc (Obj.cells #[Value.int IntKind.i64 left] 59)) 28 (Value.func (Fn.yield l) #[] #[])).alloc (Obj.cells #[Value.bool false] 4)
      simpa only [World.size_alloc] using this
    have bRs : Boxed X0 (w.heap.size + 1 + 1 + 1 + 1) 4 (.bool false) := by
      rw [← hX0]
      have := Boxed.new ((((w.alloc (Obj.cells #[Value.slice (some { block := b, off := 0 }) n n, Value.map (some m)] 68)).alloc (Obj.cells #[.slice A so.length c] 22)).alloc (Obj.cells #[Value.int IntKind.i64 left] 59)).alloc (Obj.cells #[Value.func (Fn.yield l) #[] #[]] 28)) 4 (Value.bool false)
      simpa only [World.size_alloc] using this
    have HX := Lib.hid hX0
    clear hX0
    have hcS := bS.cell
    gi_wp2_with (first
      | (refine wpListIn_load_row rfl _ _ rfl w.heap.size rfl _ _ (0, 0) _ bL Try.underlying68 rfl (by kernel_rfl) ?_))
    rw [HX.out] at bL bS ⊢
    clear HX hcS
    have hAX : Arr X0 b 59 (du zs) := hA.upd hu0 (fun e => e)
    refine (callsIn_wide.2 (free_any b m n zs left hvo.sets X0 (hAX.ints' hAX.lt (by rw [du_len, hlen.out])) hl0 hl1)).mono ?_
    rintro e w4 ⟨rfl, hB4⟩
    have z4 := hB4.size
    have hT := topsTo_bd (du zs) left n
    have Hnx := Lib.hid (next_items hvo hlen.out hn6 HL.out)
    generalize topsTo (du zs) left n = T at *
    gi_wp2_with (gi_at_call 93; refine (callsIn_wide.2 (each_any _ _)).mono ?_; rintro e w' ⟨rfl, rfl⟩)
    have bE := Boxed.new w4 59 (.int .i64 T)
    have hu4 : Upd (fun _ => False) X0 (w4.alloc (.cells #[Value.int .i64 T] 59)) := ((Upd.refl _ X0).below hB4 (fun k h1 h2 => by omega)).alloc _
    have hzz : (w4.alloc (.cells #[Value.int .i64 T] 59)).heap.size = w4.heap.size + 1 := by simp
    obtain ⟨W0, hW0⟩ : ∃ W0, w4.alloc (.cells #[Value.int .i64 T] 59) = W0 := ⟨_, rfl⟩
    rw [hW0] at bE hu4 hzz ⊢
    clear hW0
    have hA0 := hAX.upd hu4 (fun e => e)
    have bL0 := (hu4.block w.heap.size (by omega) (fun e => e)).trans bL
    have bS0 := hu4.boxed bS (fun e => e)
    have bLn0 := hu4.boxed bLn (fun e => e)
    have bTl0 := hu4.boxed bTl (fun e => e)
    have bRs0 := hu4.boxed bRs (fun e => e)
    have hU0 : Upd (fun _ => False) w W0 := hu0.trans' hu4 (fun i hi e => e)
    have hW0s : w.heap.size + 5 < W0.heap.size ∧ w4.heap.size < W0.heap.size ∧ w.heap.size + 5 ≤ w4.heap.size := by omega
    obtain ⟨hW1, hW2, hW3⟩ := hW0s
    have hO0 : W0.ownsRow 0 3 1 (.slice A so.length c) so.length (so.map (Value.int .i64)) := (OwnS.keep (S := fun _ => True) (R := fun _ => False) ⟨fun _ _ => trivial, hO⟩ hU0 (fun _ _ e => e)).2
    have hj0 : J pre D W0 := hJ _ _ _ _ hj (hU0.mono fun _ _ e => e.elim)
    clear hu0 hu4 bL bS hAX hB4 bLn bTl bRs hz0 z4 hzz hO hj hA
    refine range_out (n := 9) (gf := 102) (lb := #[.pointer (some ⟨w4.heap.size, 0, none⟩)]) rfl (enters_of Try.func102 (by kernel_rfl) rfl) (encs := encI) (L := itemsL T)
      (fun j => M j ∨ D j ∨ (Value.slice A so.length c).ownBlock = some j ∨ j = w.heap.size + 1 + 1 + 1 + 1) (fun i e => by
        rcases e with e | e | e | e
        · have := hMb i e; omega
        · have := hD i e; omega
        · have := hlt0 i e; omega
        · omega) (fun _ => rfl)
      (fun W1 l1 hu1 hl1 hl2 => each_iter T hT.1 (by omega) _ _ W1 (hu1.boxed bE (fun e => e)) (fun e => by
        rcases e with (e | e | e | e) | e
        · have := hMb _ e; omega
        · have := hD _ e; omega
        · have := hlt0 _ e; omega
        · omega
        · omega))
      (TlJ zs M J k so s (.slice A so.length c) pre D W0)
      (fun co _ D1 W => co = .ret ∧ TlX zs M Jx (.slice A so.length c) pre D (w.heap.size + 1 + 1 + 1 + 1) W0 D1 W)
      (TlJ.firm hJ (by omega) (fun j e => by have := hD j e; omega) (fun j e => by have := hlt0 j e; omega))
      (fun co xs D1 W W' hs hu => ⟨hs.1, TlX.firm hJx (by omega) (fun j e => by have := hD j e; omega) (by omega) xs D1 W W' hs.2 hu⟩)
      ⟨[], D, rfl, by rw [List.append_nil]; exact hj0, fun _ e => .inl e, hO0, Upd.refl _ _⟩ ?owes ?done ?stop
    case owes =>
      rintro l1 xs x D1 W hl1 hl2 hDl hD1 - hxs K hK
      gi_wp2
      refine hK _ _ (Upd.refl _ _) ?_
      rintro Wb hWb - ⟨post, D2, hp1, hj2, hp3, hO2, hU⟩
      clear hK
      rw [Hnx.out] at hxs
      have hxm := nxA_mem (hxs.subset (by simp : x ∈ xs ++ [x]))
      rw [hlen.out] at hxm
      obtain ⟨hxn, hxs2⟩ := hxm
      have hstep := lft_step hlen.out hn6 HL.out hxn hxs2
      have hsn := alX_snoc zs k so s xs x
      have hpx := alX_pre zs k so s hxs
      have zb := hU.size
      have zW := hWb.size
      have hno : ∀ j, w.heap.size ≤ j → j < W0.heap.size → ¬ (M j ∨ D j ∨ (Value.slice A so.length c).ownBlock = some j) := fun j h1 h2 e => by
        rcases e with e | e | e
        · have := hMb _ e; omega
        · have := hD _ e; omega
        · have := hlt0 _ e; omega
      have bLb := (hU.block w.heap.size (by omega) (hno _ (by omega) (by omega))).trans bL0
      have bLnb := hU.boxed bLn0 (hno _ (by omega) (by omega))
      have bSb := hU.boxed bS0 (hno _ (by omega) (by omega))
      have bTb := hU.boxed bTl0 (hno _ (by omega) (by omega))
      have bRb := hU.boxed bRs0 (hno _ (by omega) (by omega))
      have hbno : ¬ (M b ∨ D b ∨ (Value.slice A so.length c).ownBlock = some b) := fun e => by
        rcases e with e | e | e
        · have := hMb _ e; omega
        · exact hDb e
        · exact hvb e
      have hAb := hA0.upd hU hbno
      have hO3 := hOB
      have hD2 : ∀ j, D2 j → B ≤ j ∧ j < W.heap.size ∧ (j < w.heap.size → D j) := fun j e => by
        rcases hp3 j e with e | e
        · have := hD j e; exact ⟨by omega, by omega, fun _ => e⟩
        · have := hD1 j e; exact ⟨by omega, by omega, fun h => by omega⟩
      have hpre2 : (pre ++ post).map Prod.fst ++ alG zs k (so ++ [(x : Int)]) (orI s (powI x)) <+: alL zs := by
        rw [List.map_append, hp1, List.append_assoc, ← hsn]
        exact ((List.prefix_append_right_inj _).2 hpx).trans Hpre.out
      have Hstep := Lib.hid hstep
      have Hpre2 := Lib.hid hpre2
      have Hsn := Lib.hid hsn
      have Hp1 := Lib.hid hp1
      clear hstep hpre2 hsn hpx hp1 hxs2
      have hxl : (so ++ [(x : Int)]).length = so.length + 1 := by simp
      have hlk := Hk.out
      have Hxl := Lib.hid (show (so ++ [(x : Int)]).length + k = n by omega)
      have Hmp := Lib.hid (show (so ++ [(x : Int)]).map (Value.int .i64) = so.map (Value.int .i64) ++ [Value.int .i64 (x : Int)] by simp)
      have Hxl1 := Lib.hid hxl
      clear hxl hlk
      obtain ⟨i0, hi0, hz0, hz1, hz2⟩ := info_parts infoInt
      gi_wp2
      refine region_T_round (S := fun w' => w'.heap[w.heap.size]? = some (.cells #[Value.slice (some ⟨b, 0, none⟩) n n, .map (some m)] 68 (0, 0)) ∧ w'.cell? ⟨w.heap.size + 1, 0, none⟩ = some (.slice A so.length c) ∧ w'.cell? ⟨w.heap.size + 1 + 1, 0, none⟩ = some (.int .i64 left) ∧ w'.cell? ⟨w.heap.size + 1 + 1 + 1, 0, none⟩ = some (.func (.yield l) #[] #[])) 10 (by kernel_rfl) (by kernel_rfl) (by rintro ⟨_, _, h⟩; exact h) ?_
      obtain ⟨Wd, hWd⟩ : ∃ Wd, Wb.drew = Wd := ⟨_, rfl⟩
      have hbd : Upd (fun _ => False) Wb Wd := by rw [← hWd]; exact (Upd.refl _ Wb).drew
      have hsd : Wb.heap.size ≤ Wd.heap.size := hbd.size
      rw [hWd]
      clear hWd
      have bLd := (hbd.block w.heap.size (by omega) (fun e => e)).trans bLb
      have bLnd := hbd.boxed bLnb (fun e => e)
      have bSd := hbd.boxed bSb (fun e => e)
      have bTd := hbd.boxed bTb (fun e => e)
      have bRd := hbd.boxed bRb (fun e => e)
      have hAd := hAb.upd hbd (fun e => e)
      have hOd : Wd.ownsRow 0 3 1 (.slice A so.length c) so.length (so.map (Value.int .i64)) := (OwnS.keep (S := fun _ => True) (R := fun _ => False) ⟨fun _ _ => trivial, hO2⟩ hbd (fun _ _ e => e)).2
      have hjd := hJ _ _ _ _ hj2 (hbd.mono fun _ _ e => e.elim)
      have hSd : (fun w' : World => w'.heap[w.heap.size]? = some (.cells #[Value.slice (some ⟨b, 0, none⟩) n n, .map (some m)] 68 (0, 0)) ∧ w'.cell? ⟨w.heap.size + 1, 0, none⟩ = some (.slice A so.length c) ∧ w'.cell? ⟨w.heap.size + 1 + 1, 0, none⟩ = some (.int .i64 left) ∧ w'.cell? ⟨w.heap.size + 1 + 1 + 1, 0, none⟩ = some (.func (.yield l) #[] #[])) Wd := ⟨bLd, bLnd.cell, bSd.cell, bTd.cell⟩
      clear bLb bLnb bSb bTb bRb hAb hO2 hj2
      refine anyT_take (i := 0) (oi := ?oi0a) (v := .agg #[Value.slice (some ⟨b, 0, none⟩) n n, .map (some m)]) ?hi0a (by kernel_rfl) ?hq0a ?hy0a (by assumption) ?rest0a
      case hi0a => (simp only [List.getElem?_toArray, List.getElem?_cons_zero]; first | done | rfl)
      case hq0a => first | exact fun _ _ _ h => h | exact fun _ _ _ h => (by cases h.1)
      case hy0a => exact yieldsIf_load_row (by rfl) _ _ rfl _ rfl _ _ _ (fun _ h => h.1) Try.underlying68 rfl (by kernel_rfl)
      try simp only [Act.put, List.setIfInBounds_toArray, List.set_cons_zero, List.set_cons_succ]
      refine anyT_take (i := 1) (oi := ?oi1a) (v := .slice A so.length c) ?hi1a (by kernel_rfl) ?hq1a ?hy1a (by assumption) ?rest1a
      case hi1a => (simp only [List.getElem?_toArray, List.getElem?_cons_succ, List.getElem?_cons_zero]; first | done | rfl)
      case hq1a => first | exact fun _ _ _ h => h | exact fun _ _ _ h => (by cases h.1)
      case hy1a => (refine Or.inl ⟨by rfl, ?_⟩; intro wz hSw; obtain ⟨hSa, hSb, hSc, hSe⟩ := hSw; go_simp; first | done | with_reducible rfl | simp | omega)
      try simp only [Act.put, List.setIfInBounds_toArray, List.set_cons_zero, List.set_cons_succ]
      refine anyT_take (i := 2) (oi := ?oi2a) (v := .int .i64 (x : Int)) ?hi2a (by kernel_rfl) ?hq2a ?hy2a (by assumption) ?rest2a
      case hi2a => (simp only [List.getElem?_toArray, List.getElem?_cons_succ, List.getElem?_cons_zero]; first | done | rfl)
      case hq2a => first | exact fun _ _ _ h => h | exact fun _ _ _ h => (by cases h.1)
      case hy2a => (refine Or.inl ⟨by rfl, ?_⟩; intro wz hSw; obtain ⟨hSa, hSb, hSc, hSe⟩ := hSw; go_simp; first | done | with_reducible rfl | simp | omega)
      try simp only [Act.put, List.setIfInBounds_toArray, List.set_cons_zero, List.set_cons_succ]
      refine anyT_take (i := 5) (oi := ?oi5a) (v := .int .i64 left) ?hi5a (by kernel_rfl) ?hq5a ?hy5a (by assumption) ?rest5a
      case hi5a => (simp only [List.getElem?_toArray, List.getElem?_cons_succ, List.getElem?_cons_zero]; first | done | rfl)
      case hq5a => first | exact fun _ _ _ h => h | exact fun _ _ _ h => (by cases h.1)
      case hy5a => (refine Or.inl ⟨by rfl, ?_⟩; intro wz hSw; obtain ⟨hSa, hSb, hSc, hSe⟩ := hSw; go_simp; first | done | with_reducible rfl | simp | omega)
      try simp only [Act.put, List.setIfInBounds_toArray, List.set_cons_zero, List.set_cons_succ]
      refine anyT_take (i := 6) (oi := ?oi6a) (v := .int .i64 (x : Int)) ?hi6a (by kernel_rfl) ?hq6a ?hy6a (by assumption) ?rest6a
      case hi6a => (simp only [List.getElem?_toArray, List.getElem?_cons_succ, List.getElem?_cons_zero]; first | done | rfl)
      case hq6a => first | exact fun _ _ _ h => h | exact fun _ _ _ h => (by cases h.1)
      case hy6a => (refine Or.inl ⟨by rfl, ?_⟩; intro wz hSw; obtain ⟨hSa, hSb, hSc, hSe⟩ := hSw; go_simp; first | done | with_reducible rfl | simp | omega)
      try simp only [Act.put, List.setIfInBounds_toArray, List.set_cons_zero, List.set_cons_succ]
      refine anyT_take (i := 8) (oi := ?oi8a) (v := .func (.yield l) #[] #[]) ?hi8a (by kernel_rfl) ?hq8a ?hy8a (by assumption) ?rest8a
      case hi8a => (simp only [List.getElem?_toArray, List.getElem?_cons_succ, List.getElem?_cons_zero]; first | done | rfl)
      case hq8a => first | exact fun _ _ _ h => h | exact fun _ _ _ h => (by cases h.1)
      case hy8a => (refine Or.inl ⟨by rfl, ?_⟩; intro wz hSw; obtain ⟨hSa, hSb, hSc, hSe⟩ := hSw; go_simp; first | done | with_reducible rfl | simp | omega)
      try simp only [Act.put, List.setIfInBounds_toArray, List.set_cons_zero, List.set_cons_succ]
      refine anyT_one (i := 3) (by kernel_rfl) rfl (fun K' hK => ?_)
      go_simp
      have hu3 : Upd (fun _ => False) Wd (Wd.alloc (.cells #[Value.int .i64 (x : Int)] 3)) := (Upd.refl _ Wd).alloc _
      have hS2 : (fun w' : World => w'.heap[w.heap.size]? = some (.cells #[Value.slice (some ⟨b, 0, none⟩) n n, .map (some m)] 68 (0, 0)) ∧ w'.cell? ⟨w.heap.size + 1, 0, none⟩ = some (.slice A so.length c) ∧ w'.cell? ⟨w.heap.size + 1 + 1, 0, none⟩ = some (.int .i64 left) ∧ w'.cell? ⟨w.heap.size + 1 + 1 + 1, 0, none⟩ = some (.func (.yield l) #[] #[])) (Wd.alloc (.cells #[Value.int .i64 (x : Int)] 3)) := ⟨(hu3.block w.heap.size (by omega) (fun e => e)).trans hSd.1, hu3.cell hSd.2.1 (fun e => e), hu3.cell hSd.2.2.1 (fun e => e), hu3.cell hSd.2.2.2 (fun e => e)⟩
      refine hK.out _ _ (fun _ => hS2) ?_
      clear hK K'
      try simp only [Act.put, List.setIfInBounds_toArray, List.set_cons_zero, List.set_cons_succ]
      refine anyT_one (i := 4) (by kernel_rfl) rfl (fun K' hK => ?_)
      refine step_append1c rfl (.tmp 22) (.tmp 24) _ rfl 0 3 i0 _ 8 Try.underlying22 hi0 hz0 hz1 hz2 rfl _ so.length _ rfl (hOd.alloc _) Wd.heap.size 1 (.int .i64 (x : Int)) rfl (cell_new _ _ _) rfl (by omega) (by omega) (by omega) ?_
      rintro v' w5 hown' hg' hv'
      replace hv' : (∃ g cap, Value.slice A so.length c = .slice (some ⟨g, 0, none⟩) so.length cap ∧ v' = .slice (some ⟨g, 0, none⟩) (so.length + 1) cap) ∨ v'.ownBlock = some (Wd.alloc (.cells #[Value.int .i64 (x : Int)] 3)).heap.size ∧ (Wd.alloc (.cells #[Value.int .i64 (x : Int)] 3)).grownBy w5 none := hv'
      have zg := hg'.size
      rw [World.size_alloc] at zg
      have hOv : ∀ j, (Value.slice A so.length c).ownBlock = some j → B ≤ j ∧ j < w.heap.size ∧ ¬ D2 j := fun j e => ⟨(hOB j e).1, hlt0 j e, fun e2 => (hOB j e).2 ((hD2 j e2).2.2 (hlt0 j e))⟩
      have hu5 : Upd (fun j => (Value.slice A so.length c).ownBlock = some j) Wd w5 := ((Upd.refl _ Wd).alloc _).grown hg' (fun j hk => .inr hk)
      have hS5 : (fun w' : World => w'.heap[w.heap.size]? = some (.cells #[Value.slice (some ⟨b, 0, none⟩) n n, .map (some m)] 68 (0, 0)) ∧ w'.cell? ⟨w.heap.size + 1, 0, none⟩ = some (.slice A so.length c) ∧ w'.cell? ⟨w.heap.size + 1 + 1, 0, none⟩ = some (.int .i64 left) ∧ w'.cell? ⟨w.heap.size + 1 + 1 + 1, 0, none⟩ = some (.func (.yield l) #[] #[])) w5 := ⟨(hu5.block w.heap.size (by omega) (fun e => by have := hOv _ e; omega)).trans hSd.1, hu5.cell hSd.2.1 (fun e => by have := hOv _ e; simp only at this; omega), hu5.cell hSd.2.2.1 (fun e => by have := hOv _ e; simp only at this; omega), hu5.cell hSd.2.2.2 (fun e => by have := hOv _ e; simp only at this; omega)⟩
      have hj5 := hJ _ _ _ _ hjd (hu5.mono fun j _ e => ⟨(hOv j e).1, (hOv j e).2.2⟩)
      have hA5 := hAd.upd hu5 (fun e => hvb e)
      have bR5 := hu5.boxed bRd (fun e => by have := hOv _ e; omega)
      have hvn : ∀ j, v'.ownBlock = some j → (Value.slice A so.length c).ownBlock = some j ∨ Wd.heap.size ≤ j := fun j e => by
        rcases hv' with ⟨g, cap, e1, e2⟩ | ⟨e1, _⟩
        · left; rw [e2] at e; rw [e1]; exact e
        · right; rw [e1, World.size_alloc] at e; injection e with e; omega
      have hback : ∀ (R : Nat → Prop) (w6 : World), Upd R w5 w6 → (∀ j, R j → j < w.heap.size → (v'.ownBlock = some j ∨ ¬ (Value.slice A so.length c).ownBlock = some j)) → w6.ownsRow 0 3 1 v' (so ++ [(x : Int)]).length ((so ++ [(x : Int)]).map (Value.int .i64)) → w6.ownsRow 0 3 1 (.slice A so.length c) so.length (so.map (Value.int .i64)) := fun R w6 hu6 hR h6 => by
        rcases hv' with ⟨g, cap, e1, e2⟩ | ⟨e1, hg0⟩
        · rw [e2, Hxl1.out, Hmp.out] at h6
          rw [e1]
          exact own_back h6
        · have hn5 : Upd (fun _ => False) Wd w5 := ((Upd.refl _ Wd).alloc _).grown hg0 (fun j hk => by cases hk)
          refine (OwnS.keep (S := fun j => (Value.slice A so.length c).ownBlock = some j) ⟨fun _ h => h, (OwnS.keep (S := fun _ => True) (R := fun _ => False) ⟨fun _ _ => trivial, hOd⟩ hn5 (fun _ _ e => e)).2⟩ hu6 (fun j hj e => ?_)).2
          rcases hR j e (hlt0 j hj) with e3 | e3
          · rw [e1, World.size_alloc] at e3
            injection e3 with e3
            have := hlt0 j hj
            omega
          · exact e3 hj
      have Hbk := Lib.hid hback
      have hO5 : w5.ownsRow 0 3 1 v' (so ++ [(x : Int)]).length ((so ++ [(x : Int)]).map (Value.int .i64)) := by rw [Hxl1.out, Hmp.out]; exact hown'
      have hrec := ih (so ++ [(x : Int)]) (orI s (powI x)) (lessI left (powI x)) v' (pre ++ post) D2 w5 Hxl.out Hstep.out Hpre2.out hO5 hj5 (by omega) (fun j e => by have := hD2 j e; omega)
        (fun j e => by
          rcases hvn j e with e | e
          · exact ⟨(hOv j e).1, (hOv j e).2.2⟩
          · exact ⟨by omega, fun e2 => by have := hD2 j e2; omega⟩)
        hA5 (fun e => hDb ((hD2 b e).2.2 hbl)) (fun e => by
          rcases hvn b e with e | e
          · exact hvb e
          · omega)
      clear hback hv' hg' hown' hjd hO5 hA5 hj5 hAd hOd
      refine hK.out _ _ (fun _ => hS5) ?_
      clear hK K'
      try simp only [Act.put, List.setIfInBounds_toArray, List.set_cons_zero, List.set_cons_succ]
      refine anyT_one (i := 7) (by kernel_rfl) rfl (fun K' hK => ?_)
      go_simp
      refine (without_any left (x : Int) _ (by omega) (by omega) (by omega) (by omega)).mono ?_
      rintro e wq ⟨rfl, rfl⟩
      refine hK.out _ _ (fun _ => hS5) ?_
      clear hK K'
      try simp only [Act.put, List.setIfInBounds_toArray, List.set_cons_zero, List.set_cons_succ]
      refine anyT_one (i := 9) (by kernel_rfl) rfl (fun K' hK => ?_)
      go_simp
      refine hrec.mono ?_
      have hU5 : Upd (fun j => M j ∨ D j ∨ (Value.slice A so.length c).ownBlock = some j) W0 w5 := (hU.trans' hbd (fun i hi e => e.elim)).trans' hu5 (fun i hi e => .inr (.inr e))
      have hV5 : Upd (fun j => (Value.slice A so.length c).ownBlock = some j) Wb w5 := (hbd.mono fun _ _ e => e.elim).trans' hu5 (fun i hi e => e)
      have hS6 : ∀ w6, Upd (fun j => M j ∨ D2 j ∨ v'.ownBlock = some j) w5 w6 → (fun w' : World => w'.heap[w.heap.size]? = some (.cells #[Value.slice (some ⟨b, 0, none⟩) n n, .map (some m)] 68 (0, 0)) ∧ w'.cell? ⟨w.heap.size + 1, 0, none⟩ = some (.slice A so.length c) ∧ w'.cell? ⟨w.heap.size + 1 + 1, 0, none⟩ = some (.int .i64 left) ∧ w'.cell? ⟨w.heap.size + 1 + 1 + 1, 0, none⟩ = some (.func (.yield l) #[] #[])) w6 ∧ Boxed w6 (w.heap.size + 1 + 1 + 1 + 1) 4 (.bool false) := fun w6 hu6 => by
        have hn : ∀ j, w.heap.size ≤ j → j < W0.heap.size → ¬ (M j ∨ D2 j ∨ v'.ownBlock = some j) := fun j h1 h2 e => by
          rcases e with e | e | e
          · have := hMb _ e; omega
          · rcases hp3 j e with e | e
            · have := hD _ e; omega
            · have := hD1 _ e; omega
          · rcases hvn _ e with e | e
            · have := hlt0 _ e; omega
            · omega
        exact ⟨⟨(hu6.block w.heap.size (by omega) (hn _ (by omega) (by omega))).trans hS5.1, hu6.cell hS5.2.1 (hn _ (by simp only; omega) (by simp only; omega)), hu6.cell hS5.2.2.1 (hn _ (by simp only; omega) (by simp only; omega)), hu6.cell hS5.2.2.2 (hn _ (by simp only; omega) (by simp only; omega))⟩, hu6.boxed bR5 (hn _ (by omega) (by omega))⟩
      have hU6 : ∀ w6, Upd (fun j => M j ∨ D2 j ∨ v'.ownBlock = some j) w5 w6 → Upd (fun j => M j ∨ D j ∨ (Value.slice A so.length c).ownBlock = some j) W0 w6 ∧ Upd (fun j => (M j ∨ D j ∨ (Value.slice A so.length c).ownBlock = some j ∨ j = w.heap.size + 1 + 1 + 1 + 1) ∨ D1 j ∨ W.heap.size ≤ j) Wb w6 := fun w6 hu6 => by
        refine ⟨hU5.trans' hu6 (fun i hi e => ?_), (hV5.mono fun i _ e => .inl (.inr (.inr (.inl e)))).trans' hu6 (fun i hi e => ?_)⟩
        · rcases e with e | e | e
          · exact .inl e
          · rcases hp3 i e with e | e
            · exact .inr (.inl e)
            · have := hD1 i e; omega
          · rcases hvn i e with e | e
            · exact .inr (.inr e)
            · omega
        · rcases e with e | e | e
          · exact .inl (.inl e)
          · rcases hp3 i e with e | e
            · exact .inl (.inr (.inl e))
            · exact .inr (.inl e)
          · rcases hvn i e with e | e
            · exact .inl (.inr (.inr (.inl e)))
            · omega
      have hD6 : ∀ (w6 : World) (D3 : Nat → Prop), (∀ j, D3 j → D2 j ∨ w5.heap.size ≤ j ∧ j < w6.heap.size) → ∀ j, D3 j → D j ∨ (D1 j ∨ W.heap.size ≤ j ∧ j < w6.heap.size) := fun w6 D3 h j e => by
        rcases h j e with e | e
        · rcases hp3 j e with e | e
          · exact .inl e
          · exact .inr (.inl e)
        · exact .inr (.inr ⟨by omega, e.2⟩)
      rintro e w6 (⟨rfl, post2, D3, hq1, hj6, hu6, hD3, hO6⟩ | ⟨rfl, post2, D3, hq1, hj6, hu6, hD3⟩)
      · have hb6 := Hbk.out _ _ hu6 (fun j e hjl => by
          rcases e with e | e | e
          · right; intro e2; have := hMb _ e; have := hOv _ e2; omega
          · right; intro e2; exact (hOv _ e2).2.2 e
          · left; exact e) hO6
        obtain ⟨hS7, bR7⟩ := hS6 _ hu6
        obtain ⟨hU7, hV7⟩ := hU6 _ hu6
        have hD7 := hD6 _ _ hD3
        have hz6 := hu6.size
        refine hK.out _ _ (fun _ => hS7) ?_
        clear hK K'
        try simp only [Act.put, List.setIfInBounds_toArray, List.set_cons_zero, List.set_cons_succ]
        refine anyT_one (i := 10) (by kernel_rfl) rfl (fun K' hK => ?_)
        go_simp
        refine hK.out _ _ (fun h => absurd rfl h) ?_
        clear hK K'
        try simp only [Act.put, List.setIfInBounds_toArray, List.set_cons_zero, List.set_cons_succ]
        refine anyT_done (by kernel_rfl) ?_ _
        gi_wp2
        refine ⟨fun j => D1 j ∨ W.heap.size ≤ j ∧ j < w6.heap.size, ⟨post ++ post2, D3, by rw [List.map_append, Hp1.out, hq1, Hsn.out], by rw [← List.append_assoc]; exact hj6, hD7, hb6, hU7⟩, hV7, fun j e => e⟩
      · obtain ⟨hS7, bR7⟩ := hS6 _ hu6
        obtain ⟨hU7, hV7⟩ := hU6 _ hu6
        have hD7 := hD6 _ _ hD3
        have hz6 := hu6.size
        refine hK.out _ _ (fun _ => hS7) ?_
        clear hK K'
        try simp only [Act.put, List.setIfInBounds_toArray, List.set_cons_zero, List.set_cons_succ]
        refine anyT_one (i := 10) (by kernel_rfl) rfl (fun K' hK => ?_)
        go_simp
        refine hK.out _ _ (fun h => absurd rfl h) ?_
        clear hK K'
        try simp only [Act.put, List.setIfInBounds_toArray, List.set_cons_zero, List.set_cons_succ]
        refine anyT_done (by kernel_rfl) ?_ _
        have hcR7 := bR7.cell
        have hfR7 := bR7.frozen
        gi_wp2
        have hus : Upd (fun j => j = w.heap.size + 1 + 1 + 1 + 1) w6 (w6.setCell ⟨w.heap.size + 1 + 1 + 1 + 1, 0, none⟩ (.bool false)) := (Upd.refl (fun j => j = w.heap.size + 1 + 1 + 1 + 1) w6).setCell (p := ⟨w.heap.size + 1 + 1 + 1 + 1, 0, none⟩) (.inr rfl) _
        have hz8 := hus.size
        have hnD3 : ¬ D3 (w.heap.size + 1 + 1 + 1 + 1) := fun e => by
          rcases hD3 _ e with e | e
          · rcases hp3 _ e with e | e
            · have := hD _ e; omega
            · have := hD1 _ e; omega
          · omega
        refine ⟨fun j => D1 j ∨ W.heap.size ≤ j ∧ j < w6.heap.size, ⟨rfl, post ++ post2, D3, by rw [← List.append_assoc]; exact hq1, by rw [← List.append_assoc]; exact hJx _ _ _ _ hj6 (hus.mono fun j _ e => ⟨by omega, fun e2 => hnD3 (by rw [← e]; exact e2)⟩), hD7, bR7.set _, ?_⟩, ?_, fun j e => e.elim .inl (fun e => .inr ⟨e.1, by omega⟩)⟩
        · exact (hU7.mono (S := fun j => M j ∨ D j ∨ (Value.slice A so.length c).ownBlock = some j ∨ j = w.heap.size + 1 + 1 + 1 + 1) fun i _ e => by
            rcases e with e | e | e
            · exact .inl e
            · exact .inr (.inl e)
            · exact .inr (.inr (.inl e))).trans' hus (fun i hi e => .inr (.inr (.inr e)))
        · exact hV7.trans' hus (fun i hi e => .inl (.inr (.inr (.inr e))))
    case done =>
      rintro d D1 W hd ⟨post, D2, hp1, hj2, hp3, hO2, hU⟩ hD1 hKd
      rw [Hnx.out, alX_all] at hp1
      have zb := hU.size
      have hno : ∀ j, w.heap.size ≤ j → j < W0.heap.size → ¬ (M j ∨ D j ∨ (Value.slice A so.length c).ownBlock = some j) := fun j h1 h2 e => by
        rcases e with e | e | e
        · have := hMb _ e; omega
        · have := hD _ e; omega
        · have := hlt0 _ e; omega
      have bRb := hU.boxed bRs0 (hno _ (by omega) (by omega))
      have hcR := bRb.cell
      have hfR := bRb.frozen
      have hdl := (Array.getElem?_eq_some_iff.1 hKd).1
      have Hp1 := Lib.hid hp1
      clear hp1
      gi_wp2
      have hus : Upd (fun j => j = w.heap.size + 1 + 1 + 1 + 1) W (W.setCell ⟨w.heap.size + 1 + 1 + 1 + 1, 0, none⟩ (.bool true)) := (Upd.refl (fun j => j = w.heap.size + 1 + 1 + 1 + 1) W).setCell (p := ⟨w.heap.size + 1 + 1 + 1 + 1, 0, none⟩) (.inr rfl) _
      have hz8 := hus.size
      refine leaves_marks [d] _ ⟨by simp, fun b hb => ?_⟩ (fun W' hu' => ?_)
      · rw [List.mem_singleton.1 hb]
        exact (hus.block d hdl (by omega)).trans hKd
      · have hz9 := hu'.size
        have hu9 : Upd (fun j => j = w.heap.size + 1 + 1 + 1 + 1 ∨ j = d) W W' := (hus.mono fun i _ e => .inl e).trans' hu' (fun i hi e => by simp at e; exact .inr e)
        have hc' := (hu'.boxed (bRb.set (.bool true)) (by simp; omega)).cell
        have hn9 : ∀ j, j = w.heap.size + 1 + 1 + 1 + 1 ∨ j = d → w.heap.size ≤ j ∧ ¬ D2 j := fun j e => ⟨by omega, fun e2 => by
          rcases hp3 j e2 with e3 | e3
          · have := hD j e3; omega
          · have := hD1 j e3; omega⟩
        refine ⟨.bool true, by simp [results, Try.f107, go_sem, hc'], .inl ⟨rfl, post, D2, Hp1.out, hJ _ _ _ _ hj2 (hu9.mono fun j _ e => ⟨by have := hn9 j e; omega, (hn9 j e).2⟩), ?_, fun j e => ?_, ?_⟩⟩
        · exact ((hU0.mono fun _ _ e => e.elim).trans' hU (fun i hi e => e)).trans' hu9 (fun i hi e => by have := hn9 i e; omega)
        · rcases hp3 j e with e | e
          · exact .inl e
          · have := hD1 j e
            exact .inr ⟨by omega, by omega⟩
        · exact (OwnS.keep (S := fun j => (Value.slice A so.length c).ownBlock = some j) ⟨fun _ h => h, hO2⟩ hu9 (fun j hj e => by have := hn9 j e; have := hlt0 j hj; omega)).2
    case stop =>
      rintro d D1 co xs W hd hxs ⟨rfl, post, D2, hp1, hj2, hp3, bR2, hU⟩ hD1 hKd
      have zb := hU.size
      have hdl := (Array.getElem?_eq_some_iff.1 hKd).1
      have Hp1 := Lib.hid hp1
      clear hp1
      gi_wp2
      refine leaves_marks [d] _ ⟨by simp, fun b hb => ?_⟩ (fun W' hu' => ?_)
      · rw [List.mem_singleton.1 hb]
        exact hKd
      · have hz9 := hu'.size
        have hc' := (hu'.boxed bR2 (by simp; omega)).cell
        have hu9 : Upd (fun j => j = d) W W' := hu'.mono fun i hi e => by simpa using e
        refine ⟨.bool false, by simp [results, Try.f107, go_sem, hc'], .inr ⟨rfl, post, D2, Hp1.out, hJx _ _ _ _ hj2 (hu9.mono fun j _ e => ⟨by omega, fun e2 => by
          rcases hp3 j e2 with e3 | e3
          · have := hD j e3; omega
          · have := hD1 j e3; omega⟩), ?_, fun j e => ?_⟩⟩
        · exact ((hU0.mono fun _ _ e => e.elim).trans' hU (fun i hi e => by
            rcases e with e | e | e | e
            · exact .inl e
            · exact .inr (.inl e)
            · exact .inr (.inr e)
            · omega)).trans' hu9 (fun i hi e => by omega)
        · rcases hp3 j e with e | e
          · exact .inl e
          · have := hD1 j e
            exact .inr ⟨by omega, by omega⟩
end Go.Proofs.Ytghogabmkbadjaa

/- The program's lines: the iterator. -/
namespace Go.Proofs.Ytghogabmkbadjaa
open Go.RowKit Go.Shelf
attribute [local go_sem] Oper.semAt_some
attribute [local go_sem, local simp] wide_fn

theorem lines_any (q n c : Nat) (w : World) :
    Calls Try.prog 103 #[.slice (some ⟨q, 0, none⟩) n c] w fun e w' => e = .returned (.func (.func 106) #[] #[.pointer (some ⟨w.heap.size, 0, none⟩)]) ∧ w' = w.alloc (.cells #[.slice (some ⟨q, 0, none⟩) n c] 44) := by
  go_enter Try.func103, Try.ntmps103
  go_wp2
  go_ret
  exact ⟨rfl, rfl⟩

set_option maxRecDepth 100000 in
set_option maxHeartbeats 4000000 in
theorem lines_iter (zs : List Int) (hvo : VoP zs) (q n c : Nat) (hlen0 : zs.length = n) (o : Nat) (M : Nat → Prop) (w : World) (bO : Boxed w o 44 (.slice (some ⟨q, 0, none⟩) n c)) (hA : Arr w q 59 zs) (hMb : ∀ k, M k → k < w.heap.size) :
    IterG Try.prog 106 #[.pointer (some ⟨o, 0, none⟩)] lnEnc lnOwn lnHas (lnUp zs) (lnFull zs) M w := fun l J Jx hJ hJx hY h0 => by
  have hlen := Lib.hid hlen0
  have hn6 : n ≤ 6 := by have := hvo.1; rw [hlen0] at this; exact this
  clear hlen0
  have hol := bO.lt
  have hql := hA.lt
  have HY : LnYield l w.heap.size zs M J Jx := hY
  go_enter Try.func106, Try.ntmps106
  go_wp2
  refine region_T (S := fun w' => w'.cell? ⟨o, 0, none⟩ = some (.slice (some ⟨q, 0, none⟩) n c)) 5 (by kernel_rfl) ?_
  obtain ⟨Wd, hWd⟩ : ∃ Wd, w.drew = Wd := ⟨_, rfl⟩
  have hbd : Upd (fun _ => False) w Wd := by rw [← hWd]; exact (Upd.refl _ w).drew
  have hsd : w.heap.size ≤ Wd.heap.size := hbd.size
  rw [hWd]
  clear hWd
  have bOd := hbd.boxed bO (fun e => e)
  have hAd := hA.upd hbd (fun e => e)
  have hjd := hJ _ _ _ _ h0 (hbd.mono fun _ _ e => e.elim)
  have hSd : (fun w' : World => w'.cell? ⟨o, 0, none⟩ = some (.slice (some ⟨q, 0, none⟩) n c)) Wd := bOd.cell
  refine anyT_take (i := 0) (oi := ?oi0a) (v := .slice (some ⟨q, 0, none⟩) n c) ?hi0a (by kernel_rfl) ?hq0a ?hy0a (by assumption) ?rest0a
  case hi0a => (simp only [List.getElem?_toArray, List.getElem?_cons_zero]; first | done | rfl)
  case hq0a => first | exact fun _ _ _ h => h | exact fun _ _ _ h => (by cases h.1)
  case hy0a => (refine Or.inl ⟨by rfl, ?_⟩; intro wz hSw; go_simp; first | done | with_reducible rfl | simp | omega)
  try simp only [Act.put, List.setIfInBounds_toArray, List.set_cons_zero, List.set_cons_succ]
  refine anyT_take (i := 2) (oi := ?oi2a) (v := .slice (some ⟨q, 0, none⟩) n c) ?hi2a (by kernel_rfl) ?hq2a ?hy2a (by assumption) ?rest2a
  case hi2a => (simp only [List.getElem?_toArray, List.getElem?_cons_succ, List.getElem?_cons_zero]; first | done | rfl)
  case hq2a => first | exact fun _ _ _ h => h | exact fun _ _ _ h => (by cases h.1)
  case hy2a => (refine Or.inl ⟨by rfl, ?_⟩; intro wz hSw; go_simp; first | done | with_reducible rfl | simp | omega)
  try simp only [Act.put, List.setIfInBounds_toArray, List.set_cons_zero, List.set_cons_succ]
  refine anyT_take (i := 4) (oi := ?oi4a) (v := .func (.yield l) #[] #[]) ?hi4a (by kernel_rfl) ?hq4a ?hy4a (by assumption) ?rest4a
  case hi4a => (simp only [List.getElem?_toArray, List.getElem?_cons_succ, List.getElem?_cons_zero]; first | done | rfl)
  case hq4a => first | exact fun _ _ _ h => h | exact fun _ _ _ h => (by cases h.1)
  case hy4a => (refine Or.inl ⟨by rfl, ?_⟩; intro wz hSw; go_simp; first | done | with_reducible rfl | simp | omega)
  try simp only [Act.put, List.setIfInBounds_toArray, List.set_cons_zero, List.set_cons_succ]
  refine anyT_one (i := 1) (by kernel_rfl) rfl (fun K' hK => ?_)
  go_simp
  refine (lineup_any _ n _ zs hvo.sets _ (hAd.ints' hAd.lt hlen.out)).mono ?_
  rintro e w2 ⟨b, m, rfl, hA2, hm2, hb2, -, -, hB2⟩
  have hz2 := hB2.size
  have hu2 : Upd (fun _ => False) Wd w2 := (Upd.refl _ Wd).below hB2 (fun k h1 h2 => by omega)
  have hS2 : (fun w' : World => w'.cell? ⟨o, 0, none⟩ = some (.slice (some ⟨q, 0, none⟩) n c)) w2 := (hu2.boxed bOd (fun e => e)).cell
  refine hK.out _ _ (fun _ => hS2) ?_
  clear hK K'
  try simp only [Act.put, List.setIfInBounds_toArray, List.set_cons_zero, List.set_cons_succ]
  refine anyT_one (i := 3) (by kernel_rfl) rfl (fun K' hK => ?_)
  go_simp
  refine (oall_any _ n c w2 hn6).mono ?_
  rintro e wq ⟨rfl, rfl⟩
  refine hK.out _ _ (fun _ => hS2) ?_
  clear hK K'
  try simp only [Act.put, List.setIfInBounds_toArray, List.set_cons_zero, List.set_cons_succ]
  refine anyT_one (i := 5) (by kernel_rfl) rfl (fun K' hK => ?_)
  go_simp
  refine (tell_any zs hvo n hlen.out b m l w.heap.size M J Jx hJ hJx HY hMb (by omega) n [] 0 (powI n - 1) (.slice none 0 0) [] (fun _ => False) w2 (by simp) (lft_start hn6) (by
      show alG zs n [] 0 <+: alL zs
      unfold alL
      rw [hlen.out]
      exact List.prefix_refl _) (World.ownsRow_nil _ _ _ _) (hJ _ _ _ _ hjd (hu2.mono fun _ _ e => e.elim)) (by omega) (fun j e => e.elim) (fun j e => (by simp [Value.ownBlock] at e)) hA2 (fun e => e) (by simp [Value.ownBlock])).mono ?_
  rintro e w3 (⟨rfl, post, D', hp1, hj3, -⟩ | ⟨rfl, post, D', hp1, hj3, -⟩)
  · refine hK.out _ _ (fun h => absurd rfl h) ?_
    clear hK K'
    try simp only [Act.put, List.setIfInBounds_toArray, List.set_cons_zero, List.set_cons_succ]
    refine anyT_done (by kernel_rfl) ?_ _
    go_wp2
    go_end0
    exact ⟨⟨_, rfl⟩, .inl ⟨post, by unfold lnFull; rw [hp1]; unfold alL; rw [hlen.out], D', hj3⟩⟩
  · refine hK.out _ _ (fun h => absurd rfl h) ?_
    clear hK K'
    try simp only [Act.put, List.setIfInBounds_toArray, List.set_cons_zero, List.set_cons_succ]
    refine anyT_done (by kernel_rfl) ?_ _
    go_wp2
    go_end0
    exact ⟨⟨_, rfl⟩, .inr ⟨post, hp1, D', hj3⟩⟩
end Go.Proofs.Ytghogabmkbadjaa

/- slices.AppendSeq and Collect over an iterator of lines. -/
namespace Go.Proofs.Ytghogabmkbadjaa
open Go.RowKit Go.Shelf
attribute [local go_sem] Oper.semAt_some
attribute [local go_sem, local simp] wide_fn

/-- How many lines there are at most. -/
theorem alG_count (zs : List Int) : ∀ (k : Nat) (so : List Int) (s : Int), zs.length ≤ 6 → (alG zs k so s).length ≤ 6 ^ k
  | 0, so, s, _ => by simp [alG]
  | k + 1, so, s, h => by
    rw [← alX_all]
    unfold alX
    have h1 : (nxA zs s).length ≤ 6 := by
      unfold nxA
      have := List.length_filter_le (fun a : Nat => stA2 zs s a) (List.range zs.length)
      rw [List.length_range] at this
      omega
    have h2 : ∀ l : List Nat, (l.flatMap fun a : Nat => alG zs k (so ++ [(a : Int)]) (orI s (powI a))).length ≤ l.length * 6 ^ k := fun l => by
      induction l with
      | nil => simp
      | cons a l ih =>
        have := alG_count zs k (so ++ [(a : Int)]) (orI s (powI a)) h
        rw [List.flatMap_cons, List.length_append, List.length_cons, Nat.add_mul]
        omega
    refine Nat.le_trans (h2 _) ?_
    rw [Nat.pow_succ, Nat.mul_comm]
    exact Nat.mul_le_mul_left _ h1
theorem alL_count {zs : List Int} (h : zs.length ≤ 6) : (alL zs).length ≤ 46656 := by
  have h1 := alG_count zs zs.length [] 0 h
  have h2 : 6 ^ zs.length ≤ 6 ^ 6 := Nat.pow_le_pow_right (by omega) h
  unfold alL
  exact Nat.le_trans h1 h2
theorem tot_const {m : Nat} : ∀ rs : List (List Int), (∀ r ∈ rs, r.length = m) → tot rs = rs.length * m
  | [], _ => by simp [tot]
  | r :: rs, h => by
    have := tot_const rs fun r hr => h r (List.mem_cons_of_mem _ hr)
    rw [tot, this, h r List.mem_cons_self, List.length_cons, Nat.add_mul]
    omega
theorem alL_rows {zs : List Int} : ∀ r ∈ alL zs, r.length = zs.length := fun r hr => by
  have := alG_len zs _ _ _ r hr
  simpa using this
theorem alL_tot {zs : List Int} (h : zs.length ≤ 6) : tot (alL zs) ≤ 1048576 := by
  rw [tot_const _ alL_rows]
  have := Nat.mul_le_mul (alL_count h) h
  omega

/-- All lines of an order of few items; no lines of others. -/
def linesOfR (zs : List Int) : List (List Int) := if vo zs && decide (zs.length ≤ 5) then alL zs else []
end Go.Proofs.Ytghogabmkbadjaa

/- All lines: the model's. -/
namespace Go.Proofs.Ytghogabmkbadjaa
open Go.RowKit Go.Shelf

/-- Rows appended to rows. -/
theorem LnRows.app {S S' : Nat → Prop} {w w' : World} {v v2 v' : Value} {L L2 : List Ln} {z : Nat} (h : LnRows S w v L) (hz1 : ∀ k, v.ownBlock = some k → k < z) (hz2 : ∀ x ∈ L, ∀ k, lnOwn x k → k < z) (h2 : LnRows (fun k => z ≤ k) w v2 L2)
    (hown : w'.ownsRow 0 22 1 v' (L.length + L2.length) (L.map Prod.snd ++ L2.map Prod.snd)) (hg : w.grownBy w' v.ownBlock) (hv : v'.ownBlock = v.ownBlock ∨ v'.ownBlock = some w.heap.size)
    (hS : ∀ k, S k → S' k) (hS2 : ∀ k, z ≤ k → S' k) (hzw : z ≤ w.heap.size) : LnRows S' w' v' (L ++ L2) := by
  have hu : Upd (fun k => v.ownBlock = some k) w w' := (Upd.refl _ w).grown hg (fun k e => .inr e)
  have hl := h.lt
  have hl2 := h2.lt
  have hn : ∀ k, v'.ownBlock = some k → (v.ownBlock = some k) ∨ k = w.heap.size := fun k e => by
    rcases hv with e2 | e2
    · exact .inl (e2 ▸ e)
    · rw [e2] at e; injection e with e; exact .inr e.symm
  refine ⟨by rw [List.length_append, List.map_append]; exact hown, fun y hy => ?_, fun y hy k hk e => ?_, ?_, fun k e => ?_, fun y hy k hk => ?_⟩
  · rcases List.mem_append.1 hy with hy | hy
    · exact lnHas_keep (h.has y hy) hu (fun k hk e => h.apart y hy k hk e)
    · exact lnHas_keep (h2.has y hy) hu (fun k hk e => by have := h2.inS.2 y hy k hk; have := hz1 k e; omega)
  · rcases hn k e with e2 | e2
    · rcases List.mem_append.1 hy with hy | hy
      · exact h.apart y hy k hk e2
      · have := h2.inS.2 y hy k hk; have := hz1 k e2; omega
    · rcases List.mem_append.1 hy with hy | hy
      · have := hl.2 y hy k hk; omega
      · have := hl2.2 y hy k hk; omega
  · rw [List.pairwise_append]
    refine ⟨h.pair, h2.pair, fun y hy x hx k hk hk2 => ?_⟩
    have := h2.inS.2 x hx k hk2
    have := hz2 y hy k hk
    omega
  · rcases hn k e with e2 | e2
    · exact hS k (h.inS.1 k e2)
    · exact hS2 k (by omega)
  · rcases List.mem_append.1 hy with hy | hy
    · exact hS k (h.inS.2 y hy k hk)
    · exact hS2 k (h2.inS.2 y hy k hk)
theorem st_true {zs : List Int} {s : Int} {a : Nat} (h : a < zs.length) (h1 : bitB s (a : Int) = false) (h2 : lessI ((du zs)[a]?.getD 0) s = 0) : stA2 zs s a = true := by
  unfold stA2
  rw [h1, Int.toNat_natCast, h2]
  simp [inB]; omega
theorem st_bit {zs : List Int} {s : Int} {a : Nat} (h1 : bitB s (a : Int) = true) : stA2 zs s a = false := by
  unfold stA2; rw [h1]; simp
theorem st_less {zs : List Int} {s : Int} {a : Nat} (h2 : lessI ((du zs)[a]?.getD 0) s ≠ 0) : stA2 zs s a = false := by
  unfold stA2; rw [Int.toNat_natCast]; simp [h2]
/-- The items up to one that may be next. -/
def nxUp (zs : List Int) (s : Int) (k : Nat) : List Nat := (List.range k).filter fun a => stA2 zs s a
theorem nxUp_yes {zs : List Int} {s : Int} {a : Nat} (h : stA2 zs s a = true) : nxUp zs s (a + 1) = nxUp zs s a ++ [a] := by simp [nxUp, List.range_succ, h]
theorem nxUp_no {zs : List Int} {s : Int} {a : Nat} (h : stA2 zs s a = false) : nxUp zs s (a + 1) = nxUp zs s a := by simp [nxUp, List.range_succ, h]

theorem LnRows.later {S R : Nat → Prop} {w w' : World} {v : Value} {L : List Ln} (h : LnRows S w v L) (hu : Upd R w w') (hR : ∀ k, R k → w.heap.size ≤ k) : LnRows S w' v L := by
  have hl := h.lt
  have h1 : LnRows (fun k => k < w.heap.size) w v L := ⟨h.own, h.has, h.apart, h.pair, hl.1, hl.2⟩
  have h2 := h1.keep hu (fun k hk e => by have := hR k e; omega)
  exact ⟨h2.own, h2.has, h.apart, h.pair, h.inS⟩
theorem nxUp_pre (zs : List Int) (s : Int) {a : Nat} (h : a ≤ zs.length) : nxUp zs s a <+: nxA zs s := by
  unfold nxUp nxA
  obtain ⟨t, e⟩ : List.range a <+: List.range zs.length := by
    obtain ⟨d, hd⟩ := Nat.exists_eq_add_of_le h
    rw [hd, List.range_add]
    exact List.prefix_append _ _
  rw [← e, List.filter_append]
  exact List.prefix_append _ _
theorem alG_bd {zs : List Int} (h : zs.length ≤ 6) {k : Nat} (hk : k ≤ 6) (so : List Int) (s : Int) : (alG zs k so s).length ≤ 46656 := by
  have h1 := alG_count zs k so s h
  have h2 : 6 ^ k ≤ 6 ^ 6 := Nat.pow_le_pow_right (by omega) hk
  exact Nat.le_trans h1 h2

set_option maxRecDepth 100000 in
set_option maxHeartbeats 4000000 in
theorem allLines_any (zs : List Int) (hvo : VoP zs) (n : Nat) (hlen0 : zs.length = n) (A A' : Option Addr) (c c' : Nat) : ∀ (k : Nat) (so : List Int) (s : Int) (g cg : Nat) (w : World), so.length + k = n → 0 ≤ s → s < powI n → Ints w w.heap.size A n zs → Ints w w.heap.size A' n (du zs) → w.ownsRow 0 3 1 (.slice (some ⟨g, 0, none⟩) so.length cg) so.length (so.map (Value.int .i64)) →
    Calls Try.prog 78 #[.slice A n c, .slice A' n c', .slice (some ⟨g, 0, none⟩) so.length cg, .int .i64 s] w fun e w' => ∃ v g' c', e = .returned v ∧ (∃ L, v = .slice (some ⟨g', 0, none⟩) L.length c' ∧ L.map Prod.fst = alG zs k so s ∧ LnRows (fun j => w.heap.size ≤ j) w' v L) ∧ Below w.heap.size w w'
  | 0, so, s, g, cg, w, hk, hs0, hs1, hA, hA', hO => by
    have hn6 : n ≤ 6 := by have := hvo.1; rw [hlen0] at this; exact this
    obtain ⟨i0, hi0, hz0, hz1, hz2⟩ := info_parts infoInt
    have hcell := (own_cells hO).2
    have hgl := own_lt' hO g rfl
    have hsn : so.length = n := by omega
    have hso : so.length ≤ 6 := by omega
    have heq : ((so.length : Int) == (n : Int)) = true := by simp only [beq_iff_eq]; omega
    clear hsn hk
    go_enter Try.func78, Try.ntmps78
    have hown := own_new w 3
    have hU1 : Upd (fun _ => False) w (w.alloc (.cells #[] 3)) := (Upd.refl _ w).alloc _
    have hz1' : (w.alloc (.cells #[] 3)).heap.size = w.heap.size + 1 := by simp
    have hnews : ∀ j u, (so.map (Value.int .i64))[j]? = some u → (w.alloc (.cells #[] 3)).cell? ((⟨g, 0, none⟩ : Addr).add j) = some u := news_at hcell (hU1.mono (S := fun k => w.heap.size ≤ k) (fun _ _ e => e.elim)) hgl (fun j hj => addr_add3 ..) (fun j hj => by rw [Nat.zero_add]) (by omega)
    go_wp2_with (at_builtin; refine wpList_appendK _ rfl (.tmp 16) (.tmp 17) _ rfl w.heap.size 3 i0 _ 8 Try.underlying22 hi0 hz0 hz1 hz2 rfl _ 0 [] rfl hown ⟨g, 0, none⟩ so.length cg _ rfl (by rw [List.length_map]) hnews (fun u hu => by obtain ⟨z, _, rfl⟩ := List.mem_map.1 hu; rfl) (by simp [maxLen]; omega) (by omega) (by simp) ?_; intro v' w1 hown' hg'; rw [Nat.zero_add, List.nil_append] at hown'; obtain ⟨A1, c1, rfl, -, -⟩ := ints_of_own_at hown')
    go_ret
    have zg := hg'.size
    simp at zg
    have hUw : Upd (fun _ => False) w w1 := hU1.grown hg' (fun k hk => by simp [Value.ownBlock, Act.eval] at hk; exact .inl (by omega))
    have hge := own_ge hown'
    refine ⟨_, w1.heap.size, 1, rfl, ⟨[(so, .slice A1 so.length c1)], rfl, rfl, ?_⟩, (hUw.alloc _).toBelow (B := w.heap.size) (fun _ e => e.elim) (Nat.le_refl _)⟩
    refine ⟨⟨rfl, .inr ⟨w1.heap.size, 1, #[.slice A1 so.length c1], rfl, by omega, heap_alloc_new w1 _, Nat.le_refl _, by simp [maxLen], rfl, rfl⟩⟩, fun x hx => ?_, fun x hx k hk e => ?_, List.pairwise_singleton _ _, fun k e => ?_, fun x hx k hk => ?_⟩
    · rw [List.mem_singleton.1 hx]
      exact own_sooner (hown'.alloc _) (Nat.zero_le _)
    · rw [List.mem_singleton.1 hx] at hk
      have := own_lt' hown' k hk
      simp [Value.ownBlock] at e
      omega
    · simp [Value.ownBlock] at e
      omega
    · rw [List.mem_singleton.1 hx] at hk
      exact hge k hk
  | k + 1, so, s, g, cg, w, hk, hs0, hs1, hA, hA', hO => by
    have ih := allLines_any zs hvo n hlen0 A A' c c' k
    have hn6 : n ≤ 6 := by have := hvo.1; rw [hlen0] at this; exact this
    have hlen := Lib.hid hlen0
    have hds := du_sets hvo.sets
    have Hdl := Lib.hid (show (du zs).length = n by rw [du_len, hlen.out])
    have hp64 := powI_le6 (n := (n : Int)) (by omega)
    obtain ⟨i0, hi0, hz0, hz1, hz2⟩ := info_parts infoInt
    obtain ⟨i3, hi3, hz30, hz31, hz32⟩ := info_parts infoRow
    have Hcell := Lib.hid (own_cells hO).2
    have hgl := own_lt' hO g rfl
    have hso : so.length ≤ 5 := by omega
    have hne : ((so.length : Int) == (n : Int)) = false := by simp; omega
    have Hk := Lib.hid hk
    clear hlen0 hk
    go_enter Try.func78, Try.ntmps78
    go_wp2_with fail
    have hown0 := own_new w 22
    have hU0 : Upd (fun _ => False) w (w.alloc (.cells #[] 22)) := (Upd.refl _ w).alloc _
    have hz0' : (w.alloc (.cells #[] 22)).heap.size = w.heap.size + 1 := by simp
    obtain ⟨W0, hW0⟩ : ∃ W0, w.alloc (.cells #[] 22) = W0 := ⟨_, rfl⟩
    rw [hW0] at hown0 hU0 hz0' ⊢
    clear hW0
    have hstart : LnRows (fun j => w.heap.size ≤ j) W0 (.slice (some ⟨w.heap.size, 0, none⟩) 0 0) [] := ⟨own_sooner hown0 (Nat.zero_le _), fun _ h => by simp at h, fun _ h => by simp at h, List.Pairwise.nil, fun k h => by simp [Value.ownBlock] at h; omega, fun _ h => by simp at h⟩
    clear hown0 hz0'
    go_loopw [9, 10] (fun out i wr => ∃ (a : Nat) (L : List Ln) (g' cc : Nat), a ≤ n ∧ i = .int .i64 a ∧ out = .slice (some ⟨g', 0, none⟩) L.length cc ∧ L.map Prod.fst = alX zs k so s (nxUp zs s a) ∧ LnRows (fun j => w.heap.size ≤ j) wr out L ∧ Below w.heap.size w wr) (fun _ i _ => n - (intOf i).toNat)
    case atStart => exact ⟨0, [], w.heap.size, 0, by omega, rfl, rfl, rfl, hstart, hU0.toBelow (B := w.heap.size) (fun _ e => e.elim) (Nat.le_refl _)⟩
    case round =>
      obtain ⟨a, L, g', cc, ha, rfl, rfl, hL, hR, hB⟩ := hrel
      have zr := hB.size
      by_cases hlt : a < n
      · have HR := Lib.hid hR
        have HL := Lib.hid hL
        clear hR hL
        have iA := hA.to hB (Nat.le_refl _) zr
        have iA' := hA'.to hB (Nat.le_refl _) zr
        have HiA := Lib.hid iA
        have HiA' := Lib.hid iA'
        obtain ⟨b3, off3, e3, hb3, hc3⟩ := iA'.at_ hlt
        cases e3
        have hdk := hc3 a hlt
        have hdb := hds.2 a (by rw [Hdl.out]; exact hlt)
        rw [Hdl.out] at hdb
        have hpk : powI (a : Int) < powI (n : Int) := powI_lt hlt
        have hpp := powI_pos (a : Int)
        have Hst := Lib.hid (fun (h1 : bitB s (a : Int) = false) (h2 : lessI ((du zs)[a]?.getD 0) s = 0) => st_true (zs := zs) (by rw [hlen.out]; exact hlt) h1 h2)
        have Hsl := Lib.hid (fun (h2 : lessI ((du zs)[a]?.getD 0) s ≠ 0) => st_less (zs := zs) (s := s) (a := a) h2)
        clear hc3 iA iA'
        cases hb : bitB s (a : Int)
        · have hbi : (bitI s (a : Int) == 0) = true := by rw [bitI_false hb]; rfl
          by_cases hl : lessI ((du zs)[a]?.getD 0) s = 0
          · have Hs := Lib.hid (Hst.out hb hl)
            have hbl := bits_less (a := (du zs)[a]?.getD 0) (b := s) hdb.1 (by omega) hs0 (by omega)
            rw [hl] at hbl
            have hor := orI_bd hs0 hs1 (Int.le_of_lt hpp) hpk
            have Hor := Lib.hid (bits_or (a := s) (b := powI a) hs0 (by omega) (Int.le_of_lt hpp) (by omega))
            clear hl hb Hst Hsl
            generalize (du zs)[a]?.getD 0 = d at *
            have hLl := HR.out.lt
            have hgL := hLl.1 g' rfl
            have hLc : L.length ≤ 46656 := by
              have h1 := congrArg List.length HL.out
              rw [List.length_map] at h1
              have h2 := (alX_pre zs k so s (nxUp_pre zs s (a := a) (by rw [hlen.out]; exact ha))).length_le
              have h3 := alG_bd (zs := zs) (by rw [hlen.out]; exact hn6) (k := k + 1) (by have := Hk.out; omega) so s
              omega
            have hown := own_new wr 3
            have hU1 : Upd (fun _ => False) wr (wr.alloc (.cells #[] 3)) := (Upd.refl _ wr).alloc _
            have hcellr : ∀ j, j < so.length → wr.cell? ⟨g, j, none⟩ = some (.int .i64 (so[j]?.getD 0)) := fun j hj => (Below.toUpd hB).cell (Hcell.out j hj) (by simp only; omega)
            have hnews : ∀ j u, (so.map (Value.int .i64))[j]? = some u → (wr.alloc (.cells #[] 3)).cell? ((⟨g, 0, none⟩ : Addr).add j) = some u := news_at hcellr (hU1.mono (S := fun k => w.heap.size ≤ k) (fun _ _ e => e.elim)) (by omega) (fun j hj => addr_add3 ..) (fun j hj => by rw [Nat.zero_add]) (by omega)
            have Hnews := Lib.hid hnews
            clear hnews hcellr
            go_wp2_with (first
              | (go_at_call 70; refine (bit_any _ _ _ (by omega) (by omega) (by omega) (by omega)).mono ?_; rintro e w' ⟨rfl, rfl⟩)
              | (go_at_call 69; refine (power_any _ _ (by omega) (by omega)).mono ?_; rintro e w' ⟨rfl, rfl⟩)
              | (at_builtin; refine wpList_appendK _ rfl (.tmp 43) (.tmp 44) _ rfl wr.heap.size 3 i0 _ 8 Try.underlying22 hi0 hz0 hz1 hz2 rfl _ 0 [] rfl hown ⟨g, 0, none⟩ so.length cg _ rfl (by rw [List.length_map]) Hnews.out (fun u hu => by obtain ⟨z, _, rfl⟩ := List.mem_map.1 hu; rfl) (by simp [maxLen]; omega) (by omega) (by simp) ?_; intro v1 w1 hown1 hg1; rw [Nat.zero_add, List.nil_append] at hown1; obtain ⟨A1, c1, rfl, -, -⟩ := ints_of_own_at hown1)
              | (at_builtin; refine wpList_append1 _ rfl (.tmp 45) (.tmp 47) _ rfl wr.heap.size 3 i0 _ 8 Try.underlying22 hi0 hz0 hz1 hz2 rfl _ so.length _ rfl (hown1.alloc _) w1.heap.size 1 (.int .i64 (a : Int)) rfl (cell_new _ _ _) rfl (by omega) (by omega) (by have := hg1.size; simp at this; simp; omega) ?_; rintro v2 w2 hown2 hg2 hv2; obtain ⟨g2, cap2, rfl⟩ := ownsRow_succ hown2))
            rw [Hor.out]
            have zg1 := hg1.size
            have zg2 := hg2.size
            simp at zg1 zg2
            have hU2 : Upd (fun _ => False) wr w1 := hU1.grown hg1 (fun k hk => by simp [Value.ownBlock, Act.eval] at hk; exact .inl (by omega))
            have hU3 : Upd (fun _ => False) wr w2 := (hU2.alloc _).grown hg2 (fun k hk => .inl (own_ge hown1 k hk))
            have hB2 := hB.trans (hU3.toBelow (B := w.heap.size) (fun _ e => e.elim) zr)
            have hxl : (so ++ [(a : Int)]).length = so.length + 1 := by simp
            have hrec := ih (so ++ [(a : Int)]) (orI s (powI a)) g2 cap2 w2 (by have := Hk.out; omega) hor.1 hor.2 (hA.to hB2 (Nat.le_refl _) hB2.size) (hA'.to hB2 (Nat.le_refl _) hB2.size) (by rw [hxl, List.map_append]; exact own_sooner hown2 (Nat.zero_le _))
            rw [hxl] at hrec
            have hb3 := alG_bd (zs := zs) (by rw [hlen.out]; exact hn6) (k := k) (by have := Hk.out; omega) (so ++ [(a : Int)]) (orI s (powI a))
            have Hb3 := Lib.hid hb3
            clear hb3 hxl hown hown1 hown2 hg1 hg2
            refine hrec.mono ?_
            rintro e w3 ⟨v3, g3, c3, rfl, ⟨L3, rfl, hL3, hR3⟩, hB3⟩
            clear hrec
            have hL3l : L3.length ≤ 46656 := by
              have h1 := congrArg List.length hL3
              rw [List.length_map] at h1
              have := Hb3.out
              omega
            have HL3 := Lib.hid hL3
            have HR3 := Lib.hid hR3
            have z3 := hB3.size
            have hU4 : Upd (fun k => wr.heap.size ≤ k) wr w3 := (hU3.mono (S := fun k => wr.heap.size ≤ k) fun _ _ e => e.elim).below hB3 (fun k h1 h2 => by omega)
            have HR2 := Lib.hid (HR.out.later hU4 (fun k e => e))
            have HB4 := Lib.hid (hB2.trans (hB3.mono (by omega)))
            have hn3 : ∀ j u, (L3.map Prod.snd)[j]? = some u → w3.cell? ((⟨g3, 0, none⟩ : Addr).add j) = some u := fun j u e => HR3.out.own.cells (g := g3) rfl j u e
            have h1c : ∀ u ∈ L3.map Prod.snd, u.oneCell' = true := fun u hu => by
              obtain ⟨x, hx, rfl⟩ := List.mem_map.1 hu
              obtain ⟨A4, c4, e4, _⟩ := lnHas_slice (HR3.out.has x hx)
              rw [e4]; rfl
            have Hn3 := Lib.hid hn3
            have H1c := Lib.hid h1c
            clear hn3 h1c hL3 hR3 hU4 hB2 hB3
            go_wp2_with (at_builtin; refine wpList_append_own_at _ rfl (.tmp 40) (.tmp 53) _ rfl 0 22 i3 _ 1 24 Try.underlying30 hi3 hz30 hz31 hz32 rfl (by omega) _ L.length _ rfl HR2.out.own ⟨g3, 0, none⟩ L3.length c3 (L3.map Prod.snd) rfl (by simp) Hn3.out H1c.out (by simp only [maxLen]; omega) (by omega) (by omega) ?_; intro v4 w4 hown4 hg4 hnil4 hat4)
            have Happ := Lib.hid (HR2.out.app (S' := fun j => w.heap.size ≤ j) (z := w2.heap.size) (fun k e => by have := hLl.1 k e; omega) (fun x hx k e => by have := hLl.2 x hx k e; omega) HR3.out hown4 hg4 hat4 (fun k e => e) (fun k e => by omega) z3)
            obtain ⟨g4, cap4, rfl⟩ : ∃ g cap, v4 = .slice (some ⟨g, 0, none⟩) (L.length + L3.length) cap := by
              rcases hown4.2 with ⟨e, _⟩ | ⟨g, cap, cur, e, _⟩
              · exact absurd (show Value.slice (some ⟨g', 0, none⟩) L.length cc = .slice none 0 0 from (hnil4.1 e).1) (fun h => by cases h)
              · exact ⟨g, cap, e⟩
            have HB5 := Lib.hid (((Upd.refl (fun k => w.heap.size ≤ k) w3).grown hg4 (fun k e => .inr (HR2.out.inS.1 k e))).toBelow (B := w.heap.size) (fun k e => e) (by omega))
            clear hown4 hg4 hnil4 hat4
            go_roundw
            case rel => exact ⟨a + 1, L ++ L3, g4, cap4, by omega, by go_num, by rw [List.length_append], by rw [List.map_append, HL.out, HL3.out, nxUp_yes Hs.out, alX_snoc], Happ.out, HB4.out.trans HB5.out⟩
            case measure => simp [intOf]; omega
          · have Hs := Lib.hid (Hsl.out hl)
            have Hn := Lib.hid (nxUp_no Hs.out)
            have hbl := bits_less (a := (du zs)[a]?.getD 0) (b := s) hdb.1 (by omega) hs0 (by omega)
            have hbn : (bits .andNot .i64 ((du zs)[a]?.getD 0) s == 0) = false := by rw [hbl]; simpa using hl
            clear hl hb Hst Hsl hbl
            generalize (du zs)[a]?.getD 0 = d at *
            go_wp2_with (go_at_call 70; refine (bit_any _ _ _ (by omega) (by omega) (by omega) (by omega)).mono ?_; rintro e w' ⟨rfl, rfl⟩)
            go_roundw
            case rel => exact ⟨a + 1, L, g', cc, by omega, by go_num, rfl, by rw [Hn.out]; exact HL.out, HR.out, hB⟩
            case measure => simp [intOf]; omega
        · have hbi : (bitI s (a : Int) == 0) = false := by rw [bitI_true hb]; rfl
          have Hs := Lib.hid (st_bit (zs := zs) hb)
          have Hn := Lib.hid (nxUp_no Hs.out)
          clear hb Hst Hsl
          generalize (du zs)[a]?.getD 0 = d at *
          go_wp2_with (go_at_call 70; refine (bit_any _ _ _ (by omega) (by omega) (by omega) (by omega)).mono ?_; rintro e w' ⟨rfl, rfl⟩)
          go_roundw
          case rel => exact ⟨a + 1, L, g', cc, by omega, by go_num, rfl, by rw [Hn.out]; exact HL.out, HR.out, hB⟩
          case measure => simp [intOf]; omega
      · obtain rfl : a = n := by omega
        have Hall := Lib.hid (show alX zs k so s (nxUp zs s a) = alG zs (k + 1) so s by rw [← alX_all]; unfold nxA nxUp; rw [hlen.out])
        have HR := Lib.hid hR
        have HL := Lib.hid hL
        clear hR hL
        go_wp2
        go_ret
        exact ⟨_, g', cc, rfl, ⟨L, rfl, by rw [← Hall.out]; exact HL.out, HR.out⟩, hB⟩
end Go.Proofs.Ytghogabmkbadjaa

/- LinesOf: the model's; where the program's rows lie. -/
namespace Go.Proofs.Ytghogabmkbadjaa
open Go.RowKit Go.Shelf

/-- Rows of lines, in blocks from lo up to less than hi. -/
def LnT (w : World) (lo hi : Nat) (A : Option Addr) (n c : Nat) (rs : List (List Int)) : Prop := ∃ L : List Ln, L.length = n ∧ L.map Prod.fst = rs ∧ LnRows (fun k => lo ≤ k ∧ k < hi) w (.slice A n c) L
section
variable {w w' : World} {lo hi n c : Nat} {A : Option Addr} {rs : List (List Int)} {R : Nat → Prop}
theorem LnT.len (h : LnT w lo hi A n c rs) : rs.length = n := by
  obtain ⟨L, h1, h2, _⟩ := h
  rw [← h2, List.length_map, h1]
theorem LnT.upd (h : LnT w lo hi A n c rs) (hu : Upd R w w') (hr : ∀ j, R j → j < lo ∨ hi ≤ j) : LnT w' lo hi A n c rs := by
  obtain ⟨L, h1, h2, h3⟩ := h
  exact ⟨L, h1, h2, h3.keep hu (fun k hk e => by have := hr k e; omega)⟩
theorem LnT.below {B : Nat} (h : LnT w lo hi A n c rs) (hu : Below B w w') (hB : hi ≤ B) : LnT w' lo hi A n c rs := h.upd (Below.toUpd hu) (fun j hj => by omega)
theorem LnRows.intsB {S : Nat → Prop} {v : Value} {L : List Ln} {B : Nat} (h : LnRows S w v L) (hS : ∀ k, S k → k < B) (hv : v = .slice A L.length c) : IntsS w B A L.length (L.map Prod.fst) := by
  refine ⟨by simp, fun hn => ?_⟩
  obtain ⟨x0, hx0⟩ : ∃ x, L[0]? = some x := ⟨L[0], List.getElem?_eq_getElem hn⟩
  obtain ⟨g, c', e, hg, _⟩ := h.at_ hx0
  have hgS := h.inS.1 g (by rw [e]; rfl)
  rw [hv] at e
  cases e
  refine ⟨g, 0, rfl, hS g hgS, fun j hj => ?_⟩
  have hx : L[j]? = some L[j] := List.getElem?_eq_getElem hj
  obtain ⟨g', c2, e2, _, hcell⟩ := h.at_ hx
  rw [hv] at e2
  cases e2
  have hm := List.getElem_mem hj
  obtain ⟨A', c', e', hI⟩ := lnHas_slice (h.has _ hm)
  rw [Nat.zero_add, hcell, List.getElem?_map, hx]
  refine ⟨A', c', by rw [e']; rfl, hI.1, fun hn' => ?_⟩
  obtain ⟨b, off, e5, _, hc5⟩ := hI.2 hn'
  refine ⟨b, off, e5, hS b (h.inS.2 _ hm b (by unfold lnOwn; rw [e', e5]; rfl)), hc5⟩
theorem LnT.ints (h : LnT w lo hi A n c rs) {B : Nat} (hB : hi ≤ B) : IntsS w B A n rs := by
  obtain ⟨L, h1, h2, h3⟩ := h
  subst h1
  rw [← h2]
  exact h3.intsB (fun k hk => by omega) rfl
end
theorem LnRows.below2 {S : Nat → Prop} {v : Value} {L : List Ln} {w w' : World} (h : LnRows S w v L) (hu : Below w.heap.size w w') : LnRows S w' v L := h.later (Below.toUpd hu) (fun k e => e)
theorem markLnT (A : Option Addr) (n c lo hi : Nat) (rs : List (List Int)) (k : Int) (w : World) (h : LnT w lo hi A n c rs) (hbig : n ≤ 1048576) (ht : tot rs ≤ 1048576) (hk0 : 0 ≤ k) (hk1 : k ≤ 1048576) :
    Calls Try.prog 29 #[.slice A n c, .int .i64 k] w fun e w' => e = .returned (.int .i64 (k + tot rs)) ∧ LnT w' lo hi A n c (countedR k rs) ∧ Upd (fun j => lo ≤ j ∧ j < hi) w w' := by
  obtain ⟨L, h1, h2, h3⟩ := h
  refine (markLnR _ L _ k w h3 (by omega) (by rw [h2]; exact ht) hk0 hk1).mono ?_
  rintro e w' ⟨rfl, ⟨L', h4, h5, h6⟩, hU⟩
  exact ⟨by rw [h2], ⟨L', by omega, by rw [h5, h2], h4⟩, hU⟩

theorem linesOfR_bd (zs : List Int) : (linesOfR zs).length ≤ 1048576 ∧ (∀ r ∈ linesOfR zs, r.length ≤ 1048576) ∧ tot (linesOfR zs) ≤ 1048576 := by
  unfold linesOfR
  split
  · rename_i h
    rw [Bool.and_eq_true, decide_eq_true_eq] at h
    have h6 : zs.length ≤ 6 := by omega
    refine ⟨by have := alL_count h6; omega, fun r hr => by have := alL_rows r hr; omega, alL_tot h6⟩
  · simp [tot]

end Go.Proofs.Ytghogabmkbadjaa

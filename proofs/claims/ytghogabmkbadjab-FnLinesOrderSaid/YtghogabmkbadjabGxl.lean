/- Texts that several claims share, one behind the other. -/
import Derived.Test.YtghogabmkbadjabGd
import Derived.Test.YtghogabmkbadjabGxc
import Derived.Test.YtghogabmkbadjabGa
import Derived.Test.YtghogabmkbadjabGb
set_option linter.unusedVariables false
set_option linter.unusedSimpArgs false
/- Orders beside each other, and one above the other: the model's. -/
namespace Go.Proofs.Ytghogabmkbadjab
open Go.RowKit Go.Shelf
attribute [local go_sem] Oper.semAt_some
attribute [local go_sem, local simp] wide_fn

section
variable {P : Program} (w : World)
theorem step_append1 {ops : Array Oper} {o : Oper} {a : Act} {K : Act → World → Prop} {Q : Exit → Act → World → Prop} {E : Prop} (hgd : o.guard = none) (s x : Operand) (t : TypeId)
    (ho : o.op = .call { callee := .builtin .append, args := #[s, x], argTypes := #[t, t] })
    (base : Nat) (e : TypeId) (i : TypeInfo) (z : Value) (bytes : Nat) (ht : P.underlying t = some (.slice e)) (hi : P.info? e = some i) (hz : i.zero = some z)
    (hsize : i.size = 1) (hby : i.bytes = bytes) (hzs : z.cells.size = 1)
    (v : Value) (n : Nat) (xs : List Value) (hs : a.eval s = v) (hown : w.ownsRow base e 1 v n xs)
    (b c : Nat) (u : Value) (hx : a.eval x = .slice (some ⟨b, 0, none⟩) 1 c) (hu : w.cell? ⟨b, 0, none⟩ = some u) (h1 : u.oneCell' = true)
    (h63 : n + 1 ≤ 1152921504606846976) (hbytes : (n + 1) * bytes ≤ 140737488355328) (hbase : base ≤ w.heap.size)
    (h : ∀ v' w', w'.ownsRow base e 1 v' (n + 1) (xs ++ [u]) → w.grownBy w' v.ownBlock → (v'.ownBlock = v.ownBlock ∨ v'.ownBlock = some w.heap.size) → K (a.put o.dst v') w') :
    if Region.wanted o (yielded ops a.tmps) = true then Oper.wp P o a w K Q else E := by
  have hw : Region.wanted o (yielded ops a.tmps) = true := by simp [Region.wanted, hgd]
  rw [if_pos hw]
  obtain ⟨v', w', hrun, h2, h3, _, h5⟩ := run_append_own_at (P := P) w base t o.type e i z 1 bytes ht hi hz hsize hby hzs (by omega) v n xs hown ⟨b, 0, none⟩ 1 c [u] (by simp) (fun j u' hj => by
    cases j with
    | zero => simp at hj; subst hj; simpa [Addr.add] using hu
    | succ j => simp at hj) (fun u' hu' => by rw [List.mem_singleton.1 hu']; exact h1) (by simp only [maxLen]; omega) hbytes hbase
  unfold Oper.wp execOp
  simp only [ho, resolve, invoke, builtin, Sem.run_bind, Sem.run_pure, Result.andThen_ok, List.map_toArray, List.map_cons, List.map_nil, hs, hx, hrun]
  exact h v' w' h2 h3 h5
end

end Go.Proofs.Ytghogabmkbadjab

/- FewestChains: the program's closure that asks. -/
namespace Go.Proofs.Ytghogabmkbadjab
open Go.RowKit Go.Shelf
attribute [local go_sem] Oper.semAt_some
attribute [local go_sem, local simp] wide_fn

/-- What is seen already keeps whom it is had by. -/
theorem mateG_keep {zs : List Int} {rec : Nat → List Int → List Bool → Bool × List Int × List Bool} {a j : Nat} (hrec : ∀ (x : Nat) (has : List Int) (seen : List Bool), seen[j]?.getD false = true → (rec x has seen).2.1[j]?.getD 0 = has[j]?.getD 0 ∧ (rec x has seen).2.2[j]?.getD false = true) :
    ∀ (d b : Nat) (has : List Int) (seen : List Bool), seen[j]?.getD false = true → (mateG zs rec a d b has seen).2.1[j]?.getD 0 = has[j]?.getD 0 ∧ (mateG zs rec a d b has seen).2.2[j]?.getD false = true
  | 0, _, _, _, h => ⟨rfl, h⟩
  | d + 1, b, has, seen, h => by
    unfold mateG
    split
    · exact mateG_keep hrec d (b + 1) has seen h
    · rename_i c1
      have hne : b ≠ j := by rintro rfl; rw [h] at c1; simp at c1
      have hset : (seen.set b true)[j]?.getD false = true := by rw [List.getElem?_set_ne hne]; exact h
      split
      · exact ⟨by show (has.set b (a : Int))[j]?.getD 0 = _; rw [List.getElem?_set_ne hne], hset⟩
      · have h1 := hrec (has[b]?.getD 0).toNat has _ hset
        split
        · exact ⟨by show (List.set _ b (a : Int))[j]?.getD 0 = _; rw [List.getElem?_set_ne hne]; exact h1.1, h1.2⟩
        · have h2 := mateG_keep (zs := zs) (a := a) hrec d (b + 1) (rec (has[b]?.getD 0).toNat has (seen.set b true)).2.1 _ h1.2
          exact ⟨h2.1.trans h1.1, h2.2⟩
theorem mateF_keep (zs : List Int) {j : Nat} : ∀ (f x : Nat) (has : List Int) (seen : List Bool), seen[j]?.getD false = true → (mateF zs f x has seen).2.1[j]?.getD 0 = has[j]?.getD 0 ∧ (mateF zs f x has seen).2.2[j]?.getD false = true
  | 0, _, _, _, h => ⟨rfl, h⟩
  | f + 1, x, has, seen, h => mateG_keep (mateF_keep zs f) zs.length 0 has seen h

/-- The closure: what it has caught. -/
def findV (bo ba bl bf : Nat) : Value := .func (.func 164) #[] #[.pointer (some ⟨bo, 0, none⟩), .pointer (some ⟨ba, 0, none⟩), .pointer (some ⟨bl, 0, none⟩), .pointer (some ⟨bf, 0, none⟩)]

set_option maxRecDepth 100000 in
set_option maxHeartbeats 4000000 in
theorem find_any (zs : List Int) (hvo : VoP zs) (n cap bz bo ba bl bf hb : Nat) (hlen0 : zs.length = n) (hdis : bo ≠ ba ∧ bo ≠ hb ∧ bl ≠ ba ∧ bl ≠ hb ∧ bf ≠ ba ∧ bf ≠ hb ∧ bz ≠ ba ∧ bz ≠ hb ∧ ba ≠ hb) :
    ∀ (f low : Nat) (has : List Int) (seen : List Bool) (asked : Int) (w : World), low < n → OkH n has → SeenAs n seen asked → unseen seen < f →
    Boxed w bo 49 (.slice (some ⟨bz, 0, none⟩) n n) → Boxed w ba 76 (.int .i64 asked) → Boxed w bl 22 (.slice (some ⟨hb, 0, none⟩) n cap) → Boxed w bf 93 (findV bo ba bl bf) → Arr w bz 76 zs → Cel w hb 3 n has →
    Calls Try.prog 164 #[.int .i64 (low : Int), .pointer (some ⟨bo, 0, none⟩), .pointer (some ⟨ba, 0, none⟩), .pointer (some ⟨bl, 0, none⟩), .pointer (some ⟨bf, 0, none⟩)] w fun e w' => e = .returned (.bool (mateF zs f low has seen).1) ∧
      Cel w' hb 3 n (mateF zs f low has seen).2.1 ∧ (∃ asked', SeenAs n (mateF zs f low has seen).2.2 asked' ∧ Boxed w' ba 76 (.int .i64 asked')) ∧ Upd (fun k => k = hb ∨ k = ba) w w'
  | 0, _, _, seen, _, _, _, _, _, hu, _, _, _, _, _, _ => absurd hu (Nat.not_lt_zero _)
  | f + 1, low, has, seen, asked, w, hlow, hOk, hSe, hu, bO, bA, bL, bF, hZ, hC => by
    have ih := find_any zs hvo n cap bz bo ba bl bf hb hlen0 hdis f
    obtain ⟨d1, d2, d3, d4, d5, d6, d7, d8, d9⟩ := hdis
    have hlen := Lib.hid hlen0
    have hn6 : n ≤ 6 := by have := hvo.1; rw [hlen0] at this; exact this
    have hz := hvo.sets.2 low (by rw [hlen0]; exact hlow)
    rw [hlen0] at hz
    have hz64 := hvo.bd low (by rw [hlen0]; exact hlow)
    have hcz := hZ.cell (k := low) (by rw [hlen0]; exact hlow)
    have hpn := powI_le6 (n := (n : Int)) (by omega)
    have Hrok := Lib.hid (show ∀ (x : Nat) (h : List Int) (s : List Bool), x < n → OkH n h → s.length = n → Keeps n s (mateF zs f x h s) by rw [← hlen0]; exact mateF_ok zs f)
    have HF := Lib.hid (show mateF zs (f + 1) low has seen = mateG zs (mateF zs f) low n 0 has seen by rw [← hlen0]; rfl)
    rw [HF.out]
    obtain ⟨r, hr⟩ : ∃ r, mateG zs (mateF zs f) low n 0 has seen = r := ⟨_, rfl⟩
    rw [hr]
    have Hr := Lib.hid hr
    clear hr hlen0
    have hOl := bO.lt
    have hAl := bA.lt
    have hLl := bL.lt
    have hFl := bF.lt
    have hZl := hZ.lt
    have hCl := hC.lt
    generalize hzz : zs[low]?.getD 0 = z at *
    have Hzz := Lib.hid hzz
    clear hzz
    refine (callsIn_wide (n := 9)).1 ?_
    refine callsIn_of_wp_marks Try.func164 rfl trivial ?_ rfl
    simp only [Try.ntmps164, List.size_toArray, List.length_cons, List.length_nil, Nat.reduceAdd, Nat.reduceSub, Array.replicate_succ, Array.replicate_zero, List.push_toArray, List.append_toArray, List.nil_append, List.cons_append]
    have bI := (Boxed.new w 3 (.int .i64 (low : Int))).alloc (.cells #[Value.bool false] 4)
    have bR := Boxed.new (w.alloc (.cells #[Value.int .i64 (low : Int)] 3)) 4 (.bool false)
    have hu0 : Upd (fun _ => False) w ((w.alloc (.cells #[Value.int .i64 (low : Int)] 3)).alloc (.cells #[Value.bool false] 4)) := ((Upd.refl _ w).alloc _).alloc _
    have hz0 : ((w.alloc (.cells #[Value.int .i64 (low : Int)] 3)).alloc (.cells #[Value.bool false] 4)).heap.size = w.heap.size + 2 := by simp
    simp only [World.size_alloc] at bI bR
    have hcO := (hu0.boxed bO (fun e => e)).cell
    have hcI := bI.cell
    have hcZ := hu0.cell hcz (fun e => e)
    gi_wp2_with (gi_at_call 143; refine (callsIn_wide.2 (each_any _ _)).mono ?_; rintro e w' ⟨rfl, rfl⟩)
    have bE := Boxed.new ((w.alloc (.cells #[Value.int .i64 (low : Int)] 3)).alloc (.cells #[Value.bool false] 4)) 76 (.int .i64 z)
    have hu1 : Upd (fun _ => False) w (((w.alloc (.cells #[Value.int .i64 (low : Int)] 3)).alloc (.cells #[Value.bool false] 4)).alloc (.cells #[Value.int .i64 z] 76)) := hu0.alloc _
    have hz1 : (((w.alloc (.cells #[Value.int .i64 (low : Int)] 3)).alloc (.cells #[Value.bool false] 4)).alloc (.cells #[Value.int .i64 z] 76)).heap.size = w.heap.size + 3 := by simp
    have bI1 := bI.alloc (.cells #[Value.int .i64 z] 76)
    have bR1 := bR.alloc (.cells #[Value.int .i64 z] 76)
    simp only [World.size_alloc] at bE
    obtain ⟨W0, hW0⟩ : ∃ W0, (((w.alloc (.cells #[Value.int .i64 (low : Int)] 3)).alloc (.cells #[Value.bool false] 4)).alloc (.cells #[Value.int .i64 z] 76)) = W0 := ⟨_, rfl⟩
    rw [hW0] at bE hu1 hz1 bI1 bR1 ⊢
    clear hW0 bI bR hu0 hz0 hcO hcI hcZ hcz
    have bO0 := hu1.boxed bO (fun e => e)
    have bA0 := hu1.boxed bA (fun e => e)
    have bL0 := hu1.boxed bL (fun e => e)
    have bF0 := hu1.boxed bF (fun e => e)
    have hZ0 := hZ.upd hu1 (fun e => e)
    have hC0 := hC.upd hu1 (fun e => e)
    refine range_out (n := 9) (gf := 177) (lb := #[.pointer (some ⟨w.heap.size + 1 + 1, 0, none⟩)]) rfl (enters_of Try.func177 (by kernel_rfl) rfl) (encs := encI) (L := itemsL z)
      (fun k => k = hb ∨ k = ba ∨ k = w.heap.size + 1) (fun k e => by omega) (fun _ => rfl)
      (fun W1 l1 hu1' hl1 hl2 => each_iter z hz.1 (by omega) _ _ W1 (hu1'.boxed bE (fun e => e)) (fun e => by omega))
      (fun pre D W => ∃ (h2 : List Int) (s2 : List Bool) (as2 : Int), OkH n h2 ∧ SeenAs n s2 as2 ∧ unseen s2 ≤ unseen seen ∧ Hid (mateG zs (mateF zs f) low (n - nxB pre) (nxB pre) h2 s2 = r) ∧ Cel W hb 3 n h2 ∧ Boxed W ba 76 (.int .i64 as2) ∧ Upd (fun k => k = hb ∨ k = ba) W0 W)
      (fun co pre D W => co = .ret ∧ r.1 = true ∧ Cel W hb 3 n r.2.1 ∧ (∃ as2, SeenAs n r.2.2 as2 ∧ Boxed W ba 76 (.int .i64 as2)) ∧ Boxed W (w.heap.size + 1) 4 (.bool true) ∧ Upd (fun k => k = hb ∨ k = ba ∨ k = w.heap.size + 1) W0 W)
      (fun _ D X Y hs hu => by
        obtain ⟨h2, s2, as2, k1, k2, k3, k4, k5, k6, k7⟩ := hs
        exact ⟨h2, s2, as2, k1, k2, k3, k4, k5.upd hu (fun e => by omega), hu.boxed k6 (fun e => by omega), k7.trans' hu (fun i hi e => by omega)⟩)
      (fun co _ D X Y hs hu => by
        obtain ⟨k1, k2, k3, ⟨as2, k4, k5⟩, k6, k7⟩ := hs
        exact ⟨k1, k2, k3.upd hu (fun e => by omega), ⟨as2, k4, hu.boxed k5 (fun e => by omega)⟩, hu.boxed k6 (fun e => by omega), k7.trans' hu (fun i hi e => by omega)⟩)
      ⟨has, seen, asked, hOk, hSe, Nat.le_refl _, Hr, hC0, bA0, Upd.refl _ _⟩ ?owes ?done ?stop
    case owes =>
      rintro l1 pre x D1 W hl1 hl2 hDl hD1 - hpre K hK
      gi_wp2
      refine hK _ _ (Upd.refl _ _) ?_
      rintro Wb hWb - ⟨h2, s2, as2, hOk2, hSe2, hus, Hg, hC2, bA2, hU⟩
      clear hK
      have hxm := hpre.subset (by simp : x ∈ pre ++ [x])
      have hxb := (mem_itemsL hz64.2).1 hxm
      have hxn := bitB_lt hz.2 hxb
      obtain ⟨hgap1, hgap2⟩ := gap_none hz64.2 hpre
      have hg : mateG zs (mateF zs f) low (n - x) x h2 s2 = r := by
        rw [← Hg.out, skip_none (x - nxB pre) (nxB pre) (by omega) (fun j h1 h2 => by rw [Hzz.out]; exact hgap2 j h1 (by omega)), show nxB pre + (x - nxB pre) = x by omega]
      obtain ⟨d, hd⟩ : ∃ d, n - x = d + 1 := ⟨n - x - 1, by omega⟩
      have hnx : nxB (pre ++ [x]) = x + 1 := nxB_snoc pre x
      have hd2 : n - nxB (pre ++ [x]) = d := by rw [hnx]; omega
      rw [hd] at hg
      unfold mateG at hg
      rw [Hzz.out, hxb] at hg
      simp only [Bool.not_true, Bool.false_or] at hg
      have zb := hU.size
      have bO2 := hU.boxed bO0 (fun e => by omega)
      have bL2 := hU.boxed bL0 (fun e => by omega)
      have bF2 := hU.boxed bF0 (fun e => by omega)
      have bI2 := hU.boxed bI1 (fun e => by omega)
      have bR2 := hU.boxed bR1 (fun e => by omega)
      have hZ2 := hZ0.upd hU (fun e => by omega)
      have hcA := bA2.cell
      have hfA := bA2.frozen
      have hsx := hSe2.2.2.2 x hxn
      have has2 := hSe2.2.1
      have has3 := hSe2.2.2.1
      cases hsb : bitB as2 x
      · rw [hsx, hsb] at hg
        simp only [Bool.false_eq_true, if_false] at hg
        have hSe3 := hSe2.set hxn
        have hu2 := unseen_set s2 x (by rw [hSe2.1]; exact hxn) (by rw [hsx, hsb])
        have Hsb := Lib.hid hsb
        have hbh := hOk2.2 x hxn
        clear hsb
        gi_wp2_with fail
        refine (CallsIn.inRound l1 (callsIn_wide.2 (has_any _ _ _ (by omega) (by omega) (by omega) (by omega)))).mono ?_
        rw [Hsb.out]
        rintro e w' ⟨rfl, rfl⟩
        gi_wp2_with fail
        refine (CallsIn.inRound l1 (callsIn_wide.2 (with_any _ _ _ (by omega) (by omega) (by omega) (by omega)))).mono ?_
        rintro e w' ⟨rfl, rfl⟩
        have hua : Upd (fun k => k = ba) Wb (Wb.setCell ⟨ba, 0, none⟩ (.int .i64 (orI as2 (powI (x : Int))))) := (Upd.refl (fun k => k = ba) Wb).setCell (p := ⟨ba, 0, none⟩) (.inr rfl) _
        have bA3 := bA2.set (.int .i64 (orI as2 (powI (x : Int))))
        have hC3 := hC2.upd hua (fun e => by omega)
        have bL3 := hua.boxed bL2 (fun e => by omega)
        have bF3 := hua.boxed bF2 (fun e => by omega)
        have bO3 := hua.boxed bO2 (fun e => by omega)
        have hZ3 := hZ2.upd hua (fun e => by omega)
        have bI3 := hua.boxed bI2 (fun e => by omega)
        have bR3 := hua.boxed bR2 (fun e => by omega)
        have hU3 : Upd (fun k => k = hb ∨ k = ba) W0 (Wb.setCell ⟨ba, 0, none⟩ (.int .i64 (orI as2 (powI (x : Int))))) := hU.trans' hua (fun i hi e => .inr e)
        gi_wp2
        have hHold : (fun w' => w'.cell? ⟨bl, 0, none⟩ = some (.slice (some ⟨hb, 0, none⟩) n cap) ∧ w'.cell? ⟨hb, x, none⟩ = some (.int .i64 (h2[x]?.getD 0)) ∧ w'.cell? ⟨bf, 0, none⟩ = some (findV bo ba bl bf)) (Wb.setCell ⟨ba, 0, none⟩ (.int .i64 (orI as2 (powI (x : Int))))).drew := ⟨bL3.cell, hC3.cell hxn, bF3.cell⟩
        have bI4 : Boxed (Wb.setCell ⟨ba, 0, none⟩ (.int .i64 (orI as2 (powI (x : Int))))).drew w.heap.size 3 (.int .i64 (low : Int)) := bI3
        have bR4 : Boxed (Wb.setCell ⟨ba, 0, none⟩ (.int .i64 (orI as2 (powI (x : Int))))).drew (w.heap.size + 1) 4 (.bool false) := bR3
        have bA4 : Boxed (Wb.setCell ⟨ba, 0, none⟩ (.int .i64 (orI as2 (powI (x : Int))))).drew ba 76 (.int .i64 (orI as2 (powI (x : Int)))) := bA3
        have bL4 : Boxed (Wb.setCell ⟨ba, 0, none⟩ (.int .i64 (orI as2 (powI (x : Int))))).drew bl 22 (.slice (some ⟨hb, 0, none⟩) n cap) := bL3
        have bF4 : Boxed (Wb.setCell ⟨ba, 0, none⟩ (.int .i64 (orI as2 (powI (x : Int))))).drew bf 93 (findV bo ba bl bf) := bF3
        have bO4 : Boxed (Wb.setCell ⟨ba, 0, none⟩ (.int .i64 (orI as2 (powI (x : Int))))).drew bo 49 (.slice (some ⟨bz, 0, none⟩) n n) := bO3
        have hC4 := hC3.drew
        have hU4 := hU3.drew
        have hV4 := hua.drew
        have hZ4 : Arr (Wb.setCell ⟨ba, 0, none⟩ (.int .i64 (orI as2 (powI (x : Int))))).drew bz 76 zs := hZ3
        by_cases hneg : h2[x]?.getD 0 < 0
        · rw [if_pos hneg] at hg
          have hdn : h2[x]?.getD 0 = -1 := by omega
          refine region_T_round (S := (fun w' => w'.cell? ⟨bl, 0, none⟩ = some (.slice (some ⟨hb, 0, none⟩) n cap) ∧ w'.cell? ⟨hb, x, none⟩ = some (.int .i64 (h2[x]?.getD 0)) ∧ w'.cell? ⟨bf, 0, none⟩ = some (findV bo ba bl bf))) 12 (by kernel_rfl) (by kernel_rfl) (by rintro ⟨_, _, h⟩; exact h) ?_
          refine anyT_take (i := 0) (oi := ?oi0a) (v := .slice (some ⟨hb, 0, none⟩) n cap) ?hi0a (by kernel_rfl) ?hq0a ?hy0a (by assumption) ?rest0a
          case hi0a => (simp only [List.getElem?_toArray, List.getElem?_cons_zero]; first | done | rfl)
          case hq0a => exact fun _ _ _ h => h
          case hy0a => (refine Or.inl ⟨by rfl, ?_⟩; intro wz hSw; obtain ⟨hS1, hS2, hS3⟩ := hSw; go_simp; first | done | with_reducible rfl | simp | omega)
          try simp only [Act.put, List.setIfInBounds_toArray, List.set_cons_zero, List.set_cons_succ]
          refine anyT_take (i := 1) (oi := ?oi1a) (v := .int .i64 (x : Int)) ?hi1a (by kernel_rfl) ?hq1a ?hy1a (by assumption) ?rest1a
          case hi1a => (simp only [List.getElem?_toArray, List.getElem?_cons_succ, List.getElem?_cons_zero]; first | done | rfl)
          case hq1a => exact fun _ _ _ h => h
          case hy1a => (refine Or.inl ⟨by rfl, ?_⟩; intro wz hSw; obtain ⟨hS1, hS2, hS3⟩ := hSw; go_simp; first | done | with_reducible rfl | simp | omega)
          try simp only [Act.put, List.setIfInBounds_toArray, List.set_cons_zero, List.set_cons_succ]
          refine anyT_take (i := 2) (oi := ?oi2a) (v := .pointer (some ⟨hb, x, none⟩)) ?hi2a (by kernel_rfl) ?hq2a ?hy2a (by assumption) ?rest2a
          case hi2a => (simp only [List.getElem?_toArray, List.getElem?_cons_succ, List.getElem?_cons_zero]; first | done | rfl)
          case hq2a => exact fun _ _ _ h => h
          case hy2a => (refine Or.inl ⟨by rfl, ?_⟩; intro wz hSw; obtain ⟨hS1, hS2, hS3⟩ := hSw; go_simp; first | done | with_reducible rfl | simp | omega)
          try simp only [Act.put, List.setIfInBounds_toArray, List.set_cons_zero, List.set_cons_succ]
          refine anyT_take (i := 3) (oi := ?oi3a) (v := .int .i64 (h2[x]?.getD 0)) ?hi3a (by kernel_rfl) ?hq3a ?hy3a (by assumption) ?rest3a
          case hi3a => (simp only [List.getElem?_toArray, List.getElem?_cons_succ, List.getElem?_cons_zero]; first | done | rfl)
          case hq3a => exact fun _ _ _ h => h
          case hy3a => (refine Or.inl ⟨by rfl, ?_⟩; intro wz hSw; obtain ⟨hS1, hS2, hS3⟩ := hSw; go_simp; first | done | with_reducible rfl | simp | omega)
          try simp only [Act.put, List.setIfInBounds_toArray, List.set_cons_zero, List.set_cons_succ]
          refine anyT_take (i := 4) (oi := ?oi4a) (v := .bool true) ?hi4a (by kernel_rfl) ?hq4a ?hy4a (by assumption) ?rest4a
          case hi4a => (simp only [List.getElem?_toArray, List.getElem?_cons_succ, List.getElem?_cons_zero]; first | done | rfl)
          case hq4a => exact fun _ _ _ h => h
          case hy4a => (refine Or.inl ⟨by rfl, ?_⟩; intro wz hSw; obtain ⟨hS1, hS2, hS3⟩ := hSw; go_simp; first | done | with_reducible rfl | simp [hdn] | exact hdn | omega)
          try simp only [Act.put, List.setIfInBounds_toArray, List.set_cons_zero, List.set_cons_succ]
          refine anyT_take (i := 5) (oi := ?oi5a) (v := .bool true) ?hi5a (by kernel_rfl) ?hq5a ?hy5a (by assumption) ?rest5a
          case hi5a => (simp only [List.getElem?_toArray, List.getElem?_cons_succ, List.getElem?_cons_zero]; first | done | rfl)
          case hq5a => exact fun _ _ _ h => h
          case hy5a => (refine Or.inl ⟨by rfl, ?_⟩; intro wz hSw; obtain ⟨hS1, hS2, hS3⟩ := hSw; go_simp; first | done | with_reducible rfl | simp | omega)
          try simp only [Act.put, List.setIfInBounds_toArray, List.set_cons_zero, List.set_cons_succ]
          refine anyT_take (i := 6) (oi := ?oi6a) (v := undef) ?hi6a (by kernel_rfl) ?hq6a ?hy6a (by assumption) ?rest6a
          case hi6a => (simp only [List.getElem?_toArray, List.getElem?_cons_succ, List.getElem?_cons_zero]; first | done | rfl)
          case hq6a => exact fun _ _ _ h => h
          case hy6a => exact Or.inr ⟨by rfl, rfl⟩
          try simp only [Act.put, List.setIfInBounds_toArray, List.set_cons_zero, List.set_cons_succ]
          refine anyT_take (i := 7) (oi := ?oi7a) (v := undef) ?hi7a (by kernel_rfl) ?hq7a ?hy7a (by assumption) ?rest7a
          case hi7a => (simp only [List.getElem?_toArray, List.getElem?_cons_succ, List.getElem?_cons_zero]; first | done | rfl)
          case hq7a => exact fun _ _ _ h => h
          case hy7a => exact Or.inr ⟨by rfl, rfl⟩
          try simp only [Act.put, List.setIfInBounds_toArray, List.set_cons_zero, List.set_cons_succ]
          refine anyT_take (i := 8) (oi := ?oi8a) (v := undef) ?hi8a (by kernel_rfl) ?hq8a ?hy8a (by assumption) ?rest8a
          case hi8a => (simp only [List.getElem?_toArray, List.getElem?_cons_succ, List.getElem?_cons_zero]; first | done | rfl)
          case hq8a => exact fun _ _ _ h => h
          case hy8a => exact Or.inr ⟨by rfl, rfl⟩
          try simp only [Act.put, List.setIfInBounds_toArray, List.set_cons_zero, List.set_cons_succ]
          refine anyT_take (i := 9) (oi := ?oi9a) (v := undef) ?hi9a (by kernel_rfl) ?hq9a ?hy9a (by assumption) ?rest9a
          case hi9a => (simp only [List.getElem?_toArray, List.getElem?_cons_succ, List.getElem?_cons_zero]; first | done | rfl)
          case hq9a => exact fun _ _ _ h => h
          case hy9a => exact Or.inr ⟨by rfl, rfl⟩
          try simp only [Act.put, List.setIfInBounds_toArray, List.set_cons_zero, List.set_cons_succ]
          refine anyT_take (i := 10) (oi := ?oi10a) (v := undef) ?hi10a (by kernel_rfl) ?hq10a ?hy10a (by assumption) ?rest10a
          case hi10a => (simp only [List.getElem?_toArray, List.getElem?_cons_succ, List.getElem?_cons_zero]; first | done | rfl)
          case hq10a => exact fun _ _ _ h => h
          case hy10a => exact Or.inr ⟨by rfl, rfl⟩
          try simp only [Act.put, List.setIfInBounds_toArray, List.set_cons_zero, List.set_cons_succ]
          refine anyT_take (i := 11) (oi := ?oi11a) (v := undef) ?hi11a (by kernel_rfl) ?hq11a ?hy11a (by assumption) ?rest11a
          case hi11a => (simp only [List.getElem?_toArray, List.getElem?_cons_succ, List.getElem?_cons_zero]; first | done | rfl)
          case hq11a => exact fun _ _ _ h => h
          case hy11a => exact Or.inr ⟨by rfl, rfl⟩
          try simp only [Act.put, List.setIfInBounds_toArray, List.set_cons_zero, List.set_cons_succ]
          refine anyT_one (i := 12) (by kernel_rfl) rfl (fun K' hK => ?_)
          go_simp
          refine hK.out _ _ (fun h => absurd rfl h) ?_
          clear hK K'
          try simp only [Act.put, List.setIfInBounds_toArray, List.set_cons_zero, List.set_cons_succ]
          refine anyT_done (by kernel_rfl) ?_ _
          obtain ⟨W4, hW4⟩ : ∃ W4, (Wb.setCell ⟨ba, 0, none⟩ (.int .i64 (orI as2 (powI (x : Int))))).drew = W4 := ⟨_, rfl⟩
          rw [hW4] at bI4 bR4 bL4 hC4 bA4 hU4 hV4 ⊢
          have hcI4 := bI4.cell
          have hcR4 := bR4.cell
          have hfR4 := bR4.frozen
          have hfH4 := hC4.frozen x
          have hcH4 := hC4.cell hxn
          have hcL4 := bL4.cell
          clear hHold hW4
          gi_wp2
          have hs1 : Upd (fun k => k = hb) W4 (W4.setCell ⟨hb, x, none⟩ (.int .i64 (low : Int))) := (Upd.refl (fun k => k = hb) W4).setCell (p := ⟨hb, x, none⟩) (.inr rfl) _
          have hs2 : Upd (fun k => k = w.heap.size + 1) (W4.setCell ⟨hb, x, none⟩ (.int .i64 (low : Int))) ((W4.setCell ⟨hb, x, none⟩ (.int .i64 (low : Int))).setCell ⟨w.heap.size + 1, 0, none⟩ (.bool true)) := (Upd.refl (fun k => k = w.heap.size + 1) _).setCell (p := ⟨w.heap.size + 1, 0, none⟩) (.inr rfl) _
          have hCe := (hC4.set x (low : Int)).upd hs2 (fun e => by omega)
          have bAe := hs2.boxed (hs1.boxed bA4 (fun e => d9 e)) (fun e => by omega)
          have bRe := (hs1.boxed bR4 (fun e => by omega)).set (.bool true)
          refine ⟨D1, ⟨rfl, by rw [← hg], by rw [← hg]; exact hCe, ⟨_, by rw [← hg]; exact hSe3, bAe⟩, bRe, ?_⟩, ?_, fun k hk => .inl hk⟩
          · exact (((hU4.mono (S := fun k => k = hb ∨ k = ba ∨ k = w.heap.size + 1) fun _ _ e => by omega).trans' hs1 (fun i hi e => .inl e)).trans' hs2 (fun i hi e => .inr (.inr e)))
          · exact (((hV4.mono (S := fun k => (k = hb ∨ k = ba ∨ k = w.heap.size + 1) ∨ D1 k ∨ W.heap.size ≤ k) fun _ _ e => .inl (by omega)).trans' hs1 (fun i hi e => .inl (.inl e))).trans' hs2 (fun i hi e => .inl (.inr (.inr e))))
        · have hdn : ¬ h2[x]?.getD 0 = -1 := by omega
          refine region_T_round (S := (fun w' => w'.cell? ⟨bl, 0, none⟩ = some (.slice (some ⟨hb, 0, none⟩) n cap) ∧ w'.cell? ⟨hb, x, none⟩ = some (.int .i64 (h2[x]?.getD 0)) ∧ w'.cell? ⟨bf, 0, none⟩ = some (findV bo ba bl bf))) 12 (by kernel_rfl) (by kernel_rfl) (by rintro ⟨_, _, h⟩; exact h) ?_
          refine anyT_take (i := 0) (oi := ?oi0b) (v := .slice (some ⟨hb, 0, none⟩) n cap) ?hi0b (by kernel_rfl) ?hq0b ?hy0b (by assumption) ?rest0b
          case hi0b => (simp only [List.getElem?_toArray, List.getElem?_cons_zero]; first | done | rfl)
          case hq0b => exact fun _ _ _ h => h
          case hy0b => (refine Or.inl ⟨by rfl, ?_⟩; intro wz hSw; obtain ⟨hS1, hS2, hS3⟩ := hSw; go_simp; first | done | with_reducible rfl | simp | omega)
          try simp only [Act.put, List.setIfInBounds_toArray, List.set_cons_zero, List.set_cons_succ]
          refine anyT_take (i := 1) (oi := ?oi1b) (v := .int .i64 (x : Int)) ?hi1b (by kernel_rfl) ?hq1b ?hy1b (by assumption) ?rest1b
          case hi1b => (simp only [List.getElem?_toArray, List.getElem?_cons_succ, List.getElem?_cons_zero]; first | done | rfl)
          case hq1b => exact fun _ _ _ h => h
          case hy1b => (refine Or.inl ⟨by rfl, ?_⟩; intro wz hSw; obtain ⟨hS1, hS2, hS3⟩ := hSw; go_simp; first | done | with_reducible rfl | simp | omega)
          try simp only [Act.put, List.setIfInBounds_toArray, List.set_cons_zero, List.set_cons_succ]
          refine anyT_take (i := 2) (oi := ?oi2b) (v := .pointer (some ⟨hb, x, none⟩)) ?hi2b (by kernel_rfl) ?hq2b ?hy2b (by assumption) ?rest2b
          case hi2b => (simp only [List.getElem?_toArray, List.getElem?_cons_succ, List.getElem?_cons_zero]; first | done | rfl)
          case hq2b => exact fun _ _ _ h => h
          case hy2b => (refine Or.inl ⟨by rfl, ?_⟩; intro wz hSw; obtain ⟨hS1, hS2, hS3⟩ := hSw; go_simp; first | done | with_reducible rfl | simp | omega)
          try simp only [Act.put, List.setIfInBounds_toArray, List.set_cons_zero, List.set_cons_succ]
          refine anyT_take (i := 3) (oi := ?oi3b) (v := .int .i64 (h2[x]?.getD 0)) ?hi3b (by kernel_rfl) ?hq3b ?hy3b (by assumption) ?rest3b
          case hi3b => (simp only [List.getElem?_toArray, List.getElem?_cons_succ, List.getElem?_cons_zero]; first | done | rfl)
          case hq3b => exact fun _ _ _ h => h
          case hy3b => (refine Or.inl ⟨by rfl, ?_⟩; intro wz hSw; obtain ⟨hS1, hS2, hS3⟩ := hSw; go_simp; first | done | with_reducible rfl | simp | omega)
          try simp only [Act.put, List.setIfInBounds_toArray, List.set_cons_zero, List.set_cons_succ]
          refine anyT_take (i := 4) (oi := ?oi4b) (v := .bool false) ?hi4b (by kernel_rfl) ?hq4b ?hy4b (by assumption) ?rest4b
          case hi4b => (simp only [List.getElem?_toArray, List.getElem?_cons_succ, List.getElem?_cons_zero]; first | done | rfl)
          case hq4b => exact fun _ _ _ h => h
          case hy4b => (refine Or.inl ⟨by rfl, ?_⟩; intro wz hSw; obtain ⟨hS1, hS2, hS3⟩ := hSw; go_simp; first | done | with_reducible rfl | simp [hdn] | exact hdn | omega)
          try simp only [Act.put, List.setIfInBounds_toArray, List.set_cons_zero, List.set_cons_succ]
          refine anyT_take (i := 5) (oi := ?oi5b) (v := .bool false) ?hi5b (by kernel_rfl) ?hq5b ?hy5b (by assumption) ?rest5b
          case hi5b => (simp only [List.getElem?_toArray, List.getElem?_cons_succ, List.getElem?_cons_zero]; first | done | rfl)
          case hq5b => exact fun _ _ _ h => h
          case hy5b => (refine Or.inl ⟨by rfl, ?_⟩; intro wz hSw; obtain ⟨hS1, hS2, hS3⟩ := hSw; go_simp; first | done | with_reducible rfl | simp | omega)
          try simp only [Act.put, List.setIfInBounds_toArray, List.set_cons_zero, List.set_cons_succ]
          refine anyT_take (i := 6) (oi := ?oi6b) (v := findV bo ba bl bf) ?hi6b (by kernel_rfl) ?hq6b ?hy6b (by assumption) ?rest6b
          case hi6b => (simp only [List.getElem?_toArray, List.getElem?_cons_succ, List.getElem?_cons_zero]; first | done | rfl)
          case hq6b => exact fun _ _ _ h => h
          case hy6b => (refine Or.inl ⟨by rfl, ?_⟩; intro wz hSw; obtain ⟨hS1, hS2, hS3⟩ := hSw; go_simp; first | done | with_reducible rfl | simp | omega)
          try simp only [Act.put, List.setIfInBounds_toArray, List.set_cons_zero, List.set_cons_succ]
          refine anyT_take (i := 7) (oi := ?oi7b) (v := .slice (some ⟨hb, 0, none⟩) n cap) ?hi7b (by kernel_rfl) ?hq7b ?hy7b (by assumption) ?rest7b
          case hi7b => (simp only [List.getElem?_toArray, List.getElem?_cons_succ, List.getElem?_cons_zero]; first | done | rfl)
          case hq7b => exact fun _ _ _ h => h
          case hy7b => (refine Or.inl ⟨by rfl, ?_⟩; intro wz hSw; obtain ⟨hS1, hS2, hS3⟩ := hSw; go_simp; first | done | with_reducible rfl | simp | omega)
          try simp only [Act.put, List.setIfInBounds_toArray, List.set_cons_zero, List.set_cons_succ]
          refine anyT_take (i := 8) (oi := ?oi8b) (v := .int .i64 (x : Int)) ?hi8b (by kernel_rfl) ?hq8b ?hy8b (by assumption) ?rest8b
          case hi8b => (simp only [List.getElem?_toArray, List.getElem?_cons_succ, List.getElem?_cons_zero]; first | done | rfl)
          case hq8b => exact fun _ _ _ h => h
          case hy8b => (refine Or.inl ⟨by rfl, ?_⟩; intro wz hSw; obtain ⟨hS1, hS2, hS3⟩ := hSw; go_simp; first | done | with_reducible rfl | simp | omega)
          try simp only [Act.put, List.setIfInBounds_toArray, List.set_cons_zero, List.set_cons_succ]
          refine anyT_take (i := 9) (oi := ?oi9b) (v := .pointer (some ⟨hb, x, none⟩)) ?hi9b (by kernel_rfl) ?hq9b ?hy9b (by assumption) ?rest9b
          case hi9b => (simp only [List.getElem?_toArray, List.getElem?_cons_succ, List.getElem?_cons_zero]; first | done | rfl)
          case hq9b => exact fun _ _ _ h => h
          case hy9b => (refine Or.inl ⟨by rfl, ?_⟩; intro wz hSw; obtain ⟨hS1, hS2, hS3⟩ := hSw; go_simp; first | done | with_reducible rfl | simp | omega)
          try simp only [Act.put, List.setIfInBounds_toArray, List.set_cons_zero, List.set_cons_succ]
          refine anyT_take (i := 10) (oi := ?oi10b) (v := .int .i64 (h2[x]?.getD 0)) ?hi10b (by kernel_rfl) ?hq10b ?hy10b (by assumption) ?rest10b
          case hi10b => (simp only [List.getElem?_toArray, List.getElem?_cons_succ, List.getElem?_cons_zero]; first | done | rfl)
          case hq10b => exact fun _ _ _ h => h
          case hy10b => (refine Or.inl ⟨by rfl, ?_⟩; intro wz hSw; obtain ⟨hS1, hS2, hS3⟩ := hSw; go_simp; first | done | with_reducible rfl | simp | omega)
          try simp only [Act.put, List.setIfInBounds_toArray, List.set_cons_zero, List.set_cons_succ]
          refine anyT_one (i := 11) (by kernel_rfl) rfl (fun K' hK => ?_)
          simp only [findV]
          go_simp
          obtain ⟨y, hy⟩ : ∃ y : Nat, h2[x]?.getD 0 = (y : Int) := ⟨(h2[x]?.getD 0).toNat, by omega⟩
          have hyn : y < n := by omega
          have hcall := ih y h2 (s2.set x true) (orI as2 (powI (x : Int))) _ hyn hOk2 hSe3 (by omega) bO4 bA4 bL4 bF4 hZ4 hC4
          have hkeep := mateF_keep zs (j := x) f y h2 (s2.set x true) (by rw [List.getElem?_set_self (by rw [hSe2.1]; exact hxn)]; rfl)
          have hkp := Hrok.out y h2 (s2.set x true) hyn hOk2 hSe3.1
          rw [if_neg hneg, hy, Int.toNat_natCast] at hg
          rw [← hy] at hcall
          obtain ⟨R, hR⟩ : ∃ R, mateF zs f y h2 (s2.set x true) = R := ⟨_, rfl⟩
          rw [hR] at hcall hkeep hkp hg
          have Hhy := Lib.hid hy
          have HR := Lib.hid hR
          clear hy hR
          obtain ⟨c, Lh, Ls⟩ := R
          simp only at hcall hkeep hkp hg
          refine hcall.mono ?_
          rintro e w6 ⟨rfl, hC6, ⟨as6, hSe6, bA6⟩, hU6⟩
          have hV6 := (hV4.mono (S := fun k => k = hb ∨ k = ba) fun _ _ e => .inr e).trans' hU6 (fun i hi e => e)
          have hW6 := hU4.trans' hU6 (fun i hi e => e)
          have bL6 := hU6.boxed bL4 (fun e => by omega)
          have bF6 := hU6.boxed bF4 (fun e => by omega)
          have bI6 := hU6.boxed bI4 (fun e => by omega)
          have bR6 := hU6.boxed bR4 (fun e => by omega)
          refine hK.out _ _ (fun _ => ⟨bL6.cell, by rw [← hkeep.1]; exact hC6.cell hxn, bF6.cell⟩) ?_
          clear hK K' hcall
          try simp only [Act.put, List.setIfInBounds_toArray, List.set_cons_zero, List.set_cons_succ]
          cases c
          · refine anyT_one (i := 12) (by kernel_rfl) rfl (fun K' hK => ?_)
            go_simp
            refine hK.out _ _ (fun h => absurd rfl h) ?_
            clear hK K'
            try simp only [Act.put, List.setIfInBounds_toArray, List.set_cons_zero, List.set_cons_succ]
            refine anyT_done (by kernel_rfl) ?_ _
            clear hHold
            simp only [Bool.false_eq_true, if_false] at hg
            have Hg2 := Lib.hid (show mateG zs (mateF zs f) low (n - nxB (pre ++ [x])) (nxB (pre ++ [x])) Lh Ls = r by rw [hd2, hnx]; exact hg)
            have hkp2 : unseen Ls ≤ unseen seen := Nat.le_trans hkp.2.2 (by omega)
            clear hg hd hd2
            gi_wp2
            exact ⟨D1, ⟨Lh, hkp.1, Ls, as6, hSe6, hkp2, Hg2, hC6, bA6, hW6⟩, hV6.mono fun _ _ e => .inl (by omega), fun k hk => .inl hk⟩
          · refine anyT_one (i := 12) (by kernel_rfl) rfl (fun K' hK => ?_)
            go_simp
            refine hK.out _ _ (fun h => absurd rfl h) ?_
            clear hK K'
            try simp only [Act.put, List.setIfInBounds_toArray, List.set_cons_zero, List.set_cons_succ]
            refine anyT_done (by kernel_rfl) ?_ _
            simp only [if_true] at hg
            have hcI6 := bI6.cell
            have hcR6 := bR6.cell
            have hfR6 := bR6.frozen
            have hfH6 := hC6.frozen x
            have hcH6 := hC6.cell hxn
            have hcL6 := bL6.cell
            clear hHold
            gi_wp2
            have hs1 : Upd (fun k => k = hb) w6 (w6.setCell ⟨hb, x, none⟩ (.int .i64 (low : Int))) := (Upd.refl (fun k => k = hb) w6).setCell (p := ⟨hb, x, none⟩) (.inr rfl) _
            have hs2 : Upd (fun k => k = w.heap.size + 1) (w6.setCell ⟨hb, x, none⟩ (.int .i64 (low : Int))) ((w6.setCell ⟨hb, x, none⟩ (.int .i64 (low : Int))).setCell ⟨w.heap.size + 1, 0, none⟩ (.bool true)) := (Upd.refl (fun k => k = w.heap.size + 1) _).setCell (p := ⟨w.heap.size + 1, 0, none⟩) (.inr rfl) _
            have hCe := (hC6.set x (low : Int)).upd hs2 (fun e => by omega)
            have bAe := hs2.boxed (hs1.boxed bA6 (fun e => d9 e)) (fun e => by omega)
            have bRe := (hs1.boxed bR6 (fun e => by omega)).set (.bool true)
            refine ⟨D1, ⟨rfl, by rw [← hg], by rw [← hg]; exact hCe, ⟨as6, by rw [← hg]; exact hSe6, bAe⟩, bRe, ?_⟩, ?_, fun k hk => .inl hk⟩
            · exact (((hW6.mono (S := fun k => k = hb ∨ k = ba ∨ k = w.heap.size + 1) fun _ _ e => by omega).trans' hs1 (fun i hi e => .inl e)).trans' hs2 (fun i hi e => .inr (.inr e)))
            · exact (((hV6.mono (S := fun k => (k = hb ∨ k = ba ∨ k = w.heap.size + 1) ∨ D1 k ∨ W.heap.size ≤ k) fun _ _ e => .inl (by omega)).trans' hs1 (fun i hi e => .inl (.inl e))).trans' hs2 (fun i hi e => .inl (.inr (.inr e))))

      · rw [hsx, hsb] at hg
        simp only [if_true] at hg
        have Hg2 := Lib.hid (show mateG zs (mateF zs f) low (n - nxB (pre ++ [x])) (nxB (pre ++ [x])) h2 s2 = r by rw [hd2, hnx]; exact hg)
        have Hsb := Lib.hid hsb
        clear hg Hg hd hd2 hsb
        gi_wp2_with fail
        refine (CallsIn.inRound l1 (callsIn_wide.2 (has_any _ _ _ (by omega) (by omega) (by omega) (by omega)))).mono ?_
        rw [Hsb.out]
        rintro e w' ⟨rfl, rfl⟩
        gi_wp2
        exact ⟨D1, ⟨h2, s2, as2, hOk2, hSe2, hus, Hg2, hC2, bA2, hU⟩, Upd.refl _ _, fun k hk => .inl hk⟩
    case done =>
      rintro d D1 W hd ⟨h2, s2, as2, hOk2, hSe2, hus, Hg, hC2, bA2, hU⟩ hD1 hKd
      have bR2 := hU.boxed bR1 (fun e => by omega)
      have hcR := bR2.cell
      have hfR := bR2.frozen
      have hle := nxB_le hz.1 hz.2 hz64.2
      have hg : (false, h2, s2) = r := by
        rw [← Hg.out, skip_none (n - nxB (itemsL z)) (nxB (itemsL z)) (by omega) (fun j h1 h2 => by rw [Hzz.out]; exact end_none hz64.2 h1), show nxB (itemsL z) + (n - nxB (itemsL z)) = n by omega, Nat.sub_self]; rfl
      have Hgr := Lib.hid hg
      clear hg Hg
      gi_wp2
      have hus2 : Upd (fun k => k = w.heap.size + 1) W (W.setCell ⟨w.heap.size + 1, 0, none⟩ (.bool false)) := (Upd.refl (fun k => k = w.heap.size + 1) W).setCell (p := ⟨w.heap.size + 1, 0, none⟩) (.inr rfl) _
      have hC3 := hC2.upd hus2 (fun e => by omega)
      have bA3 := hus2.boxed bA2 (fun e => by omega)
      refine leaves_marks [d] _ ⟨by simp, fun b hb => ?_⟩ (fun W' hu' => ?_)
      · rw [List.mem_singleton.1 hb]
        exact (hus2.block d (Array.getElem?_eq_some_iff.1 hKd).1 (by omega)).trans hKd
      · have hc' := (hu'.boxed (bR2.set (.bool false)) (by simp; omega)).cell
        rw [← Hgr.out]
        exact ⟨.bool false, by simp [results, Try.f164, go_sem, hc'], rfl, hC3.upd hu' (fun e => by simp at e; omega), ⟨as2, hSe2, hu'.boxed bA3 (fun e => by simp at e; omega)⟩,
          (((hu1.mono (S := fun k => k = hb ∨ k = ba) fun _ _ e => e.elim).trans' hU (fun i hi e => e)).trans' hus2 (fun i hi e => by omega)).trans' hu' (fun i hi e => by simp at e; omega)⟩
    case stop =>
      rintro d D1 co pre W hd hpre ⟨rfl, hr1, hC2, ⟨as2, hSe2, bA2⟩, bR2, hU⟩ hD1 hKd
      have Hr1 := Lib.hid hr1
      clear hr1
      gi_wp2
      refine leaves_marks [d] _ ⟨by simp, fun b hb => ?_⟩ (fun W' hu' => ?_)
      · rw [List.mem_singleton.1 hb]
        exact hKd
      · have hc' := (hu'.boxed bR2 (by simp; omega)).cell
        exact ⟨.bool true, by simp [results, Try.f164, go_sem, hc'], by rw [Hr1.out], hC2.upd hu' (fun e => by simp at e; omega), ⟨as2, hSe2, hu'.boxed bA2 (fun e => by simp at e; omega)⟩,
          ((hu1.mono (S := fun k => k = hb ∨ k = ba) fun _ _ e => e.elim).trans' hU (fun i hi e => by omega)).trans' hu' (fun i hi e => by simp at e; omega)⟩
end Go.Proofs.Ytghogabmkbadjab

/- Texts that several claims share, one behind the other. -/
import Derived.Test.YtghogabmkbadjabGxq
import Derived.Test.YtghogabmkbadjabGd
import Derived.Test.YtghogabmkbadjabGxh
import Derived.WalkMore
import Derived.Test.YtghogabmkbadjabGxo
import Derived.Test.YtghogabmkbadjabGa
set_option linter.unusedVariables false
set_option linter.unusedSimpArgs false
/- The side of an order: the program's. -/
namespace Go.Proofs.Ytghogabmkbadjab
open Go.RowKit Go.Shelf
attribute [local go_sem] Oper.semAt_some
attribute [local go_sem, local simp] wide_fn

/-- The sets of the list, with F put to those of the items gone through. -/
def stT (S : List Int) (F : Int) (pre : List Nat) : List Int := pre.foldl (fun t x => t.set x (orI (t[x]?.getD 0) F)) S
theorem stT_snoc (S : List Int) (F : Int) (pre : List Nat) (x : Nat) : stT S F (pre ++ [x]) = (stT S F pre).set x (orI ((stT S F pre)[x]?.getD 0) F) := by simp [stT]
theorem orI_idem (z F : Int) : orI (orI z F) F = orI z F := by unfold orI; simp [Nat.or_assoc]
theorem stT_get {F : Int} {x : Nat} : ∀ (pre : List Nat) (S : List Int), x < S.length → (stT S F pre).length = S.length ∧ (stT S F pre)[x]?.getD 0 = if x ∈ pre then orI (S[x]?.getD 0) F else S[x]?.getD 0
  | [], S, hx => ⟨rfl, by simp [stT]⟩
  | a :: pre, S, hx => by
    have ih := stT_get (F := F) pre (S.set a (orI (S[a]?.getD 0) F)) (x := x) (by simpa using hx)
    have e : stT S F (a :: pre) = stT (S.set a (orI (S[a]?.getD 0) F)) F pre := rfl
    rw [e]
    refine ⟨by simpa using ih.1, ih.2.trans ?_⟩
    by_cases hax : a = x
    · subst hax
      rw [List.getElem?_set_self hx, Option.getD_some, orI_idem]
      simp
    · rw [List.getElem?_set_ne hax]
      have h1 : (x ∈ a :: pre) ↔ x ∈ pre := by
        rw [List.mem_cons]
        exact ⟨fun h => h.resolve_left (fun e => hax e.symm), .inr⟩
      by_cases hm : x ∈ pre
      · rw [if_pos hm, if_pos (h1.2 hm)]
      · rw [if_neg hm, if_neg (fun h => hm (h1.1 h))]
theorem stT_len (S : List Int) (F : Int) (pre : List Nat) : (stT S F pre).length = S.length := by
  rcases Nat.eq_zero_or_pos S.length with h | h
  · have : S = [] := List.eq_nil_of_length_eq_zero h
    subst this
    unfold stT
    induction pre with
    | nil => rfl
    | cons a pre ih => rw [List.foldl_cons]; exact ih
  · exact (stT_get (x := 0) pre S h).1
theorem stT_all {S : List Int} {lo hi : Nat} (h : VoP S) (hl : lo < S.length) : stT S (folS S hi) (itemsL (belS S lo)) = stepS S lo hi := by
  have hn6 := h.1
  have hp64 := powI_le6 (n := (S.length : Int)) (by omega)
  have hb := belS_bd h hl
  refine List.ext_getElem? fun x => ?_
  rcases Nat.lt_or_ge x S.length with hx | hx
  · have h1 := (stT_get (F := folS S hi) (itemsL (belS S lo)) S hx)
    have h2 := stepS_get (lo := lo) (hi := hi) hx
    have x1 : x < (stT S (folS S hi) (itemsL (belS S lo))).length := by rw [h1.1]; exact hx
    have x2 : x < (stepS S lo hi).length := by rw [stepS_len]; exact hx
    have g1 := h1.2
    rw [List.getElem?_eq_getElem x1, Option.getD_some] at g1
    rw [List.getElem?_eq_getElem x2, Option.getD_some] at h2
    rw [List.getElem?_eq_getElem x1, List.getElem?_eq_getElem x2, g1, h2]
    congr 1
    have hm : x ∈ itemsL (belS S lo) ↔ bitB (belS S lo) (x : Int) = true := mem_itemsL (by omega)
    cases hbx : bitB (belS S lo) (x : Int)
    · rw [if_neg (fun e => by rw [hm.1 e] at hbx; cases hbx)]; simp
    · rw [if_pos (hm.2 hbx), if_pos rfl]
  · rw [List.getElem?_eq_none (by rw [stT_len]; exact hx), List.getElem?_eq_none (by rw [stepS_len]; exact hx)]
theorem sdTo_none {zs : List Int} {c i : Nat} (h : sdTo zs c i = none) : ∀ d : Nat, sdTo zs c (i + d) = none
  | 0 => h
  | d + 1 => by
    rw [← Nat.add_assoc]
    unfold sdTo
    rw [sdTo_none h d]; rfl
theorem sdF_at {zs : List Int} {q : Nat} {S : List Int} (hq : q < 2 ^ (prA zs).length) (hno : ∀ q', q' < q → sdC zs q' = none) (hS : sdC zs q = some S) : sdF zs = some S := by
  cases e : sdF zs with
  | none =>
    unfold sdF at e
    rw [List.findSome?_eq_none_iff] at e
    rw [e q (List.mem_range.2 hq)] at hS; cases hS
  | some T =>
    obtain ⟨i, hi, e1, e2⟩ := find_first _ e
    simp only [List.getElem_range, List.length_range] at e1 e2 hi
    rcases Nat.lt_trichotomy i q with h | h | h
    · rw [hno i h] at e1; cases e1
    · subst h; rw [hS] at e1; exact e1.symm
    · rw [e2 q h] at hS; cases hS
theorem prA_len {zs : List Int} (h : VoP zs) : (prA zs).length ≤ 36 := by
  have h1 := prF_len zs (List.range zs.length).reverse
  rw [prF_all] at h1
  have := h.1
  simp at h1
  omega
theorem stepR_scope {P : Program} {b : Frame} {a : Act} {k : List Item} {cs : List Frame} {w : World} {c : Code} : step P (lone (b.atR a (.code (.scope c) :: k)) cs w) = .next (lone (b.atR a (.code c :: .inScope c :: k)) cs w) :=
  step_lone_go (by simp [stepG, stepG.exec, Frame.atR])
theorem stepR_inScope {P : Program} {b : Frame} {a : Act} {k : List Item} {cs : List Frame} {w : World} {c : Code} : step P (lone (b.atR a (.inScope c :: k)) cs w) = .next (lone (b.atR a k) cs w) :=
  step_lone_go (by simp [stepG, stepG.exec, Frame.atR])
/-- A scope through which the run goes without a goto. -/
theorem wpIn_scope {F : Fence} {n : Nat} {P : Program} {Q : Exit → Act → World → Prop} {a : Act} {w : World} {c : Code} (h : c.wpIn F n P (Exit.noGoto Q) a w) : (Code.scope c).wpIn F n P Q a w := by
  intro b k cs hro hb hr
  have h0 : (lone (b.atR a (.code (.scope c) :: k)) cs w).fenced P F := fenced_calm hb hr rfl
  obtain ⟨e, a₁, w₁, hq, harr⟩ := h b (.inScope c :: k) cs hro hb hr
  cases e with
  | normal => exact ⟨.normal, a₁, w₁, hq, .head h0 stepR_scope (StepsIn.trans harr (.one (fenced_calm hb hr rfl) stepR_inScope))⟩
  | exit id =>
    have hx : exitTo id (.inScope c :: k) = exitTo id k := by simp [exitTo]
    exact ⟨.exit id, a₁, w₁, hq, fun k' hk => .head h0 stepR_scope (harr.1 k' (by rw [hx]; exact hk)),
      fun hr' hk => let ⟨k₁, h1, h2⟩ := harr.2 hr' (by rw [hx]; exact hk); ⟨k₁, h1, .head h0 stepR_scope h2⟩⟩
  | goto l => exact hq.elim
  | ret => exact ⟨_, a₁, w₁, hq, .of_steps (.one h0 stepR_scope) harr⟩
  | panic ch => exact ⟨_, a₁, w₁, hq, .of_steps (.one h0 stepR_scope) harr⟩
  | outgrown => exact ⟨_, a₁, w₁, hq, .of_steps (.one h0 stepR_scope) harr⟩
theorem region_T_out {m : Nat} {P : Program} {Q : Exit → Act → World → Prop} {S : World → Prop} {id : Nat} {a : Act} {w : World} {l : List Oper} (z : Nat) (hm : P.follows .mixedOrders = true) (hQ : ¬ LetsOut Q)
    (h : anyT P .any l.toArray Q S z l.toArray.size (Array.replicate l.toArray.size false) a w.drew) : (Code.region id l.toArray true).wpIn Fence.wide m P Q a w :=
  wpIn_region_any hm (any_wide hQ _ _ _ _ (any_of_T _ _ _ _ h))

theorem out_norm {F : Fence} {n : Nat} {P : Program} {K : Act → World → Prop} {Q : Exit → Act → World → Prop} {a : Act} {w : World} {c : Code} (h : c.wpIn F n P (fun e a w => e = Exit.normal ∧ K a w) a w) : c.wpIn F n P (Exit.then K Q) a w :=
  Code.wpIn_mono (Q := fun e a w => e = Exit.normal ∧ K a w) (fun e a w h => by obtain ⟨e1, h2⟩ := h; subst e1; exact h2) h

set_option maxRecDepth 100000 in
set_option maxHeartbeats 8000000 in
theorem side_any (A : Option Addr) (n c : Nat) (zs : List Int) (hvo : VoP zs) (w : World) (hA : Ints w w.heap.size A n zs) :
    Calls Try.prog 125 #[.slice A n c] w fun e W' => ((sdF zs = none ∧ e = .returned (.tuple #[.slice none 0 0, .bool false])) ∨
      ∃ T b, sdF zs = some T ∧ e = .returned (.tuple #[.slice (some ⟨b, 0, none⟩) n n, .bool true]) ∧ w.heap.size ≤ b ∧ Arr W' b 76 T) ∧ Below w.heap.size w W' := by
  have hlen := Lib.hid hA.len
  have hn6 : n ≤ 6 := by have := hvo.1; rw [hlen.out] at this; exact this
  have hmk := run_make_row' (P := Try.prog) 49 76 (.int .i64 0) 8 Try.underlying49 infoItems rfl .i64 .i64 n (by omega) (by omega)
  refine (callsIn_wide (n := 9)).1 ?_
  refine callsIn_of_wp_marks Try.func125 rfl trivial ?_ rfl
  simp only [Try.ntmps125, List.size_toArray, List.length_cons, List.length_nil, Nat.reduceAdd, Nat.reduceSub, Array.replicate_succ, Array.replicate_zero, List.push_toArray, List.append_toArray, List.nil_append, List.cons_append]
  have bO1 := Boxed.new w 49 (.slice A n c)
  have hU1 : Upd (fun _ => False) w (w.alloc (.cells #[Value.slice A n c] 49)) := (Upd.refl _ w).alloc _
  have hs1 : (w.alloc (.cells #[Value.slice A n c] 49)).heap.size = w.heap.size + 1 := by simp
  have hcO1 := bO1.cell
  gi_wp2
  refine wpIn_scope ?_
  gi_wp2_with fail
  have hA1 : Ints (w.alloc (.cells #[Value.slice A n c] 49)) (w.alloc (.cells #[Value.slice A n c] 49)).heap.size A n zs := hA.to (hU1.toBelow (fun _ e => e.elim) (Nat.le_refl _)) (Nat.le_refl _) (by omega)
  obtain ⟨w1, hw1⟩ : ∃ w1, w.alloc (.cells #[Value.slice A n c] 49) = w1 := ⟨_, rfl⟩
  rw [hw1] at bO1 hU1 hs1 hA1 ⊢
  clear hw1 hcO1
  refine (callsIn_wide.2 (pairsApart_any A n c zs hvo w1 hA1)).mono ?_
  rintro e W0 ⟨V, rfl, hP, hB2⟩
  have z2 := hB2.size
  have bO := (Below.toUpd hB2).boxed bO1 (fun e => by omega)
  have hU0 : Upd (fun _ => False) w W0 := hU1.below hB2 (fun k h1 h2 => by omega)
  have hA0 : Ints W0 w.heap.size A n zs := hA.below (hU0.toBelow (fun _ e => e.elim) (Nat.le_refl _))
  have Hm36 := Lib.hid (prA_len hvo)
  have hcP : ∀ i, i < (prA zs).length → ∃ g cp, V = .slice (some ⟨g, 0, none⟩) (prA zs).length cp ∧ g < W0.heap.size ∧ W0.cell? ⟨g, i * 2, none⟩ = some (.int .i64 (((prA zs)[i]?.getD (0, 0)).1 : Int)) ∧ W0.cell? ⟨g, i * 2 + 1, none⟩ = some (.int .i64 (((prA zs)[i]?.getD (0, 0)).2 : Int)) := fun i hi => by
    rcases hP.2.2 with ⟨_, e⟩ | ⟨g, cap, cur, e, hg, hc, _, _, _, ht⟩
    · omega
    · have h2 := flP_at (prA zs) hi
      have hcell : ∀ j u, j < (prA zs).length * 2 → (flP (prA zs))[j]? = some u → W0.cell? ⟨g, j, none⟩ = some u := fun j u hj hu => by
        rw [cell_of_row _ _ _ _ _ _ hc]
        rw [← ht, List.getElem?_take, if_pos hj] at hu
        simpa using hu
      exact ⟨g, cap, e, (Array.getElem?_eq_some_iff.1 hc).1, hcell _ _ (by omega) h2.1, hcell _ _ (by omega) h2.2⟩
  have hVs : ∃ Ag cp, V = .slice Ag (prA zs).length cp := by
    rcases hP.2.2 with ⟨e, e2⟩ | ⟨g, cap, cur, e, _⟩
    · exact ⟨none, 0, by rw [e, e2]⟩
    · exact ⟨_, cap, e⟩
  have HcP := Lib.hid hcP
  clear hcP hP hB2 hU1 bO1 hA1 z2
  have Hzz := Lib.hid (show w.heap.size < W0.heap.size from bO.lt)
  obtain ⟨m, hm⟩ : ∃ m, (prA zs).length = m := ⟨_, rfl⟩
  have Hm := Lib.hid hm
  rw [hm] at HcP hVs Hm36
  obtain ⟨Ag, cp, hV⟩ := hVs
  subst hV
  clear hm
  gi_wp2
  refine wpIn_label ?_
  have hmin : min m 64 = m := Nat.min_eq_left (by have := Hm36.out; omega)
  obtain ⟨N, hN⟩ : ∃ N : Nat, 2 ^ m = N := ⟨_, rfl⟩
  have hN36 : N ≤ 68719476736 := by rw [← hN]; exact Nat.pow_le_pow_right (n := 2) (by decide) Hm36.out
  have hwN : wrap64 (2 ^ min m 64) = (N : Int) := by
    rw [hmin]
    have e : (2 : Int) ^ m = (N : Int) := by rw [← hN, Int.natCast_pow]; rfl
    rw [e]; exact IntWalk.wrap64_in _ ⟨by omega, by omega⟩
  have HN := Lib.hid hN
  clear hN hmin
  gi_wp2
  rw [hwN]
  clear hwN
  refine wpIn_loop (fun a' wr => ∃ (q : Nat) (bs : List Nat) (v5 v6 v7 v8 v9 v10 v11 v12 v18 v19 v20 v21 v22 v23 v24 v25 v26 v27 v28 v29 v30 v31 v32 v33 v34 v35 v36 v37 v38 v39 v40 v41 v42 v43 v44 v45 v46 v47 v48 v49 v50 v51 v52 v53 v54 v55 v56 v57 v58 v59 v60 v61 v62 v63 v64 v65 v66 v67 v68 v69 : Value),
      (q ≤ N ∧ v18 = .int .i64 (q : Int) ∧ (∀ q', q' < q → sdC zs q' = none) ∧ Upd (fun _ => False) W0 wr ∧ Open bs wr ∧ (∀ j ∈ bs, W0.heap.size ≤ j)) ∧
      a' = { tmps := List.toArray (.slice A n c :: .pointer (some ⟨w.heap.size, 0, none⟩) :: .slice none 0 0 :: .bool false :: .slice Ag m cp :: v5 :: v6 :: v7 :: v8 :: v9 :: v10 :: v11 :: v12 :: .slice A n c :: .slice Ag m cp :: .slice Ag m cp :: .int .i64 (m : Int) :: .int .i64 (N : Int) :: v18 :: v19 :: v20 :: v21 :: v22 :: v23 :: v24 :: v25 :: v26 :: v27 :: v28 :: v29 :: v30 :: v31 :: v32 :: v33 :: v34 :: v35 :: v36 :: v37 :: v38 :: v39 :: v40 :: v41 :: v42 :: v43 :: v44 :: v45 :: v46 :: v47 :: v48 :: v49 :: v50 :: v51 :: v52 :: v53 :: v54 :: v55 :: v56 :: v57 :: v58 :: v59 :: v60 :: v61 :: v62 :: v63 :: v64 :: v65 :: v66 :: v67 :: v68 :: v69 :: []), defers := marks bs })
    (fun a' _ => N - (intOf (a'.tmps.getD 18 undef)).toNat) ?_ ?_
  · exact ⟨0, [], _, _, _, _, _, _, _, _, _, _, _, _, _, _, _, _, _, _, _, _, _, _, _, _, _, _, _, _, _, _, _, _, _, _, _, _, _, _, _, _, _, _, _, _, _, _, _, _, _, _, _, _, _, _, _, _, _, _, _, _, ⟨by omega, rfl, fun q' h => by omega, Upd.refl _ _, ⟨List.nodup_nil, fun _ e => by cases e⟩, fun _ e => by cases e⟩, rfl⟩
  · rintro a' wr ⟨q, bs, v5, v6, v7, v8, v9, v10, v11, v12, v18, v19, v20, v21, v22, v23, v24, v25, v26, v27, v28, v29, v30, v31, v32, v33, v34, v35, v36, v37, v38, v39, v40, v41, v42, v43, v44, v45, v46, v47, v48, v49, v50, v51, v52, v53, v54, v55, v56, v57, v58, v59, v60, v61, v62, v63, v64, v65, v66, v67, v68, v69, ⟨hq, rfl, hno, hU, hop, hbs⟩, rfl⟩
    have Hno := Lib.hid hno
    clear hno
    have hzr := hU.size
    have bOr := hU.boxed bO (fun e => e)
    by_cases hlt : q < N
    · have hcO := bOr.cell
      have hbs1 : ∀ j ∈ bs, j < wr.heap.size := fun j hj => (Array.getElem?_eq_some_iff.1 (hop.2 j hj)).1
      have hcO1 := (bOr.alloc (.cells (madeCells #[.int .i64 0] n) 76)).cell
      gi_wp2
      have hcO2 := hcO1
      clear hcO1 hcO2
      have hA1 : Arr (wr.alloc (.cells (madeCells #[.int .i64 0] n) 76)) wr.heap.size 76 (zr n) := Arr.new wr 76 n
      have hA2 := hA1.alloc (.cells #[Value.slice (some ⟨wr.heap.size, 0, none⟩) n n] 49)
      have bS2 := Boxed.new (wr.alloc (.cells (madeCells #[.int .i64 0] n) 76)) 49 (.slice (some ⟨wr.heap.size, 0, none⟩) n n)
      have huw : Upd (fun _ => False) wr ((wr.alloc (.cells (madeCells #[.int .i64 0] n) 76)).alloc (.cells #[Value.slice (some ⟨wr.heap.size, 0, none⟩) n n] 49)) := ((Upd.refl _ wr).alloc _).alloc _
      have hzw : ((wr.alloc (.cells (madeCells #[.int .i64 0] n) 76)).alloc (.cells #[Value.slice (some ⟨wr.heap.size, 0, none⟩) n n] 49)).heap.size = wr.heap.size + 2 := by simp
      simp only [World.size_alloc] at bS2
      obtain ⟨W1, hW1⟩ : ∃ W1, (wr.alloc (.cells (madeCells #[.int .i64 0] n) 76)).alloc (.cells #[Value.slice (some ⟨wr.heap.size, 0, none⟩) n n] 49) = W1 := ⟨_, rfl⟩
      rw [hW1] at hA2 bS2 huw hzw ⊢
      clear hW1 hA1
      have hop1 := hop.upd huw (fun _ _ e => e)
      have hU1 := hU.trans huw
      have h0S : sdTo zs q 0 = some (zr n) := by unfold sdTo; rw [hlen.out]
      clear hcO
      refine wpIn_loop (fun a' wx => ∃ (i : Nat) (S : List Int) (bs : List Nat) (v7 v8 v9 v10 v11 v12 v26 v27 v28 v29 v30 v31 v32 v33 v34 v35 v36 v37 v38 v39 v40 v41 v42 v43 v44 v45 v46 v47 v48 v49 v50 v51 v52 v53 v54 v55 v56 v57 v58 v59 v60 v61 v62 v63 v64 v65 v66 v67 v68 v69 : Value),
          (i ≤ m ∧ v26 = .int .i64 (i : Int) ∧ sdTo zs q i = some S ∧ Arr wx wr.heap.size 76 S ∧ Boxed wx (wr.heap.size + 1) 49 (.slice (some ⟨wr.heap.size, 0, none⟩) n n) ∧ Upd (fun _ => False) W0 wx ∧ wr.heap.size + 2 ≤ wx.heap.size ∧ Open bs wx ∧ (∀ j ∈ bs, W0.heap.size ≤ j ∧ j ≠ wr.heap.size ∧ j ≠ wr.heap.size + 1)) ∧
          a' = { tmps := List.toArray (.slice A n c :: .pointer (some ⟨w.heap.size, 0, none⟩) :: .slice none 0 0 :: .bool false :: .slice Ag m cp :: .int .i64 (q : Int) :: .pointer (some ⟨wr.heap.size + 1, 0, none⟩) :: v7 :: v8 :: v9 :: v10 :: v11 :: v12 :: .slice A n c :: .slice Ag m cp :: .slice Ag m cp :: .int .i64 (m : Int) :: .int .i64 (N : Int) :: .int .i64 (q : Int) :: .bool true :: .int .i64 (q : Int) :: .slice A n c :: .int .i64 (n : Int) :: .slice (some ⟨wr.heap.size, 0, none⟩) n n :: .slice Ag m cp :: .int .i64 (m : Int) :: v26 :: v27 :: v28 :: v29 :: v30 :: v31 :: v32 :: v33 :: v34 :: v35 :: v36 :: v37 :: v38 :: v39 :: v40 :: v41 :: v42 :: v43 :: v44 :: v45 :: v46 :: v47 :: v48 :: v49 :: v50 :: v51 :: v52 :: v53 :: v54 :: v55 :: v56 :: v57 :: v58 :: v59 :: v60 :: v61 :: v62 :: v63 :: v64 :: v65 :: v66 :: v67 :: v68 :: v69 :: []), defers := marks bs })
        (fun a' _ => m - (intOf (a'.tmps.getD 26 undef)).toNat) ?_ ?_
      · exact ⟨0, zr n, bs, _, _, _, _, _, _, _, _, _, _, _, _, _, _, _, _, _, _, _, _, _, _, _, _, _, _, _, _, _, _, _, _, _, _, _, _, _, _, _, _, _, _, _, _, _, _, _, _, _, _, ⟨by omega, rfl, h0S, hA2, bS2, hU1, by omega, hop1, fun j hj => by have := hbs j hj; have := hbs1 j hj; omega⟩, rfl⟩
      · clear hA2 bS2 huw hzw hop1 hU1 h0S hop hbs hbs1
        rintro a' wx ⟨i, S, bs, v7, v8, v9, v10, v11, v12, v26, v27, v28, v29, v30, v31, v32, v33, v34, v35, v36, v37, v38, v39, v40, v41, v42, v43, v44, v45, v46, v47, v48, v49, v50, v51, v52, v53, v54, v55, v56, v57, v58, v59, v60, v61, v62, v63, v64, v65, v66, v67, v68, v69, ⟨hi, rfl, hS, hA1, bS1, hU1, zx, hop1, hbs1⟩, rfl⟩
        by_cases hlti : i < m
        · have him : i < (prA zs).length := by rw [Hm.out]; exact hlti
          obtain ⟨g, cp', eV, hg, hc1, hc2⟩ := HcP.out i hlti
          cases eV
          have hk1 := hU1.cell hc1 (fun e => e)
          have hk2 := hU1.cell hc2 (fun e => e)
          have hinv := (sdTo_inv hvo (Nat.le_of_lt him) hS).1
          have harc := arc_ok hvo (c := q) him
          have Harc := Lib.hid (show arcA zs q i = arcC q i ((prA zs)[i]?.getD (0, 0)) from rfl)
          generalize (prA zs)[i]?.getD (0, 0) = p at *
          obtain ⟨pa, pb⟩ := p
          have Hm36' := Hm36.out
          gi_wp2
          have hbk := heap_alloc_new wx (.cells #[Value.int .i64 (pa : Int), .int .i64 (pb : Int)] 127)
          have hq0 : (wx.alloc (.cells #[Value.int .i64 (pa : Int), .int .i64 (pb : Int)] 127)).drew.cell? ⟨wx.heap.size, 0, none⟩ = some (.int .i64 (pa : Int)) := by show World.cell? _ _ = _; rw [show (wx.alloc (.cells #[Value.int .i64 (pa : Int), .int .i64 (pb : Int)] 127)).drew.cell? ⟨wx.heap.size, 0, none⟩ = (wx.alloc (.cells #[Value.int .i64 (pa : Int), .int .i64 (pb : Int)] 127)).cell? ⟨wx.heap.size, 0, none⟩ from rfl, cell_of_row _ _ 0 _ _ (0, 0) hbk]; rfl
          have hq1 : (wx.alloc (.cells #[Value.int .i64 (pa : Int), .int .i64 (pb : Int)] 127)).drew.cell? ⟨wx.heap.size, 1, none⟩ = some (.int .i64 (pb : Int)) := by rw [show (wx.alloc (.cells #[Value.int .i64 (pa : Int), .int .i64 (pb : Int)] 127)).drew.cell? ⟨wx.heap.size, 1, none⟩ = (wx.alloc (.cells #[Value.int .i64 (pa : Int), .int .i64 (pb : Int)] 127)).cell? ⟨wx.heap.size, 1, none⟩ from rfl, cell_of_row _ _ 1 _ _ (0, 0) hbk]; rfl
          have bSq : Boxed (wx.alloc (.cells #[Value.int .i64 (pa : Int), .int .i64 (pb : Int)] 127)).drew (wr.heap.size + 1) 49 (.slice (some ⟨wr.heap.size, 0, none⟩) n n) := bS1.alloc _
          have hAq : Arr (wx.alloc (.cells #[Value.int .i64 (pa : Int), .int .i64 (pb : Int)] 127)).drew wr.heap.size 76 S := hA1.alloc _
          have hUq : Upd (fun _ => False) W0 (wx.alloc (.cells #[Value.int .i64 (pa : Int), .int .i64 (pb : Int)] 127)).drew := (hU1.alloc _).drew
          have hopq : Open bs (wx.alloc (.cells #[Value.int .i64 (pa : Int), .int .i64 (pb : Int)] 127)).drew := hop1.upd ((Upd.refl (fun _ => False) wx).alloc (.cells #[Value.int .i64 (pa : Int), .int .i64 (pb : Int)] 127)).drew (fun _ _ e => e)
          have hzq : wr.heap.size + 2 ≤ (wx.alloc (.cells #[Value.int .i64 (pa : Int), .int .i64 (pb : Int)] 127)).drew.heap.size := by show _ ≤ (wx.alloc _).heap.size; simp; omega
          refine out_norm ?_
          refine region_T_out (S := (fun w' => w'.cell? ⟨wx.heap.size, 0, none⟩ = some (.int .i64 (pa : Int)) ∧ w'.cell? ⟨wx.heap.size, 1, none⟩ = some (.int .i64 (pb : Int)))) 5 (by kernel_rfl) (by rintro ⟨_, _, h, _⟩; cases h) ?_
          obtain ⟨Wq, hWq⟩ : ∃ Wq, (wx.alloc (.cells #[Value.int .i64 (pa : Int), .int .i64 (pb : Int)] 127)).drew = Wq := ⟨_, rfl⟩
          rw [hWq] at hq0 hq1 bSq hAq hUq hopq hzq ⊢
          clear hWq hbk hA1 bS1 hU1 hop1
          have hSd : (fun w' => w'.cell? ⟨wx.heap.size, 0, none⟩ = some (.int .i64 (pa : Int)) ∧ w'.cell? ⟨wx.heap.size, 1, none⟩ = some (.int .i64 (pb : Int))) Wq := ⟨hq0, hq1⟩
          refine anyT_take (i := 0) (oi := ?oi0e) (v := .pointer (some ⟨wx.heap.size, 0, none⟩)) ?hi0e (by kernel_rfl) ?hq0e ?hy0e (by assumption) ?rest0e
          case hi0e => (simp only [List.getElem?_toArray, List.getElem?_cons_zero]; first | done | rfl)
          case hq0e => first | exact fun _ _ _ h => h | exact fun _ _ _ h => (by cases h.1)
          case hy0e => (refine Or.inl ⟨by rfl, ?_⟩; intro wz hSw; go_simp; first | done | with_reducible rfl | simp | omega)
          try simp only [Act.put, List.setIfInBounds_toArray, List.set_cons_zero, List.set_cons_succ]
          refine anyT_take (i := 2) (oi := ?oi2e) (v := .pointer (some ⟨wx.heap.size, 1, none⟩)) ?hi2e (by kernel_rfl) ?hq2e ?hy2e (by assumption) ?rest2e
          case hi2e => (simp only [List.getElem?_toArray, List.getElem?_cons_succ, List.getElem?_cons_zero]; first | done | rfl)
          case hq2e => first | exact fun _ _ _ h => h | exact fun _ _ _ h => (by cases h.1)
          case hy2e => (refine Or.inl ⟨by rfl, ?_⟩; intro wz hSw; go_simp; first | done | with_reducible rfl | simp | omega)
          try simp only [Act.put, List.setIfInBounds_toArray, List.set_cons_zero, List.set_cons_succ]
          refine anyT_take (i := 1) (oi := ?oi1e) (v := .int .i64 (pa : Int)) ?hi1e (by kernel_rfl) ?hq1e ?hy1e (by assumption) ?rest1e
          case hi1e => (simp only [List.getElem?_toArray, List.getElem?_cons_succ, List.getElem?_cons_zero]; first | done | rfl)
          case hq1e => first | exact fun _ _ _ h => h | exact fun _ _ _ h => (by cases h.1)
          case hy1e => (refine Or.inl ⟨by rfl, ?_⟩; intro wz hSw; obtain ⟨hS1, hS2⟩ := hSw; go_simp; first | done | with_reducible rfl | simp | omega)
          try simp only [Act.put, List.setIfInBounds_toArray, List.set_cons_zero, List.set_cons_succ]
          refine anyT_take (i := 3) (oi := ?oi3e) (v := .int .i64 (pb : Int)) ?hi3e (by kernel_rfl) ?hq3e ?hy3e (by assumption) ?rest3e
          case hi3e => (simp only [List.getElem?_toArray, List.getElem?_cons_succ, List.getElem?_cons_zero]; first | done | rfl)
          case hq3e => first | exact fun _ _ _ h => h | exact fun _ _ _ h => (by cases h.1)
          case hy3e => (refine Or.inl ⟨by rfl, ?_⟩; intro wz hSw; obtain ⟨hS1, hS2⟩ := hSw; go_simp; first | done | with_reducible rfl | simp | omega)
          try simp only [Act.put, List.setIfInBounds_toArray, List.set_cons_zero, List.set_cons_succ]
          refine anyT_one (i := 4) (by kernel_rfl) rfl (fun K' hK => ?_)
          go_simp
          refine hK.out _ _ (fun _ => hSd) ?_
          clear hK K'
          try simp only [Act.put, List.setIfInBounds_toArray, List.set_cons_zero, List.set_cons_succ]
          refine anyT_one (i := 5) (by kernel_rfl) rfl (fun K' hK => ?_)
          go_simp
          refine hK.out _ _ (fun h => absurd rfl h) ?_
          clear hK K'
          try simp only [Act.put, List.setIfInBounds_toArray, List.set_cons_zero, List.set_cons_succ]
          refine anyT_done (by kernel_rfl) ?_ _
          refine ⟨rfl, ?_⟩
          have Hsh := Lib.hid (show (bits .and .i64 ((q : Int) / 2 ^ i) 1 == 0) = !q.testBit i by
            have := shr_and_one (s := (q : Int)) (j := (i : Int)) (by omega) (by omega)
            rw [Int.toNat_natCast] at this
            rw [this]
            unfold bitI bitB
            rw [Int.toNat_natCast, Int.toNat_natCast]
            cases q.testBit i <;> rfl)
          clear hSd hq0 hq1 hk1 hk2 hc1 hc2
          cases htb : q.testBit i
          · have hsh : (bits .and .i64 ((q : Int) / 2 ^ i) 1 == 0) = true := by rw [Hsh.out, htb]; rfl
            have Hst := Lib.hid (show sdTo zs q (i + 1) = if badS zs S pb pa then none else some (stepS S pb pa) by
              show (sdTo zs q i).bind _ = _
              rw [hS, Option.bind_some, Harc.out]
              unfold arcC
              rw [htb]; rfl)
            have hll : pb < n ∧ pa < n := by
              have h := harc
              rw [Harc.out] at h
              unfold arcC at h
              rw [htb] at h
              rw [hlen.out] at h
              exact ⟨h.1, h.2.1⟩
            have hlo := hll.1
            have hhi := hll.2
            clear hll harc htb
            have hcS := bSq.cell
            have hSb := hinv.vo.sets.2 pa (by rw [hinv.len, hlen.out]; exact hhi)
            rw [hinv.len, hlen.out] at hSb
            have hpn6 := powI_le6 (n := (n : Int)) (by omega)
            have hcH := hAq.cell (k := pa) (by rw [hinv.len, hlen.out]; exact hhi)
            have hF := folS_bd (S := S) (hi := pa) hinv.vo (by rw [hinv.len, hlen.out]; exact hhi)
            rw [hinv.len, hlen.out] at hF
            have HF := Lib.hid (show orI (S[pa]?.getD 0) (powI (pa : Int)) = folS S pa from rfl)
            have hB := belS_bd (S := S) (lo := pb) hinv.vo (by rw [hinv.len, hlen.out]; exact hlo)
            rw [hinv.len, hlen.out] at hB
            have Hsl := Lib.hid (show S.length = n by rw [hinv.len, hlen.out])
            have Hall := Lib.hid (stT_all (S := S) (lo := pb) (hi := pa) hinv.vo (by rw [hinv.len, hlen.out]; exact hlo))
            have hvS := hinv.vo
            have hbl := hinv.len
            gi_wp2_with (gi_at_call 115; refine (callsIn_wide.2 (with_any _ _ _ hSb.1 (by omega) (by omega) (by omega))).mono ?_; rw [HF.out]; rintro e w' ⟨rfl, rfl⟩)
            clear hcS hcH hsh
            have bFr : Boxed (Wq.alloc (.cells #[Value.int .i64 (folS S pa)] 76)).drew Wq.heap.size 76 (.int .i64 (folS S pa)) := Boxed.new Wq _ _
            have bSr : Boxed (Wq.alloc (.cells #[Value.int .i64 (folS S pa)] 76)).drew (wr.heap.size + 1) 49 (.slice (some ⟨wr.heap.size, 0, none⟩) n n) := bSq.alloc _
            have hAr : Arr (Wq.alloc (.cells #[Value.int .i64 (folS S pa)] 76)).drew wr.heap.size 76 S := hAq.alloc _
            have hUr : Upd (fun _ => False) W0 (Wq.alloc (.cells #[Value.int .i64 (folS S pa)] 76)).drew := (hUq.alloc _).drew
            have hopr : Open bs (Wq.alloc (.cells #[Value.int .i64 (folS S pa)] 76)).drew := hopq.upd ((Upd.refl (fun _ => False) Wq).alloc (.cells #[Value.int .i64 (folS S pa)] 76)).drew (fun _ _ e => e)
            have hzr' : (Wq.alloc (.cells #[Value.int .i64 (folS S pa)] 76)).drew.heap.size = Wq.heap.size + 1 := by show (Wq.alloc _).heap.size = _; simp
            have hbsq : ∀ j ∈ bs, j < Wq.heap.size := fun j hj => (Array.getElem?_eq_some_iff.1 (hopq.2 j hj)).1
            refine out_norm ?_
            refine region_T_out (S := (fun w' => w'.cell? ⟨wr.heap.size + 1, 0, none⟩ = some (.slice (some ⟨wr.heap.size, 0, none⟩) n n))) 4 (by kernel_rfl) (by rintro ⟨_, _, h, _⟩; cases h) ?_
            obtain ⟨Wt, hWt⟩ : ∃ Wt, (Wq.alloc (.cells #[Value.int .i64 (folS S pa)] 76)).drew = Wt := ⟨_, rfl⟩
            rw [hWt] at bFr bSr hAr hUr hopr hzr' ⊢
            clear hWt
            have hSd : (fun w' => w'.cell? ⟨wr.heap.size + 1, 0, none⟩ = some (.slice (some ⟨wr.heap.size, 0, none⟩) n n)) Wt := bSr.cell
            refine anyT_take (i := 0) (oi := ?oi0ar) (v := .slice (some ⟨wr.heap.size, 0, none⟩) n n) ?hi0ar (by kernel_rfl) ?hq0ar ?hy0ar (by assumption) ?rest0ar
            case hi0ar => (simp only [List.getElem?_toArray, List.getElem?_cons_zero]; first | done | rfl)
            case hq0ar => first | exact fun _ _ _ h => h | exact fun _ _ _ h => (by cases h.1)
            case hy0ar => (refine Or.inl ⟨by rfl, ?_⟩; intro wz hSw; go_simp; first | done | with_reducible rfl | simp | omega)
            try simp only [Act.put, List.setIfInBounds_toArray, List.set_cons_zero, List.set_cons_succ]
            refine anyT_take (i := 1) (oi := ?oi1ar) (v := .int .i64 (pb : Int)) ?hi1ar (by kernel_rfl) ?hq1ar ?hy1ar (by assumption) ?rest1ar
            case hi1ar => (simp only [List.getElem?_toArray, List.getElem?_cons_succ, List.getElem?_cons_zero]; first | done | rfl)
            case hq1ar => first | exact fun _ _ _ h => h | exact fun _ _ _ h => (by cases h.1)
            case hy1ar => (refine Or.inl ⟨by rfl, ?_⟩; intro wz hSw; go_simp; first | done | with_reducible rfl | simp | omega)
            try simp only [Act.put, List.setIfInBounds_toArray, List.set_cons_zero, List.set_cons_succ]
            refine anyT_one (i := 2) (by kernel_rfl) rfl (fun K' hK => ?_)
            go_simp
            refine (with_any 0 (pb : Int) Wt (by omega) (by omega) (by omega) (by omega)).mono ?_
            rw [zero_or _ (Int.le_of_lt (powI_pos _))]
            rintro e w' ⟨rfl, rfl⟩
            refine hK.out _ _ (fun _ => hSd) ?_
            clear hK K'
            try simp only [Act.put, List.setIfInBounds_toArray, List.set_cons_zero, List.set_cons_succ]
            refine anyT_one (i := 3) (by kernel_rfl) rfl (fun K' hK => ?_)
            go_simp
            refine (obelow_any (some ⟨wr.heap.size, 0, none⟩) n n S (powI (pb : Int)) hvS Wt (hAr.ints' hAr.lt Hsl.out) (Int.le_of_lt (powI_pos _)) (powI_lt hlo)).mono ?_
            rw [show belI S (powI (pb : Int)) = belS S pb from rfl]
            rintro e W4 ⟨rfl, hB4⟩
            have z4 := hB4.size
            have hS4 : (fun w' => w'.cell? ⟨wr.heap.size + 1, 0, none⟩ = some (.slice (some ⟨wr.heap.size, 0, none⟩) n n)) W4 := ((Below.toUpd hB4).boxed bSr (fun e => by omega)).cell
            refine hK.out _ _ (fun _ => hS4) ?_
            clear hK K'
            try simp only [Act.put, List.setIfInBounds_toArray, List.set_cons_zero, List.set_cons_succ]
            refine anyT_one (i := 4) (by kernel_rfl) rfl (fun K' hK => ?_)
            go_simp
            refine (each_any _ _).mono ?_
            rintro e w' ⟨rfl, rfl⟩
            have hu5 : Upd (fun k => Wt.heap.size ≤ k) Wt (W4.alloc (.cells #[Value.int .i64 (belS S pb)] 76)) := (Below.toUpd hB4).alloc _
            have bE := Boxed.new W4 76 (.int .i64 (belS S pb))
            have hz5 : (W4.alloc (.cells #[Value.int .i64 (belS S pb)] 76)).heap.size = W4.heap.size + 1 := by simp
            obtain ⟨W5, hW5⟩ : ∃ W5, W4.alloc (.cells #[Value.int .i64 (belS S pb)] 76) = W5 := ⟨_, rfl⟩
            rw [hW5] at hu5 bE hz5 ⊢
            clear hW5
            refine hK.out _ _ (fun h => absurd rfl h) ?_
            clear hK K'
            try simp only [Act.put, List.setIfInBounds_toArray, List.set_cons_zero, List.set_cons_succ]
            refine anyT_done (by kernel_rfl) ?_ _
            refine ⟨rfl, ?_⟩
            have bF5 := hu5.boxed bFr (fun e => by omega)
            have bS5 := hu5.boxed bSr (fun e => by omega)
            have hA5 := hAr.upd hu5 (fun e => by omega)
            have hU5 : Upd (fun _ => False) W0 W5 := hUr.trans' hu5 (fun i hi e => by have := hUr.size; omega)
            have hop5 := hopr.upd hu5 (fun j hj e => by have := hbsq j hj; omega)
            have bO5 := hU5.boxed bO (fun e => e)
            have hA05 : Ints W5 w.heap.size A n zs := hA0.below (hU5.toBelow (fun _ e => e.elim) (by have := Hzz.out; omega))
            have hzW0 := hUr.size
            have Hz0 := Hzz.out
            clear bFr bSr hAr hUr hopr hSd hS4 hB4 hu5 bSq hAq hUq hopq
            generalize hFF : folS S pa = F at *
            have HFF := Lib.hid hFF
            clear hFF
            gi_wp2
            refine range_out (n := 9) (gf := 177) (lb := #[.pointer (some ⟨W4.heap.size, 0, none⟩)]) rfl (enters_of Try.func177 (by kernel_rfl) rfl) (encs := encI) (L := itemsL (belS S pb))
              (fun k => k = wr.heap.size) (fun k e => by omega) (fun _ => rfl)
              (fun W1 l1 hu1 hl1 hl2 => each_iter _ hB.1 (by omega) _ _ W1 (hu1.boxed bE (fun e => e)) (fun e => by omega))
              (fun pre D W => Arr W wr.heap.size 76 (stT S F pre) ∧ (∀ x ∈ pre, andI (relI zs x) F = 0) ∧ Upd (fun k => k = wr.heap.size) W5 W)
              (fun co pre D W => co = .exit 1 ∧ badS zs S pb pa = true ∧ Upd (fun k => k = wr.heap.size) W5 W)
              (fun _ D X Y hs hu => ⟨hs.1.upd hu (fun e => by omega), hs.2.1, hs.2.2.trans' hu (fun i hi e => by omega)⟩)
              (fun co _ D X Y hs hu => ⟨hs.1, hs.2.1, hs.2.2.trans' hu (fun i hi e => by omega)⟩)
              ⟨hA5, fun x hx => (by cases hx), Upd.refl _ _⟩ ?owesa ?donea ?stopa
            case owesa =>
              rintro l1 pre x D1 W hl1 hl2 hDl hD1 - hpre K hK
              gi_wp2
              refine hK _ _ (Upd.refl _ _) ?_
              rintro Wb hWb - ⟨hAb, hpr, hUb⟩
              clear hK
              have hxm : x ∈ itemsL (belS S pb) := hpre.subset (by simp : x ∈ pre ++ [x])
              obtain ⟨hx6, hxb⟩ := mem_itemsTo.1 hxm
              have hxn := bitB_lt hB.2 hxb
              have hszb := hWb.size
              have hsb := hUb.size
              have hrb := relI_bd hvo (x := x) (by rw [hlen.out]; exact hxn)
              rw [hlen.out] at hrb
              have hand : bits .and .i64 (relI zs x) F = andI (relI zs x) F := bits_and (by omega) (by omega) (by omega) (by omega)
              have Hsn := Lib.hid (stT_snoc S F pre x)
              have hcx := hAb.cell (k := x) (by rw [stT_len, Hsl.out]; exact hxn)
              have Hpr := Lib.hid hpr
              have HBd := Lib.hid (show andI (relI zs x) F ≠ 0 → badS zs S pb pa = true from fun h => List.any_eq_true.2 ⟨x, hxm, by rw [HFF.out]; simpa using h⟩)
              have bOd : Boxed Wb.drew w.heap.size 49 (.slice A n c) := hUb.boxed bO5 (fun e => by omega)
              have bSd : Boxed Wb.drew (wr.heap.size + 1) 49 (.slice (some ⟨wr.heap.size, 0, none⟩) n n) := hUb.boxed bS5 (fun e => by omega)
              have bFd : Boxed Wb.drew Wq.heap.size 76 (.int .i64 F) := hUb.boxed bF5 (fun e => by omega)
              have hAd : Ints Wb.drew w.heap.size A n zs := (hA05.below (hUb.toBelow (fun k e => by omega) (by omega)) : Ints Wb w.heap.size A n zs)
              have hTd : Arr Wb.drew wr.heap.size 76 (stT S F pre) := hAb
              have hUd : Upd (fun k => k = wr.heap.size) W5 Wb.drew := hUb.drew
              have hWd : Upd (fun _ => False) Wb Wb.drew := (Upd.refl _ Wb).drew
              clear hAb hpr bO5 bS5 bF5 hA05 hcx
              gi_wp2
              refine region_T_round (S := (fun w' => w'.cell? ⟨w.heap.size, 0, none⟩ = some (.slice A n c) ∧ w'.cell? ⟨Wq.heap.size, 0, none⟩ = some (.int .i64 F))) 5 (by kernel_rfl) (by kernel_rfl) (by rintro ⟨_, _, h⟩; exact h) ?_
              obtain ⟨Wd, hWdd⟩ : ∃ Wd, Wb.drew = Wd := ⟨_, rfl⟩
              rw [hWdd] at bOd bSd bFd hAd hTd hUd hWd ⊢
              clear hWdd
              have hSd : (fun w' => w'.cell? ⟨w.heap.size, 0, none⟩ = some (.slice A n c) ∧ w'.cell? ⟨Wq.heap.size, 0, none⟩ = some (.int .i64 F)) Wd := ⟨bOd.cell, bFd.cell⟩
              have zd := hUd.size
              have zdb := hWd.size
              refine anyT_take (i := 0) (oi := ?oi0as) (v := .slice A n c) ?hi0as (by kernel_rfl) ?hq0as ?hy0as (by assumption) ?rest0as
              case hi0as => (simp only [List.getElem?_toArray, List.getElem?_cons_zero]; first | done | rfl)
              case hq0as => first | exact fun _ _ _ h => h | exact fun _ _ _ h => (by cases h.1)
              case hy0as => (refine Or.inl ⟨by rfl, ?_⟩; intro wz hSw; obtain ⟨hS1, hS2⟩ := hSw; go_simp; first | done | with_reducible rfl | simp | omega)
              try simp only [Act.put, List.setIfInBounds_toArray, List.set_cons_zero, List.set_cons_succ]
              refine anyT_take (i := 1) (oi := ?oi1as) (v := .int .i64 (x : Int)) ?hi1as (by kernel_rfl) ?hq1as ?hy1as (by assumption) ?rest1as
              case hi1as => (simp only [List.getElem?_toArray, List.getElem?_cons_succ, List.getElem?_cons_zero]; first | done | rfl)
              case hq1as => first | exact fun _ _ _ h => h | exact fun _ _ _ h => (by cases h.1)
              case hy1as => (refine Or.inl ⟨by rfl, ?_⟩; intro wz hSw; obtain ⟨hS1, hS2⟩ := hSw; go_simp; first | done | with_reducible rfl | simp | omega)
              try simp only [Act.put, List.setIfInBounds_toArray, List.set_cons_zero, List.set_cons_succ]
              refine anyT_take (i := 3) (oi := ?oi3as) (v := .int .i64 F) ?hi3as (by kernel_rfl) ?hq3as ?hy3as (by assumption) ?rest3as
              case hi3as => (simp only [List.getElem?_toArray, List.getElem?_cons_succ, List.getElem?_cons_zero]; first | done | rfl)
              case hq3as => first | exact fun _ _ _ h => h | exact fun _ _ _ h => (by cases h.1)
              case hy3as => (refine Or.inl ⟨by rfl, ?_⟩; intro wz hSw; obtain ⟨hS1, hS2⟩ := hSw; go_simp; first | done | with_reducible rfl | simp | omega)
              try simp only [Act.put, List.setIfInBounds_toArray, List.set_cons_zero, List.set_cons_succ]
              refine anyT_one (i := 2) (by kernel_rfl) rfl (fun K' hK => ?_)
              go_simp
              refine (orelated_any A n c zs x hvo Wd (hAd.more (by omega)) hxn).mono ?_
              rintro e W6 ⟨rfl, hB6⟩
              have z6 := hB6.size
              have bS6 := (Below.toUpd hB6).boxed bSd (fun e => by omega)
              have bF6 := (Below.toUpd hB6).boxed bFd (fun e => by omega)
              have bO6 := (Below.toUpd hB6).boxed bOd (fun e => by omega)
              have hT6 := hTd.below hB6 hTd.lt
              have hU6 : Upd (fun k => k = wr.heap.size) W5 W6 := hUd.below hB6 (fun k h1 h2 => by omega)
              have hV6 : Upd (fun k => k = wr.heap.size ∨ D1 k ∨ W.heap.size ≤ k) Wb W6 := (hWd.mono (fun _ _ e => e.elim)).trans' ((Below.toUpd hB6).mono (fun k hk e => by omega)) (fun i hi e => e)
              have hS6 : (fun w' => w'.cell? ⟨w.heap.size, 0, none⟩ = some (.slice A n c) ∧ w'.cell? ⟨Wq.heap.size, 0, none⟩ = some (.int .i64 F)) W6 := ⟨bO6.cell, bF6.cell⟩
              refine hK.out _ _ (fun _ => hS6) ?_
              clear hK K'
              try simp only [Act.put, List.setIfInBounds_toArray, List.set_cons_zero, List.set_cons_succ]
              clear hAd bSd bFd bOd hTd hUd hWd hB6 hSd
              generalize hra : andI (relI zs x) F = ra at *
              generalize hrl : relI zs x = rl at *
              have Hra := Lib.hid hra
              have Hrl := Lib.hid hrl
              clear hra hrl
              refine anyT_one (i := 4) (by kernel_rfl) rfl (fun K' hK => ?_)
              go_simp
              refine hK.out _ _ (fun _ => hS6) ?_
              clear hK K'
              try simp only [Act.put, List.setIfInBounds_toArray, List.set_cons_zero, List.set_cons_succ]
              by_cases hr0 : ra = 0
              · have hne : (ra != 0) = false := by simp [hr0]
                have Hr0 := Lib.hid hr0
                clear hr0
                refine anyT_one (i := 5) (by kernel_rfl) rfl (fun K' hK => ?_)
                go_simp
                refine hK.out _ _ (fun h => absurd rfl h) ?_
                clear hK K'
                try simp only [Act.put, List.setIfInBounds_toArray, List.set_cons_zero, List.set_cons_succ]
                refine anyT_done (by kernel_rfl) ?_ _
                have hTb : 0 ≤ (stT S F pre)[x]?.getD 0 ∧ (stT S F pre)[x]?.getD 0 < powI n := by
                  have hSx := hvS.sets.2 x (by rw [Hsl.out]; exact hxn)
                  rw [Hsl.out] at hSx
                  rw [(stT_get pre S (by rw [Hsl.out]; exact hxn)).2]
                  split
                  · exact orI_bd hSx.1 hSx.2 hF.1 hF.2
                  · exact hSx
                have hor : bits .or .i64 ((stT S F pre)[x]?.getD 0) F = orI ((stT S F pre)[x]?.getD 0) F := bits_or (by omega) (by omega) (by omega) (by omega)
                have hcx : W6.drew.cell? ⟨wr.heap.size, x, none⟩ = some (.int .i64 ((stT S F pre)[x]?.getD 0)) := hT6.cell (k := x) (by rw [stT_len, Hsl.out]; exact hxn)
                have hfx : W6.drew.frozen? ⟨wr.heap.size, x, none⟩ = false := hT6.frozen x
                have hTd : Arr W6.drew wr.heap.size 76 (stT S F pre) := hT6
                have bS7 : Boxed W6.drew (wr.heap.size + 1) 49 (.slice (some ⟨wr.heap.size, 0, none⟩) n n) := bS6
                have bF7 : Boxed W6.drew Wq.heap.size 76 (.int .i64 F) := bF6
                have hU7 : Upd (fun k => k = wr.heap.size) W5 W6.drew := hU6.drew
                have hV7 : Upd (fun k => k = wr.heap.size ∨ D1 k ∨ W.heap.size ≤ k) Wb W6.drew := hV6.drew
                clear bS6 bF6 bO6 hT6 hU6 hV6 hS6
                generalize hcur : (stT S F pre)[x]?.getD 0 = cur at *
                clear hcur
                gi_wp2
                refine region_T_round (S := (fun w' => w'.cell? ⟨wr.heap.size + 1, 0, none⟩ = some (.slice (some ⟨wr.heap.size, 0, none⟩) n n) ∧ w'.cell? ⟨Wq.heap.size, 0, none⟩ = some (.int .i64 F) ∧ w'.cell? ⟨wr.heap.size, x, none⟩ = some (.int .i64 cur))) 7 (by kernel_rfl) (by kernel_rfl) (by rintro ⟨_, _, h⟩; exact h) ?_
                obtain ⟨We, hWe⟩ : ∃ We, W6.drew = We := ⟨_, rfl⟩
                rw [hWe] at hcx hfx hTd bS7 bF7 hU7 hV7 ⊢
                clear hWe
                have hSd : (fun w' => w'.cell? ⟨wr.heap.size + 1, 0, none⟩ = some (.slice (some ⟨wr.heap.size, 0, none⟩) n n) ∧ w'.cell? ⟨Wq.heap.size, 0, none⟩ = some (.int .i64 F) ∧ w'.cell? ⟨wr.heap.size, x, none⟩ = some (.int .i64 cur)) We := ⟨bS7.cell, bF7.cell, hcx⟩
                refine anyT_take (i := 0) (oi := ?oi0at) (v := .slice (some ⟨wr.heap.size, 0, none⟩) n n) ?hi0at (by kernel_rfl) ?hq0at ?hy0at (by assumption) ?rest0at
                case hi0at => (simp only [List.getElem?_toArray, List.getElem?_cons_zero]; first | done | rfl)
                case hq0at => first | exact fun _ _ _ h => h | exact fun _ _ _ h => (by cases h.1)
                case hy0at => (refine Or.inl ⟨by rfl, ?_⟩; intro wz hSw; obtain ⟨hS1, hS2, hS3⟩ := hSw; go_simp; first | done | with_reducible rfl | simp | omega)
                try simp only [Act.put, List.setIfInBounds_toArray, List.set_cons_zero, List.set_cons_succ]
                refine anyT_take (i := 1) (oi := ?oi1at) (v := .int .i64 (x : Int)) ?hi1at (by kernel_rfl) ?hq1at ?hy1at (by assumption) ?rest1at
                case hi1at => (simp only [List.getElem?_toArray, List.getElem?_cons_succ, List.getElem?_cons_zero]; first | done | rfl)
                case hq1at => first | exact fun _ _ _ h => h | exact fun _ _ _ h => (by cases h.1)
                case hy1at => (refine Or.inl ⟨by rfl, ?_⟩; intro wz hSw; obtain ⟨hS1, hS2, hS3⟩ := hSw; go_simp; first | done | with_reducible rfl | simp | omega)
                try simp only [Act.put, List.setIfInBounds_toArray, List.set_cons_zero, List.set_cons_succ]
                refine anyT_take (i := 2) (oi := ?oi2at) (v := .pointer (some ⟨wr.heap.size, x, none⟩)) ?hi2at (by kernel_rfl) ?hq2at ?hy2at (by assumption) ?rest2at
                case hi2at => (simp only [List.getElem?_toArray, List.getElem?_cons_succ, List.getElem?_cons_zero]; first | done | rfl)
                case hq2at => first | exact fun _ _ _ h => h | exact fun _ _ _ h => (by cases h.1)
                case hy2at => (refine Or.inl ⟨by rfl, ?_⟩; intro wz hSw; obtain ⟨hS1, hS2, hS3⟩ := hSw; go_simp; first | done | with_reducible rfl | simp | omega)
                try simp only [Act.put, List.setIfInBounds_toArray, List.set_cons_zero, List.set_cons_succ]
                refine anyT_take (i := 3) (oi := ?oi3at) (v := .int .i64 cur) ?hi3at (by kernel_rfl) ?hq3at ?hy3at (by assumption) ?rest3at
                case hi3at => (simp only [List.getElem?_toArray, List.getElem?_cons_succ, List.getElem?_cons_zero]; first | done | rfl)
                case hq3at => first | exact fun _ _ _ h => h | exact fun _ _ _ h => (by cases h.1)
                case hy3at => (refine Or.inl ⟨by rfl, ?_⟩; intro wz hSw; obtain ⟨hS1, hS2, hS3⟩ := hSw; go_simp; first | done | with_reducible rfl | simp | omega)
                try simp only [Act.put, List.setIfInBounds_toArray, List.set_cons_zero, List.set_cons_succ]
                refine anyT_take (i := 4) (oi := ?oi4at) (v := .int .i64 F) ?hi4at (by kernel_rfl) ?hq4at ?hy4at (by assumption) ?rest4at
                case hi4at => (simp only [List.getElem?_toArray, List.getElem?_cons_succ, List.getElem?_cons_zero]; first | done | rfl)
                case hq4at => first | exact fun _ _ _ h => h | exact fun _ _ _ h => (by cases h.1)
                case hy4at => (refine Or.inl ⟨by rfl, ?_⟩; intro wz hSw; obtain ⟨hS1, hS2, hS3⟩ := hSw; go_simp; first | done | with_reducible rfl | simp | omega)
                try simp only [Act.put, List.setIfInBounds_toArray, List.set_cons_zero, List.set_cons_succ]
                refine anyT_one (i := 5) (by kernel_rfl) rfl (fun K' hK => ?_)
                go_simp
                refine hK.out _ _ (fun _ => hSd) ?_
                clear hK K'
                try simp only [Act.put, List.setIfInBounds_toArray, List.set_cons_zero, List.set_cons_succ]
                refine anyT_one (i := 6) (by kernel_rfl) rfl (fun K' hK => ?_)
                go_simp
                refine hK.out _ _ (fun _ => hSd) ?_
                clear hK K'
                try simp only [Act.put, List.setIfInBounds_toArray, List.set_cons_zero, List.set_cons_succ]
                refine anyT_one (i := 7) (by kernel_rfl) rfl (fun K' hK => ?_)
                go_simp
                refine hK.out _ _ (fun h => absurd rfl h) ?_
                clear hK K'
                try simp only [Act.put, List.setIfInBounds_toArray, List.set_cons_zero, List.set_cons_succ]
                refine anyT_done (by kernel_rfl) ?_ _
                gi_wp2
                exact ⟨D1, ⟨by rw [Hsn.out]; exact hTd.set _ _, fun y hy => by
                    rcases List.mem_append.1 hy with h | h
                    · exact Hpr.out y h
                    · rw [List.mem_singleton.1 h, Hrl.out]; exact Hra.out.trans Hr0.out, hU7.setCell (p := ⟨wr.heap.size, x, none⟩) (.inr rfl) _⟩, hV7.setCell (p := ⟨wr.heap.size, x, none⟩) (.inr (.inl rfl)) _, fun k hk => .inl hk⟩
              · have hne : (ra != 0) = true := by simpa using hr0
                have HBd2 := Lib.hid (HBd.out hr0)
                clear hr0
                refine anyT_one (i := 5) (by kernel_rfl) rfl (fun K' hK => ?_)
                go_simp
                refine hK.out _ _ (fun h => absurd rfl h) ?_
                clear hK K'
                try simp only [Act.put, List.setIfInBounds_toArray, List.set_cons_zero, List.set_cons_succ]
                refine anyT_done (by kernel_rfl) ?_ _
                gi_wp2
                exact ⟨D1, ⟨rfl, HBd2.out, hU6⟩, hV6, fun k hk => .inl hk⟩
            case donea =>
              rintro d D1 W hd ⟨hTd, hpr, hUb⟩ hD1 hKd
              have hbad : badS zs S pb pa = false := by
                cases e : badS zs S pb pa
                · rfl
                · obtain ⟨x, hx, hne⟩ := List.any_eq_true.1 e
                  rw [HFF.out, hpr x hx] at hne
                  simp at hne
              have hnew : sdTo zs q (i + 1) = some (stepS S pb pa) := by rw [Hst.out, hbad]; rfl
              rw [Hall.out] at hTd
              have hUn : Upd (fun _ => False) W0 W := hU5.trans' hUb (fun i hi e => by omega)
              have hszb := hUb.size
              have hop6 := (hop5.upd hUb (fun j hj e => (hbs1 j hj).2.1 e)).cons hKd (fun e => by have := hbsq d e; omega)
              have bS6 := hUb.boxed bS5 (fun e => by omega)
              gi_wp2
              refine ⟨⟨i + 1, stepS S pb pa, d :: bs, _, _, _, _, _, _, _, _, _, _, _, _, _, _, _, _, _, _, _, _, _, _, _, _, _, _, _, _, _, _, _, _, _, _, _, _, _, _, _, _, _, _, _, _, _, _, _, _, _, _, ⟨by omega, by go_num, hnew, hTd, bS6, hUn, by omega, hop6, fun j hj => ?_⟩, rfl⟩, ?_⟩
              · rcases List.mem_cons.1 hj with rfl | hj
                · omega
                · exact hbs1 j hj
              · simp [intOf]; omega
            case stopa =>
              rintro d D1 co pre W hd hpre ⟨rfl, hbad, hUb⟩ hD1 hKd
              have hnone : sdC zs q = none := by
                have h1 : sdTo zs q (i + 1) = none := by rw [Hst.out, hbad]; rfl
                have h2 := sdTo_none h1 (m - (i + 1))
                unfold sdC
                rw [Hm.out, show m = i + 1 + (m - (i + 1)) by omega]; exact h2
              have hUn : Upd (fun _ => False) W0 W := hU5.trans' hUb (fun i hi e => by omega)
              have hop6 := (hop5.upd hUb (fun j hj e => (hbs1 j hj).2.1 e)).cons hKd (fun e => by have := hbsq d e; omega)
              gi_wp2
              refine ⟨⟨q + 1, d :: bs, _, _, _, _, _, _, _, _, _, _, _, _, _, _, _, _, _, _, _, _, _, _, _, _, _, _, _, _, _, _, _, _, _, _, _, _, _, _, _, _, _, _, _, _, _, _, _, _, _, _, _, _, _, _, _, _, _, _, _, _, ⟨by omega, by go_num, fun q' h => ?_, hUn, hop6, fun j hj => ?_⟩, rfl⟩, ?_⟩
              · rcases Nat.lt_or_ge q' q with h2 | h2
                · exact Hno.out q' h2
                · rw [show q' = q by omega]; exact hnone
              · rcases List.mem_cons.1 hj with rfl | hj
                · omega
                · exact (hbs1 j hj).1
              · simp [intOf]; omega
          · have hsh : (bits .and .i64 ((q : Int) / 2 ^ i) 1 == 0) = false := by rw [Hsh.out, htb]; rfl
            have Hst := Lib.hid (show sdTo zs q (i + 1) = if badS zs S pa pb then none else some (stepS S pa pb) by
              show (sdTo zs q i).bind _ = _
              rw [hS, Option.bind_some, Harc.out]
              unfold arcC
              rw [htb]; rfl)
            have hll : pa < n ∧ pb < n := by
              have h := harc
              rw [Harc.out] at h
              unfold arcC at h
              rw [htb] at h
              rw [hlen.out] at h
              exact ⟨h.1, h.2.1⟩
            have hlo := hll.1
            have hhi := hll.2
            clear hll harc htb
            have hcS := bSq.cell
            have hSb := hinv.vo.sets.2 pb (by rw [hinv.len, hlen.out]; exact hhi)
            rw [hinv.len, hlen.out] at hSb
            have hpn6 := powI_le6 (n := (n : Int)) (by omega)
            have hcH := hAq.cell (k := pb) (by rw [hinv.len, hlen.out]; exact hhi)
            have hF := folS_bd (S := S) (hi := pb) hinv.vo (by rw [hinv.len, hlen.out]; exact hhi)
            rw [hinv.len, hlen.out] at hF
            have HF := Lib.hid (show orI (S[pb]?.getD 0) (powI (pb : Int)) = folS S pb from rfl)
            have hB := belS_bd (S := S) (lo := pa) hinv.vo (by rw [hinv.len, hlen.out]; exact hlo)
            rw [hinv.len, hlen.out] at hB
            have Hsl := Lib.hid (show S.length = n by rw [hinv.len, hlen.out])
            have Hall := Lib.hid (stT_all (S := S) (lo := pa) (hi := pb) hinv.vo (by rw [hinv.len, hlen.out]; exact hlo))
            have hvS := hinv.vo
            have hbl := hinv.len
            gi_wp2_with (gi_at_call 115; refine (callsIn_wide.2 (with_any _ _ _ hSb.1 (by omega) (by omega) (by omega))).mono ?_; rw [HF.out]; rintro e w' ⟨rfl, rfl⟩)
            clear hcS hcH hsh
            have bFr : Boxed (Wq.alloc (.cells #[Value.int .i64 (folS S pb)] 76)).drew Wq.heap.size 76 (.int .i64 (folS S pb)) := Boxed.new Wq _ _
            have bSr : Boxed (Wq.alloc (.cells #[Value.int .i64 (folS S pb)] 76)).drew (wr.heap.size + 1) 49 (.slice (some ⟨wr.heap.size, 0, none⟩) n n) := bSq.alloc _
            have hAr : Arr (Wq.alloc (.cells #[Value.int .i64 (folS S pb)] 76)).drew wr.heap.size 76 S := hAq.alloc _
            have hUr : Upd (fun _ => False) W0 (Wq.alloc (.cells #[Value.int .i64 (folS S pb)] 76)).drew := (hUq.alloc _).drew
            have hopr : Open bs (Wq.alloc (.cells #[Value.int .i64 (folS S pb)] 76)).drew := hopq.upd ((Upd.refl (fun _ => False) Wq).alloc (.cells #[Value.int .i64 (folS S pb)] 76)).drew (fun _ _ e => e)
            have hzr' : (Wq.alloc (.cells #[Value.int .i64 (folS S pb)] 76)).drew.heap.size = Wq.heap.size + 1 := by show (Wq.alloc _).heap.size = _; simp
            have hbsq : ∀ j ∈ bs, j < Wq.heap.size := fun j hj => (Array.getElem?_eq_some_iff.1 (hopq.2 j hj)).1
            refine out_norm ?_
            refine region_T_out (S := (fun w' => w'.cell? ⟨wr.heap.size + 1, 0, none⟩ = some (.slice (some ⟨wr.heap.size, 0, none⟩) n n))) 4 (by kernel_rfl) (by rintro ⟨_, _, h, _⟩; cases h) ?_
            obtain ⟨Wt, hWt⟩ : ∃ Wt, (Wq.alloc (.cells #[Value.int .i64 (folS S pb)] 76)).drew = Wt := ⟨_, rfl⟩
            rw [hWt] at bFr bSr hAr hUr hopr hzr' ⊢
            clear hWt
            have hSd : (fun w' => w'.cell? ⟨wr.heap.size + 1, 0, none⟩ = some (.slice (some ⟨wr.heap.size, 0, none⟩) n n)) Wt := bSr.cell
            refine anyT_take (i := 0) (oi := ?oi0br) (v := .slice (some ⟨wr.heap.size, 0, none⟩) n n) ?hi0br (by kernel_rfl) ?hq0br ?hy0br (by assumption) ?rest0br
            case hi0br => (simp only [List.getElem?_toArray, List.getElem?_cons_zero]; first | done | rfl)
            case hq0br => first | exact fun _ _ _ h => h | exact fun _ _ _ h => (by cases h.1)
            case hy0br => (refine Or.inl ⟨by rfl, ?_⟩; intro wz hSw; go_simp; first | done | with_reducible rfl | simp | omega)
            try simp only [Act.put, List.setIfInBounds_toArray, List.set_cons_zero, List.set_cons_succ]
            refine anyT_take (i := 1) (oi := ?oi1br) (v := .int .i64 (pa : Int)) ?hi1br (by kernel_rfl) ?hq1br ?hy1br (by assumption) ?rest1br
            case hi1br => (simp only [List.getElem?_toArray, List.getElem?_cons_succ, List.getElem?_cons_zero]; first | done | rfl)
            case hq1br => first | exact fun _ _ _ h => h | exact fun _ _ _ h => (by cases h.1)
            case hy1br => (refine Or.inl ⟨by rfl, ?_⟩; intro wz hSw; go_simp; first | done | with_reducible rfl | simp | omega)
            try simp only [Act.put, List.setIfInBounds_toArray, List.set_cons_zero, List.set_cons_succ]
            refine anyT_one (i := 2) (by kernel_rfl) rfl (fun K' hK => ?_)
            go_simp
            refine (with_any 0 (pa : Int) Wt (by omega) (by omega) (by omega) (by omega)).mono ?_
            rw [zero_or _ (Int.le_of_lt (powI_pos _))]
            rintro e w' ⟨rfl, rfl⟩
            refine hK.out _ _ (fun _ => hSd) ?_
            clear hK K'
            try simp only [Act.put, List.setIfInBounds_toArray, List.set_cons_zero, List.set_cons_succ]
            refine anyT_one (i := 3) (by kernel_rfl) rfl (fun K' hK => ?_)
            go_simp
            refine (obelow_any (some ⟨wr.heap.size, 0, none⟩) n n S (powI (pa : Int)) hvS Wt (hAr.ints' hAr.lt Hsl.out) (Int.le_of_lt (powI_pos _)) (powI_lt hlo)).mono ?_
            rw [show belI S (powI (pa : Int)) = belS S pa from rfl]
            rintro e W4 ⟨rfl, hB4⟩
            have z4 := hB4.size
            have hS4 : (fun w' => w'.cell? ⟨wr.heap.size + 1, 0, none⟩ = some (.slice (some ⟨wr.heap.size, 0, none⟩) n n)) W4 := ((Below.toUpd hB4).boxed bSr (fun e => by omega)).cell
            refine hK.out _ _ (fun _ => hS4) ?_
            clear hK K'
            try simp only [Act.put, List.setIfInBounds_toArray, List.set_cons_zero, List.set_cons_succ]
            refine anyT_one (i := 4) (by kernel_rfl) rfl (fun K' hK => ?_)
            go_simp
            refine (each_any _ _).mono ?_
            rintro e w' ⟨rfl, rfl⟩
            have hu5 : Upd (fun k => Wt.heap.size ≤ k) Wt (W4.alloc (.cells #[Value.int .i64 (belS S pa)] 76)) := (Below.toUpd hB4).alloc _
            have bE := Boxed.new W4 76 (.int .i64 (belS S pa))
            have hz5 : (W4.alloc (.cells #[Value.int .i64 (belS S pa)] 76)).heap.size = W4.heap.size + 1 := by simp
            obtain ⟨W5, hW5⟩ : ∃ W5, W4.alloc (.cells #[Value.int .i64 (belS S pa)] 76) = W5 := ⟨_, rfl⟩
            rw [hW5] at hu5 bE hz5 ⊢
            clear hW5
            refine hK.out _ _ (fun h => absurd rfl h) ?_
            clear hK K'
            try simp only [Act.put, List.setIfInBounds_toArray, List.set_cons_zero, List.set_cons_succ]
            refine anyT_done (by kernel_rfl) ?_ _
            refine ⟨rfl, ?_⟩
            have bF5 := hu5.boxed bFr (fun e => by omega)
            have bS5 := hu5.boxed bSr (fun e => by omega)
            have hA5 := hAr.upd hu5 (fun e => by omega)
            have hU5 : Upd (fun _ => False) W0 W5 := hUr.trans' hu5 (fun i hi e => by have := hUr.size; omega)
            have hop5 := hopr.upd hu5 (fun j hj e => by have := hbsq j hj; omega)
            have bO5 := hU5.boxed bO (fun e => e)
            have hA05 : Ints W5 w.heap.size A n zs := hA0.below (hU5.toBelow (fun _ e => e.elim) (by have := Hzz.out; omega))
            have hzW0 := hUr.size
            have Hz0 := Hzz.out
            clear bFr bSr hAr hUr hopr hSd hS4 hB4 hu5 bSq hAq hUq hopq
            generalize hFF : folS S pb = F at *
            have HFF := Lib.hid hFF
            clear hFF
            gi_wp2
            refine range_out (n := 9) (gf := 177) (lb := #[.pointer (some ⟨W4.heap.size, 0, none⟩)]) rfl (enters_of Try.func177 (by kernel_rfl) rfl) (encs := encI) (L := itemsL (belS S pa))
              (fun k => k = wr.heap.size) (fun k e => by omega) (fun _ => rfl)
              (fun W1 l1 hu1 hl1 hl2 => each_iter _ hB.1 (by omega) _ _ W1 (hu1.boxed bE (fun e => e)) (fun e => by omega))
              (fun pre D W => Arr W wr.heap.size 76 (stT S F pre) ∧ (∀ x ∈ pre, andI (relI zs x) F = 0) ∧ Upd (fun k => k = wr.heap.size) W5 W)
              (fun co pre D W => co = .exit 1 ∧ badS zs S pa pb = true ∧ Upd (fun k => k = wr.heap.size) W5 W)
              (fun _ D X Y hs hu => ⟨hs.1.upd hu (fun e => by omega), hs.2.1, hs.2.2.trans' hu (fun i hi e => by omega)⟩)
              (fun co _ D X Y hs hu => ⟨hs.1, hs.2.1, hs.2.2.trans' hu (fun i hi e => by omega)⟩)
              ⟨hA5, fun x hx => (by cases hx), Upd.refl _ _⟩ ?owesb ?doneb ?stopb
            case owesb =>
              rintro l1 pre x D1 W hl1 hl2 hDl hD1 - hpre K hK
              gi_wp2
              refine hK _ _ (Upd.refl _ _) ?_
              rintro Wb hWb - ⟨hAb, hpr, hUb⟩
              clear hK
              have hxm : x ∈ itemsL (belS S pa) := hpre.subset (by simp : x ∈ pre ++ [x])
              obtain ⟨hx6, hxb⟩ := mem_itemsTo.1 hxm
              have hxn := bitB_lt hB.2 hxb
              have hszb := hWb.size
              have hsb := hUb.size
              have hrb := relI_bd hvo (x := x) (by rw [hlen.out]; exact hxn)
              rw [hlen.out] at hrb
              have hand : bits .and .i64 (relI zs x) F = andI (relI zs x) F := bits_and (by omega) (by omega) (by omega) (by omega)
              have Hsn := Lib.hid (stT_snoc S F pre x)
              have hcx := hAb.cell (k := x) (by rw [stT_len, Hsl.out]; exact hxn)
              have Hpr := Lib.hid hpr
              have HBd := Lib.hid (show andI (relI zs x) F ≠ 0 → badS zs S pa pb = true from fun h => List.any_eq_true.2 ⟨x, hxm, by rw [HFF.out]; simpa using h⟩)
              have bOd : Boxed Wb.drew w.heap.size 49 (.slice A n c) := hUb.boxed bO5 (fun e => by omega)
              have bSd : Boxed Wb.drew (wr.heap.size + 1) 49 (.slice (some ⟨wr.heap.size, 0, none⟩) n n) := hUb.boxed bS5 (fun e => by omega)
              have bFd : Boxed Wb.drew Wq.heap.size 76 (.int .i64 F) := hUb.boxed bF5 (fun e => by omega)
              have hAd : Ints Wb.drew w.heap.size A n zs := (hA05.below (hUb.toBelow (fun k e => by omega) (by omega)) : Ints Wb w.heap.size A n zs)
              have hTd : Arr Wb.drew wr.heap.size 76 (stT S F pre) := hAb
              have hUd : Upd (fun k => k = wr.heap.size) W5 Wb.drew := hUb.drew
              have hWd : Upd (fun _ => False) Wb Wb.drew := (Upd.refl _ Wb).drew
              clear hAb hpr bO5 bS5 bF5 hA05 hcx
              gi_wp2
              refine region_T_round (S := (fun w' => w'.cell? ⟨w.heap.size, 0, none⟩ = some (.slice A n c) ∧ w'.cell? ⟨Wq.heap.size, 0, none⟩ = some (.int .i64 F))) 5 (by kernel_rfl) (by kernel_rfl) (by rintro ⟨_, _, h⟩; exact h) ?_
              obtain ⟨Wd, hWdd⟩ : ∃ Wd, Wb.drew = Wd := ⟨_, rfl⟩
              rw [hWdd] at bOd bSd bFd hAd hTd hUd hWd ⊢
              clear hWdd
              have hSd : (fun w' => w'.cell? ⟨w.heap.size, 0, none⟩ = some (.slice A n c) ∧ w'.cell? ⟨Wq.heap.size, 0, none⟩ = some (.int .i64 F)) Wd := ⟨bOd.cell, bFd.cell⟩
              have zd := hUd.size
              have zdb := hWd.size
              refine anyT_take (i := 0) (oi := ?oi0bs) (v := .slice A n c) ?hi0bs (by kernel_rfl) ?hq0bs ?hy0bs (by assumption) ?rest0bs
              case hi0bs => (simp only [List.getElem?_toArray, List.getElem?_cons_zero]; first | done | rfl)
              case hq0bs => first | exact fun _ _ _ h => h | exact fun _ _ _ h => (by cases h.1)
              case hy0bs => (refine Or.inl ⟨by rfl, ?_⟩; intro wz hSw; obtain ⟨hS1, hS2⟩ := hSw; go_simp; first | done | with_reducible rfl | simp | omega)
              try simp only [Act.put, List.setIfInBounds_toArray, List.set_cons_zero, List.set_cons_succ]
              refine anyT_take (i := 1) (oi := ?oi1bs) (v := .int .i64 (x : Int)) ?hi1bs (by kernel_rfl) ?hq1bs ?hy1bs (by assumption) ?rest1bs
              case hi1bs => (simp only [List.getElem?_toArray, List.getElem?_cons_succ, List.getElem?_cons_zero]; first | done | rfl)
              case hq1bs => first | exact fun _ _ _ h => h | exact fun _ _ _ h => (by cases h.1)
              case hy1bs => (refine Or.inl ⟨by rfl, ?_⟩; intro wz hSw; obtain ⟨hS1, hS2⟩ := hSw; go_simp; first | done | with_reducible rfl | simp | omega)
              try simp only [Act.put, List.setIfInBounds_toArray, List.set_cons_zero, List.set_cons_succ]
              refine anyT_take (i := 3) (oi := ?oi3bs) (v := .int .i64 F) ?hi3bs (by kernel_rfl) ?hq3bs ?hy3bs (by assumption) ?rest3bs
              case hi3bs => (simp only [List.getElem?_toArray, List.getElem?_cons_succ, List.getElem?_cons_zero]; first | done | rfl)
              case hq3bs => first | exact fun _ _ _ h => h | exact fun _ _ _ h => (by cases h.1)
              case hy3bs => (refine Or.inl ⟨by rfl, ?_⟩; intro wz hSw; obtain ⟨hS1, hS2⟩ := hSw; go_simp; first | done | with_reducible rfl | simp | omega)
              try simp only [Act.put, List.setIfInBounds_toArray, List.set_cons_zero, List.set_cons_succ]
              refine anyT_one (i := 2) (by kernel_rfl) rfl (fun K' hK => ?_)
              go_simp
              refine (orelated_any A n c zs x hvo Wd (hAd.more (by omega)) hxn).mono ?_
              rintro e W6 ⟨rfl, hB6⟩
              have z6 := hB6.size
              have bS6 := (Below.toUpd hB6).boxed bSd (fun e => by omega)
              have bF6 := (Below.toUpd hB6).boxed bFd (fun e => by omega)
              have bO6 := (Below.toUpd hB6).boxed bOd (fun e => by omega)
              have hT6 := hTd.below hB6 hTd.lt
              have hU6 : Upd (fun k => k = wr.heap.size) W5 W6 := hUd.below hB6 (fun k h1 h2 => by omega)
              have hV6 : Upd (fun k => k = wr.heap.size ∨ D1 k ∨ W.heap.size ≤ k) Wb W6 := (hWd.mono (fun _ _ e => e.elim)).trans' ((Below.toUpd hB6).mono (fun k hk e => by omega)) (fun i hi e => e)
              have hS6 : (fun w' => w'.cell? ⟨w.heap.size, 0, none⟩ = some (.slice A n c) ∧ w'.cell? ⟨Wq.heap.size, 0, none⟩ = some (.int .i64 F)) W6 := ⟨bO6.cell, bF6.cell⟩
              refine hK.out _ _ (fun _ => hS6) ?_
              clear hK K'
              try simp only [Act.put, List.setIfInBounds_toArray, List.set_cons_zero, List.set_cons_succ]
              clear hAd bSd bFd bOd hTd hUd hWd hB6 hSd
              generalize hra : andI (relI zs x) F = ra at *
              generalize hrl : relI zs x = rl at *
              have Hra := Lib.hid hra
              have Hrl := Lib.hid hrl
              clear hra hrl
              refine anyT_one (i := 4) (by kernel_rfl) rfl (fun K' hK => ?_)
              go_simp
              refine hK.out _ _ (fun _ => hS6) ?_
              clear hK K'
              try simp only [Act.put, List.setIfInBounds_toArray, List.set_cons_zero, List.set_cons_succ]
              by_cases hr0 : ra = 0
              · have hne : (ra != 0) = false := by simp [hr0]
                have Hr0 := Lib.hid hr0
                clear hr0
                refine anyT_one (i := 5) (by kernel_rfl) rfl (fun K' hK => ?_)
                go_simp
                refine hK.out _ _ (fun h => absurd rfl h) ?_
                clear hK K'
                try simp only [Act.put, List.setIfInBounds_toArray, List.set_cons_zero, List.set_cons_succ]
                refine anyT_done (by kernel_rfl) ?_ _
                have hTb : 0 ≤ (stT S F pre)[x]?.getD 0 ∧ (stT S F pre)[x]?.getD 0 < powI n := by
                  have hSx := hvS.sets.2 x (by rw [Hsl.out]; exact hxn)
                  rw [Hsl.out] at hSx
                  rw [(stT_get pre S (by rw [Hsl.out]; exact hxn)).2]
                  split
                  · exact orI_bd hSx.1 hSx.2 hF.1 hF.2
                  · exact hSx
                have hor : bits .or .i64 ((stT S F pre)[x]?.getD 0) F = orI ((stT S F pre)[x]?.getD 0) F := bits_or (by omega) (by omega) (by omega) (by omega)
                have hcx : W6.drew.cell? ⟨wr.heap.size, x, none⟩ = some (.int .i64 ((stT S F pre)[x]?.getD 0)) := hT6.cell (k := x) (by rw [stT_len, Hsl.out]; exact hxn)
                have hfx : W6.drew.frozen? ⟨wr.heap.size, x, none⟩ = false := hT6.frozen x
                have hTd : Arr W6.drew wr.heap.size 76 (stT S F pre) := hT6
                have bS7 : Boxed W6.drew (wr.heap.size + 1) 49 (.slice (some ⟨wr.heap.size, 0, none⟩) n n) := bS6
                have bF7 : Boxed W6.drew Wq.heap.size 76 (.int .i64 F) := bF6
                have hU7 : Upd (fun k => k = wr.heap.size) W5 W6.drew := hU6.drew
                have hV7 : Upd (fun k => k = wr.heap.size ∨ D1 k ∨ W.heap.size ≤ k) Wb W6.drew := hV6.drew
                clear bS6 bF6 bO6 hT6 hU6 hV6 hS6
                generalize hcur : (stT S F pre)[x]?.getD 0 = cur at *
                clear hcur
                gi_wp2
                refine region_T_round (S := (fun w' => w'.cell? ⟨wr.heap.size + 1, 0, none⟩ = some (.slice (some ⟨wr.heap.size, 0, none⟩) n n) ∧ w'.cell? ⟨Wq.heap.size, 0, none⟩ = some (.int .i64 F) ∧ w'.cell? ⟨wr.heap.size, x, none⟩ = some (.int .i64 cur))) 7 (by kernel_rfl) (by kernel_rfl) (by rintro ⟨_, _, h⟩; exact h) ?_
                obtain ⟨We, hWe⟩ : ∃ We, W6.drew = We := ⟨_, rfl⟩
                rw [hWe] at hcx hfx hTd bS7 bF7 hU7 hV7 ⊢
                clear hWe
                have hSd : (fun w' => w'.cell? ⟨wr.heap.size + 1, 0, none⟩ = some (.slice (some ⟨wr.heap.size, 0, none⟩) n n) ∧ w'.cell? ⟨Wq.heap.size, 0, none⟩ = some (.int .i64 F) ∧ w'.cell? ⟨wr.heap.size, x, none⟩ = some (.int .i64 cur)) We := ⟨bS7.cell, bF7.cell, hcx⟩
                refine anyT_take (i := 0) (oi := ?oi0bt) (v := .slice (some ⟨wr.heap.size, 0, none⟩) n n) ?hi0bt (by kernel_rfl) ?hq0bt ?hy0bt (by assumption) ?rest0bt
                case hi0bt => (simp only [List.getElem?_toArray, List.getElem?_cons_zero]; first | done | rfl)
                case hq0bt => first | exact fun _ _ _ h => h | exact fun _ _ _ h => (by cases h.1)
                case hy0bt => (refine Or.inl ⟨by rfl, ?_⟩; intro wz hSw; obtain ⟨hS1, hS2, hS3⟩ := hSw; go_simp; first | done | with_reducible rfl | simp | omega)
                try simp only [Act.put, List.setIfInBounds_toArray, List.set_cons_zero, List.set_cons_succ]
                refine anyT_take (i := 1) (oi := ?oi1bt) (v := .int .i64 (x : Int)) ?hi1bt (by kernel_rfl) ?hq1bt ?hy1bt (by assumption) ?rest1bt
                case hi1bt => (simp only [List.getElem?_toArray, List.getElem?_cons_succ, List.getElem?_cons_zero]; first | done | rfl)
                case hq1bt => first | exact fun _ _ _ h => h | exact fun _ _ _ h => (by cases h.1)
                case hy1bt => (refine Or.inl ⟨by rfl, ?_⟩; intro wz hSw; obtain ⟨hS1, hS2, hS3⟩ := hSw; go_simp; first | done | with_reducible rfl | simp | omega)
                try simp only [Act.put, List.setIfInBounds_toArray, List.set_cons_zero, List.set_cons_succ]
                refine anyT_take (i := 2) (oi := ?oi2bt) (v := .pointer (some ⟨wr.heap.size, x, none⟩)) ?hi2bt (by kernel_rfl) ?hq2bt ?hy2bt (by assumption) ?rest2bt
                case hi2bt => (simp only [List.getElem?_toArray, List.getElem?_cons_succ, List.getElem?_cons_zero]; first | done | rfl)
                case hq2bt => first | exact fun _ _ _ h => h | exact fun _ _ _ h => (by cases h.1)
                case hy2bt => (refine Or.inl ⟨by rfl, ?_⟩; intro wz hSw; obtain ⟨hS1, hS2, hS3⟩ := hSw; go_simp; first | done | with_reducible rfl | simp | omega)
                try simp only [Act.put, List.setIfInBounds_toArray, List.set_cons_zero, List.set_cons_succ]
                refine anyT_take (i := 3) (oi := ?oi3bt) (v := .int .i64 cur) ?hi3bt (by kernel_rfl) ?hq3bt ?hy3bt (by assumption) ?rest3bt
                case hi3bt => (simp only [List.getElem?_toArray, List.getElem?_cons_succ, List.getElem?_cons_zero]; first | done | rfl)
                case hq3bt => first | exact fun _ _ _ h => h | exact fun _ _ _ h => (by cases h.1)
                case hy3bt => (refine Or.inl ⟨by rfl, ?_⟩; intro wz hSw; obtain ⟨hS1, hS2, hS3⟩ := hSw; go_simp; first | done | with_reducible rfl | simp | omega)
                try simp only [Act.put, List.setIfInBounds_toArray, List.set_cons_zero, List.set_cons_succ]
                refine anyT_take (i := 4) (oi := ?oi4bt) (v := .int .i64 F) ?hi4bt (by kernel_rfl) ?hq4bt ?hy4bt (by assumption) ?rest4bt
                case hi4bt => (simp only [List.getElem?_toArray, List.getElem?_cons_succ, List.getElem?_cons_zero]; first | done | rfl)
                case hq4bt => first | exact fun _ _ _ h => h | exact fun _ _ _ h => (by cases h.1)
                case hy4bt => (refine Or.inl ⟨by rfl, ?_⟩; intro wz hSw; obtain ⟨hS1, hS2, hS3⟩ := hSw; go_simp; first | done | with_reducible rfl | simp | omega)
                try simp only [Act.put, List.setIfInBounds_toArray, List.set_cons_zero, List.set_cons_succ]
                refine anyT_one (i := 5) (by kernel_rfl) rfl (fun K' hK => ?_)
                go_simp
                refine hK.out _ _ (fun _ => hSd) ?_
                clear hK K'
                try simp only [Act.put, List.setIfInBounds_toArray, List.set_cons_zero, List.set_cons_succ]
                refine anyT_one (i := 6) (by kernel_rfl) rfl (fun K' hK => ?_)
                go_simp
                refine hK.out _ _ (fun _ => hSd) ?_
                clear hK K'
                try simp only [Act.put, List.setIfInBounds_toArray, List.set_cons_zero, List.set_cons_succ]
                refine anyT_one (i := 7) (by kernel_rfl) rfl (fun K' hK => ?_)
                go_simp
                refine hK.out _ _ (fun h => absurd rfl h) ?_
                clear hK K'
                try simp only [Act.put, List.setIfInBounds_toArray, List.set_cons_zero, List.set_cons_succ]
                refine anyT_done (by kernel_rfl) ?_ _
                gi_wp2
                exact ⟨D1, ⟨by rw [Hsn.out]; exact hTd.set _ _, fun y hy => by
                    rcases List.mem_append.1 hy with h | h
                    · exact Hpr.out y h
                    · rw [List.mem_singleton.1 h, Hrl.out]; exact Hra.out.trans Hr0.out, hU7.setCell (p := ⟨wr.heap.size, x, none⟩) (.inr rfl) _⟩, hV7.setCell (p := ⟨wr.heap.size, x, none⟩) (.inr (.inl rfl)) _, fun k hk => .inl hk⟩
              · have hne : (ra != 0) = true := by simpa using hr0
                have HBd2 := Lib.hid (HBd.out hr0)
                clear hr0
                refine anyT_one (i := 5) (by kernel_rfl) rfl (fun K' hK => ?_)
                go_simp
                refine hK.out _ _ (fun h => absurd rfl h) ?_
                clear hK K'
                try simp only [Act.put, List.setIfInBounds_toArray, List.set_cons_zero, List.set_cons_succ]
                refine anyT_done (by kernel_rfl) ?_ _
                gi_wp2
                exact ⟨D1, ⟨rfl, HBd2.out, hU6⟩, hV6, fun k hk => .inl hk⟩
            case doneb =>
              rintro d D1 W hd ⟨hTd, hpr, hUb⟩ hD1 hKd
              have hbad : badS zs S pa pb = false := by
                cases e : badS zs S pa pb
                · rfl
                · obtain ⟨x, hx, hne⟩ := List.any_eq_true.1 e
                  rw [HFF.out, hpr x hx] at hne
                  simp at hne
              have hnew : sdTo zs q (i + 1) = some (stepS S pa pb) := by rw [Hst.out, hbad]; rfl
              rw [Hall.out] at hTd
              have hUn : Upd (fun _ => False) W0 W := hU5.trans' hUb (fun i hi e => by omega)
              have hszb := hUb.size
              have hop6 := (hop5.upd hUb (fun j hj e => (hbs1 j hj).2.1 e)).cons hKd (fun e => by have := hbsq d e; omega)
              have bS6 := hUb.boxed bS5 (fun e => by omega)
              gi_wp2
              refine ⟨⟨i + 1, stepS S pa pb, d :: bs, _, _, _, _, _, _, _, _, _, _, _, _, _, _, _, _, _, _, _, _, _, _, _, _, _, _, _, _, _, _, _, _, _, _, _, _, _, _, _, _, _, _, _, _, _, _, _, _, _, _, ⟨by omega, by go_num, hnew, hTd, bS6, hUn, by omega, hop6, fun j hj => ?_⟩, rfl⟩, ?_⟩
              · rcases List.mem_cons.1 hj with rfl | hj
                · omega
                · exact hbs1 j hj
              · simp [intOf]; omega
            case stopb =>
              rintro d D1 co pre W hd hpre ⟨rfl, hbad, hUb⟩ hD1 hKd
              have hnone : sdC zs q = none := by
                have h1 : sdTo zs q (i + 1) = none := by rw [Hst.out, hbad]; rfl
                have h2 := sdTo_none h1 (m - (i + 1))
                unfold sdC
                rw [Hm.out, show m = i + 1 + (m - (i + 1)) by omega]; exact h2
              have hUn : Upd (fun _ => False) W0 W := hU5.trans' hUb (fun i hi e => by omega)
              have hop6 := (hop5.upd hUb (fun j hj e => (hbs1 j hj).2.1 e)).cons hKd (fun e => by have := hbsq d e; omega)
              gi_wp2
              refine ⟨⟨q + 1, d :: bs, _, _, _, _, _, _, _, _, _, _, _, _, _, _, _, _, _, _, _, _, _, _, _, _, _, _, _, _, _, _, _, _, _, _, _, _, _, _, _, _, _, _, _, _, _, _, _, _, _, _, _, _, _, _, _, _, _, _, _, _, ⟨by omega, by go_num, fun q' h => ?_, hUn, hop6, fun j hj => ?_⟩, rfl⟩, ?_⟩
              · rcases Nat.lt_or_ge q' q with h2 | h2
                · exact Hno.out q' h2
                · rw [show q' = q by omega]; exact hnone
              · rcases List.mem_cons.1 hj with rfl | hj
                · omega
                · exact (hbs1 j hj).1
              · simp [intOf]; omega
        · obtain rfl : i = m := by omega
          have hcS := bS1.cell
          gi_wp2
          rw [Exit.noGoto_ret]
          refine leaves_marks bs wx hop1 (fun W' hu' => ?_)
          have Hsome := Lib.hid (sdF_at (q := q) (by rw [Hm.out, HN.out]; exact hlt) Hno.out (by unfold sdC; rw [Hm.out]; exact hS))
          exact ⟨_, by simp [results, Try.f125, go_sem], .inr ⟨S, wr.heap.size, Hsome.out, rfl, by have := Hzz.out; omega, hA1.upd hu' (fun e => (hbs1 _ e).2.1 rfl)⟩, ((hU0.trans hU1).trans' hu' (fun i hi e => by have := hbs1 i e; have := Hzz.out; omega)).toBelow (R := fun _ => False) (fun _ e => e.elim) (Nat.le_refl _)⟩
    · obtain rfl : q = N := by omega
      have Hnone := Lib.hid (show sdF zs = none by
        unfold sdF
        rw [List.findSome?_eq_none_iff]
        intro x hx
        rw [Hm.out, HN.out] at hx
        exact Hno.out x (List.mem_range.1 hx))
      gi_wp2
      refine leaves_marks bs wr hop (fun W' hu' => ?_)
      exact ⟨_, by simp [results, Try.f125, go_sem], .inl ⟨Hnone.out, rfl⟩, ((hU0.trans hU).trans' hu' (fun i hi e => by have := hbs i e; have := Hzz.out; omega)).toBelow (R := fun _ => False) (fun _ e => e.elim) (Nat.le_refl _)⟩
end Go.Proofs.Ytghogabmkbadjab

/- SideOrder: the program's whole. -/
namespace Go.Proofs.Ytghogabmkbadjab
open Go.RowKit Go.Shelf

/-- What reading a list with its side gives. -/
def ReadsSd (w : World) (zs : List Int) (n : Nat) (e : Ending) (w' : World) : Prop :=
  Below w.heap.size w w' ∧ ((sdOk zs = false ∧ ∃ v1 v2, e = .returned (.tuple #[v1, v2, .bool false])) ∨
    (sdOk zs = true ∧ ∃ T b b', sdF zs = some T ∧ e = .returned (.tuple #[.slice (some ⟨b, 0, none⟩) n n, .slice (some ⟨b', 0, none⟩) n n, .bool true]) ∧ Arr w' b 76 zs ∧ Arr w' b' 76 T))
set_option maxHeartbeats 2000000 in
theorem readSided_any (A : Option Addr) (n c : Nat) (zs : List Int) (w : World) (h : Ints w w.heap.size A n zs) (hbig : n ≤ 1152921504606846976) :
    Calls Try.prog 76 #[.slice A n c] w (ReadsSd w zs n) := by
  have hlen := Lib.hid h.len
  go_enter Try.func76, Try.ntmps76
  go_wp2_with fail
  refine (readOrder_any _ _ _ zs _ h hbig).mono ?_
  rintro e w1 ⟨hB, (⟨hv, b, rfl, hb, hAr⟩ | ⟨hv, rfl⟩)⟩
  · have z1 := hB.size
    have hvo : VoP zs := by simpa [vo] using hv
    have Hv := Lib.hid hv
    clear hv
    go_wp2_with fail
    refine (side_any _ n _ zs hvo _ (hAr.ints' hAr.lt hlen.out)).mono ?_
    rintro e w2 ⟨(⟨hn, rfl⟩ | ⟨T, b', hT, rfl, hb', hA'⟩), hB2⟩
    · have Ho := Lib.hid (show sdOk zs = false by unfold sdOk; rw [hn]; simp)
      clear hn
      go_wp2_with fail
      go_ret3
      exact ⟨hB.trans (hB2.mono z1), .inl ⟨Ho.out, _, _, rfl⟩⟩
    · have Ho := Lib.hid (show sdOk zs = true by unfold sdOk; rw [hT, Hv.out]; rfl)
      have HT := Lib.hid hT
      clear hT
      have hA2 := hAr.below hB2 hAr.lt
      go_wp2_with fail
      go_ret3
      exact ⟨hB.trans (hB2.mono z1), .inr ⟨Ho.out, T, b, b', HT.out, rfl, hA2, hA'⟩⟩
  · have Ho := Lib.hid (show sdOk zs = false by unfold sdOk; rw [hv]; rfl)
    clear hv
    go_wp2_with fail
    go_ret3
    exact ⟨hB, .inl ⟨Ho.out, _, _, rfl⟩⟩

set_option maxHeartbeats 2000000 in
theorem SideOrder_any (A : Option Addr) (n c : Nat) (zs : List Int) (w : World) (h : Ints w w.heap.size A n zs) (hbig : n ≤ 1152921504606846976) :
    Calls Try.prog 21 #[.slice A n c] w (GivesSd w zs) := by
  have hlen := Lib.hid h.len
  go_enter Try.func21, Try.ntmps21
  go_wp2_with fail
  refine (readSided_any A n c zs w h hbig).mono ?_
  rintro e w1 ⟨hB, (⟨Ho, v1, v2, rfl⟩ | ⟨Ho, T, b, b', hT, rfl, hA, hA'⟩)⟩
  · have Ho := Lib.hid Ho
    go_wp2_with fail
    go_ret2
    exact none_sd Ho.out hB
  · have Ho := Lib.hid Ho
    have hvo : VoP zs := by
      have := Ho.out
      unfold sdOk at this
      rw [Bool.and_eq_true] at this
      simpa [vo] using this.1
    have hTl : T.length = n := by rw [(sdF_some hvo hT).1.len, hlen.out]
    have Hr := Lib.hid (show sdR zs = T by unfold sdR; rw [Ho.out, hT]; rfl)
    have hn6 : n ≤ 6 := by have := hvo.1; rw [hlen.out] at this; exact this
    clear hT
    have z1 := hB.size
    go_wp2_with fail
    refine (list_any _ n _ T _ (hA'.ints' hA'.lt hTl) (by omega)).mono ?_
    rintro e w2 ⟨rfl, hA2, hB2⟩
    go_wp2_with fail
    go_ret2
    exact ⟨_, n, n, by rw [Ho.out]; rfl, by rw [Hr.out]; exact Row.of hA2 hTl (by omega) hA2.lt, hB.trans (hB2.mono z1)⟩
end Go.Proofs.Ytghogabmkbadjab

/- Texts that several claims share, one behind the other. -/
import Derived.Test.YtghogabmkbadjabGxb
import Derived.Test.YtghogabmkbadjabGxi
import Derived.Test.YtghogabmkbadjabGxj
import Derived.Test.YtghogabmkbadjabCntS
import Derived.Test.YtghogabmkbadjabGd
import Derived.Test.YtghogabmkbadjabGb
import Derived.Test.YtghogabmkbadjabGxp
set_option linter.unusedVariables false
set_option linter.unusedSimpArgs false
/- FewestLines: its value, and what the model's search tells. No program but memory. -/
namespace Go.Proofs.Ytghogabmkbadjab
open Go.RowKit Go.Shelf
attribute [local go_sem] Oper.semAt_some

/-- The answer: -1 of a list that is no order, and of an order of more than sixty lines. -/
def fewLR (zs : List Int) : Int := if vo zs && decide (linesR zs ≤ 60) then fwN zs else -1
theorem two_rows {w : World} {A1 A2 : Option Addr} {c1 c2 : Nat} {t : TypeId} {r1 r2 : List Int} (h1 : Ints w w.heap.size A1 r1.length r1) (h2 : Ints w w.heap.size A2 r2.length r2) : IntsS (w.alloc (.cells #[.slice A1 r1.length c1, .slice A2 r2.length c2] t)) (w.alloc (.cells #[.slice A1 r1.length c1, .slice A2 r2.length c2] t)).heap.size (some ⟨w.heap.size, 0, none⟩) 2 [r1, r2] := by
  have hb : Below w.heap.size w (w.alloc (.cells #[.slice A1 r1.length c1, .slice A2 r2.length c2] t)) := (Below.refl _ _).alloc (Nat.le_refl _) _
  have hn := heap_alloc_new w (.cells #[.slice A1 r1.length c1, .slice A2 r2.length c2] t)
  have hz := World.size_alloc w (.cells #[.slice A1 r1.length c1, .slice A2 r2.length c2] t)
  have g1 := h1.to hb (Nat.le_refl _) hb.size
  have g2 := h2.to hb (Nat.le_refl _) hb.size
  refine ⟨rfl, fun _ => ⟨w.heap.size, 0, rfl, by omega, fun j hj => ?_⟩⟩
  rcases (by omega : j = 0 ∨ j = 1) with rfl | rfl
  · exact ⟨A1, c1, by rw [cell_of_row _ _ _ _ _ (0, 0) hn]; rfl, g1⟩
  · exact ⟨A2, c2, by rw [cell_of_row _ _ _ _ _ (0, 0) hn]; rfl, g2⟩
theorem meL_swap (n : Nat) (a b : List Int) : meL n [a, b] = meL n [b, a] := by
  unfold meL
  refine List.map_congr_left fun x _ => setP_congr n fun j _ => ?_
  unfold behB
  simp [Bool.and_comm]
theorem meL_same (n : Nat) (a : List Int) : meL n [a, a] = meL n [a] := by
  unfold meL
  refine List.map_congr_left fun x _ => setP_congr n fun j _ => ?_
  unfold behB
  simp
/-- No two of the lines tell it: three do. -/
theorem fw_none {zs : List Int} (h : VoP zs) (h1 : (alL zs).length ≠ 1) (hno : ∀ i, i < (alL zs).length → ∀ k, k < i → meL zs.length [(alL zs)[k]?.getD [], (alL zs)[i]?.getD []] ≠ zs) : fwN zs = 3 := by
  unfold fwN
  rw [if_neg h1, if_neg]
  intro hs
  obtain ⟨a, b, ha, hb, e⟩ := (fw_two h).2 hs
  obtain ⟨i, hi, rfl⟩ := List.mem_iff_getElem.1 ha
  obtain ⟨k, hk, rfl⟩ := List.mem_iff_getElem.1 hb
  have hne : i ≠ k := fun e2 => by
    subst e2
    rw [meL_same] at e
    exact h1 ((one_len h).1 ⟨_, (alL_mem zs _).1 ha, e⟩)
  rcases Nat.lt_or_gt_of_ne hne with hlt | hlt
  · exact hno k hk i hlt (by rw [List.getElem?_eq_getElem hi, List.getElem?_eq_getElem hk]; exact e)
  · exact hno i hi k hlt (by rw [List.getElem?_eq_getElem hi, List.getElem?_eq_getElem hk]; rw [meL_swap]; exact e)
theorem fw_some {zs : List Int} (h : VoP zs) (h1 : (alL zs).length ≠ 1) {i k : Nat} (hi : i < (alL zs).length) (hk : k < (alL zs).length) (e : meL zs.length [(alL zs)[k]?.getD [], (alL zs)[i]?.getD []] = zs) : fwN zs = 2 := by
  unfold fwN
  rw [if_neg h1, if_pos]
  refine (fw_two h).1 ⟨_, _, List.getElem_mem hk, List.getElem_mem hi, ?_⟩
  rw [List.getElem?_eq_getElem hi, List.getElem?_eq_getElem hk] at e
  exact e
end Go.Proofs.Ytghogabmkbadjab

/- What the own law of FewestLines asks, as plain mathematics. No program. -/
namespace Go.Proofs.Ytghogabmkbadjab

theorem pop_full2_fin : ∀ n : Fin 7, ∀ s : Fin 64, s.val < 2 ^ n.val → popI (s.val : Int) = (n.val : Int) → s.val = 2 ^ n.val - 1 := by decide +kernel
theorem q_lt {zs : List Int} {x y : Nat} (h : qB zs x y) : lt zs x y := by
  refine ⟨?_, h⟩
  rcases Nat.lt_or_ge x zs.length with h1 | h1
  · exact h1
  · unfold qB at h
    rw [List.getElem?_eq_none h1, Option.getD_none, bitB_zero] at h; cases h
theorem all_chain {zs : List Int} (hT : Tot zs) : chB zs ((2 ^ zs.length - 1 : Nat) : Int) = true := by
  have h6 := hT.vo.1
  have hp : 2 ^ zs.length ≤ 64 := by
    have := Nat.pow_le_pow_right (n := 2) (by omega) h6
    omega
  unfold chB
  rw [decide_eq_true_iff, ChP_iff (by omega)]
  intro a b ha hb hab
  have hal : a < zs.length ∧ b < zs.length := by
    have e : ((2 ^ zs.length - 1 : Nat) : Int) = powI (zs.length : Int) - 1 := by
      have := Nat.two_pow_pos zs.length
      unfold powI
      rw [Int.toNat_natCast]
      rw [Int.natCast_sub (by omega)]
      norm_cast
    rw [e, all_bits] at ha hb
    exact ⟨by simpa using ha, by simpa using hb⟩
  unfold relB
  rw [Bool.or_eq_true]
  exact hT.tot a b hal.1 hal.2 (by omega)
theorem tot_long {zs : List Int} (hT : Tot zs) : longI zs = (zs.length : Int) := by
  have h6 := hT.vo.1
  have hp : 2 ^ zs.length ≤ 64 := by
    have := Nat.pow_le_pow_right (n := 2) (by omega) h6
    omega
  have h0 := Nat.two_pow_pos zs.length
  have hpw : powI (zs.length : Int) = ((2 ^ zs.length : Nat) : Int) := by simp [powI]
  have h1 := chain_le hT.vo (s := ((2 ^ zs.length - 1 : Nat) : Int)) (by omega) (by rw [hpw]; omega) (all_chain hT)
  have h2 := longI_bd hT.vo
  have h3 := pop_all_fin ⟨zs.length, by omega⟩
  simp only at h3
  rw [hpw, show ((2 ^ zs.length : Nat) : Int) - 1 = ((2 ^ zs.length - 1 : Nat) : Int) by omega] at h3
  omega
theorem long_tot {zs : List Int} (h : VoP zs) (hl : longI zs = (zs.length : Int)) : Tot zs := by
  have h6 := h.1
  have hp : 2 ^ zs.length ≤ 64 := by
    have := Nat.pow_le_pow_right (n := 2) (by omega) h6
    omega
  have h0 := Nat.two_pow_pos zs.length
  obtain ⟨j, hj, hc, hpj⟩ := grTo_at (p := chB zs) (chB_none zs) (setsN zs) (by have := setsN_pow zs; have := powI_pos (zs.length : Int); omega)
  rw [gr_long h, hl] at hpj
  have hsz : setsN zs = 2 ^ zs.length := by have h1 := setsN_pow zs; have : powI (zs.length : Int) = ((2 ^ zs.length : Nat) : Int) := by simp [powI]
                                            omega
  have hj2 := pop_full2_fin ⟨zs.length, by omega⟩ ⟨j, by omega⟩ (by simp only; omega) hpj
  simp only at hj2
  refine ⟨h, fun x y hx hy hxy => ?_⟩
  have hbit : ∀ z, z < zs.length → bitB (j : Int) (z : Int) = true := fun z hz => by
    rw [hj2]
    have e : ((2 ^ zs.length - 1 : Nat) : Int) = powI (zs.length : Int) - 1 := by
      have : powI (zs.length : Int) = ((2 ^ zs.length : Nat) : Int) := by simp [powI]
      omega
    rw [e, all_bits]
    simpa using hz
  unfold chB at hc
  rw [decide_eq_true_iff, ChP_iff (by omega)] at hc
  rcases Nat.lt_or_gt_of_ne hxy with hlt | hlt
  · have := hc x y (hbit x hx) (hbit y hy) hlt
    unfold relB at this
    rw [Bool.or_eq_true] at this
    exact this
  · have := hc y x (hbit y hy) (hbit x hx) hlt
    unfold relB at this
    rw [Bool.or_eq_true] at this
    exact this.symm
theorem one_tot {zs : List Int} (h : VoP zs) : (alL zs).length = 1 ↔ longI zs = (zs.length : Int) := by
  rw [← one_len h]
  constructor
  · rintro ⟨a, ha, e⟩
    exact tot_long (told_tot h ha e)
  · intro e
    have hT := long_tot h e
    exact ⟨onL zs, on_line h, (one_iff h (on_line h)).2 fun b hb => tot_one hT hb (on_line h)⟩
theorem fw_one {zs : List Int} (h : VoP zs) : fwN zs = 1 ↔ longI zs = (zs.length : Int) := by
  rw [← one_tot h]
  unfold fwN
  split
  · rename_i e; simp [e]
  · rename_i e
    split <;> simp [e]
theorem fw_le2 {zs : List Int} (h : VoP zs) : fwN zs ≤ 2 ↔ (sdF zs).isSome = true := by
  by_cases e : (alL zs).length = 1
  · obtain ⟨a, ha, e2⟩ := (one_len h).2 e
    have hs : (sdF zs).isSome = true := (fw_two h).1 ⟨a, a, (alL_mem zs a).2 ha, (alL_mem zs a).2 ha, by rw [meL_same]; exact e2⟩
    unfold fwN
    rw [if_pos e, hs]
    simp
  · unfold fwN
    rw [if_neg e]
    cases (sdF zs).isSome <;> simp
theorem fw_bd (zs : List Int) : 1 ≤ fwN zs ∧ fwN zs ≤ 3 := by
  unfold fwN
  split
  · omega
  · split <;> omega
theorem side_dual {zs T : List Int} (h : VoP zs) (hT : SideOf zs T) : SideOf (du zs) T := by
  refine ⟨hT.vo, by rw [du_len]; exact hT.len, fun x y hx hy => ?_⟩
  rw [du_len] at hx hy
  rw [hT.iff x y hx hy]
  unfold un
  rw [du_q h y x, du_q h x y]
  constructor
  · rintro ⟨a, b, c⟩; exact ⟨a, c, b⟩
  · rintro ⟨a, b, c⟩; exact ⟨a, c, b⟩
theorem sd_dual {zs : List Int} (h : VoP zs) (e : (sdF zs).isSome = true) : (sdF (du zs)).isSome = true := by
  obtain ⟨T, hT⟩ := Option.isSome_iff_exists.1 e
  obtain ⟨S, hS⟩ := sdF_of (du_vo h) (side_dual h (sdF_some h hT).1)
  rw [hS]; rfl
theorem fw_du {zs : List Int} (h : VoP zs) : fwN (du zs) = fwN zs := by
  obtain ⟨F, -, -, h1, h2, -⟩ := lines_facts h
  have h3 := (lines_law h).1
  have h4 := (lines_law (du_vo h)).1
  have hl : (alL (du zs)).length = (alL zs).length := by omega
  have hs : (sdF (du zs)).isSome = (sdF zs).isSome := by
    rw [Bool.eq_iff_iff]
    exact ⟨fun e => by have := sd_dual (du_vo h) e; rwa [du_du h] at this, sd_dual h⟩
  unfold fwN
  rw [hl, hs]
/-- What the own law asks. -/
theorem few_facts {zs : List Int} (h : VoP zs) (hl : linesR zs ≤ 60) : fewLR zs = fwN zs ∧ fewLR (du zs) = fwN zs ∧ 1 ≤ fwN zs ∧ fwN zs ≤ 3 ∧ (fwN zs = 1 ↔ longI zs = (zs.length : Int)) ∧ (fwN zs ≤ 2 ↔ sdOk zs = true) := by
  obtain ⟨F, -, -, h1, h2, -⟩ := lines_facts h
  refine ⟨?_, ?_, (fw_bd zs).1, (fw_bd zs).2, fw_one h, ?_⟩
  · unfold fewLR
    rw [vo_true h, decide_eq_true hl]; rfl
  · unfold fewLR
    rw [vo_true (du_vo h), decide_eq_true (by omega), fw_du h]; rfl
  · rw [fw_le2 h]
    unfold sdOk
    rw [vo_true h]; rfl
end Go.Proofs.Ytghogabmkbadjab

/- FewestLines: the model's, whole. -/
namespace Go.Proofs.Ytghogabmkbadjab
open Go.RowKit Go.Shelf
attribute [local go_sem] Oper.semAt_some

set_option maxRecDepth 100000 in
set_option maxHeartbeats 16000000 in
theorem specFewestLinesF_any (A : Option Addr) (n c : Nat) (zs : List Int) (w : World) (h : Ints w w.heap.size A n zs) (hbig : n ≤ 1152921504606846976) :
    Calls Try.prog 20 #[.slice A n c] w fun e w' => e = .returned (.int .i64 (fewLR zs)) ∧ Below w.heap.size w w' := by
  have hlen := Lib.hid h.len
  cases hv : vo zs
  · have Ht := Lib.hid (show fewLR zs = -1 by unfold fewLR; rw [hv]; rfl)
    go_enter Try.func20, Try.ntmps20
    go_wp2_with fail
    refine (validOrder_any _ _ _ _ zs _ h hbig).mono ?_
    rw [hv]
    rintro e w' ⟨rfl, m, rfl⟩
    go_wp2_with fail
    go_ret
    exact ⟨ret_int Ht.out.symm, below_drewN (Below.refl _ _) m⟩
  · have hvo : VoP zs := by simpa [vo] using hv
    have Hv := Lib.hid hv
    clear hv
    have hn6 : n ≤ 6 := by have := hvo.1; rw [hlen.out] at this; exact this
    have Hlr := Lib.hid (show linesR zs = (cG zs (2 ^ n - 1) : Int) by unfold linesR; rw [Hv.out, hlen.out]; rfl)
    have Hdu := Lib.hid (show downP n (pairsL zs) = du zs by unfold du; rw [hlen.out])
    have Hcnt := Lib.hid (alL_count (zs := zs) (by rw [hlen.out]; exact hn6))
    have Hal := Lib.hid (show alL zs = alG zs n [] 0 by unfold alL; rw [hlen.out])
    go_enter Try.func20, Try.ntmps20
    go_wp2_with fail
    refine (validOrder_any _ _ _ _ zs _ h hbig).mono ?_
    rw [Hv.out]
    rintro e w' ⟨rfl, m, rfl⟩
    have i1 : Ints (w.drewN m) (w.drewN m).heap.size A n zs := h.drewN m
    have B1 : Below w.heap.size w (w.drewN m) := below_drewN (Below.refl _ _) m
    generalize w.drewN m = w1 at *
    have z1 := B1.size
    go_wp2_with fail
    refine (scountLines_any A n c zs hvo _ i1).mono ?_
    rintro e w2 ⟨rfl, hB2⟩
    have B2 := B1.trans (hB2.mono z1)
    have i2 := i1.to hB2 (Nat.le_refl _) hB2.size
    have z2 := hB2.size
    by_cases hc : (cG zs (2 ^ n - 1) : Int) ≤ 60
    · have Ht := Lib.hid (show fewLR zs = fwN zs by unfold fewLR; rw [Hv.out, Hlr.out]; simp [hc])
      generalize (cG zs (2 ^ n - 1) : Int) = cc at *
      go_wp2_with fail
      refine (downOf_any A n c zs w2 i2 hvo.sets).mono ?_
      rintro e w3 ⟨rfl, hA3, hB3⟩
      rw [Hdu.out] at hA3
      have z3 := hB3.size
      have i3 := i2.to hB3 (Nat.le_refl _) z3
      have j3 := hA3.ints' (B := w3.heap.size) hA3.lt (by rw [du_len, hlen.out])
      have B3 := B2.trans (hB3.mono (by omega))
      clear hA3 hB3
      go_wp2_with fail
      have hown0 := own_new w3 3
      have hU0 : Upd (fun _ => False) w3 (w3.alloc (.cells #[] 3)) := (Upd.refl _ w3).alloc _
      have hB0 := hU0.toBelow (B := w3.heap.size) (fun _ e => e.elim) (Nat.le_refl _)
      have z4 := hB0.size
      refine (allLines_any zs hvo n hlen.out A _ c _ n [] 0 w3.heap.size 0 _ (by simp) (Int.le_refl _) (powI_pos _) (i3.to hB0 (Nat.le_refl _) z4) (j3.to hB0 (Nat.le_refl _) z4) (own_sooner hown0 (Nat.zero_le _))).mono ?_
      rintro e w4 ⟨v, g', c', rfl, ⟨L, rfl, hL, hR⟩, hB4⟩
      have hlt := hR.lt
      have HI := (⟨hR.own, hR.has, hR.apart, hR.pair, hlt.1, hlt.2⟩ : LnRows (fun k => k < w4.heap.size) w4 _ L).intsB (fun k e => e) rfl
      rw [hL, ← Hal.out] at HI
      have hLl : L.length = (alL zs).length := by rw [Hal.out, ← hL, List.length_map]
      rw [hLl] at HI ⊢
      have zB4 := hB4.size
      have HB := B3.trans ((hB0.trans (hB4.mono z4)).mono (by omega))
      have i4 := (i3.to hB0 (Nat.le_refl _) z4).to hB4 (Nat.le_refl _) zB4
      clear hR hlt hB4 hL hLl hown0 hU0 hB0 j3 i3 i2 i1 B1 B2 B3 hB2
      have Hnone := Lib.hid (fw_none (zs := zs) hvo)
      have Hsome := Lib.hid (fun h1 i k hi hk => fw_some (zs := zs) hvo h1 (i := i) (k := k) hi hk)
      have Hone := Lib.hid (show (alL zs).length = 1 → fwN zs = 1 from fun e => by unfold fwN; rw [if_pos e])
      have Hrl := Lib.hid (fun j (hj : j < (alL zs).length) => (show ((alL zs)[j]?.getD []).length = n by rw [List.getElem?_eq_getElem hj, ← hlen.out]; exact alL_rows _ (List.getElem_mem hj)))
      rw [hlen.out] at Hnone Hsome
      have hm : (alL zs).length ≤ 46656 := Hcnt.out
      clear Hcnt Hal
      generalize alL zs = rs at *
      obtain ⟨m2, hm2⟩ : ∃ m2, rs.length = m2 := ⟨_, rfl⟩
      rw [hm2] at HI hm Hnone Hsome Hone Hrl ⊢
      have Hm2 := Lib.hid hm2
      clear hm2
      by_cases h1 : m2 = 1
      · subst h1
        go_wp2_with fail
        go_ret
        exact ⟨ret_int (by rw [Ht.out, Hone.out (by trivial)]), HB⟩
      · have hne1 : ¬ ((m2 : Int) = 1) := by omega
        go_wp2_with fail
        go_loopw [4] (fun i wr => ∃ k : Nat, k ≤ m2 ∧ i = .int .i64 k ∧ Below w4.heap.size w4 wr) (fun i _ => m2 - (intOf i).toNat)
        case atStart => exact ⟨0, by omega, rfl, Below.refl _ _⟩
        case round =>
          obtain ⟨k, hk, rfl, hBr⟩ := hrel
          rename World => wr
          have zr := hBr.size
          by_cases hlt : k < m2
          · have hy : k < m2 := hlt
            have hx : 0 < m2 := by omega
            go_wp2
            have kB : Below w4.heap.size w4 wr.drew := hBr.drew
            obtain ⟨Wd, hWd⟩ : ∃ Wd, wr.drew = Wd := ⟨_, rfl⟩
            rw [hWd] at kB
            have zr := kB.size
            have HIr := HI.to kB (Nat.le_refl _) zr
            have ir := i4.to kB (Nat.le_refl _) zr
            obtain ⟨b, off, e, hb, hc⟩ := HIr.at_ hx
            cases e
            obtain ⟨A1, c1, hc1, hI1⟩ := hc (0) hx
            obtain ⟨A2, c2, hc2, hI2⟩ := hc (k) hy
            clear hc HIr
            rw [Nat.zero_add] at hc1 hc2
            have hr1 := Hrl.out (0) hx
            have hr2 := Hrl.out (k) hy
            have hs := Hsome.out h1 (k) (0) hy hx
            obtain ⟨r1, he1⟩ : ∃ r, rs[0]?.getD [] = r := ⟨_, rfl⟩
            obtain ⟨r2, he2⟩ : ∃ r, rs[k]?.getD [] = r := ⟨_, rfl⟩
            rw [he1] at hc1 hI1 hr1 hs
            rw [he2] at hc2 hI2 hr2 hs
            have Hs := Lib.hid hs
            have He1 := Lib.hid he1
            have He2 := Lib.hid he2
            clear hs he1 he2
            have hT := two_rows (w := Wd) (c1 := c1) (c2 := c2) (t := 22) hI1 hI2
            have hBa : Below Wd.heap.size Wd (Wd.alloc (.cells #[.slice A1 r1.length c1, .slice A2 r2.length c2] 22)) := (Below.refl _ _).alloc (Nat.le_refl _) _
            rw [hr1, hr2] at hT hBa
            have zl := hBa.size
            rw [hr1] at hc1
            rw [hr2] at hc2
            have hgl : g' < Wd.heap.size := hb
            have hcell1 := hBa.cell (p := ⟨g', 0, none⟩) hgl
            rw [hc1] at hcell1
            have hcell2 := hBa.cell (p := ⟨g', k, none⟩) hgl
            rw [hc2] at hcell2
            have Hmeet := Lib.hid (meetLines_any n _ 2 2 [r1, r2] _ hT hn6 (by omega) (by intro r hr; simp at hr; rcases hr with rfl | rfl <;> omega))
            have hIr2 := ir.to hBa (Nat.le_refl _) zl
            have hBr2 := kB.trans (hBa.mono zr)
            clear hI1 hI2 hT ir
            refine region_T (S := (fun w' => w'.cell? ⟨g', 0, none⟩ = some (.slice A1 n c1) ∧ w'.cell? ⟨g', k, none⟩ = some (.slice A2 n c2))) 12 (by kernel_rfl) ?_
            rw [hWd]
            clear hWd
            have hSd : (fun w' => w'.cell? ⟨g', 0, none⟩ = some (.slice A1 n c1) ∧ w'.cell? ⟨g', k, none⟩ = some (.slice A2 n c2)) Wd := ⟨hc1, hc2⟩
            have hSe : (fun w' => w'.cell? ⟨g', 0, none⟩ = some (.slice A1 n c1) ∧ w'.cell? ⟨g', k, none⟩ = some (.slice A2 n c2)) (Wd.alloc (.cells #[.slice A1 n c1, .slice A2 n c2] 22)) := ⟨hcell1, hcell2⟩
            have HSe := Lib.hid hSe
            clear hSe
            refine anyT_take (i := 0) (oi := ?oi0a) (v := .slice A n c) ?hi0a (by kernel_rfl) ?hq0a ?hy0a (by assumption) ?rest0a
            case hi0a => (simp only [List.getElem?_toArray, List.getElem?_cons_zero]; first | done | rfl)
            case hq0a => first | exact fun _ _ _ h => h | exact fun _ _ _ h => (by cases h.1)
            case hy0a => (refine Or.inl ⟨by rfl, ?_⟩; intro wz hSw; obtain ⟨hS1, hS2⟩ := hSw; go_simp; first | done | with_reducible rfl | simp | omega)
            try simp only [Act.put, List.setIfInBounds_toArray, List.set_cons_zero, List.set_cons_succ]
            refine anyT_take (i := 1) (oi := ?oi1a) (v := .int .i64 (n : Int)) ?hi1a (by kernel_rfl) ?hq1a ?hy1a (by assumption) ?rest1a
            case hi1a => (simp only [List.getElem?_toArray, List.getElem?_cons_succ, List.getElem?_cons_zero]; first | done | rfl)
            case hq1a => first | exact fun _ _ _ h => h | exact fun _ _ _ h => (by cases h.1)
            case hy1a => (refine Or.inl ⟨by rfl, ?_⟩; intro wz hSw; obtain ⟨hS1, hS2⟩ := hSw; go_simp; first | done | with_reducible rfl | simp | omega)
            try simp only [Act.put, List.setIfInBounds_toArray, List.set_cons_zero, List.set_cons_succ]
            refine anyT_take (i := 2) (oi := ?oi2a) (v := .slice (some ⟨g', 0, none⟩) m2 c') ?hi2a (by kernel_rfl) ?hq2a ?hy2a (by assumption) ?rest2a
            case hi2a => (simp only [List.getElem?_toArray, List.getElem?_cons_succ, List.getElem?_cons_zero]; first | done | rfl)
            case hq2a => first | exact fun _ _ _ h => h | exact fun _ _ _ h => (by cases h.1)
            case hy2a => (refine Or.inl ⟨by rfl, ?_⟩; intro wz hSw; obtain ⟨hS1, hS2⟩ := hSw; go_simp; first | done | with_reducible rfl | simp | omega)
            try simp only [Act.put, List.setIfInBounds_toArray, List.set_cons_zero, List.set_cons_succ]
            refine anyT_take (i := 3) (oi := ?oi3a) (v := .pointer (some ⟨g', 0, none⟩)) ?hi3a (by kernel_rfl) ?hq3a ?hy3a (by assumption) ?rest3a
            case hi3a => (simp only [List.getElem?_toArray, List.getElem?_cons_succ, List.getElem?_cons_zero]; first | done | rfl)
            case hq3a => first | exact fun _ _ _ h => h | exact fun _ _ _ h => (by cases h.1)
            case hy3a => (refine Or.inl ⟨by rfl, ?_⟩; intro wz hSw; obtain ⟨hS1, hS2⟩ := hSw; go_simp; first | done | with_reducible rfl | simp | omega)
            try simp only [Act.put, List.setIfInBounds_toArray, List.set_cons_zero, List.set_cons_succ]
            refine anyT_take (i := 4) (oi := ?oi4a) (v := .slice A1 n c1) ?hi4a (by kernel_rfl) ?hq4a ?hy4a (by assumption) ?rest4a
            case hi4a => (simp only [List.getElem?_toArray, List.getElem?_cons_succ, List.getElem?_cons_zero]; first | done | rfl)
            case hq4a => first | exact fun _ _ _ h => h | exact fun _ _ _ h => (by cases h.1)
            case hy4a => (refine Or.inl ⟨by rfl, ?_⟩; intro wz hSw; obtain ⟨hS1, hS2⟩ := hSw; go_simp; first | done | with_reducible rfl | simp | omega)
            try simp only [Act.put, List.setIfInBounds_toArray, List.set_cons_zero, List.set_cons_succ]
            refine anyT_take (i := 5) (oi := ?oi5a) (v := .slice (some ⟨g', 0, none⟩) m2 c') ?hi5a (by kernel_rfl) ?hq5a ?hy5a (by assumption) ?rest5a
            case hi5a => (simp only [List.getElem?_toArray, List.getElem?_cons_succ, List.getElem?_cons_zero]; first | done | rfl)
            case hq5a => first | exact fun _ _ _ h => h | exact fun _ _ _ h => (by cases h.1)
            case hy5a => (refine Or.inl ⟨by rfl, ?_⟩; intro wz hSw; obtain ⟨hS1, hS2⟩ := hSw; go_simp; first | done | with_reducible rfl | simp | omega)
            try simp only [Act.put, List.setIfInBounds_toArray, List.set_cons_zero, List.set_cons_succ]
            refine anyT_take (i := 6) (oi := ?oi6a) (v := .int .i64 (k : Int)) ?hi6a (by kernel_rfl) ?hq6a ?hy6a (by assumption) ?rest6a
            case hi6a => (simp only [List.getElem?_toArray, List.getElem?_cons_succ, List.getElem?_cons_zero]; first | done | rfl)
            case hq6a => first | exact fun _ _ _ h => h | exact fun _ _ _ h => (by cases h.1)
            case hy6a => (refine Or.inl ⟨by rfl, ?_⟩; intro wz hSw; obtain ⟨hS1, hS2⟩ := hSw; go_simp; first | done | with_reducible rfl | simp | omega)
            try simp only [Act.put, List.setIfInBounds_toArray, List.set_cons_zero, List.set_cons_succ]
            refine anyT_take (i := 7) (oi := ?oi7a) (v := .pointer (some ⟨g', k, none⟩)) ?hi7a (by kernel_rfl) ?hq7a ?hy7a (by assumption) ?rest7a
            case hi7a => (simp only [List.getElem?_toArray, List.getElem?_cons_succ, List.getElem?_cons_zero]; first | done | rfl)
            case hq7a => first | exact fun _ _ _ h => h | exact fun _ _ _ h => (by cases h.1)
            case hy7a => (refine Or.inl ⟨by rfl, ?_⟩; intro wz hSw; obtain ⟨hS1, hS2⟩ := hSw; go_simp; first | done | with_reducible rfl | simp | omega)
            try simp only [Act.put, List.setIfInBounds_toArray, List.set_cons_zero, List.set_cons_succ]
            refine anyT_take (i := 8) (oi := ?oi8a) (v := .slice A2 n c2) ?hi8a (by kernel_rfl) ?hq8a ?hy8a (by assumption) ?rest8a
            case hi8a => (simp only [List.getElem?_toArray, List.getElem?_cons_succ, List.getElem?_cons_zero]; first | done | rfl)
            case hq8a => first | exact fun _ _ _ h => h | exact fun _ _ _ h => (by cases h.1)
            case hy8a => (refine Or.inl ⟨by rfl, ?_⟩; intro wz hSw; obtain ⟨hS1, hS2⟩ := hSw; go_simp; first | done | with_reducible rfl | simp | omega)
            try simp only [Act.put, List.setIfInBounds_toArray, List.set_cons_zero, List.set_cons_succ]
            refine anyT_take (i := 11) (oi := ?oi11a) (v := .slice A n c) ?hi11a (by kernel_rfl) ?hq11a ?hy11a (by assumption) ?rest11a
            case hi11a => (simp only [List.getElem?_toArray, List.getElem?_cons_succ, List.getElem?_cons_zero]; first | done | rfl)
            case hq11a => first | exact fun _ _ _ h => h | exact fun _ _ _ h => (by cases h.1)
            case hy11a => (refine Or.inl ⟨by rfl, ?_⟩; intro wz hSw; obtain ⟨hS1, hS2⟩ := hSw; go_simp; first | done | with_reducible rfl | simp | omega)
            try simp only [Act.put, List.setIfInBounds_toArray, List.set_cons_zero, List.set_cons_succ]
            refine anyT_one (i := 9) (by kernel_rfl) rfl (fun K' hK => ?_)
            go_simp
            refine hK.out _ _ (fun _ => HSe.out) ?_
            clear hK K'
            try simp only [Act.put, List.setIfInBounds_toArray, List.set_cons_zero, List.set_cons_succ]
            refine anyT_one (i := 10) (by kernel_rfl) rfl (fun K' hK => ?_)
            go_simp
            refine Hmeet.out.mono ?_
            rintro e w6 ⟨rfl, hA6, hB6⟩
            have z6 := hB6.size
            have i6 := hIr2.to hB6 (Nat.le_refl _) z6
            have hml := meL_len n [r1, r2]
            have j6 := hA6.ints' (B := w6.heap.size) hA6.lt hml
            rw [World.size_alloc] at j6
            have D6 := hBr2.trans (hB6.mono (by omega))
            have hS6 : (fun w' => w'.cell? ⟨g', 0, none⟩ = some (.slice A1 n c1) ∧ w'.cell? ⟨g', k, none⟩ = some (.slice A2 n c2)) w6 := ⟨(hB6.cell (p := ⟨g', 0, none⟩) (show g' < _ by omega)).trans HSe.out.1, (hB6.cell (p := ⟨g', k, none⟩) (show g' < _ by omega)).trans HSe.out.2⟩
            refine hK.out _ _ (fun _ => hS6) ?_
            clear hK K'
            try simp only [Act.put, List.setIfInBounds_toArray, List.set_cons_zero, List.set_cons_succ]
            refine anyT_one (i := 12) (by kernel_rfl) rfl (fun K' hK => ?_)
            go_simp
            refine (sameInts_any _ _ _ _ _ _ _ _ _ _ w6 j6 i6 (by omega) (by omega)).mono ?_
            rintro e w7 ⟨rfl, q, rfl⟩
            have D7 := below_drewN D6 q
            refine hK.out _ _ (fun h => absurd rfl h) ?_
            clear hK K'
            try simp only [Act.put, List.setIfInBounds_toArray, List.set_cons_zero, List.set_cons_succ]
            refine anyT_done (by kernel_rfl) ?_ _
            generalize w6.drewN q = w7 at *
            by_cases heq : meL n [r1, r2] = zs
            · have hd : decide (meL n [r1, r2] = zs) = true := by simp [heq]
              have Hq := Lib.hid heq
              clear heq
              rw [hd]
              go_wp2
              go_ret
              exact ⟨ret_int (by rw [Ht.out, Hs.out Hq.out]), HB.trans (D7.mono (by omega))⟩
            · have hd : decide (meL n [r1, r2] = zs) = false := by simp [heq]
              rw [hd]
              have Hne := Lib.hid heq
              clear heq
              go_wp2
              go_roundw
              case rel => first | exact ⟨k + 1, by omega, by go_num, D7⟩ | exact ⟨k + 1, by omega, by go_num⟩
              case measure => simp [intOf]; omega
          · have hkm : m2 = k := by omega
            subst hkm
            go_wp2_with fail
            go_loopw [5] (fun i wy => ∃ i2 : Nat, i2 ≤ m2 ∧ i = .int .i64 i2 ∧ Below w4.heap.size w4 wy ∧ Hid (∀ x, x < i2 → ∀ y, y < x → meL n [rs[y]?.getD [], rs[x]?.getD []] ≠ zs)) (fun i _ => m2 - (intOf i).toNat)
            case atStart => exact ⟨0, by omega, rfl, hBr, Lib.hid (fun x hx => absurd hx (Nat.not_lt_zero _))⟩
            case round =>
              clear hBr zr
              obtain ⟨i2, hi2, rfl, hBx, Hout⟩ := hrel
              rename World => wx
              have zx := hBx.size
              by_cases hlt2 : i2 < m2
              · go_wp2_with fail
                go_loopw [6] (fun v wy => ∃ k2 : Nat, k2 ≤ i2 ∧ v = .int .i64 k2 ∧ Below w4.heap.size w4 wy ∧ Hid (∀ y, y < k2 → meL n [rs[y]?.getD [], rs[i2]?.getD []] ≠ zs)) (fun v _ => i2 - (intOf v).toNat)
                case atStart => exact ⟨0, by omega, rfl, hBx, Lib.hid (fun x hx => absurd hx (Nat.not_lt_zero _))⟩
                case round =>
                  clear hBx zx
                  obtain ⟨k2, hk2, rfl, hBy, Hin⟩ := hrel
                  rename World => wy
                  by_cases hlt3 : k2 < i2
                  · have hy : i2 < m2 := hlt2
                    have hx : k2 < m2 := by omega
                    go_wp2
                    have kB : Below w4.heap.size w4 wy.drew := hBy.drew
                    obtain ⟨Wd, hWd⟩ : ∃ Wd, wy.drew = Wd := ⟨_, rfl⟩
                    rw [hWd] at kB
                    have zr := kB.size
                    have HIr := HI.to kB (Nat.le_refl _) zr
                    have ir := i4.to kB (Nat.le_refl _) zr
                    obtain ⟨b, off, e, hb, hc⟩ := HIr.at_ hx
                    cases e
                    obtain ⟨A1, c1, hc1, hI1⟩ := hc (k2) hx
                    obtain ⟨A2, c2, hc2, hI2⟩ := hc (i2) hy
                    clear hc HIr
                    rw [Nat.zero_add] at hc1 hc2
                    have hr1 := Hrl.out (k2) hx
                    have hr2 := Hrl.out (i2) hy
                    have hs := Hsome.out h1 (i2) (k2) hy hx
                    obtain ⟨r1, he1⟩ : ∃ r, rs[k2]?.getD [] = r := ⟨_, rfl⟩
                    obtain ⟨r2, he2⟩ : ∃ r, rs[i2]?.getD [] = r := ⟨_, rfl⟩
                    rw [he1] at hc1 hI1 hr1 hs
                    rw [he2] at hc2 hI2 hr2 hs
                    have Hs := Lib.hid hs
                    have He1 := Lib.hid he1
                    have He2 := Lib.hid he2
                    clear hs he1 he2
                    have hT := two_rows (w := Wd) (c1 := c1) (c2 := c2) (t := 22) hI1 hI2
                    have hBa : Below Wd.heap.size Wd (Wd.alloc (.cells #[.slice A1 r1.length c1, .slice A2 r2.length c2] 22)) := (Below.refl _ _).alloc (Nat.le_refl _) _
                    rw [hr1, hr2] at hT hBa
                    have zl := hBa.size
                    rw [hr1] at hc1
                    rw [hr2] at hc2
                    have hgl : g' < Wd.heap.size := hb
                    have hcell1 := hBa.cell (p := ⟨g', k2, none⟩) hgl
                    rw [hc1] at hcell1
                    have hcell2 := hBa.cell (p := ⟨g', i2, none⟩) hgl
                    rw [hc2] at hcell2
                    have Hmeet := Lib.hid (meetLines_any n _ 2 2 [r1, r2] _ hT hn6 (by omega) (by intro r hr; simp at hr; rcases hr with rfl | rfl <;> omega))
                    have hIr2 := ir.to hBa (Nat.le_refl _) zl
                    have hBr2 := kB.trans (hBa.mono zr)
                    clear hI1 hI2 hT ir
                    refine region_T (S := (fun w' => w'.cell? ⟨g', k2, none⟩ = some (.slice A1 n c1) ∧ w'.cell? ⟨g', i2, none⟩ = some (.slice A2 n c2))) 13 (by kernel_rfl) ?_
                    rw [hWd]
                    clear hWd
                    have hSd : (fun w' => w'.cell? ⟨g', k2, none⟩ = some (.slice A1 n c1) ∧ w'.cell? ⟨g', i2, none⟩ = some (.slice A2 n c2)) Wd := ⟨hc1, hc2⟩
                    have hSe : (fun w' => w'.cell? ⟨g', k2, none⟩ = some (.slice A1 n c1) ∧ w'.cell? ⟨g', i2, none⟩ = some (.slice A2 n c2)) (Wd.alloc (.cells #[.slice A1 n c1, .slice A2 n c2] 22)) := ⟨hcell1, hcell2⟩
                    have HSe := Lib.hid hSe
                    clear hSe
                    refine anyT_take (i := 0) (oi := ?oi0b) (v := .slice A n c) ?hi0b (by kernel_rfl) ?hq0b ?hy0b (by assumption) ?rest0b
                    case hi0b => (simp only [List.getElem?_toArray, List.getElem?_cons_zero]; first | done | rfl)
                    case hq0b => first | exact fun _ _ _ h => h | exact fun _ _ _ h => (by cases h.1)
                    case hy0b => (refine Or.inl ⟨by rfl, ?_⟩; intro wz hSw; obtain ⟨hS1, hS2⟩ := hSw; go_simp; first | done | with_reducible rfl | simp | omega)
                    try simp only [Act.put, List.setIfInBounds_toArray, List.set_cons_zero, List.set_cons_succ]
                    refine anyT_take (i := 1) (oi := ?oi1b) (v := .int .i64 (n : Int)) ?hi1b (by kernel_rfl) ?hq1b ?hy1b (by assumption) ?rest1b
                    case hi1b => (simp only [List.getElem?_toArray, List.getElem?_cons_succ, List.getElem?_cons_zero]; first | done | rfl)
                    case hq1b => first | exact fun _ _ _ h => h | exact fun _ _ _ h => (by cases h.1)
                    case hy1b => (refine Or.inl ⟨by rfl, ?_⟩; intro wz hSw; obtain ⟨hS1, hS2⟩ := hSw; go_simp; first | done | with_reducible rfl | simp | omega)
                    try simp only [Act.put, List.setIfInBounds_toArray, List.set_cons_zero, List.set_cons_succ]
                    refine anyT_take (i := 2) (oi := ?oi2b) (v := .slice (some ⟨g', 0, none⟩) m2 c') ?hi2b (by kernel_rfl) ?hq2b ?hy2b (by assumption) ?rest2b
                    case hi2b => (simp only [List.getElem?_toArray, List.getElem?_cons_succ, List.getElem?_cons_zero]; first | done | rfl)
                    case hq2b => first | exact fun _ _ _ h => h | exact fun _ _ _ h => (by cases h.1)
                    case hy2b => (refine Or.inl ⟨by rfl, ?_⟩; intro wz hSw; obtain ⟨hS1, hS2⟩ := hSw; go_simp; first | done | with_reducible rfl | simp | omega)
                    try simp only [Act.put, List.setIfInBounds_toArray, List.set_cons_zero, List.set_cons_succ]
                    refine anyT_take (i := 3) (oi := ?oi3b) (v := .int .i64 (k2 : Int)) ?hi3b (by kernel_rfl) ?hq3b ?hy3b (by assumption) ?rest3b
                    case hi3b => (simp only [List.getElem?_toArray, List.getElem?_cons_succ, List.getElem?_cons_zero]; first | done | rfl)
                    case hq3b => first | exact fun _ _ _ h => h | exact fun _ _ _ h => (by cases h.1)
                    case hy3b => (refine Or.inl ⟨by rfl, ?_⟩; intro wz hSw; obtain ⟨hS1, hS2⟩ := hSw; go_simp; first | done | with_reducible rfl | simp | omega)
                    try simp only [Act.put, List.setIfInBounds_toArray, List.set_cons_zero, List.set_cons_succ]
                    refine anyT_take (i := 4) (oi := ?oi4b) (v := .pointer (some ⟨g', k2, none⟩)) ?hi4b (by kernel_rfl) ?hq4b ?hy4b (by assumption) ?rest4b
                    case hi4b => (simp only [List.getElem?_toArray, List.getElem?_cons_succ, List.getElem?_cons_zero]; first | done | rfl)
                    case hq4b => first | exact fun _ _ _ h => h | exact fun _ _ _ h => (by cases h.1)
                    case hy4b => (refine Or.inl ⟨by rfl, ?_⟩; intro wz hSw; obtain ⟨hS1, hS2⟩ := hSw; go_simp; first | done | with_reducible rfl | simp | omega)
                    try simp only [Act.put, List.setIfInBounds_toArray, List.set_cons_zero, List.set_cons_succ]
                    refine anyT_take (i := 5) (oi := ?oi5b) (v := .slice A1 n c1) ?hi5b (by kernel_rfl) ?hq5b ?hy5b (by assumption) ?rest5b
                    case hi5b => (simp only [List.getElem?_toArray, List.getElem?_cons_succ, List.getElem?_cons_zero]; first | done | rfl)
                    case hq5b => first | exact fun _ _ _ h => h | exact fun _ _ _ h => (by cases h.1)
                    case hy5b => (refine Or.inl ⟨by rfl, ?_⟩; intro wz hSw; obtain ⟨hS1, hS2⟩ := hSw; go_simp; first | done | with_reducible rfl | simp | omega)
                    try simp only [Act.put, List.setIfInBounds_toArray, List.set_cons_zero, List.set_cons_succ]
                    refine anyT_take (i := 6) (oi := ?oi6b) (v := .slice (some ⟨g', 0, none⟩) m2 c') ?hi6b (by kernel_rfl) ?hq6b ?hy6b (by assumption) ?rest6b
                    case hi6b => (simp only [List.getElem?_toArray, List.getElem?_cons_succ, List.getElem?_cons_zero]; first | done | rfl)
                    case hq6b => first | exact fun _ _ _ h => h | exact fun _ _ _ h => (by cases h.1)
                    case hy6b => (refine Or.inl ⟨by rfl, ?_⟩; intro wz hSw; obtain ⟨hS1, hS2⟩ := hSw; go_simp; first | done | with_reducible rfl | simp | omega)
                    try simp only [Act.put, List.setIfInBounds_toArray, List.set_cons_zero, List.set_cons_succ]
                    refine anyT_take (i := 7) (oi := ?oi7b) (v := .int .i64 (i2 : Int)) ?hi7b (by kernel_rfl) ?hq7b ?hy7b (by assumption) ?rest7b
                    case hi7b => (simp only [List.getElem?_toArray, List.getElem?_cons_succ, List.getElem?_cons_zero]; first | done | rfl)
                    case hq7b => first | exact fun _ _ _ h => h | exact fun _ _ _ h => (by cases h.1)
                    case hy7b => (refine Or.inl ⟨by rfl, ?_⟩; intro wz hSw; obtain ⟨hS1, hS2⟩ := hSw; go_simp; first | done | with_reducible rfl | simp | omega)
                    try simp only [Act.put, List.setIfInBounds_toArray, List.set_cons_zero, List.set_cons_succ]
                    refine anyT_take (i := 8) (oi := ?oi8b) (v := .pointer (some ⟨g', i2, none⟩)) ?hi8b (by kernel_rfl) ?hq8b ?hy8b (by assumption) ?rest8b
                    case hi8b => (simp only [List.getElem?_toArray, List.getElem?_cons_succ, List.getElem?_cons_zero]; first | done | rfl)
                    case hq8b => first | exact fun _ _ _ h => h | exact fun _ _ _ h => (by cases h.1)
                    case hy8b => (refine Or.inl ⟨by rfl, ?_⟩; intro wz hSw; obtain ⟨hS1, hS2⟩ := hSw; go_simp; first | done | with_reducible rfl | simp | omega)
                    try simp only [Act.put, List.setIfInBounds_toArray, List.set_cons_zero, List.set_cons_succ]
                    refine anyT_take (i := 9) (oi := ?oi9b) (v := .slice A2 n c2) ?hi9b (by kernel_rfl) ?hq9b ?hy9b (by assumption) ?rest9b
                    case hi9b => (simp only [List.getElem?_toArray, List.getElem?_cons_succ, List.getElem?_cons_zero]; first | done | rfl)
                    case hq9b => first | exact fun _ _ _ h => h | exact fun _ _ _ h => (by cases h.1)
                    case hy9b => (refine Or.inl ⟨by rfl, ?_⟩; intro wz hSw; obtain ⟨hS1, hS2⟩ := hSw; go_simp; first | done | with_reducible rfl | simp | omega)
                    try simp only [Act.put, List.setIfInBounds_toArray, List.set_cons_zero, List.set_cons_succ]
                    refine anyT_take (i := 12) (oi := ?oi12b) (v := .slice A n c) ?hi12b (by kernel_rfl) ?hq12b ?hy12b (by assumption) ?rest12b
                    case hi12b => (simp only [List.getElem?_toArray, List.getElem?_cons_succ, List.getElem?_cons_zero]; first | done | rfl)
                    case hq12b => first | exact fun _ _ _ h => h | exact fun _ _ _ h => (by cases h.1)
                    case hy12b => (refine Or.inl ⟨by rfl, ?_⟩; intro wz hSw; obtain ⟨hS1, hS2⟩ := hSw; go_simp; first | done | with_reducible rfl | simp | omega)
                    try simp only [Act.put, List.setIfInBounds_toArray, List.set_cons_zero, List.set_cons_succ]
                    refine anyT_one (i := 10) (by kernel_rfl) rfl (fun K' hK => ?_)
                    go_simp
                    refine hK.out _ _ (fun _ => HSe.out) ?_
                    clear hK K'
                    try simp only [Act.put, List.setIfInBounds_toArray, List.set_cons_zero, List.set_cons_succ]
                    refine anyT_one (i := 11) (by kernel_rfl) rfl (fun K' hK => ?_)
                    go_simp
                    refine Hmeet.out.mono ?_
                    rintro e w6 ⟨rfl, hA6, hB6⟩
                    have z6 := hB6.size
                    have i6 := hIr2.to hB6 (Nat.le_refl _) z6
                    have hml := meL_len n [r1, r2]
                    have j6 := hA6.ints' (B := w6.heap.size) hA6.lt hml
                    rw [World.size_alloc] at j6
                    have D6 := hBr2.trans (hB6.mono (by omega))
                    have hS6 : (fun w' => w'.cell? ⟨g', k2, none⟩ = some (.slice A1 n c1) ∧ w'.cell? ⟨g', i2, none⟩ = some (.slice A2 n c2)) w6 := ⟨(hB6.cell (p := ⟨g', k2, none⟩) (show g' < _ by omega)).trans HSe.out.1, (hB6.cell (p := ⟨g', i2, none⟩) (show g' < _ by omega)).trans HSe.out.2⟩
                    refine hK.out _ _ (fun _ => hS6) ?_
                    clear hK K'
                    try simp only [Act.put, List.setIfInBounds_toArray, List.set_cons_zero, List.set_cons_succ]
                    refine anyT_one (i := 13) (by kernel_rfl) rfl (fun K' hK => ?_)
                    go_simp
                    refine (sameInts_any _ _ _ _ _ _ _ _ _ _ w6 j6 i6 (by omega) (by omega)).mono ?_
                    rintro e w7 ⟨rfl, q, rfl⟩
                    have D7 := below_drewN D6 q
                    refine hK.out _ _ (fun h => absurd rfl h) ?_
                    clear hK K'
                    try simp only [Act.put, List.setIfInBounds_toArray, List.set_cons_zero, List.set_cons_succ]
                    refine anyT_done (by kernel_rfl) ?_ _
                    generalize w6.drewN q = w7 at *
                    by_cases heq : meL n [r1, r2] = zs
                    · have hd : decide (meL n [r1, r2] = zs) = true := by simp [heq]
                      have Hq := Lib.hid heq
                      clear heq
                      rw [hd]
                      go_wp2
                      go_ret
                      exact ⟨ret_int (by rw [Ht.out, Hs.out Hq.out]), HB.trans (D7.mono (by omega))⟩
                    · have hd : decide (meL n [r1, r2] = zs) = false := by simp [heq]
                      rw [hd]
                      have Hne := Lib.hid heq
                      clear heq
                      go_wp2
                      go_roundw
                      case rel =>
                        rw [← He1.out, ← He2.out] at Hne
                        have Hnx : ∀ y, y < k2 + 1 → ¬ meL n [rs[y]?.getD [], rs[i2]?.getD []] = zs := fun y hy2 => by
                          rcases (by omega : y < k2 ∨ y = k2) with h5 | rfl
                          · exact Hin.out y h5
                          · exact Hne.out
                        first | exact ⟨k2 + 1, by omega, by go_num, Hnx⟩ | exact ⟨k2 + 1, by omega, by go_num, D7, Lib.hid Hnx⟩ | exact ⟨k2 + 1, by omega, by go_num, D7, Hnx⟩
                      case measure => simp [intOf]; omega
                  · have hki : i2 = k2 := by omega
                    subst hki
                    go_wp2_with fail
                    go_roundw
                    case rel => exact ⟨i2 + 1, by omega, by go_num, hBy, Lib.hid (fun x hx2 => by rcases (by omega : x < i2 ∨ x = i2) with h5 | rfl; exact Hout.out x h5; exact Hin.out)⟩
                    case measure => simp [intOf]; omega
              · have hkm : m2 = i2 := by omega
                subst hkm
                have Hr := Lib.hid (Hnone.out h1 Hout.out)
                go_wp2_with fail
                go_ret
                exact ⟨ret_int (by rw [Ht.out, Hr.out]), HB.trans (hBx.mono (by omega))⟩
    · have Ht := Lib.hid (show fewLR zs = -1 by unfold fewLR; rw [Hv.out, Hlr.out]; simp [hc])
      generalize (cG zs (2 ^ n - 1) : Int) = cc at *
      go_wp2_with fail
      go_ret
      exact ⟨ret_int Ht.out.symm, B2⟩
end Go.Proofs.Ytghogabmkbadjab

/- FewestLines: the program's search as data, and what it finds. No program. -/
namespace Go.Proofs.Ytghogabmkbadjab

/-- Each pair, and each item with itself. -/
def evL (n : Nat) : List Int := List.replicate n (powI (n : Int) - 1)
def cmL (n : Nat) (sf r : List Int) : List Int := opL andI sf (meL n [r]) n
def toldA (f : List Int → List (List Int) → Bool) (n : Nat) (sf : List Int) : List (List Int) → Bool
  | [] => false
  | r :: rs => f (cmL n sf r) rs || toldA f n sf rs
/-- Whether the pairs so far and at most k of the lines tell zs. -/
def toldL (n : Nat) (zs : List Int) : Nat → List Int → List (List Int) → Bool
  | 0, sf, _ => decide (sf = zs)
  | k + 1, sf, rs => decide (sf = zs) || toldA (toldL n zs k) n sf rs
/-- What the lines taken have in common. -/
def soL (n : Nat) (P : List (List Int)) : List Int := if P = [] then evL n else meL n P
theorem toldA_drop (f : List Int → List (List Int) → Bool) (n : Nat) (sf : List Int) (rs : List (List Int)) {i : Nat} (hi : i < rs.length) : toldA f n sf (rs.drop i) = (f (cmL n sf (rs[i]?.getD [])) (rs.drop (i + 1)) || toldA f n sf (rs.drop (i + 1))) := by
  rw [List.drop_eq_getElem_cons hi, List.getElem?_eq_getElem hi]
  rfl
theorem evL_len (n : Nat) : (evL n).length = n := by simp [evL]
theorem evL_get {n a : Nat} (ha : a < n) : (evL n)[a]?.getD 0 = powI (n : Int) - 1 := by simp [evL, ha]
theorem cm_so {n : Nat} (hn : n ≤ 6) (P : List (List Int)) (r : List Int) : cmL n (soL n P) r = soL n (P ++ [r]) := by
  have h1 : soL n (P ++ [r]) = meL n (P ++ [r]) := by unfold soL; rw [if_neg (by simp)]
  rw [h1]
  unfold cmL
  by_cases hp : P = []
  · subst hp
    unfold soL
    rw [if_pos rfl, List.nil_append]
    refine List.ext_getElem? fun a => ?_
    by_cases ha : a < n
    · have e1 := evL_get ha
      have e2 := meL_get [r] ha
      simp only [opL, List.getElem?_map, List.getElem?_range (show a < (evL n).length by rw [evL_len]; exact ha), Option.map_some, e1, e2, if_pos ha]
      simp only [meL, List.getElem?_map, List.getElem?_range ha, Option.map_some]
      congr 1
      refine bitB_ext (andI_bd _ _).1 (setP_bd _ _).1 fun j => ?_
      rw [bitB_and, setP_bit, all_bits]
      cases decide (j < n) <;> simp
    · rw [List.getElem?_eq_none (by rw [opL_len, evL_len]; omega), List.getElem?_eq_none (by rw [meL_len]; omega)]
  · unfold soL
    rw [if_neg hp]
    exact meL_snoc n P r
theorem toldA_iff {n : Nat} (hn : n ≤ 6) {zs : List Int} {k : Nat} (ih : ∀ P rs, toldL n zs k (soL n P) rs = true ↔ ∃ S, S.Sublist rs ∧ S.length ≤ k ∧ soL n (P ++ S) = zs) (P : List (List Int)) :
    ∀ rs, toldA (toldL n zs k) n (soL n P) rs = true ↔ ∃ r S, (r :: S).Sublist rs ∧ S.length ≤ k ∧ soL n (P ++ r :: S) = zs
  | [] => by simp [toldA]
  | r :: rs => by
    rw [toldA, Bool.or_eq_true, cm_so hn, ih, toldA_iff hn ih P rs]
    constructor
    · rintro (⟨S, h1, h2, h3⟩ | ⟨r', S, h1, h2, h3⟩)
      · exact ⟨r, S, h1.cons_cons r, h2, by rw [List.append_assoc] at h3; exact h3⟩
      · exact ⟨r', S, h1.cons r, h2, h3⟩
    · rintro ⟨r', S, h1, h2, h3⟩
      cases h1 with
      | cons _ h => exact .inr ⟨r', S, h, h2, h3⟩
      | cons_cons _ h => exact .inl ⟨S, h, h2, by rw [List.append_assoc]; exact h3⟩
theorem toldL_iff {n : Nat} (hn : n ≤ 6) {zs : List Int} : ∀ (k : Nat) (P : List (List Int)) (rs : List (List Int)), toldL n zs k (soL n P) rs = true ↔ ∃ S, S.Sublist rs ∧ S.length ≤ k ∧ soL n (P ++ S) = zs
  | 0, P, rs => by
    rw [toldL, decide_eq_true_eq]
    constructor
    · intro h; exact ⟨[], List.nil_sublist _, Nat.le_refl _, by rw [List.append_nil]; exact h⟩
    · rintro ⟨S, _, h2, h3⟩
      have hS : S = [] := List.eq_nil_of_length_eq_zero (by omega)
      rw [hS, List.append_nil] at h3
      exact h3
  | k + 1, P, rs => by
    rw [toldL, Bool.or_eq_true, decide_eq_true_eq, toldA_iff hn (fun P rs => toldL_iff hn k P rs)]
    constructor
    · rintro (h | ⟨r, S, h1, h2, h3⟩)
      · exact ⟨[], List.nil_sublist _, Nat.zero_le _, by rw [List.append_nil]; exact h⟩
      · exact ⟨r :: S, h1, by simpa using h2, h3⟩
    · rintro ⟨S, h1, h2, h3⟩
      cases S with
      | nil => rw [List.append_nil] at h3; exact .inl h3
      | cons r S => exact .inr ⟨r, S, h1, by simpa using h2, h3⟩
theorem len_sub {α : Type} [BEq α] [LawfulBEq α] : ∀ (S T : List α), T.Nodup → (∀ x ∈ T, x ∈ S) → T.length ≤ S.length
  | [], T, _, h => by
    cases T with
    | nil => simp
    | cons x T => exact absurd (h x (by simp)) (by simp)
  | s :: S, T, hn, h => by
    have h1 := len_sub S (T.erase s) (hn.erase s) (fun x hx => by
      rw [hn.mem_erase_iff] at hx
      rcases List.mem_cons.1 (h x hx.2) with e | e
      · exact absurd e hx.1
      · exact e)
    have h2 := List.length_erase (a := s) (l := T)
    split at h2
    · have : (s :: S).length = S.length + 1 := rfl
      omega
    · have : (s :: S).length = S.length + 1 := rfl
      omega
theorem meL_mem {n : Nat} {S T : List (List Int)} (h : ∀ x, x ∈ S ↔ x ∈ T) : meL n S = meL n T := by
  unfold meL
  refine List.map_congr_left fun x _ => setP_congr n fun j _ => ?_
  unfold behB
  congr 1
  rw [Bool.eq_iff_iff, List.all_eq_true, List.all_eq_true]
  exact ⟨fun g y hy => g y ((h y).2 hy), fun g y hy => g y ((h y).1 hy)⟩
/-- Lines that tell zs stand in the list of all lines one behind the other. -/
theorem sub_of {zs : List Int} {S : List (List Int)} (hS : ∀ x ∈ S, x ∈ alL zs) (hne : S ≠ []) : ∃ T, T.Sublist (alL zs) ∧ T.length ≤ S.length ∧ T ≠ [] ∧ meL zs.length T = meL zs.length S := by
  refine ⟨(alL zs).filter fun x => S.contains x, List.filter_sublist, ?_, ?_, ?_⟩
  · refine len_sub S _ ((alL_nodup zs).filter _) fun x hx => ?_
    have := (List.mem_filter.1 hx).2
    simpa using this
  · intro e
    cases S with
    | nil => exact hne rfl
    | cons s S =>
      have : s ∈ (alL zs).filter fun x => (s :: S).contains x := List.mem_filter.2 ⟨hS s (by simp), by simp⟩
      rw [e] at this
      cases this
  · refine meL_mem fun x => ?_
    rw [List.mem_filter]
    constructor
    · intro h; simpa using h.2
    · intro h; exact ⟨hS x h, by simpa using h⟩
/-- The program's search finds the fewest lines. -/
theorem told_fw {zs : List Int} (h : VoP zs) {k : Nat} (hk1 : 1 ≤ k) (hk3 : k ≤ 3) : toldL zs.length zs k (evL zs.length) (alL zs) = decide (fwN zs ≤ k) := by
  have hn := h.1
  have key := toldL_iff hn (zs := zs) k [] (alL zs)
  rw [show soL zs.length [] = evL zs.length from rfl] at key
  simp only [List.nil_append] at key
  have h3 := fw_three h
  have hval : fwN zs = 1 ∨ fwN zs = 2 ∨ fwN zs = 3 := by unfold fwN; split; exact .inl rfl; split; exact .inr (.inl rfl); exact .inr (.inr rfl)
  have h1v : (alL zs).length = 1 ↔ fwN zs = 1 := by
    unfold fwN
    constructor
    · intro e; rw [if_pos e]
    · intro e
      split at e
      · assumption
      · split at e <;> cases e
  have h2v : (sdF zs).isSome = true → fwN zs ≤ 2 := by
    intro e
    unfold fwN
    split
    · decide
    · first | (rw [if_pos e]; decide) | (simp [e]) | decide
  have mk : ∀ S : List (List Int), (∀ x ∈ S, x ∈ alL zs) → S ≠ [] → S.length ≤ k → meL zs.length S = zs → ∃ T, T.Sublist (alL zs) ∧ T.length ≤ k ∧ soL zs.length T = zs := fun S hS hne hl e => by
    obtain ⟨T, t1, t2, t3, t4⟩ := sub_of hS hne
    exact ⟨T, t1, Nat.le_trans t2 hl, by unfold soL; rw [if_neg t3, t4, e]⟩
  rw [Bool.eq_iff_iff, key, decide_eq_true_eq]
  constructor
  · rintro ⟨S, s1, s2, s3⟩
    by_cases hS : S = []
    · subst hS
      have hz : zs.length = 0 := by
        rcases Nat.eq_zero_or_pos zs.length with e | hpos
        · exact e
        · exfalso
          have e1 := h.irrB hpos
          have e2 : zs[0]?.getD 0 = powI (zs.length : Int) - 1 := by
            have e4 := evL_get hpos
            rw [← e4]
            exact congrArg (fun l : List Int => l[0]?.getD 0) s3.symm
          rw [e2] at e1
          have e3 := all_bits (n := zs.length) 0
          rw [show decide (0 < zs.length) = true by simpa using hpos] at e3
          simp at e1 e3
          rw [e3] at e1
          cases e1
      obtain ⟨a, _, _, ha, _⟩ := h3
      have : (alL zs).length = 1 := (one_len h).1 ⟨a, (alL_mem zs a).1 ha, by
        have e5 : (meL zs.length [a]).length = zs.length := meL_len _ _
        rw [List.eq_nil_of_length_eq_zero hz]
        exact List.eq_nil_of_length_eq_zero (by rw [meL_len]; rfl)⟩
      rw [h1v.1 this]
      omega
    · have e : meL zs.length S = zs := by unfold soL at s3; rwa [if_neg hS] at s3
      match S, hS, s1, s2, e with
      | [a], _, s1, _, e =>
        have ha := s1.subset (List.mem_singleton.2 rfl)
        rw [h1v.1 ((one_len h).1 ⟨a, (alL_mem zs a).1 ha, e⟩)]
        omega
      | [a, b], _, s1, s2, e =>
        have ha := s1.subset (show a ∈ [a, b] by simp)
        have hb := s1.subset (show b ∈ [a, b] by simp)
        have := h2v ((fw_two h).1 ⟨a, b, ha, hb, e⟩)
        simp at s2
        omega
      | a :: b :: c :: S, _, s1, s2, e =>
        simp at s2
        omega
  · intro hle
    rcases hval with e | e | e
    · obtain ⟨a, ha, e2⟩ := (one_len h).2 (h1v.2 e)
      exact mk [a] (by simpa using (alL_mem zs a).2 ha) (by simp) (by simpa using hk1) e2
    · have hs : (sdF zs).isSome = true := by
        unfold fwN at e
        split at e
        · cases e
        · split at e
          · assumption
          · cases e
      obtain ⟨a, b, ha, hb, e2⟩ := (fw_two h).2 hs
      exact mk [a, b] (by intro x hx; simp at hx; rcases hx with rfl | rfl <;> assumption) (by simp) (by simp; omega) e2
    · obtain ⟨a, b, d, ha, hb, hd, e2⟩ := h3
      exact mk [a, b, d] (by intro x hx; simp at hx; rcases hx with rfl | rfl | rfl <;> assumption) (by simp) (by simp; omega) e2
end Go.Proofs.Ytghogabmkbadjab

/- FewestLines: the program's search, a recursion. -/
namespace Go.Proofs.Ytghogabmkbadjab
open Go.RowKit Go.Shelf
attribute [local go_sem] Oper.semAt_some

theorem ints_drop {w : World} {B b off m c2 i : Nat} {AS : Option Addr} {rs : List (List Int)} (h : IntsS w B (some ⟨b, off, none⟩) m rs) (hi : i < m) (hAS : (if c2 = i + 1 then some (⟨b, off, none⟩ : Addr) else some ⟨b, off + (i + 1), none⟩) = AS) (hmc : m ≤ c2) : IntsS w B AS (m - (i + 1)) (rs.drop (i + 1)) := by
  refine ⟨by simp [h.1], fun hn => ?_⟩
  obtain ⟨b', off', e, hb, hc⟩ := h.2 (by omega)
  cases e
  rw [if_neg (by omega)] at hAS
  subst hAS
  refine ⟨b, off + (i + 1), rfl, hb, fun j hj => ?_⟩
  obtain ⟨A', c', h1, h2⟩ := hc (i + 1 + j) (by omega)
  rw [List.getElem?_drop, Nat.add_assoc]
  exact ⟨A', c', h1, h2⟩
theorem cm_bd {n : Nat} {sf r : List Int} (hl : sf.length = n) (hs : ∀ a, a < n → 0 ≤ sf[a]?.getD 0 ∧ sf[a]?.getD 0 < powI n) : ∀ a, a < n → 0 ≤ (cmL n sf r)[a]?.getD 0 ∧ (cmL n sf r)[a]?.getD 0 < powI n := fun a ha => by
  unfold cmL
  rw [opL_get _ _ _ _ (by omega), if_pos ha]
  have h1 := andI_bd (sf[a]?.getD 0) ((meL n [r])[a]?.getD 0)
  have h2 := hs a ha
  omega
theorem told_here {n : Nat} {zs sf : List Int} (h : sf = zs) : ∀ (k : Nat) (rs : List (List Int)), toldL n zs k sf rs = true
  | 0, _ => by rw [toldL]; simpa using h
  | k + 1, _ => by rw [toldL]; simp [h]

set_option maxRecDepth 100000 in
set_option maxHeartbeats 16000000 in
theorem told_any (zs : List Int) (hvo : VoP zs) (n : Nat) (hlen0 : zs.length = n) : ∀ (k : Nat) (A A' A2 : Option Addr) (c c' m c2 : Nat) (sf : List Int) (rs : List (List Int)) (w : World), k ≤ 3 → Ints w w.heap.size A n zs → Ints w w.heap.size A' n sf → (∀ a, a < n → 0 ≤ sf[a]?.getD 0 ∧ sf[a]?.getD 0 < powI n) → rs.length = m → IntsS w w.heap.size A2 m (rs.map fun r => meL n [r]) → m ≤ 100000 → m ≤ c2 → c2 ≤ maxLen →
    Calls Try.prog 123 #[.slice A n c, .slice A' n c', .slice A2 m c2, .int .i64 (k : Int)] w fun e w' => e = .returned (.bool (toldL n zs k sf rs)) ∧ Below w.heap.size w w'
  | k, A, A', A2, c, c', m, c2, sf, rs, w, hk3, hA, hA', hsf, hm, hI, hmb, hmc, hcm => by
    have hlen := Lib.hid hlen0
    have hn6 : n ≤ 6 := by have := hvo.1; rw [hlen0] at this; exact this
    clear hlen0
    have hsl := Lib.hid hA'.len
    have Hm := Lib.hid hm
    clear hm
    by_cases heq : sf = zs
    · have Ht := Lib.hid (told_here (n := n) heq k rs)
      have hd : decide (sf = zs) = true := by simpa using heq
      clear heq
      go_enter Try.func123, Try.ntmps123
      go_wp2_with fail
      refine (ordEq_any A' A n c' n c _ _ sf zs w hA' hA (by omega) (by omega)).mono ?_
      rw [hd]
      rintro e w1 ⟨rfl, q, rfl⟩
      go_wp2_with fail
      go_ret
      exact ⟨ret_bool Ht.out.symm, below_drewN (Below.refl _ _) q⟩
    · have hd : decide (sf = zs) = false := by simpa using heq
      cases k with
      | zero =>
        have Ht := Lib.hid (show toldL n zs 0 sf rs = false by rw [toldL]; exact hd)
        clear heq
        go_enter Try.func123, Try.ntmps123
        go_wp2_with fail
        refine (ordEq_any A' A n c' n c _ _ sf zs w hA' hA (by omega) (by omega)).mono ?_
        rw [hd]
        rintro e w1 ⟨rfl, q, rfl⟩
        go_wp2_with fail
        go_ret
        exact ⟨ret_bool Ht.out.symm, below_drewN (Below.refl _ _) q⟩
      | succ k =>
        have ih := Lib.hid (told_any zs hvo n hlen.out k)
        have Ht := Lib.hid (show toldL n zs (k + 1) sf rs = toldA (toldL n zs k) n sf rs by rw [toldL, hd, Bool.false_or])
        clear heq
        have hk1 : ¬ (((k + 1 : Nat) : Int) = 0) := by omega
        go_enter Try.func123, Try.ntmps123
        go_wp2_with fail
        refine (ordEq_any A' A n c' n c _ _ sf zs w hA' hA (by omega) (by omega)).mono ?_
        rw [hd]
        rintro e w1 ⟨rfl, q, rfl⟩
        have hB1 := below_drewN (Below.refl w.heap.size w) q
        generalize w.drewN q = w1 at *
        go_wp2_with fail
        go_loopw [18] (fun v wr => ∃ i : Nat, i ≤ m ∧ v = .int .i64 i ∧ Hid (toldA (toldL n zs k) n sf (rs.drop i) = toldA (toldL n zs k) n sf rs) ∧ Below w.heap.size w wr) (fun v _ => m - (intOf v).toNat)
        case atStart => exact ⟨0, by omega, rfl, Lib.hid rfl, hB1⟩
        case round =>
          clear hB1
          obtain ⟨i, hi, rfl, Hd, hB⟩ := hrel
          rename World => wr
          by_cases hlt : i < m
          · have hIr := hI.below hB
            obtain ⟨b, off, rfl, hb, hc⟩ := hIr.at_ hlt
            obtain ⟨Ai, ci, hci, hIi⟩ := hc i hlt
            clear hc hIr
            have hgi : (rs.map fun r => meL n [r])[i]?.getD [] = meL n [rs[i]?.getD []] := by
              rw [List.getElem?_map, List.getElem?_eq_getElem (by rw [Hm.out]; exact hlt)]; rfl
            rw [hgi, meL_len] at hci hIi
            clear hgi
            have Hdr := Lib.hid (toldA_drop (toldL n zs k) n sf rs (i := i) (by rw [Hm.out]; exact hlt))
            generalize rs[i]?.getD [] = r at *
            obtain ⟨AS, hAS⟩ : ∃ AS, (if c2 = i + 1 then some (⟨b, off, none⟩ : Addr) else some ⟨b, off + (i + 1), none⟩) = AS := ⟨_, rfl⟩
            have hId := ints_drop hI hlt hAS hmc
            rw [← List.map_drop] at hId
            have hi1 : i + 1 ≤ m := hlt
            have hwi : IntKind.i64.wrap ((i : Int) + 1) = (i : Int) + 1 := by rw [IntKind.wrap_i64]; omega
            have hwk : IntKind.i64.wrap (k : Int) = (k : Int) := by rw [IntKind.wrap_i64]; omega
            go_wp2
            have kB : Below w.heap.size w wr.drew := hB.drew
            refine region_T (S := fun _ => True) 10 (by kernel_rfl) ?_
            obtain ⟨Wd, hWd⟩ : ∃ Wd, wr.drew = Wd := ⟨_, rfl⟩
            rw [hWd] at kB ⊢
            have hIw : Ints Wd w.heap.size Ai n (meL n [r]) := by rw [← hWd]; exact hIi
            clear hWd
            have hT : (fun _ : World => True) Wd := trivial
            refine anyT_take (i := 0) (oi := ?oi0a) (v := .slice A n c) ?hi0a (by kernel_rfl) ?hq0a ?hy0a (by assumption) ?rest0a
            case hi0a => (simp only [List.getElem?_toArray, List.getElem?_cons_zero]; first | done | rfl)
            case hq0a => first | exact fun _ _ _ h => h | exact fun _ _ _ h => (by cases h.1)
            case hy0a => (refine Or.inl ⟨by rfl, ?_⟩; intro wz hSw; go_simp; first | done | with_reducible rfl | simp | omega)
            try simp only [Act.put, List.setIfInBounds_toArray, List.set_cons_zero, List.set_cons_succ]
            refine anyT_take (i := 1) (oi := ?oi1a) (v := .slice A' n c') ?hi1a (by kernel_rfl) ?hq1a ?hy1a (by assumption) ?rest1a
            case hi1a => (simp only [List.getElem?_toArray, List.getElem?_cons_succ, List.getElem?_cons_zero]; first | done | rfl)
            case hq1a => first | exact fun _ _ _ h => h | exact fun _ _ _ h => (by cases h.1)
            case hy1a => (refine Or.inl ⟨by rfl, ?_⟩; intro wz hSw; go_simp; first | done | with_reducible rfl | simp | omega)
            try simp only [Act.put, List.setIfInBounds_toArray, List.set_cons_zero, List.set_cons_succ]
            refine anyT_take (i := 2) (oi := ?oi2a) (v := .slice Ai n ci) ?hi2a (by kernel_rfl) ?hq2a ?hy2a (by assumption) ?rest2a
            case hi2a => (simp only [List.getElem?_toArray, List.getElem?_cons_succ, List.getElem?_cons_zero]; first | done | rfl)
            case hq2a => first | exact fun _ _ _ h => h | exact fun _ _ _ h => (by cases h.1)
            case hy2a => (refine Or.inl ⟨by rfl, ?_⟩; intro wz hSw; go_simp; first | done | with_reducible rfl | simp | omega)
            try simp only [Act.put, List.setIfInBounds_toArray, List.set_cons_zero, List.set_cons_succ]
            refine anyT_take (i := 4) (oi := ?oi4a) (v := .slice (some ⟨b, off, none⟩) m c2) ?hi4a (by kernel_rfl) ?hq4a ?hy4a (by assumption) ?rest4a
            case hi4a => (simp only [List.getElem?_toArray, List.getElem?_cons_succ, List.getElem?_cons_zero]; first | done | rfl)
            case hq4a => first | exact fun _ _ _ h => h | exact fun _ _ _ h => (by cases h.1)
            case hy4a => (refine Or.inl ⟨by rfl, ?_⟩; intro wz hSw; go_simp; first | done | with_reducible rfl | simp | omega)
            try simp only [Act.put, List.setIfInBounds_toArray, List.set_cons_zero, List.set_cons_succ]
            refine anyT_take (i := 5) (oi := ?oi5a) (v := .int .i64 (i : Int)) ?hi5a (by kernel_rfl) ?hq5a ?hy5a (by assumption) ?rest5a
            case hi5a => (simp only [List.getElem?_toArray, List.getElem?_cons_succ, List.getElem?_cons_zero]; first | done | rfl)
            case hq5a => first | exact fun _ _ _ h => h | exact fun _ _ _ h => (by cases h.1)
            case hy5a => (refine Or.inl ⟨by rfl, ?_⟩; intro wz hSw; go_simp; first | done | with_reducible rfl | simp | omega)
            try simp only [Act.put, List.setIfInBounds_toArray, List.set_cons_zero, List.set_cons_succ]
            refine anyT_take (i := 6) (oi := ?oi6a) (v := .int .i64 ((i + 1 : Nat) : Int)) ?hi6a (by kernel_rfl) ?hq6a ?hy6a (by assumption) ?rest6a
            case hi6a => (simp only [List.getElem?_toArray, List.getElem?_cons_succ, List.getElem?_cons_zero]; first | done | rfl)
            case hq6a => first | exact fun _ _ _ h => h | exact fun _ _ _ h => (by cases h.1)
            case hy6a => (refine Or.inl ⟨by rfl, ?_⟩; intro wz hSw; go_simp; first | done | with_reducible rfl | simp [hwi] | omega)
            try simp only [Act.put, List.setIfInBounds_toArray, List.set_cons_zero, List.set_cons_succ]
            refine anyT_take (i := 7) (oi := ?oi7a) (v := .slice AS (m - (i + 1)) (c2 - (i + 1))) ?hi7a (by kernel_rfl) ?hq7a ?hy7a (by assumption) ?rest7a
            case hi7a => (simp only [List.getElem?_toArray, List.getElem?_cons_succ, List.getElem?_cons_zero]; first | done | rfl)
            case hq7a => first | exact fun _ _ _ h => h | exact fun _ _ _ h => (by cases h.1)
            case hy7a => (refine Or.inl ⟨by rfl, ?_⟩; intro wz hSw; go_simp; first | done | with_reducible rfl | simp [hAS] | omega)
            try simp only [Act.put, List.setIfInBounds_toArray, List.set_cons_zero, List.set_cons_succ]
            refine anyT_take (i := 8) (oi := ?oi8a) (v := .int .i64 ((k + 1 : Nat) : Int)) ?hi8a (by kernel_rfl) ?hq8a ?hy8a (by assumption) ?rest8a
            case hi8a => (simp only [List.getElem?_toArray, List.getElem?_cons_succ, List.getElem?_cons_zero]; first | done | rfl)
            case hq8a => first | exact fun _ _ _ h => h | exact fun _ _ _ h => (by cases h.1)
            case hy8a => (refine Or.inl ⟨by rfl, ?_⟩; intro wz hSw; go_simp; first | done | with_reducible rfl | simp | omega)
            try simp only [Act.put, List.setIfInBounds_toArray, List.set_cons_zero, List.set_cons_succ]
            refine anyT_take (i := 9) (oi := ?oi9a) (v := .int .i64 (k : Int)) ?hi9a (by kernel_rfl) ?hq9a ?hy9a (by assumption) ?rest9a
            case hi9a => (simp only [List.getElem?_toArray, List.getElem?_cons_succ, List.getElem?_cons_zero]; first | done | rfl)
            case hq9a => first | exact fun _ _ _ h => h | exact fun _ _ _ h => (by cases h.1)
            case hy9a => (refine Or.inl ⟨by rfl, ?_⟩; intro wz hSw; go_simp; first | done | with_reducible rfl | simp [hwk] | omega)
            try simp only [Act.put, List.setIfInBounds_toArray, List.set_cons_zero, List.set_cons_succ]
            refine anyT_one (i := 3) (by kernel_rfl) rfl (fun K' hK => ?_)
            go_simp
            refine (common_any A' n c' sf Ai ci (meL n [r]) Wd (hA'.to kB (Nat.le_refl _) kB.size) (hIw.more kB.size) hn6 hsf (fun a _ => meL_bd n [r] a)).mono ?_
            rintro e w2 ⟨v, rfl, hO2, hB2⟩
            have z2 := hB2.size
            have kz := kB.size
            have hOw := hO2.2
            rw [show (opL andI sf (meL n [r]) n).length = n by rw [opL_len]; exact hsl.out] at hOw
            obtain ⟨A3, c3, rfl, hI3⟩ := rowC_of_own hOw
            have hB3 := kB.trans (hB2.mono kz)
            have z3 := hB3.size
            have hrec := ih.out A A3 AS c c3 (m - (i + 1)) (c2 - (i + 1)) (cmL n sf r) (rs.drop (i + 1)) w2 (by omega) (hA.to hB3 (Nat.le_refl _) z3) (hI3.ints (Nat.le_refl _)) (cm_bd hsl.out hsf) (by rw [List.length_drop, Hm.out]) (hId.to hB3 (Nat.le_refl _) z3) (by omega) (by omega) (by omega)
            have Hrec := Lib.hid hrec
            clear hrec hO2 hOw hI3 hId hIi
            refine hK.out _ _ (fun _ => trivial) ?_
            clear hK K'
            try simp only [Act.put, List.setIfInBounds_toArray, List.set_cons_zero, List.set_cons_succ]
            refine anyT_one (i := 10) (by kernel_rfl) rfl (fun K' hK => ?_)
            go_simp
            refine Hrec.out.mono ?_
            rintro e w4 ⟨rfl, hB4⟩
            have hB5 := hB3.trans (hB4.mono z3)
            refine hK.out _ _ (fun h => absurd rfl h) ?_
            clear hK K'
            try simp only [Act.put, List.setIfInBounds_toArray, List.set_cons_zero, List.set_cons_succ]
            refine anyT_done (by kernel_rfl) ?_ _
            cases hr : toldL n zs k (cmL n sf r) (rs.drop (i + 1))
            · have Hn := Lib.hid (show toldA (toldL n zs k) n sf (rs.drop (i + 1)) = toldA (toldL n zs k) n sf rs by rw [← Hd.out, Hdr.out, hr, Bool.false_or])
              clear hr
              go_wp2
              go_roundw
              case rel => exact ⟨_, _, _, _, ⟨i + 1, by omega, by go_num, Hn⟩, rfl, rfl, rfl, rfl⟩
              case measure => simp [intOf]; omega
            · have Hn := Lib.hid (show toldL n zs (k + 1) sf rs = true by rw [Ht.out, ← Hd.out, Hdr.out, hr, Bool.true_or])
              clear hr
              go_wp2
              go_ret
              exact ⟨ret_bool Hn.out.symm, hB5⟩
          · obtain rfl : i = m := by omega
            have Hf := Lib.hid (show toldL n zs (k + 1) sf rs = false by rw [Ht.out, ← Hd.out, List.drop_of_length_le (by rw [Hm.out]; exact Nat.le_refl _)]; rfl)
            go_wp2_with fail
            go_ret
            exact ⟨ret_bool Hf.out.symm, hB⟩
  termination_by k => k
end Go.Proofs.Ytghogabmkbadjab

/- The arguments of PairOf, drawn. -/
import Derived.Test.YtmlihbcffndnbaaDrIsRising
import Derived.Test.YtmlihbcffndnbaaALat
import Derived.Test.YtmlihbcffndnbaaGa
set_option linter.unusedVariables false
set_option linter.unusedSimpArgs false
namespace Go.Proofs.Ytmlihbcffndnbaa
open Go.RowKit Go.Shelf
attribute [local go_sem] Oper.semAt_some
attribute [local go_sem, local simp] wide_fn

theorem RowV.setK {w : World} {lo hi n : Nat} {A : Option Addr} {xs : List Int} (h : RowV w lo hi A n xs) {b : Nat} (hA : A = some ⟨b, 0, none⟩) (k : Nat) (v : Int) : RowV (w.setCell ⟨b, k, none⟩ (.int .i64 v)) lo hi A n (xs.set k v) :=
  ⟨by rw [List.length_set]; exact h.1, fun hn => by
    obtain ⟨b', cur, e, hl, hb, hc, ht⟩ := h.2 hn
    rw [hA] at e
    cases e
    exact ⟨b, cur.setIfInBounds k (.int .i64 v), hA, hl, hb, by simp [World.setCell, Array.getElem?_modify, hc], by rw [Array.toList_setIfInBounds, List.take_set, ht, ← List.map_set]⟩⟩

set_option maxRecDepth 100000 in
set_option maxHeartbeats 8000000 in
theorem drawPairOf_any (A : Option Addr) (m c : Nat) (bs : List Int) (w : World) (h : Byts w w.heap.size A m bs) (hcap : m ≤ c) (hbig : m ≤ 1152921504606846976) :
    Calls Try.prog 33 #[.slice A m c] w (Drawn3 w) := by
  go_enter Try.func33, Try.ntmps33
  go_wp2_with fail
  refine (newReader_rd h hcap hbig).mono ?_
  rintro e w0 ⟨rfl, hR, hB, hz⟩
  obtain ⟨R, hRe⟩ : ∃ R, w.heap.size = R := ⟨_, rfl⟩
  rw [hRe] at hR hz hB ⊢
  have hRl := hR.lt
  go_wp2_with fail
  refine (aLattice_any R 0 w0 hR (by omega)).mono ?_
  rintro e w1 ⟨A1, n1, c1, zs, q1, rfl, hn1, r1, hq1, hR1, hU1⟩
  have z1 := hU1.size
  have hB1 := hB.trans (hU1.toBelow (fun k e => by omega) (by omega))
  clear hR hB hU1
  go_wp2_with fail
  refine (aLattice_any R _ w1 hR1 (by omega)).mono ?_
  rintro e w2 ⟨A2, n2, c2, ys, q2, rfl, hn2, r2, hq2, hR2, hU2⟩
  have z2 := hU2.size
  have r12 := (r1.upd hU2 (fun j e => by omega)).more (Nat.le_refl _) z2
  have hB2 := hB1.trans (hU2.toBelow (fun k e => by omega) (by omega))
  clear hR1 hB1 hU2 r1
  go_wp2_with fail
  refine (aMap_any R _ A1 n1 c1 _ zs A2 n2 c2 _ ys w2 hR2 (by omega) r12 r2 (by omega) (by omega) hn1 hn2).mono ?_
  rintro e w3 ⟨A3, c3, fs, q3, rfl, hf3, hq3, hR3, hU3⟩
  have z3 := hU3.size
  have hz3 := r12.upd hU3 (fun j e => by omega)
  have hy3 := r2.upd hU3 (fun j e => by omega)
  have hB3 := hB2.trans (hU3.toBelow (fun k e => by omega) (by omega))
  clear hR2 hB2 hU3 r12 r2
  have hlz := Lib.hid hz3.len
  have hly := Lib.hid hy3.len
  cases hv : vo zs
  · skip
    go_wp2_with fail
    refine (validOrder_any _ _ _ _ zs w3 (hz3.ints (B := w3.heap.size) (by omega)) (by omega)).mono ?_
    rw [hv]
    rintro e w4 ⟨rfl, q, hq⟩
    have hud : Upd (fun _ => False) w3 w4 := by rw [hq]; exact (Upd.refl _ _).drewN q
    clear hq
    have hz4 := hz3.upd hud (fun _ e => e.elim)
    have hy4 := hy3.upd hud (fun _ e => e.elim)
    have hf4 := hf3.upd hud (fun _ e => e.elim)
    have hR4 := hR3.upd hud (fun _ e => e.elim)
    have hB4 := hB3.trans (hud.toBelow (B := R) (fun _ e => e.elim) (by omega))
    have zz4 := hud.size
    clear hz3 hy3 hf3 hR3 hB3 hud
    clear hv
    go_wp2
    go_ret3
    exact ⟨A1, n1, c1, zs, A2, n2, c2, ys, A3, c3, fs, rfl, hn1, hn2, hz4.ints (by omega), hy4.ints (by omega), hf4.ints (by omega), by rw [hRe]; exact hB4⟩
  · have hvo : VoP zs := by simpa [vo] using hv
    go_wp2_with fail
    refine (validOrder_any _ _ _ _ zs w3 (hz3.ints (B := w3.heap.size) (by omega)) (by omega)).mono ?_
    rw [hv]
    rintro e w4 ⟨rfl, q, hq⟩
    have hud : Upd (fun _ => False) w3 w4 := by rw [hq]; exact (Upd.refl _ _).drewN q
    clear hq
    have hz4 := hz3.upd hud (fun _ e => e.elim)
    have hy4 := hy3.upd hud (fun _ e => e.elim)
    have hf4 := hf3.upd hud (fun _ e => e.elim)
    have hR4 := hR3.upd hud (fun _ e => e.elim)
    have hB4 := hB3.trans (hud.toBelow (B := R) (fun _ e => e.elim) (by omega))
    have zz4 := hud.size
    clear hz3 hy3 hf3 hR3 hB3 hud
    cases hv2 : vo ys
    · skip
      go_wp2_with fail
      refine (validOrder_any _ _ _ _ ys w4 (hy4.ints (B := w4.heap.size) (by omega)) (by omega)).mono ?_
      rw [hv2]
      rintro e w5 ⟨rfl, q, hq⟩
      have hud : Upd (fun _ => False) w4 w5 := by rw [hq]; exact (Upd.refl _ _).drewN q
      clear hq
      have hz5 := hz4.upd hud (fun _ e => e.elim)
      have hy5 := hy4.upd hud (fun _ e => e.elim)
      have hf5 := hf4.upd hud (fun _ e => e.elim)
      have hR5 := hR4.upd hud (fun _ e => e.elim)
      have hB5 := hB4.trans (hud.toBelow (B := R) (fun _ e => e.elim) (by omega))
      have zz5 := hud.size
      clear hz4 hy4 hf4 hR4 hB4 hud
      clear hv hv2
      go_wp2
      go_ret3
      exact ⟨A1, n1, c1, zs, A2, n2, c2, ys, A3, c3, fs, rfl, hn1, hn2, hz5.ints (by omega), hy5.ints (by omega), hf5.ints (by omega), by rw [hRe]; exact hB5⟩
    · have hvy : VoP ys := by simpa [vo] using hv2
      go_wp2_with fail
      refine (validOrder_any _ _ _ _ ys w4 (hy4.ints (B := w4.heap.size) (by omega)) (by omega)).mono ?_
      rw [hv2]
      rintro e w5 ⟨rfl, q, hq⟩
      have hud : Upd (fun _ => False) w4 w5 := by rw [hq]; exact (Upd.refl _ _).drewN q
      clear hq
      have hz5 := hz4.upd hud (fun _ e => e.elim)
      have hy5 := hy4.upd hud (fun _ e => e.elim)
      have hf5 := hf4.upd hud (fun _ e => e.elim)
      have hR5 := hR4.upd hud (fun _ e => e.elim)
      have hB5 := hB4.trans (hud.toBelow (B := R) (fun _ e => e.elim) (by omega))
      have zz5 := hud.size
      clear hz4 hy4 hf4 hR4 hB4 hud
      clear hv hv2
      by_cases hn0 : 0 < n2
      · skip
        go_wp2_with fail
        refine (pick_any R _ 2 w5 hR5 (by omega)).mono ?_
        rintro e w6 ⟨g, rfl, hpk, hR6, hU6⟩
        have hg0 := hpk.1 (by omega)
        have z6 := hU6.size
        have hz6 := hz5.upd hU6 (fun j e => by omega)
        have hy6 := hy5.upd hU6 (fun j e => by omega)
        have hf6 := hf5.upd hU6 (fun j e => by omega)
        have hB6 := hB5.trans (hU6.toBelow (fun k e => by omega) (by omega))
        clear hz5 hy5 hf5 hB5 hR5 hU6 hpk hR6
        by_cases hg : g = 0
        · subst hg
          clear hg0
          have hsv := hvo.sets
          have hsy := hvy.sets
          have Hdx := Lib.hid (fun w (h : Ints w w.heap.size A1 n1 zs) => downOf_any A1 n1 c1 zs w h hsv)
          have Hdy := Lib.hid (fun w (h : Ints w w.heap.size A2 n2 ys) => downOf_any A2 n2 c2 ys w h hsy)
          obtain ⟨dz, hdz⟩ : ∃ dz, downP n1 (pairsL zs) = dz := ⟨_, rfl⟩
          obtain ⟨dy, hdy⟩ : ∃ dy, downP n2 (pairsL ys) = dy := ⟨_, rfl⟩
          have hdzl : dz.length = n1 := by rw [← hdz]; exact downP_len _ _
          have hdyl : dy.length = n2 := by rw [← hdy]; exact downP_len _ _
          rw [hdz] at Hdx
          rw [hdy] at Hdy
          have Hlz := Lib.hid hdzl
          have Hly := Lib.hid hdyl
          clear hdz hdy hdzl hdyl hvo hvy hsv hsy
          go_wp2
          go_loopw [9, 10] (fun i _ wr => ∃ (x : Nat) (gs : List Int), x ≤ n1 ∧ i = .int .i64 x ∧ RowV wr w2.heap.size w3.heap.size A3 n1 gs ∧ Row wr w0.heap.size w2.heap.size A1 n1 zs ∧ Row wr w1.heap.size w2.heap.size A2 n2 ys ∧ Below R w wr ∧ w3.heap.size ≤ wr.heap.size) (fun i _ _ => n1 - (intOf i).toNat)
          case atStart => exact ⟨0, fs, by omega, rfl, hf6, hz6, hy6, hB6, by omega⟩
          case round =>
            clear hf6 hz6 hy6 hB6
            obtain ⟨x, gs, hx, rfl, hf, hzr, hyr, hBr, hsz⟩ := hrel
            rename World => wy
            by_cases hlt : x < n1
            · go_wp2_with fail
              refine (Hdx.out wy (hzr.ints (by omega))).mono ?_
              rintro e wz ⟨rfl, hAz, hBz⟩
              have sz := hBz.size
              have hcx := hAz.cell (k := x) (by rw [Hlz.out]; exact hlt)
              have f1 := hf.upd (Below.toUpd hBz) (fun j e => by omega)
              have zr1 := hzr.upd (Below.toUpd hBz) (fun j e => by omega)
              have yr1 := hyr.upd (Below.toUpd hBz) (fun j e => by omega)
              have B1 := hBr.trans (hBz.mono (by omega))
              clear hf hzr hyr hBr
              generalize dz[x]?.getD 0 = d at *
              by_cases hd : d = 0
              · subst hd
                go_wp2
                go_loopw [10] (fun i wr => ∃ (y : Nat), y ≤ n2 ∧ i = .int .i64 y ∧ RowV wr w2.heap.size w3.heap.size A3 n1 gs ∧ Row wr w0.heap.size w2.heap.size A1 n1 zs ∧ Row wr w1.heap.size w2.heap.size A2 n2 ys ∧ Below R w wr ∧ w3.heap.size ≤ wr.heap.size) (fun i _ => n2 - (intOf i).toNat)
                case atStart => exact ⟨0, by omega, rfl, f1, zr1, yr1, B1, by omega⟩
                case round =>
                  clear f1 zr1 yr1 B1 hcx hAz hBz
                  obtain ⟨y, hy, rfl, hf, hzr, hyr, hBr, hsz2⟩ := hrel
                  rename World => wv
                  by_cases hlty : y < n2
                  · go_wp2_with fail
                    refine (Hdy.out wv (hyr.ints (by omega))).mono ?_
                    rintro e wt ⟨rfl, hAt, hBt⟩
                    have st := hBt.size
                    have hcy := hAt.cell (k := y) (by rw [Hly.out]; exact hlty)
                    have f2 := hf.upd (Below.toUpd hBt) (fun j e => by omega)
                    have zr2 := hzr.upd (Below.toUpd hBt) (fun j e => by omega)
                    have yr2 := hyr.upd (Below.toUpd hBt) (fun j e => by omega)
                    have B2 := hBr.trans (hBt.mono (by omega))
                    clear hf hzr hyr hBr
                    generalize dy[y]?.getD 0 = d2 at *
                    by_cases hd2 : d2 = 0
                    · subst hd2
                      obtain ⟨b3, rfl, hb3, hb3b, hfr, hcs⟩ := f2.cell (by omega)
                      have hc3 := hcs x hlt
                      have hf3 := hfr x
                      clear hcs hfr
                      have f3 := f2.setK rfl x (y : Int)
                      have hs3 : Upd (fun j => j = b3) wt (wt.setCell ⟨b3, x, none⟩ (.int .i64 (y : Int))) := (Upd.refl (fun j => j = b3) wt).setCell (p := ⟨b3, x, none⟩) (.inr rfl) _
                      have zr3 := zr2.upd hs3 (fun j e => by omega)
                      have yr3 := yr2.upd hs3 (fun j e => by omega)
                      have B3 := B2.trans (hs3.toBelow (fun j e => by omega) (by omega))
                      have s3 := hs3.size
                      clear f2 zr2 yr2 B2 hAt hBt
                      go_wp2
                      go_roundw
                      case rel => exact ⟨x + 1, _, by omega, by go_num, f3, zr3, yr3, B3, by omega⟩
                      case measure => simp [intOf]; omega
                    · have hd3 : (d2 == 0) = false := by simp; exact hd2
                      have Hd2 := Lib.hid hd2
                      clear hd2
                      go_wp2
                      go_roundw
                      case rel => exact ⟨y + 1, by omega, by go_num, f2, zr2, yr2, B2, by omega⟩
                      case measure => simp [intOf]; omega
                  · obtain rfl : y = n2 := by omega
                    go_wp2
                    go_roundw
                    case rel => exact ⟨x + 1, gs, by omega, by go_num, hf, hzr, hyr, hBr, hsz2⟩
                    case measure => simp [intOf]; omega
              · have hd3 : (d == 0) = false := by simp; exact hd
                have Hd2 := Lib.hid hd
                clear hd
                go_wp2
                go_roundw
                case rel => exact ⟨x + 1, gs, by omega, by go_num, f1, zr1, yr1, B1, by omega⟩
                case measure => simp [intOf]; omega
            · obtain rfl : x = n1 := by omega
              go_wp2
              go_ret3
              exact ⟨A1, x, c1, zs, A2, n2, c2, ys, A3, c3, gs, rfl, hn1, hn2, hzr.ints (by omega), hyr.ints (by omega), hf.ints (by omega), by rw [hRe]; exact hBr⟩
        · have hg3 : (g == 0) = false := by simp; exact hg
          clear hg hg0
          go_wp2
          go_ret3
          exact ⟨A1, n1, c1, zs, A2, n2, c2, ys, A3, c3, fs, rfl, hn1, hn2, hz6.ints (by omega), hy6.ints (by omega), hf6.ints (by omega), by rw [hRe]; exact hB6⟩
      · obtain rfl : n2 = 0 := by omega
        go_wp2
        go_ret3
        exact ⟨A1, n1, c1, zs, A2, 0, c2, ys, A3, c3, fs, rfl, hn1, hn2, hz5.ints (by omega), hy5.ints (by omega), hf5.ints (by omega), by rw [hRe]; exact hB5⟩
end Go.Proofs.Ytmlihbcffndnbaa

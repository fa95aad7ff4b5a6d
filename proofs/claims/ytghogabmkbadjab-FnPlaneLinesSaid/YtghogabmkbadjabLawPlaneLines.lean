/- PlaneLines' own law: the order is what its two lines have in common. -/
import Derived.Test.YtghogabmkbadjabDrPlaneLines
import Derived.Test.YtghogabmkbadjabGxb
import Derived.Test.YtghogabmkbadjabPlI
import Derived.Test.YtghogabmkbadjabPlS
import Derived.Test.YtghogabmkbadjabGxp
import Derived.Test.YtghogabmkbadjabRowsL
import Derived.Test.YtghogabmkbadjabGxf
import Derived.Test.YtghogabmkbadjabEqI
set_option linter.unusedVariables false
set_option linter.unusedSimpArgs false
namespace Go.Proofs.Ytghogabmkbadjab
open Go.RowKit Go.Shelf
attribute [local go_sem] Oper.semAt_some

theorem plane_facts {zs : List Int} (hok : sdOk zs = true) : ∃ T, sdF zs = some T ∧ plR zs = [pl1 zs T, pl1 zs (du T)] ∧ lnOk (zs.length : Int) [pl1 zs T, pl1 zs (du T)] = true ∧ lnR (zs.length : Int) [pl1 zs T, pl1 zs (du T)] = zs ∧
    isLineR zs (pl1 zs T) = true ∧ isLineR zs (pl1 zs (du T)) = true ∧ (pl1 zs T).length = zs.length ∧ (pl1 zs (du T)).length = zs.length ∧ zs.length ≤ 6 := by
  have hok' := hok
  unfold sdOk at hok'
  rw [Bool.and_eq_true] at hok'
  obtain ⟨T, hT⟩ := Option.isSome_iff_exists.1 hok'.2
  have hvo : VoP zs := by simpa [vo] using hok'.1
  obtain ⟨h1, h2, h3, h4⟩ := two_lines hvo (sdF_some hvo hT).1
  refine ⟨T, hT, by unfold plR; rw [hok, hT]; rfl, h1, by unfold lnR; rw [h1, Int.toNat_natCast, h2]; rfl, by unfold isLineR; rw [hok'.1, h3]; rfl, by unfold isLineR; rw [hok'.1, h4]; rfl, atL_len _ _ _, atL_len _ _ _, hvo.1⟩
theorem ints2 {w : World} {g n B : Nat} {A1 A2 : Option Addr} {c1 c2 : Nat} {xs ys : List Int} (hc : w.heap[g]? = some (.cells #[.slice A1 n c1, .slice A2 n c2] 22 (0, 0))) (hg : g < B)
    (h1 : Ints w B A1 n xs) (h2 : Ints w B A2 n ys) : IntsS w B (some ⟨g, 0, none⟩) 2 [xs, ys] := by
  refine ⟨rfl, fun _ => ⟨g, 0, rfl, hg, fun j hj => ?_⟩⟩
  have e1 := h1.len
  have e2 := h2.len
  rw [Nat.zero_add, cell_of_row _ _ _ _ _ _ hc]
  rcases (show j = 0 ∨ j = 1 by omega) with rfl | rfl
  · exact ⟨A1, c1, by simp [e1], by simpa [e1] using h1⟩
  · exact ⟨A2, c2, by simp [e2], by simpa [e2] using h2⟩

set_option maxRecDepth 100000 in
set_option maxHeartbeats 8000000 in
theorem fnPlaneLines_walk (A : Option Addr) (m c : Nat) (bs : List Int) (w : World) (h : Byts w w.heap.size A m bs) (hcap : m ≤ c) :
    Calls Try.prog 13 #[.slice A m c] w fun e w' => e = .returned (.bool true) ∧ Below w.heap.size w w' := by
  by_cases hs : m ≤ 1048576
  · go_enter Try.func13, Try.ntmps13
    go_wp2_with fail
    refine (drawPlaneLines_any A m c bs w h hcap (by omega)).mono ?_
    rintro e w1 ⟨A1, n, c1, zs, rfl, hn7, hI1, C1⟩
    have hlen := Lib.hid hI1.len
    cases hok : sdOk zs
    · have Hok := Lib.hid hok
      have Hp := Lib.hid (show plR zs = [] by unfold plR; rw [hok]; rfl)
      clear hok
      go_wp2_with fail
      refine (PlaneLines_any A1 n c1 zs w1 hI1 (by omega)).mono ?_
      rintro e w2 ⟨hB2, (⟨_, rfl⟩ | ⟨hyes, _⟩)⟩
      · have z2 := hB2.size
        have C2 := C1.trans (hB2.mono C1.size)
        have hI2 := hI1.to hB2 (Nat.le_refl _) z2
        go_wp2_with fail
        refine (specPlaneLines_any A1 n c1 zs w2 hI2 (by omega)).mono ?_
        rintro e w3 ⟨A3, c3, rfl, i3, hB3⟩
        rw [Hok.out]
        rw [Hp.out] at i3 ⊢
        have C3 := C2.trans (hB3.mono C2.size)
        have Heq := Lib.hid (show ∀ q, Calls Try.prog 48 #[.slice none 0 0, .slice A3 0 c3] (w3.drewN q) fun e w' => e = .returned (.bool true) ∧ ∃ k, w' = (w3.drewN q).drewN k from fun q => (equalRows_any none A3 0 0 0 c3 w3.heap.size w3.heap.size [] [] (w3.drewN q) ⟨rfl, fun h => absurd h (by simp)⟩ (i3.drewN q) (by omega) (by omega) (fun r h => by cases h) (fun r h => by cases h)).mono fun e w' h => ⟨by rw [h.1, decide_eq_true rfl], h.2⟩)
        clear hI1 hI2 i3 hB2 hB3 C1 C2
        go_wp2_with fail
        refine (Heq.out 0).mono ?_
        rintro e w4 ⟨rfl, q4, rfl⟩
        go_wp2_with fail
        refine (Heq.out _).mono ?_
        rintro e w5 ⟨rfl, q5, rfl⟩
        go_wp2_with fail
        go_ret
        exact ⟨rfl, by first | exact below_drewN (below_drewN (below_drewN C3 _) _) _ | exact below_drewN (below_drewN C3 _) _ | exact below_drewN C3 _⟩
      · rw [Hok.out] at hyes; cases hyes
    · have Hok := Lib.hid hok
      obtain ⟨T, hT, hp, hln, hlr, hl1, hl2, hn1, hn2, hn6⟩ := plane_facts hok
      rw [hlen.out] at hln hlr hn1 hn2 hn6
      have HT := Lib.hid hT
      have Hp := Lib.hid hp
      have Hln := Lib.hid hln
      have Hlr := Lib.hid hlr
      have Hl1 := Lib.hid hl1
      have Hl2 := Lib.hid hl2
      clear hok hT hp hln hlr hl1 hl2
      go_wp2_with fail
      refine (PlaneLines_any A1 n c1 zs w1 hI1 (by omega)).mono ?_
      rintro e w2 ⟨hB2, (⟨hno, rfl⟩ | ⟨_, T', g, A4, c4, A5, c5, mid, hT', rfl, hmid1, hmid2, hcell, r4, r5⟩)⟩
      · rw [Hok.out] at hno; cases hno
      · rw [HT.out] at hT'
        cases hT'
        have z2 := hB2.size
        have C2 := C1.trans (hB2.mono C1.size)
        have hI2 := hI1.to hB2 (Nat.le_refl _) z2
        have hglt : g < w2.heap.size := (Array.getElem?_eq_some_iff.1 hcell).1
        have i4 : Ints w2 w2.heap.size A4 n (pl1 zs T) := r4.ints (by omega)
        have i5 : Ints w2 w2.heap.size A5 n (pl1 zs (du T)) := r5.ints (by omega)
        have iS := ints2 hcell hglt i4 i5
        clear r4 r5 hB2 hI1 C1
        go_wp2_with fail
        refine (specPlaneLines_any A1 n c1 zs w2 hI2 (by omega)).mono ?_
        rintro e w3 ⟨A3, c3, rfl, i3, hB3⟩
        rw [Hok.out]
        rw [Hp.out] at i3 ⊢
        have z3 := hB3.size
        have C3 := C2.trans (hB3.mono C2.size)
        have hI3 := hI2.to hB3 (Nat.le_refl _) z3
        have i4 := i4.to hB3 (Nat.le_refl _) z3
        have i5 := i5.to hB3 (Nat.le_refl _) z3
        have iS := iS.to hB3 (Nat.le_refl _) z3
        have hcell := (Below.toUpd hB3).block g hglt (by omega) |>.trans hcell
        have hglt : g < w3.heap.size := by omega
        clear hB3 hI2 C2
        generalize pl1 zs T = r1 at *
        generalize pl1 zs (du T) = r2 at *
        have hrl : ∀ r ∈ [r1, r2], r.length ≤ 1048576 := fun r hr => by
          rcases List.mem_cons.1 hr with e | e
          · rw [e]; omega
          · rw [List.mem_singleton.1 e]; omega
        have Heq := Lib.hid (show ∀ q, Calls Try.prog 48 #[.slice (some ⟨g, 0, none⟩) 2 2, .slice A3 2 c3] (w3.drewN q) fun e w' => e = .returned (.bool true) ∧ ∃ k, w' = (w3.drewN q).drewN k from fun q => (equalRows_any (some ⟨g, 0, none⟩) A3 2 2 2 c3 w3.heap.size w3.heap.size [r1, r2] [r1, r2] (w3.drewN q) (iS.drewN q) (i3.drewN q) (by omega) (by omega) hrl hrl).mono fun e w' h => ⟨by rw [h.1, decide_eq_true rfl], h.2⟩)
        clear i3
        go_wp2_with fail
        refine (Heq.out 0).mono ?_
        rintro e w4 ⟨rfl, q4, rfl⟩
        have C4 : Below w.heap.size w ((w3.drewN 0).drewN q4) := below_drewN (below_drewN C3 0) q4
        have hI4 : Ints ((w3.drewN 0).drewN q4) ((w3.drewN 0).drewN q4).heap.size A1 n zs := (hI3.drewN 0).drewN q4
        have i44 : Ints ((w3.drewN 0).drewN q4) ((w3.drewN 0).drewN q4).heap.size A4 n r1 := (i4.drewN 0).drewN q4
        have i54 : Ints ((w3.drewN 0).drewN q4) ((w3.drewN 0).drewN q4).heap.size A5 n r2 := (i5.drewN 0).drewN q4
        have iS4 : IntsS ((w3.drewN 0).drewN q4) ((w3.drewN 0).drewN q4).heap.size (some ⟨g, 0, none⟩) 2 [r1, r2] := (iS.drewN 0).drewN q4
        have hc4 : ((w3.drewN 0).drewN q4).heap[g]? = some (.cells #[.slice A4 n c4, .slice A5 n c5] 22 (0, 0)) := hcell
        have hg4 : g < ((w3.drewN 0).drewN q4).heap.size := hglt
        obtain ⟨W4, hW4⟩ : ∃ W4, (w3.drewN 0).drewN q4 = W4 := ⟨_, rfl⟩
        rw [hW4] at C4 hI4 i44 i54 iS4 hc4 hg4 ⊢
        clear hW4 C3 hI3 i4 i5 iS hcell hglt Heq
        have z4 := C4.size
        go_wp2_with fail
        refine (LinesOrder_any (n : Int) _ 2 2 [r1, r2] W4 iS4 (by omega) hrl).mono ?_
        rintro e w5 ⟨A6, m6, c6, rfl, r6, hB5⟩
        rw [Hln.out]
        rw [Hlr.out] at r6
        have z5 := hB5.size
        have hm6 : m6 = n := by rw [← r6.len, hlen.out]
        subst hm6
        have C5 := C4.trans (hB5.mono C4.size)
        have hI5 := hI4.to hB5 (Nat.le_refl _) z5
        have i45 := i44.to hB5 (Nat.le_refl _) z5
        have i55 := i54.to hB5 (Nat.le_refl _) z5
        have hc5 := (Below.toUpd hB5).block g hg4 (by omega) |>.trans hc4
        have i6 : Ints w5 w5.heap.size A6 m6 zs := r6.ints (Nat.le_refl _)
        have hg5 : g < w5.heap.size := by omega
        clear hI4 i44 i54 iS4 hc4 hg4 hB5 r6 C4
        have Heq := Lib.hid ((equalInts_any A6 A1 m6 c6 m6 c1 w5.heap.size w5.heap.size zs zs w5 i6 hI5 (by omega) (by omega)).mono (R' := fun e w' => e = .returned (.bool true) ∧ ∃ k, w' = w5.drewN k) fun e w' h => ⟨by rw [h.1, decide_eq_true rfl], h.2⟩)
        go_wp2_with fail
        refine Heq.out.mono ?_
        rintro e w6 ⟨rfl, q6, rfl⟩
        have hk6 : (w5.drewN q6).cell? ⟨g, 0, none⟩ = some (.slice A4 m6 c4) := (cell_of_row _ _ _ _ _ _ hc5).trans rfl
        have C6 : Below w.heap.size w (w5.drewN q6) := below_drewN C5 _
        have hI6 : Ints (w5.drewN q6) (w5.drewN q6).heap.size A1 m6 zs := hI5.drewN q6
        have i46 : Ints (w5.drewN q6) (w5.drewN q6).heap.size A4 m6 r1 := i45.drewN q6
        have i56 : Ints (w5.drewN q6) (w5.drewN q6).heap.size A5 m6 r2 := i55.drewN q6
        have hc6 : (w5.drewN q6).heap[g]? = some (.cells #[.slice A4 m6 c4, .slice A5 m6 c5] 22 (0, 0)) := hc5
        have hg6 : g < (w5.drewN q6).heap.size := hg5
        obtain ⟨W6, hW6⟩ : ∃ W6, w5.drewN q6 = W6 := ⟨_, rfl⟩
        rw [hW6] at C6 hI6 i46 i56 hc6 hg6 hk6 ⊢
        clear hW6 C5 hI5 i45 i55 hc5 hg5 i6 Heq
        go_wp2_with fail
        refine (IsLine_any A1 m6 c1 zs A4 m6 c4 r1 W6 hI6 i46 (by omega) (by omega)).mono ?_
        rw [Hl1.out]
        rintro e w7 ⟨rfl, hB7⟩
        have z7 := hB7.size
        have C7 := C6.trans (hB7.mono C6.size)
        have hI7 := hI6.to hB7 (Nat.le_refl _) z7
        have i57 := i56.to hB7 (Nat.le_refl _) z7
        have hc7 := (Below.toUpd hB7).block g hg6 (by omega) |>.trans hc6
        have hk7 : w7.cell? ⟨g, 1, none⟩ = some (.slice A5 m6 c5) := (cell_of_row _ _ _ _ _ _ hc7).trans rfl
        clear hI6 i46 i56 hc6 hg6 hk6 hc7 C6
        go_wp2_with fail
        refine (IsLine_any A1 m6 c1 zs A5 m6 c5 r2 w7 hI7 i57 (by omega) (by omega)).mono ?_
        rw [Hl2.out]
        rintro e w8 ⟨rfl, hB8⟩
        have C8 := C7.trans (hB8.mono C7.size)
        go_wp2_with fail
        go_ret
        exact ⟨rfl, C8⟩
  · go_enter Try.func13, Try.ntmps13
    go_wp2
    go_ret
    exact ⟨rfl, Below.refl _ _⟩
end Go.Proofs.Ytghogabmkbadjab

/- PlaneLines: the model's. -/
import Derived.Test.YtghogabmkbadjabGxb
import Derived.Test.YtghogabmkbadjabGxo
import Derived.Test.YtghogabmkbadjabGd
import Derived.Test.YtghogabmkbadjabGa
set_option linter.unusedVariables false
set_option linter.unusedSimpArgs false
namespace Go.Proofs.Ytghogabmkbadjab
open Go.RowKit Go.Shelf
attribute [local go_sem] Oper.semAt_some

/-- Rows under way that were grown by append themselves. -/
def Rws (w : World) (B : Nat) (v : Value) (n : Nat) (rs : List (List Int)) : Prop :=
  ∃ vs, w.ownsRow B 22 1 v rs.length vs ∧ ∀ i, i < rs.length → ∃ A c lo hi, vs[i]? = some (.slice A n c) ∧ RowC w lo hi A n (rs[i]?.getD []) ∧ hi ≤ w.heap.size ∧ ∀ k, v.ownBlock = some k → k < lo ∨ hi ≤ k
section
variable {w w' : World} {B n : Nat} {v : Value} {rs : List (List Int)}
theorem Rws.new (w : World) (n : Nat) : Rws (w.alloc (.cells #[] 22)) w.heap.size (.slice (some ⟨w.heap.size, 0, none⟩) 0 0) n [] := ⟨[], own_new _ _, fun i hi => by simp at hi⟩
theorem Rws.keep (h : Rws w B v n rs) (hu : Upd (fun _ => False) w w') : Rws w' B v n rs := by
  obtain ⟨vs, h1, h2⟩ := h
  refine ⟨vs, ⟨h1.1, ?_⟩, fun i hi => ?_⟩
  · rcases h1.2 with e | ⟨g, cap, cur, rfl, hg, hc, hrest⟩
    · exact .inl e
    · exact .inr ⟨g, cap, cur, rfl, hg, (hu.block g (Array.getElem?_eq_some_iff.1 hc).1 (fun e => e)).trans hc, hrest⟩
  · obtain ⟨A, c, lo, hi', e1, e2, e3, e4⟩ := h2 i hi
    exact ⟨A, c, lo, hi', e1, e2.upd hu (fun _ e => e.elim), Nat.le_trans e3 hu.size, e4⟩
theorem Rws.own (h : Rws w B v n rs) : ∀ k, v.ownBlock = some k → B ≤ k ∧ k < w.heap.size := by
  obtain ⟨vs, h1, _⟩ := h
  intro k hk
  rcases h1.2 with ⟨rfl, _⟩ | ⟨g, cap, cur, rfl, hg, hc, _⟩
  · cases hk
  · cases hk; exact ⟨hg, (Array.getElem?_eq_some_iff.1 hc).1⟩
theorem Rws.ints (h : Rws w B v n rs) (hr : ∀ r ∈ rs, r.length = n) : ∃ A c, v = .slice A rs.length c ∧ IntsS w w.heap.size A rs.length rs := by
  obtain ⟨vs, h1, h2⟩ := h
  rcases h1.2 with ⟨rfl, hn⟩ | ⟨g, cap, cur, rfl, hg, hc, _, _, _, ht⟩
  · obtain rfl : rs = [] := List.eq_nil_of_length_eq_zero hn
    exact ⟨none, 0, rfl, rfl, fun h => absurd h (by simp)⟩
  · refine ⟨_, cap, rfl, rfl, fun _ => ⟨g, 0, rfl, (Array.getElem?_eq_some_iff.1 hc).1, fun j hj => ?_⟩⟩
    obtain ⟨A, c, lo, hi, e1, e2, e3, e4⟩ := h2 j hj
    have hlen : (rs[j]?.getD []).length = n := by rw [List.getElem?_eq_getElem hj]; exact hr _ (List.getElem_mem hj)
    refine ⟨A, c, ?_, by rw [hlen]; exact e2.ints e3⟩
    rw [hlen, Nat.zero_add, cell_of_row _ _ _ _ _ _ hc]
    rw [← ht, List.getElem?_take] at e1
    split at e1
    · simpa using e1
    · cases e1
theorem Rws.step {A : Option Addr} {c lo : Nat} {xs : List Int} {v' : Value} {u : Value} {vs : List Value} (h1 : w.ownsRow B 22 1 v rs.length vs)
    (h2 : ∀ i, i < rs.length → ∃ A c lo hi, vs[i]? = some (.slice A n c) ∧ RowC w lo hi A n (rs[i]?.getD []) ∧ hi ≤ w.heap.size ∧ ∀ k, v.ownBlock = some k → k < lo ∨ hi ≤ k)
    (hx : RowC w lo w.heap.size A n xs) (hv : ∀ k, v.ownBlock = some k → k < lo) (hown : w'.ownsRow B 22 1 v' (rs.length + 1) (vs ++ [.slice A n c])) (hg : (w.alloc (.cells #[u] 22)).grownBy w' v.ownBlock)
    (hv' : v'.ownBlock = v.ownBlock ∨ v'.ownBlock = some (w.alloc (.cells #[u] 22)).heap.size) : Rws w' B v' n (rs ++ [xs]) := by
  have hu : Upd (fun k => v.ownBlock = some k) w w' := ((Upd.refl _ w).alloc _).grown hg (fun k hk => .inr hk)
  have hl : vs.length = rs.length := by simpa using h1.1
  have hz := hu.size
  refine ⟨vs ++ [.slice A n c], by rw [List.length_append]; exact hown, fun i hi => ?_⟩
  rw [List.length_append, List.length_singleton] at hi
  rcases Nat.lt_or_ge i rs.length with h | h
  · obtain ⟨A', c', lo', hi', e1, e2, e3, e4⟩ := h2 i h
    refine ⟨A', c', lo', hi', by rw [List.getElem?_append_left (by omega)]; exact e1, by rw [List.getElem?_append_left h]; exact e2.upd hu (fun j e => e4 j e), by omega, fun k hk => ?_⟩
    rcases hv' with e | e
    · exact e4 k (e ▸ hk)
    · rw [e] at hk; simp at hk; omega
  · obtain rfl : i = rs.length := by omega
    refine ⟨A, c, lo, w.heap.size, by rw [List.getElem?_append_right (by omega), hl]; simp, by rw [List.getElem?_append_right (Nat.le_refl _)]; simpa using hx.upd hu (fun j e => .inl (hv j e)), by omega, fun k hk => ?_⟩
    rcases hv' with e | e
    · exact .inl (hv k (e ▸ hk))
    · rw [e] at hk; simp at hk; omega
end

/-- What the model's PlaneLines gives. -/
def plR (zs : List Int) : List (List Int) := if sdOk zs then [pl1 zs ((sdF zs).getD []), pl1 zs (du ((sdF zs).getD []))] else []
def GivesPlS (w : World) (zs : List Int) (e : Ending) (w' : World) : Prop :=
  ∃ A c, e = .returned (.tuple #[.slice A (plR zs).length c, .bool (sdOk zs)]) ∧ IntsS w' w'.heap.size A (plR zs).length (plR zs) ∧ Below w.heap.size w w'
def sdX (T : List Int) (t : Nat) : List Int := if t = 1 then du T else T

set_option maxRecDepth 100000 in
set_option maxHeartbeats 8000000 in
theorem specPlaneLines_any (A : Option Addr) (n c : Nat) (zs : List Int) (w : World) (h : Ints w w.heap.size A n zs) (hbig : n ≤ 1152921504606846976) :
    Calls Try.prog 61 #[.slice A n c] w (GivesPlS w zs) := by
  have hlen := Lib.hid h.len
  cases hok : sdOk zs
  · have Hok := Lib.hid hok
    have Hp := Lib.hid (show plR zs = [] by unfold plR; rw [hok]; rfl)
    clear hok
    go_enter Try.func61, Try.ntmps61
    go_wp2_with fail
    refine (specSideOrder_any A n c zs w h hbig).mono ?_
    rintro e w2 ⟨A2, m2, c2, rfl, r2, hB2⟩
    rw [Hok.out]
    go_wp2_with fail
    go_ret2
    exact ⟨none, 0, by rw [Hp.out, Hok.out]; rfl, by rw [Hp.out]; exact ⟨rfl, fun h => absurd h (by simp)⟩, hB2⟩
  · have Hok := Lib.hid hok
    obtain ⟨T, hT⟩ : ∃ T, sdF zs = some T := by
      unfold sdOk at hok
      rw [Bool.and_eq_true] at hok
      exact Option.isSome_iff_exists.1 hok.2
    have hvo : VoP zs := by
      unfold sdOk at hok
      rw [Bool.and_eq_true] at hok
      simpa [vo] using hok.1
    have hS := (sdF_some hvo hT).1
    have hTl : T.length = n := by rw [hS.len, hlen.out]
    have hn6 : n ≤ 6 := by have := hvo.1; rw [hlen.out] at this; exact this
    have Hp := Lib.hid (show plR zs = [pl1 zs T, pl1 zs (du T)] by unfold plR; rw [hok, hT]; rfl)
    have Hr := Lib.hid (show sdR zs = T by unfold sdR; rw [hok, hT]; rfl)
    have Hd := Lib.hid (show downP n (pairsL T) = du T by unfold du; rw [hTl])
    have HX := Lib.hid (fun t => show SideOf zs (sdX T t) by unfold sdX; split; exact side_du hS; exact hS)
    have hXl : ∀ t, (sdX T t).length = n := fun t => by rw [(HX.out t).len, hlen.out]
    have HXl := Lib.hid hXl
    have Hmd := Lib.hid (fun t => show mdL (eitL zs (sdX T t)) n = pl1 zs (sdX T t) by
      have h1 := md_on (eit_tot hvo (HX.out t))
      rw [eitL_len, hlen.out] at h1
      rw [h1]; unfold onL pl1; rw [eitL_len])
    have Hel := Lib.hid (fun t => show (eitL zs (sdX T t)).length = n by rw [eitL_len, hlen.out])
    have Heg := Lib.hid (fun t (a : Nat) (ha : a < n) => show (eitL zs (sdX T t))[a]?.getD 0 = orI (zs[a]?.getD 0) ((sdX T t)[a]?.getD 0) by unfold eitL; rw [opL_get _ _ _ _ (by rw [hlen.out]; exact ha), if_pos (by rw [hlen.out]; exact ha)])
    have Hbz := Lib.hid (fun (a : Nat) (ha : a < n) => show 0 ≤ zs[a]?.getD 0 ∧ zs[a]?.getD 0 < powI n by
      have := hvo.sets.2 a (by rw [hlen.out]; exact ha); rw [hlen.out] at this; exact this)
    have HbX := Lib.hid (fun t (a : Nat) (ha : a < n) => show 0 ≤ (sdX T t)[a]?.getD 0 ∧ (sdX T t)[a]?.getD 0 < powI n by
      have := (HX.out t).vo.sets.2 a (by rw [hXl t]; exact ha); rw [hXl t] at this; exact this)
    have hsT := hS.vo.sets
    have hpn6 := powI_le6 (n := (n : Int)) (by omega)
    obtain ⟨i0, hi0, hz0, hz1, hz2⟩ := infoRow_parts
    obtain ⟨i1, hi1, hzi1, hsi1, hbi1⟩ := info_parts infoInt
    clear hok hS hT hXl hvo
    go_enter Try.func61, Try.ntmps61
    go_wp2_with fail
    refine (specSideOrder_any A n c zs w h hbig).mono ?_
    rintro e w2 ⟨A2, m2, c2, rfl, r2, hB2⟩
    rw [Hok.out]
    rw [Hr.out] at r2
    have z2 := hB2.size
    have hm2 : m2 = n := by rw [← r2.len, hTl]
    subst hm2
    have i2 : Ints w2 w2.heap.size A2 m2 T := r2.ints (Nat.le_refl _)
    go_wp2_with fail
    refine (downOf_any A2 m2 c2 T w2 i2 hsT).mono ?_
    rw [Hd.out]
    rintro e w3 ⟨rfl, hA3, hB3⟩
    have z3 := hB3.size
    have C3 := hB2.trans (hB3.mono z2)
    have hI3 := h.to C3 (Nat.le_refl _) C3.size
    have i3 := i2.to hB3 (Nat.le_refl _) z3
    have d3 : Ints w3 w3.heap.size (some ⟨w2.heap.size, 0, none⟩) m2 (du T) := hA3.ints' hA3.lt (by rw [du_len, hTl])
    clear r2 i2 hA3 hB2 hB3
    go_wp2_with fail
    have R4 := Rws.new w3 m2
    have hu4 : Upd (fun _ => False) w3 (w3.alloc (.cells #[] 22)) := (Upd.refl _ w3).alloc _
    obtain ⟨W4, hW4⟩ : ∃ W4, w3.alloc (.cells #[] 22) = W4 := ⟨_, rfl⟩
    rw [hW4] at R4 hu4 ⊢
    clear hW4
    go_loopw [7, 8] (fun v i wr => ∃ t : Nat, t ≤ 2 ∧ i = .int .i64 t ∧ Rws wr w3.heap.size v m2 ((List.range t).map fun t => pl1 zs (sdX T t)) ∧ Upd (fun _ => False) w3 wr) (fun _ i _ => 2 - (intOf i).toNat)
    case atStart => exact ⟨0, by omega, rfl, R4, hu4⟩
    case round =>
      clear R4 hu4
      obtain ⟨t, ht, rfl, hR, hU⟩ := hrel
      rename World => wt
      have zt := hU.size
      by_cases hlt : t < 2
      · have hdec : decide ((t : Int) < 2) = true := decide_eq_true (by omega)
        go_wp2_with fail
        have hO5 : OwnS (fun k => wt.heap.size ≤ k) (wt.alloc (.cells #[] 3)) wt.heap.size 3 (.slice (some ⟨wt.heap.size, 0, none⟩) 0 0) [] := ⟨fun k hk => by cases hk; exact Nat.le_refl _, own_new _ _⟩
        have hu5 : Upd (fun _ => False) wt (wt.alloc (.cells #[] 3)) := (Upd.refl _ wt).alloc _
        obtain ⟨W5, hW5⟩ : ∃ W5, wt.alloc (.cells #[] 3) = W5 := ⟨_, rfl⟩
        rw [hW5] at hO5 hu5 ⊢
        clear hW5
        go_loopw [9, 10] (fun v i wx => ∃ k : Nat, k ≤ m2 ∧ i = .int .i64 k ∧ OwnS (fun k => wt.heap.size ≤ k) wx wt.heap.size 3 v (((eitL zs (sdX T t)).take k).map popI) ∧ Upd (fun _ => False) wt wx) (fun _ i _ => m2 - (intOf i).toNat)
        case atStart => exact ⟨0, by omega, rfl, hO5, hu5⟩
        case round =>
          clear hO5 hu5
          obtain ⟨k, hk, rfl, hO, hUx⟩ := hrel
          rename World => wx
          have zx := hUx.size
          have hU3 : Upd (fun _ => False) w3 wx := hU.trans hUx
          by_cases hkl : k < m2
          · have hBx : Below w3.heap.size w3 wx := hU3.toBelow (fun _ e => e.elim) (Nat.le_refl _)
            obtain ⟨bz, oz, rfl, hbz0, hcz0⟩ := (hI3.below hBx).at_ hkl
            have hcz := hcz0 k hkl
            obtain ⟨bt, ot, rfl, hbt0, hct0⟩ := (i3.below hBx).at_ hkl
            have hct := hct0 k hkl
            obtain ⟨bd, od, ed, hbd0, hcd0⟩ := (d3.below hBx).at_ hkl
            cases ed
            have hcd := hcd0 k hkl
            rw [Nat.zero_add] at hcd
            clear hcz0 hct0 hcd0
            have hbz := Hbz.out k hkl
            have hbT := HbX.out 0 k hkl
            rw [show sdX T 0 = T from if_neg (by decide)] at hbT
            have hbD := HbX.out 1 k hkl
            rw [show sdX T 1 = du T from if_pos rfl] at hbD
            have Hsn := Lib.hid (show ((eitL zs (sdX T t)).take (k + 1)).map popI = ((eitL zs (sdX T t)).take k).map popI ++ [popI (orI (zs[k]?.getD 0) ((sdX T t)[k]?.getD 0))] by
              rw [← Heg.out t k hkl, List.take_succ_eq_append_getElem (by rw [Hel.out]; exact hkl), List.map_append, List.map_singleton, List.getElem?_eq_getElem (by rw [Hel.out]; exact hkl), Option.getD_some])
            have Hln := Lib.hid (show (((eitL zs (sdX T t)).take k).map popI).length = k by rw [List.length_map, List.length_take, Hel.out]; omega)
            by_cases ht1 : t = 1
            · rw [show (sdX T t)[k]?.getD 0 = (du T)[k]?.getD 0 by rw [show sdX T t = du T from if_pos ht1]] at Hsn
              have hd1 : ((t : Int) == 1) = true := by simp; omega
              clear ht1
              generalize zs[k]?.getD 0 = x at *
              generalize T[k]?.getD 0 = y at *
              generalize (du T)[k]?.getD 0 = z at *
              have hor1 : bits .or .i64 x y = orI x y := bits_or (by omega) (by omega) (by omega) (by omega)
              have hor2 : bits .or .i64 x z = orI x z := bits_or (by omega) (by omega) (by omega) (by omega)
              have ho := orI_bd hbz.1 hbz.2 hbD.1 hbD.2
              generalize orI x y = u1 at *
              generalize orI x z = u at *
              have Hb := Lib.hid (fun w => bits_any u w ho.1 (by omega))
              generalize hEk : ((eitL zs (sdX T t)).take k).map popI = Ek at hO Hsn Hln
              clear hEk
              go_wp2
              go_quiet (fail)
              go_wp2
              have hcz2 : (wx.drewN nq).cell? ⟨bz, oz + k, none⟩ = _ := hcz
              have hcd2 : (wx.drewN nq).cell? ⟨w2.heap.size, k, none⟩ = _ := hcd
              have hu5 : Upd (fun _ => False) wx (wx.drewN nq) := (Upd.refl _ wx).drewN _
              obtain ⟨wy, hwy⟩ : ∃ wy, wx.drewN nq = wy := ⟨_, rfl⟩
              rw [hwy] at hcz2 hcd2 hu5 ⊢
              clear hwy hcz hcd nq
              go_quiet (fail)
              go_wp2_with fail
              refine (Hb.out _).mono ?_
              rintro e w' ⟨rfl, rfl⟩
              obtain ⟨wz, hwz⟩ : ∃ wz, wy.drewN nq = wz := ⟨_, rfl⟩
              have hu6 : Upd (fun _ => False) wx wz := hwz ▸ hu5.drewN _
              have z6 := hu6.size
              have hO6 := hO.keep hu6 (fun _ _ e => e)
              rw [hwz]
              go_wp2_with (at_builtin; refine wpList_append1 _ rfl (.tmp 55) (.tmp 58) _ rfl wt.heap.size 3 i1 _ 8 Try.underlying22 hi1 hzi1 hsi1 hbi1 rfl _ Ek.length _ rfl (hO6.2.alloc _) wz.heap.size 1 (.int .i64 (popI u)) rfl (cell_new _ _ _) rfl (by rw [Hln.out]; omega) (by rw [Hln.out]; omega) (by simp; omega) ?_; rintro v' w' hown' hg' hv')
              go_roundw
              case rel => exact ⟨k + 1, by omega, by go_num, by rw [Hsn.out]; exact hO6.step hown' hv' (fun k e => e) (fun _ => by omega), ((hUx.trans hu6).alloc _).grown hg' (fun k hk => .inl (hO.1 k hk))⟩
              case measure => simp [intOf]; omega
            · rw [show (sdX T t)[k]?.getD 0 = T[k]?.getD 0 by rw [show sdX T t = T from if_neg ht1]] at Hsn
              have hd1 : ((t : Int) == 1) = false := by simp; omega
              clear ht1
              generalize zs[k]?.getD 0 = x at *
              generalize T[k]?.getD 0 = y at *
              have hor1 : bits .or .i64 x y = orI x y := bits_or (by omega) (by omega) (by omega) (by omega)
              have ho := orI_bd hbz.1 hbz.2 hbT.1 hbT.2
              generalize orI x y = u at *
              have Hb := Lib.hid (fun w => bits_any u w ho.1 (by omega))
              generalize hEk : ((eitL zs (sdX T t)).take k).map popI = Ek at hO Hsn Hln
              clear hEk
              go_wp2
              go_quiet (fail)
              go_wp2_with fail
              refine (Hb.out _).mono ?_
              rintro e w' ⟨rfl, rfl⟩
              obtain ⟨wz, hwz⟩ : ∃ wz, wx.drewN nq = wz := ⟨_, rfl⟩
              have hu6 : Upd (fun _ => False) wx wz := hwz ▸ (Upd.refl _ wx).drewN _
              have z6 := hu6.size
              have hO6 := hO.keep hu6 (fun _ _ e => e)
              rw [hwz]
              go_wp2_with (at_builtin; refine wpList_append1 _ rfl (.tmp 55) (.tmp 58) _ rfl wt.heap.size 3 i1 _ 8 Try.underlying22 hi1 hzi1 hsi1 hbi1 rfl _ Ek.length _ rfl (hO6.2.alloc _) wz.heap.size 1 (.int .i64 (popI u)) rfl (cell_new _ _ _) rfl (by rw [Hln.out]; omega) (by rw [Hln.out]; omega) (by simp; omega) ?_; rintro v' w' hown' hg' hv')
              go_roundw
              case rel => exact ⟨k + 1, by omega, by go_num, by rw [Hsn.out]; exact hO6.step hown' hv' (fun k e => e) (fun _ => by omega), ((hUx.trans hu6).alloc _).grown hg' (fun k hk => .inl (hO.1 k hk))⟩
              case measure => simp [intOf]; omega
          · obtain rfl : k = m2 := by omega
            have he : ((eitL zs (sdX T t)).take k).map popI = (eitL zs (sdX T t)).map popI := by rw [List.take_of_length_le (by rw [Hel.out]; exact Nat.le_refl _)]
            rw [he] at hO
            clear he
            obtain ⟨Ap, cp, rfl, hIp, -⟩ := ints_of_own_at hO.2
            rw [show ((eitL zs (sdX T t)).map popI).length = k by rw [List.length_map, Hel.out]] at hIp ⊢
            have Hmt := Lib.hid (Hmd.out t)
            have Het := Lib.hid (Hel.out t)
            have Hsn := Lib.hid (fun j => mdL_succ (eitL zs (sdX T t)) j)
            rw [Het.out] at Hsn
            generalize eitL zs (sdX T t) = E at hIp Hmt Het Hsn hO
            generalize E.map popI = P at hIp Hsn hO
            clear hO
            go_wp2_with fail
            have hO7 : OwnS (fun g => wx.heap.size ≤ g) (wx.alloc (.cells #[] 3)) wx.heap.size 3 (.slice (some ⟨wx.heap.size, 0, none⟩) 0 0) [] := ⟨fun g hg => by cases hg; exact Nat.le_refl _, own_new _ _⟩
            have hu7 : Upd (fun _ => False) wx (wx.alloc (.cells #[] 3)) := (Upd.refl _ wx).alloc _
            obtain ⟨W7, hW7⟩ : ∃ W7, wx.alloc (.cells #[] 3) = W7 := ⟨_, rfl⟩
            rw [hW7] at hO7 hu7 ⊢
            clear hW7
            go_loopw [12, 13] (fun v i wy => ∃ (j : Nat) (x : Int), j ≤ k ∧ x = (k : Int) - 1 - j ∧ i = .int .i64 x ∧ OwnS (fun g => wx.heap.size ≤ g) wy wx.heap.size 3 v (mdL E j) ∧ Upd (fun _ => False) wx wy) (fun _ i _ => (intOf i + 1).toNat)
            case atStart => exact ⟨0, (k : Int) - 1, by omega, by omega, by go_num, hO7, hu7⟩
            case round =>
              clear hO7 hu7
              obtain ⟨j, x, hj, hx, rfl, hO, hUy⟩ := hrel
              rename World => wy
              have zy := hUy.size
              by_cases hlj : j < k
              · have hge : x ≥ 0 := by omega
                have Hsj := Lib.hid (Hsn.out j)
                rw [← hx] at Hsj
                have Hln := Lib.hid (mdL_len E j)
                generalize mdL E j = M at hO Hsj Hln
                have hBy : Below wx.heap.size wx wy := hUy.toBelow (fun _ e => e.elim) (Nat.le_refl _)
                have hIy := hIp.below hBy
                have Hat := Lib.hid (at_any Ap k cp _ P x wy hIy (by omega))
                have Hx := Lib.hid hx
                have hx6 : x ≤ 6 := by omega
                clear hx
                generalize atI P x = q at *
                go_wp2_with fail
                refine Hat.out.mono ?_
                rintro e w' ⟨rfl, rfl⟩
                go_wp2_with (at_builtin; refine wpList_append1 _ rfl (.tmp 68) (.tmp 72) _ rfl wx.heap.size 3 i1 _ 8 Try.underlying22 hi1 hzi1 hsi1 hbi1 rfl _ M.length _ rfl (hO.2.alloc _) w'.heap.size 1 (.int .i64 q) rfl (cell_new _ _ _) rfl (by rw [Hln.out]; omega) (by rw [Hln.out]; omega) (by simp; omega) ?_; rintro v' w'' hown' hg' hv')
                go_roundw
                case rel => exact ⟨j + 1, x - 1, by omega, by have := Hx.out; omega, by go_num, by rw [Hsj.out]; exact hO.step hown' hv' (fun k e => e) (fun _ => by omega), (hUy.alloc _).grown hg' (fun k hk => .inl (hO.1 k hk))⟩
                case measure => simp [intOf]; omega
              · obtain rfl : j = k := by omega
                have hge : ¬ x ≥ 0 := by omega
                rw [Hmt.out] at hO
                obtain ⟨Aq, cq, rfl, hRq⟩ := rowC_of_own hO.2
                have hql : (pl1 zs (sdX T t)).length = j := by rw [← Hmt.out, mdL_len]
                rw [hql] at hRq ⊢
                have hRy := hR.keep (hUx.trans hUy)
                obtain ⟨vs, hvs1, hvs2⟩ := hRy
                have hRl : ((List.range t).map fun t => pl1 zs (sdX T t)).length = t := by simp
                have hvo := hR.own
                go_wp2_with (at_builtin; refine wpList_append1 _ rfl (.tmp 74) (.tmp 76) _ rfl w3.heap.size 22 i0 _ 24 Try.underlying32 hi0 hz0 hz1 hz2 rfl _ ((List.range t).map fun t => pl1 zs (sdX T t)).length _ rfl (hvs1.alloc _) wy.heap.size 1 (.slice Aq j cq) rfl (cell_new _ _ _) rfl (by rw [hRl]; omega) (by rw [hRl]; omega) (by simp; omega) ?_; rintro v' w'' hown' hg' hv')
                go_roundw
                case rel => exact ⟨t + 1, by omega, by go_num, by
                  rw [List.range_succ, List.map_append, List.map_singleton]
                  exact Rws.step hvs1 hvs2 hRq (fun k hk => by have := hvo k hk; omega) hown' hg' hv', (((hU.trans hUx).trans hUy).alloc _).grown hg' (fun k hk => .inl (hvo k hk).1)⟩
                case measure => simp [intOf]; omega
      · obtain rfl : t = 2 := by omega
        have hdec : decide (((2 : Nat) : Int) < 2) = false := by decide
        have e2 : ((List.range 2).map fun t => pl1 zs (sdX T t)) = plR zs := by rw [Hp.out]; rfl
        rw [e2] at hR
        obtain ⟨Af, cf, rfl, hIf⟩ := hR.ints (fun r hr => by
          rw [Hp.out] at hr
          rcases List.mem_cons.1 hr with e | e
          · rw [e]; unfold pl1; rw [atL_len, hlen.out]
          · rw [List.mem_singleton.1 e]; unfold pl1; rw [atL_len, hlen.out])
        go_wp2_with fail
        go_ret2
        exact ⟨Af, cf, by rw [Hok.out]; rfl, hIf, C3.trans (hU.toBelow (B := w3.heap.size) (fun _ e => e.elim) (Nat.le_refl _) |>.mono C3.size)⟩
end Go.Proofs.Ytghogabmkbadjab

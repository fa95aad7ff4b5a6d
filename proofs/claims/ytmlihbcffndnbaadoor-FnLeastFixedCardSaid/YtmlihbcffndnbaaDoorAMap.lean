/- A drawn list that takes items of an order to items of an order. -/
import Derived.Test.YtmlihbcffndnbaaDoorDrawS
import Derived.Test.YtmlihbcffndnbaaDoorSomeM
import Derived.Test.YtmlihbcffndnbaaDoorGxc
import Derived.Test.YtmlihbcffndnbaaDoorPrI
import Derived.Test.YtmlihbcffndnbaaDoorGxb
set_option linter.unusedVariables false
set_option linter.unusedSimpArgs false
namespace Go.Proofs.YtmlihbcffndnbaaDoor
open Go.RowKit Go.Shelf
attribute [local go_sem] Oper.semAt_some
attribute [local go_sem, local simp] wide_fn

/-- What drawing a list for an order gives. -/
def DrawnF (w : World) (R p n : Nat) (e : Ending) (w' : World) : Prop := ∃ A3 c3 fs q, e = .returned (.slice A3 n c3) ∧ RowV w' w.heap.size w'.heap.size A3 n fs ∧ q ≤ 20 ∧ Rd w' R (p + q) ∧ Upd (fun k => k = R) w w'
set_option maxRecDepth 100000 in
set_option maxHeartbeats 8000000 in
theorem aMap_any (R p : Nat) (A : Option Addr) (n c lo : Nat) (zs : List Int) (A' : Option Addr) (m c' lo' : Nat) (ys : List Int) (w : World) (hR0 : Rd w R p) (hp : p ≤ 1000) (ra : Row w lo w.heap.size A n zs) (rb : Row w lo' w.heap.size A' m ys) (hlo : R < lo) (hlo' : R < lo') (hn7 : n ≤ 7) (hm7 : m ≤ 7) :
    Calls Tryd.prog 40 #[.pointer (some ⟨R, 0, none⟩), .slice A n c, .slice A' m c'] w (DrawnF w R p n) := by
  have hlen := Lib.hid ra.len
  have hlen' := Lib.hid rb.len
  obtain ⟨i0, hi0, hz0, hz1, hz2⟩ := info_parts infoInt
  have hRl := hR0.lt
  have Hra := Lib.hid (fun wr (hU : Upd (fun k => k = R ∨ w.heap.size ≤ k) w wr) => (ra.upd hU (fun j hj => by omega)).ints (B := w.heap.size) (Nat.le_refl _))
  have Hrb := Lib.hid (fun wr (hU : Upd (fun k => k = R ∨ w.heap.size ≤ k) w wr) => (rb.upd hU (fun j hj => by omega)).ints (B := w.heap.size) (Nat.le_refl _))
  clear ra rb
  go_enter Tryd.func40, Tryd.ntmps40
  have hown := own_new w 3
  have hu1 : Upd (fun k => k = R ∨ w.heap.size ≤ k) w (w.alloc (.cells #[] 3)) := (Upd.refl _ w).alloc _
  have hO1 : OwnS (fun j => w.heap.size ≤ j) (w.alloc (.cells #[] 3)) w.heap.size 3 (.slice (some ⟨w.heap.size, 0, none⟩) 0 0) [] := ⟨fun j hj => by simp [Value.ownBlock] at hj; omega, hown⟩
  have hu0 : Upd (fun _ => False) w (w.alloc (.cells #[] 3)) := (Upd.refl _ w).alloc _
  have hR1 := hR0.upd hu0 (fun _ e => e.elim)
  clear hu0
  clear hown
  go_wp2_with fail
  obtain ⟨w1, hw1⟩ : ∃ w1, w.alloc (.cells #[] 3) = w1 := ⟨_, rfl⟩
  rw [hw1] at hu1 hO1 hR1 ⊢
  clear hw1 hR0
  go_loopw [7, 8] (fun v0 i wr => ∃ (x r : Nat) (v : Value) (ls : List Int), v = v0 ∧ x ≤ n ∧ i = .int .i64 x ∧ ls.length = x ∧ r ≤ 2 * x ∧ (∀ e ∈ ls, 0 ≤ e ∧ (0 < m → e < m)) ∧ OwnS (fun j => w.heap.size ≤ j) wr w.heap.size 3 v ls ∧ Rd wr R (p + r) ∧ Upd (fun k => k = R ∨ w.heap.size ≤ k) w wr) (fun _ i _ => n - (intOf i).toNat)
  case atStart => exact ⟨0, 0, _, [], rfl, by omega, rfl, rfl, by omega, (fun e he => by cases he), hO1, hR1, hu1⟩
  case round =>
    clear hO1 hR1 hu1
    obtain ⟨x, r0, v, ls, rfl, hx, rfl, hxl0, hr0, hls0, hO, hR, hU⟩ := hrel
    rename World => wy
    have hxl := Lib.hid hxl0
    have hls := Lib.hid hls0
    clear hls0
    have zy := hU.size
    by_cases hlt : x < n
    · obtain ⟨A7, c7, rfl, hI7⟩ := ints_of_own hO.2
      rw [hxl0] at hI7 hO ⊢
      clear hxl0
      go_wp2_with fail
      refine (pick_any R _ (m : Int) wy hR (by omega)).mono ?_
      rintro e wt ⟨yi, rfl, hpk, hR2, hU2⟩
      obtain ⟨y, rfl⟩ : ∃ y : Nat, yi = (y : Int) := ⟨yi.toNat, by rcases Nat.lt_or_ge 0 m with h0 | h0; have := hpk.1 (by omega); omega; have := hpk.2 (by omega); omega⟩
      have hy : Hid (0 < m → y < m) := Lib.hid (fun h0 => by have := hpk.1 (by omega); omega)
      clear hpk
      have z2 := hU2.size
      have hO2 := hO.keep hU2 (fun j hj e => by omega)
      have hU3 := hU.trans' hU2 (fun j hj e => .inl e)
      have Hz := Lib.hid (Hra.out wt hU3)
      have Hb := Lib.hid (Hrb.out wt hU3)
      clear hO hR hU hU2
      have hO := hO2
      have hU := hU3
      have hR := hR2
      clear hO2 hU3 hR2
      cases hv : vo zs
      · skip
        go_wp2_with fail
        refine (validOrder_any _ _ _ _ zs wt Hz.out (by omega)).mono ?_
        rw [hv]
        rintro e wa ⟨rfl, q, hq⟩
        have hud : Upd (fun _ => False) wt wa := by rw [hq]; exact (Upd.refl _ _).drewN q
        clear hq
        have hO2 := hO.keep hud (fun j hj e => e.elim)
        have hR2 := hR.upd hud (fun j e => e.elim)
        have hU2 := hU.trans' hud (fun j hj e => e.elim)
        clear hO hR hU
        have hO := hO2
        have hR := hR2
        have hU := hU2
        clear hO2 hR2 hU2
        clear hv
        have Hy := Lib.hid (show ∀ e ∈ ls ++ [((y : Nat) : Int)], 0 ≤ e ∧ (0 < m → e < m) from fun e he => by
          rcases List.mem_append.1 he with he | he
          · exact hls.out e he
          · rw [List.mem_singleton.1 he]; exact ⟨by omega, fun h0 => by have := hy.out h0; omega⟩)
        have hvb := hO.1
        have zt := hU.size
        have hR0 := hR.lt
        go_wp2_with (at_builtin; go_loud (refine wpList_append1 _ rfl (.tmp 100) (.tmp 102) _ rfl w.heap.size 3 i0 _ 8 Tryd.underlying22 hi0 hz0 hz1 hz2 rfl _ ls.length _ rfl (hO.2.alloc _) wa.heap.size 1 (.int .i64 ((y : Nat) : Int)) rfl (cell_new _ _ _) rfl (by rw [hxl.out]; omega) (by rw [hxl.out]; omega) (by simp; omega) ?_); go_loud (rintro v' w' hown' hg' hv'; have hU7 : Upd (fun j => w.heap.size ≤ j) wa w' := ((Upd.refl (fun j => w.heap.size ≤ j) wa).alloc _).grown hg' (fun j hj => .inr (hvb j hj)); have hO7 : OwnS (fun j => w.heap.size ≤ j) w' w.heap.size 3 v' (ls ++ [((y : Nat) : Int)]) := OwnS.step hO hown' hv' (fun j hj => hj) (fun _ => by omega)))
        have hR7 := hR.upd hU7 (fun j hj => by omega)
        have hU8 := hU.trans' hU7 (fun j hj e => .inr e)
        clear hown' hg' hv' hU7
        go_roundw
        case rel => exact ⟨x + 1, r0 + 1, _, _, rfl, by omega, by go_num, by rw [List.length_append, hxl.out]; rfl, by omega, Hy.out, hO7, hR7, hU8⟩
        case measure => simp [intOf]; omega
      · have hvo : VoP zs := by simpa [vo] using hv
        go_wp2_with fail
        refine (validOrder_any _ _ _ _ zs wt Hz.out (by omega)).mono ?_
        rw [hv]
        rintro e wa ⟨rfl, q, hq⟩
        have hud : Upd (fun _ => False) wt wa := by rw [hq]; exact (Upd.refl _ _).drewN q
        clear hq
        have hO2 := hO.keep hud (fun j hj e => e.elim)
        have hR2 := hR.upd hud (fun j e => e.elim)
        have hU2 := hU.trans' hud (fun j hj e => e.elim)
        clear hO hR hU
        have hO := hO2
        have hR := hR2
        have hU := hU2
        clear hO2 hR2 hU2
        have Hb2 := Lib.hid (Hrb.out wa hU)
        cases hv2 : vo ys
        · skip
          go_wp2_with fail
          refine (validOrder_any _ _ _ _ ys wa Hb2.out (by omega)).mono ?_
          rw [hv2]
          rintro e wb ⟨rfl, q, hq⟩
          have hud : Upd (fun _ => False) wa wb := by rw [hq]; exact (Upd.refl _ _).drewN q
          clear hq
          have hO2 := hO.keep hud (fun j hj e => e.elim)
          have hR2 := hR.upd hud (fun j e => e.elim)
          have hU2 := hU.trans' hud (fun j hj e => e.elim)
          clear hO hR hU
          have hO := hO2
          have hR := hR2
          have hU := hU2
          clear hO2 hR2 hU2
          clear hv hv2
          have Hy := Lib.hid (show ∀ e ∈ ls ++ [((y : Nat) : Int)], 0 ≤ e ∧ (0 < m → e < m) from fun e he => by
            rcases List.mem_append.1 he with he | he
            · exact hls.out e he
            · rw [List.mem_singleton.1 he]; exact ⟨by omega, fun h0 => by have := hy.out h0; omega⟩)
          have hvb := hO.1
          have zt := hU.size
          have hR0 := hR.lt
          go_wp2_with (at_builtin; go_loud (refine wpList_append1 _ rfl (.tmp 100) (.tmp 102) _ rfl w.heap.size 3 i0 _ 8 Tryd.underlying22 hi0 hz0 hz1 hz2 rfl _ ls.length _ rfl (hO.2.alloc _) wb.heap.size 1 (.int .i64 ((y : Nat) : Int)) rfl (cell_new _ _ _) rfl (by rw [hxl.out]; omega) (by rw [hxl.out]; omega) (by simp; omega) ?_); go_loud (rintro v' w' hown' hg' hv'; have hU7 : Upd (fun j => w.heap.size ≤ j) wb w' := ((Upd.refl (fun j => w.heap.size ≤ j) wb).alloc _).grown hg' (fun j hj => .inr (hvb j hj)); have hO7 : OwnS (fun j => w.heap.size ≤ j) w' w.heap.size 3 v' (ls ++ [((y : Nat) : Int)]) := OwnS.step hO hown' hv' (fun j hj => hj) (fun _ => by omega)))
          have hR7 := hR.upd hU7 (fun j hj => by omega)
          have hU8 := hU.trans' hU7 (fun j hj e => .inr e)
          clear hown' hg' hv' hU7
          go_roundw
          case rel => exact ⟨x + 1, r0 + 1, _, _, rfl, by omega, by go_num, by rw [List.length_append, hxl.out]; rfl, by omega, Hy.out, hO7, hR7, hU8⟩
          case measure => simp [intOf]; omega
        · have hvy : VoP ys := by simpa [vo] using hv2
          go_wp2_with fail
          refine (validOrder_any _ _ _ _ ys wa Hb2.out (by omega)).mono ?_
          rw [hv2]
          rintro e wb ⟨rfl, q, hq⟩
          have hud : Upd (fun _ => False) wa wb := by rw [hq]; exact (Upd.refl _ _).drewN q
          clear hq
          have hO2 := hO.keep hud (fun j hj e => e.elim)
          have hR2 := hR.upd hud (fun j e => e.elim)
          have hU2 := hU.trans' hud (fun j hj e => e.elim)
          clear hO hR hU
          have hO := hO2
          have hR := hR2
          have hU := hU2
          clear hO2 hR2 hU2
          clear hv hv2
          have hn6 : n ≤ 6 := by have := hvo.1; rw [hlen.out] at this; exact this
          have hm6 : m ≤ 6 := by have := hvy.1; rw [hlen'.out] at this; exact this
          have hsv := hvo.sets
          have hsy := hvy.sets
          go_wp2_with fail
          refine (pick_any R _ 12 wb hR (by omega)).mono ?_
          rintro e wc ⟨g, rfl, hpk, hR2, hU2⟩
          have hg0 := hpk.1 (by omega)
          have z3 := hU2.size
          have hO2 := hO.keep hU2 (fun j hj e => by omega)
          have hU3 := hU.trans' hU2 (fun j hj e => .inl e)
          clear hO hR hU hU2 hpk
          have hO := hO2
          have hU := hU3
          have hR := hR2
          clear hO2 hU3 hR2
          by_cases hg : 0 < g
          · skip
            have Hzc := Lib.hid (Hra.out wc hU)
            have Hbc := Lib.hid (Hrb.out wc hU)
            obtain ⟨A9, c9, e9, hI9⟩ := ints_of_own hO.2
            rw [hxl.out] at e9 hI9
            cases e9
            have HI9 := Lib.hid hI9
            clear hI9 hg0 Hz Hb Hb2
            have HO := Lib.hid hO
            have HR := Lib.hid hR
            have HU := Lib.hid hU
            clear hO hR hU
            go_wp2
            clear hg
            go_loopw [9, 10] (fun yv i wr => ∃ k y1 q : Nat, k ≤ m ∧ i = .int .i64 k ∧ yv = .int .i64 y1 ∧ Hid (0 < m → y1 < m) ∧ wr = wc.drewN q) (fun _ i _ => m - (intOf i).toNat)
            case atStart => exact ⟨0, y, 0, by omega, rfl, rfl, hy, rfl⟩
            case round =>
              clear hy
              obtain ⟨k, y1, q, hk, rfl, rfl, hy, rfl⟩ := hrel
              by_cases hkm : k < m
              · have hy1 := hy.out (by omega)
                obtain ⟨r, hr⟩ : ∃ r, (y1 + k) % m = r := ⟨_, rfl⟩
                have hrm : r < m := by rw [← hr]; exact Nat.mod_lt _ (by omega)
                have hmod : ((y1 : Int) + (k : Int)).tmod (m : Int) = (r : Int) := by rw [← hr]; rfl
                have hm0 : ((m : Int) == 0) = false := by simp; omega
                clear hr
                go_wp2
                go_loopw [11, 12] (fun f i wr => ∃ (z q : Nat) (fb : Bool), z ≤ x ∧ i = .int .i64 z ∧ f = .bool fb ∧ wr = wc.drewN q) (fun _ i _ => x - (intOf i).toNat)
                case atStart => exact ⟨0, q, true, by omega, rfl, rfl, rfl⟩
                case round =>
                  obtain ⟨z, q, fb, hz, rfl, rfl, rfl⟩ := hrel
                  by_cases hzx : z < x
                  · obtain ⟨bl, off, hAe, _, hc⟩ := Hzc.out.at_ hlt
                    subst hAe
                    have hcz := hc z (by omega)
                    have hcx := hc x hlt
                    clear hc
                    obtain ⟨b9, off9, hAe9, _, h9⟩ := HI9.out.at_ hzx
                    subst hAe9
                    have hcu := h9 z hzx
                    clear h9
                    have hub := hls.out (ls[z]?.getD 0) (by rw [List.getElem?_eq_getElem (by rw [hxl.out]; exact hzx)]; exact List.getElem_mem _)
                    have hub2 := hub.2 (by omega)
                    obtain ⟨u, hu⟩ : ∃ u : Nat, ls[z]?.getD 0 = (u : Int) := ⟨(ls[z]?.getD 0).toNat, by omega⟩
                    rw [hu] at hcu hub2
                    have hum : u < m := by omega
                    clear hub hub2 hu
                    have hzz := hsv.bd z (by rw [hlen.out]; omega)
                    have hzx2 := hsv.bd x (by rw [hlen.out]; omega)
                    have hq1 := fun w => bit_any (zs[z]?.getD 0) (x : Int) w (by omega) (by omega) (by omega) (by omega)
                    have hq2 := fun w => bit_any (zs[x]?.getD 0) (z : Int) w (by omega) (by omega) (by omega) (by omega)
                    have hm1 := fun q => satMost_any A' m c' _ ys u r (wc.drewN q) (Hbc.out.drewN q) hsy hum hrm
                    have hm2 := fun q => satMost_any A' m c' _ ys r u (wc.drewN q) (Hbc.out.drewN q) hsy hrm hum
                    clear hzz hzx2
                    cases fb
                    · skip
                      go_wp2
                      go_quiet ((first
                        | (go_at_call 47; first | (with_reducible exact quiet_add_left (hq1 _)) | (with_reducible exact quiet_add_left (hq2 _)) | (with_reducible exact quiet_left0 (hq1 _)) | (with_reducible exact quiet_left0 (hq2 _)))
                        | (go_at_call 48; first | (with_reducible exact quiet_add_left (hm1 _)) | (with_reducible exact quiet_add_left (hm2 _)))))
                      go_wp2
                      go_roundw
                      case rel => exact ⟨z + 1, _, _, by omega, by go_num, rfl, rfl⟩
                      case measure => simp [intOf]; omega
                    · cases hb1 : (bitI (zs[z]?.getD 0) x == 0)
                      · cases ha1 : amB ys u r
                        · rw [ha1] at hm1
                          go_wp2
                          go_quiet ((first
                            | (go_at_call 47; first | (with_reducible exact quiet_add_left (hq1 _)) | (with_reducible exact quiet_add_left (hq2 _)) | (with_reducible exact quiet_left0 (hq1 _)) | (with_reducible exact quiet_left0 (hq2 _)))
                            | (go_at_call 48; first | (with_reducible exact quiet_add_left (hm1 _)) | (with_reducible exact quiet_add_left (hm2 _)))))
                          go_wp2
                          go_roundw
                          case rel => exact ⟨z + 1, _, _, by omega, by go_num, rfl, rfl⟩
                          case measure => simp [intOf]; omega
                        · rw [ha1] at hm1
                          cases hb2 : (bitI (zs[x]?.getD 0) z == 0)
                          · cases ha2 : amB ys r u
                            · rw [ha2] at hm2
                              go_wp2
                              go_quiet ((first
                                | (go_at_call 47; first | (with_reducible exact quiet_add_left (hq1 _)) | (with_reducible exact quiet_add_left (hq2 _)) | (with_reducible exact quiet_left0 (hq1 _)) | (with_reducible exact quiet_left0 (hq2 _)))
                                | (go_at_call 48; first | (with_reducible exact quiet_add_left (hm1 _)) | (with_reducible exact quiet_add_left (hm2 _)))))
                              go_wp2
                              go_roundw
                              case rel => exact ⟨z + 1, _, _, by omega, by go_num, rfl, rfl⟩
                              case measure => simp [intOf]; omega
                            · rw [ha2] at hm2
                              go_wp2
                              go_quiet ((first
                                | (go_at_call 47; first | (with_reducible exact quiet_add_left (hq1 _)) | (with_reducible exact quiet_add_left (hq2 _)) | (with_reducible exact quiet_left0 (hq1 _)) | (with_reducible exact quiet_left0 (hq2 _)))
                                | (go_at_call 48; first | (with_reducible exact quiet_add_left (hm1 _)) | (with_reducible exact quiet_add_left (hm2 _)))))
                              go_wp2
                              go_roundw
                              case rel => exact ⟨z + 1, _, _, by omega, by go_num, rfl, rfl⟩
                              case measure => simp [intOf]; omega
                          · skip
                            go_wp2
                            go_quiet ((first
                              | (go_at_call 47; first | (with_reducible exact quiet_add_left (hq1 _)) | (with_reducible exact quiet_add_left (hq2 _)) | (with_reducible exact quiet_left0 (hq1 _)) | (with_reducible exact quiet_left0 (hq2 _)))
                              | (go_at_call 48; first | (with_reducible exact quiet_add_left (hm1 _)) | (with_reducible exact quiet_add_left (hm2 _)))))
                            go_wp2
                            go_roundw
                            case rel => exact ⟨z + 1, _, _, by omega, by go_num, rfl, rfl⟩
                            case measure => simp [intOf]; omega
                      · skip
                        cases hb2 : (bitI (zs[x]?.getD 0) z == 0)
                        · cases ha2 : amB ys r u
                          · rw [ha2] at hm2
                            go_wp2
                            go_quiet ((first
                              | (go_at_call 47; first | (with_reducible exact quiet_add_left (hq1 _)) | (with_reducible exact quiet_add_left (hq2 _)) | (with_reducible exact quiet_left0 (hq1 _)) | (with_reducible exact quiet_left0 (hq2 _)))
                              | (go_at_call 48; first | (with_reducible exact quiet_add_left (hm1 _)) | (with_reducible exact quiet_add_left (hm2 _)))))
                            go_wp2
                            go_roundw
                            case rel => exact ⟨z + 1, _, _, by omega, by go_num, rfl, rfl⟩
                            case measure => simp [intOf]; omega
                          · rw [ha2] at hm2
                            go_wp2
                            go_quiet ((first
                              | (go_at_call 47; first | (with_reducible exact quiet_add_left (hq1 _)) | (with_reducible exact quiet_add_left (hq2 _)) | (with_reducible exact quiet_left0 (hq1 _)) | (with_reducible exact quiet_left0 (hq2 _)))
                              | (go_at_call 48; first | (with_reducible exact quiet_add_left (hm1 _)) | (with_reducible exact quiet_add_left (hm2 _)))))
                            go_wp2
                            go_roundw
                            case rel => exact ⟨z + 1, _, _, by omega, by go_num, rfl, rfl⟩
                            case measure => simp [intOf]; omega
                        · skip
                          go_wp2
                          go_quiet ((first
                            | (go_at_call 47; first | (with_reducible exact quiet_add_left (hq1 _)) | (with_reducible exact quiet_add_left (hq2 _)) | (with_reducible exact quiet_left0 (hq1 _)) | (with_reducible exact quiet_left0 (hq2 _)))
                            | (go_at_call 48; first | (with_reducible exact quiet_add_left (hm1 _)) | (with_reducible exact quiet_add_left (hm2 _)))))
                          go_wp2
                          go_roundw
                          case rel => exact ⟨z + 1, _, _, by omega, by go_num, rfl, rfl⟩
                          case measure => simp [intOf]; omega
                  · obtain rfl : z = x := by omega
                    cases fb
                    · go_wp2
                      go_roundw
                      case rel => exact ⟨k + 1, y1, q, by omega, by go_num, rfl, hy, rfl⟩
                      case measure => simp [intOf]; omega
                    · obtain ⟨wd, hwd⟩ : ∃ wd, wc.drewN q = wd := ⟨_, rfl⟩
                      rw [hwd]
                      have hud : Upd (fun _ => False) wc wd := by rw [← hwd]; exact (Upd.refl _ _).drewN q
                      clear hwd hy
                      have hO := HO.out
                      have hR := HR.out
                      have hU := HU.out
                      have hy : Hid (0 < m → r < m) := Lib.hid (fun _ => hrm)
                      have hO2 := hO.keep hud (fun j hj e => e.elim)
                      have hR2 := hR.upd hud (fun j e => e.elim)
                      have hU2 := hU.trans' hud (fun j hj e => e.elim)
                      clear hO hR hU
                      have hO := hO2
                      have hR := hR2
                      have hU := hU2
                      clear hO2 hR2 hU2
                      have Hy := Lib.hid (show ∀ e ∈ ls ++ [((r : Nat) : Int)], 0 ≤ e ∧ (0 < m → e < m) from fun e he => by
                        rcases List.mem_append.1 he with he | he
                        · exact hls.out e he
                        · rw [List.mem_singleton.1 he]; exact ⟨by omega, fun h0 => by have := hy.out h0; omega⟩)
                      have hvb := hO.1
                      have zt := hU.size
                      have hR0 := hR.lt
                      go_wp2_with (at_builtin; go_loud (refine wpList_append1 _ rfl (.tmp 100) (.tmp 102) _ rfl w.heap.size 3 i0 _ 8 Tryd.underlying22 hi0 hz0 hz1 hz2 rfl _ ls.length _ rfl (hO.2.alloc _) wd.heap.size 1 (.int .i64 ((r : Nat) : Int)) rfl (cell_new _ _ _) rfl (by rw [hxl.out]; omega) (by rw [hxl.out]; omega) (by simp; omega) ?_); go_loud (rintro v' w' hown' hg' hv'; have hU7 : Upd (fun j => w.heap.size ≤ j) wd w' := ((Upd.refl (fun j => w.heap.size ≤ j) wd).alloc _).grown hg' (fun j hj => .inr (hvb j hj)); have hO7 : OwnS (fun j => w.heap.size ≤ j) w' w.heap.size 3 v' (ls ++ [((r : Nat) : Int)]) := OwnS.step hO hown' hv' (fun j hj => hj) (fun _ => by omega)))
                      have hR7 := hR.upd hU7 (fun j hj => by omega)
                      have hU8 := hU.trans' hU7 (fun j hj e => .inr e)
                      clear hown' hg' hv' hU7
                      go_roundw
                      case rel => exact ⟨z + 1, r0 + 2, _, _, rfl, by omega, by go_num, by rw [List.length_append, hxl.out]; rfl, by omega, Hy.out, hO7, hR7, hU8⟩
                      case measure => simp [intOf]; omega
              · obtain rfl : k = m := by omega
                obtain ⟨wd, hwd⟩ : ∃ wd, wc.drewN q = wd := ⟨_, rfl⟩
                rw [hwd]
                have hud : Upd (fun _ => False) wc wd := by rw [← hwd]; exact (Upd.refl _ _).drewN q
                clear hwd
                have hO := HO.out
                have hR := HR.out
                have hU := HU.out
                have hO2 := hO.keep hud (fun j hj e => e.elim)
                have hR2 := hR.upd hud (fun j e => e.elim)
                have hU2 := hU.trans' hud (fun j hj e => e.elim)
                clear hO hR hU
                have hO := hO2
                have hR := hR2
                have hU := hU2
                clear hO2 hR2 hU2
                have Hy := Lib.hid (show ∀ e ∈ ls ++ [((y1 : Nat) : Int)], 0 ≤ e ∧ (0 < k → e < k) from fun e he => by
                  rcases List.mem_append.1 he with he | he
                  · exact hls.out e he
                  · rw [List.mem_singleton.1 he]; exact ⟨by omega, fun h0 => by have := hy.out h0; omega⟩)
                have hvb := hO.1
                have zt := hU.size
                have hR0 := hR.lt
                go_wp2_with (at_builtin; go_loud (refine wpList_append1 _ rfl (.tmp 100) (.tmp 102) _ rfl w.heap.size 3 i0 _ 8 Tryd.underlying22 hi0 hz0 hz1 hz2 rfl _ ls.length _ rfl (hO.2.alloc _) wd.heap.size 1 (.int .i64 ((y1 : Nat) : Int)) rfl (cell_new _ _ _) rfl (by rw [hxl.out]; omega) (by rw [hxl.out]; omega) (by simp; omega) ?_); go_loud (rintro v' w' hown' hg' hv'; have hU7 : Upd (fun j => w.heap.size ≤ j) wd w' := ((Upd.refl (fun j => w.heap.size ≤ j) wd).alloc _).grown hg' (fun j hj => .inr (hvb j hj)); have hO7 : OwnS (fun j => w.heap.size ≤ j) w' w.heap.size 3 v' (ls ++ [((y1 : Nat) : Int)]) := OwnS.step hO hown' hv' (fun j hj => hj) (fun _ => by omega)))
                have hR7 := hR.upd hU7 (fun j hj => by omega)
                have hU8 := hU.trans' hU7 (fun j hj e => .inr e)
                clear hown' hg' hv' hU7
                go_roundw
                case rel => exact ⟨x + 1, r0 + 2, _, _, rfl, by omega, by go_num, by rw [List.length_append, hxl.out]; rfl, by omega, Hy.out, hO7, hR7, hU8⟩
                case measure => simp [intOf]; omega
          · have hgg : ¬ 0 < g := hg
            have Hy := Lib.hid (show ∀ e ∈ ls ++ [((y : Nat) : Int)], 0 ≤ e ∧ (0 < m → e < m) from fun e he => by
              rcases List.mem_append.1 he with he | he
              · exact hls.out e he
              · rw [List.mem_singleton.1 he]; exact ⟨by omega, fun h0 => by have := hy.out h0; omega⟩)
            have hvb := hO.1
            have zt := hU.size
            have hR0 := hR.lt
            go_wp2_with (at_builtin; go_loud (refine wpList_append1 _ rfl (.tmp 100) (.tmp 102) _ rfl w.heap.size 3 i0 _ 8 Tryd.underlying22 hi0 hz0 hz1 hz2 rfl _ ls.length _ rfl (hO.2.alloc _) wc.heap.size 1 (.int .i64 ((y : Nat) : Int)) rfl (cell_new _ _ _) rfl (by rw [hxl.out]; omega) (by rw [hxl.out]; omega) (by simp; omega) ?_); go_loud (rintro v' w' hown' hg' hv'; have hU7 : Upd (fun j => w.heap.size ≤ j) wc w' := ((Upd.refl (fun j => w.heap.size ≤ j) wc).alloc _).grown hg' (fun j hj => .inr (hvb j hj)); have hO7 : OwnS (fun j => w.heap.size ≤ j) w' w.heap.size 3 v' (ls ++ [((y : Nat) : Int)]) := OwnS.step hO hown' hv' (fun j hj => hj) (fun _ => by omega)))
            have hR7 := hR.upd hU7 (fun j hj => by omega)
            have hU8 := hU.trans' hU7 (fun j hj e => .inr e)
            clear hown' hg' hv' hU7
            go_roundw
            case rel => exact ⟨x + 1, r0 + 2, _, _, rfl, by omega, by go_num, by rw [List.length_append, hxl.out]; rfl, by omega, Hy.out, hO7, hR7, hU8⟩
            case measure => simp [intOf]; omega
    · obtain rfl : x = n := by omega
      have hxn : ls.length = x := hxl0
      clear hxl0
      obtain ⟨A7, c7, rfl, hI7⟩ := ints_of_own hO.2
      rw [hxn] at hI7 ⊢
      by_cases hx0 : x = 0
      · have hx00 : ¬ (0 : Int) < (x : Int) := by omega
        have Hx0 := Lib.hid hx0
        obtain ⟨A8, c8, e8, hV⟩ := rowV_of_own hO.2
        rw [hxn] at hV e8
        cases e8
        clear hx0
        go_wp2
        go_ret
        exact ⟨_, _, ls, r0, rfl, hV, by omega, hR, hU.mono (S := fun k => k = R) (fun k hk e => by omega)⟩
      · have hx00 : (0 : Int) < (x : Int) := by omega
        have Hxn := Lib.hid hxn
        have hx6 : 0 < x := by omega
        have Hm := Lib.hid hm7
        clear hx0 hI7 hxn
        go_wp2_with fail
        refine (pick_any R _ 30 wy hR (by omega)).mono ?_
        rintro e w2 ⟨g, rfl, hpk, hR2, hU2⟩
        have hg0 := hpk.1 (by omega)
        have z2 := hU2.size
        have hO2 := hO.keep hU2 (fun j hj e => by omega)
        have hU3 := hU.trans' hU2 (fun j hj e => .inl e)
        clear hO hR hU hU2 hpk
        have hOx : w2.ownsRow w.heap.size 3 1 (.slice A7 x c7) x (ls.map (Value.int .i64)) := by
          have := hO2.2
          rw [Hxn.out] at this
          exact this
        by_cases hg : g = 0
        · subst hg
          obtain ⟨gb, cap, e1⟩ := own_some hOx hx6
          cases e1
          have hgl : w.heap.size ≤ gb := hO2.1 gb rfl
          have hgl2 := own_lt' hOx gb rfl
          clear hO2 hg0
          go_wp2_with fail
          have hL : Arr (w2.alloc (.cells #[Value.int .i64 (-1), .int .i64 (m : Int)] 3)) w2.heap.size 3 [-1, (m : Int)] := heap_alloc_new w2 _
          have hUl : Upd (fun _ => False) w2 (w2.alloc (.cells #[Value.int .i64 (-1), .int .i64 (m : Int)] 3)) := (Upd.refl _ _).alloc _
          have hOl := hOx.alloc (.cells #[Value.int .i64 (-1), .int .i64 (m : Int)] 3)
          obtain ⟨w3, hW3⟩ : ∃ w3, w2.alloc (.cells #[Value.int .i64 (-1), .int .i64 (m : Int)] 3) = w3 := ⟨_, rfl⟩
          rw [hW3] at hL hUl hOl ⊢
          clear hW3
          have z3 := hUl.size
          refine (one_any R _ _ 2 2 _ _ w3 (hR2.upd hUl (fun _ e => e.elim)) (by omega) (hL.ints' (n := 2) hL.lt rfl) (fun b off e => by cases e; omega) (by omega) (by omega)).mono ?_
          rintro e w4 ⟨v, rfl, -, hR4, hU4⟩
          have z4 := hU4.size
          have hO4 : OwnS (fun j => w.heap.size ≤ j) w4 w.heap.size 3 (.slice (some ⟨gb, 0, none⟩) x c7) ls := OwnS.keep (R := fun j => j = R) ⟨fun j hj => by simp [Value.ownBlock] at hj; omega, by rw [Hxn.out]; exact hOl⟩ hU4 (fun j hj e => by omega)
          have hO5 : w4.ownsRow w.heap.size 3 1 (.slice (some ⟨gb, 0, none⟩) x c7) x (ls.map (Value.int .i64)) := by
            have := hO4.2
            rw [Hxn.out] at this
            exact this
          obtain ⟨hcs, hfs, hgl5⟩ := own_cell hO5
          have hc0 := hcs 0 hx6
          have hf0 := hfs 0
          have hU5 := (hU3.trans' hUl (fun j hj e => e.elim)).trans' hU4 (fun j hj e => .inl e)
          have hO6 := own_set hO5 0 (.int .i64 v)
          rw [← List.map_set] at hO6
          have hs6 : Upd (fun j => j = gb) w4 (w4.setCell ⟨gb, 0, none⟩ (.int .i64 v)) := (Upd.refl (fun j => j = gb) w4).setCell (p := ⟨gb, 0, none⟩) (.inr rfl) _
          have hR6 := hR4.upd hs6 (fun j hj => by omega)
          have hU6 := hU5.trans' hs6 (fun j hj e => by omega)
          obtain ⟨A8, c8, e8, hV⟩ := rowV_of_own hO6
          cases e8
          clear hcs hfs hO5 hO4 hOl hL hO6 hOx
          go_wp2
          go_ret
          exact ⟨_, _, ls.set 0 v, r0 + 1 + 1, rfl, hV, by omega, hR6, hU6.mono (S := fun k => k = R) (fun k hk e => by omega)⟩
        · have hgn : (g == 0) = false := by simp; exact hg
          obtain ⟨A8, c8, e8, hV⟩ := rowV_of_own hOx
          cases e8
          clear hg hO2 hOx
          go_wp2
          go_ret
          exact ⟨_, _, ls, r0 + 1, rfl, hV, by omega, hR2, hU3.mono (S := fun k => k = R) (fun k hk e => by omega)⟩
end Go.Proofs.YtmlihbcffndnbaaDoor

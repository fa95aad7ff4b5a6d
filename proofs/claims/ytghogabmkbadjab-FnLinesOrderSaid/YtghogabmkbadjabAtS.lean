/- LineAt: the model's. -/
import Derived.Test.YtghogabmkbadjabGb
import Derived.Test.YtghogabmkbadjabRestS
import Derived.Test.YtghogabmkbadjabGxc
set_option linter.unusedVariables false
set_option linter.unusedSimpArgs false
namespace Go.Proofs.Ytghogabmkbadjab
open Go.RowKit Go.Shelf
attribute [local go_sem] Oper.semAt_some
attribute [local go_sem, local simp] wide_fn

theorem OwnS.keep' {S R : Nat → Prop} {w w' : World} {B : Nat} {e : TypeId} {v : Value} {xs : List Int} (h : OwnS S w B e v xs) (hu : Upd R w w') (hS : ∀ k, S k → k < w.heap.size → ¬ R k) : OwnS S w' B e v xs := by
  obtain ⟨h0, h1⟩ := h
  refine ⟨h0, h1.1, ?_⟩
  rcases h1.2 with e | ⟨g, cap, cur, rfl, hg, hc, hrest⟩
  · exact .inl e
  · have hl := (Array.getElem?_eq_some_iff.1 hc).1
    exact .inr ⟨g, cap, cur, rfl, hg, (hu.block g hl (hS g (h0 g rfl) hl)).trans hc, hrest⟩

set_option maxRecDepth 100000 in
set_option maxHeartbeats 8000000 in
theorem specLineAtF_any (A : Option Addr) (n c : Nat) (zs : List Int) (r : Int) (w : World) (h : Ints w w.heap.size A n zs) (hbig : n ≤ 1152921504606846976) :
    Calls Try.prog 127 #[.slice A n c, .int .i64 r] w (GivesAtV w (atR zs r) (hasAt zs r)) := by
  obtain ⟨i0, hi0, hz0, hz1, hz2⟩ := info_parts infoInt
  have hlen := Lib.hid h.len
  cases hv : vo zs
  · have Hh := Lib.hid (show hasAt zs r = false by unfold hasAt; rw [hv]; rfl)
    have Ht := Lib.hid (show atR zs r = [] by unfold atR; rw [Hh.out]; rfl)
    go_enter Try.func127, Try.ntmps127
    go_wp2_with fail
    refine (validOrder_any _ _ _ _ zs _ h hbig).mono ?_
    rw [hv]
    rintro e w' ⟨rfl, m, rfl⟩
    go_wp2_with fail
    go_ret2
    exact ⟨none, 0, 0, by rw [Hh.out]; rfl, by rw [Ht.out]; exact RowV.nil _ _ _ _, below_drewN (Below.refl _ _) m⟩
  · have hvo : VoP zs := by simpa [vo] using hv
    have Hv := Lib.hid hv
    clear hv
    have hn6 : n ≤ 6 := by have := hvo.1; rw [hlen.out] at this; exact this
    have hg := cF_le hvo (s := 2 ^ n - 1) (by rw [hlen.out]; have := Nat.two_pow_pos n; omega)
    obtain ⟨g, hgg⟩ : ∃ g, cF zs (2 ^ n - 1) = g := ⟨_, rfl⟩
    have Hgg := Lib.hid (show cG zs (2 ^ n - 1) = g by rw [← hgg]; have := count_both hvo; rw [hlen.out] at this; exact this)
    have Hgf := Lib.hid hgg
    have Hhas := Lib.hid (show hasAt zs r = inB r 0 ((g : Int) - 1) by
      unfold hasAt inB; rw [Hv.out, hlen.out, hgg, Bool.true_and, ← Bool.decide_and]
      exact decide_eq_decide.2 (by omega))
    rw [hgg] at hg
    clear hgg
    cases hin : inB r 0 ((g : Int) - 1)
    · have Hh := Lib.hid (Hhas.out.trans hin)
      have Ht := Lib.hid (show atR zs r = [] by unfold atR; rw [Hh.out]; rfl)
      have Hin := Lib.hid hin
      clear hin
      go_enter Try.func127, Try.ntmps127
      go_wp2_with fail
      refine (validOrder_any _ _ _ _ zs _ h hbig).mono ?_
      rw [Hv.out]
      rintro e w' ⟨rfl, m, rfl⟩
      have hB1 := below_drewN (Below.refl w.heap.size w) m
      go_wp2_with fail
      refine (scountLines_any A n c zs hvo _ ((h.drewN m).more (by simp))).mono ?_
      rw [Hgg.out]
      rintro e w2 ⟨rfl, hB2⟩
      have C2 := hB1.trans (hB2.mono (by simp))
      go_wp2_with fail
      refine (inRange_any _ _ _ _).mono ?_
      rw [Hin.out]
      rintro e w' ⟨rfl, rfl⟩
      go_wp2_with fail
      go_ret2
      exact ⟨none, 0, 0, by rw [Hh.out]; rfl, by rw [Ht.out]; exact RowV.nil _ _ _ _, C2⟩
    · have Hh := Lib.hid (Hhas.out.trans hin)
      obtain ⟨R, rfl⟩ : ∃ R : Nat, r = (R : Int) := ⟨r.toNat, by simp only [inB, decide_eq_true_eq] at hin; omega⟩
      have hRg : R < g := by simp only [inB, decide_eq_true_eq] at hin; omega
      have hRF : R < cF zs (2 ^ zs.length - 1) := by rw [hlen.out, Hgf.out]; exact hRg
      have Ht := Lib.hid (show atR zs (R : Int) = atL zs R n by unfold atR; rw [Hh.out, if_pos rfl, hlen.out]; rfl)
      have Hin := Lib.hid hin
      clear hin
      have Hok := Lib.hid (fun k hk => stA_ok hvo hRF (k := k) hk)
      have Hst := Lib.hid (fun k (hk : k < zs.length) => stA_step hvo hRF hk)
      clear hRF
      have Hdu := Lib.hid (show downP n (pairsL zs) = du zs by unfold du; rw [hlen.out])
      have hds := du_sets hvo.sets
      have Hdl := Lib.hid (show (du zs).length = n by rw [du_len, hlen.out])
      have hp64 := pow_le64 hn6
      go_enter Try.func127, Try.ntmps127
      go_wp2_with fail
      refine (validOrder_any _ _ _ _ zs _ h hbig).mono ?_
      rw [Hv.out]
      rintro e w' ⟨rfl, m, rfl⟩
      have i1 : Ints (w.drewN m) (w.drewN m).heap.size A n zs := h.drewN m
      have B1 : Below w.heap.size w (w.drewN m) := below_drewN (Below.refl _ _) m
      have z1 : w.heap.size ≤ (w.drewN m).heap.size := B1.size
      generalize w.drewN m = w1 at *
      go_wp2_with fail
      refine (scountLines_any A n c zs hvo _ i1).mono ?_
      rw [Hgg.out]
      rintro e w2 ⟨rfl, hB2⟩
      have z2 := hB2.size
      have i2 := i1.to hB2 (Nat.le_refl _) z2
      have B2 := B1.trans (hB2.mono z1)
      clear i1 B1 hB2
      go_wp2_with fail
      refine (inRange_any _ _ _ _).mono ?_
      rw [Hin.out]
      rintro e w' ⟨rfl, rfl⟩
      go_wp2_with fail
      have h1 := own_new w2 3
      have hU1 : Upd (fun _ => False) w2 (w2.alloc (.cells #[] 3)) := (Upd.refl _ w2).alloc _
      have hz1' : (w2.alloc (.cells #[] 3)).heap.size = w2.heap.size + 1 := by simp
      obtain ⟨W1, hW1⟩ : ∃ W1, w2.alloc (.cells #[] 3) = W1 := ⟨_, rfl⟩
      rw [hW1] at h1 hU1 hz1' ⊢
      clear hW1
      obtain ⟨hza, hzb⟩ : w2.heap.size < W1.heap.size ∧ W1.heap.size ≤ w2.heap.size + 1 := by omega
      clear hz1'
      have hB1 : Below w2.heap.size w2 W1 := hU1.toBelow (fun _ e => e.elim) (Nat.le_refl _)
      refine (downOf_any A n c zs W1 (i2.to hB1 (Nat.le_refl _) (by omega)) hvo.sets).mono ?_
      rintro e w3 ⟨rfl, hA3, hB3⟩
      rw [Hdu.out] at hA3
      have z3 := hB3.size
      have l3 := hA3.lt
      have O3 : OwnS (fun k => k = w2.heap.size) w3 w2.heap.size 3 (.slice (some ⟨w2.heap.size, 0, none⟩) 0 0) [] := OwnS.keep (S := fun k => k = w2.heap.size) ⟨fun k hk => by simp [Value.ownBlock] at hk; exact hk.symm, h1⟩ (Below.toUpd hB3) (fun k hk e => by omega)
      have hU3 : Upd (fun _ => False) w2 w3 := hU1.below hB3 (fun k h1 h2 => by omega)
      have i3 := i2.to (hU3.toBelow (B := w2.heap.size) (fun _ e => e.elim) (Nat.le_refl _)) (Nat.le_refl _) (Nat.le_refl _)
      obtain ⟨q, hq⟩ : ∃ q, W1.heap.size = q := ⟨_, rfl⟩
      rw [hq] at hA3 hza hzb z3 l3 ⊢
      clear hq h1 hU1 hB1 hB3 i2
      go_wp2_with fail
      go_loopw [1, 6, 7] (fun rk v t wr => ∃ k : Nat, k ≤ n ∧ rk = .int .i64 ((stA zs R k).2 : Int) ∧ t = .int .i64 ((stA zs R k).1 : Int) ∧ OwnS (fun k => k = w2.heap.size ∨ w3.heap.size ≤ k) wr w2.heap.size 3 v (atL zs R k) ∧ Upd (fun k => k = w2.heap.size) w3 wr) (fun _ _ t _ => n - (popI (intOf t)).toNat)
      case atStart => exact ⟨0, by omega, rfl, rfl, ⟨fun k hk => .inl (O3.1 k hk), O3.2⟩, Upd.refl _ _⟩
      case round =>
        obtain ⟨k, hk, rfl, rfl, hO, hU⟩ := hrel
        rename World => w4
        have z4 := hU.size
        obtain ⟨A4, c4, hv4, hI4, -⟩ := ints_of_own_at hO.2
        have Hal := Lib.hid (atL_len zs R k)
        rw [Hal.out] at hv4
        subst hv4
        by_cases hlt : k < n
        · obtain ⟨hD, hP, hPr⟩ := Hst.out k (by rw [hlen.out]; exact hlt)
          have hpp := Hok.out k (by rw [hlen.out]; exact hk)
          have hpop := hpp.2.1
          have hpop2 := (Hok.out (k + 1) (by rw [hlen.out]; exact hlt)).2.1
          have hpk := pk_ok hPr
          have hpn := pk_next hPr
          have hpc := pk_cnt hPr
          have Hs1 := Lib.hid (show stA zs R (k + 1) = ((stA zs R k).1 + 2 ^ pk zs (stA zs R k).1 (stA zs R k).2, (stA zs R k).2 - rkIn zs (stA zs R k).1 (pk zs (stA zs R k).1 (stA zs R k).2)) from rfl)
          have Hl1 := Lib.hid (show atL zs R (k + 1) = atL zs R k ++ [(pk zs (stA zs R k).1 (stA zs R k).2 : Int)] from rfl)
          have Hmono := Lib.hid (fun a b (e : a ≤ b) => rkIn_mono' (zs := zs) (D := (stA zs R k).1) e)
          have Hp1 := Lib.hid hpop
          have Hp2 := Lib.hid hpop2
          clear hpp hpop hpop2 hPr
          rw [hlen.out] at hD hpk hpc
          have d4 : Arr w4 q 3 (du zs) := hA3.upd hU (fun e => by omega)
          have hD64 : (stA zs R k).1 < 64 := by omega
          generalize hxx : pk zs (stA zs R k).1 (stA zs R k).2 = x at *
          generalize hdd : (stA zs R k).1 = D at *
          generalize hrr : (stA zs R k).2 = P at *
          have Hxx := Lib.hid hxx
          have Hdd := Lib.hid hdd
          have Hrr := Lib.hid hrr
          clear hxx hdd hrr
          obtain ⟨hx1, hx2, hx3⟩ := hpk
          go_wp2_with fail
          go_loopw [1, 6, 7, 9] (fun rk v t i wr => ∃ a : Nat, a ≤ x ∧ i = .int .i64 a ∧ rk = .int .i64 ((P - rkIn zs D a : Nat) : Int) ∧ v = .slice A4 k c4 ∧ t = .int .i64 (D : Int) ∧ Upd (fun _ => False) w4 wr) (fun _ _ _ i _ => x - (intOf i).toNat)
          case atStart => exact ⟨0, by omega, rfl, by simp [rkIn], rfl, rfl, Upd.refl _ _⟩
          case round =>
            obtain ⟨a, ha, rfl, rfl, rfl, rfl, hUa⟩ := hrel
            rename World => w5
            have z5 := hUa.size
            have hle := Hmono.out a x ha
            have han : a < n := by omega
            have hcd := (d4.upd hUa (fun e => e)).cell (k := a) (by rw [Hdl.out]; exact han)
            have hz := hds.bd a (by rw [Hdl.out]; exact han)
            have hless : bits .andNot .i64 ((du zs)[a]?.getD 0) (D : Int) = lessI ((du zs)[a]?.getD 0) (D : Int) := bits_less (by omega) (by omega) (by omega) (by omega)
            have Hsu := Lib.hid (rkIn_succ zs D a)
            have hU5 : Upd (fun k => k = w2.heap.size) w3 w5 := hU.trans' hUa (fun i hi e => e.elim)
            have i5 := i3.to (hU5.toBelow (B := w2.heap.size) (fun _ e => by omega) (by omega)) (Nat.le_refl _) (C := w5.heap.size) (by omega)
            cases hbd : D.testBit a
            · have hbi : (bitI (D : Int) a == 1) = false := by unfold bitI; rw [bit_cast, hbd]; rfl
              cases hl : (lessI ((du zs)[a]?.getD 0) (D : Int) != 0)
              · have hne : nextE zs D a = true := by unfold nextE; rw [hbd]; simpa [bne] using hl
                have hadd := add_lt hn6 hD han hbd
                have Hor := Lib.hid ((bits_or (a := (D : Int)) (b := powI a) (by omega) (by omega) (Int.le_of_lt (powI_pos _)) (by have := powI_le6 (n := (a : Int)) (by omega); omega)).trans (or_is hD64 (show a < 6 by omega) hbd))
                have hcb := cF_le hvo (s := 2 ^ n - 1 - (D + 2 ^ a)) (by rw [hlen.out]; exact Nat.lt_of_le_of_lt (Nat.sub_le _ _) (by have := Nat.two_pow_pos n; omega))
                by_cases hax : a = x
                · subst hax
                  obtain ⟨cc, hcc⟩ : ∃ cc, cF zs (2 ^ n - 1 - (D + 2 ^ a)) = cc := ⟨_, rfl⟩
                  have hO5 := hO.keep hUa (fun _ _ e => e)
                  have Hln := Lib.hid (show (atL zs R k).length = k from Hal.out)
                  have hra : rkIn zs D a ≤ P := hx2
                  rw [hcc] at hpc hcb
                  clear hne hpn hx3
                  generalize rkIn zs D a = ra at *
                  go_wp2_with (first
                    | (go_at_call 63; refine (bit_any _ _ _ (by omega) (by omega) (by omega) (by omega)).mono ?_; rintro e w' ⟨rfl, rfl⟩)
                    | (go_at_call 96; refine (power_any _ _ (by omega) (by omega)).mono ?_; rintro e w' ⟨rfl, rfl⟩))
                  rw [Hor.out]
                  refine (srest_any _ n _ zs hvo (D + 2 ^ a) w5 i5 hadd).mono ?_
                  rw [hcc]
                  rintro e w6 ⟨rfl, hB6⟩
                  have z6 := hB6.size
                  have hO6 := hO5.keep' (Below.toUpd hB6) (fun i hi h2 e => by omega)
                  have hU6 : Upd (fun _ => False) w4 w6 := hUa.below hB6 (fun i h1 h2 => by omega)
                  have Hx4 := Lib.hid Hl1.out
                  go_wp2_with (first
                    | (go_at_call 96; refine (power_any _ _ (by omega) (by omega)).mono ?_; rintro e w' ⟨rfl, rfl⟩)
                    | (at_builtin; refine wpList_append1 _ rfl (.tmp 58) (.tmp 60) _ rfl w2.heap.size 3 i0 _ 8 Try.underlying22 hi0 hz0 hz1 hz2 rfl _ (atL zs R k).length _ rfl (hO6.2.alloc _) w6.heap.size 1 (.int .i64 a) rfl (cell_new _ _ _) rfl (by rw [Hln.out]; omega) (by rw [Hln.out]; omega) (by simp; omega) ?_; rintro v' w' hown' hg' hv'))
                  rw [Hor.out]
                  have zg := hg'.size
                  simp at zg
                  go_roundw
                  case rel => exact ⟨k + 1, by omega, by rw [Hs1.out], by rw [Hs1.out], by rw [Hl1.out]; exact hO6.step hown' hv' (fun k e => e) (fun _ => .inr (by omega)), ((hU.trans' hU6 (fun i hi e => e.elim)).alloc _).grown hg' (fun k hk => by rcases hO.1 k hk with e | e <;> omega)⟩
                  case measure => (have hp2 := Hp2.out; rw [Hs1.out] at hp2; have hp1 := Hp1.out; simp only [intOf] at hp1 hp2 ⊢; rw [hp1, hp2]; omega)
                · have Hsu2 := Lib.hid (show rkIn zs D (a + 1) = rkIn zs D a + cF zs (2 ^ n - 1 - (D + 2 ^ a)) by rw [Hsu.out, hne, hlen.out, if_pos rfl])
                  have hle2 := Hmono.out (a + 1) x (by omega)
                  rw [Hsu2.out] at hle2
                  obtain ⟨cc, hcc⟩ : ∃ cc, cF zs (2 ^ n - 1 - (D + 2 ^ a)) = cc := ⟨_, rfl⟩
                  have Hcc := Lib.hid hcc
                  rw [hcc] at hle2 hcb
                  clear hcc hne
                  generalize hra : rkIn zs D a = ra at *
                  have Hra := Lib.hid hra
                  clear hra
                  go_wp2_with (first
                    | (go_at_call 63; refine (bit_any _ _ _ (by omega) (by omega) (by omega) (by omega)).mono ?_; rintro e w' ⟨rfl, rfl⟩)
                    | (go_at_call 96; refine (power_any _ _ (by omega) (by omega)).mono ?_; rintro e w' ⟨rfl, rfl⟩))
                  rw [Hor.out]
                  refine (srest_any _ n _ zs hvo (D + 2 ^ a) w5 i5 hadd).mono ?_
                  rw [Hcc.out]
                  rintro e w6 ⟨rfl, hB6⟩
                  go_wp2_with fail
                  go_roundw
                  case rel => exact ⟨a + 1, by omega, by go_num, congrArg (Value.int .i64) (by rw [Hsu2.out, Hcc.out]; omega), rfl, rfl, hUa.below hB6 (fun i h1 h2 => by omega)⟩
                  case measure => simp [intOf]; omega
              · have hne : nextE zs D a = false := by unfold nextE; rw [hbd]; simpa [bne] using hl
                have hax : a ≠ x := fun e => by rw [e] at hne; rw [hne] at hpn; cases hpn
                have Hn := Lib.hid (show rkIn zs D (a + 1) = rkIn zs D a by rw [Hsu.out, hne]; simp)
                clear hne
                go_wp2_with (go_at_call 63; refine (bit_any _ _ _ (by omega) (by omega) (by omega) (by omega)).mono ?_; rintro e w' ⟨rfl, rfl⟩)
                go_roundw
                case rel => exact ⟨a + 1, by omega, by go_num, by rw [Hn.out], rfl, rfl, hUa⟩
                case measure => simp [intOf]; omega
            · have hbi : (bitI (D : Int) a == 1) = true := by unfold bitI; rw [bit_cast, hbd]; rfl
              have hne : nextE zs D a = false := by unfold nextE; rw [hbd]; rfl
              have hax : a ≠ x := fun e => by rw [e] at hne; rw [hne] at hpn; cases hpn
              have Hn := Lib.hid (show rkIn zs D (a + 1) = rkIn zs D a by rw [Hsu.out, hne]; simp)
              clear hne
              go_wp2_with (go_at_call 63; refine (bit_any _ _ _ (by omega) (by omega) (by omega) (by omega)).mono ?_; rintro e w' ⟨rfl, rfl⟩)
              go_roundw
              case rel => exact ⟨a + 1, by omega, by go_num, by rw [Hn.out], rfl, rfl, hUa⟩
              case measure => simp [intOf]; omega
        · obtain rfl : k = n := by omega
          obtain ⟨A', c', he, hRC⟩ := rowV_of_own hO.2
          rw [Hal.out] at he hRC
          have zz := B2.size
          go_wp2_with fail
          go_ret2
          exact ⟨A4, k, c4, by rw [Hh.out]; rfl, by rw [Ht.out]; exact hRC.more zz (Nat.le_refl _), B2.trans ((hU3.trans' hU (fun i hi e => by omega)).toBelow (fun _ e => e.elim) zz)⟩
end Go.Proofs.Ytghogabmkbadjab

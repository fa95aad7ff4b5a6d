/- GreedyLine: the model's. -/
import Derived.Test.YtipdmaggfbfnlaaDoorGrM
import Derived.Test.YtipdmaggfbfnlaaDoorGa
import Derived.Test.YtipdmaggfbfnlaaDoorRowV
import Derived.Test.YtipdmaggfbfnlaaDoorCloI
set_option linter.unusedVariables false
set_option linter.unusedSimpArgs false
namespace Go.Proofs.YtipdmaggfbfnlaaDoor
open Go.RowKit Go.Shelf
attribute [local go_sem] Oper.semAt_some

theorem no_snoc {f : Nat → Bool} {a : Nat} (h : ∀ b : Nat, b < a → f b = false) (ha : f a = false) : ∀ b : Nat, b < a + 1 → f b = false := fun b hb => by
  rcases Nat.lt_succ_iff_lt_or_eq.1 hb with h1 | h1
  · exact h b h1
  · rw [h1]; exact ha
/-- What the model asks of an item in a turn. -/
def grP (zs : List Int) (s A : Int) (turn a : Nat) : Bool := stA2 zs s (a : Int) && (decide (turn = 1) || bitB A (a : Int))
theorem grP_zero (zs : List Int) (s A : Int) (a : Nat) : grP zs s A 0 a = (stA2 zs s (a : Int) && bitB A (a : Int)) := by simp [grP]
theorem grP_one (zs : List Int) (s A : Int) (a : Nat) : grP zs s A 1 a = stA2 zs s (a : Int) := by simp [grP]
theorem grP_pick {zs : List Int} {s A : Int} {turn x : Nat} (ht : turn = 0 ∨ turn = 1) (h0 : turn = 1 → ∀ b : Nat, b < zs.length → grP zs s A 0 b = false) (hx : x < zs.length) (h1 : grP zs s A turn x = true) (h : ∀ b : Nat, b < x → grP zs s A turn b = false) : grPick zs s A = x := by
  rcases ht with rfl | rfl
  · rw [grP_zero, Bool.and_eq_true] at h1
    exact pick_first hx h1.1 h1.2 (fun b hb => by rw [← grP_zero]; exact h b hb)
  · rw [grP_one] at h1
    exact pick_second hx (fun b hb => by rw [← grP_zero]; exact h0 rfl b hb) h1 (fun b hb => by rw [← grP_one zs s A]; exact h b hb)
theorem grP_some {zs : List Int} {s A : Int} (hne : nxA zs s ≠ []) (h : ∀ b : Nat, b < zs.length → grP zs s A 1 b = false) : False := by
  cases e : nxA zs s with
  | nil => exact hne e
  | cons x l =>
    have hm := nxA_mem (zs := zs) (s := s) (a := x) (by rw [e]; exact List.mem_cons_self)
    have := h x hm.1
    rw [grP_one, hm.2] at this
    cases this
theorem stA2_split {zs : List Int} {s : Int} {a : Nat} (ha : a < zs.length) : stA2 zs s (a : Int) = (!bitB s (a : Int) && (lessI ((du zs)[a]?.getD 0) s == 0)) := by
  unfold stA2
  have hin : inB (a : Int) 0 ((zs.length : Int) - 1) = true := by simp [inB]; omega
  rw [hin, Bool.true_and, Int.toNat_natCast]

set_option maxRecDepth 100000 in
set_option maxHeartbeats 8000000 in
theorem specGreedyLineF_any (A : Option Addr) (n c : Nat) (zs : List Int) (w : World) (h : Ints w w.heap.size A n zs) (hbig : n ≤ 1152921504606846976) :
    Calls Tryd.prog 4 #[.slice A n c] w (GivesRowV w (greedyR zs)) := by
  have hlen := Lib.hid h.len
  cases hv : vo zs
  · have Ht := Lib.hid (show greedyR zs = [] by unfold greedyR; rw [hv]; rfl)
    go_enter Tryd.func4, Tryd.ntmps4
    go_wp2_with fail
    refine (validOrder_any _ _ _ _ zs _ h hbig).mono ?_
    rw [hv]
    rintro e w' ⟨rfl, m, rfl⟩
    go_wp2_with fail
    go_ret
    exact ⟨none, 0, 0, rfl, by rw [Ht.out]; exact RowV.nil _ _ _ _, below_drewN (Below.refl _ _) m⟩
  · have hvo : VoP zs := by simpa [vo] using hv
    have Ht := Lib.hid (show greedyR zs = (grS zs n).1 by unfold greedyR; rw [hv, hlen.out]; rfl)
    have Hv := Lib.hid hv
    clear hv
    have hn6 : n ≤ 6 := by have := hvo.1; rw [hlen.out] at this; exact this
    have hpn : powI n ≤ 64 := powI_le6 (by omega)
    have Hdu := Lib.hid (show downP n (pairsL zs) = du zs by unfold du; rw [hlen.out])
    have hds := du_sets hvo.sets
    have Hdl := Lib.hid (show (du zs).length = n by rw [du_len, hlen.out])
    obtain ⟨i0, hi0, hz0, hz1, hz2⟩ := info_parts infoInt
    go_enter Tryd.func4, Tryd.ntmps4
    go_wp2_with fail
    refine (validOrder_any _ _ _ _ zs _ h hbig).mono ?_
    rw [Hv.out]
    rintro e w' ⟨rfl, m, rfl⟩
    have i1 : Ints (w.drewN m) (w.drewN m).heap.size A n zs := h.drewN m
    have B1 : Below w.heap.size w (w.drewN m) := below_drewN (Below.refl _ _) m
    generalize w.drewN m = w1 at *
    have z1 := B1.size
    go_wp2_with fail
    have h1 := own_new w1 3
    have hU1 : Upd (fun _ => False) w1 (w1.alloc (.cells #[] 3)) := (Upd.refl _ w1).alloc _
    have hz1' : (w1.alloc (.cells #[] 3)).heap.size = w1.heap.size + 1 := by simp
    obtain ⟨W1, hW1⟩ : ∃ W1, w1.alloc (.cells #[] 3) = W1 := ⟨_, rfl⟩
    rw [hW1] at h1 hU1 hz1' ⊢
    clear hW1
    obtain ⟨hza, hzb⟩ : w1.heap.size < W1.heap.size ∧ W1.heap.size ≤ w1.heap.size + 1 := by omega
    clear hz1'
    have hB1 : Below w1.heap.size w1 W1 := hU1.toBelow (fun _ e => e.elim) (Nat.le_refl _)
    refine (downOf_any A n c zs W1 (i1.to hB1 (Nat.le_refl _) (by omega)) hvo.sets).mono ?_
    rintro e w3 ⟨rfl, hA3, hB3⟩
    rw [Hdu.out] at hA3
    have z3 := hB3.size
    have l3 := hA3.lt
    have O3 : OwnS (fun k => k = w1.heap.size) w3 w1.heap.size 3 (.slice (some ⟨w1.heap.size, 0, none⟩) 0 0) [] := OwnS.keep (S := fun k => k = w1.heap.size) ⟨fun k hk => by simp [Value.ownBlock] at hk; exact hk.symm, h1⟩ (Below.toUpd hB3) (fun k hk e => by omega)
    have hU3 : Upd (fun _ => False) w1 w3 := hU1.below hB3 (fun k h1 h2 => by omega)
    have i3 := i1.to (hU3.toBelow (B := w1.heap.size) (fun _ e => e.elim) (Nat.le_refl _)) (Nat.le_refl _) (Nat.le_refl _)
    obtain ⟨q, hq⟩ : ∃ q, W1.heap.size = q := ⟨_, rfl⟩
    rw [hq] at hA3 hza hzb z3 l3 ⊢
    clear hq h1 hU1 hB1 hB3
    have Hok := Lib.hid (gr_ok hvo)
    have Hab := Lib.hid (gr_above hvo)
    go_wp2_with fail
    go_loopw [3, 4] (fun v dn wr => ∃ (k g cc : Nat), k ≤ n ∧ v = .slice (some ⟨g, 0, none⟩) k cc ∧ dn = .int .i64 (grS zs k).2.1 ∧ OwnS (fun i => i = w1.heap.size ∨ w3.heap.size ≤ i) wr w1.heap.size 3 v (grS zs k).1 ∧ Upd (fun i => i = w1.heap.size) w3 wr) (fun _ dn _ => n - (popI (intOf dn)).toNat)
    case atStart => exact ⟨0, _, _, by omega, rfl, rfl, ⟨fun k hk => .inl (O3.1 k hk), O3.2⟩, Upd.refl _ _⟩
    case round =>
      obtain ⟨k, g, cc, hk, rfl, rfl, hO, hU⟩ := hrel
      rename World => w4
      have z4 := hU.size
      have Hgl := Lib.hid (grS_len zs k)
      have hO2 := hO.2
      rw [Hgl.out] at hO2
      have hcells := (own_cells hO2).2
      have hgl4 := own_lt' hO2 g rfl
      by_cases hlt : k < n
      · have hL := Hok.out k (by rw [hlen.out]; exact hk)
        rw [hlen.out, show n - k = (n - (k + 1)) + 1 by omega] at hL
        have hne := nxA_some hvo hlen.out hL
        have hm := nxA_mem (gr_pick hvo (k := k) (by rw [hlen.out]; exact hlt))
        have hps := hL.pop
        have hpo : popI (grS zs k).2.1 = k ∧ popI (grS zs (k + 1)).2.1 = ((k + 1 : Nat) : Int) := ⟨gr_pop hvo k (by rw [hlen.out]; exact hk), gr_pop hvo (k + 1) (by rw [hlen.out]; exact hlt)⟩
        have hs0 := hL.s0
        have hs1 := hL.s1
        have hab := Hab.out k (by rw [hlen.out]; exact hk)
        have Hs1 := Lib.hid (show (grS zs (k + 1)).1 = (grS zs k).1 ++ [(grPick zs (grS zs k).2.1 (grS zs k).2.2.2 : Int)] from rfl)
        have Hs2 := Lib.hid (show (grS zs (k + 1)).2.1 = orI (grS zs k).2.1 (powI (grPick zs (grS zs k).2.1 (grS zs k).2.2.2)) from rfl)
        have Hpo := Lib.hid hpo
        have hlast : (k = 0 ∧ (grS zs k).2.2.2 = 0) ∨ ∃ (p y : Nat), k = p + 1 ∧ (grS zs k).1[p]?.getD 0 = (y : Int) ∧ y < n ∧ zs[y]?.getD 0 = (grS zs k).2.2.2 := by
          cases k with
          | zero => exact .inl ⟨rfl, rfl⟩
          | succ p =>
            refine .inr ⟨p, grPick zs (grS zs p).2.1 (grS zs p).2.2.2, rfl, ?_, by have := (nxA_mem (gr_pick hvo (k := p) (by rw [hlen.out]; omega))).1; rw [hlen.out] at this; exact this, rfl⟩
            have hl := grS_len zs p
            show ((grS zs p).1 ++ [_])[p]?.getD 0 = _
            rw [List.getElem?_append_right (by omega), hl, Nat.sub_self]
            rfl
        rw [hlen.out] at hm
        have Hne := Lib.hid hne
        have Hpk := Lib.hid (fun (t x : Nat) (h1 : t = 0 ∨ t = 1) (h2 : t = 1 → ∀ b : Nat, b < n → grP zs (grS zs k).2.1 (grS zs k).2.2.2 0 b = false) (h3 : x < n) (h4 : grP zs (grS zs k).2.1 (grS zs k).2.2.2 t x = true) (h5 : ∀ b : Nat, b < x → grP zs (grS zs k).2.1 (grS zs k).2.2.2 t b = false) => grP_pick h1 (fun e b hb => h2 e b (by rw [hlen.out] at hb; exact hb)) (by rw [hlen.out]; exact h3) h4 h5)
        have Hsm := Lib.hid (fun h5 : ∀ b : Nat, b < n → grP zs (grS zs k).2.1 (grS zs k).2.2.2 1 b = false => grP_some hne (fun b hb => h5 b (by rw [hlen.out] at hb; exact hb)))
        clear hL hne hps hpo
        generalize hX : grPick zs (grS zs k).2.1 (grS zs k).2.2.2 = X at *
        generalize hdn : (grS zs k).2.1 = s at *
        generalize hav : (grS zs k).2.2.2 = ab at *
        have Hdn := Lib.hid hdn
        clear hX hdn hav
        have d4 : Arr w4 q 3 (du zs) := hA3.upd hU (fun e => by omega)
        have i4 := i3.to (hU.toBelow (B := w1.heap.size) (fun _ e => by omega) (by omega)) (Nat.le_refl _) (C := w4.heap.size) (by omega)
        have HI4 := Lib.hid hcells
        have hXn : X < n := hm.1
        clear hcells hm
        go_wp2
        go_loop [6, 7] (fun nx tn => ∃ t : Nat, tn = .int .i64 t ∧ t ≤ 2 ∧ ((nx = .int .i64 (-1) ∧ t < 2 ∧ (t = 1 → ∀ b : Nat, b < n → grP zs s ab 0 b = false)) ∨ (nx = .int .i64 (X : Int) ∧ 1 ≤ t))) (fun _ tn => 2 - (intOf tn).toNat)
        case atStart => exact ⟨0, rfl, by omega, .inl ⟨rfl, by omega, fun e => by omega⟩⟩
        case round =>
          obtain ⟨t, rfl, ht2, (⟨rfl, ht, hT⟩ | ⟨rfl, ht⟩)⟩ := hrel
          · have HT := Lib.hid hT
            clear hT
            go_wp2
            go_loop [6, 8] (fun nx i => ∃ a : Nat, i = .int .i64 a ∧ a ≤ n ∧ ((nx = .int .i64 (-1) ∧ ∀ b : Nat, b < a → grP zs s ab t b = false) ∨ nx = .int .i64 (X : Int))) (fun _ i => n - (intOf i).toNat)
            case atStart => exact ⟨0, rfl, by omega, .inl ⟨rfl, fun b hb => by omega⟩⟩
            case round =>
              obtain ⟨a, rfl, ha, (⟨rfl, hno⟩ | rfl)⟩ := hrel
              · have Hno := Lib.hid hno
                clear hno
                by_cases hla : a < n
                · have hcd := d4.cell (k := a) (by rw [Hdl.out]; exact hla)
                  have hz := hds.bd a (by rw [Hdl.out]; exact hla)
                  have Hsp := Lib.hid (stA2_split (zs := zs) (s := s) (a := a) (by rw [hlen.out]; exact hla))
                  have hbl := bits_less (a := (du zs)[a]?.getD 0) (b := s) (by omega) (by omega) hs0 (by omega)
                  have Hgp := Lib.hid (show grP zs s ab t a = (stA2 zs s (a : Int) && (decide (t = 1) || bitB ab (a : Int))) from rfl)
                  have HitX := Lib.hid (fun e : grP zs s ab t a = true => Hpk.out t a (by omega) HT.out hla e Hno.out)
                  generalize (du zs)[a]?.getD 0 = d at *
                  rcases hlast with ⟨hk0, hab0⟩ | ⟨p, y, hkp, hly, hyn, hzy⟩
                  · have hgt : decide ((0 : Int) < (k : Int)) = false := decide_eq_false (by omega)
                    have hgt2 : decide (0 < k) = false := decide_eq_false (by omega)
                    have e3 : bitB ab (a : Int) = false := by rw [hab0, bitB_zero]
                    clear hab0 hk0
                    cases e1 : bitB s (a : Int)
                    · by_cases e2 : lessI d s = 0
                      · rcases (show t = 0 ∨ t = 1 by omega) with et | et
                        · have hb1 : (bitI s (a : Int) == 0) = true := by rw [bitI_false e1]; rfl
                          have hl2 : (bits .andNot .i64 d s == 0) = true := by rw [hbl]; rw [e2]; rfl
                          have ht1 : ((t : Int) == 1) = false := by rw [et]; rfl
                          have hgp : grP zs s ab t a = false := by rw [Hgp.out, Hsp.out, e1, e3, et]; rw [e2]; rfl
                          have HN := Lib.hid (no_snoc (f := grP zs s ab t) Hno.out hgp)
                          clear e1 e2 e3 hgp hbl et
                          go_wp2_with (go_at_call 12; refine (bit_any _ _ _ (by omega) (by omega) (by omega) (by omega)).mono ?_; rintro e w' ⟨rfl, rfl⟩)
                          go_round
                          case rel => exact ⟨a + 1, by go_num, by omega, .inl ⟨rfl, HN.out⟩⟩
                          case measure => simp [intOf]; omega
                        · have hb1 : (bitI s (a : Int) == 0) = true := by rw [bitI_false e1]; rfl
                          have hl2 : (bits .andNot .i64 d s == 0) = true := by rw [hbl]; rw [e2]; rfl
                          have ht1 : ((t : Int) == 1) = true := by rw [et]; rfl
                          have hgp : grP zs s ab t a = true := by rw [Hgp.out, Hsp.out, e1, e3, et]; rw [e2]; rfl
                          have HX := Lib.hid (show X = a from HitX.out hgp)
                          clear e1 e2 e3 hgp hbl et
                          go_wp2_with (go_at_call 12; refine (bit_any _ _ _ (by omega) (by omega) (by omega) (by omega)).mono ?_; rintro e w' ⟨rfl, rfl⟩)
                          go_round
                          case rel => exact ⟨a + 1, by go_num, by omega, .inr (congrArg (fun z : Nat => Value.int .i64 (z : Int)) HX.out.symm)⟩
                          case measure => simp [intOf]; omega
                      · rcases (show t = 0 ∨ t = 1 by omega) with et | et
                        · have hb1 : (bitI s (a : Int) == 0) = true := by rw [bitI_false e1]; rfl
                          have hl2 : (bits .andNot .i64 d s == 0) = false := by rw [hbl]; simpa using e2
                          have ht1 : ((t : Int) == 1) = false := by rw [et]; rfl
                          have hgp : grP zs s ab t a = false := by rw [Hgp.out, Hsp.out, e1, e3, et]; simp [e2]
                          have HN := Lib.hid (no_snoc (f := grP zs s ab t) Hno.out hgp)
                          clear e1 e2 e3 hgp hbl et
                          go_wp2_with (go_at_call 12; refine (bit_any _ _ _ (by omega) (by omega) (by omega) (by omega)).mono ?_; rintro e w' ⟨rfl, rfl⟩)
                          go_round
                          case rel => exact ⟨a + 1, by go_num, by omega, .inl ⟨rfl, HN.out⟩⟩
                          case measure => simp [intOf]; omega
                        · have hb1 : (bitI s (a : Int) == 0) = true := by rw [bitI_false e1]; rfl
                          have hl2 : (bits .andNot .i64 d s == 0) = false := by rw [hbl]; simpa using e2
                          have ht1 : ((t : Int) == 1) = true := by rw [et]; rfl
                          have hgp : grP zs s ab t a = false := by rw [Hgp.out, Hsp.out, e1, e3, et]; simp [e2]
                          have HN := Lib.hid (no_snoc (f := grP zs s ab t) Hno.out hgp)
                          clear e1 e2 e3 hgp hbl et
                          go_wp2_with (go_at_call 12; refine (bit_any _ _ _ (by omega) (by omega) (by omega) (by omega)).mono ?_; rintro e w' ⟨rfl, rfl⟩)
                          go_round
                          case rel => exact ⟨a + 1, by go_num, by omega, .inl ⟨rfl, HN.out⟩⟩
                          case measure => simp [intOf]; omega
                    · by_cases e2 : lessI d s = 0
                      · rcases (show t = 0 ∨ t = 1 by omega) with et | et
                        · have hb1 : (bitI s (a : Int) == 0) = false := by rw [bitI_true e1]; rfl
                          have hl2 : (bits .andNot .i64 d s == 0) = true := by rw [hbl]; rw [e2]; rfl
                          have ht1 : ((t : Int) == 1) = false := by rw [et]; rfl
                          have hgp : grP zs s ab t a = false := by rw [Hgp.out, Hsp.out, e1, e3, et]; rfl
                          have HN := Lib.hid (no_snoc (f := grP zs s ab t) Hno.out hgp)
                          clear e1 e2 e3 hgp hbl et
                          go_wp2_with (go_at_call 12; refine (bit_any _ _ _ (by omega) (by omega) (by omega) (by omega)).mono ?_; rintro e w' ⟨rfl, rfl⟩)
                          go_round
                          case rel => exact ⟨a + 1, by go_num, by omega, .inl ⟨rfl, HN.out⟩⟩
                          case measure => simp [intOf]; omega
                        · have hb1 : (bitI s (a : Int) == 0) = false := by rw [bitI_true e1]; rfl
                          have hl2 : (bits .andNot .i64 d s == 0) = true := by rw [hbl]; rw [e2]; rfl
                          have ht1 : ((t : Int) == 1) = true := by rw [et]; rfl
                          have hgp : grP zs s ab t a = false := by rw [Hgp.out, Hsp.out, e1, e3, et]; rfl
                          have HN := Lib.hid (no_snoc (f := grP zs s ab t) Hno.out hgp)
                          clear e1 e2 e3 hgp hbl et
                          go_wp2_with (go_at_call 12; refine (bit_any _ _ _ (by omega) (by omega) (by omega) (by omega)).mono ?_; rintro e w' ⟨rfl, rfl⟩)
                          go_round
                          case rel => exact ⟨a + 1, by go_num, by omega, .inl ⟨rfl, HN.out⟩⟩
                          case measure => simp [intOf]; omega
                      · rcases (show t = 0 ∨ t = 1 by omega) with et | et
                        · have hb1 : (bitI s (a : Int) == 0) = false := by rw [bitI_true e1]; rfl
                          have hl2 : (bits .andNot .i64 d s == 0) = false := by rw [hbl]; simpa using e2
                          have ht1 : ((t : Int) == 1) = false := by rw [et]; rfl
                          have hgp : grP zs s ab t a = false := by rw [Hgp.out, Hsp.out, e1, e3, et]; rfl
                          have HN := Lib.hid (no_snoc (f := grP zs s ab t) Hno.out hgp)
                          clear e1 e2 e3 hgp hbl et
                          go_wp2_with (go_at_call 12; refine (bit_any _ _ _ (by omega) (by omega) (by omega) (by omega)).mono ?_; rintro e w' ⟨rfl, rfl⟩)
                          go_round
                          case rel => exact ⟨a + 1, by go_num, by omega, .inl ⟨rfl, HN.out⟩⟩
                          case measure => simp [intOf]; omega
                        · have hb1 : (bitI s (a : Int) == 0) = false := by rw [bitI_true e1]; rfl
                          have hl2 : (bits .andNot .i64 d s == 0) = false := by rw [hbl]; simpa using e2
                          have ht1 : ((t : Int) == 1) = true := by rw [et]; rfl
                          have hgp : grP zs s ab t a = false := by rw [Hgp.out, Hsp.out, e1, e3, et]; rfl
                          have HN := Lib.hid (no_snoc (f := grP zs s ab t) Hno.out hgp)
                          clear e1 e2 e3 hgp hbl et
                          go_wp2_with (go_at_call 12; refine (bit_any _ _ _ (by omega) (by omega) (by omega) (by omega)).mono ?_; rintro e w' ⟨rfl, rfl⟩)
                          go_round
                          case rel => exact ⟨a + 1, by go_num, by omega, .inl ⟨rfl, HN.out⟩⟩
                          case measure => simp [intOf]; omega
                  · have hgt : decide ((0 : Int) < (k : Int)) = true := decide_eq_true (by omega)
                    have hgt2 : decide (0 < k) = true := decide_eq_true (by omega)
                    have hwp : IntKind.i64.wrap ((k : Int) - 1) = (p : Int) := by rw [IntKind.wrap_i64]; omega
                    have hcp := HI4.out p (by omega)
                    rw [hly] at hcp
                    obtain ⟨b5, o5, rfl, -, hc5⟩ := i4.at_ hyn
                    have hcy := hc5 y hyn
                    rw [hzy] at hcy
                    have hpk : p < k := by omega
                    clear hc5 hly hzy hkp
                    cases e3 : bitB ab (a : Int)
                    · have hb3 : (bitI ab (a : Int) == 1) = false := by rw [bitI_false e3]; rfl
                      cases e1 : bitB s (a : Int)
                      · by_cases e2 : lessI d s = 0
                        · rcases (show t = 0 ∨ t = 1 by omega) with et | et
                          · have hb1 : (bitI s (a : Int) == 0) = true := by rw [bitI_false e1]; rfl
                            have hl2 : (bits .andNot .i64 d s == 0) = true := by rw [hbl]; rw [e2]; rfl
                            have ht1 : ((t : Int) == 1) = false := by rw [et]; rfl
                            have hgp : grP zs s ab t a = false := by rw [Hgp.out, Hsp.out, e1, e3, et]; rw [e2]; rfl
                            have HN := Lib.hid (no_snoc (f := grP zs s ab t) Hno.out hgp)
                            clear e1 e2 e3 hgp hbl et
                            go_wp2_with (go_at_call 12; refine (bit_any _ _ _ (by omega) (by omega) (by omega) (by omega)).mono ?_; rintro e w' ⟨rfl, rfl⟩)
                            go_round
                            case rel => exact ⟨a + 1, by go_num, by omega, .inl ⟨rfl, HN.out⟩⟩
                            case measure => simp [intOf]; omega
                          · have hb1 : (bitI s (a : Int) == 0) = true := by rw [bitI_false e1]; rfl
                            have hl2 : (bits .andNot .i64 d s == 0) = true := by rw [hbl]; rw [e2]; rfl
                            have ht1 : ((t : Int) == 1) = true := by rw [et]; rfl
                            have hgp : grP zs s ab t a = true := by rw [Hgp.out, Hsp.out, e1, e3, et]; rw [e2]; rfl
                            have HX := Lib.hid (show X = a from HitX.out hgp)
                            clear e1 e2 e3 hgp hbl et
                            go_wp2_with (go_at_call 12; refine (bit_any _ _ _ (by omega) (by omega) (by omega) (by omega)).mono ?_; rintro e w' ⟨rfl, rfl⟩)
                            go_round
                            case rel => exact ⟨a + 1, by go_num, by omega, .inr (congrArg (fun z : Nat => Value.int .i64 (z : Int)) HX.out.symm)⟩
                            case measure => simp [intOf]; omega
                        · rcases (show t = 0 ∨ t = 1 by omega) with et | et
                          · have hb1 : (bitI s (a : Int) == 0) = true := by rw [bitI_false e1]; rfl
                            have hl2 : (bits .andNot .i64 d s == 0) = false := by rw [hbl]; simpa using e2
                            have ht1 : ((t : Int) == 1) = false := by rw [et]; rfl
                            have hgp : grP zs s ab t a = false := by rw [Hgp.out, Hsp.out, e1, e3, et]; simp [e2]
                            have HN := Lib.hid (no_snoc (f := grP zs s ab t) Hno.out hgp)
                            clear e1 e2 e3 hgp hbl et
                            go_wp2_with (go_at_call 12; refine (bit_any _ _ _ (by omega) (by omega) (by omega) (by omega)).mono ?_; rintro e w' ⟨rfl, rfl⟩)
                            go_round
                            case rel => exact ⟨a + 1, by go_num, by omega, .inl ⟨rfl, HN.out⟩⟩
                            case measure => simp [intOf]; omega
                          · have hb1 : (bitI s (a : Int) == 0) = true := by rw [bitI_false e1]; rfl
                            have hl2 : (bits .andNot .i64 d s == 0) = false := by rw [hbl]; simpa using e2
                            have ht1 : ((t : Int) == 1) = true := by rw [et]; rfl
                            have hgp : grP zs s ab t a = false := by rw [Hgp.out, Hsp.out, e1, e3, et]; simp [e2]
                            have HN := Lib.hid (no_snoc (f := grP zs s ab t) Hno.out hgp)
                            clear e1 e2 e3 hgp hbl et
                            go_wp2_with (go_at_call 12; refine (bit_any _ _ _ (by omega) (by omega) (by omega) (by omega)).mono ?_; rintro e w' ⟨rfl, rfl⟩)
                            go_round
                            case rel => exact ⟨a + 1, by go_num, by omega, .inl ⟨rfl, HN.out⟩⟩
                            case measure => simp [intOf]; omega
                      · by_cases e2 : lessI d s = 0
                        · rcases (show t = 0 ∨ t = 1 by omega) with et | et
                          · have hb1 : (bitI s (a : Int) == 0) = false := by rw [bitI_true e1]; rfl
                            have hl2 : (bits .andNot .i64 d s == 0) = true := by rw [hbl]; rw [e2]; rfl
                            have ht1 : ((t : Int) == 1) = false := by rw [et]; rfl
                            have hgp : grP zs s ab t a = false := by rw [Hgp.out, Hsp.out, e1, e3, et]; rfl
                            have HN := Lib.hid (no_snoc (f := grP zs s ab t) Hno.out hgp)
                            clear e1 e2 e3 hgp hbl et
                            go_wp2_with (go_at_call 12; refine (bit_any _ _ _ (by omega) (by omega) (by omega) (by omega)).mono ?_; rintro e w' ⟨rfl, rfl⟩)
                            go_round
                            case rel => exact ⟨a + 1, by go_num, by omega, .inl ⟨rfl, HN.out⟩⟩
                            case measure => simp [intOf]; omega
                          · have hb1 : (bitI s (a : Int) == 0) = false := by rw [bitI_true e1]; rfl
                            have hl2 : (bits .andNot .i64 d s == 0) = true := by rw [hbl]; rw [e2]; rfl
                            have ht1 : ((t : Int) == 1) = true := by rw [et]; rfl
                            have hgp : grP zs s ab t a = false := by rw [Hgp.out, Hsp.out, e1, e3, et]; rfl
                            have HN := Lib.hid (no_snoc (f := grP zs s ab t) Hno.out hgp)
                            clear e1 e2 e3 hgp hbl et
                            go_wp2_with (go_at_call 12; refine (bit_any _ _ _ (by omega) (by omega) (by omega) (by omega)).mono ?_; rintro e w' ⟨rfl, rfl⟩)
                            go_round
                            case rel => exact ⟨a + 1, by go_num, by omega, .inl ⟨rfl, HN.out⟩⟩
                            case measure => simp [intOf]; omega
                        · rcases (show t = 0 ∨ t = 1 by omega) with et | et
                          · have hb1 : (bitI s (a : Int) == 0) = false := by rw [bitI_true e1]; rfl
                            have hl2 : (bits .andNot .i64 d s == 0) = false := by rw [hbl]; simpa using e2
                            have ht1 : ((t : Int) == 1) = false := by rw [et]; rfl
                            have hgp : grP zs s ab t a = false := by rw [Hgp.out, Hsp.out, e1, e3, et]; rfl
                            have HN := Lib.hid (no_snoc (f := grP zs s ab t) Hno.out hgp)
                            clear e1 e2 e3 hgp hbl et
                            go_wp2_with (go_at_call 12; refine (bit_any _ _ _ (by omega) (by omega) (by omega) (by omega)).mono ?_; rintro e w' ⟨rfl, rfl⟩)
                            go_round
                            case rel => exact ⟨a + 1, by go_num, by omega, .inl ⟨rfl, HN.out⟩⟩
                            case measure => simp [intOf]; omega
                          · have hb1 : (bitI s (a : Int) == 0) = false := by rw [bitI_true e1]; rfl
                            have hl2 : (bits .andNot .i64 d s == 0) = false := by rw [hbl]; simpa using e2
                            have ht1 : ((t : Int) == 1) = true := by rw [et]; rfl
                            have hgp : grP zs s ab t a = false := by rw [Hgp.out, Hsp.out, e1, e3, et]; rfl
                            have HN := Lib.hid (no_snoc (f := grP zs s ab t) Hno.out hgp)
                            clear e1 e2 e3 hgp hbl et
                            go_wp2_with (go_at_call 12; refine (bit_any _ _ _ (by omega) (by omega) (by omega) (by omega)).mono ?_; rintro e w' ⟨rfl, rfl⟩)
                            go_round
                            case rel => exact ⟨a + 1, by go_num, by omega, .inl ⟨rfl, HN.out⟩⟩
                            case measure => simp [intOf]; omega
                    · have hb3 : (bitI ab (a : Int) == 1) = true := by rw [bitI_true e3]; rfl
                      cases e1 : bitB s (a : Int)
                      · by_cases e2 : lessI d s = 0
                        · rcases (show t = 0 ∨ t = 1 by omega) with et | et
                          · have hb1 : (bitI s (a : Int) == 0) = true := by rw [bitI_false e1]; rfl
                            have hl2 : (bits .andNot .i64 d s == 0) = true := by rw [hbl]; rw [e2]; rfl
                            have ht1 : ((t : Int) == 1) = false := by rw [et]; rfl
                            have hgp : grP zs s ab t a = true := by rw [Hgp.out, Hsp.out, e1, e3, et]; rw [e2]; rfl
                            have HX := Lib.hid (show X = a from HitX.out hgp)
                            clear e1 e2 e3 hgp hbl et
                            go_wp2_with (go_at_call 12; refine (bit_any _ _ _ (by omega) (by omega) (by omega) (by omega)).mono ?_; rintro e w' ⟨rfl, rfl⟩)
                            go_round
                            case rel => exact ⟨a + 1, by go_num, by omega, .inr (congrArg (fun z : Nat => Value.int .i64 (z : Int)) HX.out.symm)⟩
                            case measure => simp [intOf]; omega
                          · have hb1 : (bitI s (a : Int) == 0) = true := by rw [bitI_false e1]; rfl
                            have hl2 : (bits .andNot .i64 d s == 0) = true := by rw [hbl]; rw [e2]; rfl
                            have ht1 : ((t : Int) == 1) = true := by rw [et]; rfl
                            have hgp : grP zs s ab t a = true := by rw [Hgp.out, Hsp.out, e1, e3, et]; rw [e2]; rfl
                            have HX := Lib.hid (show X = a from HitX.out hgp)
                            clear e1 e2 e3 hgp hbl et
                            go_wp2_with (go_at_call 12; refine (bit_any _ _ _ (by omega) (by omega) (by omega) (by omega)).mono ?_; rintro e w' ⟨rfl, rfl⟩)
                            go_round
                            case rel => exact ⟨a + 1, by go_num, by omega, .inr (congrArg (fun z : Nat => Value.int .i64 (z : Int)) HX.out.symm)⟩
                            case measure => simp [intOf]; omega
                        · rcases (show t = 0 ∨ t = 1 by omega) with et | et
                          · have hb1 : (bitI s (a : Int) == 0) = true := by rw [bitI_false e1]; rfl
                            have hl2 : (bits .andNot .i64 d s == 0) = false := by rw [hbl]; simpa using e2
                            have ht1 : ((t : Int) == 1) = false := by rw [et]; rfl
                            have hgp : grP zs s ab t a = false := by rw [Hgp.out, Hsp.out, e1, e3, et]; simp [e2]
                            have HN := Lib.hid (no_snoc (f := grP zs s ab t) Hno.out hgp)
                            clear e1 e2 e3 hgp hbl et
                            go_wp2_with (go_at_call 12; refine (bit_any _ _ _ (by omega) (by omega) (by omega) (by omega)).mono ?_; rintro e w' ⟨rfl, rfl⟩)
                            go_round
                            case rel => exact ⟨a + 1, by go_num, by omega, .inl ⟨rfl, HN.out⟩⟩
                            case measure => simp [intOf]; omega
                          · have hb1 : (bitI s (a : Int) == 0) = true := by rw [bitI_false e1]; rfl
                            have hl2 : (bits .andNot .i64 d s == 0) = false := by rw [hbl]; simpa using e2
                            have ht1 : ((t : Int) == 1) = true := by rw [et]; rfl
                            have hgp : grP zs s ab t a = false := by rw [Hgp.out, Hsp.out, e1, e3, et]; simp [e2]
                            have HN := Lib.hid (no_snoc (f := grP zs s ab t) Hno.out hgp)
                            clear e1 e2 e3 hgp hbl et
                            go_wp2_with (go_at_call 12; refine (bit_any _ _ _ (by omega) (by omega) (by omega) (by omega)).mono ?_; rintro e w' ⟨rfl, rfl⟩)
                            go_round
                            case rel => exact ⟨a + 1, by go_num, by omega, .inl ⟨rfl, HN.out⟩⟩
                            case measure => simp [intOf]; omega
                      · by_cases e2 : lessI d s = 0
                        · rcases (show t = 0 ∨ t = 1 by omega) with et | et
                          · have hb1 : (bitI s (a : Int) == 0) = false := by rw [bitI_true e1]; rfl
                            have hl2 : (bits .andNot .i64 d s == 0) = true := by rw [hbl]; rw [e2]; rfl
                            have ht1 : ((t : Int) == 1) = false := by rw [et]; rfl
                            have hgp : grP zs s ab t a = false := by rw [Hgp.out, Hsp.out, e1, e3, et]; rfl
                            have HN := Lib.hid (no_snoc (f := grP zs s ab t) Hno.out hgp)
                            clear e1 e2 e3 hgp hbl et
                            go_wp2_with (go_at_call 12; refine (bit_any _ _ _ (by omega) (by omega) (by omega) (by omega)).mono ?_; rintro e w' ⟨rfl, rfl⟩)
                            go_round
                            case rel => exact ⟨a + 1, by go_num, by omega, .inl ⟨rfl, HN.out⟩⟩
                            case measure => simp [intOf]; omega
                          · have hb1 : (bitI s (a : Int) == 0) = false := by rw [bitI_true e1]; rfl
                            have hl2 : (bits .andNot .i64 d s == 0) = true := by rw [hbl]; rw [e2]; rfl
                            have ht1 : ((t : Int) == 1) = true := by rw [et]; rfl
                            have hgp : grP zs s ab t a = false := by rw [Hgp.out, Hsp.out, e1, e3, et]; rfl
                            have HN := Lib.hid (no_snoc (f := grP zs s ab t) Hno.out hgp)
                            clear e1 e2 e3 hgp hbl et
                            go_wp2_with (go_at_call 12; refine (bit_any _ _ _ (by omega) (by omega) (by omega) (by omega)).mono ?_; rintro e w' ⟨rfl, rfl⟩)
                            go_round
                            case rel => exact ⟨a + 1, by go_num, by omega, .inl ⟨rfl, HN.out⟩⟩
                            case measure => simp [intOf]; omega
                        · rcases (show t = 0 ∨ t = 1 by omega) with et | et
                          · have hb1 : (bitI s (a : Int) == 0) = false := by rw [bitI_true e1]; rfl
                            have hl2 : (bits .andNot .i64 d s == 0) = false := by rw [hbl]; simpa using e2
                            have ht1 : ((t : Int) == 1) = false := by rw [et]; rfl
                            have hgp : grP zs s ab t a = false := by rw [Hgp.out, Hsp.out, e1, e3, et]; rfl
                            have HN := Lib.hid (no_snoc (f := grP zs s ab t) Hno.out hgp)
                            clear e1 e2 e3 hgp hbl et
                            go_wp2_with (go_at_call 12; refine (bit_any _ _ _ (by omega) (by omega) (by omega) (by omega)).mono ?_; rintro e w' ⟨rfl, rfl⟩)
                            go_round
                            case rel => exact ⟨a + 1, by go_num, by omega, .inl ⟨rfl, HN.out⟩⟩
                            case measure => simp [intOf]; omega
                          · have hb1 : (bitI s (a : Int) == 0) = false := by rw [bitI_true e1]; rfl
                            have hl2 : (bits .andNot .i64 d s == 0) = false := by rw [hbl]; simpa using e2
                            have ht1 : ((t : Int) == 1) = true := by rw [et]; rfl
                            have hgp : grP zs s ab t a = false := by rw [Hgp.out, Hsp.out, e1, e3, et]; rfl
                            have HN := Lib.hid (no_snoc (f := grP zs s ab t) Hno.out hgp)
                            clear e1 e2 e3 hgp hbl et
                            go_wp2_with (go_at_call 12; refine (bit_any _ _ _ (by omega) (by omega) (by omega) (by omega)).mono ?_; rintro e w' ⟨rfl, rfl⟩)
                            go_round
                            case rel => exact ⟨a + 1, by go_num, by omega, .inl ⟨rfl, HN.out⟩⟩
                            case measure => simp [intOf]; omega
                · obtain rfl : a = n := by omega
                  go_wp2
                  go_round
                  case rel =>
                    have h9 := Hno.out
                    refine ⟨t + 1, by go_num, by omega, .inl ⟨rfl, ?_, ?_⟩⟩
                    · rcases (show t = 0 ∨ t = 1 by omega) with rfl | rfl
                      · omega
                      · exact (Hsm.out h9).elim
                    · intro e
                      obtain rfl : t = 0 := by omega
                      exact h9
                  case measure => simp [intOf]; omega
              · by_cases hla : a < n
                · go_wp2
                  go_round
                  case rel => exact ⟨t + 1, by go_num, by omega, .inr ⟨rfl, by omega⟩⟩
                  case measure => simp [intOf]; omega
                · obtain rfl : a = n := by omega
                  go_wp2
                  go_round
                  case rel => exact ⟨t + 1, by go_num, by omega, .inr ⟨rfl, by omega⟩⟩
                  case measure => simp [intOf]; omega
          · have hpx : powI (X : Int) < powI (n : Int) := powI_lt hXn
            have hpp := powI_pos (X : Int)
            have Hor := Lib.hid (bits_or (a := s) (b := powI X) hs0 (by omega) (Int.le_of_lt hpp) (by omega))
            have hown := own_new w4 3
            have hUn : Upd (fun _ => False) w4 (w4.alloc (.cells #[] 3)) := (Upd.refl _ w4).alloc _
            have hsl : ((grS zs k).1.map (Value.int .i64)).length = k := by rw [List.length_map]; exact Hgl.out
            have Hsl := Lib.hid hsl
            have hnews : ∀ j u, ((grS zs k).1.map (Value.int .i64))[j]? = some u → (w4.alloc (.cells #[] 3)).cell? ((⟨g, 0, none⟩ : Addr).add j) = some u := news_at HI4.out (hUn.mono (S := fun k => w4.heap.size ≤ k) (fun _ _ e => e.elim)) hgl4 (fun j hj => addr_add3 ..) (fun j hj => by rw [Nat.zero_add]) (by rw [Hgl.out]; omega)
            have Hnews := Lib.hid hnews
            clear hnews hsl hlast
            by_cases ht3 : t < 2
            all_goals
              go_wp2_with (first
                | (go_at_call 13; refine (power_any _ _ (by omega) (by omega)).mono ?_; rintro e w' ⟨rfl, rfl⟩)
                | (at_builtin; refine wpList_appendK _ rfl (.tmp 77) (.tmp 78) _ rfl w4.heap.size 3 i0 _ 8 Tryd.underlying22 hi0 hz0 hz1 hz2 rfl _ 0 [] rfl hown ⟨g, 0, none⟩ k cc _ rfl Hsl.out Hnews.out (fun u hu => by obtain ⟨z, _, rfl⟩ := List.mem_map.1 hu; rfl) (by simp [maxLen]; omega) (by omega) (by simp) ?_; intro v5 w5 hown5 hg5; rw [Nat.zero_add, List.nil_append] at hown5; obtain ⟨A5, c5, rfl, -, -⟩ := ints_of_own_at hown5)
                | (at_builtin; refine wpList_append1 _ rfl (.tmp 79) (.tmp 81) _ rfl w4.heap.size 3 i0 _ 8 Tryd.underlying22 hi0 hz0 hz1 hz2 rfl _ k _ rfl (hown5.alloc _) w5.heap.size 1 (.int .i64 (X : Int)) rfl (cell_new _ _ _) rfl (by omega) (by omega) (by have := hg5.size; simp at this; simp; omega) ?_; rintro v6 w6 hown6 hg6 hv6; obtain ⟨g6, cap6, rfl⟩ := ownsRow_succ hown6))
              rw [Hor.out]
              have zg5 := hg5.size
              have zg6 := hg6.size
              simp at zg5 zg6
              have hU5 : Upd (fun _ => False) w4 w5 := hUn.grown hg5 (fun k hk => by simp [Value.ownBlock, Act.eval] at hk; exact .inl (by omega))
              have hU6 : Upd (fun _ => False) w4 w6 := (hU5.alloc _).grown hg6 (fun k hk => .inl (own_ge hown5 k hk))
              have hO6 : OwnS (fun i => i = w1.heap.size ∨ w3.heap.size ≤ i) w6 w1.heap.size 3 (.slice (some ⟨g6, 0, none⟩) (k + 1) cap6) (grS zs (k + 1)).1 := by
                refine ⟨fun i hi => .inr (by have := own_ge hown6 i hi; omega), ?_⟩
                rw [Hs1.out, List.length_append, Hgl.out, List.map_append]
                exact own_sooner hown6 (by omega)
              have HO6 := Lib.hid hO6
              have HU6 := Lib.hid (hU.trans' hU6 (fun i hi e => e.elim))
              clear hO6 hown5 hown6 hg5 hg6 hv6
              go_roundw
              case rel => exact ⟨k + 1, g6, cap6, by omega, rfl, by rw [Hs2.out], HO6.out, HU6.out⟩
              case measure => (have q1 := Hpo.out; rw [Hs2.out] at q1; simp only [intOf]; omega)
      · obtain rfl : k = n := by omega
        obtain ⟨A', c', he, hRC⟩ := rowV_of_own hO.2
        rw [Hgl.out] at he hRC
        cases he
        have HRC := Lib.hid hRC
        have zz := B1.size
        clear hRC
        go_wp2_with fail
        go_ret
        exact ⟨_, k, cc, rfl, by rw [Ht.out]; exact HRC.out.more zz (Nat.le_refl _), B1.trans ((hU3.trans' hU (fun i hi e => by omega)).toBelow (fun _ e => e.elim) zz)⟩
end Go.Proofs.YtipdmaggfbfnlaaDoor

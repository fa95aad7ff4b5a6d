/- ChainParts: the model's, whole. -/
import Derived.Test.YtghogabmkbadjabMtsS
import Derived.Test.YtghogabmkbadjabInsM
import Derived.Test.YtghogabmkbadjabGb
set_option linter.unusedVariables false
set_option linter.unusedSimpArgs false
namespace Go.Proofs.Ytghogabmkbadjab
open Go.RowKit Go.Shelf
attribute [local go_sem] Oper.semAt_some

/-- The answer: the sets of the chains, the least first. -/
def chR (zs : List Int) : List Int := if vo zs then sortL (chL zs) else []
theorem chL_len (zs : List Int) : (chL zs).length ≤ zs.length := by
  unfold chL
  rw [List.length_map, lowL_len]
  exact noneTo_le _ _
theorem chR_le (zs : List Int) : (chR zs).length ≤ 1048576 := by
  unfold chR
  cases hv : vo zs
  · simp
  · have hvo : VoP zs := by simpa [vo] using hv
    have h1 := hvo.1
    have h2 := chL_len zs
    have h3 := sortL_len (chL zs)
    simp only [if_true]
    omega
theorem cel_of_own' {w : World} {base n g cap : Nat} {t : TypeId} {xs : List Int} (h : w.ownsRow base t 1 (.slice (some ⟨g, 0, none⟩) n cap) n (xs.map (Value.int .i64))) : base ≤ g ∧ Cel w g t n xs := by
  have hl : xs.length = n := by simpa using h.1
  rcases h.2 with ⟨e, _⟩ | ⟨g', cap', cur, e, hg, hc, _, _, _, ht⟩
  · cases e
  · cases e
    exact ⟨hg, hl, cur, hc, by simpa using ht⟩

set_option maxRecDepth 100000 in
set_option maxHeartbeats 16000000 in
theorem specChainPartsF_any (A : Option Addr) (n c : Nat) (zs : List Int) (w : World) (h : Ints w w.heap.size A n zs) (hbig : n ≤ 1152921504606846976) :
    Calls Try.prog 37 #[.slice A n c] w (GivesRowC w (chR zs)) := by
  have hlen := Lib.hid h.len
  cases hv : vo zs
  · have Ht := Lib.hid (show chR zs = [] by unfold chR; rw [hv]; rfl)
    go_enter Try.func37, Try.ntmps37
    go_wp2_with fail
    refine (validOrder_any _ _ _ _ zs _ h hbig).mono ?_
    rw [hv]
    rintro e w' ⟨rfl, m, rfl⟩
    go_wp2_with fail
    go_ret
    exact ⟨_, _, _, rfl, by rw [Ht.out]; exact RowC.nil _ _ _ _, below_drewN (Below.refl _ _) m⟩
  · have hvo : VoP zs := by simpa [vo] using hv
    have Hv := Lib.hid hv
    clear hv
    have hn6 : n ≤ 6 := by have := hvo.1; rw [hlen.out] at this; exact this
    obtain ⟨i0, hi0, hz0, hz1, hz2⟩ := info_parts infoInt
    have Ht := Lib.hid (show chR zs = sortL ((lowL (matesTo zs n) n).map (chT (fun i => nxT (matesTo zs n) i n) 7 · 0)) by
      unfold chR; rw [Hv.out, if_pos rfl]; unfold chL; rw [hlen.out]; congr 1; refine List.map_congr_left fun i _ => ?_; unfold chSt; rw [hlen.out])
    have Hnx := Lib.hid (show ∀ i j, i < n → nxT (matesTo zs n) i n = some j → j < n ∧ rkC zs j < rkC zs i by
      intro i j hi e
      have := nx_up hvo (i := i) (j := j) (by rw [hlen.out]; exact hi) (by rw [hlen.out]; exact e)
      rwa [hlen.out] at this)
    have Hok := Lib.hid (show OkH n (matesTo zs n) by rw [← hlen.out]; exact matesTo_ok zs _ (Nat.le_refl _))
    have Hrk := Lib.hid (rkC_lt zs)
    go_enter Try.func37, Try.ntmps37
    go_wp2_with fail
    refine (validOrder_any _ _ _ _ zs _ h hbig).mono ?_
    rw [Hv.out]
    rintro e w' ⟨rfl, m, rfl⟩
    have i1 : Ints (w.drewN m) (w.drewN m).heap.size A n zs := h.drewN m
    have B1 : Below w.heap.size w (w.drewN m) := below_drewN (Below.refl _ _) m
    generalize w.drewN m = w1 at *
    go_wp2_with fail
    refine (mates_any A n c zs hvo w1 i1).mono ?_
    rintro e w2 ⟨A2, c2, rfl, hI2, hB2⟩
    have C2 := B1.trans (hB2.mono B1.size)
    have zw2 := C2.size
    generalize matesTo zs n = has at *
    go_wp2_with fail
    have h1 := own_new w2 3
    have hU1 : Upd (fun q => w2.heap.size ≤ q) w2 (w2.alloc (.cells #[] 3)) := (Upd.refl _ w2).alloc _
    have hz1' : (w2.alloc (.cells #[] 3)).heap.size = w2.heap.size + 1 := by simp
    obtain ⟨W1, hW1⟩ : ∃ W1, w2.alloc (.cells #[] 3) = W1 := ⟨_, rfl⟩
    rw [hW1] at h1 hU1 hz1' ⊢
    have hzl : w2.heap.size < W1.heap.size := by omega
    clear hW1 hz1'
    go_loopw [4, 18] (fun v i wr => ∃ k g cap : Nat, k ≤ n ∧ i = .int .i64 k ∧ v = .slice (some ⟨g, 0, none⟩) k cap ∧ wr.ownsRow w2.heap.size 3 1 v k ((List.replicate k (-1 : Int)).map (Value.int .i64)) ∧ Upd (fun g => w2.heap.size ≤ g) w2 wr ∧ w2.heap.size ≤ wr.heap.size) (fun _ i _ => n - (intOf i).toNat)
    case atStart => exact ⟨0, _, _, by omega, rfl, rfl, by simpa using h1, hU1, by omega⟩
    case round =>
      clear h1 hU1 hzl
      obtain ⟨k, g, cap, hk, rfl, rfl, hO, hU, hsz⟩ := hrel
      rename World => wx
      by_cases hlt : k < n
      · have Hrow := Lib.hid (rep_snoc k)
        go_wp2_with (at_builtin; refine wpList_append1 _ rfl (.tmp 20) (.tmp 21) _ rfl w2.heap.size 3 i0 _ 8 Try.underlying22 hi0 hz0 hz1 hz2 rfl _ k _ rfl (hO.alloc _) wx.heap.size 1 (.int .i64 (-1)) rfl (cell_new _ _ _) rfl (by omega) (by omega) (by simp; omega) ?_; rintro v' w' hown' hg' hv')
        have zg := hg'.size
        simp at zg
        have hO2 : w'.ownsRow w2.heap.size 3 1 v' (k + 1) ((List.replicate (k + 1) (-1 : Int)).map (Value.int .i64)) := by rw [Hrow.out, List.map_append]; exact hown'
        obtain ⟨g2, cap2, rfl, -, -⟩ := cel_of_own hO2 (by omega)
        go_roundw
        case rel => exact ⟨k + 1, g2, cap2, by omega, by go_num, rfl, hO2, (hU.alloc _).grown hg' (fun q hq => .inl (by have := own_base hO q hq; omega)), by omega⟩
        case measure => simp [intOf]; omega
      · obtain rfl : k = n := by omega
        obtain ⟨hgl, hC⟩ := cel_of_own' hO
        clear hO
        rw [← nxL_zero k has] at hC
        have Hhl := Lib.hid Hok.out.1
        go_wp2_with fail
        go_loopw [5] (fun i wr => ∃ b : Nat, b ≤ k ∧ i = .int .i64 b ∧ Cel wr g 3 k (nxL k has b) ∧ Upd (fun q => w2.heap.size ≤ q) w2 wr) (fun i _ => k - (intOf i).toNat)
        case atStart => exact ⟨0, by omega, rfl, hC, hU⟩
        case round =>
          clear hC hU hsz
          obtain ⟨b, hb, rfl, hC, hU⟩ := hrel
          rename World => wy
          have hIy : Ints wy w2.heap.size A2 k has := hI2.below (hU.toBelow (fun q e => e) (Nat.le_refl _))
          by_cases hlt : b < k
          · obtain ⟨hlo, hhi⟩ := Hok.out.2 b hlt
            obtain ⟨ba, off, rfl, hba, hca⟩ := hIy.at_ hlt
            have hcb := hca b hlt
            clear hca
            by_cases hneg : has[b]?.getD 0 < 0
            · have Hn := Lib.hid (nxL_no (n := k) hneg)
              generalize has[b]?.getD 0 = y at *
              go_wp2_with fail
              go_roundw
              case rel => exact ⟨b + 1, by omega, by go_num, by rw [Hn.out]; exact hC, hU⟩
              case measure => simp [intOf]; omega
            · obtain ⟨low, hlow⟩ : ∃ low : Nat, has[b]?.getD 0 = (low : Int) := ⟨(has[b]?.getD 0).toNat, by omega⟩
              have Hs := Lib.hid (nxL_set (n := k) hlow)
              rw [hlow] at hcb hlo hhi hneg
              have hcl := hC.cell (k := low) (by omega)
              have hfl := hC.frozen low
              have Hlow := Lib.hid hlow
              clear hlow
              go_wp2_with fail
              go_roundw
              case rel => exact ⟨b + 1, by omega, by go_num, by rw [← Hs.out]; exact hC.set low b, hU.setCell (.inl (by simpa using hgl)) _⟩
              case measure => simp [intOf]; omega
          · obtain rfl : b = k := by omega
            have HN := Lib.hid (fun i (hi : i < b) => nxL_get (n := b) has b hi)
            have zU := hU.size
            obtain ⟨nl, hnl⟩ : ∃ nl, nxL b has b = nl := ⟨_, rfl⟩
            rw [hnl] at hC HN
            clear hnl hlt
            have HN' : Hid (∀ i, i < b → nl[i]?.getD 0 = nxN (nxT has i b)) := HN
            clear HN
            obtain ⟨nx, hnx⟩ : ∃ nx : Nat → Option Nat, (fun i => nxT has i b) = nx := ⟨_, rfl⟩
            have HN := Lib.hid (show ∀ i, i < b → nl[i]?.getD 0 = nxN (nx i) by rw [← hnx]; exact HN'.out)
            have HX := Lib.hid (show ∀ i j, i < b → nx i = some j → j < b ∧ rkC zs j < rkC zs i by rw [← hnx]; exact Hnx.out)
            rw [hnx] at Ht
            clear HN' Hnx hnx
            go_wp2_with fail
            have hU2 : Upd (fun q => w2.heap.size ≤ q) w2 (wy.alloc (.cells #[] 3)) := hU.alloc _
            have hC2 : Cel (wy.alloc (.cells #[] 3)) g 3 b nl := hC.upd ((Upd.refl (fun _ => False) wy).alloc _) (fun e => e)
            have hz2' : (wy.alloc (.cells #[] 3)).heap.size = wy.heap.size + 1 := by simp
            obtain ⟨W2, hW2⟩ : ∃ W2, wy.alloc (.cells #[] 3) = W2 := ⟨_, rfl⟩
            rw [hW2] at hU2 hC2 hz2' ⊢
            clear hW2 hC hU
            go_loopw [6, 7] (fun v i wr => ∃ (a j bt cp : Nat) (ts : List Int), a ≤ b ∧ i = .int .i64 a ∧ v = .slice (some ⟨bt, 0, none⟩) j cp ∧ j ≤ a ∧ j ≤ cp ∧ cp ≤ maxLen ∧ w2.heap.size ≤ bt ∧ bt < wr.heap.size ∧ ts.length = j ∧ Hid (ts.Pairwise (· ≤ ·)) ∧ Hid (ts.Perm ((lowL has a).map (chT nx 7 · 0))) ∧ Hid (∀ i, i < j → wr.cell? ⟨bt, i, none⟩ = some (.int .i64 (ts[i]?.getD 0))) ∧ Cel wr g 3 b nl ∧ Upd (fun q => w2.heap.size ≤ q) w2 wr) (fun _ i _ => b - (intOf i).toNat)
            case atStart => exact ⟨0, 0, _, _, [], by omega, rfl, rfl, by omega, by omega, by simp [maxLen], by omega, by omega, rfl, Lib.hid List.Pairwise.nil, Lib.hid (List.Perm.refl _), Lib.hid (fun i hi => absurd hi (Nat.not_lt_zero _)), hC2, hU2⟩
            case round =>
              clear hC2 hU2 hz2' hIy
              obtain ⟨a, j, bt, cp, ts, ha, rfl, rfl, hja, hjc, hcm, hbt, hbt2, hm, Hs, Hp, Hcl, hC, hU⟩ := hrel
              rename World => wz
              have zz := hU.size
              have hIz : Ints wz w2.heap.size A2 b has := hI2.below (hU.toBelow (fun q e => e) (Nat.le_refl _))
              by_cases hlt : a < b
              · obtain ⟨hlo, hhi⟩ := Hok.out.2 a hlt
                obtain ⟨ba, off, rfl, hba, hca⟩ := hIz.at_ hlt
                have hcb := hca a hlt
                clear hca
                by_cases hneg : has[a]?.getD 0 < 0
                · have Hlw := Lib.hid (show lowL has (a + 1) = lowL has a ++ [a] by show (if has[a]?.getD 0 < 0 then lowL has a ++ [a] else lowL has a) = _; rw [if_pos hneg])
                  generalize has[a]?.getD 0 = y at *
                  obtain ⟨T, hT⟩ : ∃ T, chT nx 7 a 0 = T := ⟨_, rfl⟩
                  have HT := Lib.hid (show LeftC nx (rkC zs) b T 0 (some a) from ⟨hlt, 7, Hrk.out a, hT⟩)
                  have HTe := Lib.hid hT
                  clear hT
                  go_wp2_with fail
                  go_loopw [8, 9] (fun u v wr => ∃ (acc : Int) (o : Option Nat), 0 ≤ acc ∧ acc < 64 ∧ u = .int .i64 acc ∧ v = .int .i64 (nxN o) ∧ LeftC nx (rkC zs) b T acc o ∧ wr = wz) (fun _ v _ => if intOf v < 0 then 0 else rkC zs (intOf v).toNat + 1)
                  case atStart => exact ⟨0, some a, by omega, by omega, rfl, rfl, HT.out, rfl⟩
                  case round =>
                    obtain ⟨acc, o, ha0, ha6, rfl, rfl, hleft, rfl⟩ := hrel
                    cases o with
                    | none =>
                      have hTa : acc = T := hleft
                      subst hTa
                      rw [show nxN none = (-1 : Int) from rfl]
                      go_wp2_with (go_at_call 97; refine (insert_any bt j cp ts acc _ Hcl.out hm (by omega) hjc hcm hbt2).mono ?_; rintro e w5 ⟨g5, c5, rfl, p, hp, hlo5, hhi5, hg5, hg5', hjc5, hcm5, hcl5, hU5⟩)
                      have z5 := hU5.size
                      obtain ⟨hs5, hp5⟩ := ins_step Hs.out Hp.out hlo5 (by rw [hm]; exact hhi5)
                      have Hs5 := Lib.hid hs5
                      have hp6 : (insAt ts p acc).Perm ((lowL has (a + 1)).map (chT nx 7 · 0)) := by rw [Hlw.out, List.map_append]; simpa [HTe.out] using hp5
                      have Hp6 := Lib.hid hp6
                      have Hm5 := Lib.hid (show (insAt ts p acc).length = j + 1 by rw [insAt_len _ (by omega), hm])
                      have Hcl5 := Lib.hid hcl5
                      clear hs5 hp5 hp6 hcl5 hlo5 hhi5
                      generalize insAt ts p acc = ts5 at *
                      go_roundw
                      case rel => exact ⟨a + 1, j + 1, g5, c5, ts5, by omega, by go_num, by first | rfl | go_num, by omega, hjc5, hcm5, by omega, hg5', Hm5.out, Hs5, Hp6, Hcl5, hC.upd hU5 (fun e => e), hU.trans' hU5 (fun i hi e => e.elim)⟩
                      case measure => simp [intOf]; omega
                    | some i =>
                      obtain ⟨hi, f, hf, hch⟩ := hleft
                      have hpp := powI_pos (i : Int)
                      have hpb : powI (i : Int) < 64 := by
                        have h1 := powI_le6 (n := ((i + 1 : Nat) : Int)) (by omega)
                        have h2 : powI ((i + 1 : Nat) : Int) = 2 * powI i := by rw [show ((i + 1 : Nat) : Int) = (i : Int) + 1 by omega]; exact powI_succ (by omega)
                        omega
                      have hbd := orI_bd (n := 6) ha0 (show acc < powI 6 from ha6) (Int.le_of_lt hpp) (show powI (i : Int) < powI 6 from hpb)
                      rw [show powI 6 = 64 from rfl] at hbd
                      have Hor := Lib.hid (bits_or (a := acc) (b := powI (i : Int)) ha0 (by omega) (Int.le_of_lt hpp) (by omega))
                      have Hnext := Lib.hid (show LeftC nx (rkC zs) b T (orI acc (powI (i : Int))) (nx i) ∧ (∀ j, nx i = some j → rkC zs j < rkC zs i) from by
                        refine ⟨?_, fun j e => (HX.out i j hi e).2⟩
                        cases f with
                        | zero => omega
                        | succ f =>
                          unfold chT at hch
                          cases e : nx i with
                          | none => rw [e] at hch; exact hch
                          | some j =>
                            rw [e] at hch
                            have := HX.out i j hi e
                            exact ⟨this.1, f, by omega, hch⟩)
                      have hci := hC.cell hi
                      rw [HN.out i hi] at hci
                      have Hch := Lib.hid hch
                      clear hch
                      rw [show nxN (some i) = (i : Int) from rfl]
                      generalize nx i = o' at *
                      go_wp2_with (go_at_call 96; refine (power_any _ _ (by omega) (by omega)).mono ?_; rintro e w5 ⟨rfl, rfl⟩)
                      go_roundw
                      case rel => exact ⟨orI acc (powI (i : Int)), o', by omega, by omega, congrArg (Value.int .i64) Hor.out, rfl, Hnext.out.1, by first | rfl | trivial⟩
                      case measure =>
                        cases o' with
                        | none =>
                          have h0 : ¬ ((i : Int) < 0) := by omega
                          simp [nxN, intOf, h0]
                        | some j =>
                          have := Hnext.out.2 j rfl
                          have h0 : ¬ ((i : Int) < 0) := by omega
                          have h1 : ¬ ((j : Int) < 0) := by omega
                          simp [nxN, intOf, h0, h1]
                          omega
                · have Hlw := Lib.hid (show lowL has (a + 1) = lowL has a by show (if has[a]?.getD 0 < 0 then lowL has a ++ [a] else lowL has a) = _; rw [if_neg hneg])
                  generalize has[a]?.getD 0 = y at *
                  go_wp2_with fail
                  go_roundw
                  case rel => exact ⟨a + 1, j, bt, cp, ts, by omega, by go_num, rfl, by omega, hjc, hcm, hbt, hbt2, hm, Hs, by rw [Hlw.out]; exact Hp, Hcl, hC, hU⟩
                  case measure => simp [intOf]; omega
              · obtain rfl : a = b := by omega
                go_wp2_with fail
                go_ret
                exact ⟨_, _, _, rfl, by rw [Ht.out, ← ins_end Hs.out Hp.out]; exact ⟨hm, fun _ => ⟨bt, rfl, by omega, hbt2, Hcl.out⟩⟩, C2.trans (hU.toBelow (fun q e => by omega) zw2)⟩
end Go.Proofs.Ytghogabmkbadjab

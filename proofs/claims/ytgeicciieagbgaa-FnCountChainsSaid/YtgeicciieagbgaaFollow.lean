/- OrderOf: what follows. -/
import Derived.Test.YtgeicciieagbgaaHeights
namespace Go.Proofs.Ytgeicciieagbgaa
open Go.RowKit Go.Shelf

/-- One step: what is above m is put above l, if m is. -/
def fol1 (m : Nat) (d : List Int) (l : Nat) : List Int := if bitB (d[l]?.getD 0) m then d.set l (orI (d[l]?.getD 0) (d[m]?.getD 0)) else d
def folIn (m : Nat) (d : List Int) (b : Nat) : List Int := (List.range b).foldl (fol1 m) d
def folTo (n : Nat) (d : List Int) (a : Nat) : List Int := (List.range a).foldl (fun d m => folIn m d n) d
theorem folIn_succ (m : Nat) (d : List Int) (b : Nat) : folIn m d (b + 1) = fol1 m (folIn m d b) b := by simp [folIn, List.range_succ]
theorem folTo_succ (n : Nat) (d : List Int) (a : Nat) : folTo n d (a + 1) = folIn a (folTo n d a) n := by simp [folTo, List.range_succ]
def Fit (n : Nat) (d : List Int) : Prop := d.length = n ∧ ∀ j : Nat, 0 ≤ d[j]?.getD 0 ∧ d[j]?.getD 0 < powI n
theorem fol1_fit {n m l : Nat} {d : List Int} (h : Fit n d) : Fit n (fol1 m d l) := by
  unfold fol1
  split
  · refine ⟨by simpa using h.1, fun j => ?_⟩
    by_cases hj : l = j
    · subst hj
      by_cases hl : l < d.length
      · rw [List.getElem?_set_self hl]
        exact orI_bd (h.2 _).1 (h.2 _).2 (h.2 _).1 (h.2 _).2
      · rw [List.set_eq_of_length_le (by omega)]
        exact h.2 _
    · rw [List.getElem?_set_ne hj]
      exact h.2 j
  · exact h
theorem folIn_fit {n m : Nat} {d : List Int} (h : Fit n d) : ∀ b : Nat, Fit n (folIn m d b)
  | 0 => h
  | b + 1 => by rw [folIn_succ]; exact fol1_fit (folIn_fit h b)
theorem folTo_fit {n : Nat} {d : List Int} (h : Fit n d) : ∀ a : Nat, Fit n (folTo n d a)
  | 0 => h
  | a + 1 => by rw [folTo_succ]; exact folIn_fit (folTo_fit h a) n
theorem base_fit {n : Nat} {ps : List (Nat × Nat)} (h : ∀ p ∈ ps, p.1 < n) : Fit n (downP n ps) := ⟨downP_len _ _, fun j => downP_bd h j⟩

set_option maxHeartbeats 2000000 in
theorem addWhatFollows_any (b n : Nat) (d : List Int) (w : World) (hA : Arr w b 54 d) (hf : Fit n d) (hn : n ≤ 6) :
    Calls Try.prog 80 #[.slice (some ⟨b, 0, none⟩) n n] w fun e w' => (∃ v, e = .returned v) ∧ Arr w' b 54 (folTo n d n) ∧ Upd (fun k => k = b) w w' := by
  go_enter Try.func80, Try.ntmps80
  go_wp2
  go_loopw [6] (fun i wr => ∃ a : Nat, a ≤ n ∧ i = .int .i64 a ∧ Arr wr b 54 (folTo n d a) ∧ Upd (fun k => k = b) w wr) (fun i _ => n - (intOf i).toNat)
  case atStart => exact ⟨0, by omega, rfl, hA, Upd.refl _ _⟩
  case round =>
    obtain ⟨a, ha, rfl, hAr, hU⟩ := hrel
    by_cases hak : a < n
    · have hF := folTo_fit hf a
      generalize hD0 : folTo n d a = d0 at *
      have HD0 := Lib.hid hD0
      clear hD0
      go_wp2
      go_loopw [11] (fun i wr => ∃ l : Nat, l ≤ n ∧ i = .int .i64 l ∧ Arr wr b 54 (folIn a d0 l) ∧ Upd (fun k => k = b) w wr) (fun i _ => n - (intOf i).toNat)
      case atStart => exact ⟨0, by omega, rfl, hAr, hU⟩
      case round =>
        clear hAr hU
        obtain ⟨l, hl, rfl, hAr, hU⟩ := hrel
        by_cases hlk : l < n
        · have hFi := folIn_fit (m := a) hF l
          have Hs := Lib.hid (folIn_succ a d0 l)
          generalize hD : folIn a d0 l = D at *
          have HD := Lib.hid hD
          clear hD
          have hpn := powI_le6 (n := (n : Int)) (by omega)
          have hl1 := hFi.2 l
          have ha1 := hFi.2 a
          have hcl := hAr.cell (k := l) (by rw [hFi.1]; exact hlk)
          have hca := hAr.cell (k := a) (by rw [hFi.1]; exact hak)
          have hfl := hAr.frozen l
          cases hbit : bitB (D[l]?.getD 0) a
          · have Hb := Lib.hid hbit
            clear hbit
            go_wp2_with (go_at_call 109; refine (has_any _ _ _ (by omega) (by omega) (by omega) (by omega)).mono ?_; rw [Hb.out]; rintro e w' ⟨rfl, rfl⟩)
            go_roundw
            case rel => exact ⟨l + 1, by omega, by go_num, by rw [Hs.out, fol1, Hb.out]; exact hAr, hU⟩
            case measure => simp [intOf]; omega
          · have Hb := Lib.hid hbit
            clear hbit
            have hor : bits .or .i64 (D[l]?.getD 0) (D[a]?.getD 0) = orI (D[l]?.getD 0) (D[a]?.getD 0) := bits_or (by omega) (by omega) (by omega) (by omega)
            go_wp2_with (go_at_call 109; refine (has_any _ _ _ (by omega) (by omega) (by omega) (by omega)).mono ?_; rw [Hb.out]; rintro e w' ⟨rfl, rfl⟩)
            go_region
            all_goals
              go_wp2
              go_roundw
              case rel => exact ⟨l + 1, by omega, by go_num, by rw [Hs.out, fol1, Hb.out]; exact hAr.set _ _, (hU.setCell (p := ⟨b, l, none⟩) (.inr rfl) _).drewN _⟩
              case measure => simp [intOf]; omega
        · obtain rfl : l = n := by omega
          have Hs := Lib.hid (folTo_succ l d a)
          go_wp2
          go_roundw
          case rel => exact ⟨a + 1, by omega, by go_num, by rw [Hs.out, HD0.out]; exact hAr, hU⟩
          case measure => simp [intOf]; omega
    · obtain rfl : a = n := by omega
      go_wp2
      (try simp only [Exit.inBlock, Exit.then])
      refine bodyPost_end (results_none rfl _ _ _) rfl ?_
      exact ⟨⟨_, rfl⟩, hAr, hU⟩
end Go.Proofs.Ytgeicciieagbgaa

/- FewestLines: the program's search, a recursion. -/
import Derived.Test.YtipdmaggfbfnlaaFeT
import Derived.Test.YtipdmaggfbfnlaaOeI
import Derived.Test.YtipdmaggfbfnlaaLoC
import Derived.Test.YtipdmaggfbfnlaaLoP
set_option linter.unusedVariables false
set_option linter.unusedSimpArgs false
namespace Go.Proofs.Ytipdmaggfbfnlaa
open Go.RowKit Go.Shelf
attribute [local go_sem] Oper.semAt_some

theorem ints_drop {w : World} {B b off m c2 i : Nat} {AS : Option Addr} {rs : List (List Int)} (h : IntsS w B (some ⟨b, off, none⟩) m rs) (hi : i < m) (hAS : (if c2 = i + 1 then some (⟨b, off, none⟩ : Addr) else some ⟨b, off + (i + 1), none⟩) = AS) (hmc : m ≤ c2) : IntsS w B AS (m - (i + 1)) (rs.drop (i + 1)) := by
  refine ⟨by simp [h.1], fun hn => ?_⟩
  obtain ⟨b', off', e, hb, hc⟩ := h.2 (by omega)
  cases e
  rw [if_neg (by omega)] at hAS
  subst hAS
  refine ⟨b, off + (i + 1), rfl, hb, fun j hj => ?_⟩
  obtain ⟨A', c', h1, h2⟩ := hc (i + 1 + j) (by omega)
  rw [List.getElem?_drop, Nat.add_assoc]
  exact ⟨A', c', h1, h2⟩
theorem cm_bd {n : Nat} {sf r : List Int} (hl : sf.length = n) (hs : ∀ a, a < n → 0 ≤ sf[a]?.getD 0 ∧ sf[a]?.getD 0 < powI n) : ∀ a, a < n → 0 ≤ (cmL n sf r)[a]?.getD 0 ∧ (cmL n sf r)[a]?.getD 0 < powI n := fun a ha => by
  unfold cmL
  rw [opL_get _ _ _ _ (by omega), if_pos ha]
  have h1 := andI_bd (sf[a]?.getD 0) ((meL n [r])[a]?.getD 0)
  have h2 := hs a ha
  omega
theorem told_here {n : Nat} {zs sf : List Int} (h : sf = zs) : ∀ (k : Nat) (rs : List (List Int)), toldL n zs k sf rs = true
  | 0, _ => by rw [toldL]; simpa using h
  | k + 1, _ => by rw [toldL]; simp [h]

set_option maxRecDepth 100000 in
set_option maxHeartbeats 16000000 in
theorem told_any (zs : List Int) (hvo : VoP zs) (n : Nat) (hlen0 : zs.length = n) : ∀ (k : Nat) (A A' A2 : Option Addr) (c c' m c2 : Nat) (sf : List Int) (rs : List (List Int)) (w : World), k ≤ 3 → Ints w w.heap.size A n zs → Ints w w.heap.size A' n sf → (∀ a, a < n → 0 ≤ sf[a]?.getD 0 ∧ sf[a]?.getD 0 < powI n) → rs.length = m → IntsS w w.heap.size A2 m (rs.map fun r => meL n [r]) → m ≤ 100000 → m ≤ c2 → c2 ≤ maxLen →
    Calls Try.prog 124 #[.slice A n c, .slice A' n c', .slice A2 m c2, .int .i64 (k : Int)] w fun e w' => e = .returned (.bool (toldL n zs k sf rs)) ∧ Below w.heap.size w w'
  | k, A, A', A2, c, c', m, c2, sf, rs, w, hk3, hA, hA', hsf, hm, hI, hmb, hmc, hcm => by
    have hlen := Lib.hid hlen0
    have hn6 : n ≤ 6 := by have := hvo.1; rw [hlen0] at this; exact this
    clear hlen0
    have hsl := Lib.hid hA'.len
    have Hm := Lib.hid hm
    clear hm
    by_cases heq : sf = zs
    · have Ht := Lib.hid (told_here (n := n) heq k rs)
      have hd : decide (sf = zs) = true := by simpa using heq
      clear heq
      go_enter Try.func124, Try.ntmps124
      go_wp2_with fail
      refine (ordEq_any A' A n c' n c _ _ sf zs w hA' hA (by omega) (by omega)).mono ?_
      rw [hd]
      rintro e w1 ⟨rfl, q, rfl⟩
      go_wp2_with fail
      go_ret
      exact ⟨ret_bool Ht.out.symm, below_drewN (Below.refl _ _) q⟩
    · have hd : decide (sf = zs) = false := by simpa using heq
      cases k with
      | zero =>
        have Ht := Lib.hid (show toldL n zs 0 sf rs = false by rw [toldL]; exact hd)
        clear heq
        go_enter Try.func124, Try.ntmps124
        go_wp2_with fail
        refine (ordEq_any A' A n c' n c _ _ sf zs w hA' hA (by omega) (by omega)).mono ?_
        rw [hd]
        rintro e w1 ⟨rfl, q, rfl⟩
        go_wp2_with fail
        go_ret
        exact ⟨ret_bool Ht.out.symm, below_drewN (Below.refl _ _) q⟩
      | succ k =>
        have ih := Lib.hid (told_any zs hvo n hlen.out k)
        have Ht := Lib.hid (show toldL n zs (k + 1) sf rs = toldA (toldL n zs k) n sf rs by rw [toldL, hd, Bool.false_or])
        clear heq
        have hk1 : ¬ (((k + 1 : Nat) : Int) = 0) := by omega
        go_enter Try.func124, Try.ntmps124
        go_wp2_with fail
        refine (ordEq_any A' A n c' n c _ _ sf zs w hA' hA (by omega) (by omega)).mono ?_
        rw [hd]
        rintro e w1 ⟨rfl, q, rfl⟩
        have hB1 := below_drewN (Below.refl w.heap.size w) q
        generalize w.drewN q = w1 at *
        go_wp2_with fail
        go_loopw [18] (fun v wr => ∃ i : Nat, i ≤ m ∧ v = .int .i64 i ∧ Hid (toldA (toldL n zs k) n sf (rs.drop i) = toldA (toldL n zs k) n sf rs) ∧ Below w.heap.size w wr) (fun v _ => m - (intOf v).toNat)
        case atStart => exact ⟨0, by omega, rfl, Lib.hid rfl, hB1⟩
        case round =>
          clear hB1
          obtain ⟨i, hi, rfl, Hd, hB⟩ := hrel
          rename World => wr
          by_cases hlt : i < m
          · have hIr := hI.below hB
            obtain ⟨b, off, rfl, hb, hc⟩ := hIr.at_ hlt
            obtain ⟨Ai, ci, hci, hIi⟩ := hc i hlt
            clear hc hIr
            have hgi : (rs.map fun r => meL n [r])[i]?.getD [] = meL n [rs[i]?.getD []] := by
              rw [List.getElem?_map, List.getElem?_eq_getElem (by rw [Hm.out]; exact hlt)]; rfl
            rw [hgi, meL_len] at hci hIi
            clear hgi
            have Hdr := Lib.hid (toldA_drop (toldL n zs k) n sf rs (i := i) (by rw [Hm.out]; exact hlt))
            generalize rs[i]?.getD [] = r at *
            obtain ⟨AS, hAS⟩ : ∃ AS, (if c2 = i + 1 then some (⟨b, off, none⟩ : Addr) else some ⟨b, off + (i + 1), none⟩) = AS := ⟨_, rfl⟩
            have hId := ints_drop hI hlt hAS hmc
            rw [← List.map_drop] at hId
            have hi1 : i + 1 ≤ m := hlt
            have hwi : IntKind.i64.wrap ((i : Int) + 1) = (i : Int) + 1 := by rw [IntKind.wrap_i64]; omega
            have hwk : IntKind.i64.wrap (k : Int) = (k : Int) := by rw [IntKind.wrap_i64]; omega
            go_wp2
            have kB : Below w.heap.size w wr.drew := hB.drew
            refine region_T (S := fun _ => True) 10 (by kernel_rfl) ?_
            obtain ⟨Wd, hWd⟩ : ∃ Wd, wr.drew = Wd := ⟨_, rfl⟩
            rw [hWd] at kB ⊢
            have hIw : Ints Wd w.heap.size Ai n (meL n [r]) := by rw [← hWd]; exact hIi
            clear hWd
            have hT : (fun _ : World => True) Wd := trivial
            refine anyT_take (i := 0) (oi := ?oi0a) (v := .slice A n c) ?hi0a (by kernel_rfl) ?hq0a ?hy0a (by assumption) ?rest0a
            case hi0a => (simp only [List.getElem?_toArray, List.getElem?_cons_zero]; first | done | rfl)
            case hq0a => first | exact fun _ _ _ h => h | exact fun _ _ _ h => (by cases h.1)
            case hy0a => (refine Or.inl ⟨by rfl, ?_⟩; intro wz hSw; go_simp; first | done | with_reducible rfl | simp | omega)
            try simp only [Act.put, List.setIfInBounds_toArray, List.set_cons_zero, List.set_cons_succ]
            refine anyT_take (i := 1) (oi := ?oi1a) (v := .slice A' n c') ?hi1a (by kernel_rfl) ?hq1a ?hy1a (by assumption) ?rest1a
            case hi1a => (simp only [List.getElem?_toArray, List.getElem?_cons_succ, List.getElem?_cons_zero]; first | done | rfl)
            case hq1a => first | exact fun _ _ _ h => h | exact fun _ _ _ h => (by cases h.1)
            case hy1a => (refine Or.inl ⟨by rfl, ?_⟩; intro wz hSw; go_simp; first | done | with_reducible rfl | simp | omega)
            try simp only [Act.put, List.setIfInBounds_toArray, List.set_cons_zero, List.set_cons_succ]
            refine anyT_take (i := 2) (oi := ?oi2a) (v := .slice Ai n ci) ?hi2a (by kernel_rfl) ?hq2a ?hy2a (by assumption) ?rest2a
            case hi2a => (simp only [List.getElem?_toArray, List.getElem?_cons_succ, List.getElem?_cons_zero]; first | done | rfl)
            case hq2a => first | exact fun _ _ _ h => h | exact fun _ _ _ h => (by cases h.1)
            case hy2a => (refine Or.inl ⟨by rfl, ?_⟩; intro wz hSw; go_simp; first | done | with_reducible rfl | simp | omega)
            try simp only [Act.put, List.setIfInBounds_toArray, List.set_cons_zero, List.set_cons_succ]
            refine anyT_take (i := 4) (oi := ?oi4a) (v := .slice (some ⟨b, off, none⟩) m c2) ?hi4a (by kernel_rfl) ?hq4a ?hy4a (by assumption) ?rest4a
            case hi4a => (simp only [List.getElem?_toArray, List.getElem?_cons_succ, List.getElem?_cons_zero]; first | done | rfl)
            case hq4a => first | exact fun _ _ _ h => h | exact fun _ _ _ h => (by cases h.1)
            case hy4a => (refine Or.inl ⟨by rfl, ?_⟩; intro wz hSw; go_simp; first | done | with_reducible rfl | simp | omega)
            try simp only [Act.put, List.setIfInBounds_toArray, List.set_cons_zero, List.set_cons_succ]
            refine anyT_take (i := 5) (oi := ?oi5a) (v := .int .i64 (i : Int)) ?hi5a (by kernel_rfl) ?hq5a ?hy5a (by assumption) ?rest5a
            case hi5a => (simp only [List.getElem?_toArray, List.getElem?_cons_succ, List.getElem?_cons_zero]; first | done | rfl)
            case hq5a => first | exact fun _ _ _ h => h | exact fun _ _ _ h => (by cases h.1)
            case hy5a => (refine Or.inl ⟨by rfl, ?_⟩; intro wz hSw; go_simp; first | done | with_reducible rfl | simp | omega)
            try simp only [Act.put, List.setIfInBounds_toArray, List.set_cons_zero, List.set_cons_succ]
            refine anyT_take (i := 6) (oi := ?oi6a) (v := .int .i64 ((i + 1 : Nat) : Int)) ?hi6a (by kernel_rfl) ?hq6a ?hy6a (by assumption) ?rest6a
            case hi6a => (simp only [List.getElem?_toArray, List.getElem?_cons_succ, List.getElem?_cons_zero]; first | done | rfl)
            case hq6a => first | exact fun _ _ _ h => h | exact fun _ _ _ h => (by cases h.1)
            case hy6a => (refine Or.inl ⟨by rfl, ?_⟩; intro wz hSw; go_simp; first | done | with_reducible rfl | simp [hwi] | omega)
            try simp only [Act.put, List.setIfInBounds_toArray, List.set_cons_zero, List.set_cons_succ]
            refine anyT_take (i := 7) (oi := ?oi7a) (v := .slice AS (m - (i + 1)) (c2 - (i + 1))) ?hi7a (by kernel_rfl) ?hq7a ?hy7a (by assumption) ?rest7a
            case hi7a => (simp only [List.getElem?_toArray, List.getElem?_cons_succ, List.getElem?_cons_zero]; first | done | rfl)
            case hq7a => first | exact fun _ _ _ h => h | exact fun _ _ _ h => (by cases h.1)
            case hy7a => (refine Or.inl ⟨by rfl, ?_⟩; intro wz hSw; go_simp; first | done | with_reducible rfl | simp [hAS] | omega)
            try simp only [Act.put, List.setIfInBounds_toArray, List.set_cons_zero, List.set_cons_succ]
            refine anyT_take (i := 8) (oi := ?oi8a) (v := .int .i64 ((k + 1 : Nat) : Int)) ?hi8a (by kernel_rfl) ?hq8a ?hy8a (by assumption) ?rest8a
            case hi8a => (simp only [List.getElem?_toArray, List.getElem?_cons_succ, List.getElem?_cons_zero]; first | done | rfl)
            case hq8a => first | exact fun _ _ _ h => h | exact fun _ _ _ h => (by cases h.1)
            case hy8a => (refine Or.inl ⟨by rfl, ?_⟩; intro wz hSw; go_simp; first | done | with_reducible rfl | simp | omega)
            try simp only [Act.put, List.setIfInBounds_toArray, List.set_cons_zero, List.set_cons_succ]
            refine anyT_take (i := 9) (oi := ?oi9a) (v := .int .i64 (k : Int)) ?hi9a (by kernel_rfl) ?hq9a ?hy9a (by assumption) ?rest9a
            case hi9a => (simp only [List.getElem?_toArray, List.getElem?_cons_succ, List.getElem?_cons_zero]; first | done | rfl)
            case hq9a => first | exact fun _ _ _ h => h | exact fun _ _ _ h => (by cases h.1)
            case hy9a => (refine Or.inl ⟨by rfl, ?_⟩; intro wz hSw; go_simp; first | done | with_reducible rfl | simp [hwk] | omega)
            try simp only [Act.put, List.setIfInBounds_toArray, List.set_cons_zero, List.set_cons_succ]
            refine anyT_one (i := 3) (by kernel_rfl) rfl (fun K' hK => ?_)
            go_simp
            refine (common_any A' n c' sf Ai ci (meL n [r]) Wd (hA'.to kB (Nat.le_refl _) kB.size) (hIw.more kB.size) hn6 hsf (fun a _ => meL_bd n [r] a)).mono ?_
            rintro e w2 ⟨v, rfl, hO2, hB2⟩
            have z2 := hB2.size
            have kz := kB.size
            have hOw := hO2.2
            rw [show (opL andI sf (meL n [r]) n).length = n by rw [opL_len]; exact hsl.out] at hOw
            obtain ⟨A3, c3, rfl, hI3⟩ := rowC_of_own hOw
            have hB3 := kB.trans (hB2.mono kz)
            have z3 := hB3.size
            have hrec := ih.out A A3 AS c c3 (m - (i + 1)) (c2 - (i + 1)) (cmL n sf r) (rs.drop (i + 1)) w2 (by omega) (hA.to hB3 (Nat.le_refl _) z3) (hI3.ints (Nat.le_refl _)) (cm_bd hsl.out hsf) (by rw [List.length_drop, Hm.out]) (hId.to hB3 (Nat.le_refl _) z3) (by omega) (by omega) (by omega)
            have Hrec := Lib.hid hrec
            clear hrec hO2 hOw hI3 hId hIi
            refine hK.out _ _ (fun _ => trivial) ?_
            clear hK K'
            try simp only [Act.put, List.setIfInBounds_toArray, List.set_cons_zero, List.set_cons_succ]
            refine anyT_one (i := 10) (by kernel_rfl) rfl (fun K' hK => ?_)
            go_simp
            refine Hrec.out.mono ?_
            rintro e w4 ⟨rfl, hB4⟩
            have hB5 := hB3.trans (hB4.mono z3)
            refine hK.out _ _ (fun h => absurd rfl h) ?_
            clear hK K'
            try simp only [Act.put, List.setIfInBounds_toArray, List.set_cons_zero, List.set_cons_succ]
            refine anyT_done (by kernel_rfl) ?_ _
            cases hr : toldL n zs k (cmL n sf r) (rs.drop (i + 1))
            · have Hn := Lib.hid (show toldA (toldL n zs k) n sf (rs.drop (i + 1)) = toldA (toldL n zs k) n sf rs by rw [← Hd.out, Hdr.out, hr, Bool.false_or])
              clear hr
              go_wp2
              go_roundw
              case rel => exact ⟨_, _, _, _, ⟨i + 1, by omega, by go_num, Hn⟩, rfl, rfl, rfl, rfl⟩
              case measure => simp [intOf]; omega
            · have Hn := Lib.hid (show toldL n zs (k + 1) sf rs = true by rw [Ht.out, ← Hd.out, Hdr.out, hr, Bool.true_or])
              clear hr
              go_wp2
              go_ret
              exact ⟨ret_bool Hn.out.symm, hB5⟩
          · obtain rfl : i = m := by omega
            have Hf := Lib.hid (show toldL n zs (k + 1) sf rs = false by rw [Ht.out, ← Hd.out, List.drop_of_length_le (by rw [Hm.out]; exact Nat.le_refl _)]; rfl)
            go_wp2_with fail
            go_ret
            exact ⟨ret_bool Hf.out.symm, hB⟩
  termination_by k => k
end Go.Proofs.Ytipdmaggfbfnlaa

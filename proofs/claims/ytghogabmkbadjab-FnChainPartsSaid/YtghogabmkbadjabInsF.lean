/- The model's insert: a number put ahead of the first one that is not less. -/
import Derived.Test.YtghogabmkbadjabGb
import Derived.Test.YtghogabmkbadjabJoI
import Derived.Test.YtghogabmkbadjabCloI
import Derived.Test.YtghogabmkbadjabGa
set_option linter.unusedVariables false
set_option linter.unusedSimpArgs false
namespace Go.Proofs.Ytghogabmkbadjab
open Go.RowKit Go.Shelf
attribute [local go_sem] Oper.semAt_some

def insAt (ts : List Int) (p : Nat) (x : Int) : List Int := ts.take p ++ [x] ++ ts.drop p
set_option maxRecDepth 100000 in
set_option maxHeartbeats 16000000 in
theorem insert_any (bt j cp : Nat) (ts : List Int) (x : Int) (w : World) (hc : ∀ i, i < j → w.cell? ⟨bt, i, none⟩ = some (.int .i64 (ts[i]?.getD 0))) (hm : ts.length = j) (hj6 : j ≤ 6) (hkc : j ≤ cp) (hcm : cp ≤ maxLen) (hbt6 : bt < w.heap.size) :
    Calls Try.prog 97 #[.slice (some ⟨bt, 0, none⟩) j cp, .int .i64 x] w fun e w' => ∃ g c, e = .returned (.slice (some ⟨g, 0, none⟩) (j + 1) c) ∧ ∃ p, p ≤ j ∧ (∀ i, i < p → ts[i]?.getD 0 < x) ∧ (p < j → x ≤ ts[p]?.getD 0) ∧
      w.heap.size ≤ g ∧ g < w'.heap.size ∧ j + 1 ≤ c ∧ c ≤ maxLen ∧ (∀ i, i < j + 1 → w'.cell? ⟨g, i, none⟩ = some (.int .i64 ((insAt ts p x)[i]?.getD 0))) ∧ Upd (fun _ => False) w w' := by
  obtain ⟨i1, hi1, hzi1, hsi1, hbi1⟩ := info_parts infoInt
  have Hm := Lib.hid hm
  have Hc := Lib.hid hc
  clear hm hc
  go_enter Try.func97, Try.ntmps97
  go_wp2_with fail
  go_loopw [5] (fun i wr => ∃ p q : Nat, p ≤ j ∧ i = .int .i64 p ∧ (∀ i, i < p → ts[i]?.getD 0 < x) ∧ wr = w.drewN q) (fun i _ => j - (intOf i).toNat)
  case atStart => exact ⟨0, 0, by omega, rfl, fun i hi => absurd hi (Nat.not_lt_zero _), rfl⟩
  case round =>
    obtain ⟨hp, q, hhk, rfl, hlow, rfl⟩ := hrel
    have Hlow := Lib.hid hlow
    clear hlow
    by_cases hgo : hp < j ∧ ts[hp]?.getD 0 < x
    · obtain ⟨hlt, hlx⟩ := hgo
      have hcc := Hc.out hp hlt
      have Hnext := Lib.hid (show ∀ i, i < hp + 1 → ts[i]?.getD 0 < x from fun i hi => by
        rcases Nat.lt_or_ge i hp with h1 | h1
        · exact Hlow.out i h1
        · obtain rfl : i = hp := by omega
          exact hlx)
      generalize ts[hp]?.getD 0 = y at *
      go_wp2_with fail
      go_roundw
      case rel => exact ⟨hp + 1, q, by omega, by go_num, Hnext.out, rfl⟩
      case measure => simp [intOf]; omega
    · have Hhi := Lib.hid (show hp < j → x ≤ ts[hp]?.getD 0 from fun h1 => by
        rcases Int.lt_or_le (ts[hp]?.getD 0) x with h2 | h2
        · exact absurd ⟨h1, h2⟩ hgo
        · exact h2)
      clear hgo
      obtain ⟨w7, hw7⟩ : ∃ w7, w.drewN q = w7 := ⟨_, rfl⟩
      have hUw7 : Upd (fun _ => False) w w7 := by rw [← hw7]; exact (Upd.refl _ _).drewN _
      have htc7 : ∀ i, i < j → w7.cell? ⟨bt, i, none⟩ = some (.int .i64 (ts[i]?.getD 0)) := by rw [← hw7]; exact Hc.out
      have z7 : w.heap.size ≤ w7.heap.size := by rw [← hw7]; exact Nat.le_refl _
      rw [hw7]
      have Hc7 := Lib.hid htc7
      clear hw7 htc7
      obtain ⟨AD, hAD⟩ : ∃ AD, (if cp = hp then some (⟨bt, 0, none⟩ : Addr) else some ⟨bt, hp, none⟩) = some AD := by split <;> exact ⟨_, rfl⟩
      have htk : (ts.take hp).length = hp := by rw [List.length_take, Hm.out]; omega
      have htd : (ts.drop hp).length = j - hp := by rw [List.length_drop, Hm.out]
      have hadd : ∀ i, i < (ts.drop hp).length → AD.add i = ⟨bt, hp + i, none⟩ := fun i hi => by
        rw [htd] at hi
        have hne : ¬ cp = hp := fun e => by omega
        rw [if_neg hne] at hAD
        cases hAD
        exact addr_add3 ..
      have hadd0 : ∀ i, i < (ts.take hp).length → (⟨bt, 0, none⟩ : Addr).add i = ⟨bt, 0 + i, none⟩ := fun i hi => addr_add3 ..
      have hgt : ∀ i, i < (ts.take hp).length → (ts.take hp)[i]?.getD 0 = ts[0 + i]?.getD 0 := fun i hi => by rw [Nat.zero_add, List.getElem?_take_of_lt (by omega)]
      have hgd : ∀ i, i < (ts.drop hp).length → (ts.drop hp)[i]?.getD 0 = ts[hp + i]?.getD 0 := fun i hi => by rw [List.getElem?_drop]
      have hone : ∀ (zs : List Int), ∀ u ∈ zs.map (Value.int .i64), u.oneCell' = true := fun zs u hu => by
        obtain ⟨z, _, rfl⟩ := List.mem_map.1 hu; rfl
      have hhc : hp ≤ cp := by omega
      have hhc' : (hp : Int) ≤ (cp : Int) := by omega
      have hhk' : (hp : Int) ≤ (j : Int) := by omega
      have Ho := Lib.hid hone
      have Hadd := Lib.hid hadd
      have Hadd0 := Lib.hid hadd0
      have Hgt := Lib.hid hgt
      have Hgd := Lib.hid hgd
      have Htk := Lib.hid htk
      have Htd := Lib.hid htd
      clear hone hadd hadd0 hgt hgd htk htd
      have hend : (decide ((hp : Int) < (j : Int)) = true → decide (ts[hp]?.getD 0 < x) = false) := fun h1 => decide_eq_false (by have := Hhi.out (by have := of_decide_eq_true h1; omega); omega)
      by_cases hlt : hp < j
      · have hcc := Hc7.out hp hlt
        have hnx : ¬ ts[hp]?.getD 0 < x := by have := Hhi.out hlt; omega
        generalize hyy : ts[hp]?.getD 0 = y at hcc hnx
        clear hyy hend
        go_wp2_with fail
        refine region_T (S := (fun _ => True)) 12 (by kernel_rfl) ?_
        have hSd : (fun _ => True) w7.drew := trivial
        have htcd : ∀ i, i < j → w7.drew.cell? ⟨bt, i, none⟩ = some (.int .i64 (ts[i]?.getD 0)) := Hc7.out
        have hUd : Upd (fun _ => False) w w7.drew := hUw7.drew
        have zd : w.heap.size ≤ w7.drew.heap.size := z7
        obtain ⟨Wd, hWd⟩ : ∃ Wd, w7.drew = Wd := ⟨_, rfl⟩
        rw [hWd] at hSd htcd hUd zd ⊢
        clear hWd hUw7 z7
        have hbtd : bt < Wd.heap.size := by omega
        have zw := hUd.size
        have Htcd := Lib.hid htcd
        clear htcd
        refine anyT_take (i := 1) (oi := ?oi1T) (v := .slice (some ⟨bt, 0, none⟩) j cp) ?hi1T (by kernel_rfl) ?hq1T ?hy1T (by assumption) ?rest1T
        case hi1T => (simp only [List.getElem?_toArray, List.getElem?_cons_succ, List.getElem?_cons_zero]; first | done | rfl)
        case hq1T => first | exact fun _ _ _ h => h | exact fun _ _ _ h => (by cases h.1)
        case hy1T => (refine Or.inl ⟨by rfl, ?_⟩; intro wz hSw; go_simp; first | done | with_reducible rfl | simp | omega)
        try simp only [Act.put, List.setIfInBounds_toArray, List.set_cons_zero, List.set_cons_succ]
        refine anyT_take (i := 2) (oi := ?oi2T) (v := .int .i64 (hp : Int)) ?hi2T (by kernel_rfl) ?hq2T ?hy2T (by assumption) ?rest2T
        case hi2T => (simp only [List.getElem?_toArray, List.getElem?_cons_succ, List.getElem?_cons_zero]; first | done | rfl)
        case hq2T => first | exact fun _ _ _ h => h | exact fun _ _ _ h => (by cases h.1)
        case hy2T => (refine Or.inl ⟨by rfl, ?_⟩; intro wz hSw; go_simp; first | done | with_reducible rfl | simp | omega)
        try simp only [Act.put, List.setIfInBounds_toArray, List.set_cons_zero, List.set_cons_succ]
        refine anyT_take (i := 3) (oi := ?oi3T) (v := .slice (some ⟨bt, 0, none⟩) hp cp) ?hi3T (by kernel_rfl) ?hq3T ?hy3T (by assumption) ?rest3T
        case hi3T => (simp only [List.getElem?_toArray, List.getElem?_cons_succ, List.getElem?_cons_zero]; first | done | rfl)
        case hq3T => first | exact fun _ _ _ h => h | exact fun _ _ _ h => (by cases h.1)
        case hy3T => (refine Or.inl ⟨by rfl, ?_⟩; intro wz hSw; go_simp; first | done | with_reducible rfl | simp | omega)
        try simp only [Act.put, List.setIfInBounds_toArray, List.set_cons_zero, List.set_cons_succ]
        refine anyT_take (i := 5) (oi := ?oi5T) (v := .int .i64 x) ?hi5T (by kernel_rfl) ?hq5T ?hy5T (by assumption) ?rest5T
        case hi5T => (simp only [List.getElem?_toArray, List.getElem?_cons_succ, List.getElem?_cons_zero]; first | done | rfl)
        case hq5T => first | exact fun _ _ _ h => h | exact fun _ _ _ h => (by cases h.1)
        case hy5T => (refine Or.inl ⟨by rfl, ?_⟩; intro wz hSw; go_simp; first | done | with_reducible rfl | simp | omega)
        try simp only [Act.put, List.setIfInBounds_toArray, List.set_cons_zero, List.set_cons_succ]
        refine anyT_take (i := 8) (oi := ?oi8T) (v := .slice (some ⟨bt, 0, none⟩) j cp) ?hi8T (by kernel_rfl) ?hq8T ?hy8T (by assumption) ?rest8T
        case hi8T => (simp only [List.getElem?_toArray, List.getElem?_cons_succ, List.getElem?_cons_zero]; first | done | rfl)
        case hq8T => first | exact fun _ _ _ h => h | exact fun _ _ _ h => (by cases h.1)
        case hy8T => (refine Or.inl ⟨by rfl, ?_⟩; intro wz hSw; go_simp; first | done | with_reducible rfl | simp | omega)
        try simp only [Act.put, List.setIfInBounds_toArray, List.set_cons_zero, List.set_cons_succ]
        refine anyT_take (i := 9) (oi := ?oi9T) (v := .int .i64 (hp : Int)) ?hi9T (by kernel_rfl) ?hq9T ?hy9T (by assumption) ?rest9T
        case hi9T => (simp only [List.getElem?_toArray, List.getElem?_cons_succ, List.getElem?_cons_zero]; first | done | rfl)
        case hq9T => first | exact fun _ _ _ h => h | exact fun _ _ _ h => (by cases h.1)
        case hy9T => (refine Or.inl ⟨by rfl, ?_⟩; intro wz hSw; go_simp; first | done | with_reducible rfl | simp | omega)
        try simp only [Act.put, List.setIfInBounds_toArray, List.set_cons_zero, List.set_cons_succ]
        refine anyT_take (i := 10) (oi := ?oi10T) (v := .slice (some AD) (j - hp) (cp - hp)) ?hi10T (by kernel_rfl) ?hq10T ?hy10T (by assumption) ?rest10T
        case hi10T => (simp only [List.getElem?_toArray, List.getElem?_cons_succ, List.getElem?_cons_zero]; first | done | rfl)
        case hq10T => first | exact fun _ _ _ h => h | exact fun _ _ _ h => (by cases h.1)
        case hy10T => (refine Or.inl ⟨by rfl, ?_⟩; intro wz hSw; go_simp; first | done | with_reducible rfl | simp [hAD] | omega)
        try simp only [Act.put, List.setIfInBounds_toArray, List.set_cons_zero, List.set_cons_succ]
        refine anyT_two (i := 0) (j := 6) (by kernel_rfl) rfl rfl (fun K' hK => ?_) (fun K' hK => ?_)
        · go_simp
          obtain ⟨W1, hW1⟩ : ∃ W1, Wd.alloc (.cells #[] 3) = W1 := ⟨_, rfl⟩
          have hU1 : Upd (fun q => Wd.heap.size ≤ q) Wd W1 := by rw [← hW1]; exact (Upd.refl _ _).alloc _
          have hown0 : W1.ownsRow Wd.heap.size 3 1 (.slice (some ⟨Wd.heap.size, 0, none⟩) 0 0) 0 [] := by rw [← hW1]; exact own_new Wd 3
          have z1 : W1.heap.size = Wd.heap.size + 1 := by rw [← hW1]; simp
          rw [hW1]
          clear hW1
          have hS1 : (fun _ => True) W1 := trivial
          refine hK.out _ _ (fun _ => hS1) ?_
          clear hK K'
          try simp only [Act.put, List.setIfInBounds_toArray, List.set_cons_zero, List.set_cons_succ]
          refine anyT_two (i := 4) (j := 6) (by kernel_rfl) rfl rfl (fun K' hK => ?_) (fun K' hK => ?_)
          · refine step_append_any _ rfl (.tmp 20) (.tmp 23) _ rfl Wd.heap.size 3 i1 _ 8 Try.underlying22 hi1 hzi1 hsi1 hbi1 rfl (.slice (some ⟨Wd.heap.size, 0, none⟩) 0 0) 0 [] rfl (by simp) (hown0) ⟨bt, 0, none⟩ hp cp ((ts.take hp).map (Value.int .i64)) rfl (by rw [List.length_map]; exact Htk.out) (news_at Htcd.out (hU1) hbtd Hadd0.out Hgt.out (by rw [Htk.out]; omega)) (Ho.out _) (by simp [maxLen]; omega) (by omega) (by omega) ?_
            intro g1 cap1 x1 hown1 hgrow1 hg1 hl1 hc1 hm1
            rw [Nat.zero_add] at hown1
            simp only [Nat.zero_add] at hc1
            simp only [Nat.zero_add]
            simp only [List.nil_append] at hown1
            have hU3 : Upd (fun q => Wd.heap.size ≤ q) Wd x1 := (hU1).grown hgrow1 (fun q hq => .inr (by simp [Value.ownBlock] at hq; omega))
            have hS3 : (fun _ => True) x1 := trivial
            refine hK.out _ _ (fun _ => hS3) ?_
            clear hK K'
            try simp only [Act.put, List.setIfInBounds_toArray, List.set_cons_zero, List.set_cons_succ]
            refine anyT_one (i := 6) (by kernel_rfl) rfl (fun K' hK => ?_)
            go_simp
            have hUz : Upd (fun q => Wd.heap.size ≤ q) Wd (x1.alloc (.cells #[Value.int .i64 x] 3)) := hU3.alloc _
            have hownz := hown1.alloc (.cells #[Value.int .i64 x] 3)
            have hxz : (x1.alloc (.cells #[Value.int .i64 x] 3)).cell? ⟨x1.heap.size, 0, none⟩ = some (.int .i64 x) := cell_new _ _ _
            have hS4 : (fun _ => True) (x1.alloc (.cells #[Value.int .i64 x] 3)) := trivial
            have hb1 : ∃ b1, x1.heap.size = b1 := ⟨_, rfl⟩
            obtain ⟨b1, hb1⟩ := hb1
            rw [hb1] at hxz ⊢
            clear hb1
            generalize x1.alloc (.cells #[Value.int .i64 x] 3) = Wz at *
            refine hK.out _ _ (fun _ => hS4) ?_
            clear hK K'
            try simp only [Act.put, List.setIfInBounds_toArray, List.set_cons_zero, List.set_cons_succ]
            have zz := hUz.size
            refine anyT_one (i := 7) (by kernel_rfl) rfl (fun K' hK => ?_)
            refine step_append_any _ rfl (.tmp 24) (.tmp 26) _ rfl Wd.heap.size 3 i1 _ 8 Try.underlying22 hi1 hzi1 hsi1 hbi1 rfl (.slice (some ⟨g1, 0, none⟩) hp cap1) hp _ rfl (by simp) hownz ⟨b1, 0, none⟩ 1 1 [.int .i64 x] rfl rfl (news_one hxz) (by simp [Value.oneCell']) (by simp [maxLen]; omega) (by omega) (by omega) ?_
            intro g2 cap2 x2 hown2 hgrow2 hg2 hl2 hc2 hm2
            have hU4 : Upd (fun q => Wd.heap.size ≤ q) Wd x2 := hUz.grown hgrow2 (fun q hq => .inr (by simp [Value.ownBlock] at hq; omega))
            have hS6 : (fun _ => True) x2 := trivial
            have zx2 := hU4.size
            refine hK.out _ _ (fun _ => hS6) ?_
            clear hK K'
            try simp only [Act.put, List.setIfInBounds_toArray, List.set_cons_zero, List.set_cons_succ]
            refine anyT_one (i := 11) (by kernel_rfl) rfl (fun K' hK => ?_)
            refine step_append_any _ rfl (.tmp 27) (.tmp 30) _ rfl Wd.heap.size 3 i1 _ 8 Try.underlying22 hi1 hzi1 hsi1 hbi1 rfl (.slice (some ⟨g2, 0, none⟩) (hp + 1) cap2) (hp + 1) _ rfl (by simp) hown2 AD (j - hp) (cp - hp) ((ts.drop hp).map (Value.int .i64)) rfl (by rw [List.length_map]; exact Htd.out) (news_at Htcd.out hU4 hbtd Hadd.out Hgd.out (by rw [Htd.out]; omega)) (Ho.out _) (by simp [maxLen]; omega) (by omega) (by omega) ?_
            intro g3 cap3 x3 hown3 hgrow3 hg3 hl3 hc3 hm3
            have hU5 : Upd (fun q => Wd.heap.size ≤ q) Wd x3 := hU4.grown hgrow3 (fun q hq => .inr (by simp [Value.ownBlock] at hq; omega))
            have hS5 : (fun _ => True) x3 := trivial
            refine hK.out _ _ (fun _ => hS5) ?_
            clear hK K'
            try simp only [Act.put, List.setIfInBounds_toArray, List.set_cons_zero, List.set_cons_succ]
            refine anyT_one (i := 12) (by kernel_rfl) rfl (fun K' hK => ?_)
            go_simp
            refine hK.out _ _ (fun h => absurd rfl h) ?_
            clear hK K'
            try simp only [Act.put, List.setIfInBounds_toArray, List.set_cons_zero, List.set_cons_succ]
            refine anyT_done (by kernel_rfl) ?_ _
            have e3 : ((ts.take hp).map (Value.int .i64) ++ [Value.int .i64 x]) ++ (ts.drop hp).map (Value.int .i64) = (ts.take hp ++ [x] ++ ts.drop hp).map (Value.int .i64) := by simp
            rw [e3] at hown3
            have hn3 : hp + 1 + (j - hp) = j + 1 := by omega
            rw [hn3] at hown3 hc3
            obtain ⟨hl3', hc3'⟩ := own_cells hown3
            simp only [hn3]
            have hU8 : Upd (fun _ => False) w x3 := hUd.trans' hU5 (fun i hi e => by omega)
            have hgl : w.heap.size ≤ g3 := by omega
            have Hc3 := Lib.hid hc3'
            have Hl3 := Lib.hid hl3'
            clear hc3' hl3' hown1 hown2 hown3 hownz e3
            go_wp2_with fail
            go_ret
            exact ⟨g3, cap3, rfl, hp, hhk, Hlow.out, Hhi.out, hgl, hl3, hc3, hm3, (fun i hi => Hc3.out i hi), hU8⟩
          · go_simp
            obtain ⟨W2, hW2⟩ : ∃ W2, W1.alloc (.cells #[Value.int .i64 x] 3) = W2 := ⟨_, rfl⟩
            have hU2 : Upd (fun q => Wd.heap.size ≤ q) Wd W2 := by rw [← hW2]; exact hU1.alloc _
            have hown2' : W2.ownsRow Wd.heap.size 3 1 (.slice (some ⟨Wd.heap.size, 0, none⟩) 0 0) 0 [] := by rw [← hW2]; exact hown0.alloc _
            have hxc : W2.cell? ⟨Wd.heap.size + 1, 0, none⟩ = some (.int .i64 x) := by rw [← z1, ← hW2]; exact cell_new _ _ _
            have z2 : W2.heap.size = W1.heap.size + 1 := by rw [← hW2]; simp
            rw [hW2]
            clear hW2
            have hS2 : (fun _ => True) W2 := trivial
            refine hK.out _ _ (fun _ => hS2) ?_
            clear hK K'
            try simp only [Act.put, List.setIfInBounds_toArray, List.set_cons_zero, List.set_cons_succ]
            refine anyT_one (i := 4) (by kernel_rfl) rfl (fun K' hK => ?_)
            refine step_append_any _ rfl (.tmp 20) (.tmp 23) _ rfl Wd.heap.size 3 i1 _ 8 Try.underlying22 hi1 hzi1 hsi1 hbi1 rfl (.slice (some ⟨Wd.heap.size, 0, none⟩) 0 0) 0 [] rfl (by simp) (hown2') ⟨bt, 0, none⟩ hp cp ((ts.take hp).map (Value.int .i64)) rfl (by rw [List.length_map]; exact Htk.out) (news_at Htcd.out (hU2) hbtd Hadd0.out Hgt.out (by rw [Htk.out]; omega)) (Ho.out _) (by simp [maxLen]; omega) (by omega) (by omega) ?_
            intro g1 cap1 x1 hown1 hgrow1 hg1 hl1 hc1 hm1
            rw [Nat.zero_add] at hown1
            simp only [Nat.zero_add] at hc1
            simp only [Nat.zero_add]
            simp only [List.nil_append] at hown1
            have hU3 : Upd (fun q => Wd.heap.size ≤ q) Wd x1 := (hU2).grown hgrow1 (fun q hq => .inr (by simp [Value.ownBlock] at hq; omega))
            have hS3 : (fun _ => True) x1 := trivial
            refine hK.out _ _ (fun _ => hS3) ?_
            clear hK K'
            try simp only [Act.put, List.setIfInBounds_toArray, List.set_cons_zero, List.set_cons_succ]
            have hUz := hU3
            have hownz := hown1
            have hxz : x1.cell? ⟨Wd.heap.size + 1, 0, none⟩ = some (.int .i64 x) := (World.cell?_of_block (hgrow1.block _ (by simp; omega) (by first | (simp [Value.ownBlock]; done) | (simp [Value.ownBlock]; omega)))).trans hxc
            have zz := hUz.size
            refine anyT_one (i := 7) (by kernel_rfl) rfl (fun K' hK => ?_)
            refine step_append_any _ rfl (.tmp 24) (.tmp 26) _ rfl Wd.heap.size 3 i1 _ 8 Try.underlying22 hi1 hzi1 hsi1 hbi1 rfl (.slice (some ⟨g1, 0, none⟩) hp cap1) hp _ rfl (by simp) hownz ⟨Wd.heap.size + 1, 0, none⟩ 1 1 [.int .i64 x] rfl rfl (news_one hxz) (by simp [Value.oneCell']) (by simp [maxLen]; omega) (by omega) (by omega) ?_
            intro g2 cap2 x2 hown2 hgrow2 hg2 hl2 hc2 hm2
            have hU4 : Upd (fun q => Wd.heap.size ≤ q) Wd x2 := hUz.grown hgrow2 (fun q hq => .inr (by simp [Value.ownBlock] at hq; omega))
            have hS6 : (fun _ => True) x2 := trivial
            have zx2 := hU4.size
            refine hK.out _ _ (fun _ => hS6) ?_
            clear hK K'
            try simp only [Act.put, List.setIfInBounds_toArray, List.set_cons_zero, List.set_cons_succ]
            refine anyT_one (i := 11) (by kernel_rfl) rfl (fun K' hK => ?_)
            refine step_append_any _ rfl (.tmp 27) (.tmp 30) _ rfl Wd.heap.size 3 i1 _ 8 Try.underlying22 hi1 hzi1 hsi1 hbi1 rfl (.slice (some ⟨g2, 0, none⟩) (hp + 1) cap2) (hp + 1) _ rfl (by simp) hown2 AD (j - hp) (cp - hp) ((ts.drop hp).map (Value.int .i64)) rfl (by rw [List.length_map]; exact Htd.out) (news_at Htcd.out hU4 hbtd Hadd.out Hgd.out (by rw [Htd.out]; omega)) (Ho.out _) (by simp [maxLen]; omega) (by omega) (by omega) ?_
            intro g3 cap3 x3 hown3 hgrow3 hg3 hl3 hc3 hm3
            have hU5 : Upd (fun q => Wd.heap.size ≤ q) Wd x3 := hU4.grown hgrow3 (fun q hq => .inr (by simp [Value.ownBlock] at hq; omega))
            have hS5 : (fun _ => True) x3 := trivial
            refine hK.out _ _ (fun _ => hS5) ?_
            clear hK K'
            try simp only [Act.put, List.setIfInBounds_toArray, List.set_cons_zero, List.set_cons_succ]
            refine anyT_one (i := 12) (by kernel_rfl) rfl (fun K' hK => ?_)
            go_simp
            refine hK.out _ _ (fun h => absurd rfl h) ?_
            clear hK K'
            try simp only [Act.put, List.setIfInBounds_toArray, List.set_cons_zero, List.set_cons_succ]
            refine anyT_done (by kernel_rfl) ?_ _
            have e3 : ((ts.take hp).map (Value.int .i64) ++ [Value.int .i64 x]) ++ (ts.drop hp).map (Value.int .i64) = (ts.take hp ++ [x] ++ ts.drop hp).map (Value.int .i64) := by simp
            rw [e3] at hown3
            have hn3 : hp + 1 + (j - hp) = j + 1 := by omega
            rw [hn3] at hown3 hc3
            obtain ⟨hl3', hc3'⟩ := own_cells hown3
            simp only [hn3]
            have hU8 : Upd (fun _ => False) w x3 := hUd.trans' hU5 (fun i hi e => by omega)
            have hgl : w.heap.size ≤ g3 := by omega
            have Hc3 := Lib.hid hc3'
            have Hl3 := Lib.hid hl3'
            clear hc3' hl3' hown1 hown2 hown3 hownz e3
            go_wp2_with fail
            go_ret
            exact ⟨g3, cap3, rfl, hp, hhk, Hlow.out, Hhi.out, hgl, hl3, hc3, hm3, (fun i hi => Hc3.out i hi), hU8⟩
        · go_simp
          obtain ⟨W1, hW1⟩ : ∃ W1, Wd.alloc (.cells #[Value.int .i64 x] 3) = W1 := ⟨_, rfl⟩
          have hU1 : Upd (fun q => Wd.heap.size ≤ q) Wd W1 := by rw [← hW1]; exact (Upd.refl _ _).alloc _
          have hxc1 : W1.cell? ⟨Wd.heap.size, 0, none⟩ = some (.int .i64 x) := by rw [← hW1]; exact cell_new _ _ _
          have z1 : W1.heap.size = Wd.heap.size + 1 := by rw [← hW1]; simp
          rw [hW1]
          clear hW1
          have hS1 : (fun _ => True) W1 := trivial
          refine hK.out _ _ (fun _ => hS1) ?_
          clear hK K'
          try simp only [Act.put, List.setIfInBounds_toArray, List.set_cons_zero, List.set_cons_succ]
          refine anyT_one (i := 0) (by kernel_rfl) rfl (fun K' hK => ?_)
          go_simp
          obtain ⟨W2, hW2⟩ : ∃ W2, W1.alloc (.cells #[] 3) = W2 := ⟨_, rfl⟩
          have hU2 : Upd (fun q => Wd.heap.size ≤ q) Wd W2 := by rw [← hW2]; exact hU1.alloc _
          have hown2' : W2.ownsRow Wd.heap.size 3 1 (.slice (some ⟨Wd.heap.size + 1, 0, none⟩) 0 0) 0 [] := by rw [← z1, ← hW2]; exact own_sooner (own_new W1 3) (by omega)
          have hxc : W2.cell? ⟨Wd.heap.size, 0, none⟩ = some (.int .i64 x) := by rw [← hW2]; exact (World.cell?_of_block (Below.heap_alloc _ _ _ (by simp; omega))).trans hxc1
          have z2 : W2.heap.size = W1.heap.size + 1 := by rw [← hW2]; simp
          rw [hW2]
          clear hW2
          have hS2 : (fun _ => True) W2 := trivial
          refine hK.out _ _ (fun _ => hS2) ?_
          clear hK K'
          try simp only [Act.put, List.setIfInBounds_toArray, List.set_cons_zero, List.set_cons_succ]
          refine anyT_one (i := 4) (by kernel_rfl) rfl (fun K' hK => ?_)
          refine step_append_any _ rfl (.tmp 20) (.tmp 23) _ rfl Wd.heap.size 3 i1 _ 8 Try.underlying22 hi1 hzi1 hsi1 hbi1 rfl (.slice (some ⟨Wd.heap.size + 1, 0, none⟩) 0 0) 0 [] rfl (by simp) (hown2') ⟨bt, 0, none⟩ hp cp ((ts.take hp).map (Value.int .i64)) rfl (by rw [List.length_map]; exact Htk.out) (news_at Htcd.out (hU2) hbtd Hadd0.out Hgt.out (by rw [Htk.out]; omega)) (Ho.out _) (by simp [maxLen]; omega) (by omega) (by omega) ?_
          intro g1 cap1 x1 hown1 hgrow1 hg1 hl1 hc1 hm1
          rw [Nat.zero_add] at hown1
          simp only [Nat.zero_add] at hc1
          simp only [Nat.zero_add]
          simp only [List.nil_append] at hown1
          have hU3 : Upd (fun q => Wd.heap.size ≤ q) Wd x1 := (hU2).grown hgrow1 (fun q hq => .inr (by simp [Value.ownBlock] at hq; omega))
          have hS3 : (fun _ => True) x1 := trivial
          refine hK.out _ _ (fun _ => hS3) ?_
          clear hK K'
          try simp only [Act.put, List.setIfInBounds_toArray, List.set_cons_zero, List.set_cons_succ]
          have hUz := hU3
          have hownz := hown1
          have hxz : x1.cell? ⟨Wd.heap.size, 0, none⟩ = some (.int .i64 x) := (World.cell?_of_block (hgrow1.block _ (by simp; omega) (by first | (simp [Value.ownBlock]; done) | (simp [Value.ownBlock]; omega)))).trans hxc
          have zz := hUz.size
          refine anyT_one (i := 7) (by kernel_rfl) rfl (fun K' hK => ?_)
          refine step_append_any _ rfl (.tmp 24) (.tmp 26) _ rfl Wd.heap.size 3 i1 _ 8 Try.underlying22 hi1 hzi1 hsi1 hbi1 rfl (.slice (some ⟨g1, 0, none⟩) hp cap1) hp _ rfl (by simp) hownz ⟨Wd.heap.size, 0, none⟩ 1 1 [.int .i64 x] rfl rfl (news_one hxz) (by simp [Value.oneCell']) (by simp [maxLen]; omega) (by omega) (by omega) ?_
          intro g2 cap2 x2 hown2 hgrow2 hg2 hl2 hc2 hm2
          have hU4 : Upd (fun q => Wd.heap.size ≤ q) Wd x2 := hUz.grown hgrow2 (fun q hq => .inr (by simp [Value.ownBlock] at hq; omega))
          have hS6 : (fun _ => True) x2 := trivial
          have zx2 := hU4.size
          refine hK.out _ _ (fun _ => hS6) ?_
          clear hK K'
          try simp only [Act.put, List.setIfInBounds_toArray, List.set_cons_zero, List.set_cons_succ]
          refine anyT_one (i := 11) (by kernel_rfl) rfl (fun K' hK => ?_)
          refine step_append_any _ rfl (.tmp 27) (.tmp 30) _ rfl Wd.heap.size 3 i1 _ 8 Try.underlying22 hi1 hzi1 hsi1 hbi1 rfl (.slice (some ⟨g2, 0, none⟩) (hp + 1) cap2) (hp + 1) _ rfl (by simp) hown2 AD (j - hp) (cp - hp) ((ts.drop hp).map (Value.int .i64)) rfl (by rw [List.length_map]; exact Htd.out) (news_at Htcd.out hU4 hbtd Hadd.out Hgd.out (by rw [Htd.out]; omega)) (Ho.out _) (by simp [maxLen]; omega) (by omega) (by omega) ?_
          intro g3 cap3 x3 hown3 hgrow3 hg3 hl3 hc3 hm3
          have hU5 : Upd (fun q => Wd.heap.size ≤ q) Wd x3 := hU4.grown hgrow3 (fun q hq => .inr (by simp [Value.ownBlock] at hq; omega))
          have hS5 : (fun _ => True) x3 := trivial
          refine hK.out _ _ (fun _ => hS5) ?_
          clear hK K'
          try simp only [Act.put, List.setIfInBounds_toArray, List.set_cons_zero, List.set_cons_succ]
          refine anyT_one (i := 12) (by kernel_rfl) rfl (fun K' hK => ?_)
          go_simp
          refine hK.out _ _ (fun h => absurd rfl h) ?_
          clear hK K'
          try simp only [Act.put, List.setIfInBounds_toArray, List.set_cons_zero, List.set_cons_succ]
          refine anyT_done (by kernel_rfl) ?_ _
          have e3 : ((ts.take hp).map (Value.int .i64) ++ [Value.int .i64 x]) ++ (ts.drop hp).map (Value.int .i64) = (ts.take hp ++ [x] ++ ts.drop hp).map (Value.int .i64) := by simp
          rw [e3] at hown3
          have hn3 : hp + 1 + (j - hp) = j + 1 := by omega
          rw [hn3] at hown3 hc3
          obtain ⟨hl3', hc3'⟩ := own_cells hown3
          simp only [hn3]
          have hU8 : Upd (fun _ => False) w x3 := hUd.trans' hU5 (fun i hi e => by omega)
          have hgl : w.heap.size ≤ g3 := by omega
          have Hc3 := Lib.hid hc3'
          have Hl3 := Lib.hid hl3'
          clear hc3' hl3' hown1 hown2 hown3 hownz e3
          go_wp2_with fail
          go_ret
          exact ⟨g3, cap3, rfl, hp, hhk, Hlow.out, Hhi.out, hgl, hl3, hc3, hm3, (fun i hi => Hc3.out i hi), hU8⟩
      · clear hend
        go_wp2_with fail
        refine region_T (S := (fun _ => True)) 12 (by kernel_rfl) ?_
        have hSd : (fun _ => True) w7.drew := trivial
        have htcd : ∀ i, i < j → w7.drew.cell? ⟨bt, i, none⟩ = some (.int .i64 (ts[i]?.getD 0)) := Hc7.out
        have hUd : Upd (fun _ => False) w w7.drew := hUw7.drew
        have zd : w.heap.size ≤ w7.drew.heap.size := z7
        obtain ⟨Wd, hWd⟩ : ∃ Wd, w7.drew = Wd := ⟨_, rfl⟩
        rw [hWd] at hSd htcd hUd zd ⊢
        clear hWd hUw7 z7
        have hbtd : bt < Wd.heap.size := by omega
        have zw := hUd.size
        have Htcd := Lib.hid htcd
        clear htcd
        refine anyT_take (i := 1) (oi := ?oi1U) (v := .slice (some ⟨bt, 0, none⟩) j cp) ?hi1U (by kernel_rfl) ?hq1U ?hy1U (by assumption) ?rest1U
        case hi1U => (simp only [List.getElem?_toArray, List.getElem?_cons_succ, List.getElem?_cons_zero]; first | done | rfl)
        case hq1U => first | exact fun _ _ _ h => h | exact fun _ _ _ h => (by cases h.1)
        case hy1U => (refine Or.inl ⟨by rfl, ?_⟩; intro wz hSw; go_simp; first | done | with_reducible rfl | simp | omega)
        try simp only [Act.put, List.setIfInBounds_toArray, List.set_cons_zero, List.set_cons_succ]
        refine anyT_take (i := 2) (oi := ?oi2U) (v := .int .i64 (hp : Int)) ?hi2U (by kernel_rfl) ?hq2U ?hy2U (by assumption) ?rest2U
        case hi2U => (simp only [List.getElem?_toArray, List.getElem?_cons_succ, List.getElem?_cons_zero]; first | done | rfl)
        case hq2U => first | exact fun _ _ _ h => h | exact fun _ _ _ h => (by cases h.1)
        case hy2U => (refine Or.inl ⟨by rfl, ?_⟩; intro wz hSw; go_simp; first | done | with_reducible rfl | simp | omega)
        try simp only [Act.put, List.setIfInBounds_toArray, List.set_cons_zero, List.set_cons_succ]
        refine anyT_take (i := 3) (oi := ?oi3U) (v := .slice (some ⟨bt, 0, none⟩) hp cp) ?hi3U (by kernel_rfl) ?hq3U ?hy3U (by assumption) ?rest3U
        case hi3U => (simp only [List.getElem?_toArray, List.getElem?_cons_succ, List.getElem?_cons_zero]; first | done | rfl)
        case hq3U => first | exact fun _ _ _ h => h | exact fun _ _ _ h => (by cases h.1)
        case hy3U => (refine Or.inl ⟨by rfl, ?_⟩; intro wz hSw; go_simp; first | done | with_reducible rfl | simp | omega)
        try simp only [Act.put, List.setIfInBounds_toArray, List.set_cons_zero, List.set_cons_succ]
        refine anyT_take (i := 5) (oi := ?oi5U) (v := .int .i64 x) ?hi5U (by kernel_rfl) ?hq5U ?hy5U (by assumption) ?rest5U
        case hi5U => (simp only [List.getElem?_toArray, List.getElem?_cons_succ, List.getElem?_cons_zero]; first | done | rfl)
        case hq5U => first | exact fun _ _ _ h => h | exact fun _ _ _ h => (by cases h.1)
        case hy5U => (refine Or.inl ⟨by rfl, ?_⟩; intro wz hSw; go_simp; first | done | with_reducible rfl | simp | omega)
        try simp only [Act.put, List.setIfInBounds_toArray, List.set_cons_zero, List.set_cons_succ]
        refine anyT_take (i := 8) (oi := ?oi8U) (v := .slice (some ⟨bt, 0, none⟩) j cp) ?hi8U (by kernel_rfl) ?hq8U ?hy8U (by assumption) ?rest8U
        case hi8U => (simp only [List.getElem?_toArray, List.getElem?_cons_succ, List.getElem?_cons_zero]; first | done | rfl)
        case hq8U => first | exact fun _ _ _ h => h | exact fun _ _ _ h => (by cases h.1)
        case hy8U => (refine Or.inl ⟨by rfl, ?_⟩; intro wz hSw; go_simp; first | done | with_reducible rfl | simp | omega)
        try simp only [Act.put, List.setIfInBounds_toArray, List.set_cons_zero, List.set_cons_succ]
        refine anyT_take (i := 9) (oi := ?oi9U) (v := .int .i64 (hp : Int)) ?hi9U (by kernel_rfl) ?hq9U ?hy9U (by assumption) ?rest9U
        case hi9U => (simp only [List.getElem?_toArray, List.getElem?_cons_succ, List.getElem?_cons_zero]; first | done | rfl)
        case hq9U => first | exact fun _ _ _ h => h | exact fun _ _ _ h => (by cases h.1)
        case hy9U => (refine Or.inl ⟨by rfl, ?_⟩; intro wz hSw; go_simp; first | done | with_reducible rfl | simp | omega)
        try simp only [Act.put, List.setIfInBounds_toArray, List.set_cons_zero, List.set_cons_succ]
        refine anyT_take (i := 10) (oi := ?oi10U) (v := .slice (some AD) (j - hp) (cp - hp)) ?hi10U (by kernel_rfl) ?hq10U ?hy10U (by assumption) ?rest10U
        case hi10U => (simp only [List.getElem?_toArray, List.getElem?_cons_succ, List.getElem?_cons_zero]; first | done | rfl)
        case hq10U => first | exact fun _ _ _ h => h | exact fun _ _ _ h => (by cases h.1)
        case hy10U => (refine Or.inl ⟨by rfl, ?_⟩; intro wz hSw; go_simp; first | done | with_reducible rfl | simp [hAD] | omega)
        try simp only [Act.put, List.setIfInBounds_toArray, List.set_cons_zero, List.set_cons_succ]
        refine anyT_two (i := 0) (j := 6) (by kernel_rfl) rfl rfl (fun K' hK => ?_) (fun K' hK => ?_)
        · go_simp
          obtain ⟨W1, hW1⟩ : ∃ W1, Wd.alloc (.cells #[] 3) = W1 := ⟨_, rfl⟩
          have hU1 : Upd (fun q => Wd.heap.size ≤ q) Wd W1 := by rw [← hW1]; exact (Upd.refl _ _).alloc _
          have hown0 : W1.ownsRow Wd.heap.size 3 1 (.slice (some ⟨Wd.heap.size, 0, none⟩) 0 0) 0 [] := by rw [← hW1]; exact own_new Wd 3
          have z1 : W1.heap.size = Wd.heap.size + 1 := by rw [← hW1]; simp
          rw [hW1]
          clear hW1
          have hS1 : (fun _ => True) W1 := trivial
          refine hK.out _ _ (fun _ => hS1) ?_
          clear hK K'
          try simp only [Act.put, List.setIfInBounds_toArray, List.set_cons_zero, List.set_cons_succ]
          refine anyT_two (i := 4) (j := 6) (by kernel_rfl) rfl rfl (fun K' hK => ?_) (fun K' hK => ?_)
          · refine step_append_any _ rfl (.tmp 20) (.tmp 23) _ rfl Wd.heap.size 3 i1 _ 8 Try.underlying22 hi1 hzi1 hsi1 hbi1 rfl (.slice (some ⟨Wd.heap.size, 0, none⟩) 0 0) 0 [] rfl (by simp) (hown0) ⟨bt, 0, none⟩ hp cp ((ts.take hp).map (Value.int .i64)) rfl (by rw [List.length_map]; exact Htk.out) (news_at Htcd.out (hU1) hbtd Hadd0.out Hgt.out (by rw [Htk.out]; omega)) (Ho.out _) (by simp [maxLen]; omega) (by omega) (by omega) ?_
            intro g1 cap1 x1 hown1 hgrow1 hg1 hl1 hc1 hm1
            rw [Nat.zero_add] at hown1
            simp only [Nat.zero_add] at hc1
            simp only [Nat.zero_add]
            simp only [List.nil_append] at hown1
            have hU3 : Upd (fun q => Wd.heap.size ≤ q) Wd x1 := (hU1).grown hgrow1 (fun q hq => .inr (by simp [Value.ownBlock] at hq; omega))
            have hS3 : (fun _ => True) x1 := trivial
            refine hK.out _ _ (fun _ => hS3) ?_
            clear hK K'
            try simp only [Act.put, List.setIfInBounds_toArray, List.set_cons_zero, List.set_cons_succ]
            refine anyT_one (i := 6) (by kernel_rfl) rfl (fun K' hK => ?_)
            go_simp
            have hUz : Upd (fun q => Wd.heap.size ≤ q) Wd (x1.alloc (.cells #[Value.int .i64 x] 3)) := hU3.alloc _
            have hownz := hown1.alloc (.cells #[Value.int .i64 x] 3)
            have hxz : (x1.alloc (.cells #[Value.int .i64 x] 3)).cell? ⟨x1.heap.size, 0, none⟩ = some (.int .i64 x) := cell_new _ _ _
            have hS4 : (fun _ => True) (x1.alloc (.cells #[Value.int .i64 x] 3)) := trivial
            have hb1 : ∃ b1, x1.heap.size = b1 := ⟨_, rfl⟩
            obtain ⟨b1, hb1⟩ := hb1
            rw [hb1] at hxz ⊢
            clear hb1
            generalize x1.alloc (.cells #[Value.int .i64 x] 3) = Wz at *
            refine hK.out _ _ (fun _ => hS4) ?_
            clear hK K'
            try simp only [Act.put, List.setIfInBounds_toArray, List.set_cons_zero, List.set_cons_succ]
            have zz := hUz.size
            refine anyT_one (i := 7) (by kernel_rfl) rfl (fun K' hK => ?_)
            refine step_append_any _ rfl (.tmp 24) (.tmp 26) _ rfl Wd.heap.size 3 i1 _ 8 Try.underlying22 hi1 hzi1 hsi1 hbi1 rfl (.slice (some ⟨g1, 0, none⟩) hp cap1) hp _ rfl (by simp) hownz ⟨b1, 0, none⟩ 1 1 [.int .i64 x] rfl rfl (news_one hxz) (by simp [Value.oneCell']) (by simp [maxLen]; omega) (by omega) (by omega) ?_
            intro g2 cap2 x2 hown2 hgrow2 hg2 hl2 hc2 hm2
            have hU4 : Upd (fun q => Wd.heap.size ≤ q) Wd x2 := hUz.grown hgrow2 (fun q hq => .inr (by simp [Value.ownBlock] at hq; omega))
            have hS6 : (fun _ => True) x2 := trivial
            have zx2 := hU4.size
            refine hK.out _ _ (fun _ => hS6) ?_
            clear hK K'
            try simp only [Act.put, List.setIfInBounds_toArray, List.set_cons_zero, List.set_cons_succ]
            refine anyT_one (i := 11) (by kernel_rfl) rfl (fun K' hK => ?_)
            refine step_append_any _ rfl (.tmp 27) (.tmp 30) _ rfl Wd.heap.size 3 i1 _ 8 Try.underlying22 hi1 hzi1 hsi1 hbi1 rfl (.slice (some ⟨g2, 0, none⟩) (hp + 1) cap2) (hp + 1) _ rfl (by simp) hown2 AD (j - hp) (cp - hp) ((ts.drop hp).map (Value.int .i64)) rfl (by rw [List.length_map]; exact Htd.out) (news_at Htcd.out hU4 hbtd Hadd.out Hgd.out (by rw [Htd.out]; omega)) (Ho.out _) (by simp [maxLen]; omega) (by omega) (by omega) ?_
            intro g3 cap3 x3 hown3 hgrow3 hg3 hl3 hc3 hm3
            have hU5 : Upd (fun q => Wd.heap.size ≤ q) Wd x3 := hU4.grown hgrow3 (fun q hq => .inr (by simp [Value.ownBlock] at hq; omega))
            have hS5 : (fun _ => True) x3 := trivial
            refine hK.out _ _ (fun _ => hS5) ?_
            clear hK K'
            try simp only [Act.put, List.setIfInBounds_toArray, List.set_cons_zero, List.set_cons_succ]
            refine anyT_one (i := 12) (by kernel_rfl) rfl (fun K' hK => ?_)
            go_simp
            refine hK.out _ _ (fun h => absurd rfl h) ?_
            clear hK K'
            try simp only [Act.put, List.setIfInBounds_toArray, List.set_cons_zero, List.set_cons_succ]
            refine anyT_done (by kernel_rfl) ?_ _
            have e3 : ((ts.take hp).map (Value.int .i64) ++ [Value.int .i64 x]) ++ (ts.drop hp).map (Value.int .i64) = (ts.take hp ++ [x] ++ ts.drop hp).map (Value.int .i64) := by simp
            rw [e3] at hown3
            have hn3 : hp + 1 + (j - hp) = j + 1 := by omega
            rw [hn3] at hown3 hc3
            obtain ⟨hl3', hc3'⟩ := own_cells hown3
            simp only [hn3]
            have hU8 : Upd (fun _ => False) w x3 := hUd.trans' hU5 (fun i hi e => by omega)
            have hgl : w.heap.size ≤ g3 := by omega
            have Hc3 := Lib.hid hc3'
            have Hl3 := Lib.hid hl3'
            clear hc3' hl3' hown1 hown2 hown3 hownz e3
            go_wp2_with fail
            go_ret
            exact ⟨g3, cap3, rfl, hp, hhk, Hlow.out, Hhi.out, hgl, hl3, hc3, hm3, (fun i hi => Hc3.out i hi), hU8⟩
          · go_simp
            obtain ⟨W2, hW2⟩ : ∃ W2, W1.alloc (.cells #[Value.int .i64 x] 3) = W2 := ⟨_, rfl⟩
            have hU2 : Upd (fun q => Wd.heap.size ≤ q) Wd W2 := by rw [← hW2]; exact hU1.alloc _
            have hown2' : W2.ownsRow Wd.heap.size 3 1 (.slice (some ⟨Wd.heap.size, 0, none⟩) 0 0) 0 [] := by rw [← hW2]; exact hown0.alloc _
            have hxc : W2.cell? ⟨Wd.heap.size + 1, 0, none⟩ = some (.int .i64 x) := by rw [← z1, ← hW2]; exact cell_new _ _ _
            have z2 : W2.heap.size = W1.heap.size + 1 := by rw [← hW2]; simp
            rw [hW2]
            clear hW2
            have hS2 : (fun _ => True) W2 := trivial
            refine hK.out _ _ (fun _ => hS2) ?_
            clear hK K'
            try simp only [Act.put, List.setIfInBounds_toArray, List.set_cons_zero, List.set_cons_succ]
            refine anyT_one (i := 4) (by kernel_rfl) rfl (fun K' hK => ?_)
            refine step_append_any _ rfl (.tmp 20) (.tmp 23) _ rfl Wd.heap.size 3 i1 _ 8 Try.underlying22 hi1 hzi1 hsi1 hbi1 rfl (.slice (some ⟨Wd.heap.size, 0, none⟩) 0 0) 0 [] rfl (by simp) (hown2') ⟨bt, 0, none⟩ hp cp ((ts.take hp).map (Value.int .i64)) rfl (by rw [List.length_map]; exact Htk.out) (news_at Htcd.out (hU2) hbtd Hadd0.out Hgt.out (by rw [Htk.out]; omega)) (Ho.out _) (by simp [maxLen]; omega) (by omega) (by omega) ?_
            intro g1 cap1 x1 hown1 hgrow1 hg1 hl1 hc1 hm1
            rw [Nat.zero_add] at hown1
            simp only [Nat.zero_add] at hc1
            simp only [Nat.zero_add]
            simp only [List.nil_append] at hown1
            have hU3 : Upd (fun q => Wd.heap.size ≤ q) Wd x1 := (hU2).grown hgrow1 (fun q hq => .inr (by simp [Value.ownBlock] at hq; omega))
            have hS3 : (fun _ => True) x1 := trivial
            refine hK.out _ _ (fun _ => hS3) ?_
            clear hK K'
            try simp only [Act.put, List.setIfInBounds_toArray, List.set_cons_zero, List.set_cons_succ]
            have hUz := hU3
            have hownz := hown1
            have hxz : x1.cell? ⟨Wd.heap.size + 1, 0, none⟩ = some (.int .i64 x) := (World.cell?_of_block (hgrow1.block _ (by simp; omega) (by first | (simp [Value.ownBlock]; done) | (simp [Value.ownBlock]; omega)))).trans hxc
            have zz := hUz.size
            refine anyT_one (i := 7) (by kernel_rfl) rfl (fun K' hK => ?_)
            refine step_append_any _ rfl (.tmp 24) (.tmp 26) _ rfl Wd.heap.size 3 i1 _ 8 Try.underlying22 hi1 hzi1 hsi1 hbi1 rfl (.slice (some ⟨g1, 0, none⟩) hp cap1) hp _ rfl (by simp) hownz ⟨Wd.heap.size + 1, 0, none⟩ 1 1 [.int .i64 x] rfl rfl (news_one hxz) (by simp [Value.oneCell']) (by simp [maxLen]; omega) (by omega) (by omega) ?_
            intro g2 cap2 x2 hown2 hgrow2 hg2 hl2 hc2 hm2
            have hU4 : Upd (fun q => Wd.heap.size ≤ q) Wd x2 := hUz.grown hgrow2 (fun q hq => .inr (by simp [Value.ownBlock] at hq; omega))
            have hS6 : (fun _ => True) x2 := trivial
            have zx2 := hU4.size
            refine hK.out _ _ (fun _ => hS6) ?_
            clear hK K'
            try simp only [Act.put, List.setIfInBounds_toArray, List.set_cons_zero, List.set_cons_succ]
            refine anyT_one (i := 11) (by kernel_rfl) rfl (fun K' hK => ?_)
            refine step_append_any _ rfl (.tmp 27) (.tmp 30) _ rfl Wd.heap.size 3 i1 _ 8 Try.underlying22 hi1 hzi1 hsi1 hbi1 rfl (.slice (some ⟨g2, 0, none⟩) (hp + 1) cap2) (hp + 1) _ rfl (by simp) hown2 AD (j - hp) (cp - hp) ((ts.drop hp).map (Value.int .i64)) rfl (by rw [List.length_map]; exact Htd.out) (news_at Htcd.out hU4 hbtd Hadd.out Hgd.out (by rw [Htd.out]; omega)) (Ho.out _) (by simp [maxLen]; omega) (by omega) (by omega) ?_
            intro g3 cap3 x3 hown3 hgrow3 hg3 hl3 hc3 hm3
            have hU5 : Upd (fun q => Wd.heap.size ≤ q) Wd x3 := hU4.grown hgrow3 (fun q hq => .inr (by simp [Value.ownBlock] at hq; omega))
            have hS5 : (fun _ => True) x3 := trivial
            refine hK.out _ _ (fun _ => hS5) ?_
            clear hK K'
            try simp only [Act.put, List.setIfInBounds_toArray, List.set_cons_zero, List.set_cons_succ]
            refine anyT_one (i := 12) (by kernel_rfl) rfl (fun K' hK => ?_)
            go_simp
            refine hK.out _ _ (fun h => absurd rfl h) ?_
            clear hK K'
            try simp only [Act.put, List.setIfInBounds_toArray, List.set_cons_zero, List.set_cons_succ]
            refine anyT_done (by kernel_rfl) ?_ _
            have e3 : ((ts.take hp).map (Value.int .i64) ++ [Value.int .i64 x]) ++ (ts.drop hp).map (Value.int .i64) = (ts.take hp ++ [x] ++ ts.drop hp).map (Value.int .i64) := by simp
            rw [e3] at hown3
            have hn3 : hp + 1 + (j - hp) = j + 1 := by omega
            rw [hn3] at hown3 hc3
            obtain ⟨hl3', hc3'⟩ := own_cells hown3
            simp only [hn3]
            have hU8 : Upd (fun _ => False) w x3 := hUd.trans' hU5 (fun i hi e => by omega)
            have hgl : w.heap.size ≤ g3 := by omega
            have Hc3 := Lib.hid hc3'
            have Hl3 := Lib.hid hl3'
            clear hc3' hl3' hown1 hown2 hown3 hownz e3
            go_wp2_with fail
            go_ret
            exact ⟨g3, cap3, rfl, hp, hhk, Hlow.out, Hhi.out, hgl, hl3, hc3, hm3, (fun i hi => Hc3.out i hi), hU8⟩
        · go_simp
          obtain ⟨W1, hW1⟩ : ∃ W1, Wd.alloc (.cells #[Value.int .i64 x] 3) = W1 := ⟨_, rfl⟩
          have hU1 : Upd (fun q => Wd.heap.size ≤ q) Wd W1 := by rw [← hW1]; exact (Upd.refl _ _).alloc _
          have hxc1 : W1.cell? ⟨Wd.heap.size, 0, none⟩ = some (.int .i64 x) := by rw [← hW1]; exact cell_new _ _ _
          have z1 : W1.heap.size = Wd.heap.size + 1 := by rw [← hW1]; simp
          rw [hW1]
          clear hW1
          have hS1 : (fun _ => True) W1 := trivial
          refine hK.out _ _ (fun _ => hS1) ?_
          clear hK K'
          try simp only [Act.put, List.setIfInBounds_toArray, List.set_cons_zero, List.set_cons_succ]
          refine anyT_one (i := 0) (by kernel_rfl) rfl (fun K' hK => ?_)
          go_simp
          obtain ⟨W2, hW2⟩ : ∃ W2, W1.alloc (.cells #[] 3) = W2 := ⟨_, rfl⟩
          have hU2 : Upd (fun q => Wd.heap.size ≤ q) Wd W2 := by rw [← hW2]; exact hU1.alloc _
          have hown2' : W2.ownsRow Wd.heap.size 3 1 (.slice (some ⟨Wd.heap.size + 1, 0, none⟩) 0 0) 0 [] := by rw [← z1, ← hW2]; exact own_sooner (own_new W1 3) (by omega)
          have hxc : W2.cell? ⟨Wd.heap.size, 0, none⟩ = some (.int .i64 x) := by rw [← hW2]; exact (World.cell?_of_block (Below.heap_alloc _ _ _ (by simp; omega))).trans hxc1
          have z2 : W2.heap.size = W1.heap.size + 1 := by rw [← hW2]; simp
          rw [hW2]
          clear hW2
          have hS2 : (fun _ => True) W2 := trivial
          refine hK.out _ _ (fun _ => hS2) ?_
          clear hK K'
          try simp only [Act.put, List.setIfInBounds_toArray, List.set_cons_zero, List.set_cons_succ]
          refine anyT_one (i := 4) (by kernel_rfl) rfl (fun K' hK => ?_)
          refine step_append_any _ rfl (.tmp 20) (.tmp 23) _ rfl Wd.heap.size 3 i1 _ 8 Try.underlying22 hi1 hzi1 hsi1 hbi1 rfl (.slice (some ⟨Wd.heap.size + 1, 0, none⟩) 0 0) 0 [] rfl (by simp) (hown2') ⟨bt, 0, none⟩ hp cp ((ts.take hp).map (Value.int .i64)) rfl (by rw [List.length_map]; exact Htk.out) (news_at Htcd.out (hU2) hbtd Hadd0.out Hgt.out (by rw [Htk.out]; omega)) (Ho.out _) (by simp [maxLen]; omega) (by omega) (by omega) ?_
          intro g1 cap1 x1 hown1 hgrow1 hg1 hl1 hc1 hm1
          rw [Nat.zero_add] at hown1
          simp only [Nat.zero_add] at hc1
          simp only [Nat.zero_add]
          simp only [List.nil_append] at hown1
          have hU3 : Upd (fun q => Wd.heap.size ≤ q) Wd x1 := (hU2).grown hgrow1 (fun q hq => .inr (by simp [Value.ownBlock] at hq; omega))
          have hS3 : (fun _ => True) x1 := trivial
          refine hK.out _ _ (fun _ => hS3) ?_
          clear hK K'
          try simp only [Act.put, List.setIfInBounds_toArray, List.set_cons_zero, List.set_cons_succ]
          have hUz := hU3
          have hownz := hown1
          have hxz : x1.cell? ⟨Wd.heap.size, 0, none⟩ = some (.int .i64 x) := (World.cell?_of_block (hgrow1.block _ (by simp; omega) (by first | (simp [Value.ownBlock]; done) | (simp [Value.ownBlock]; omega)))).trans hxc
          have zz := hUz.size
          refine anyT_one (i := 7) (by kernel_rfl) rfl (fun K' hK => ?_)
          refine step_append_any _ rfl (.tmp 24) (.tmp 26) _ rfl Wd.heap.size 3 i1 _ 8 Try.underlying22 hi1 hzi1 hsi1 hbi1 rfl (.slice (some ⟨g1, 0, none⟩) hp cap1) hp _ rfl (by simp) hownz ⟨Wd.heap.size, 0, none⟩ 1 1 [.int .i64 x] rfl rfl (news_one hxz) (by simp [Value.oneCell']) (by simp [maxLen]; omega) (by omega) (by omega) ?_
          intro g2 cap2 x2 hown2 hgrow2 hg2 hl2 hc2 hm2
          have hU4 : Upd (fun q => Wd.heap.size ≤ q) Wd x2 := hUz.grown hgrow2 (fun q hq => .inr (by simp [Value.ownBlock] at hq; omega))
          have hS6 : (fun _ => True) x2 := trivial
          have zx2 := hU4.size
          refine hK.out _ _ (fun _ => hS6) ?_
          clear hK K'
          try simp only [Act.put, List.setIfInBounds_toArray, List.set_cons_zero, List.set_cons_succ]
          refine anyT_one (i := 11) (by kernel_rfl) rfl (fun K' hK => ?_)
          refine step_append_any _ rfl (.tmp 27) (.tmp 30) _ rfl Wd.heap.size 3 i1 _ 8 Try.underlying22 hi1 hzi1 hsi1 hbi1 rfl (.slice (some ⟨g2, 0, none⟩) (hp + 1) cap2) (hp + 1) _ rfl (by simp) hown2 AD (j - hp) (cp - hp) ((ts.drop hp).map (Value.int .i64)) rfl (by rw [List.length_map]; exact Htd.out) (news_at Htcd.out hU4 hbtd Hadd.out Hgd.out (by rw [Htd.out]; omega)) (Ho.out _) (by simp [maxLen]; omega) (by omega) (by omega) ?_
          intro g3 cap3 x3 hown3 hgrow3 hg3 hl3 hc3 hm3
          have hU5 : Upd (fun q => Wd.heap.size ≤ q) Wd x3 := hU4.grown hgrow3 (fun q hq => .inr (by simp [Value.ownBlock] at hq; omega))
          have hS5 : (fun _ => True) x3 := trivial
          refine hK.out _ _ (fun _ => hS5) ?_
          clear hK K'
          try simp only [Act.put, List.setIfInBounds_toArray, List.set_cons_zero, List.set_cons_succ]
          refine anyT_one (i := 12) (by kernel_rfl) rfl (fun K' hK => ?_)
          go_simp
          refine hK.out _ _ (fun h => absurd rfl h) ?_
          clear hK K'
          try simp only [Act.put, List.setIfInBounds_toArray, List.set_cons_zero, List.set_cons_succ]
          refine anyT_done (by kernel_rfl) ?_ _
          have e3 : ((ts.take hp).map (Value.int .i64) ++ [Value.int .i64 x]) ++ (ts.drop hp).map (Value.int .i64) = (ts.take hp ++ [x] ++ ts.drop hp).map (Value.int .i64) := by simp
          rw [e3] at hown3
          have hn3 : hp + 1 + (j - hp) = j + 1 := by omega
          rw [hn3] at hown3 hc3
          obtain ⟨hl3', hc3'⟩ := own_cells hown3
          simp only [hn3]
          have hU8 : Upd (fun _ => False) w x3 := hUd.trans' hU5 (fun i hi e => by omega)
          have hgl : w.heap.size ≤ g3 := by omega
          have Hc3 := Lib.hid hc3'
          have Hl3 := Lib.hid hl3'
          clear hc3' hl3' hown1 hown2 hown3 hownz e3
          go_wp2_with fail
          go_ret
          exact ⟨g3, cap3, rfl, hp, hhk, Hlow.out, Hhi.out, hgl, hl3, hc3, hm3, (fun i hi => Hc3.out i hi), hU8⟩
end Go.Proofs.Ytghogabmkbadjab

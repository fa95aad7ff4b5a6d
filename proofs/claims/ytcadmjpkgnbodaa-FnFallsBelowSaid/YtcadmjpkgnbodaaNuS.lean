/- Numberings: the model's counts. -/
import Derived.Test.YtcadmjpkgnbodaaGc
import Derived.Test.YtcadmjpkgnbodaaGa
namespace Go.Proofs.Ytcadmjpkgnbodaa
open Go.RowKit Go.Shelf
attribute [local go_sem] Oper.semAt_some
attribute [local go_sem, local simp] wide_fn

set_option maxRecDepth 100000 in
set_option maxHeartbeats 8000000 in
theorem scountMaps_any (zs : List Int) (hvo : VoP zs) (A : Option Addr) (n c k : Nat) (hk4 : k ≤ 4) (hlen0 : zs.length = n) : ∀ (f : Nat) (g : List Int) (bg og h c' : Nat) (w : World), Ints w w.heap.size A n zs → Ints w w.heap.size (some ⟨bg, og, none⟩) h g → h + f = n →
    Calls Try.prog 70 #[.slice A n c, .slice (some ⟨bg, og, none⟩) h c', .int .i64 (k : Int)] w fun e w' => e = .returned (.int .i64 (mN false zs k f g : Int)) ∧ Below w.heap.size w w'
  | 0, g, bg, og, h, c', w, hA, hG, hf => by
    have hq : ((h : Int) == (n : Int)) = true := by rw [show h = n by omega]; simp
    go_enter Try.func70, Try.ntmps70
    go_wp2
    go_ret
    exact ⟨rfl, Below.refl _ _⟩
  | f + 1, g, bg, og, h, c', w, hA, hG, hf => by
    have ih := scountMaps_any zs hvo A n c k hk4 hlen0 f
    obtain ⟨i0, hi0, hz0, hz1, hz2⟩ := info_parts infoInt
    have hlen := Lib.hid hlen0
    have hgl := Lib.hid hG.len
    have hn6 : n ≤ 6 := by have := hvo.1; rw [hlen0] at this; exact this
    clear hlen0
    have hq : ((h : Int) == (n : Int)) = false := by simpa using (show ¬ (h : Int) = (n : Int) by omega)
    have Hm := Lib.hid (show mN false zs k (f + 1) g = mTo false zs k f g k from rfl)
    go_enter Try.func70, Try.ntmps70
    go_wp2
    clear hq
    go_loopw [8, 9] (fun t i wr => ∃ j : Nat, j ≤ k ∧ i = .int .i64 ((j : Int) + 1) ∧ t = .int .i64 (mTo false zs k f g j : Int) ∧ Below w.heap.size w wr) (fun _ i _ => k + 1 - (intOf i).toNat)
    case atStart => exact ⟨0, by omega, rfl, rfl, Below.refl _ _⟩
    case round =>
      obtain ⟨j, hj, rfl, rfl, hB⟩ := hrel
      have zr := hB.size
      have hAr := hA.to hB (Nat.le_refl _) zr
      have hGr := hG.to hB (Nat.le_refl _) zr
      have hmb := mTo_le (st := false) (zs := zs) (g := g) hk4 (show f ≤ 6 by omega) (show j ≤ 4 by omega)
      by_cases hlt : j < k
      · have hle : decide ((j : Int) + 1 ≤ (k : Int)) = true := decide_eq_true (by omega)
        have Hms := Lib.hid (mTo_succ false zs k f g j)
        have Hfine := Lib.hid (show fiTo false zs g ((j : Int) + 1) h = fineB false zs g ((j : Int) + 1) by unfold fiTo fineB; rw [hgl.out])
        go_wp2_with fail
        go_loopw [10, 11] (fun t i wx => ∃ i' : Nat, i' ≤ h ∧ i = .int .i64 i' ∧ t = .bool (fiTo false zs g ((j : Int) + 1) i') ∧ wx = wr) (fun _ i _ => h - (intOf i).toNat)
        case atStart => exact ⟨0, by omega, rfl, rfl, rfl⟩
        case round =>
          obtain ⟨i, hi, rfl, rfl, rfl⟩ := hrel
          by_cases hit : i < h
          · obtain ⟨bg', og', hbg, -, hcg⟩ := hGr.at_ hit
            cases hbg
            have hcgi := hcg i hit
            obtain ⟨bl, off, rfl, -, hc⟩ := hAr.at_ (show i < n by omega)
            have hci := hc i (by omega)
            have hch := hc h (by omega)
            clear hcg hc
            have hzi := hvo.bd i (by rw [hlen.out]; omega)
            have hzh := hvo.bd h (by rw [hlen.out]; omega)
            have Hs := Lib.hid (fiTo_succ false zs g ((j : Int) + 1) i)
            have Ht := Lib.hid (show twB false zs g g.length ((j : Int) + 1) i = ((!upw zs i h || decide (g[i]?.getD 0 ≤ (j : Int) + 1)) && (!upw zs h i || decide ((j : Int) + 1 ≤ g[i]?.getD 0))) by unfold twB; rw [hgl.out]; rfl)
            have hb1 := fun w => bit_any (zs[i]?.getD 0) (h : Int) w (by omega) (by omega) (by omega) (by omega)
            have hb2 := fun w => bit_any (zs[h]?.getD 0) (i : Int) w (by omega) (by omega) (by omega) (by omega)
            have e1 : (bitI (zs[i]?.getD 0) h == 0) = !upw zs i h := bitI_nil _ _
            have e2 : (bitI (zs[h]?.getD 0) i == 0) = !upw zs h i := bitI_nil _ _
            generalize hx1 : decide (g[i]?.getD 0 ≤ (j : Int) + 1) = d1 at *
            generalize upw zs i h = u1 at *
            generalize upw zs h i = u2 at *
            generalize fiTo false zs g ((j : Int) + 1) i = t0 at *
            generalize g[i]?.getD 0 = gi at *
            generalize zs[i]?.getD 0 = zi at *
            generalize zs[h]?.getD 0 = zh at *
            cases t0
            · go_wp2_with (first
                | (go_at_call 75; with_reducible refine (hb1 _).mono ?_; rintro e w' ⟨rfl, rfl⟩)
                | (go_at_call 75; with_reducible refine (hb2 _).mono ?_; rintro e w' ⟨rfl, rfl⟩))
              go_roundw
              case rel => exact ⟨i + 1, by omega, by go_num, by rw [Hs.out, Ht.out]; rfl, by first | trivial | rfl⟩
              case measure => simp [intOf]; omega
            · cases u1
              · cases u2
                · go_wp2_with (first
                    | (go_at_call 75; with_reducible refine (hb1 _).mono ?_; rintro e w' ⟨rfl, rfl⟩)
                    | (go_at_call 75; with_reducible refine (hb2 _).mono ?_; rintro e w' ⟨rfl, rfl⟩))
                  go_roundw
                  case rel => exact ⟨i + 1, by omega, by go_num, by rw [Hs.out, Ht.out]; rfl, by first | trivial | rfl⟩
                  case measure => simp [intOf]; omega
                · go_wp2_with (first
                    | (go_at_call 75; with_reducible refine (hb1 _).mono ?_; rintro e w' ⟨rfl, rfl⟩)
                    | (go_at_call 75; with_reducible refine (hb2 _).mono ?_; rintro e w' ⟨rfl, rfl⟩))
                  go_roundw
                  case rel => exact ⟨i + 1, by omega, by go_num, by rw [Hs.out, Ht.out]; rfl, by first | trivial | rfl⟩
                  case measure => simp [intOf]; omega
              · cases d1
                · go_wp2_with (first
                    | (go_at_call 75; with_reducible refine (hb1 _).mono ?_; rintro e w' ⟨rfl, rfl⟩)
                    | (go_at_call 75; with_reducible refine (hb2 _).mono ?_; rintro e w' ⟨rfl, rfl⟩))
                  go_roundw
                  case rel => exact ⟨i + 1, by omega, by go_num, by rw [Hs.out, Ht.out]; rfl, by first | trivial | rfl⟩
                  case measure => simp [intOf]; omega
                · cases u2
                  · go_wp2_with (first
                      | (go_at_call 75; with_reducible refine (hb1 _).mono ?_; rintro e w' ⟨rfl, rfl⟩)
                      | (go_at_call 75; with_reducible refine (hb2 _).mono ?_; rintro e w' ⟨rfl, rfl⟩))
                    go_roundw
                    case rel => exact ⟨i + 1, by omega, by go_num, by rw [Hs.out, Ht.out]; rfl, by first | trivial | rfl⟩
                    case measure => simp [intOf]; omega
                  · go_wp2_with (first
                      | (go_at_call 75; with_reducible refine (hb1 _).mono ?_; rintro e w' ⟨rfl, rfl⟩)
                      | (go_at_call 75; with_reducible refine (hb2 _).mono ?_; rintro e w' ⟨rfl, rfl⟩))
                    go_roundw
                    case rel => exact ⟨i + 1, by omega, by go_num, by rw [Hs.out, Ht.out]; rfl, by first | trivial | rfl⟩
                    case measure => simp [intOf]; omega
          · obtain rfl : i = h := by omega
            rw [Hfine.out]
            cases hfb : fineB false zs g ((j : Int) + 1)
            · have Hn := Lib.hid (show mTo false zs k f g (j + 1) = mTo false zs k f g j by rw [Hms.out, hfb]; simp)
              clear hfb
              go_wp2
              go_roundw
              case rel => exact ⟨j + 1, by omega, by go_num, by rw [Hn.out], hB⟩
              case measure => simp [intOf]; omega
            · have Hn := Lib.hid (show mTo false zs k f g (j + 1) = mTo false zs k f g j + mN false zs k f (g ++ [(j : Int) + 1]) by rw [Hms.out, hfb, if_pos rfl])
              have hmb2 := mTo_le (st := false) (zs := zs) (g := g) hk4 (show f ≤ 6 by omega) (show j + 1 ≤ 4 by omega)
              rw [Hn.out] at hmb2
              have hadd : IntKind.i64.wrap ((mTo false zs k f g j : Int) + (mN false zs k f (g ++ [(j : Int) + 1]) : Int)) = ((mTo false zs k f g j + mN false zs k f (g ++ [(j : Int) + 1]) : Nat) : Int) := by rw [IntKind.wrap_i64]; omega
              have h1 := own_new wr 3
              have hu1 : Upd (fun _ => False) wr (wr.alloc (.cells #[] 3)) := (Upd.refl _ wr).alloc _
              have hG1 := hGr.below (hu1.toBelow (fun _ e => e.elim) (Nat.le_refl _))
              have hnews : ∀ j' u, (g.map (Value.int .i64))[j']? = some u → (wr.alloc (.cells #[] 3)).cell? ((⟨bg, og, none⟩ : Addr).add j') = some u := fun j' u hu => by
                have hj' : j' < i := by
                  have := (List.getElem?_eq_some_iff.1 hu).1
                  rw [List.length_map, hgl.out] at this
                  exact this
                obtain ⟨b3, o3, e3, -, hc3⟩ := hG1.at_ hj'
                cases e3
                rw [addr_add3, hc3 j' hj']
                rw [List.getElem?_map] at hu
                cases hgj : g[j']? with
                | none => rw [hgj] at hu; cases hu
                | some z => rw [hgj] at hu; simpa using hu
              clear hG1
              go_wp2_with (first
                | (at_builtin; refine wpList_appendM _ rfl (.tmp 66) (.tmp 67) _ rfl wr.heap.size 3 i0 _ 8 Try.underlying22 hi0 hz0 hz1 hz2 rfl _ 0 [] rfl h1 ⟨bg, og, none⟩ i c' _ rfl (by rw [List.length_map]; exact hgl.out) hnews (fun u hu => by obtain ⟨z, _, rfl⟩ := List.mem_map.1 hu; rfl) (by simp [maxLen]; omega) (by omega) (by simp) ?_; intro v1 w1 hown1 hg1; rw [Nat.zero_add, List.nil_append] at hown1; have zg1 := hg1.size)
                | (at_builtin; refine wpList_append1 _ rfl (.tmp 68) (.tmp 70) _ rfl wr.heap.size 3 i0 _ 8 Try.underlying22 hi0 hz0 hz1 hz2 rfl _ i _ rfl (hown1.alloc _) w1.heap.size 1 (.int .i64 ((j : Int) + 1)) rfl (cell_new _ _ _) rfl (by omega) (by omega) (by simp; simp at zg1; omega) ?_; rintro v2 w2 hown2 hg2 -))
              obtain ⟨g2, cap2, rfl⟩ := own_some hown2 (by omega)
              obtain ⟨A2, c2, e2, hI2⟩ := ints_of_own (zs := g ++ [(j : Int) + 1]) (by rw [List.map_append]; exact hown2)
              cases e2
              have hu2 : Upd (fun _ => False) wr w2 := ((hu1.grown hg1 (fun q hq => by simp [Value.ownBlock, Act.eval] at hq; exact .inl (by omega))).alloc _).grown hg2 (fun q hq => .inl (own_ge hown1 q hq))
              have hB2 : Below wr.heap.size wr w2 := hu2.toBelow (fun _ e => e.elim) (Nat.le_refl _)
              have z2 := hB2.size
              have hA2 := hAr.to hB2 (Nat.le_refl _) z2
              clear hown1 hown2 hg1 hg2 hu1 hu2 hnews h1 hGr
              refine (ih (g ++ [(j : Int) + 1]) g2 0 (i + 1) cap2 w2 hA2 hI2 (by omega)).mono ?_
              rintro e w3 ⟨rfl, hB3⟩
              generalize mTo false zs k f g j = q1 at *
              generalize mN false zs k f (g ++ [(j : Int) + 1]) = q2 at *
              go_wp2
              go_roundw
              case rel => exact ⟨j + 1, by omega, by go_num, by rw [Hn.out]; first | rfl | rw [hadd], hB.trans ((hB2.trans (hB3.mono z2)).mono zr)⟩
              case measure => simp [intOf]; omega
      · obtain rfl : j = k := by omega
        have hle : decide ((j : Int) + 1 ≤ (j : Int)) = false := decide_eq_false (by omega)
        go_wp2
        go_ret
        exact ⟨ret_int (by rw [Hm.out]), hB⟩
end Go.Proofs.Ytcadmjpkgnbodaa

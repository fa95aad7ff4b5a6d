/- All lines: the model's. -/
import Derived.Test.YtghogabmkbadjaaColR
import Derived.Test.YtghogabmkbadjaaGa
import Derived.Maps.AppendAt
set_option linter.unusedVariables false
set_option linter.unusedSimpArgs false
namespace Go.Proofs.Ytghogabmkbadjaa
open Go.RowKit Go.Shelf

/-- Rows appended to rows. -/
theorem LnRows.app {S S' : Nat → Prop} {w w' : World} {v v2 v' : Value} {L L2 : List Ln} {z : Nat} (h : LnRows S w v L) (hz1 : ∀ k, v.ownBlock = some k → k < z) (hz2 : ∀ x ∈ L, ∀ k, lnOwn x k → k < z) (h2 : LnRows (fun k => z ≤ k) w v2 L2)
    (hown : w'.ownsRow 0 22 1 v' (L.length + L2.length) (L.map Prod.snd ++ L2.map Prod.snd)) (hg : w.grownBy w' v.ownBlock) (hv : v'.ownBlock = v.ownBlock ∨ v'.ownBlock = some w.heap.size)
    (hS : ∀ k, S k → S' k) (hS2 : ∀ k, z ≤ k → S' k) (hzw : z ≤ w.heap.size) : LnRows S' w' v' (L ++ L2) := by
  have hu : Upd (fun k => v.ownBlock = some k) w w' := (Upd.refl _ w).grown hg (fun k e => .inr e)
  have hl := h.lt
  have hl2 := h2.lt
  have hn : ∀ k, v'.ownBlock = some k → (v.ownBlock = some k) ∨ k = w.heap.size := fun k e => by
    rcases hv with e2 | e2
    · exact .inl (e2 ▸ e)
    · rw [e2] at e; injection e with e; exact .inr e.symm
  refine ⟨by rw [List.length_append, List.map_append]; exact hown, fun y hy => ?_, fun y hy k hk e => ?_, ?_, fun k e => ?_, fun y hy k hk => ?_⟩
  · rcases List.mem_append.1 hy with hy | hy
    · exact lnHas_keep (h.has y hy) hu (fun k hk e => h.apart y hy k hk e)
    · exact lnHas_keep (h2.has y hy) hu (fun k hk e => by have := h2.inS.2 y hy k hk; have := hz1 k e; omega)
  · rcases hn k e with e2 | e2
    · rcases List.mem_append.1 hy with hy | hy
      · exact h.apart y hy k hk e2
      · have := h2.inS.2 y hy k hk; have := hz1 k e2; omega
    · rcases List.mem_append.1 hy with hy | hy
      · have := hl.2 y hy k hk; omega
      · have := hl2.2 y hy k hk; omega
  · rw [List.pairwise_append]
    refine ⟨h.pair, h2.pair, fun y hy x hx k hk hk2 => ?_⟩
    have := h2.inS.2 x hx k hk2
    have := hz2 y hy k hk
    omega
  · rcases hn k e with e2 | e2
    · exact hS k (h.inS.1 k e2)
    · exact hS2 k (by omega)
  · rcases List.mem_append.1 hy with hy | hy
    · exact hS k (h.inS.2 y hy k hk)
    · exact hS2 k (h2.inS.2 y hy k hk)
theorem st_true {zs : List Int} {s : Int} {a : Nat} (h : a < zs.length) (h1 : bitB s (a : Int) = false) (h2 : lessI ((du zs)[a]?.getD 0) s = 0) : stA2 zs s a = true := by
  unfold stA2
  rw [h1, Int.toNat_natCast, h2]
  simp [inB]; omega
theorem st_bit {zs : List Int} {s : Int} {a : Nat} (h1 : bitB s (a : Int) = true) : stA2 zs s a = false := by
  unfold stA2; rw [h1]; simp
theorem st_less {zs : List Int} {s : Int} {a : Nat} (h2 : lessI ((du zs)[a]?.getD 0) s ≠ 0) : stA2 zs s a = false := by
  unfold stA2; rw [Int.toNat_natCast]; simp [h2]
/-- The items up to one that may be next. -/
def nxUp (zs : List Int) (s : Int) (k : Nat) : List Nat := (List.range k).filter fun a => stA2 zs s a
theorem nxUp_yes {zs : List Int} {s : Int} {a : Nat} (h : stA2 zs s a = true) : nxUp zs s (a + 1) = nxUp zs s a ++ [a] := by simp [nxUp, List.range_succ, h]
theorem nxUp_no {zs : List Int} {s : Int} {a : Nat} (h : stA2 zs s a = false) : nxUp zs s (a + 1) = nxUp zs s a := by simp [nxUp, List.range_succ, h]

theorem LnRows.later {S R : Nat → Prop} {w w' : World} {v : Value} {L : List Ln} (h : LnRows S w v L) (hu : Upd R w w') (hR : ∀ k, R k → w.heap.size ≤ k) : LnRows S w' v L := by
  have hl := h.lt
  have h1 : LnRows (fun k => k < w.heap.size) w v L := ⟨h.own, h.has, h.apart, h.pair, hl.1, hl.2⟩
  have h2 := h1.keep hu (fun k hk e => by have := hR k e; omega)
  exact ⟨h2.own, h2.has, h.apart, h.pair, h.inS⟩
theorem nxUp_pre (zs : List Int) (s : Int) {a : Nat} (h : a ≤ zs.length) : nxUp zs s a <+: nxA zs s := by
  unfold nxUp nxA
  obtain ⟨t, e⟩ : List.range a <+: List.range zs.length := by
    obtain ⟨d, hd⟩ := Nat.exists_eq_add_of_le h
    rw [hd, List.range_add]
    exact List.prefix_append _ _
  rw [← e, List.filter_append]
  exact List.prefix_append _ _
theorem alG_bd {zs : List Int} (h : zs.length ≤ 6) {k : Nat} (hk : k ≤ 6) (so : List Int) (s : Int) : (alG zs k so s).length ≤ 46656 := by
  have h1 := alG_count zs k so s h
  have h2 : 6 ^ k ≤ 6 ^ 6 := Nat.pow_le_pow_right (by omega) hk
  exact Nat.le_trans h1 h2

set_option maxRecDepth 100000 in
set_option maxHeartbeats 4000000 in
theorem allLines_any (zs : List Int) (hvo : VoP zs) (n : Nat) (hlen0 : zs.length = n) (A A' : Option Addr) (c c' : Nat) : ∀ (k : Nat) (so : List Int) (s : Int) (g cg : Nat) (w : World), so.length + k = n → 0 ≤ s → s < powI n → Ints w w.heap.size A n zs → Ints w w.heap.size A' n (du zs) → w.ownsRow 0 3 1 (.slice (some ⟨g, 0, none⟩) so.length cg) so.length (so.map (Value.int .i64)) →
    Calls Try.prog 78 #[.slice A n c, .slice A' n c', .slice (some ⟨g, 0, none⟩) so.length cg, .int .i64 s] w fun e w' => ∃ v g' c', e = .returned v ∧ (∃ L, v = .slice (some ⟨g', 0, none⟩) L.length c' ∧ L.map Prod.fst = alG zs k so s ∧ LnRows (fun j => w.heap.size ≤ j) w' v L) ∧ Below w.heap.size w w'
  | 0, so, s, g, cg, w, hk, hs0, hs1, hA, hA', hO => by
    have hn6 : n ≤ 6 := by have := hvo.1; rw [hlen0] at this; exact this
    obtain ⟨i0, hi0, hz0, hz1, hz2⟩ := info_parts infoInt
    have hcell := (own_cells hO).2
    have hgl := own_lt' hO g rfl
    have hsn : so.length = n := by omega
    have hso : so.length ≤ 6 := by omega
    have heq : ((so.length : Int) == (n : Int)) = true := by simp only [beq_iff_eq]; omega
    clear hsn hk
    go_enter Try.func78, Try.ntmps78
    have hown := own_new w 3
    have hU1 : Upd (fun _ => False) w (w.alloc (.cells #[] 3)) := (Upd.refl _ w).alloc _
    have hz1' : (w.alloc (.cells #[] 3)).heap.size = w.heap.size + 1 := by simp
    have hnews : ∀ j u, (so.map (Value.int .i64))[j]? = some u → (w.alloc (.cells #[] 3)).cell? ((⟨g, 0, none⟩ : Addr).add j) = some u := news_at hcell (hU1.mono (S := fun k => w.heap.size ≤ k) (fun _ _ e => e.elim)) hgl (fun j hj => addr_add3 ..) (fun j hj => by rw [Nat.zero_add]) (by omega)
    go_wp2_with (at_builtin; refine wpList_appendK _ rfl (.tmp 16) (.tmp 17) _ rfl w.heap.size 3 i0 _ 8 Try.underlying22 hi0 hz0 hz1 hz2 rfl _ 0 [] rfl hown ⟨g, 0, none⟩ so.length cg _ rfl (by rw [List.length_map]) hnews (fun u hu => by obtain ⟨z, _, rfl⟩ := List.mem_map.1 hu; rfl) (by simp [maxLen]; omega) (by omega) (by simp) ?_; intro v' w1 hown' hg'; rw [Nat.zero_add, List.nil_append] at hown'; obtain ⟨A1, c1, rfl, -, -⟩ := ints_of_own_at hown')
    go_ret
    have zg := hg'.size
    simp at zg
    have hUw : Upd (fun _ => False) w w1 := hU1.grown hg' (fun k hk => by simp [Value.ownBlock, Act.eval] at hk; exact .inl (by omega))
    have hge := own_ge hown'
    refine ⟨_, w1.heap.size, 1, rfl, ⟨[(so, .slice A1 so.length c1)], rfl, rfl, ?_⟩, (hUw.alloc _).toBelow (B := w.heap.size) (fun _ e => e.elim) (Nat.le_refl _)⟩
    refine ⟨⟨rfl, .inr ⟨w1.heap.size, 1, #[.slice A1 so.length c1], rfl, by omega, heap_alloc_new w1 _, Nat.le_refl _, by simp [maxLen], rfl, rfl⟩⟩, fun x hx => ?_, fun x hx k hk e => ?_, List.pairwise_singleton _ _, fun k e => ?_, fun x hx k hk => ?_⟩
    · rw [List.mem_singleton.1 hx]
      exact own_sooner (hown'.alloc _) (Nat.zero_le _)
    · rw [List.mem_singleton.1 hx] at hk
      have := own_lt' hown' k hk
      simp [Value.ownBlock] at e
      omega
    · simp [Value.ownBlock] at e
      omega
    · rw [List.mem_singleton.1 hx] at hk
      exact hge k hk
  | k + 1, so, s, g, cg, w, hk, hs0, hs1, hA, hA', hO => by
    have ih := allLines_any zs hvo n hlen0 A A' c c' k
    have hn6 : n ≤ 6 := by have := hvo.1; rw [hlen0] at this; exact this
    have hlen := Lib.hid hlen0
    have hds := du_sets hvo.sets
    have Hdl := Lib.hid (show (du zs).length = n by rw [du_len, hlen.out])
    have hp64 := powI_le6 (n := (n : Int)) (by omega)
    obtain ⟨i0, hi0, hz0, hz1, hz2⟩ := info_parts infoInt
    obtain ⟨i3, hi3, hz30, hz31, hz32⟩ := info_parts infoRow
    have Hcell := Lib.hid (own_cells hO).2
    have hgl := own_lt' hO g rfl
    have hso : so.length ≤ 5 := by omega
    have hne : ((so.length : Int) == (n : Int)) = false := by simp; omega
    have Hk := Lib.hid hk
    clear hlen0 hk
    go_enter Try.func78, Try.ntmps78
    go_wp2_with fail
    have hown0 := own_new w 22
    have hU0 : Upd (fun _ => False) w (w.alloc (.cells #[] 22)) := (Upd.refl _ w).alloc _
    have hz0' : (w.alloc (.cells #[] 22)).heap.size = w.heap.size + 1 := by simp
    obtain ⟨W0, hW0⟩ : ∃ W0, w.alloc (.cells #[] 22) = W0 := ⟨_, rfl⟩
    rw [hW0] at hown0 hU0 hz0' ⊢
    clear hW0
    have hstart : LnRows (fun j => w.heap.size ≤ j) W0 (.slice (some ⟨w.heap.size, 0, none⟩) 0 0) [] := ⟨own_sooner hown0 (Nat.zero_le _), fun _ h => by simp at h, fun _ h => by simp at h, List.Pairwise.nil, fun k h => by simp [Value.ownBlock] at h; omega, fun _ h => by simp at h⟩
    clear hown0 hz0'
    go_loopw [9, 10] (fun out i wr => ∃ (a : Nat) (L : List Ln) (g' cc : Nat), a ≤ n ∧ i = .int .i64 a ∧ out = .slice (some ⟨g', 0, none⟩) L.length cc ∧ L.map Prod.fst = alX zs k so s (nxUp zs s a) ∧ LnRows (fun j => w.heap.size ≤ j) wr out L ∧ Below w.heap.size w wr) (fun _ i _ => n - (intOf i).toNat)
    case atStart => exact ⟨0, [], w.heap.size, 0, by omega, rfl, rfl, rfl, hstart, hU0.toBelow (B := w.heap.size) (fun _ e => e.elim) (Nat.le_refl _)⟩
    case round =>
      obtain ⟨a, L, g', cc, ha, rfl, rfl, hL, hR, hB⟩ := hrel
      have zr := hB.size
      by_cases hlt : a < n
      · have HR := Lib.hid hR
        have HL := Lib.hid hL
        clear hR hL
        have iA := hA.to hB (Nat.le_refl _) zr
        have iA' := hA'.to hB (Nat.le_refl _) zr
        have HiA := Lib.hid iA
        have HiA' := Lib.hid iA'
        obtain ⟨b3, off3, e3, hb3, hc3⟩ := iA'.at_ hlt
        cases e3
        have hdk := hc3 a hlt
        have hdb := hds.2 a (by rw [Hdl.out]; exact hlt)
        rw [Hdl.out] at hdb
        have hpk : powI (a : Int) < powI (n : Int) := powI_lt hlt
        have hpp := powI_pos (a : Int)
        have Hst := Lib.hid (fun (h1 : bitB s (a : Int) = false) (h2 : lessI ((du zs)[a]?.getD 0) s = 0) => st_true (zs := zs) (by rw [hlen.out]; exact hlt) h1 h2)
        have Hsl := Lib.hid (fun (h2 : lessI ((du zs)[a]?.getD 0) s ≠ 0) => st_less (zs := zs) (s := s) (a := a) h2)
        clear hc3 iA iA'
        cases hb : bitB s (a : Int)
        · have hbi : (bitI s (a : Int) == 0) = true := by rw [bitI_false hb]; rfl
          by_cases hl : lessI ((du zs)[a]?.getD 0) s = 0
          · have Hs := Lib.hid (Hst.out hb hl)
            have hbl := bits_less (a := (du zs)[a]?.getD 0) (b := s) hdb.1 (by omega) hs0 (by omega)
            rw [hl] at hbl
            have hor := orI_bd hs0 hs1 (Int.le_of_lt hpp) hpk
            have Hor := Lib.hid (bits_or (a := s) (b := powI a) hs0 (by omega) (Int.le_of_lt hpp) (by omega))
            clear hl hb Hst Hsl
            generalize (du zs)[a]?.getD 0 = d at *
            have hLl := HR.out.lt
            have hgL := hLl.1 g' rfl
            have hLc : L.length ≤ 46656 := by
              have h1 := congrArg List.length HL.out
              rw [List.length_map] at h1
              have h2 := (alX_pre zs k so s (nxUp_pre zs s (a := a) (by rw [hlen.out]; exact ha))).length_le
              have h3 := alG_bd (zs := zs) (by rw [hlen.out]; exact hn6) (k := k + 1) (by have := Hk.out; omega) so s
              omega
            have hown := own_new wr 3
            have hU1 : Upd (fun _ => False) wr (wr.alloc (.cells #[] 3)) := (Upd.refl _ wr).alloc _
            have hcellr : ∀ j, j < so.length → wr.cell? ⟨g, j, none⟩ = some (.int .i64 (so[j]?.getD 0)) := fun j hj => (Below.toUpd hB).cell (Hcell.out j hj) (by simp only; omega)
            have hnews : ∀ j u, (so.map (Value.int .i64))[j]? = some u → (wr.alloc (.cells #[] 3)).cell? ((⟨g, 0, none⟩ : Addr).add j) = some u := news_at hcellr (hU1.mono (S := fun k => w.heap.size ≤ k) (fun _ _ e => e.elim)) (by omega) (fun j hj => addr_add3 ..) (fun j hj => by rw [Nat.zero_add]) (by omega)
            have Hnews := Lib.hid hnews
            clear hnews hcellr
            go_wp2_with (first
              | (go_at_call 70; refine (bit_any _ _ _ (by omega) (by omega) (by omega) (by omega)).mono ?_; rintro e w' ⟨rfl, rfl⟩)
              | (go_at_call 69; refine (power_any _ _ (by omega) (by omega)).mono ?_; rintro e w' ⟨rfl, rfl⟩)
              | (at_builtin; refine wpList_appendK _ rfl (.tmp 43) (.tmp 44) _ rfl wr.heap.size 3 i0 _ 8 Try.underlying22 hi0 hz0 hz1 hz2 rfl _ 0 [] rfl hown ⟨g, 0, none⟩ so.length cg _ rfl (by rw [List.length_map]) Hnews.out (fun u hu => by obtain ⟨z, _, rfl⟩ := List.mem_map.1 hu; rfl) (by simp [maxLen]; omega) (by omega) (by simp) ?_; intro v1 w1 hown1 hg1; rw [Nat.zero_add, List.nil_append] at hown1; obtain ⟨A1, c1, rfl, -, -⟩ := ints_of_own_at hown1)
              | (at_builtin; refine wpList_append1 _ rfl (.tmp 45) (.tmp 47) _ rfl wr.heap.size 3 i0 _ 8 Try.underlying22 hi0 hz0 hz1 hz2 rfl _ so.length _ rfl (hown1.alloc _) w1.heap.size 1 (.int .i64 (a : Int)) rfl (cell_new _ _ _) rfl (by omega) (by omega) (by have := hg1.size; simp at this; simp; omega) ?_; rintro v2 w2 hown2 hg2 hv2; obtain ⟨g2, cap2, rfl⟩ := ownsRow_succ hown2))
            rw [Hor.out]
            have zg1 := hg1.size
            have zg2 := hg2.size
            simp at zg1 zg2
            have hU2 : Upd (fun _ => False) wr w1 := hU1.grown hg1 (fun k hk => by simp [Value.ownBlock, Act.eval] at hk; exact .inl (by omega))
            have hU3 : Upd (fun _ => False) wr w2 := (hU2.alloc _).grown hg2 (fun k hk => .inl (own_ge hown1 k hk))
            have hB2 := hB.trans (hU3.toBelow (B := w.heap.size) (fun _ e => e.elim) zr)
            have hxl : (so ++ [(a : Int)]).length = so.length + 1 := by simp
            have hrec := ih (so ++ [(a : Int)]) (orI s (powI a)) g2 cap2 w2 (by have := Hk.out; omega) hor.1 hor.2 (hA.to hB2 (Nat.le_refl _) hB2.size) (hA'.to hB2 (Nat.le_refl _) hB2.size) (by rw [hxl, List.map_append]; exact own_sooner hown2 (Nat.zero_le _))
            rw [hxl] at hrec
            have hb3 := alG_bd (zs := zs) (by rw [hlen.out]; exact hn6) (k := k) (by have := Hk.out; omega) (so ++ [(a : Int)]) (orI s (powI a))
            have Hb3 := Lib.hid hb3
            clear hb3 hxl hown hown1 hown2 hg1 hg2
            refine hrec.mono ?_
            rintro e w3 ⟨v3, g3, c3, rfl, ⟨L3, rfl, hL3, hR3⟩, hB3⟩
            clear hrec
            have hL3l : L3.length ≤ 46656 := by
              have h1 := congrArg List.length hL3
              rw [List.length_map] at h1
              have := Hb3.out
              omega
            have HL3 := Lib.hid hL3
            have HR3 := Lib.hid hR3
            have z3 := hB3.size
            have hU4 : Upd (fun k => wr.heap.size ≤ k) wr w3 := (hU3.mono (S := fun k => wr.heap.size ≤ k) fun _ _ e => e.elim).below hB3 (fun k h1 h2 => by omega)
            have HR2 := Lib.hid (HR.out.later hU4 (fun k e => e))
            have HB4 := Lib.hid (hB2.trans (hB3.mono (by omega)))
            have hn3 : ∀ j u, (L3.map Prod.snd)[j]? = some u → w3.cell? ((⟨g3, 0, none⟩ : Addr).add j) = some u := fun j u e => HR3.out.own.cells (g := g3) rfl j u e
            have h1c : ∀ u ∈ L3.map Prod.snd, u.oneCell' = true := fun u hu => by
              obtain ⟨x, hx, rfl⟩ := List.mem_map.1 hu
              obtain ⟨A4, c4, e4, _⟩ := lnHas_slice (HR3.out.has x hx)
              rw [e4]; rfl
            have Hn3 := Lib.hid hn3
            have H1c := Lib.hid h1c
            clear hn3 h1c hL3 hR3 hU4 hB2 hB3
            go_wp2_with (at_builtin; refine wpList_append_own_at _ rfl (.tmp 40) (.tmp 53) _ rfl 0 22 i3 _ 1 24 Try.underlying30 hi3 hz30 hz31 hz32 rfl (by omega) _ L.length _ rfl HR2.out.own ⟨g3, 0, none⟩ L3.length c3 (L3.map Prod.snd) rfl (by simp) Hn3.out H1c.out (by simp only [maxLen]; omega) (by omega) (by omega) ?_; intro v4 w4 hown4 hg4 hnil4 hat4)
            have Happ := Lib.hid (HR2.out.app (S' := fun j => w.heap.size ≤ j) (z := w2.heap.size) (fun k e => by have := hLl.1 k e; omega) (fun x hx k e => by have := hLl.2 x hx k e; omega) HR3.out hown4 hg4 hat4 (fun k e => e) (fun k e => by omega) z3)
            obtain ⟨g4, cap4, rfl⟩ : ∃ g cap, v4 = .slice (some ⟨g, 0, none⟩) (L.length + L3.length) cap := by
              rcases hown4.2 with ⟨e, _⟩ | ⟨g, cap, cur, e, _⟩
              · exact absurd (show Value.slice (some ⟨g', 0, none⟩) L.length cc = .slice none 0 0 from (hnil4.1 e).1) (fun h => by cases h)
              · exact ⟨g, cap, e⟩
            have HB5 := Lib.hid (((Upd.refl (fun k => w.heap.size ≤ k) w3).grown hg4 (fun k e => .inr (HR2.out.inS.1 k e))).toBelow (B := w.heap.size) (fun k e => e) (by omega))
            clear hown4 hg4 hnil4 hat4
            go_roundw
            case rel => exact ⟨a + 1, L ++ L3, g4, cap4, by omega, by go_num, by rw [List.length_append], by rw [List.map_append, HL.out, HL3.out, nxUp_yes Hs.out, alX_snoc], Happ.out, HB4.out.trans HB5.out⟩
            case measure => simp [intOf]; omega
          · have Hs := Lib.hid (Hsl.out hl)
            have Hn := Lib.hid (nxUp_no Hs.out)
            have hbl := bits_less (a := (du zs)[a]?.getD 0) (b := s) hdb.1 (by omega) hs0 (by omega)
            have hbn : (bits .andNot .i64 ((du zs)[a]?.getD 0) s == 0) = false := by rw [hbl]; simpa using hl
            clear hl hb Hst Hsl hbl
            generalize (du zs)[a]?.getD 0 = d at *
            go_wp2_with (go_at_call 70; refine (bit_any _ _ _ (by omega) (by omega) (by omega) (by omega)).mono ?_; rintro e w' ⟨rfl, rfl⟩)
            go_roundw
            case rel => exact ⟨a + 1, L, g', cc, by omega, by go_num, rfl, by rw [Hn.out]; exact HL.out, HR.out, hB⟩
            case measure => simp [intOf]; omega
        · have hbi : (bitI s (a : Int) == 0) = false := by rw [bitI_true hb]; rfl
          have Hs := Lib.hid (st_bit (zs := zs) hb)
          have Hn := Lib.hid (nxUp_no Hs.out)
          clear hb Hst Hsl
          generalize (du zs)[a]?.getD 0 = d at *
          go_wp2_with (go_at_call 70; refine (bit_any _ _ _ (by omega) (by omega) (by omega) (by omega)).mono ?_; rintro e w' ⟨rfl, rfl⟩)
          go_roundw
          case rel => exact ⟨a + 1, L, g', cc, by omega, by go_num, rfl, by rw [Hn.out]; exact HL.out, HR.out, hB⟩
          case measure => simp [intOf]; omega
      · obtain rfl : a = n := by omega
        have Hall := Lib.hid (show alX zs k so s (nxUp zs s a) = alG zs (k + 1) so s by rw [← alX_all]; unfold nxA nxUp; rw [hlen.out])
        have HR := Lib.hid hR
        have HL := Lib.hid hL
        clear hR hL
        go_wp2
        go_ret
        exact ⟨_, g', cc, rfl, ⟨L, rfl, by rw [← Hall.out]; exact HL.out, HR.out⟩, hB⟩
end Go.Proofs.Ytghogabmkbadjaa

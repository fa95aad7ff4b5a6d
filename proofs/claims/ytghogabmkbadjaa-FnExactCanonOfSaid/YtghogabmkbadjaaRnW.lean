/- CanonOf: the model's, whole. -/
import Derived.Test.YtghogabmkbadjaaRnU
import Derived.Test.YtghogabmkbadjaaGb
set_option linter.unusedVariables false
set_option linter.unusedSimpArgs false
namespace Go.Proofs.Ytghogabmkbadjaa
open Go.RowKit Go.Shelf

set_option maxHeartbeats 1000000 in
theorem lessIntsB_any (A A' : Option Addr) (n c c' B B' : Nat) (xs ys : List Int) (w : World) (hA : Ints w B A n xs) (hA' : Ints w B' A' n ys) (hbig : n ≤ 1152921504606846976) :
    Calls Try.prog 80 #[.slice A n c, .slice A' n c'] w fun e w' => e = .returned (.bool (lessRB xs ys)) ∧ ∃ m, w' = w.drewN m := by
  have hlen := Lib.hid hA.len
  have hlen' := Lib.hid hA'.len
  go_enter Try.func80, Try.ntmps80
  go_wp2
  go_loopw [5] (fun i wr => ∃ k m : Nat, k ≤ n ∧ i = .int .i64 k ∧ (∀ a, a < k → xs[a]?.getD 0 = ys[a]?.getD 0) ∧ wr = w.drewN m) (fun i _ => n - (intOf i).toNat)
  case atStart => exact ⟨0, 0, by omega, rfl, fun a ha => by omega, rfl⟩
  case round =>
    obtain ⟨k, m, hk, rfl, hok, rfl⟩ := hrel
    have Hok := Lib.hid hok
    clear hok
    by_cases hlt : k < n
    · obtain ⟨b, off, rfl, _, hc⟩ := hA.at_ hlt
      obtain ⟨b', off', rfl, _, hc'⟩ := hA'.at_ hlt
      have hck := hc k hlt
      have hck' := hc' k hlt
      have Hc := Lib.hid hc
      have Hc' := Lib.hid hc'
      clear hc hc'
      cases hne : (xs[k]?.getD 0 != ys[k]?.getD 0)
      · have Heq := Lib.hid (show xs[k]?.getD 0 = ys[k]?.getD 0 by simpa [bne] using hne)
        go_wp2
        go_quiet (fail)
        go_wp2
        go_roundw
        case rel => exact ⟨k + 1, _, by omega, by go_num, all_snoc Hok.out Heq.out, rfl⟩
        case measure => simp [intOf]; omega
      · have Hne := Lib.hid (lessRB_at (xs := xs) (ys := ys) (k := k) (by rw [hlen.out]; exact hlt) (by rw [hlen'.out]; exact hlt) Hok.out (by simpa [bne] using hne))
        generalize xs[k]?.getD 0 = x at *
        generalize ys[k]?.getD 0 = y at *
        go_wp2
        go_quiet (fail)
        go_wp2
        go_quiet (fail)
        go_wp2
        go_ret
        exact ⟨ret_bool Hne.out.symm, by first | exact ⟨_, rfl⟩ | exact ⟨_, (congrArg (fun z => World.drewN z _) (World.drewN_drewN ..)).trans (World.drewN_drewN ..)⟩⟩
    · obtain rfl : k = n := by omega
      have Hf := Lib.hid (lessRB_end (xs := xs) (ys := ys) (k := k) (by rw [hlen.out]; exact Nat.le_refl _) (by rw [hlen'.out]; exact Nat.le_refl _) (.inl (by rw [hlen.out])) Hok.out)
      go_wp2
      go_ret
      exact ⟨ret_bool Hf.out.symm, _, rfl⟩

theorem canR_le (zs : List Int) : (canR zs).length ≤ 1048576 := by
  unfold canR
  cases h : triB zs
  · simp
  · have := (triB_vo h).2
    simp only [if_true]
    rw [canT_len]; omega

set_option maxRecDepth 100000 in
set_option maxHeartbeats 4000000 in
theorem scanon_any (b0 o0 n c : Nat) (zs : List Int) (hvo : VoP zs) (w : World) (h : Ints w w.heap.size (some ⟨b0, o0, none⟩) n zs) (hb0 : b0 < w.heap.size) :
    Calls Try.prog 55 #[.slice (some ⟨b0, o0, none⟩) n c] w (GivesRowC w (canT zs (alL (zr n)))) := by
  have hlen := Lib.hid h.len
  have hn6 : n ≤ 6 := by have := hvo.1; rw [hlen.out] at this; exact this
  obtain ⟨i0, hi0, hz0, hz1, hz2⟩ := info_parts infoInt
  go_enter Try.func55, Try.ntmps55
  go_wp2_with fail
  refine (perm_rows n hn6 w).mono ?_
  rintro e w2 ⟨g, N, cN, rfl, hN, hNb, hR, hB2⟩
  have z2 := hB2.size
  have i2 := h.to hB2 (Nat.le_refl _) z2
  have HN := Lib.hid hN
  clear hN h
  go_wp2_with fail
  go_loopw [3, 5, 6] (fun best i _ wr => ∃ (k b' o' c' : Nat), k ≤ N ∧ i = .int .i64 k ∧ best = .slice (some ⟨b', o', none⟩) n c' ∧ b' < wr.heap.size ∧ Ints wr wr.heap.size (some ⟨b', o', none⟩) n (canT zs ((alL (zr n)).take k)) ∧ Below w2.heap.size w2 wr) (fun _ i _ _ => N - (intOf i).toNat)
  case atStart => exact ⟨0, b0, o0, c, by omega, rfl, rfl, by omega, i2, Below.refl _ _⟩
  case round =>
    obtain ⟨k, b', o', cb, hk, rfl, rfl, hbl, hI, hB⟩ := hrel
    rename World => wr
    have zB := hB.size
    by_cases hlt : k < N
    · obtain ⟨b9, off, e0, hb9, hc⟩ := (hR.below hB).at_ hlt
      cases e0
      obtain ⟨A', c', hcell, hIr⟩ := hc k hlt
      clear hc
      obtain ⟨hlb, hll⟩ := alz_row (n := n) (k := k) (by rw [HN.out]; exact hlt)
      have htk := take_snoc (l := alL (zr n)) (k := k) (by rw [HN.out]; exact hlt)
      generalize hrr : (alL (zr n))[k]?.getD [] = r at *
      have Htk := Lib.hid (show canT zs ((alL (zr n)).take (k + 1)) = if lessRB (rnL zs r) (canT zs ((alL (zr n)).take k)) then rnL zs r else canT zs ((alL (zr n)).take k) by rw [htk, canT_snoc])
      have Hlb := Lib.hid hlb
      clear htk hrr hlb
      rw [hll, Nat.zero_add] at hcell
      rw [hll] at hIr
      generalize canT zs ((alL (zr n)).take k) = q at *
      have i3 := i2.to hB (Nat.le_refl _) zB
      go_wp2_with fail
      refine (rnS_any _ A' n c c' zs r wr i3 (hIr.more zB) hvo.sets Hlb.out).mono ?_
      rintro e w3 ⟨rfl, hA3, hB3⟩
      have z3 := hB3.size
      have hD := hB.trans (hB3.mono zB)
      have hI3 := hI.to hB3 (Nat.le_refl _) z3
      have hIx := hA3.ints' (B := w3.heap.size) hA3.lt (show (rnL zs r).length = n by rw [rnL_len, hlen.out])
      have hxl := hA3.lt
      go_wp2_with fail
      refine (below_quiet (lessIntsB_any _ _ n _ _ w3.heap.size w3.heap.size (rnL zs r) q _ hIx hI3 (by omega))).mono ?_
      rintro e w4 ⟨rfl, hB4⟩
      have z4 := hB4.size
      have hD4 := hD.trans (hB4.mono (by omega))
      have hI4 := hI3.to hB4 (Nat.le_refl _) z4
      have hIx4 := hIx.to hB4 (Nat.le_refl _) z4
      cases he : lessRB (rnL zs r) q
      · rw [he] at Htk
        go_wp2_with fail
        go_roundw
        case rel => exact ⟨k + 1, b', o', cb, by omega, by go_num, rfl, by omega, by rw [Htk.out]; exact hI4, hD4⟩
        case measure => simp [intOf]; omega
      · rw [he] at Htk
        go_wp2_with fail
        go_roundw
        case rel => exact ⟨k + 1, wr.heap.size, 0, n, by omega, by go_num, rfl, by omega, by rw [Htk.out]; exact hIx4, hD4⟩
        case measure => simp [intOf]; omega
    · obtain rfl : k = N := by omega
      have Htk := Lib.hid (show (alL (zr n)).take k = alL (zr n) by rw [List.take_of_length_le]; rw [HN.out]; exact Nat.le_refl _)
      rw [Htk.out] at hI
      have Hl := Lib.hid (show (canT zs (alL (zr n))).length = n by rw [canT_len, hlen.out])
      generalize canT zs (alL (zr n)) = q at *
      have hown := own_new wr 3
      have hU1 : Upd (fun _ => False) wr (wr.alloc (.cells #[] 3)) := (Upd.refl _ wr).alloc _
      have hz1' : (wr.alloc (.cells #[] 3)).heap.size = wr.heap.size + 1 := by simp
      have hcell : ∀ j, j < n → wr.cell? ⟨b', o' + j, none⟩ = some (.int .i64 (q[j]?.getD 0)) := fun j hj => by
        obtain ⟨b3, o3, e3, _, hc⟩ := hI.at_ hj
        cases e3
        exact hc j hj
      have hnews : ∀ j u, (q.map (Value.int .i64))[j]? = some u → (wr.alloc (.cells #[] 3)).cell? ((⟨b', o', none⟩ : Addr).add j) = some u := fun j u hj => by
        rw [List.getElem?_map] at hj
        have hjl : j < q.length := by
          rcases Nat.lt_or_ge j q.length with h1 | h1
          · exact h1
          · rw [List.getElem?_eq_none h1] at hj; cases hj
        rw [addr_add3]
        have h2 := hU1.cell (hcell j (by rw [← Hl.out]; exact hjl)) (fun e => e)
        rw [h2, ← hj, List.getElem?_eq_getElem hjl]
        rfl
      have Hnews := Lib.hid hnews
      clear hnews hcell
      go_wp2_with (at_builtin; refine wpList_appendK _ rfl (.tmp 27) (.tmp 28) _ rfl wr.heap.size 3 i0 _ 8 Try.underlying22 hi0 hz0 hz1 hz2 rfl _ 0 [] rfl hown ⟨b', o', none⟩ n cb _ rfl (by rw [List.length_map]; exact Hl.out) Hnews.out (fun u hu => by obtain ⟨z, _, rfl⟩ := List.mem_map.1 hu; rfl) (by simp [maxLen]; omega) (by omega) (by simp) ?_; intro v' w' hown' hg'; rw [Nat.zero_add, List.nil_append] at hown'; obtain ⟨A1, c1, rfl, hV⟩ := rowV_of_own hown')
      go_ret
      have hBn : Below w2.heap.size w2 w' := hB.trans (((hU1.mono (S := fun k => wr.heap.size ≤ k) (fun _ _ e => e.elim)).grown hg' (fun k hk => by simp [Value.ownBlock, Act.eval] at hk; exact .inl (by omega))).toBelow (B := w2.heap.size) (fun k e => by omega) zB)
      obtain ⟨A2, c2, e2, hC⟩ := rowC_of_own hown'
      cases e2
      exact ⟨_, n, c1, rfl, hC.more (by omega) (Nat.le_refl _), hB2.trans (hBn.mono z2)⟩

set_option maxRecDepth 100000 in
theorem specCanonOfF_any (b0 o0 n c : Nat) (zs : List Int) (w : World) (h : Ints w w.heap.size (some ⟨b0, o0, none⟩) n zs) (hb0 : b0 < w.heap.size) (hbig : n ≤ 1152921504606846976) :
    Calls Try.prog 22 #[.slice (some ⟨b0, o0, none⟩) n c] w (GivesRowC w (canR zs)) := by
  have hlen := Lib.hid h.len
  cases hv : vo zs
  · have Ht := Lib.hid (show canR zs = [] by unfold canR triB; rw [hv]; rfl)
    go_enter Try.func22, Try.ntmps22
    go_wp2_with fail
    refine (validOrder_any _ _ _ _ zs _ h hbig).mono ?_
    rw [hv]
    rintro e w' ⟨rfl, m, rfl⟩
    go_wp2_with fail
    go_ret
    exact ⟨_, _, _, rfl, by rw [Ht.out]; exact RowC.nil _ _ _ _, below_drewN (Below.refl _ _) m⟩
  · have hvo : VoP zs := by simpa [vo] using hv
    have Hv := Lib.hid hv
    clear hv
    have hn6 : n ≤ 6 := by have := hvo.1; rw [hlen.out] at this; exact this
    go_enter Try.func22, Try.ntmps22
    go_wp2_with fail
    refine (validOrder_any _ _ _ _ zs _ h hbig).mono ?_
    rw [Hv.out]
    rintro e w' ⟨rfl, m, rfl⟩
    have i1 : Ints (w.drewN m) (w.drewN m).heap.size (some ⟨b0, o0, none⟩) n zs := h.drewN m
    have B1 : Below w.heap.size w (w.drewN m) := below_drewN (Below.refl _ _) m
    generalize w.drewN m = w1 at *
    have z1 := B1.size
    by_cases hn5 : n ≤ 5
    · have Ht := Lib.hid (show canR zs = canT zs (alL (zr n)) by unfold canR; rw [triB_of hvo (by rw [hlen.out]; exact hn5), hlen.out]; rfl)
      go_wp2_with fail
      refine (scanon_any b0 o0 n c zs hvo w1 i1 (by omega)).mono ?_
      rintro e w2 ⟨A2, n2, c2, rfl, hC, hB2⟩
      go_wp2_with fail
      go_ret
      exact ⟨_, _, _, rfl, by rw [Ht.out]; exact hC.more z1 (Nat.le_refl _), B1.trans (hB2.mono z1)⟩
    · have Ht := Lib.hid (show canR zs = [] by unfold canR triB; rw [Hv.out, hlen.out]; simp [hn5])
      go_wp2_with fail
      go_ret
      exact ⟨_, _, _, rfl, by rw [Ht.out]; exact RowC.nil _ _ _ _, B1⟩
end Go.Proofs.Ytghogabmkbadjaa

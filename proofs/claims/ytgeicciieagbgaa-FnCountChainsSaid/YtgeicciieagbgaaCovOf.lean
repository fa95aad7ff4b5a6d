/- CoversOf: the model's and the program's. -/
import Derived.Test.YtgeicciieagbgaaRowed
namespace Go.Proofs.Ytgeicciieagbgaa
open Go.RowKit Go.Shelf
attribute [local go_sem] Oper.semAt_some
attribute [local go_sem, local simp] wide_fn

theorem coverTo_bit {zs : List Int} {a x : Nat} : ∀ b : Nat, bitB (coverTo zs a b) x = (bitB (zs[a]?.getD 0) x && (List.range b).all fun y => !(bitB (zs[a]?.getD 0) y && bitB (zs[y]?.getD 0) x))
  | 0 => by simp [coverTo]
  | b + 1 => by
    have ih := coverTo_bit (zs := zs) (a := a) (x := x) b
    rw [List.range_succ, List.all_append, List.all_cons, List.all_nil, Bool.and_true]
    cases h : bitB (zs[a]?.getD 0) b
    · rw [coverTo_no h, ih]; simp
    · rw [coverTo_yes h, bitB_less, ih, Bool.and_assoc]; simp
theorem coverTo_items {zs : List Int} (h : Sets zs) {a : Nat} (ha : a < zs.length) : itemsL (coverTo zs a zs.length) = (itemsL (zs[a]?.getD 0)).filter (nextB zs a) := by
  unfold itemsL itemsTo
  rw [List.filter_filter]
  refine List.filter_congr fun x hx => ?_
  rw [coverTo_bit, Bool.and_comm]
  congr 1
  unfold nextB
  rw [Bool.eq_iff_iff]
  simp only [List.all_eq_true, List.mem_range, Bool.not_eq_true', itemsL, mem_itemsTo, Bool.and_eq_false_iff]
  constructor
  · rintro h1 y ⟨_, hy⟩
    have hyn := bitB_lt (h.2 a ha).2 hy
    rcases h1 y hyn with h2 | h2
    · rw [hy] at h2; cases h2
    · exact h2
  · intro h1 y hy
    cases hb : bitB (zs[a]?.getD 0) y
    · exact .inl rfl
    · exact .inr (h1 y ⟨by have := h.1; omega, hb⟩)

def rowOf (p : Nat × Nat) : List Int := [(p.1 : Int), (p.2 : Int)]
def covTo (zs : List Int) (k : Nat) : List (Nat × Nat) := (List.range k).flatMap fun a => (itemsL (coverTo zs a zs.length)).map fun b => (a, b)
theorem covTo_succ (zs : List Int) (k : Nat) : covTo zs (k + 1) = covTo zs k ++ (itemsL (coverTo zs k zs.length)).map fun b => (k, b) := by simp [covTo, List.range_succ]
theorem covTo_len {zs : List Int} : ∀ k : Nat, (covTo zs k).length ≤ 6 * k
  | 0 => by simp [covTo]
  | k + 1 => by
    have ih := covTo_len (zs := zs) k
    have h1 : (itemsL (coverTo zs k zs.length)).length ≤ 6 := Nat.le_trans (List.length_filter_le _ _) (by simp)
    rw [covTo_succ]
    simp
    omega
def coverB (zs : List Int) (p : Nat × Nat) : Bool := nextB zs p.1 p.2
theorem cov_pairs {zs : List Int} (h : Sets zs) : covTo zs zs.length = (pairsL zs).filter (coverB zs) := by
  have key : ∀ k, k ≤ zs.length → covTo zs k = (pairsTo zs k).filter (coverB zs) := fun k => by
    induction k with
    | zero => intro _; rfl
    | succ k ih =>
      intro hk
      rw [covTo_succ, pairsTo_succ, List.filter_append, ih (by omega), coverTo_items h (by omega), List.filter_map]
      rfl
  exact key _ (Nat.le_refl _)
def coversR (zs : List Int) : List (List Int) := if vo zs then (covTo zs zs.length).map rowOf else []
theorem pairs_len {zs : List Int} (h : zs.length ≤ 6) : (pairsL zs).length ≤ 36 := by
  have key : ∀ k, (pairsTo zs k).length ≤ 6 * k := fun k => by
    induction k with
    | zero => simp [pairsTo]
    | succ k ih =>
      have h1 : (itemsL (zs[k]?.getD 0)).length ≤ 6 := Nat.le_trans (List.length_filter_le _ _) (by simp)
      rw [pairsTo_succ]
      simp
      omega
  have := key zs.length
  unfold pairsL
  omega
def covAt (zs : List Int) (n a j : Nat) : List (List Int) := (covTo zs a).map rowOf ++ ((itemsL (coverTo zs a n)).take j).map fun b => rowOf (a, b)
theorem covAt_zero (zs : List Int) (n a : Nat) : covAt zs n a 0 = (covTo zs a).map rowOf := by simp [covAt]
theorem covAt_all {zs : List Int} {n a : Nat} (h : zs.length = n) : covAt zs n a (itemsL (coverTo zs a n)).length = (covTo zs (a + 1)).map rowOf := by
  subst h
  simp [covAt, covTo_succ, Function.comp_def]
theorem covAt_succ {zs : List Int} {n a j : Nat} (hj : j < (itemsL (coverTo zs a n)).length) : covAt zs n a j ++ [[(a : Int), ((itemsL (coverTo zs a n)).map fun x : Nat => (x : Int))[j]?.getD 0]] = covAt zs n a (j + 1) := by
  rw [covAt, covAt, List.take_succ_eq_append_getElem hj, List.map_append, ← List.append_assoc]
  simp [rowOf, hj]
theorem covAt_len {zs : List Int} {n a j : Nat} (ha : a < 6) : (covAt zs n a j).length ≤ 36 := by
  have h1 := covTo_len (zs := zs) a
  have h2 : (itemsL (coverTo zs a n)).length ≤ 6 := Nat.le_trans (List.length_filter_le _ _) (by simp)
  have h3 : ((itemsL (coverTo zs a n)).take j).length ≤ 6 := by rw [List.length_take]; omega
  simp only [covAt, List.length_append, List.length_map]
  omega

theorem own_lt {w : World} {B : Nat} {v : Value} {rs : List (List Int)} (h : Rowed w B v rs) : ∀ k, v.ownBlock = some k → k < w.heap.size := fun k hk => by
  obtain ⟨vs, h1, _⟩ := h
  obtain ⟨cs, hcs⟩ := own_block h1 k hk
  exact (Array.getElem?_eq_some_iff.1 hcs).1
theorem cell_new2 (w : World) (o : Obj) (e : TypeId) (u : Value) : ((w.alloc o).alloc (.cells #[u] e)).cell? ⟨w.heap.size + 1, 0, none⟩ = some u := by
  have h := cell_new (w.alloc o) e u
  rwa [World.size_alloc] at h
set_option maxHeartbeats 4000000 in
theorem specCoversOf_any (A : Option Addr) (n c : Nat) (zs : List Int) (w : World) (h : Ints w w.heap.size A n zs) (hbig : n ≤ 1152921504606846976) :
    Calls Try.prog 25 #[.slice A n c] w (GivesRows w (coversR zs)) := by
  have hlen := Lib.hid h.len
  cases hv : vo zs
  · have Ht := Lib.hid (show coversR zs = [] by unfold coversR; rw [hv]; rfl)
    go_enter Try.func25, Try.ntmps25
    go_wp2_with (go_at_call 68; refine (validOrder_any _ _ _ _ zs _ h hbig).mono ?_; rintro e w' ⟨rfl, m, rfl⟩)
    go_ret
    exact ⟨none, 0, 0, rfl, by rw [Ht.out]; exact RowsR.nil _ _ _ _, below_drewN (Below.refl _ _) _⟩
  · have hvo : VoP zs := by simpa [vo] using hv
    have hn6 : n ≤ 6 := by have := hvo.1; rw [hlen.out] at this; exact this
    have Ht := Lib.hid (show coversR zs = (covTo zs n).map rowOf by unfold coversR; rw [hv, hlen.out]; rfl)
    obtain ⟨i0, hi0, hz0, hz1, hz2⟩ := infoRow_parts
    go_enter Try.func25, Try.ntmps25
    go_wp2_with fail
    refine (validOrder_any _ _ _ _ zs _ h hbig).mono ?_
    rintro e w1 ⟨rfl, m, hm⟩
    have hB : Below w.heap.size w w1 := by rw [hm]; exact below_drewN (Below.refl _ _) _
    have hI := h.below hB
    have hz1' := hB.size
    clear hm
    go_wp2_with fail
    have R1 := Rowed.new w1
    have hu1 : Upd (fun _ => False) w1 (w1.alloc (.cells #[] 23)) := (Upd.refl _ _).alloc _
    have hE := heap_alloc_new w1 (.cells #[] 23)
    have hzx : (w1.alloc (.cells #[] 23)).heap.size = w1.heap.size + 1 := by simp
    obtain ⟨W1, hW1⟩ : ∃ W1, w1.alloc (.cells #[] 23) = W1 := ⟨_, rfl⟩
    rw [hW1] at R1 hu1 hzx hE ⊢
    clear hW1
    have zW1 := hu1.size
    have zx : W1.heap.size = w1.heap.size + 1 := hzx
    clear hzx
    refine (specCoversOf0_any _ _ _ zs _ ((hI.below (hu1.toBelow (fun _ e => e.elim) hz1')).more (by omega)) hvo.sets).mono ?_
    rintro e w2 ⟨A2, c2, rfl, hI2, hB2⟩
    have z2 := hB2.size
    have R2 := R1.keep (Below.toUpd hB2) (fun j hj => .inr hj)
    have hB02 : Below w.heap.size w w2 := (hB.trans (hu1.toBelow (fun _ e => e.elim) hz1')).trans (hB2.mono (by omega))
    have hE2 : w2.heap[w1.heap.size]? = some (.cells #[] 23 (0, 0)) := (hB2.block _ (by omega)).trans hE
    clear hI hB hu1 R1 hE
    go_wp2_with fail
    go_loopw [3, 5] (fun v i wr => ∃ a : Nat, a ≤ n ∧ i = .int .i64 a ∧ Rowed wr w1.heap.size v (covAt zs n a 0) ∧ (∀ k, v.ownBlock = some k → k = w1.heap.size ∨ w2.heap.size ≤ k) ∧ Upd (fun k => k = w1.heap.size) w2 wr) (fun _ i _ => n - (intOf i).toNat)
    case atStart => exact ⟨0, by omega, rfl, R2, fun k hk => by cases hk; exact .inl rfl, Upd.refl _ _⟩
    case round =>
      obtain ⟨a, ha, rfl, hR, hV, hU⟩ := hrel
      have zr := hU.size
      by_cases hak : a < n
      · have hz := hvo.sets.bd a (by rw [hlen.out]; exact hak)
        have hcb := coverTo_bd hvo.sets (a := a) (by rw [hlen.out]; exact hak) n
        obtain ⟨bl, off, rfl, hbl, hc⟩ := hI2.at_ hak
        have hca := hc a hak
        have hne : bl ≠ w1.heap.size := fun e => by
          rw [e, cell_of_row _ _ _ _ _ _ hE2] at hca
          simp at hca
        have hck := hU.cell hca hne
        clear hc hca
        have hg : ((List.range n).map fun a => coverTo zs a n)[a]?.getD 0 = coverTo zs a n := by simp [hak]
        rw [hg] at hck
        clear hg
        have Hz := Lib.hid (covAt_all (a := a) hlen.out)
        go_wp2_with fail
        refine (listOf_any _ _ hcb.1 (by omega)).mono ?_
        rintro e w3 ⟨A3, c3, ⟨rfl⟩, hI3, hB3, hA3⟩
        have z3 := hB3.size
        obtain ⟨zr0, hzr0⟩ : ∃ z, wr.heap.size = z := ⟨_, rfl⟩
        rw [hzr0] at hA3
        have R3 := hR.keep (Below.toUpd hB3) (fun j hj => .inr hj)
        go_wp2_with fail
        go_loopw [3, 7] (fun v i wr => ∃ j : Nat, j ≤ (itemsL (coverTo zs a n)).length ∧ i = .int .i64 j ∧ Rowed wr w1.heap.size v (covAt zs n a j) ∧ (∀ k, v.ownBlock = some k → k = w1.heap.size ∨ w2.heap.size ≤ k) ∧ Ints wr w3.heap.size A3 (itemsL (coverTo zs a n)).length ((itemsL (coverTo zs a n)).map fun x : Nat => (x : Int)) ∧ (∀ k, v.ownBlock = some k → k < zr0 ∨ w3.heap.size ≤ k) ∧ w3.heap.size ≤ wr.heap.size ∧ Upd (fun k => k = w1.heap.size) w2 wr) (fun _ i _ => (itemsL (coverTo zs a n)).length - (intOf i).toNat)
        case atStart => exact ⟨0, by omega, rfl, R3, hV, hI3, fun k hk => by have := own_lt hR k hk; omega, Nat.le_refl _, hU.below hB3 (fun k h1 h2 => by omega)⟩
        case round =>
          clear hR hV R3
          have zU := hU.size
          clear hU
          obtain ⟨j, hj, rfl, hR, hV, hI, hV3, h3w, hU⟩ := hrel
          have z2r := hU.size
          by_cases hjk : j < (itemsL (coverTo zs a n)).length
          · obtain ⟨b3, off3, rfl, hb3, hc3⟩ := hI.at_ hjk
            have hcj := hc3 j hjk
            clear hc3
            obtain ⟨vs, hown, hC, hb1⟩ := hR
            have hlen36 := covAt_len (zs := zs) (n := n) (a := a) (j := j) (by omega)
            have hs := covAt_succ hjk
            have Hjk := Lib.hid hjk
            have hil : (itemsL (coverTo zs a n)).length ≤ 6 := Nat.le_trans (List.length_filter_le _ _) (by simp)
            generalize ((itemsL (coverTo zs a n)).map fun x : Nat => (x : Int))[j]?.getD 0 = x at hcj hs
            have Hs := Lib.hid hs
            clear hs
            go_wp2_with (at_builtin; go_loud (refine wpList_append1 _ rfl (.tmp 31) (.tmp 38) _ rfl w1.heap.size 23 i0 _ 24 Try.underlying29 hi0 hz0 hz1 hz2 rfl _ (covAt zs n a j).length _ rfl ((hown.alloc _).alloc _) (wr.heap.size + 1) 1 (.slice (some ⟨wr.heap.size, 0, none⟩) 2 2) rfl (cell_new2 _ _ _ _) rfl (by omega) (by omega) (by simp; omega) ?_); rintro v' w' hown' hg' hv')
            go_roundw
            case rel =>
              have zg := hg'.size
              have hjk' := Hjk.out
              simp at zg
              have hgU : Upd (fun k => k = w1.heap.size) w2 w' := ((hU.alloc _).alloc _).grown hg' (fun k hk => by have := hV k hk; omega)
              refine ⟨j + 1, by omega, by go_num, by rw [← Hs.out]; exact Rowed.step hown rfl hC hb1 hown' hg', fun k hk => ?_, Ints.grown (hI.below (((Below.refl w3.heap.size wr).alloc h3w _).alloc (by simp; omega) _)) (by simp; omega) hg' (fun p k hp hk hpb => by have := hA3 p hp; have := hV3 k hk; omega), fun k hk => ?_, by omega, hgU⟩
              · rcases hv' with e | e
                · exact hV k (e ▸ hk)
                · rw [e] at hk; simp at hk; omega
              · rcases hv' with e | e
                · exact hV3 k (e ▸ hk)
                · rw [e] at hk; simp at hk; omega
            case measure => have hjk' := Hjk.out; simp [intOf]; omega
          · obtain rfl : j = (itemsL (coverTo zs a n)).length := by omega
            rw [Hz.out] at hR
            have Hq := Lib.hid (covAt_zero zs n (a + 1))
            go_wp2
            go_roundw
            case rel => exact ⟨a + 1, by omega, by go_num, by rw [Hq.out]; exact hR, hV, hU⟩
            case measure => simp [intOf]; omega
      · obtain rfl : a = n := by omega
        have Hz := Lib.hid (covAt_zero zs a a)
        rw [Hz.out, ← Ht.out] at hR
        obtain ⟨A', c', rfl, hRR⟩ := hR.rows
        go_wp2
        go_ret
        exact ⟨A', _, c', rfl, RowsR.sooner hRR (by omega), hB02.trans (hU.toBelow (fun k e => by omega) (by omega))⟩
end Go.Proofs.Ytgeicciieagbgaa

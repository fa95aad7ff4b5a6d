/- The two lines of a side tell the order; the model's lines are they. No program. -/
import Derived.Test.YtipdmaggfbfnlaaPlM
import Derived.Test.YtipdmaggfbfnlaaGd
set_option linter.unusedVariables false
set_option linter.unusedSimpArgs false
namespace Go.Proofs.Ytipdmaggfbfnlaa

/-- One line, where each two items stand in order. -/
structure Tot (E : List Int) : Prop where
  vo : VoP E
  tot : ∀ x y, x < E.length → y < E.length → x ≠ y → qB E x y ∨ qB E y x
theorem eit_tot {zs T : List Int} (h : VoP zs) (hT : SideOf zs T) : Tot (eitL zs T) := ⟨eitL_vo h hT, fun x y hx hy hxy => by rw [eitL_len] at hx hy; exact eitL_tot hT hx hy hxy⟩
section
variable {E : List Int} {n : Nat}
def onL (E : List Int) : List Int := atL E 0 E.length
theorem on_line (h : VoP E) : lineB E (onL E) = true :=
  (rank_at h (cF_ge1 h _ _ (Nat.le_refl _) (by have := Nat.two_pow_pos E.length; omega))).1
theorem du_zr_get {n : Nat} (hn : n ≤ 6) (a : Nat) : (du (zr n))[a]?.getD 0 = 0 := by
  rw [zr_du hn]
  unfold zr
  rw [List.getElem?_replicate]
  split <;> rfl
theorem less_zero_left (s : Int) : lessI 0 s = 0 := by rw [lessI_none]; intro j hj; rw [bitB_zero] at hj; cases hj
/-- A line of an order is a line of each order that has less. -/
theorem line_less {zs r : List Int} (h : VoP E) (hz : VoP zs) (hl : zs.length = E.length) (hs : ∀ x y, qB zs x y → qB E x y) (hr : lineB E r = true) : lineB zs r = true := by
  obtain ⟨h1, h2⟩ := line_steps hr
  refine lineB_yes h1 hl.symm fun k hk => ?_
  have hk2 := h2 k hk
  unfold stepOk at hk2 ⊢
  rw [Bool.and_eq_true, Bool.and_eq_true] at hk2 ⊢
  rw [hl]
  refine ⟨hk2.1, hk2.2.1, ?_⟩
  have hd := beq_iff_eq.1 hk2.2.2
  rw [lessI_none] at hd
  rw [beq_iff_eq, lessI_none]
  intro j hj
  refine hd j ?_
  rw [du_bit hz.sets] at hj
  rw [du_bit h.sets]
  exact hs j _ hj
theorem line_zr {r : List Int} (h : VoP E) (hn : E.length = n) (hr : lineB E r = true) : lineB (zr n) r = true := by
  have hn6 : n ≤ 6 := by have := h.1; omega
  refine line_less h (zr_vo hn6) (by rw [zr_len, hn]) (fun x y hq => ?_) hr
  unfold qB zr at hq
  rw [List.getElem?_replicate] at hq
  split at hq <;> rw [show (Option.getD _ (0 : Int)) = 0 from rfl, bitB_zero] at hq <;> cases hq
/-- What is above is behind. -/
theorem line_behind {r : List Int} (h : VoP E) (hn : E.length = n) (hr : lineB E r = true) {x y : Nat} (hq : qB E x y) : atI r (x : Int) < atI r (y : Int) := by
  have hn6 : n ≤ 6 := by have := h.1; omega
  obtain ⟨hx, hy⟩ := q_lt2 h hq
  rw [hn] at hx hy
  have hz := line_zr h hn hr
  obtain ⟨k, hk, e1, e2⟩ := at_of hn6 hz hy
  have h2 := (line_steps hr).2 k (by rw [hn]; exact hk)
  unfold stepOk at h2
  rw [Bool.and_eq_true, Bool.and_eq_true] at h2
  have hd := beq_iff_eq.1 h2.2.2
  rw [lessI_none] at hd
  have hit := (it_lt hz hk).1
  rw [e1] at hit
  have := hd x (by rw [hit, Int.toNat_natCast, du_bit h.sets]; exact hq)
  have hs := (zr_steps hz).2
  obtain ⟨i, hi, e3⟩ := (done_of (n := n) (k := k) (fun i hi => hs i (by omega)) x).1 this
  have e4 := at_it hz (show i < n by omega)
  rw [e3] at e4
  rw [e2, e4]; omega
theorem tot_behind {r : List Int} (h : Tot E) (hn : E.length = n) (hr : lineB E r = true) {x y : Nat} (hx : x < n) (hy : y < n) : qB E x y ↔ atI r (x : Int) < atI r (y : Int) := by
  refine ⟨line_behind h.vo hn hr, fun hlt => ?_⟩
  have hxy : x ≠ y := fun e => by subst e; omega
  rcases h.tot x y (by omega) (by omega) hxy with e | e
  · exact e
  · have := line_behind h.vo hn hr e; omega
theorem pop_com_fin : ∀ n : Fin 7, ∀ s : Fin 64, s.val < 2 ^ n.val → popI ((2 ^ n.val - 1 - s.val : Nat) : Int) + popI (s.val : Int) = (n.val : Int) := by decide +kernel
/-- How many are above the item at place k. -/
theorem tot_pop {r : List Int} (h : Tot E) (hn : E.length = n) (hr : lineB E r = true) {k : Nat} (hk : k < n) : popI (E[itN r k]?.getD 0) = (n : Int) - 1 - k := by
  have hn6 : n ≤ 6 := by have := h.vo.1; omega
  have hz := line_zr h.vo hn hr
  have hx := (it_lt hz hk).2
  have hs := (zr_steps hz).2
  have e : E[itN r k]?.getD 0 = leftTo n r (k + 1) := by
    refine bitB_ext (h.vo.sets.2 _ (by omega)).1 (leftTo_bd _).1 fun j => ?_
    rcases Nat.lt_or_ge j n with hj | hj
    · rw [left_at hn6 hz hk j hj]
      have := tot_behind h hn hr hx hj
      rw [at_it hz hk] at this
      rw [Bool.eq_iff_iff, decide_eq_true_eq]; exact this
    · have b1 : bitB (E[itN r k]?.getD 0) (j : Int) = false := by
        cases e : bitB (E[itN r k]?.getD 0) (j : Int)
        · rfl
        · have := bitB_lt (h.vo.sets.2 _ (show itN r k < E.length by omega)).2 e; omega
      have b2 : bitB (leftTo n r (k + 1)) (j : Int) = false := by
        cases e : bitB (leftTo n r (k + 1)) (j : Int)
        · rfl
        · have := bitB_lt (leftTo_bd (n := n) (ls := r) (k + 1)).2 e; omega
      rw [b1, b2]
  have hs' : ∀ k, k < (zr n).length → stepOk (zr n) r k = true := by rw [zr_len]; exact hs
  have h1 := left_com (zs := zr n) (ls := r) (zr_vo hn6) (k + 1) (fun i hi => hs i (by omega))
  have h2 := line_pop (zs := zr n) (ls := r) (zr_vo hn6) hs' (k + 1) (by rw [zr_len]; omega)
  have h3 := (d_is (zs := zr n) (ls := r) (k := k + 1) (fun i hi => hs i (by omega))).2
  rw [zr_len] at h1 h3
  have hp64 : 2 ^ n ≤ 64 := Nat.pow_le_pow_right (n := 2) (by decide) hn6
  have h4 := pop_com_fin ⟨n, by omega⟩ ⟨dN r (k + 1), by omega⟩ h3
  simp only at h4
  rw [e, h1]
  omega
/-- The model's line: the items by how many are above them. -/
def mdL (E : List Int) (k : Nat) : List Int := (List.range k).map fun j : Nat => atI (E.map popI) ((E.length : Int) - 1 - j)
theorem mdL_succ (E : List Int) (k : Nat) : mdL E (k + 1) = mdL E k ++ [atI (E.map popI) ((E.length : Int) - 1 - k)] := by simp [mdL, List.range_succ]
theorem mdL_len (E : List Int) (k : Nat) : (mdL E k).length = k := by simp [mdL]
theorem md_on (h : Tot E) : mdL E E.length = onL E := by
  have hr := on_line h.vo
  have hz := line_zr h.vo rfl hr
  have hn6 := h.vo.1
  have hl := (line_steps hr).1
  refine List.ext_getElem? fun k => ?_
  rcases Nat.lt_or_ge k E.length with hk | hk
  · have hk2 : k < (onL E).length := by omega
    have e1 := (it_lt hz hk).1
    rw [List.getElem?_eq_getElem hk2, Option.getD_some] at e1
    rw [List.getElem?_eq_getElem hk2, e1]
    simp only [mdL, List.getElem?_map, List.getElem?_range hk, Option.map_some]
    congr 1
    have hget : ∀ j, j < E.length → (E.map popI)[j]?.getD 0 = popI (E[j]?.getD 0) := fun j hj => by
      rw [List.getElem?_map, List.getElem?_eq_getElem hj]; rfl
    refine atI_hit (fun j hj e => ?_) (by rw [List.length_map]; exact (it_lt hz hk).2) ?_
    · have hjn : j < E.length := by have := (it_lt hz hk).2; omega
      obtain ⟨i, hi, ei⟩ := it_all hn6 hz hjn
      rw [hget j hjn, ← ei, tot_pop h rfl hr hi] at e
      have : i = k := by omega
      subst this
      omega
    · rw [hget _ (it_lt hz hk).2, tot_pop h rfl hr hk]
  · rw [List.getElem?_eq_none (by rw [mdL_len]; exact hk), List.getElem?_eq_none (by omega)]
end

/-- What the two lines have in common is the order. -/
theorem two_lines {zs T : List Int} (h : VoP zs) (hT : SideOf zs T) : lnOk (zs.length : Int) [pl1 zs T, pl1 zs (du T)] = true ∧ meL zs.length [pl1 zs T, pl1 zs (du T)] = zs ∧ lineB zs (pl1 zs T) = true ∧ lineB zs (pl1 zs (du T)) = true := by
  have hn6 := h.1
  have t1 := eit_tot h hT
  have t2 := eit_tot h (side_du hT)
  have p1 : pl1 zs T = onL (eitL zs T) := by unfold pl1 onL; rw [eitL_len]
  have p2 : pl1 zs (du T) = onL (eitL zs (du T)) := by unfold pl1 onL; rw [eitL_len]
  have l1 := on_line t1.vo
  have l2 := on_line t2.vo
  rw [← p1] at l1
  rw [← p2] at l2
  have z1 := line_zr t1.vo eitL_len l1
  have z2 := line_zr t2.vo eitL_len l2
  have hdl := (side_du hT).len
  refine ⟨?_, ?_, ?_, ?_⟩
  · unfold lnOk
    rw [Int.toNat_natCast, show inB (zs.length : Int) 0 6 = true by simp [inB]; omega]
    simp [z1, z2]
  · refine q_eq (by rw [meL_len]) (fun j => (meL_bd _ _ _).1) (fun j => ?_) fun x y => ?_
    · rcases Nat.lt_or_ge j zs.length with hj | hj
      · exact (h.sets.2 j hj).1
      · rw [List.getElem?_eq_none hj]; exact Int.le_refl _
    · rcases Nat.lt_or_ge x zs.length with hx | hx
      · unfold qB
        rw [meL_get _ hx, setP_bit]
        rcases Nat.lt_or_ge y zs.length with hy | hy
        · have b1 := tot_behind t1 eitL_len l1 hx hy
          have b2 := tot_behind t2 eitL_len l2 hx hy
          rw [eitL_q x y hT.len] at b1
          rw [eitL_q x y hdl, du_q hT.vo y x] at b2
          unfold behB
          rw [decide_eq_true hy, Bool.true_and, Bool.and_eq_true]
          simp only [List.all_cons, List.all_nil, Bool.and_true, Bool.and_eq_true, decide_eq_true_eq, ← b1, ← b2]
          constructor
          · rintro ⟨_, e1, e2⟩
            rcases e1 with e1 | e1
            · exact e1
            · rcases e2 with e2 | e2
              · exact e2
              · exact absurd e2 fun e => side_asym hT.vo e1 e
          · intro e
            refine ⟨?_, .inl e, .inl e⟩
            have : x ≠ y := fun e2 => by subst e2; exact q_irr h e
            simpa using this
        · rw [decide_eq_false (by omega), Bool.false_and]
          constructor
          · intro e; cases e
          · intro e; have := (q_lt2 h e).2; omega
      · constructor
        · intro e; have := qB_lt (meL_len _ _) e; omega
        · intro e; have := (q_lt2 h e).1; omega
  · exact line_less t1.vo h (by rw [eitL_len]) (fun x y e => (eitL_q x y hT.len).2 (.inl e)) l1
  · exact line_less t2.vo h (by rw [eitL_len]) (fun x y e => (eitL_q x y hdl).2 (.inl e)) l2
end Go.Proofs.Ytipdmaggfbfnlaa

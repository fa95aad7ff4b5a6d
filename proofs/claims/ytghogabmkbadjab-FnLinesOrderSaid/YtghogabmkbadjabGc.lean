/- Texts that several claims share, one behind the other. -/
import Derived.Test.YtghogabmkbadjabGb
import Derived.Test.YtghogabmkbadjabGa
set_option linter.unusedVariables false
set_option linter.unusedSimpArgs false
/- Ideals, as plain mathematics: what is below a set, when a set is an ideal, and how both are found pair by pair. No program. -/
namespace Go.Proofs.Ytghogabmkbadjab

/-- The set with all that is below its items less than k. -/
def belTo (ds : List Int) (s : Int) : Nat → Int
  | 0 => s
  | k + 1 => if bitB s k then orI (belTo ds s k) (ds[k]?.getD 0) else belTo ds s k
theorem belTo_yes {ds : List Int} {s : Int} {k : Nat} (h : bitB s k = true) : belTo ds s (k + 1) = orI (belTo ds s k) (ds[k]?.getD 0) := by simp [belTo, h]
theorem belTo_no {ds : List Int} {s : Int} {k : Nat} (h : bitB s k = false) : belTo ds s (k + 1) = belTo ds s k := by simp [belTo, h]
theorem belTo_bd {ds : List Int} (h : Sets ds) {s : Int} (h0 : 0 ≤ s) (h1 : s < powI ds.length) : ∀ k : Nat, k ≤ ds.length → 0 ≤ belTo ds s k ∧ belTo ds s k < powI ds.length
  | 0, _ => ⟨h0, h1⟩
  | k + 1, hk => by
    have ih := belTo_bd h h0 h1 k (by omega)
    have hz := h.2 k (by omega)
    unfold belTo
    split
    · exact orI_bd ih.1 ih.2 hz.1 hz.2
    · exact ih
theorem belTo_bit (ds : List Int) (s : Int) (j : Nat) : ∀ k : Nat, bitB (belTo ds s k) j = true ↔ bitB s j = true ∨ ∃ b : Nat, b < k ∧ bitB s b = true ∧ bitB (ds[b]?.getD 0) j = true
  | 0 => by simp [belTo]
  | k + 1 => by
    have ih := belTo_bit ds s j k
    cases hb : bitB s k
    · rw [belTo_no hb, ih]
      constructor
      · rintro (h | ⟨b, h1, h2⟩)
        · exact .inl h
        · exact .inr ⟨b, by omega, h2⟩
      · rintro (h | ⟨b, h1, h2, h3⟩)
        · exact .inl h
        · have : b ≠ k := fun e => by rw [e, hb] at h2; cases h2
          exact .inr ⟨b, by omega, h2, h3⟩
    · rw [belTo_yes hb, bitB_or, Bool.or_eq_true, ih]
      constructor
      · rintro ((h | ⟨b, h1, h2⟩) | h)
        · exact .inl h
        · exact .inr ⟨b, by omega, h2⟩
        · exact .inr ⟨k, by omega, hb, h⟩
      · rintro (h | ⟨b, h1, h2, h3⟩)
        · exact .inl (.inl h)
        · by_cases e : b = k
          · rw [e] at h3; exact .inr h3
          · exact .inl (.inr ⟨b, by omega, h2, h3⟩)
/-- The set with all that is below its items. -/
def belI (zs : List Int) (s : Int) : Int := belTo (du zs) s zs.length
theorem belI_bd {zs : List Int} (h : Sets zs) {s : Int} (h0 : 0 ≤ s) (h1 : s < powI zs.length) : 0 ≤ belI zs s ∧ belI zs s < powI zs.length := by
  have := belTo_bd (du_sets h) (s := s) h0 (by rw [du_len]; exact h1) zs.length (by rw [du_len]; exact Nat.le_refl _)
  rwa [du_len] at this
theorem belI_bit {zs : List Int} (h : Sets zs) {s : Int} (h1 : s < powI zs.length) (j : Nat) : bitB (belI zs s) j = true ↔ bitB s j = true ∨ ∃ b : Nat, bitB s b = true ∧ bitB (zs[j]?.getD 0) b = true := by
  unfold belI
  rw [belTo_bit]
  constructor
  · rintro (e | ⟨b, _, h2, h3⟩)
    · exact .inl e
    · exact .inr ⟨b, h2, by rwa [du_bit h] at h3⟩
  · rintro (e | ⟨b, h2, h3⟩)
    · exact .inl e
    · exact .inr ⟨b, bitB_lt h1 h2, h2, by rwa [du_bit h]⟩
/-- Whether the set is an ideal. -/
def idB (zs : List Int) (s : Int) : Bool := belI zs s == s
theorem idB_iff {zs : List Int} (h : Sets zs) {s : Int} (h0 : 0 ≤ s) (h1 : s < powI zs.length) : idB zs s = true ↔ ∀ a b : Nat, bitB s b = true → bitB (zs[a]?.getD 0) b = true → bitB s a = true := by
  unfold idB
  rw [beq_iff_eq]
  constructor
  · intro e a b h2 h3
    rw [← e]
    exact (belI_bit h h1 a).2 (.inr ⟨b, h2, h3⟩)
  · intro e
    refine bitB_ext (belI_bd h h0 h1).1 h0 fun j => ?_
    rw [Bool.eq_iff_iff, belI_bit h h1]
    constructor
    · rintro (e1 | ⟨b, h2, h3⟩)
      · exact e1
      · exact e j b h2 h3
    · exact .inl
/-- The model's test: the items less than k have all below them. -/
def idTo (ds : List Int) (s : Int) (k : Nat) : Bool := (List.range k).all fun a : Nat => !bitB s a || lessI (ds[a]?.getD 0) s == 0
theorem lessI_none {a b : Int} : lessI a b = 0 ↔ ∀ j : Nat, bitB a j = true → bitB b j = true := by
  constructor
  · intro h j hj
    have : bitB (lessI a b) j = false := by rw [h, bitB_zero]
    rw [bitB_less, hj] at this
    simpa using this
  · intro h
    refine bitB_ext (lessI_bd _ _).1 (Int.le_refl _) fun j => ?_
    rw [bitB_less, bitB_zero]
    cases e : bitB a j
    · rfl
    · rw [h j e]; rfl
theorem idTo_all {zs : List Int} (h : Sets zs) {s : Int} (h0 : 0 ≤ s) (h1 : s < powI zs.length) : idTo (du zs) s zs.length = idB zs s := by
  rw [Bool.eq_iff_iff, idB_iff h h0 h1]
  unfold idTo
  rw [List.all_eq_true]
  constructor
  · intro e a b h2 h3
    have hb := bitB_lt h1 h2
    have := e b (by simpa using hb)
    rw [h2] at this
    simp only [Bool.not_true, Bool.false_or, beq_iff_eq] at this
    exact lessI_none.1 this a (by rwa [du_bit h])
  · intro e b _
    cases h2 : bitB s b
    · rfl
    · simp only [Bool.not_true, Bool.false_or, beq_iff_eq]
      exact lessI_none.2 fun j hj => e j b h2 (by rwa [du_bit h] at hj)
theorem idTo_no {ds : List Int} {s : Int} {k n : Nat} (hk : k < n) (h1 : bitB s k = true) (h2 : (lessI (ds[k]?.getD 0) s == 0) = false) : idTo ds s n = false := by
  cases e : idTo ds s n
  · rfl
  · have := List.all_eq_true.1 e k (by simpa using hk)
    rw [h1, h2] at this; cases this
theorem idTo_succ {ds : List Int} {s : Int} {k : Nat} (h : idTo ds s k = true) (h2 : bitB s k = false ∨ (lessI (ds[k]?.getD 0) s == 0) = true) : idTo ds s (k + 1) = true := by
  unfold idTo at h ⊢
  rw [List.range_succ, List.all_append, h]
  rcases h2 with h2 | h2 <;> simp [h2]

/-- What is marked when a list of pairs is over. -/
def mkP (s : Int) (ps : List (Nat × Nat)) : Int := ps.foldl (fun (m : Int) (p : Nat × Nat) => if bitB m p.2 then orI m (powI p.1) else m) s
theorem mkP_yes {s : Int} {ps : List (Nat × Nat)} {a b : Nat} (h : bitB (mkP s ps) b = true) : mkP s (ps ++ [(a, b)]) = orI (mkP s ps) (powI a) := by
  unfold mkP at *
  rw [List.foldl_append]
  simp only [List.foldl_cons, List.foldl_nil]
  rw [if_pos h]
theorem mkP_no {s : Int} {ps : List (Nat × Nat)} {a b : Nat} (h : bitB (mkP s ps) b = false) : mkP s (ps ++ [(a, b)]) = mkP s ps := by
  unfold mkP at *
  rw [List.foldl_append]
  simp only [List.foldl_cons, List.foldl_nil]
  rw [if_neg (by rw [h]; decide)]
theorem mkP_bd {n : Nat} : ∀ (ps : List (Nat × Nat)) {s : Int}, (∀ p ∈ ps, p.1 < n) → 0 ≤ s → s < powI n → 0 ≤ mkP s ps ∧ mkP s ps < powI n
  | [], s, _, h0, h1 => ⟨h0, h1⟩
  | p :: ps, s, h, h0, h1 => by
    have e : mkP s (p :: ps) = mkP (if bitB s p.2 then orI s (powI p.1) else s) ps := rfl
    rw [e]
    have hp := h p (by simp)
    split
    · have := orI_bd (a := s) (b := powI p.1) (n := n) h0 h1 (Int.le_of_lt (powI_pos _)) (powI_lt hp)
      exact mkP_bd ps (fun q hq => h q (by simp [hq])) this.1 this.2
    · exact mkP_bd ps (fun q hq => h q (by simp [hq])) h0 h1
theorem mkP_inv {zs : List Int} (h : VoP zs) {s : Int} : ∀ (ps : List (Nat × Nat)) (m : Int), (∀ p ∈ ps, lt zs p.1 p.2) → (∀ j : Nat, bitB s j = true → bitB m j = true) →
    (∀ j : Nat, bitB m j = true → bitB s j = true ∨ ∃ b : Nat, bitB s b = true ∧ bitB (zs[j]?.getD 0) b = true) →
    (∀ j : Nat, bitB m j = true → bitB (mkP m ps) j = true) ∧ (∀ j : Nat, bitB (mkP m ps) j = true → bitB s j = true ∨ ∃ b : Nat, bitB s b = true ∧ bitB (zs[j]?.getD 0) b = true) ∧ ∀ p ∈ ps, bitB s p.2 = true → bitB (mkP m ps) p.1 = true
  | [], m, _, _, h2 => ⟨fun _ e => e, h2, fun p hp => by cases hp⟩
  | p :: ps, m, hp, h1, h2 => by
    have e : mkP m (p :: ps) = mkP (if bitB m p.2 then orI m (powI p.1) else m) ps := rfl
    rw [e]
    have hlt := hp p (by simp)
    cases hb : bitB m p.2
    · rw [if_neg (by decide)]
      obtain ⟨g1, g2, g3⟩ := mkP_inv h ps m (fun q hq => hp q (by simp [hq])) h1 h2
      refine ⟨g1, g2, fun q hq hs => ?_⟩
      rcases List.mem_cons.1 hq with rfl | hq
      · rw [h1 _ hs] at hb; cases hb
      · exact g3 q hq hs
    · rw [if_pos rfl]
      have hs1 : ∀ j : Nat, bitB m j = true → bitB (orI m (powI p.1)) j = true := fun j hj => by rw [bitB_or, hj]; rfl
      obtain ⟨g1, g2, g3⟩ := mkP_inv h ps (orI m (powI p.1)) (fun q hq => hp q (by simp [hq])) (fun j hj => hs1 j (h1 j hj)) (fun j hj => by
        rw [bitB_or, bitB_pow, Bool.or_eq_true, decide_eq_true_eq] at hj
        rcases hj with hj | rfl
        · exact h2 j hj
        · rcases h2 _ hb with hs | ⟨b, hs, hz⟩
          · exact .inr ⟨p.2, hs, hlt.2⟩
          · refine .inr ⟨b, hs, (h.trans hlt ⟨?_, hz⟩).2⟩
            rcases Nat.lt_or_ge p.2 zs.length with h1 | h1
            · exact h1
            · rw [List.getElem?_eq_none (by omega), Option.getD_none, bitB_zero] at hz; cases hz)
      refine ⟨fun j hj => g1 j (hs1 j hj), g2, fun q hq hs => ?_⟩
      rcases List.mem_cons.1 hq with rfl | hq
      · exact g1 _ (by rw [bitB_or, bitB_pow]; simp)
      · exact g3 q hq hs
theorem mkP_all {zs : List Int} (h : VoP zs) {s : Int} (h0 : 0 ≤ s) (h1 : s < powI zs.length) : mkP s (pairsL zs) = belI zs s := by
  obtain ⟨g1, g2, g3⟩ := mkP_inv h (s := s) (pairsL zs) s (fun p hp => by
    obtain ⟨ha, _, hb⟩ := mem_pairsL.1 (show (p.1, p.2) ∈ pairsL zs from hp)
    exact ⟨ha, hb⟩) (fun _ e => e) (fun _ e => .inl e)
  refine bitB_ext (mkP_bd (n := zs.length) _ (fun p hp => (mem_pairsL.1 (show (p.1, p.2) ∈ pairsL zs from hp)).1) h0 h1).1 (belI_bd h.sets h0 h1).1 fun j => ?_
  rw [Bool.eq_iff_iff, belI_bit h.sets h1]
  constructor
  · exact g2 j
  · rintro (e | ⟨b, hs, hz⟩)
    · exact g1 j e
    · refine g3 (j, b) (mem_pairsL.2 ⟨?_, ?_, hz⟩) hs
      · rcases Nat.lt_or_ge j zs.length with h1 | h1
        · exact h1
        · rw [List.getElem?_eq_none (by omega), Option.getD_none, bitB_zero] at hz; cases hz
      · have := bitB_lt h1 hs; have := h.1; omega

/-! What the functions answer. -/
def isIdealR (zs : List Int) (s : Int) : Bool := (vo zs && inB s 0 (powI zs.length - 1)) && idB zs s
def belowR (zs : List Int) (s : Int) : Int := if vo zs && inB s 0 (powI zs.length - 1) then belI zs s else -1
def nextI (zs : List Int) (s : Int) : Int := belI zs (topsTo (du zs) (powI zs.length - 1 - s) zs.length)
def nextR (zs : List Int) (s : Int) : Int := if isIdealR zs s then nextI zs s else -1
/-- The sets less than k for which p holds, ascending. -/
def setsTo (p : Int → Bool) (k : Nat) : List Int := ((List.range k).filter fun j : Nat => p (j : Int)).map fun j : Nat => (j : Int)
theorem setsTo_yes {p : Int → Bool} {k : Nat} (h : p (k : Int) = true) : setsTo p (k + 1) = setsTo p k ++ [(k : Int)] := by
  simp [setsTo, List.range_succ, h]
theorem setsTo_no {p : Int → Bool} {k : Nat} (h : p (k : Int) = false) : setsTo p (k + 1) = setsTo p k := by
  simp [setsTo, List.range_succ, h]
theorem setsTo_len (p : Int → Bool) (k : Nat) : (setsTo p k).length ≤ k := by
  unfold setsTo
  rw [List.length_map]
  exact Nat.le_trans (List.length_filter_le _ _) (by simp)
def idealsR (zs : List Int) : List Int := if vo zs then setsTo (idB zs) (2 ^ zs.length) else []
def apartsR (zs : List Int) : List Int := if vo zs then setsTo (apB zs) (2 ^ zs.length) else []
end Go.Proofs.Ytghogabmkbadjab

/- Tops and ideals: tops stand for all below; what is below a set is an ideal; what an ideal leaves. No program. -/
namespace Go.Proofs.Ytghogabmkbadjab

theorem bit_none {zs : List Int} {a b : Nat} (h : bitB (zs[a]?.getD 0) b = true) : a < zs.length := by
  rcases Nat.lt_or_ge a zs.length with h1 | h1
  · exact h1
  · rw [List.getElem?_eq_none (by omega), Option.getD_none, bitB_zero] at h; cases h
theorem top_over {zs : List Int} (h : VoP zs) {s : Int} (h1 : s < powI zs.length) : ∀ (m a : Nat), zs.length - rank zs a ≤ m → bitB s a = true → ∃ t : Nat, bitB (topsTo zs s zs.length) t = true ∧ (a = t ∨ lt zs a t)
  | 0, a, hm, ha => by have := rank_bd h (bitB_lt h1 ha); omega
  | m + 1, a, hm, ha => by
    by_cases hz : andI (zs[a]?.getD 0) s = 0
    · exact ⟨a, (topsTo_bit a _).2 ⟨bitB_lt h1 ha, ha, hz⟩, .inl rfl⟩
    · have : ∃ b : Nat, bitB s b = true ∧ bitB (zs[a]?.getD 0) b = true := by
        refine Classical.byContradiction fun hn => hz (andI_zero.2 fun b hb => ?_)
        cases e : bitB (zs[a]?.getD 0) b
        · rfl
        · exact absurd ⟨b, hb, e⟩ hn
      obtain ⟨b, hb, hab⟩ := this
      have hl : lt zs a b := ⟨bit_none hab, hab⟩
      have hr := rank_lt h hl
      obtain ⟨t, ht, e⟩ := top_over h h1 m b (by omega) hb
      refine ⟨t, ht, .inr ?_⟩
      rcases e with rfl | e
      · exact hl
      · exact h.trans hl e
section
variable {zs : List Int} {s : Int}
theorem tops_in (zs : List Int) (s : Int) : lessI (topsTo zs s zs.length) s = 0 := lessI_none.2 fun _ hj => ((topsTo_bit _ _).1 hj).2.1
theorem tops_ap (h : VoP zs) : apB zs (topsTo zs s zs.length) = true := by
  have hb := topsTo_bd zs s zs.length
  have hp := powI_le6 (n := (zs.length : Int)) (by have := h.1; omega)
  refine (apB_iff (by omega)).2 fun a b ha hb => ?_
  exact andI_zero.1 ((topsTo_bit _ _).1 ha).2.2 b ((topsTo_bit _ _).1 hb).2.1
theorem tops_none (h : VoP zs) (h0 : 0 ≤ s) (h1 : s < powI zs.length) : (topsTo zs s zs.length == 0) = (s == 0) := by
  have hb := topsTo_bd zs s zs.length
  rw [Bool.eq_iff_iff, beq_iff_eq, beq_iff_eq]
  constructor
  · intro e
    refine bitB_ext h0 (Int.le_refl _) fun j => ?_
    rw [bitB_zero]
    cases hj : bitB s j
    · rfl
    · obtain ⟨t, ht, _⟩ := top_over h h1 _ j (Nat.le_refl _) hj
      rw [e, bitB_zero] at ht; cases ht
  · intro e
    refine bitB_ext hb.1 (Int.le_refl _) fun j => ?_
    rw [bitB_zero]
    cases hj : bitB (topsTo zs s zs.length) j
    · rfl
    · have := ((topsTo_bit _ _).1 hj).2.1
      rw [e, bitB_zero] at this; cases this
theorem in_bel (h : Sets zs) (h1 : s < powI zs.length) : lessI s (belI zs s) = 0 := lessI_none.2 fun j hj => (belI_bit h h1 j).2 (.inl hj)
theorem bel_ideal (h : VoP zs) (h0 : 0 ≤ s) (h1 : s < powI zs.length) : idB zs (belI zs s) = true := by
  have hb := belI_bd h.sets h0 h1
  refine (idB_iff h.sets hb.1 hb.2).2 fun a b hb hz => ?_
  rw [belI_bit h.sets h1] at hb ⊢
  rcases hb with hb | ⟨c, hc, hbc⟩
  · exact .inr ⟨b, hb, hz⟩
  · exact .inr ⟨c, hc, (h.trans (a := a) (b := b) (c := c) ⟨bit_none hz, hz⟩ ⟨bit_none hbc, hbc⟩).2⟩
theorem tops_bel (h : VoP zs) (_h0 : 0 ≤ s) (h1 : s < powI zs.length) : topsTo zs (belI zs s) zs.length = topsTo zs s zs.length := by
  refine bitB_ext (topsTo_bd _ _ _).1 (topsTo_bd _ _ _).1 fun j => ?_
  rw [Bool.eq_iff_iff, topsTo_bit, topsTo_bit]
  constructor
  · rintro ⟨hj, hb, hz⟩
    have hz' := andI_zero.1 hz
    refine ⟨hj, ?_, andI_zero.2 fun b hb => hz' b ((belI_bit h.sets h1 b).2 (.inl hb))⟩
    rcases (belI_bit h.sets h1 j).1 hb with e | ⟨c, hc, hjc⟩
    · exact e
    · rw [hz' c ((belI_bit h.sets h1 c).2 (.inl hc))] at hjc; cases hjc
  · rintro ⟨hj, hb, hz⟩
    have hz' := andI_zero.1 hz
    refine ⟨hj, (belI_bit h.sets h1 j).2 (.inl hb), andI_zero.2 fun b hb => ?_⟩
    rcases (belI_bit h.sets h1 b).1 hb with e | ⟨c, hc, hbc⟩
    · exact hz' b e
    · cases e : bitB (zs[j]?.getD 0) b
      · rfl
      · have := (h.trans (a := j) (b := b) (c := c) ⟨bit_none e, e⟩ ⟨bit_none hbc, hbc⟩).2
        rw [hz' c hc] at this; cases this
theorem bel_tops (h : VoP zs) (h0 : 0 ≤ s) (h1 : s < powI zs.length) : belI zs (topsTo zs s zs.length) = belI zs s := by
  have hb := topsTo_bd zs s zs.length
  refine bitB_ext (belI_bd h.sets hb.1 hb.2).1 (belI_bd h.sets h0 h1).1 fun j => ?_
  rw [Bool.eq_iff_iff, belI_bit h.sets hb.2, belI_bit h.sets h1]
  constructor
  · rintro (e | ⟨t, ht, hj⟩)
    · exact .inl ((topsTo_bit _ _).1 e).2.1
    · exact .inr ⟨t, ((topsTo_bit _ _).1 ht).2.1, hj⟩
  · rintro (e | ⟨b, hb, hj⟩)
    · obtain ⟨t, ht, e2⟩ := top_over h h1 _ j (Nat.le_refl _) e
      rcases e2 with rfl | e2
      · exact .inl ht
      · exact .inr ⟨t, ht, e2.2⟩
    · obtain ⟨t, ht, e2⟩ := top_over h h1 _ b (Nat.le_refl _) hb
      rcases e2 with rfl | e2
      · exact .inr ⟨b, ht, hj⟩
      · exact .inr ⟨t, ht, (h.trans (a := j) (b := b) (c := t) ⟨bit_none hj, hj⟩ e2).2⟩
theorem bel_self (h0 : idB zs s = true) : belI zs s = s := by simpa [idB] using h0
theorem all_bits' {n : Nat} : ∀ j : Nat, bitB (powI n - 1) j = decide (j < n) := fun j => by
  have e : (powI (n : Int) - 1).toNat = 2 ^ n - 1 := by
    have : powI (n : Int) = ((2 ^ n : Nat) : Int) := by simp [powI]
    omega
  simp [bitB, e, Nat.testBit_two_pow_sub_one]
theorem left_fin : ∀ n : Fin 7, ∀ k : Fin 64, (k.val : Int) < powI (n.val : Int) → lessI (powI (n.val : Int) - 1) (k.val : Int) = powI (n.val : Int) - 1 - (k.val : Int) := by decide +kernel
theorem left_is {n : Nat} {s : Int} (hn : n ≤ 6) (h0 : 0 ≤ s) (h1 : s < powI n) : lessI (powI n - 1) s = powI n - 1 - s := by
  have hpn := powI_le6 (n := (n : Int)) (by omega)
  obtain ⟨k, rfl⟩ := Int.eq_ofNat_of_zero_le h0
  exact left_fin ⟨n, by omega⟩ ⟨k, by omega⟩ h1
theorem left_ideal (h : VoP zs) (h0 : 0 ≤ s) (h1 : s < powI zs.length) (hi : idB zs s = true) : idB (du zs) (powI zs.length - 1 - s) = true := by
  have hp := powI_pos (zs.length : Int)
  refine (idB_iff (du_sets h.sets) (by omega) (by rw [du_len]; omega)).2 fun a b hb hz => ?_
  rw [← left_is h.1 h0 h1] at hb ⊢
  rw [bitB_less, all_bits', Bool.and_eq_true] at hb ⊢
  rw [du_bit h.sets] at hz
  have ha : a < zs.length := bitB_lt (h.sets.2 b (bit_none hz)).2 hz
  refine ⟨by simpa using ha, ?_⟩
  cases e : bitB s a
  · rfl
  · have := (idB_iff h.sets h0 h1).1 hi b a e hz
    rw [this] at hb; simp at hb
theorem tops_apart (h : VoP zs) (h0 : 0 ≤ s) (h1 : s < powI zs.length) (ha : apB zs s = true) : topsTo zs s zs.length = s := by
  have hp := powI_le6 (n := (zs.length : Int)) (by have := h.1; omega)
  refine bitB_ext (topsTo_bd zs s _).1 h0 fun j => ?_
  have key := topsTo_bit (zs := zs) (s := s) j zs.length
  cases e : bitB s j
  · cases e2 : bitB (topsTo zs s zs.length) j
    · rfl
    · have := (key.1 e2).2.1; rw [e] at this; cases this
  · exact key.2 ⟨bitB_lt h1 e, e, andI_zero.2 fun b hb => (apB_iff (by omega)).1 ha j b e hb⟩
/-- The tops of the next ideal are the lowest items that the one ahead lacks. -/
theorem next_tops (h : VoP zs) (_h0 : 0 ≤ s) (_h1 : s < powI zs.length) : topsTo zs (nextI zs s) zs.length = topsTo (du zs) (powI zs.length - 1 - s) zs.length := by
  have hp := powI_pos (zs.length : Int)
  have hp6 := powI_le6 (n := (zs.length : Int)) (by have := h.1; omega)
  have hb := topsTo_bd (du zs) (powI zs.length - 1 - s) zs.length
  have ha := tops_ap (s := powI zs.length - 1 - s) (du_vo h)
  rw [du_len, du_apB h.sets (by omega)] at ha
  unfold nextI
  rw [tops_bel h hb.1 hb.2, tops_apart h hb.1 hb.2 ha]
end
theorem in_set {zs : List Int} {s : Int} (_h : VoP zs) (h0 : 0 ≤ s) (h1 : s < powI zs.length) : inB s 0 (powI zs.length - 1) = true := by
  simp only [inB, decide_eq_true_eq]; omega
theorem set_parts {zs : List Int} {s : Int} (h : (vo zs && inB s 0 (powI zs.length - 1)) = true) : VoP zs ∧ 0 ≤ s ∧ s < powI zs.length := by
  rw [Bool.and_eq_true] at h
  refine ⟨by simpa [vo] using h.1, ?_⟩
  have := h.2
  simp only [inB, decide_eq_true_eq] at this
  omega
theorem topsR_in {zs : List Int} {s : Int} (h : VoP zs) (h0 : 0 ≤ s) (h1 : s < powI zs.length) : topsR zs s = topsTo zs s zs.length := by
  unfold topsR; rw [vo_true h, in_set h h0 h1]; rfl
theorem belowR_in {zs : List Int} {s : Int} (h : VoP zs) (h0 : 0 ≤ s) (h1 : s < powI zs.length) : belowR zs s = belI zs s := by
  unfold belowR; rw [vo_true h, in_set h h0 h1]; rfl
theorem isIdealR_in {zs : List Int} {s : Int} (h : VoP zs) (h0 : 0 ≤ s) (h1 : s < powI zs.length) : isIdealR zs s = idB zs s := by
  unfold isIdealR; rw [vo_true h, in_set h h0 h1]; rfl
end Go.Proofs.Ytghogabmkbadjab

/- Two pairs apart, three items and one apart, zigzags: as both sides tell them. No program. -/
namespace Go.Proofs.Ytghogabmkbadjab
open Go.RowKit

/-- Whether four items pass a test. -/
def any4 (n : Nat) (t : Nat → Nat → Nat → Nat → Bool) : Bool := (List.range n).any fun a => (List.range n).any fun b => (List.range n).any fun c => (List.range n).any fun d => t a b c d
theorem any4_iff {n : Nat} {t : Nat → Nat → Nat → Nat → Bool} : any4 n t = true ↔ ∃ a b c d, a < n ∧ b < n ∧ c < n ∧ d < n ∧ t a b c d = true := by
  simp only [any4, List.any_eq_true, List.mem_range]
  constructor
  · rintro ⟨a, ha, b, hb, c, hc, d, hd, h⟩; exact ⟨a, b, c, d, ha, hb, hc, hd, h⟩
  · rintro ⟨a, b, c, d, ha, hb, hc, hd, h⟩; exact ⟨a, ha, b, hb, c, hc, d, hd, h⟩
theorem any4_none {n : Nat} {t : Nat → Nat → Nat → Nat → Bool} (h : ∀ a, a < n → ∀ b, b < n → ∀ c, c < n → ∀ d, d < n → t a b c d = false) : any4 n t = false := by
  cases e : any4 n t with
  | false => rfl
  | true =>
    obtain ⟨a, b, c, d, ha, hb, hc, hd, ht⟩ := any4_iff.1 e
    rw [h a ha b hb c hc d hd] at ht; cases ht
theorem any4_some {n a b c d : Nat} {t : Nat → Nat → Nat → Nat → Bool} (ha : a < n) (hb : b < n) (hc : c < n) (hd : d < n) (h : t a b c d = true) : any4 n t = true := any4_iff.2 ⟨a, b, c, d, ha, hb, hc, hd, h⟩

def tstTwo (zs : List Int) (a b c d : Nat) : Bool := bitB (zs[a]?.getD 0) b && (bitB (zs[c]?.getD 0) d && (!(a == c) && (!(a == d) && (!(b == c) && (!(b == d) && (!relB zs a c && (!relB zs a d && (!relB zs b c && !relB zs b d))))))))
def tstThr (zs : List Int) (a b c d : Nat) : Bool := bitB (zs[a]?.getD 0) b && (bitB (zs[b]?.getD 0) c && (!(d == a) && (!(d == b) && (!(d == c) && (!relB zs a d && (!relB zs b d && !relB zs c d))))))
def tstZig (zs : List Int) (a b c d : Nat) : Bool := bitB (zs[a]?.getD 0) b && (bitB (zs[c]?.getD 0) b && (bitB (zs[c]?.getD 0) d && (!(a == c) && (!(b == d) && (!relB zs a c && (!relB zs b d && !relB zs a d))))))
def twoB (zs : List Int) : Bool := any4 zs.length (tstTwo zs)
def thrB (zs : List Int) : Bool := any4 zs.length (tstThr zs)
def zigB (zs : List Int) : Bool := any4 zs.length (tstZig zs)
def twoR (zs : List Int) : Bool := vo zs && twoB zs
def thrR (zs : List Int) : Bool := vo zs && thrB zs
def zigR (zs : List Int) : Bool := vo zs && zigB zs

/-! What has no relation with an item, and with all of a set. -/
def relI (zs : List Int) (x : Nat) : Int := orI (zs[x]?.getD 0) (belI zs (powI x))
def unrI (zs : List Int) (x : Nat) : Int := lessI (powI zs.length - 1) (relI zs x)
def unrL (zs : List Int) (l : List Nat) : Int := l.foldl (fun t x => andI t (unrI zs x)) (powI zs.length - 1)
theorem unrL_snoc (zs : List Int) (l : List Nat) (x : Nat) : unrL zs (l ++ [x]) = andI (unrL zs l) (unrI zs x) := by simp [unrL]
theorem relI_bd {zs : List Int} (h : VoP zs) {x : Nat} (hx : x < zs.length) : 0 ≤ relI zs x ∧ relI zs x < powI zs.length := by
  have h1 := h.sets.2 x hx
  have h2 := powI_pos (x : Int)
  have h3 := belI_bd h.sets (s := powI x) (by omega) (powI_lt hx)
  exact orI_bd h1.1 h1.2 h3.1 h3.2
theorem unrI_bd (zs : List Int) (x : Nat) : 0 ≤ unrI zs x ∧ unrI zs x < powI zs.length := by
  have h1 := lessI_bd (powI zs.length - 1) (relI zs x)
  have h2 := powI_pos (zs.length : Int)
  unfold unrI; omega
theorem unrL_bd {zs : List Int} : ∀ l : List Nat, 0 ≤ unrL zs l ∧ unrL zs l < powI zs.length := fun l => by
  have key : ∀ (l : List Nat) (t : Int), 0 ≤ t → t < powI zs.length → 0 ≤ l.foldl (fun t x => andI t (unrI zs x)) t ∧ l.foldl (fun t x => andI t (unrI zs x)) t < powI zs.length := fun l => by
    induction l with
    | nil => intro t h0 h1; exact ⟨h0, h1⟩
    | cons a l ih =>
      intro t h0 h1
      have h3 := andI_bd t (unrI zs a)
      have h4 : andI t (unrI zs a) < powI zs.length := by omega
      exact ih _ h3.1 h4
  have h2 := powI_pos (zs.length : Int)
  exact key l _ (by omega) (by omega)
theorem unrI_bit {zs : List Int} (h : VoP zs) {x : Nat} (hx : x < zs.length) (j : Nat) : bitB (unrI zs x) j = true ↔ j < zs.length ∧ j ≠ x ∧ relB zs x j = false := by
  unfold unrI relI
  rw [bitB_less, Bool.and_eq_true, all_bits', decide_eq_true_eq, Bool.not_eq_true', bitB_or, Bool.or_eq_false_iff, ← Bool.not_eq_true (bitB (belI zs (powI x)) j), belI_bit h.sets (powI_lt hx)]
  unfold relB
  rw [Bool.or_eq_false_iff]
  constructor
  · rintro ⟨h1, h2, h3⟩
    refine ⟨h1, fun e => h3 (.inl (by rw [e, bitB_pow]; simp)), h2, ?_⟩
    cases hb : bitB (zs[j]?.getD 0) x with
    | false => rfl
    | true => exact absurd (.inr ⟨x, by rw [bitB_pow]; simp, hb⟩) h3
  · rintro ⟨h1, h2, h3, h4⟩
    refine ⟨h1, h3, ?_⟩
    rintro (e | ⟨b, e1, e2⟩)
    · rw [bitB_pow, decide_eq_true_eq] at e; exact h2 e.symm
    · rw [bitB_pow, decide_eq_true_eq] at e1
      rw [← e1, h4] at e2; cases e2
theorem unrL_bit {zs : List Int} (h : VoP zs) (j : Nat) : ∀ l : List Nat, (∀ x ∈ l, x < zs.length) → (bitB (unrL zs l) j = true ↔ j < zs.length ∧ ∀ x ∈ l, j ≠ x ∧ relB zs x j = false) := fun l => by
  have key : ∀ (l : List Nat) (t : Int), (∀ x ∈ l, x < zs.length) → (bitB (l.foldl (fun t x => andI t (unrI zs x)) t) j = true ↔ bitB t j = true ∧ ∀ x ∈ l, j < zs.length ∧ j ≠ x ∧ relB zs x j = false) := fun l => by
    induction l with
    | nil => intro t _; simp
    | cons a l ih =>
      intro t hl
      rw [List.foldl_cons, ih _ (fun x hx => hl x (by simp [hx])), bitB_and, Bool.and_eq_true, unrI_bit h (hl a (by simp))]
      constructor
      · rintro ⟨⟨h1, h2⟩, h3⟩
        refine ⟨h1, fun x hx => ?_⟩
        rcases List.mem_cons.1 hx with rfl | hx
        · exact h2
        · exact h3 x hx
      · rintro ⟨h1, h2⟩
        exact ⟨⟨h1, h2 a (by simp)⟩, fun x hx => h2 x (by simp [hx])⟩
  intro hl
  have := key l (powI zs.length - 1) hl
  rw [all_bits', decide_eq_true_eq] at this
  unfold unrL
  rw [this]
  constructor
  · rintro ⟨h1, h2⟩; exact ⟨h1, fun x hx => (h2 x hx).2⟩
  · rintro ⟨h1, h2⟩; exact ⟨h1, fun x hx => ⟨h1, h2 x hx⟩⟩

/-- The set of two items. -/
def prI (a b : Nat) : Int := orI (orI 0 (powI a)) (powI b)
theorem prI_bit (a b j : Nat) : bitB (prI a b) j = true ↔ j = a ∨ j = b := by
  unfold prI
  rw [bitB_or, bitB_or, bitB_zero, bitB_pow, bitB_pow]
  simp only [Bool.false_or, Bool.or_eq_true, decide_eq_true_eq]
  constructor
  · rintro (h | h) <;> simp [h]
  · rintro (h | h) <;> simp [h]
theorem prI_bd {n a b : Nat} (ha : a < n) (hb : b < n) : 0 ≤ prI a b ∧ prI a b < powI n := by
  have h1 := powI_pos (a : Int)
  have h2 := powI_pos (b : Int)
  have h3 := powI_pos (n : Int)
  have h4 := orI_bd (n := n) (a := 0) (b := powI a) (by omega) h3 (by omega) (powI_lt ha)
  exact orI_bd h4.1 h4.2 (by omega) (powI_lt hb)
theorem apB_false {zs : List Int} {s : Int} (h1 : s < 64) (h : apB zs s = false) : ∃ a b : Nat, bitB s a = true ∧ bitB s b = true ∧ bitB (zs[a]?.getD 0) b = true := by
  unfold apB at h
  rw [List.all_eq_false] at h
  obtain ⟨a, ha, hb⟩ := h
  have hne : andI (zs[a]?.getD 0) s ≠ 0 := by simpa using hb
  have h0 := andI_bd (zs[a]?.getD 0) s
  have : ∃ j : Nat, bitB (andI (zs[a]?.getD 0) s) j = true := by
    refine Classical.byContradiction fun hc => hne ?_
    refine bitB_ext h0.1 (by omega) fun j => ?_
    rw [bitB_zero]
    cases e : bitB (andI (zs[a]?.getD 0) s) j with
    | false => rfl
    | true => exact absurd ⟨j, e⟩ hc
  obtain ⟨j, hj⟩ := this
  rw [bitB_and, Bool.and_eq_true] at hj
  exact ⟨a, j, (mem_itemsL h1).1 ha, hj.2, hj.1⟩
theorem apB_some {zs : List Int} {s : Int} (h1 : s < 64) {a b : Nat} (ha : bitB s a = true) (hb : bitB s b = true) (h : bitB (zs[a]?.getD 0) b = true) : apB zs s = false := by
  unfold apB
  rw [List.all_eq_false]
  refine ⟨a, (mem_itemsL h1).2 ha, ?_⟩
  intro e
  have e : andI (zs[a]?.getD 0) s = 0 := by simpa using e
  have := bitB_and (zs[a]?.getD 0) s b
  rw [e, bitB_zero, h, hb] at this
  cases this

/-- What the program asks: two of what has no relation with a pair are a pair. -/
def tstPr (zs : List Int) (p : Nat × Nat) : Bool := !apB zs (unrL zs (itemsL (prI p.1 p.2)))
theorem two_pairs {zs : List Int} (h : VoP zs) : (pairsL zs).any (tstPr zs) = twoB zs := by
  have h6 := h.1
  have hp6 := powI_le6 (n := (zs.length : Int)) (by omega)
  have hmem : ∀ a b, a < zs.length → b < zs.length → ∀ x, x ∈ itemsL (prI a b) ↔ x = a ∨ x = b := fun a b ha hb x => by
    have := prI_bd ha hb
    rw [mem_itemsL (by omega), prI_bit]
  have hbit : ∀ a b, a < zs.length → b < zs.length → ∀ j : Nat, bitB (unrL zs (itemsL (prI a b))) j = true ↔ j < zs.length ∧ (j ≠ a ∧ relB zs a j = false) ∧ (j ≠ b ∧ relB zs b j = false) := fun a b ha hb j => by
    rw [unrL_bit h j _ (fun x hx => by rcases (hmem a b ha hb x).1 hx with rfl | rfl <;> assumption)]
    constructor
    · rintro ⟨h1, h2⟩
      exact ⟨h1, h2 a ((hmem a b ha hb a).2 (.inl rfl)), h2 b ((hmem a b ha hb b).2 (.inr rfl))⟩
    · rintro ⟨h1, h2, h3⟩
      refine ⟨h1, fun x hx => ?_⟩
      rcases (hmem a b ha hb x).1 hx with rfl | rfl
      · exact h2
      · exact h3
  have hlt : ∀ a b, unrL zs (itemsL (prI a b)) < 64 := fun a b => by have := unrL_bd (zs := zs) (itemsL (prI a b)); omega
  rw [Bool.eq_iff_iff]
  unfold twoB
  rw [any4_iff, List.any_eq_true]
  constructor
  · rintro ⟨⟨a, b⟩, hp, ht⟩
    obtain ⟨ha, hb, hab⟩ := h.sets.pair hp
    have ht : apB zs (unrL zs (itemsL (prI a b))) = false := by simpa [tstPr] using ht
    obtain ⟨c, d, hc, hd, hcd⟩ := apB_false (hlt a b) ht
    obtain ⟨hc1, ⟨hc2, hc3⟩, hc4, hc5⟩ := (hbit a b ha hb c).1 hc
    obtain ⟨hd1, ⟨hd2, hd3⟩, hd4, hd5⟩ := (hbit a b ha hb d).1 hd
    refine ⟨a, b, c, d, ha, hb, hc1, hd1, ?_⟩
    simp [tstTwo, hab, hcd, hc3, hc5, hd3, hd5, Ne.symm hc2, Ne.symm hc4, Ne.symm hd2, Ne.symm hd4]
  · rintro ⟨a, b, c, d, ha, hb, hc, hd, ht⟩
    simp only [tstTwo, Bool.and_eq_true, Bool.not_eq_true', beq_eq_false_iff_ne] at ht
    obtain ⟨hab, hcd, h1, h2, h3, h4, h5, h6', h7, h8⟩ := ht
    refine ⟨(a, b), mem_pairsL.2 ⟨ha, by omega, hab⟩, ?_⟩
    have : apB zs (unrL zs (itemsL (prI a b))) = false := apB_some (hlt a b) ((hbit a b ha hb c).2 ⟨hc, ⟨Ne.symm h1, h5⟩, Ne.symm h3, h7⟩) ((hbit a b ha hb d).2 ⟨hd, ⟨Ne.symm h2, h6'⟩, Ne.symm h4, h8⟩) hcd
    simp [tstPr, this]

/-- What the program asks: a chain of three and an item that has no relation with any of them. -/
def tstSet (zs : List Int) (s : Nat) : Bool := popI s == 3 && (chB zs s && !(unrL zs (itemsL s) == 0))
theorem three_sorted {zs : List Int} (h : VoP zs) {x y z : Nat} (hx : x < zs.length) (hy : y < zs.length) (hz : z < zs.length) (h1 : relB zs x y = true) (h2 : relB zs x z = true) (h3 : relB zs y z = true) :
    ∃ a b c : Nat, bitB (zs[a]?.getD 0) b = true ∧ bitB (zs[b]?.getD 0) c = true ∧ (∀ i, i = a ∨ i = b ∨ i = c ↔ i = x ∨ i = y ∨ i = z) := by
  unfold relB at h1 h2 h3
  rw [Bool.or_eq_true] at h1 h2 h3
  have tr : ∀ {a b c : Nat}, a < zs.length → bitB (zs[a]?.getD 0) b = true → bitB (zs[b]?.getD 0) c = true → bitB (zs[a]?.getD 0) c = true := fun ha h4 h5 =>
    (h.trans ⟨ha, h4⟩ ⟨h.lt_n ⟨ha, h4⟩, h5⟩).2
  rcases h1 with h1 | h1 <;> rcases h2 with h2 | h2 <;> rcases h3 with h3 | h3
  · exact ⟨x, y, z, h1, h3, fun i => Iff.rfl⟩
  · exact ⟨x, z, y, h2, h3, fun i => by omega⟩
  · exact absurd (tr hx h1 h3) (by rw [h.asym hz h2]; decide)
  · exact ⟨z, x, y, h2, h1, fun i => by omega⟩
  · exact ⟨y, x, z, h1, h2, fun i => by omega⟩
  · exact absurd (tr hx h2 h3) (by rw [h.asym hy h1]; decide)
  · exact ⟨y, z, x, h3, h2, fun i => by omega⟩
  · exact ⟨z, y, x, h3, h1, fun i => by omega⟩
/-- The set of three items. -/
def thI (a b c : Nat) : Int := orI (prI a b) (powI c)
theorem pop_three : ∀ a b c : Fin 6, a ≠ b → a ≠ c → b ≠ c → popI (thI a.val b.val c.val) = 3 := by decide +kernel
theorem len3 {l : List Nat} (h : l.length = 3) : ∃ x y z, l = [x, y, z] := by
  match l, h with
  | [x, y, z], _ => exact ⟨x, y, z, rfl⟩
theorem three_sets {zs : List Int} (h : VoP zs) : (List.range (2 ^ zs.length)).any (tstSet zs) = thrB zs := by
  have h6 := h.1
  have hp6 := powI_le6 (n := (zs.length : Int)) (by omega)
  have hpe : powI (zs.length : Int) = ((2 ^ zs.length : Nat) : Int) := by simp [powI]
  have tr : ∀ {a b c : Nat}, a < zs.length → bitB (zs[a]?.getD 0) b = true → bitB (zs[b]?.getD 0) c = true → bitB (zs[a]?.getD 0) c = true := fun ha h4 h5 =>
    (h.trans ⟨ha, h4⟩ ⟨h.lt_n ⟨ha, h4⟩, h5⟩).2
  rw [Bool.eq_iff_iff]
  unfold thrB
  rw [any4_iff, List.any_eq_true]
  constructor
  · rintro ⟨s, hs, ht⟩
    rw [List.mem_range] at hs
    simp only [tstSet, Bool.and_eq_true, beq_iff_eq, Bool.not_eq_true', beq_eq_false_iff_ne] at ht
    obtain ⟨ht1, ht2, ht3⟩ := ht
    have hs1 : (s : Int) < powI zs.length := by rw [hpe]; exact_mod_cast hs
    have hlen := popI_items (s := (s : Int)) (by omega) (by omega)
    obtain ⟨x, y, z, hl⟩ := len3 (l := itemsL (s : Int)) (by omega)
    have hm : ∀ i ∈ itemsL (s : Int), i < zs.length := fun i hi => bitB_lt hs1 ((mem_itemsL (by omega)).1 hi)
    have hc : ChP zs s := by simpa [chB] using ht2
    unfold ChP at hc
    rw [hl] at hm hc
    simp only [List.pairwise_cons, List.mem_cons, List.not_mem_nil, or_false, forall_eq_or_imp, forall_eq] at hc
    obtain ⟨a, b, c, hab, hbc, hi⟩ := three_sorted h (hm x (by simp)) (hm y (by simp)) (hm z (by simp)) hc.1.1 hc.1.2 hc.2.1
    have hma : ∀ i, i = a ∨ i = b ∨ i = c → i < zs.length := fun i e => hm i (by have := (hi i).1 e; simpa using this)
    have hne := unrL_bd (zs := zs) (itemsL (s : Int))
    have : ∃ d : Nat, bitB (unrL zs (itemsL (s : Int))) d = true := by
      refine Classical.byContradiction fun hc => ht3 ?_
      refine bitB_ext hne.1 (by omega) fun j => ?_
      rw [bitB_zero]
      cases e : bitB (unrL zs (itemsL (s : Int))) j with
      | false => rfl
      | true => exact absurd ⟨j, e⟩ hc
    obtain ⟨d, hd⟩ := this
    rw [unrL_bit h d _ (by rw [hl]; exact hm), hl] at hd
    obtain ⟨hd1, hd2⟩ := hd
    have hd3 : ∀ i, i = a ∨ i = b ∨ i = c → d ≠ i ∧ relB zs i d = false := fun i e => hd2 i (by have := (hi i).1 e; simpa using this)
    have da := hd3 a (.inl rfl)
    have db := hd3 b (.inr (.inl rfl))
    have dc := hd3 c (.inr (.inr rfl))
    exact ⟨a, b, c, d, hma a (.inl rfl), hma b (.inr (.inl rfl)), hma c (.inr (.inr rfl)), hd1, by simp [tstThr, hab, hbc, da.1, da.2, db.1, db.2, dc.1, dc.2]⟩
  · rintro ⟨a, b, c, d, ha, hb, hc, hd, ht⟩
    simp only [tstThr, Bool.and_eq_true, Bool.not_eq_true', beq_eq_false_iff_ne] at ht
    obtain ⟨hab, hbc, h1, h2, h3, h4, h5, h7⟩ := ht
    have hac := tr ha hab hbc
    have n1 : a ≠ b := fun e => by rw [← e, h.irrB ha] at hab; cases hab
    have n2 : a ≠ c := fun e => by rw [← e, h.irrB ha] at hac; cases hac
    have n3 : b ≠ c := fun e => by rw [← e, h.irrB hb] at hbc; cases hbc
    have hq := prI_bd ha hb
    have hpc := powI_pos (c : Int)
    have hth : 0 ≤ thI a b c ∧ thI a b c < powI zs.length := orI_bd hq.1 hq.2 (by omega) (powI_lt hc)
    have hbit : ∀ j : Nat, bitB (thI a b c) j = true ↔ j = a ∨ j = b ∨ j = c := fun j => by
      unfold thI
      rw [bitB_or, Bool.or_eq_true, prI_bit, bitB_pow, decide_eq_true_eq, or_assoc]
      constructor
      · rintro (e | e | e) <;> simp [e]
      · rintro (e | e | e) <;> simp [e]
    obtain ⟨s, hs⟩ := Int.eq_ofNat_of_zero_le hth.1
    have hmem : ∀ i, i ∈ itemsL (thI a b c) ↔ i = a ∨ i = b ∨ i = c := fun i => by rw [mem_itemsL (by omega), hbit]
    refine ⟨s, List.mem_range.2 (by have := hth.2; rw [hs, hpe] at this; exact_mod_cast this), ?_⟩
    unfold tstSet
    rw [show ((s : Nat) : Int) = thI a b c from hs.symm]
    have e1 : popI (thI a b c) = 3 := pop_three ⟨a, by omega⟩ ⟨b, by omega⟩ ⟨c, by omega⟩ (by simpa using n1) (by simpa using n2) (by simpa using n3)
    have r1 : relB zs a b = true := by simp [relB, hab]
    have r2 : relB zs a c = true := by simp [relB, hac]
    have r3 : relB zs b c = true := by simp [relB, hbc]
    have e2 : chB zs (thI a b c) = true := by
      unfold chB
      refine decide_eq_true (show ChP zs (thI a b c) from ?_)
      unfold ChP
      have hnd : (itemsL (thI a b c)).Pairwise (· < ·) := itemsL_sorted _
      refine hnd.imp_of_mem ?_
      intro x y hx hy hxy
      have hcm : ∀ u v, relB zs u v = relB zs v u := fun u v => by unfold relB; rw [Bool.or_comm]
      rcases (hmem x).1 hx with rfl | rfl | rfl <;> rcases (hmem y).1 hy with rfl | rfl | rfl <;> first | (exfalso; omega) | assumption | (rw [hcm]; assumption)
    have e3 : (unrL zs (itemsL (thI a b c)) == 0) = false := by
      rw [beq_eq_false_iff_ne]
      intro e
      have := (unrL_bit h d (itemsL (thI a b c)) (fun x hx => by rcases (hmem x).1 hx with rfl | rfl | rfl <;> assumption)).2 ⟨hd, fun x hx => by
        rcases (hmem x).1 hx with rfl | rfl | rfl
        · exact ⟨h1, h4⟩
        · exact ⟨h2, h5⟩
        · exact ⟨h3, h7⟩⟩
      rw [e, bitB_zero] at this; cases this
    rw [e1, e2, e3]; rfl
end Go.Proofs.Ytghogabmkbadjab

/- Sides, as plain mathematics: the steps by which one is made, and that the first choice that comes through is the least one. No program. -/
namespace Go.Proofs.Ytghogabmkbadjab

theorem q_lt2 {zs : List Int} (h : VoP zs) {x y : Nat} (hq : qB zs x y) : x < zs.length ∧ y < zs.length := by
  have hx := qB_lt rfl hq
  exact ⟨hx, bitB_lt (h.sets.2 x hx).2 hq⟩
/-- Two items of which none is above the other one. -/
def un (zs : List Int) (x y : Nat) : Prop := x ≠ y ∧ ¬ qB zs x y ∧ ¬ qB zs y x
theorem un_symm {zs : List Int} {x y : Nat} (h : un zs x y) : un zs y x := ⟨h.1.symm, h.2.2, h.2.1⟩
structure SideOf (zs T : List Int) : Prop where
  vo : VoP T
  len : T.length = zs.length
  iff : ∀ x y, x < zs.length → y < zs.length → (qB T x y ∨ qB T y x ↔ un zs x y)

theorem relI_q {zs : List Int} (h : VoP zs) {x : Nat} (hx : x < zs.length) (y : Nat) : bitB (relI zs x) y = true ↔ y = x ∨ qB zs x y ∨ qB zs y x := by
  unfold relI
  rw [bitB_or, Bool.or_eq_true, belI_bit h.sets (powI_lt hx)]
  constructor
  · rintro (e | e | ⟨b, e1, e2⟩)
    · exact .inr (.inl e)
    · rw [bitB_pow, decide_eq_true_eq] at e; exact .inl e.symm
    · rw [bitB_pow, decide_eq_true_eq] at e1; rw [← e1] at e2; exact .inr (.inr e2)
  · rintro (e | e | e)
    · exact .inr (.inl (by rw [bitB_pow, e]; simp))
    · exact .inl e
    · exact .inr (.inr ⟨x, by rw [bitB_pow]; simp, e⟩)

/-! One step: what is at or above hi is put above what is at or below lo. -/
def folS (S : List Int) (hi : Nat) : Int := orI (S[hi]?.getD 0) (powI (hi : Int))
def belS (S : List Int) (lo : Nat) : Int := belI S (powI (lo : Int))
def stepS (S : List Int) (lo hi : Nat) : List Int := (List.range S.length).map fun x : Nat => if bitB (belS S lo) (x : Int) then orI (S[x]?.getD 0) (folS S hi) else S[x]?.getD 0
def badS (zs S : List Int) (lo hi : Nat) : Bool := (itemsL (belS S lo)).any fun x => !(andI (relI zs x) (folS S hi) == 0)
section
variable {zs S : List Int} {lo hi : Nat}
theorem stepS_len : (stepS S lo hi).length = S.length := by simp [stepS]
theorem stepS_get {x : Nat} (hx : x < S.length) : (stepS S lo hi)[x]?.getD 0 = if bitB (belS S lo) (x : Int) then orI (S[x]?.getD 0) (folS S hi) else S[x]?.getD 0 := by
  simp [stepS, List.getElem?_range, hx]
theorem belS_q (h : VoP S) (hl : lo < S.length) (x : Nat) : bitB (belS S lo) (x : Int) = true ↔ x = lo ∨ qB S x lo := by
  unfold belS
  rw [belI_bit h.sets (powI_lt hl)]
  constructor
  · rintro (e | ⟨b, e1, e2⟩)
    · rw [bitB_pow, decide_eq_true_eq] at e; exact .inl e.symm
    · rw [bitB_pow, decide_eq_true_eq] at e1; rw [← e1] at e2; exact .inr e2
  · rintro (e | e)
    · exact .inl (by rw [bitB_pow, e]; simp)
    · exact .inr ⟨lo, by rw [bitB_pow]; simp, e⟩
theorem belS_bd (h : VoP S) (hl : lo < S.length) : 0 ≤ belS S lo ∧ belS S lo < powI S.length := belI_bd h.sets (Int.le_of_lt (powI_pos _)) (powI_lt hl)
theorem folS_q (y : Nat) : bitB (folS S hi) (y : Int) = true ↔ y = hi ∨ qB S hi y := by
  unfold folS
  rw [bitB_or, Bool.or_eq_true, bitB_pow, decide_eq_true_eq]
  constructor
  · rintro (e | e)
    · exact .inr e
    · exact .inl e.symm
  · rintro (e | e)
    · exact .inr e.symm
    · exact .inl e
theorem folS_bd (h : VoP S) (hh : hi < S.length) : 0 ≤ folS S hi ∧ folS S hi < powI S.length :=
  orI_bd (h.sets.2 hi hh).1 (h.sets.2 hi hh).2 (Int.le_of_lt (powI_pos _)) (powI_lt hh)
theorem stepS_q (h : VoP S) (hl : lo < S.length) (x y : Nat) : qB (stepS S lo hi) x y ↔ PA S lo hi x y := by
  rcases Nat.lt_or_ge x S.length with hx | hx
  · unfold qB PA
    rw [stepS_get hx]
    cases hb : bitB (belS S lo) (x : Int)
    · have hn : ¬ (x = lo ∨ qB S x lo) := fun e => by rw [(belS_q h hl x).2 e] at hb; cases hb
      constructor
      · exact fun e => .inl e
      · rintro (e | ⟨e, _⟩)
        · exact e
        · exact absurd e hn
    · have hy := (belS_q h hl x).1 hb
      rw [if_pos rfl, bitB_or, Bool.or_eq_true, folS_q]
      constructor
      · rintro (e | e)
        · exact .inl e
        · exact .inr ⟨hy, e⟩
      · rintro (e | ⟨_, e⟩)
        · exact .inl e
        · exact .inr e
  · constructor
    · intro e
      have := qB_lt stepS_len e
      omega
    · rintro (e | ⟨e, _⟩)
      · have := qB_lt rfl e; omega
      · rcases e with e | e
        · omega
        · have := qB_lt rfl e; omega
theorem badS_no (hz : VoP zs) (h : VoP S) (hlen : S.length = zs.length) (hl : lo < S.length) (hb : badS zs S lo hi = false) : ∀ x y, (x = lo ∨ qB S x lo) → (y = hi ∨ qB S hi y) → un zs x y := by
  intro x y hx hy
  have hxl : x < zs.length := by
    rcases hx with e | e
    · omega
    · have := qB_lt rfl e; omega
  have hn6 := h.1
  have hp64 := powI_le6 (n := (S.length : Int)) (by omega)
  have hbd := belS_bd h hl
  have hm : x ∈ itemsL (belS S lo) := (mem_itemsL (by omega)).2 ((belS_q h hl x).2 hx)
  have hz0 : andI (relI zs x) (folS S hi) = 0 := by
    cases e : andI (relI zs x) (folS S hi) == 0
    · have : badS zs S lo hi = true := List.any_eq_true.2 ⟨x, hm, by rw [e]; rfl⟩
      rw [hb] at this; cases this
    · exact beq_iff_eq.1 e
  have := andI_zero.1 hz0 y ((folS_q y).2 hy)
  have hr : ¬ (y = x ∨ qB zs x y ∨ qB zs y x) := fun e => by rw [(relI_q hz hxl y).2 e] at this; cases this
  exact ⟨fun e => hr (.inl e.symm), fun e => hr (.inr (.inl e)), fun e => hr (.inr (.inr e))⟩
theorem badS_yes (hz : VoP zs) (h : VoP S) (hlen : S.length = zs.length) (hl : lo < S.length) (hb : badS zs S lo hi = true) : ∃ x y, (x = lo ∨ qB S x lo) ∧ (y = hi ∨ qB S hi y) ∧ ¬ un zs x y := by
  obtain ⟨x, hm, hx⟩ := List.any_eq_true.1 hb
  have hn6 := h.1
  have hp64 := powI_le6 (n := (S.length : Int)) (by omega)
  have hbd := belS_bd h hl
  have hxb := (belS_q h hl x).1 ((mem_itemsL (by omega)).1 hm)
  have hxl : x < zs.length := by
    rcases hxb with e | e
    · omega
    · have := qB_lt rfl e; omega
  have hne : andI (relI zs x) (folS S hi) ≠ 0 := by simpa using hx
  have : ∃ y : Nat, bitB (folS S hi) (y : Int) = true ∧ bitB (relI zs x) (y : Int) = true := by
    refine Classical.byContradiction fun hno => hne (andI_zero.2 fun y hy => ?_)
    cases e : bitB (relI zs x) (y : Int)
    · rfl
    · exact absurd ⟨y, hy, e⟩ hno
  obtain ⟨y, hy, hr⟩ := this
  refine ⟨x, y, hxb, (folS_q y).1 hy, fun hu => ?_⟩
  rcases (relI_q hz hxl y).1 hr with e | e | e
  · exact hu.1 e.symm
  · exact hu.2.1 e
  · exact hu.2.2 e

/-- A side under way. -/
structure SInv (zs S : List Int) : Prop where
  vo : VoP S
  len : S.length = zs.length
  sub : ∀ x y, qB S x y → un zs x y
theorem PA_trans (h : VoP S) {x y z : Nat} : PA S lo hi x y → PA S lo hi y z → PA S lo hi x z := by
  rintro (h1 | ⟨h1, h1'⟩) (h2 | ⟨h2, h2'⟩)
  · exact .inl (q_trans h h1 h2)
  · refine .inr ⟨.inr ?_, h2'⟩
    rcases h2 with e | e
    · subst e; exact h1
    · exact q_trans h h1 e
  · refine .inr ⟨h1, .inr ?_⟩
    rcases h1' with e | e
    · subst e; exact h2
    · exact q_trans h e h2
  · exact .inr ⟨h1, h2'⟩
theorem step_inv (hz : VoP zs) (h : SInv zs S) (hl : lo < zs.length) (hh : hi < zs.length) (hb : badS zs S lo hi = false) : SInv zs (stepS S lo hi) := by
  have hn6 := h.vo.1
  have hlS : lo < S.length := by rw [h.len]; exact hl
  have hhS : hi < S.length := by rw [h.len]; exact hh
  have hu := badS_no hz h.vo h.len hlS hb
  have hsub : ∀ x y, qB (stepS S lo hi) x y → un zs x y := fun x y e => by
    rcases (stepS_q h.vo hlS x y).1 e with e | ⟨e1, e2⟩
    · exact h.sub x y e
    · exact hu x y e1 e2
  refine ⟨vo_mk (by rw [stepS_len]; exact hn6) (fun a ha => ?_) (fun a e => (hsub a a e).1 rfl) (fun a b c h1 h2 => ?_), by rw [stepS_len]; exact h.len, hsub⟩
  · rw [stepS_len] at ha ⊢
    rw [stepS_get ha]
    have h1 := h.vo.sets.2 a ha
    split
    · exact orI_bd h1.1 h1.2 (folS_bd h.vo hhS).1 (folS_bd h.vo hhS).2
    · exact h1
  · exact (stepS_q h.vo hlS a c).2 (PA_trans h.vo ((stepS_q h.vo hlS a b).1 h1) ((stepS_q h.vo hlS b c).1 h2))
end

/-! The pairs, as the program has them, and what a choice makes of them. -/
def prA (zs : List Int) : List (Nat × Nat) := (List.range zs.length).reverse.flatMap fun a => ((itemsL (unrI zs a)).filter fun b => decide (a < b)).map fun b => (a, b)
def arcC (c i : Nat) (p : Nat × Nat) : Nat × Nat := if c.testBit i then p else (p.2, p.1)
def arcA (zs : List Int) (c i : Nat) : Nat × Nat := arcC c i ((prA zs)[i]?.getD (0, 0))
def sdTo (zs : List Int) (c : Nat) : Nat → Option (List Int)
  | 0 => some (zr zs.length)
  | i + 1 => (sdTo zs c i).bind fun S => if badS zs S (arcA zs c i).1 (arcA zs c i).2 then none else some (stepS S (arcA zs c i).1 (arcA zs c i).2)
def sdC (zs : List Int) (c : Nat) : Option (List Int) := sdTo zs c (prA zs).length
def sdF (zs : List Int) : Option (List Int) := (List.range (2 ^ (prA zs).length)).findSome? (sdC zs)
section
variable {zs : List Int}
theorem un_iff (h : VoP zs) {a b : Nat} (ha : a < zs.length) : bitB (unrI zs a) (b : Int) = true ↔ b < zs.length ∧ un zs a b := by
  rw [unrI_bit h ha]
  unfold un qB relB
  rw [Bool.or_eq_false_iff, ← Bool.not_eq_true, ← Bool.not_eq_true]
  constructor
  · rintro ⟨h1, h2, h3, h4⟩; exact ⟨h1, fun e => h2 e.symm, h3, h4⟩
  · rintro ⟨h1, h2, h3, h4⟩; exact ⟨h1, fun e => h2 e.symm, h3, h4⟩
theorem mem_prA (h : VoP zs) {p : Nat × Nat} : p ∈ prA zs ↔ p.1 < p.2 ∧ p.2 < zs.length ∧ un zs p.1 p.2 := by
  have hn6 := h.1
  have hp64 := powI_le6 (n := (zs.length : Int)) (by omega)
  unfold prA
  simp only [List.mem_flatMap, List.mem_reverse, List.mem_range, List.mem_map, List.mem_filter, decide_eq_true_eq]
  constructor
  · rintro ⟨a, ha, b, ⟨hb, hab⟩, rfl⟩
    have hbd := unrI_bd zs a
    have := (un_iff h ha).1 ((mem_itemsL (by omega)).1 hb)
    exact ⟨hab, this⟩
  · rintro ⟨h1, h2, h3⟩
    have hbd := unrI_bd zs p.1
    exact ⟨p.1, by omega, p.2, ⟨(mem_itemsL (by omega)).2 ((un_iff h (by omega)).2 ⟨h2, h3⟩), h1⟩, rfl⟩
theorem arc_ok (h : VoP zs) {c i : Nat} (hi : i < (prA zs).length) : (arcA zs c i).1 < zs.length ∧ (arcA zs c i).2 < zs.length ∧ un zs (arcA zs c i).1 (arcA zs c i).2 := by
  have hm := (mem_prA h).1 (List.getElem_mem hi)
  unfold arcA arcC
  rw [List.getElem?_eq_getElem hi, Option.getD_some]
  split
  · exact ⟨by omega, hm.2.1, hm.2.2⟩
  · exact ⟨hm.2.1, by show (prA zs)[i].1 < _; omega, un_symm hm.2.2⟩
theorem sdTo_inv (h : VoP zs) {c : Nat} : ∀ {i : Nat} {S : List Int}, i ≤ (prA zs).length → sdTo zs c i = some S → SInv zs S ∧ ∀ j, j < i → qB S (arcA zs c j).1 (arcA zs c j).2
  | 0, S, _, e => by
    have hn6 := h.1
    unfold sdTo at e
    cases e
    refine ⟨⟨zr_vo hn6, zr_len _, fun x y e => ?_⟩, fun j hj => by omega⟩
    unfold qB zr at e
    rw [List.getElem?_replicate] at e
    split at e <;> rw [show (Option.getD _ (0 : Int)) = 0 from rfl, bitB_zero] at e <;> cases e
  | i + 1, S, hi, e => by
    unfold sdTo at e
    cases e0 : sdTo zs c i with
    | none => rw [e0] at e; cases e
    | some S0 =>
      rw [e0, Option.bind_some] at e
      obtain ⟨h1, h2⟩ := sdTo_inv h (by omega) e0
      obtain ⟨a1, a2, a3⟩ := arc_ok h (c := c) (show i < (prA zs).length by omega)
      cases hb : badS zs S0 (arcA zs c i).1 (arcA zs c i).2
      · rw [hb] at e
        simp only [Bool.false_eq_true, if_false, Option.some.injEq] at e
        subst e
        refine ⟨step_inv h h1 a1 a2 hb, fun j hj => ?_⟩
        refine (stepS_q h1.vo (by rw [h1.len]; exact a1) _ _).2 ?_
        rcases Nat.lt_or_ge j i with hji | hji
        · exact .inl (h2 j hji)
        · obtain rfl : j = i := by omega
          exact .inr ⟨.inl rfl, .inl rfl⟩
      · rw [hb] at e; simp at e
theorem sdTo_sub (h : VoP zs) {c : Nat} {T : List Int} (hT : SideOf zs T) : ∀ {i : Nat} {S : List Int}, i ≤ (prA zs).length → (∀ j, j < i → qB T (arcA zs c j).1 (arcA zs c j).2) → sdTo zs c i = some S → ∀ x y, qB S x y → qB T x y
  | 0, S, _, _, e, x, y, hq => by
    unfold sdTo at e
    cases e
    unfold qB zr at hq
    rw [List.getElem?_replicate] at hq
    split at hq <;> rw [show (Option.getD _ (0 : Int)) = 0 from rfl, bitB_zero] at hq <;> cases hq
  | i + 1, S, hi, ha, e, x, y, hq => by
    unfold sdTo at e
    cases e0 : sdTo zs c i with
    | none => rw [e0] at e; cases e
    | some S0 =>
      rw [e0, Option.bind_some] at e
      have h1 := (sdTo_inv h (by omega) e0).1
      have ih := sdTo_sub h hT (by omega) (fun j hj => ha j (by omega)) e0
      obtain ⟨a1, a2, a3⟩ := arc_ok h (c := c) (show i < (prA zs).length by omega)
      have hai := ha i (by omega)
      cases hb : badS zs S0 (arcA zs c i).1 (arcA zs c i).2
      · rw [hb] at e
        simp only [Bool.false_eq_true, if_false, Option.some.injEq] at e
        subst e
        rcases (stepS_q h1.vo (by rw [h1.len]; exact a1) x y).1 hq with e | ⟨e1, e2⟩
        · exact ih x y e
        · have hb2 : qB T x (arcA zs c i).2 := by
            rcases e1 with e1 | e1
            · rw [e1]; exact hai
            · exact q_trans hT.vo (ih _ _ e1) hai
          rcases e2 with e2 | e2
          · rw [e2]; exact hb2
          · exact q_trans hT.vo hb2 (ih _ _ e2)
      · rw [hb] at e; simp at e
theorem side_un {T : List Int} (hT : SideOf zs T) {x y : Nat} (hq : qB T x y) : un zs x y := by
  obtain ⟨h1, h2⟩ := q_lt2 hT.vo hq
  rw [hT.len] at h1 h2
  exact (hT.iff x y h1 h2).1 (.inl hq)
theorem sdTo_some (h : VoP zs) {c : Nat} {T : List Int} (hT : SideOf zs T) : ∀ {i : Nat}, i ≤ (prA zs).length → (∀ j, j < i → qB T (arcA zs c j).1 (arcA zs c j).2) → ∃ S, sdTo zs c i = some S
  | 0, _, _ => ⟨_, rfl⟩
  | i + 1, hi, ha => by
    obtain ⟨S, e⟩ := sdTo_some h hT (i := i) (by omega) fun j hj => ha j (by omega)
    have h1 := (sdTo_inv h (by omega) e).1
    have hs := sdTo_sub h hT (by omega) (fun j hj => ha j (by omega)) e
    obtain ⟨a1, a2, a3⟩ := arc_ok h (c := c) (show i < (prA zs).length by omega)
    have hai := ha i (by omega)
    cases hb : badS zs S (arcA zs c i).1 (arcA zs c i).2
    · exact ⟨stepS S (arcA zs c i).1 (arcA zs c i).2, by unfold sdTo; rw [e, Option.bind_some, hb]; rfl⟩
    · exfalso
      obtain ⟨x, y, hx, hy, hn⟩ := badS_yes h h1.vo h1.len (by rw [h1.len]; exact a1) hb
      refine hn (side_un hT ?_)
      have hb2 : qB T x (arcA zs c i).2 := by
        rcases hx with e1 | e1
        · rw [e1]; exact hai
        · exact q_trans hT.vo (hs _ _ e1) hai
      rcases hy with e2 | e2
      · rw [e2]; exact hb2
      · exact q_trans hT.vo hb2 (hs _ _ e2)
theorem pair_at (h : VoP zs) {x y : Nat} (hx : x < zs.length) (hy : y < zs.length) (hu : un zs x y) : ∃ i, i < (prA zs).length ∧ ((prA zs)[i]?.getD (0, 0) = (x, y) ∨ (prA zs)[i]?.getD (0, 0) = (y, x)) := by
  rcases Nat.lt_or_ge x y with e | e
  · obtain ⟨i, hi, e2⟩ := List.getElem_of_mem ((mem_prA h (p := (x, y))).2 ⟨e, hy, hu⟩)
    exact ⟨i, hi, .inl (by rw [List.getElem?_eq_getElem hi, Option.getD_some, e2])⟩
  · have hne := hu.1
    obtain ⟨i, hi, e2⟩ := List.getElem_of_mem ((mem_prA h (p := (y, x))).2 ⟨by show y < x; omega, hx, un_symm hu⟩)
    exact ⟨i, hi, .inr (by rw [List.getElem?_eq_getElem hi, Option.getD_some, e2])⟩
theorem sdC_side (h : VoP zs) {c : Nat} {S : List Int} (e : sdC zs c = some S) : SideOf zs S ∧ ∀ j, j < (prA zs).length → qB S (arcA zs c j).1 (arcA zs c j).2 := by
  obtain ⟨h1, h2⟩ := sdTo_inv h (Nat.le_refl _) e
  refine ⟨⟨h1.vo, h1.len, fun x y hx hy => ⟨?_, fun hu => ?_⟩⟩, h2⟩
  · rintro (e | e)
    · exact h1.sub x y e
    · exact un_symm (h1.sub y x e)
  · obtain ⟨i, hi, hp⟩ := pair_at h hx hy hu
    have := h2 i hi
    unfold arcA arcC at this
    rcases hp with hp | hp <;> rw [hp] at this <;> split at this
    · exact .inl this
    · exact .inr this
    · exact .inr this
    · exact .inl this
theorem side_asym {T : List Int} (hT : VoP T) {x y : Nat} (h1 : qB T x y) (h2 : qB T y x) : False := q_irr hT (q_trans hT h1 h2)
theorem side_eq {S T : List Int} (hS : SideOf zs S) (hT : SideOf zs T) (hsub : ∀ x y, qB S x y → qB T x y) : S = T := by
  have hq : ∀ x y, qB S x y ↔ qB T x y := fun x y => ⟨hsub x y, fun e => by
    obtain ⟨h1, h2⟩ := q_lt2 hT.vo e
    rw [hT.len] at h1 h2
    rcases (hS.iff x y h1 h2).2 (side_un hT e) with e1 | e1
    · exact e1
    · exact absurd (hsub y x e1) fun e2 => side_asym hT.vo e e2⟩
  refine List.ext_getElem? fun a => ?_
  rcases Nat.lt_or_ge a zs.length with ha | ha
  · have a1 : a < S.length := by rw [hS.len]; exact ha
    have a2 : a < T.length := by rw [hT.len]; exact ha
    have b1 := (hS.vo.sets.2 a a1).1
    have b2 := (hT.vo.sets.2 a a2).1
    rw [List.getElem?_eq_getElem a1] at b1 ⊢
    rw [List.getElem?_eq_getElem a2] at b2 ⊢
    congr 1
    refine bitB_ext b1 b2 fun j => ?_
    have := hq a j
    unfold qB at this
    rw [List.getElem?_eq_getElem a1, List.getElem?_eq_getElem a2] at this
    rw [Bool.eq_iff_iff]; exact this
  · rw [List.getElem?_eq_none (by rw [hS.len]; exact ha), List.getElem?_eq_none (by rw [hT.len]; exact ha)]
theorem sdC_of (h : VoP zs) {c : Nat} {T : List Int} (hT : SideOf zs T) (ha : ∀ j, j < (prA zs).length → qB T (arcA zs c j).1 (arcA zs c j).2) : sdC zs c = some T := by
  obtain ⟨S, e⟩ := sdTo_some h hT (Nat.le_refl _) ha
  have := side_eq (sdC_side h e).1 hT (sdTo_sub h hT (Nat.le_refl _) ha e)
  rw [← this]; exact e

/-! The choice of a side. -/
def mkC (p : Nat → Bool) : Nat → Nat
  | 0 => 0
  | k + 1 => if p k then mkC p k ||| 2 ^ k else mkC p k
theorem mkC_bit (p : Nat → Bool) (j : Nat) : ∀ k : Nat, (mkC p k).testBit j = (decide (j < k) && p j)
  | 0 => by simp [mkC]
  | k + 1 => by
    have ih := mkC_bit p j k
    unfold mkC
    by_cases hj : j = k
    · subst hj
      cases hp : p j
      · simp [ih]
      · simp [Nat.testBit_or]
    · have e : decide (j < k + 1) = decide (j < k) := by rw [decide_eq_decide]; omega
      rw [e]
      cases hp : p k
      · simpa using ih
      · rw [if_pos rfl, Nat.testBit_or, ih, Nat.testBit_two_pow, decide_eq_false (show ¬ k = j from fun e => hj e.symm)]; simp
theorem mkC_lt (p : Nat → Bool) (k : Nat) : mkC p k < 2 ^ k := Nat.lt_pow_two_of_testBit _ fun j hj => by rw [mkC_bit, decide_eq_false (by omega)]; rfl
def chC (zs T : List Int) : Nat := mkC (fun i => bitB (T[((prA zs)[i]?.getD (0, 0)).1]?.getD 0) (((prA zs)[i]?.getD (0, 0)).2 : Int)) (prA zs).length
theorem chC_lt (zs T : List Int) : chC zs T < 2 ^ (prA zs).length := mkC_lt _ _
theorem chC_bit (zs T : List Int) {i : Nat} (hi : i < (prA zs).length) : (chC zs T).testBit i = true ↔ qB T ((prA zs)[i]?.getD (0, 0)).1 ((prA zs)[i]?.getD (0, 0)).2 := by
  unfold chC
  rw [mkC_bit, decide_eq_true hi, Bool.true_and]; exact Iff.rfl
theorem chC_arcs (h : VoP zs) {T : List Int} (hT : SideOf zs T) : ∀ j, j < (prA zs).length → qB T (arcA zs (chC zs T) j).1 (arcA zs (chC zs T) j).2 := fun j hj => by
  have hm := (mem_prA h).1 (List.getElem_mem hj)
  have hb := chC_bit zs T hj
  unfold arcA arcC
  rw [List.getElem?_eq_getElem hj, Option.getD_some] at hb ⊢
  split
  · rename_i hc; exact hb.1 hc
  · rename_i hc
    have hno : ¬ qB T (prA zs)[j].1 (prA zs)[j].2 := fun e => hc (hb.2 e)
    exact ((hT.iff _ _ (by omega) hm.2.1).2 hm.2.2).resolve_left hno
theorem chC_some (h : VoP zs) {T : List Int} (hT : SideOf zs T) : sdC zs (chC zs T) = some T := sdC_of h hT (chC_arcs h hT)
theorem chC_of (h : VoP zs) {c : Nat} {T : List Int} (hc : c < 2 ^ (prA zs).length) (e : sdC zs c = some T) : chC zs T = c := by
  obtain ⟨hT, ha⟩ := sdC_side h e
  refine Nat.eq_of_testBit_eq fun i => ?_
  by_cases hi : i < (prA zs).length
  · have hb := chC_bit zs T hi
    have hai := ha i hi
    unfold arcA arcC at hai
    cases hci : c.testBit i
    · rw [hci] at hai
      simp only [Bool.false_eq_true, if_false] at hai
      cases h2 : (chC zs T).testBit i
      · rfl
      · exact absurd (hb.1 h2) fun e => side_asym hT.vo e hai
    · rw [hci, if_pos rfl] at hai
      exact hb.2 hai
  · rw [Nat.testBit_lt_two_pow (Nat.lt_of_lt_of_le (chC_lt zs T) (Nat.pow_le_pow_right (by decide) (by omega))), Nat.testBit_lt_two_pow (Nat.lt_of_lt_of_le hc (Nat.pow_le_pow_right (by decide) (by omega)))]

theorem lt_testBit {x y : Nat} (i : Nat) (hx : x.testBit i = false) (hy : y.testBit i = true) (h : ∀ j, i < j → x.testBit j = y.testBit j) : x < y := by
  have e : x / 2 ^ (i + 1) = y / 2 ^ (i + 1) := Nat.eq_of_testBit_eq fun j => by
    rw [Nat.testBit_div_two_pow, Nat.testBit_div_two_pow]; exact h _ (by omega)
  have h1 : x % 2 ^ (i + 1) < 2 ^ i := Nat.lt_pow_two_of_testBit _ fun j hj => by
    rw [Nat.testBit_mod_two_pow]
    rcases Nat.eq_or_lt_of_le hj with e1 | e1
    · rw [← e1, hx]; simp
    · rw [decide_eq_false (by omega)]; rfl
  have h2 : 2 ^ i ≤ y % 2 ^ (i + 1) := by
    rcases Nat.lt_or_ge (y % 2 ^ (i + 1)) (2 ^ i) with e1 | e1
    · have := Nat.testBit_lt_two_pow e1
      rw [Nat.testBit_mod_two_pow, hy] at this
      simp at this
    · exact e1
  have d1 := Nat.div_add_mod x (2 ^ (i + 1))
  have d2 := Nat.div_add_mod y (2 ^ (i + 1))
  rw [e] at d1
  omega
/-- Whether a list comes ahead of another one as long. -/
def lexB (a b : List Int) : Bool := match (List.range a.length).find? (fun i => !(a[i]?.getD 0 == b[i]?.getD 0)) with | none => false | some i => decide (a[i]?.getD 0 < b[i]?.getD 0)
theorem top_bit_fin : ∀ x y : Fin 64, x.val < y.val → ∃ b : Fin 6, x.val.testBit b.val = false ∧ y.val.testBit b.val = true ∧ ∀ j : Fin 6, b.val < j.val → x.val.testBit j.val = y.val.testBit j.val := by decide +kernel
theorem top_bit {x y : Int} (h0 : 0 ≤ x) (h1 : y < 64) (h : x < y) : ∃ b : Nat, b < 6 ∧ bitB x (b : Int) = false ∧ bitB y (b : Int) = true ∧ ∀ j : Nat, b < j → bitB x (j : Int) = bitB y (j : Int) := by
  obtain ⟨b, e1, e2, e3⟩ := top_bit_fin ⟨x.toNat, by omega⟩ ⟨y.toNat, by omega⟩ (by show x.toNat < y.toNat; omega)
  refine ⟨b.val, b.isLt, e1, e2, fun j hj => ?_⟩
  rcases Nat.lt_or_ge j 6 with hj6 | hj6
  · exact e3 ⟨j, hj6⟩ hj
  · have key : ∀ z : Int, z < 64 → bitB z (j : Int) = false := fun z hz => by
      unfold bitB
      rw [Int.toNat_natCast]
      exact Nat.testBit_lt_two_pow (Nat.lt_of_lt_of_le (show z.toNat < 2 ^ 6 by omega) (Nat.pow_le_pow_right (by decide) hj6))
    rw [key x (by omega), key y h1]
theorem prA_sorted (zs : List Int) : (prA zs).Pairwise fun p q => q.1 < p.1 ∨ (q.1 = p.1 ∧ p.2 < q.2) := by
  unfold prA
  rw [List.pairwise_flatMap]
  refine ⟨fun a _ => ?_, ?_⟩
  · rw [List.pairwise_map]
    exact ((itemsL_sorted (unrI zs a)).filter _).imp fun h => .inr ⟨rfl, h⟩
  · rw [List.pairwise_reverse]
    refine List.pairwise_lt_range.imp fun {a b} hab => ?_
    intro p hp q hq
    simp only [List.mem_map] at hp hq
    obtain ⟨_, _, rfl⟩ := hp
    obtain ⟨_, _, rfl⟩ := hq
    exact .inl hab
theorem lex_choice (h : VoP zs) {S T : List Int} (hS : SideOf zs S) (hT : SideOf zs T) (hl : lexB S T = true) : chC zs S < chC zs T := by
  unfold lexB at hl
  cases e : (List.range S.length).find? (fun i => !(S[i]?.getD 0 == T[i]?.getD 0)) with
  | none => rw [e] at hl; cases hl
  | some k =>
    rw [e] at hl
    have hlt : S[k]?.getD 0 < T[k]?.getD 0 := of_decide_eq_true hl
    rw [List.find?_eq_some_iff_getElem] at e
    obtain ⟨_, k', hk', ek, hbef⟩ := e
    simp only [List.getElem_range] at ek
    subst ek
    rw [List.length_range] at hk'
    have heq : ∀ j, j < k' → S[j]?.getD 0 = T[j]?.getD 0 := fun j hj => by
      have := hbef j hj
      simpa using this
    have hkn : k' < zs.length := by rw [← hS.len]; exact hk'
    have b1 := hS.vo.sets.bd k' hk'
    have b2 := hT.vo.sets.bd k' (by rw [hT.len]; exact hkn)
    obtain ⟨b, hb6, c1, c2, c3⟩ := top_bit b1.1 b2.2 hlt
    have hqT : qB T k' b := c2
    have hu := side_un hT hqT
    have hbn := (q_lt2 hT.vo hqT).2
    rw [hT.len] at hbn
    have hkb : k' < b := by
      rcases Nat.lt_or_ge k' b with h1 | h1
      · exact h1
      · exfalso
        have hne := hu.1
        have hbk : b < k' := by omega
        rcases (hS.iff k' b hkn hbn).2 hu with e1 | e1
        · unfold qB at e1; rw [e1] at c1; cases c1
        · have : qB T b k' := by
            unfold qB at e1 ⊢
            rw [← heq b hbk]; exact e1
          exact side_asym hT.vo hqT this
    obtain ⟨i, hi, ei⟩ := List.getElem_of_mem ((mem_prA h (p := (k', b))).2 ⟨hkb, hbn, hu⟩)
    have gi : (prA zs)[i]?.getD (0, 0) = (k', b) := by rw [List.getElem?_eq_getElem hi, Option.getD_some, ei]
    refine lt_testBit i ?_ ?_ fun j hj => ?_
    · cases hc : (chC zs S).testBit i
      · rfl
      · have := (chC_bit zs S hi).1 hc
        rw [gi] at this
        unfold qB at this
        rw [this] at c1; cases c1
    · exact (chC_bit zs T hi).2 (by rw [gi]; exact hqT)
    · by_cases hjl : j < (prA zs).length
      · have hso := List.pairwise_iff_getElem.1 (prA_sorted zs) i j hi hjl hj
        rw [ei] at hso
        have gj : (prA zs)[j]?.getD (0, 0) = (prA zs)[j] := by rw [List.getElem?_eq_getElem hjl, Option.getD_some]
        have hqq : qB S (prA zs)[j].1 (prA zs)[j].2 ↔ qB T (prA zs)[j].1 (prA zs)[j].2 := by
          unfold qB
          rcases hso with h1 | ⟨h1, h2⟩
          · rw [heq _ h1]
          · rw [h1, c3 _ h2]
        rw [Bool.eq_iff_iff, chC_bit zs S hjl, chC_bit zs T hjl, gj]
        exact hqq
      · rw [Nat.testBit_lt_two_pow (Nat.lt_of_lt_of_le (chC_lt zs S) (Nat.pow_le_pow_right (by decide) (by omega))), Nat.testBit_lt_two_pow (Nat.lt_of_lt_of_le (chC_lt zs T) (Nat.pow_le_pow_right (by decide) (by omega)))]

/-- The least side. -/
def Least (zs T : List Int) : Prop := SideOf zs T ∧ ∀ T', SideOf zs T' → lexB T' T = false
theorem find_first {α β : Type} (f : α → Option β) {l : List α} {b : β} (h : l.findSome? f = some b) : ∃ i, ∃ hi : i < l.length, f l[i] = some b ∧ ∀ j, ∀ hj : j < i, f (l[j]'(by omega)) = none := by
  induction l with
  | nil => simp at h
  | cons x l ih =>
    rw [List.findSome?_cons] at h
    cases e : f x with
    | some y =>
      rw [e] at h
      exact ⟨0, by simp, by simpa using e.trans h, fun j hj => by omega⟩
    | none =>
      rw [e] at h
      obtain ⟨i, hi, e1, e2⟩ := ih h
      refine ⟨i + 1, by simpa using hi, by simpa using e1, fun j hj => ?_⟩
      cases j with
      | zero => simpa using e
      | succ j => simpa using e2 j (by omega)
theorem sdF_some (h : VoP zs) {T : List Int} (e : sdF zs = some T) : Least zs T := by
  obtain ⟨c, hc, e1, e2⟩ := find_first _ e
  simp only [List.getElem_range, List.length_range] at e1 e2 hc
  have hT := (sdC_side h e1).1
  refine ⟨hT, fun T' hT' => ?_⟩
  cases hl : lexB T' T
  · rfl
  · exfalso
    have h1 := lex_choice h hT' hT hl
    rw [chC_of h hc e1] at h1
    have := e2 _ h1
    rw [chC_some h hT'] at this
    cases this
theorem sdF_none (h : VoP zs) (e : sdF zs = none) : ∀ T, ¬ SideOf zs T := fun T hT => by
  unfold sdF at e
  rw [List.findSome?_eq_none_iff] at e
  have := e (chC zs T) (List.mem_range.2 (chC_lt zs T))
  rw [chC_some h hT] at this
  cases this
end
end Go.Proofs.Ytghogabmkbadjab

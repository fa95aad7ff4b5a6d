/- Even lattices are the ideals of their singles (mathematics). No program. -/
import Derived.Test.YtfahccbbccncnaaDoorGb
import Derived.Test.YtfahccbbccncnaaDoorIdN
import Derived.Test.YtfahccbbccncnaaDoorEvM
namespace Go.Proofs.YtfahccbbccncnaaDoor
set_option linter.unusedSectionVars false

theorem pop_one_fin : ∀ s : Fin 64, popI (s.val : Int) = 1 → ∀ a b : Fin 6, s.val.testBit a.val = true → s.val.testBit b.val = true → a = b := by decide +kernel
theorem pop_one {s : Int} (h0 : 0 ≤ s) (h1 : s < 64) (hp : popI s = 1) {a b : Nat} (ha : bitB s a = true) (hb : bitB s b = true) : a = b := by
  obtain ⟨s, rfl⟩ := Int.eq_ofNat_of_zero_le h0
  rw [bit_cast] at ha hb
  have h6 : s < 2 ^ 6 := by omega
  have := pop_one_fin ⟨s, h6⟩ hp ⟨a, bit_lt h6 ha⟩ ⟨b, bit_lt h6 hb⟩ ha hb
  exact congrArg Fin.val this
theorem pop_two_fin : ∀ s : Fin 64, popI (s.val : Int) ≠ 1 → s.val = 0 ∨ ∃ a b : Fin 6, a ≠ b ∧ s.val.testBit a.val = true ∧ s.val.testBit b.val = true := by decide +kernel
theorem pop_two {s : Int} (h0 : 0 ≤ s) (h1 : s < 64) (hp : popI s ≠ 1) : s = 0 ∨ ∃ a b : Nat, a ≠ b ∧ bitB s a = true ∧ bitB s b = true := by
  obtain ⟨s, rfl⟩ := Int.eq_ofNat_of_zero_le h0
  have h6 : s < 2 ^ 6 := by omega
  rcases pop_two_fin ⟨s, h6⟩ hp with e | ⟨a, b, hab, ha, hb⟩
  · left; exact congrArg _ e
  · refine .inr ⟨a.val, b.val, fun e => hab (Fin.ext e), ?_, ?_⟩
    · rw [bit_cast]; exact ha
    · rw [bit_cast]; exact hb
section
variable {zs : List Int} (h : VoP zs)
include h
theorem lt_at {a b : Nat} (hl : bitB (zs[a]?.getD 0) b = true) : bitB (atUp zs a) b = true := by rw [atUp_bit, hl]; rfl
theorem tops_small (a : Nat) : 0 ≤ topsTo zs ((du zs)[a]?.getD 0) zs.length ∧ topsTo zs ((du zs)[a]?.getD 0) zs.length < 64 := by
  have h1 := topsTo_bd zs ((du zs)[a]?.getD 0) zs.length
  have h2 := powI_le6 (n := (zs.length : Int)) (by have := h.1; omega)
  omega
/-- All below a single are at or below one item, which is below it. -/
theorem single_low {j : Nat} (hj : j < zs.length) (hs : snB zs j = true) : ∃ c : Nat, bitB (zs[c]?.getD 0) j = true ∧ ∀ x : Nat, bitB (zs[x]?.getD 0) j = true → bitB (atUp zs x) c = true := by
  unfold snB at hs
  rw [beq_iff_eq] at hs
  have hb := tops_small h j
  have hd1 : (du zs)[j]?.getD 0 < powI zs.length := by
    have := ((du_sets h.sets).2 j (by rw [du_len]; exact hj)).2
    rwa [du_len] at this
  have hex : ∃ c : Nat, bitB (topsTo zs ((du zs)[j]?.getD 0) zs.length) c = true := by
    refine Classical.byContradiction fun hn => ?_
    have : topsTo zs ((du zs)[j]?.getD 0) zs.length = 0 := bitB_ext hb.1 (by omega) fun i => by
      rw [bitB_zero]
      cases e : bitB (topsTo zs ((du zs)[j]?.getD 0) zs.length) i
      · rfl
      · exact absurd ⟨i, e⟩ hn
    rw [this] at hs
    exact absurd hs (by decide)
  obtain ⟨c, hc⟩ := hex
  refine ⟨c, by have := ((topsTo_bit c _).1 hc).2.1; rwa [du_bit h.sets] at this, fun x hx => ?_⟩
  obtain ⟨t, ht, e⟩ := top_over h hd1 _ x (Nat.le_refl _) (by rw [du_bit h.sets]; exact hx)
  obtain rfl := pop_one hb.1 hb.2 hs hc ht
  rcases e with rfl | e
  · exact at_self _ _
  · exact lt_at h e.2
/-- An item is told by the singles at or below it. -/
theorem singles_le (hn : 0 < zs.length) (h2 : JoinsOk zs) (h3 : JoinsOk (du zs)) : ∀ (m a b : Nat), rank zs a ≤ m → a < zs.length → b < zs.length →
    (∀ j : Nat, j < zs.length → snB zs j = true → bitB (atUp zs j) a = true → bitB (atUp zs j) b = true) → bitB (atUp zs a) b = true := fun m => by
  induction m using Nat.strongRecOn with
  | ind m ih =>
    intro a b hm ha hb hsub
    cases hs : snB zs a
    · have hbd := tops_small h a
      have hd1 : (du zs)[a]?.getD 0 < powI zs.length := by
        have := ((du_sets h.sets).2 a (by rw [du_len]; exact ha)).2
        rwa [du_len] at this
      have hlow : ∀ c : Nat, bitB (zs[c]?.getD 0) a = true → bitB (atUp zs c) b = true := fun c hc => by
        have hr := rank_lt h ⟨bit_none hc, hc⟩
        exact ih (rank zs c) (by omega) c b (Nat.le_refl _) (bit_none hc) hb fun j hj hsj hjc => hsub j hj hsj (at_trans h hjc (lt_at h hc))
      rcases pop_two hbd.1 hbd.2 (by unfold snB at hs; rw [beq_eq_false_iff_ne] at hs; exact hs) with e | ⟨c1, c2, hne, hc1, hc2⟩
      · obtain ⟨c, hc, hbot⟩ := lat_top (du_vo h) (by rw [du_len]; exact hn) h3
        rw [du_len] at hc hbot
        have hca := hbot a ha
        rw [at_du h.sets] at hca
        by_cases hca2 : c = a
        · subst hca2
          have := hbot b hb
          rwa [at_du h.sets] at this
        · exfalso
          have hlt := at_or hca (fun e => hca2 e.symm)
          obtain ⟨t, ht, -⟩ := top_over h hd1 _ c (Nat.le_refl _) (by rw [du_bit h.sets]; exact hlt)
          rw [e, bitB_zero] at ht
          cases ht
      · have t1 := (topsTo_bit c1 _).1 hc1
        have t2 := (topsTo_bit c2 _).1 hc2
        have l1 := t1.2.1
        have l2 := t2.2.1
        rw [du_bit h.sets] at l1 l2
        obtain ⟨v, hv, hch⟩ := join_char h h2 t1.1 t2.1
        have hva := (hch a).1 ⟨lt_at h l1, lt_at h l2⟩
        have hvb := (hch b).1 ⟨hlow c1 l1, hlow c2 l2⟩
        have hvv := (hch v).2 (at_self _ _)
        by_cases e : a = v
        · rw [e]; exact hvb
        · exfalso
          have hlt := at_or hva e
          have key : ∀ c : Nat, bitB (topsTo zs ((du zs)[a]?.getD 0) zs.length) c = true → bitB (atUp zs c) v = true → v = c := fun c hc hcv => by
            refine Classical.byContradiction fun hne2 => ?_
            have := andI_zero.1 ((topsTo_bit c _).1 hc).2.2 v (by rw [du_bit h.sets]; exact hlt)
            rw [at_or hcv hne2] at this
            cases this
          exact hne ((key c1 hc1 hvv.1).symm.trans (key c2 hc2 hvv.2))
    · exact hsub a ha hs (at_self _ _)
omit h in
/-- The join with its value. -/
theorem join_val {ds : List Int} (hd : VoP ds) (hj : JoinsOk ds) {a b : Nat} (ha : a < ds.length) (hb : b < ds.length) :
    ∃ c : Nat, joinI ds a b = (c : Int) ∧ c < ds.length ∧ ∀ i : Nat, (bitB (atUp ds a) i = true ∧ bitB (atUp ds b) i = true) ↔ bitB (atUp ds c) i = true := by
  have h0 := hj a ha b hb
  rcases jnI_cases (zs := ds) (s := upR ds a b) with ⟨e, _⟩ | ⟨c, e, hc, hb2⟩
  · exfalso
    have : joinI ds a b = -1 := e
    omega
  · unfold jnB at hb2
    rw [Bool.and_eq_true, beq_iff_eq] at hb2
    refine ⟨c, e, hc, fun i => ⟨fun hi => ?_, fun hi => ?_⟩⟩
    · refine lessI_none.1 hb2.2 i ?_
      unfold upR
      rw [bitB_and, Bool.and_eq_true]
      exact hi
    · have h1 := hb2.1
      unfold upR at h1
      rw [bitB_and, Bool.and_eq_true] at h1
      exact ⟨at_trans hd h1.1 hi, at_trans hd h1.2 hi⟩
/-- A single below a join is below one of the two. -/
theorem single_prime (h2 : JoinsOk zs) (h3 : JoinsOk (du zs)) (he : EvenAll zs) {j x y v : Nat} (hj : j < zs.length) (hs : snB zs j = true) (hx : x < zs.length) (hy : y < zs.length)
    (hv : joinI zs x y = (v : Int)) (hvn : v < zs.length) (hjv : bitB (atUp zs j) v = true) : bitB (atUp zs j) x = true ∨ bitB (atUp zs j) y = true := by
  have hl : (du zs).length = zs.length := du_len zs
  obtain ⟨p, ep, hp, cp⟩ := join_val (du_vo h) h3 (show j < (du zs).length by omega) (show x < (du zs).length by omega)
  obtain ⟨q, eq, hq, cq⟩ := join_val (du_vo h) h3 (show j < (du zs).length by omega) (show y < (du zs).length by omega)
  obtain ⟨m, em, hm, cm⟩ := join_val (du_vo h) h3 (show j < (du zs).length by omega) (show v < (du zs).length by omega)
  obtain ⟨r, er, hr, cr⟩ := join_val h h2 (show p < zs.length by omega) (show q < zs.length by omega)
  simp only [at_du h.sets] at cp cq cm
  have hg := he j hj x hx y hy
  unfold goesOver at hg
  rw [beq_iff_eq, hv, ep, eq, Int.toNat_natCast, Int.toNat_natCast, Int.toNat_natCast, em, er] at hg
  obtain rfl : m = r := by omega
  have hjm : j = m := at_asym h ((cm j).1 ⟨at_self _ _, hjv⟩) ((cm m).2 (at_self _ _)).1
  subst hjm
  refine Classical.byContradiction fun hn => ?_
  rw [not_or] at hn
  have p1 := (cp p).2 (at_self _ _)
  have q1 := (cq q).2 (at_self _ _)
  obtain ⟨c, hc, hall⟩ := single_low h hj hs
  have pj : j ≠ p := fun e => hn.1 (by have := p1.2; rwa [← e] at this)
  have qj : j ≠ q := fun e => hn.2 (by have := q1.2; rwa [← e] at this)
  have hjc := (cr c).1 ⟨hall p (at_or p1.1 pj), hall q (at_or q1.1 qj)⟩
  have := at_asym h hjc (lt_at h hc)
  subst this
  exact h.irr ⟨hj, hc⟩
theorem joins_prime (h2 : JoinsOk zs) (h3 : JoinsOk (du zs)) (he : EvenAll zs) (t : Nat) : ∀ k : Nat, k ≤ zs.length → (∀ a : Nat, a < k → t.testBit a = false) ∨
    ∃ c : Nat, c < zs.length ∧ (∀ a : Nat, a < k → t.testBit a = true → bitB (atUp zs a) c = true) ∧ ∀ j : Nat, j < zs.length → snB zs j = true → bitB (atUp zs j) c = true → ∃ a : Nat, a < k ∧ t.testBit a = true ∧ bitB (atUp zs j) a = true
  | 0, _ => .inl fun a ha => by omega
  | k + 1, hk => by
    have ih := joins_prime h2 h3 he t k (by omega)
    cases hb : t.testBit k
    · rcases ih with ih | ⟨c, hc, i1, i2⟩
      · refine .inl fun a ha => ?_
        by_cases e : a = k
        · subst e; exact hb
        · exact ih a (by omega)
      · refine .inr ⟨c, hc, fun a ha hs => ?_, fun j hj hs hjc => ?_⟩
        · by_cases e : a = k
          · subst e; rw [hb] at hs; cases hs
          · exact i1 a (by omega) hs
        · obtain ⟨a, ha, h5⟩ := i2 j hj hs hjc
          exact ⟨a, by omega, h5⟩
    · rcases ih with ih | ⟨c, hc, i1, i2⟩
      · refine .inr ⟨k, by omega, fun a ha hs => ?_, fun j hj hs hjc => ⟨k, by omega, hb, hjc⟩⟩
        by_cases e : a = k
        · subst e; exact at_self _ _
        · rw [ih a (by omega)] at hs; cases hs
      · obtain ⟨d, ed, hd, cd⟩ := join_val h h2 hc (show k < zs.length by omega)
        have hdd := (cd d).2 (at_self _ _)
        refine .inr ⟨d, hd, fun a ha hs => ?_, fun j hj hs hjd => ?_⟩
        · by_cases e : a = k
          · subst e; exact hdd.2
          · exact at_trans h (i1 a (by omega) hs) hdd.1
        · rcases single_prime h h2 h3 he hj hs hc (by omega) ed hd hjd with e | e
          · obtain ⟨a, ha, h5⟩ := i2 j hj hs e
            exact ⟨a, by omega, h5⟩
          · exact ⟨k, by omega, hb, e⟩
/-- The singles at or below an item. -/
def dnN (zs : List Int) (c : Nat) : Nat := (andI (snTo zs zs.length) (atUp (du zs) c)).toNat
def snN (zs : List Int) : Nat := (snTo zs zs.length).toNat
theorem snN_bit (j : Nat) : (snN zs).testBit j = (decide (j < zs.length) && snB zs j) := by
  unfold snN
  rw [← bit_nat (snTo_bd zs _).1, snTo_bit]
theorem dnN_bit (c j : Nat) : (dnN zs c).testBit j = ((decide (j < zs.length) && snB zs j) && bitB (atUp zs j) c) := by
  unfold dnN
  rw [← bit_nat (by unfold andI; omega), bitB_and, snTo_bit, at_du h.sets]
/-- Ideals of singles are as many as items. -/
theorem birk (hl : latB zs = true) (he : EvenAll zs) : (ids zs (snN zs)).length = zs.length := by
  obtain ⟨hn, h2, h3⟩ := latB_parts hl
  have hs64 : snN zs < 64 := by
    have h1 := snTo_bd zs zs.length
    have h2 := powI_le6 (n := (zs.length : Int)) (by have := h.1; omega)
    unfold snN
    omega
  have hid : ∀ c : Nat, IdP zs (snN zs) (dnN zs c) := fun c => ⟨fun j hj => by
    rw [dnN_bit h, Bool.and_eq_true] at hj
    rw [snN_bit h]; exact hj.1, fun a b hb ha hz => by
    rw [dnN_bit h, Bool.and_eq_true] at hb ⊢
    rw [snN_bit h] at ha
    exact ⟨ha, at_trans h (lt_at h hz) hb.2⟩⟩
  have k1 := inj_len (dnN zs) (List.range zs.length) (ids zs (snN zs)) List.nodup_range (fun c _ => mem_ids.2 ⟨idP_lt (hid c) hs64, hid c⟩) (fun a ha b hb e => by
    have ha' : a < zs.length := by simpa using ha
    have hb' : b < zs.length := by simpa using hb
    have key : ∀ x y : Nat, dnN zs x = dnN zs y → ∀ j : Nat, j < zs.length → snB zs j = true → bitB (atUp zs j) x = true → bitB (atUp zs j) y = true := fun x y e j hj hsj hjx => by
      have e1 := dnN_bit h x j
      have e2 := dnN_bit h y j
      rw [e, e2, decide_eq_true hj, hsj, hjx] at e1
      simpa using e1
    exact at_asym h (singles_le h hn h2 h3 _ a b (Nat.le_refl _) ha' hb' (key a b e)) (singles_le h hn h2 h3 _ b a (Nat.le_refl _) hb' ha' (key b a e.symm)))
  have k2 := inj_len (fun t : Nat => t) (ids zs (snN zs)) ((List.range zs.length).map (dnN zs)) (ids_nodup _ _) (fun t ht => by
    obtain ⟨-, ht⟩ := mem_ids.1 ht
    have hsn : ∀ j, t.testBit j = true → j < zs.length ∧ snB zs j = true := fun j hj => by
      have := ht.1 j hj
      rw [snN_bit h, Bool.and_eq_true, decide_eq_true_eq] at this
      exact this
    rw [List.mem_map]
    rcases joins_prime h h2 h3 he t zs.length (Nat.le_refl _) with g | ⟨c, hc, g1, g2⟩
    · obtain ⟨c, hc, hbot⟩ := lat_top (du_vo h) (by rw [du_len]; exact hn) h3
      rw [du_len] at hc hbot
      refine ⟨c, by simpa using hc, Nat.eq_of_testBit_eq fun j => ?_⟩
      have hf : t.testBit j = false := by
        cases e : t.testBit j
        · rfl
        · rw [g j (hsn j e).1] at e; cases e
      rw [hf, Bool.eq_false_iff]
      intro e
      rw [dnN_bit h, Bool.and_eq_true, Bool.and_eq_true, decide_eq_true_eq] at e
      obtain ⟨x, hx, -⟩ := single_low h e.1.1 e.1.2
      have hcj := hbot j e.1.1
      rw [at_du h.sets] at hcj
      have := at_asym h e.2 hcj
      subst this
      have hcx := hbot x (bit_none hx)
      rw [at_du h.sets] at hcx
      have := at_asym h hcx (lt_at h hx)
      subst this
      exact h.irr ⟨e.1.1, hx⟩
    · refine ⟨c, by simpa using hc, Nat.eq_of_testBit_eq fun j => ?_⟩
      rw [Bool.eq_iff_iff, dnN_bit h, Bool.and_eq_true, Bool.and_eq_true, decide_eq_true_eq]
      constructor
      · rintro ⟨⟨hj, hsj⟩, hjc⟩
        obtain ⟨a, ha, hta, hja⟩ := g2 j hj hsj hjc
        by_cases e : j = a
        · subst e; exact hta
        · exact ht.2 j a hta (by rw [snN_bit h, hsj, decide_eq_true hj]; rfl) (at_or hja (fun e2 => e e2.symm))
      · intro e
        exact ⟨hsn j e, g1 j (hsn j e).1 e⟩) (fun _ _ _ _ e => e)
  rw [List.length_map, List.length_range] at k2
  rw [List.length_range] at k1
  omega
end
end Go.Proofs.YtfahccbbccncnaaDoor

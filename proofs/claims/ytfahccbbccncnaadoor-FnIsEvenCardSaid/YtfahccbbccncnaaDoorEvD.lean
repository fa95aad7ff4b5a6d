/- Even lattices: turned round they are even; ideals of a part are ideals within its set. No program. -/
import Derived.Test.YtfahccbbccncnaaDoorEvB
import Derived.Test.YtfahccbbccncnaaDoorPtM
namespace Go.Proofs.YtfahccbbccncnaaDoor

theorem even_du {zs : List Int} (h : VoP zs) (hl : latB zs = true) (he : EvenAll zs) : EvenAll (du zs) := by
  obtain ⟨hn, h2, h3⟩ := latB_parts hl
  have hdl : (du zs).length = zs.length := du_len zs
  intro a ha b hb c hc
  rw [hdl] at ha hb hc
  unfold goesOver
  rw [du_du h]
  obtain ⟨m, em, hm, cm⟩ := join_val (du_vo h) h3 (show b < (du zs).length by omega) (show c < (du zs).length by omega)
  obtain ⟨x, ex, hx, cx⟩ := join_val h h2 ha hb
  obtain ⟨y, ey, hy, cy⟩ := join_val h h2 ha hc
  obtain ⟨w, ew, hw, cw⟩ := join_val h h2 ha (show m < zs.length by omega)
  obtain ⟨v, ev, hv, cv⟩ := join_val (du_vo h) h3 (show x < (du zs).length by omega) (show y < (du zs).length by omega)
  simp only [at_du h.sets] at cm cv
  rw [em, Int.toNat_natCast, ex, ey, Int.toNat_natCast, Int.toNat_natCast, ew, ev, beq_iff_eq]
  have xx := (cx x).2 (at_self _ _)
  have yy := (cy y).2 (at_self _ _)
  have ww := (cw w).2 (at_self _ _)
  have mm := (cm m).2 (at_self _ _)
  have h1 : bitB (atUp zs w) v = true := (cw v).1 ⟨(cv a).1 ⟨xx.1, yy.1⟩, (cv m).1 ⟨at_trans h mm.1 xx.2, at_trans h mm.2 yy.2⟩⟩
  have vv := (cv v).2 (at_self _ _)
  have h4 : bitB (atUp zs v) w = true := singles_le h hn h2 h3 _ v w (Nat.le_refl _) (by omega) hw fun j hj hs hjv => by
    rcases single_prime h h2 h3 he hj hs ha hb ex hx (at_trans h hjv vv.1) with k1 | k1
    · exact at_trans h k1 ww.1
    · rcases single_prime h h2 h3 he hj hs ha hc ey hy (at_trans h hjv vv.2) with k2 | k2
      · exact at_trans h k2 ww.1
      · exact at_trans h ((cm j).1 ⟨k1, k2⟩) ww.2
  exact congrArg _ (at_asym h h1 h4)
/-- A number of given bits. -/
def mkN (p : Nat → Bool) : Nat → Nat
  | 0 => 0
  | k + 1 => if p k then mkN p k ||| 2 ^ k else mkN p k
theorem mkN_bit (p : Nat → Bool) (j : Nat) : ∀ k : Nat, (mkN p k).testBit j = (decide (j < k) && p j)
  | 0 => by simp [mkN]
  | k + 1 => by
    have ih := mkN_bit p j k
    by_cases e : j = k
    · subst e
      cases hp : p j
      · simp [mkN, hp, ih]
      · simp [mkN, hp, ih, Nat.testBit_or]
    · have h1 : (j < k + 1) ↔ (j < k) := by omega
      have h2 : ¬ k = j := fun e2 => e e2.symm
      cases hp : p k
      · simp [mkN, hp, ih, h1]
      · simp [mkN, hp, ih, h1, Nat.testBit_or, h2]
theorem mem_left {n s a : Nat} : a ∈ leftL n s ↔ a < n ∧ s.testBit a = true := by simp [leftL]
theorem left_at {n s a : Nat} (h1 : a < n) (h2 : s.testBit a = true) : ∃ k : Nat, k < (leftL n s).length ∧ (leftL n s)[k]?.getD 0 = a := by
  obtain ⟨k, hk, e⟩ := List.getElem_of_mem (mem_left.2 ⟨h1, h2⟩)
  exact ⟨k, hk, by rw [List.getElem?_eq_getElem hk]; exact e⟩
theorem left_get {n s k : Nat} (hk : k < (leftL n s).length) : (leftL n s)[k]?.getD 0 < n ∧ s.testBit ((leftL n s)[k]?.getD 0) = true := by
  rw [List.getElem?_eq_getElem hk]
  exact mem_left.1 (List.getElem_mem hk)
theorem ids_ind {zs : List Int} (h : VoP zs) {s : Nat} (hs : s < 2 ^ zs.length) : (ids (ind zs (leftL zs.length s)) (2 ^ (leftL zs.length s).length - 1)).length = (ids zs s).length := by
  have h64 : (2 : Nat) ^ zs.length ≤ 64 := Nat.pow_le_pow_right (n := 2) (by decide) h.1
  have hi := leftL_inc zs s
  have hat : ∀ k, k < (leftL zs.length s).length → (leftL zs.length s)[k]?.getD 0 < zs.length ∧ s.testBit ((leftL zs.length s)[k]?.getD 0) = true := fun k hk => left_get hk
  have hof : ∀ a, s.testBit a = true → ∃ k : Nat, k < (leftL zs.length s).length ∧ (leftL zs.length s)[k]?.getD 0 = a := fun a ha => left_at (bit_lt hs ha) ha
  have hll := hi.len_le
  generalize leftL zs.length s = l at *
  have hl6 : l.length ≤ 6 := Nat.le_trans hll h.1
  have hm64 : (2 : Nat) ^ l.length ≤ 64 := Nat.pow_le_pow_right (n := 2) (by decide) hl6
  have hfull : ∀ j, (2 ^ l.length - 1).testBit j = true ↔ j < l.length := fun j => by rw [Nat.testBit_two_pow_sub_one, decide_eq_true_eq]
  have hex : ∀ t a, (ex l t).testBit a = true ↔ ∃ i, i < l.length ∧ t.testBit i = true ∧ l[i]?.getD 0 = a := fun t a => exTo_bit l t a l.length
  have k1 := inj_len (ex l) (ids (ind zs l) (2 ^ l.length - 1)) (ids zs s) (ids_nodup _ _) (fun t ht => by
    obtain ⟨-, ht⟩ := mem_ids.1 ht
    have hp : IdP zs s (ex l t) := by
      refine ⟨fun j hj => ?_, fun a b hb ha hz => ?_⟩
      · obtain ⟨i, hi1, -, e⟩ := (hex t j).1 hj
        rw [← e]; exact (hat i hi1).2
      · obtain ⟨i, hi1, hti, e⟩ := (hex t b).1 hb
        obtain ⟨k, hk, e2⟩ := hof a ha
        refine (hex t a).2 ⟨k, hk, ht.2 k i hti ((hfull k).2 hk) ((ind_bit hk).2 ⟨hi1, ?_⟩), e2⟩
        rw [e, e2]; exact hz
    exact mem_ids.2 ⟨idP_lt hp (by omega), hp⟩) (fun t ht t2 ht2 e => by
    obtain ⟨-, ht⟩ := mem_ids.1 ht
    obtain ⟨-, ht2⟩ := mem_ids.1 ht2
    refine Nat.eq_of_testBit_eq fun k => ?_
    by_cases hk : k < l.length
    · rw [← ex_at hi hk, ← ex_at hi hk, e]
    · have f : ∀ t, IdP (ind zs l) (2 ^ l.length - 1) t → t.testBit k = false := fun t ht => by
        cases e2 : t.testBit k
        · rfl
        · exact absurd ((hfull k).1 (ht.1 k e2)) hk
      rw [f t ht, f t2 ht2])
  have k2 := inj_len (fun u : Nat => mkN (fun k => u.testBit (l[k]?.getD 0)) l.length) (ids zs s) (ids (ind zs l) (2 ^ l.length - 1)) (ids_nodup _ _) (fun u hu => by
    obtain ⟨-, hu⟩ := mem_ids.1 hu
    have hp : IdP (ind zs l) (2 ^ l.length - 1) (mkN (fun k => u.testBit (l[k]?.getD 0)) l.length) := by
      refine ⟨fun j hj => ?_, fun a b hb ha hz => ?_⟩
      · rw [mkN_bit, Bool.and_eq_true, decide_eq_true_eq] at hj
        exact (hfull j).2 hj.1
      · rw [mkN_bit, Bool.and_eq_true, decide_eq_true_eq] at hb ⊢
        have hal := (hfull a).1 ha
        exact ⟨hal, hu.2 _ _ hb.2 (hat a hal).2 ((ind_bit hal).1 hz).2⟩
    exact mem_ids.2 ⟨idP_lt hp (by omega), hp⟩) (fun u hu u2 hu2 e => by
    obtain ⟨-, hu⟩ := mem_ids.1 hu
    obtain ⟨-, hu2⟩ := mem_ids.1 hu2
    have e : mkN (fun k => u.testBit (l[k]?.getD 0)) l.length = mkN (fun k => u2.testBit (l[k]?.getD 0)) l.length := e
    have key : ∀ k, k < l.length → u.testBit (l[k]?.getD 0) = u2.testBit (l[k]?.getD 0) := fun k hk => by
      have e1 := mkN_bit (fun k => u.testBit (l[k]?.getD 0)) k l.length
      have e2 := mkN_bit (fun k => u2.testBit (l[k]?.getD 0)) k l.length
      rw [e, e2, decide_eq_true hk] at e1
      simpa using e1.symm
    refine Nat.eq_of_testBit_eq fun a => ?_
    cases ha : s.testBit a
    · have f : ∀ u, IdP zs s u → u.testBit a = false := fun u hu => by
        cases e2 : u.testBit a
        · rfl
        · rw [hu.1 a e2] at ha; cases ha
      rw [f u hu, f u2 hu2]
    · obtain ⟨k, hk, rfl⟩ := hof a ha
      exact key k hk)
  omega
/-- The main theorem: as many ideals of the part of the singles as items. -/
theorem even_ideals {zs : List Int} (h : VoP zs) (hl : latB zs = true) (he : EvenAll zs) : countIdealsR (partR zs (snTo zs zs.length)) = zs.length := by
  have hb := snTo_bd zs zs.length
  have hpv := part_vo h hb.1 hb.2
  have hs : snN zs < 2 ^ zs.length := by
    have := pow_cast zs.length
    unfold snN
    omega
  have h64 : (2 : Nat) ^ (partR zs (snTo zs zs.length)).length ≤ 64 := Nat.pow_le_pow_right (n := 2) (by decide) hpv.1
  unfold countIdealsR
  rw [vo_true hpv, if_pos rfl, ciN_ids hpv 64 _ (by omega) (by omega), part_in h hb.1 hb.2, ind_len, ids_ind h (show (snTo zs zs.length).toNat < 2 ^ zs.length from hs)]
  exact congrArg _ (birk h hl he)
end Go.Proofs.YtfahccbbccncnaaDoor

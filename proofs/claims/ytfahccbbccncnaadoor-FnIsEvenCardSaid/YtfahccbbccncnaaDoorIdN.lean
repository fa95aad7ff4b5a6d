/- Ideals within a set are as many as ciN tells. No program. -/
import Derived.Test.YtfahccbbccncnaaDoorCiM
import Derived.Test.YtfahccbbccncnaaDoorGb
namespace Go.Proofs.YtfahccbbccncnaaDoor

theorem bit_nat {x : Int} (_hx : 0 ≤ x) (j : Nat) : bitB x (j : Int) = x.toNat.testBit j := by simp [bitB]
theorem lessN_bit (s : Nat) (z : Int) (j : Nat) : (lessN s z).testBit j = ((s.testBit j && !decide (low s = j)) && !bitB z j) := by
  unfold lessN
  rw [← bit_nat (lessI_bd _ _).1, bitB_less, bitB_less, bitB_pow, bit_cast]
/-- An ideal within a set. -/
def IdP (zs : List Int) (s t : Nat) : Prop := (∀ j, t.testBit j = true → s.testBit j = true) ∧ ∀ a b : Nat, t.testBit b = true → s.testBit a = true → bitB (zs[a]?.getD 0) b = true → t.testBit a = true
open Classical in
noncomputable def ids (zs : List Int) (s : Nat) : List Nat := (List.range 64).filter fun t => decide (IdP zs s t)
theorem mem_ids {zs : List Int} {s t : Nat} : t ∈ ids zs s ↔ t < 64 ∧ IdP zs s t := by simp [ids]
theorem ids_nodup (zs : List Int) (s : Nat) : (ids zs s).Nodup := List.nodup_range.filter _
theorem idP_lt {zs : List Int} {s t : Nat} (h : IdP zs s t) (hs : s < 64) : t < 64 := Nat.lt_pow_two_of_testBit (n := 6) _ fun i hi => by
  cases e : t.testBit i
  · rfl
  · have := bit_lt (n := 6) hs (h.1 i e); omega
theorem ids_zero (zs : List Int) : (ids zs 0).length = 1 := by
  have h1 := inj_len (fun t : Nat => t) (ids zs 0) [0] (ids_nodup _ _) (fun t ht => by
    have := (mem_ids.1 ht).2.1
    have : t = 0 := Nat.eq_of_testBit_eq fun j => by
      cases e : t.testBit j
      · simp
      · have := this j e; simp at this
    simp [this]) (fun _ _ _ _ e => e)
  have h2 := inj_len (fun t : Nat => t) [0] (ids zs 0) (by simp) (fun t ht => by
    obtain rfl : t = 0 := by simpa using ht
    exact mem_ids.2 ⟨by omega, fun j hj => hj, fun a b hb => by simp at hb⟩) (fun _ _ _ _ e => e)
  simp at h1 h2
  omega
theorem ids_split {zs : List Int} (h : VoP zs) {s a u d : Nat} (hs : s < 64) (hb : s.testBit a = true)
    (hu : ∀ j, u.testBit j = ((s.testBit j && !decide (a = j)) && !bitB (zs[a]?.getD 0) j)) (hd : ∀ j, d.testBit j = ((s.testBit j && !decide (a = j)) && !bitB (zs[j]?.getD 0) a)) :
    (ids zs s).length = (ids zs u).length + (ids zs d).length := by
  have hu1 : ∀ j, u.testBit j = true ↔ s.testBit j = true ∧ a ≠ j ∧ bitB (zs[a]?.getD 0) j = false := fun j => by rw [hu]; simp [and_assoc]
  have hd1 : ∀ j, d.testBit j = true ↔ s.testBit j = true ∧ a ≠ j ∧ bitB (zs[j]?.getD 0) a = false := fun j => by rw [hd]; simp [and_assoc]
  have hlen : ((ids zs u).map (Sum.inl (β := Nat)) ++ (ids zs d).map (Sum.inr (α := Nat))).length = (ids zs u).length + (ids zs d).length := by simp
  have tr : ∀ {x y z : Nat}, bitB (zs[x]?.getD 0) y = true → bitB (zs[y]?.getD 0) z = true → bitB (zs[x]?.getD 0) z = true := fun h1 h2 => (h.trans ⟨bit_none h1, h1⟩ ⟨bit_none h2, h2⟩).2
  have hin : ∀ t, IdP zs s t → t.testBit a = true → ∀ j, t.testBit j = true ↔ ((t &&& d).testBit j = true ∨ (s.testBit j = true ∧ d.testBit j = false)) := fun t ht ha j => by
    rw [Nat.testBit_and, Bool.and_eq_true]
    constructor
    · intro e
      cases e2 : d.testBit j
      · exact .inr ⟨ht.1 j e, rfl⟩
      · exact .inl ⟨e, rfl⟩
    · rintro (e | ⟨e1, e2⟩)
      · exact e.1
      · rw [hd, e1, Bool.true_and] at e2
        by_cases e3 : a = j
        · subst e3; exact ha
        · cases e4 : bitB (zs[j]?.getD 0) a
          · rw [e4] at e2; simp [e3] at e2
          · exact ht.2 j a ha e1 e4
  have h1 := inj_len (fun t : Nat => if t.testBit a then (Sum.inr (t &&& d) : Nat ⊕ Nat) else Sum.inl t) (ids zs s) ((ids zs u).map (Sum.inl (β := Nat)) ++ (ids zs d).map (Sum.inr (α := Nat))) (ids_nodup _ _) (fun t ht => by
    obtain ⟨t6, ht⟩ := mem_ids.1 ht
    rw [List.mem_append]
    cases e : t.testBit a
    · refine .inl ?_
      simp only [Bool.false_eq_true, if_false]
      refine List.mem_map_of_mem (mem_ids.2 ⟨t6, fun j hj => (hu1 j).2 ⟨ht.1 j hj, fun e2 => (by subst e2; rw [e] at hj; cases hj), ?_⟩, fun x y hy hx hz => ht.2 x y hy ((hu1 x).1 hx).1 hz⟩)
      cases e2 : bitB (zs[a]?.getD 0) j
      · rfl
      · rw [ht.2 a j hj hb e2] at e; cases e
    · refine .inr ?_
      simp only [if_true]
      refine List.mem_map_of_mem (mem_ids.2 ⟨Nat.lt_of_le_of_lt Nat.and_le_left t6, fun j hj => ?_, fun x y hy hx hz => ?_⟩)
      · rw [Nat.testBit_and, Bool.and_eq_true] at hj; exact hj.2
      · rw [Nat.testBit_and, Bool.and_eq_true] at hy ⊢
        exact ⟨ht.2 x y hy.1 ((hd1 x).1 hx).1 hz, hx⟩) (fun t ht t2 ht2 e => by
    obtain ⟨-, ht⟩ := mem_ids.1 ht
    obtain ⟨-, ht2⟩ := mem_ids.1 ht2
    cases e1 : t.testBit a <;> cases e2 : t2.testBit a <;> simp [e1, e2] at e
    · exact e
    · refine Nat.eq_of_testBit_eq fun j => ?_
      rw [Bool.eq_iff_iff, hin t ht e1 j, hin t2 ht2 e2 j, e])
  have h2 := inj_len (fun x : Nat ⊕ Nat => match x with | .inl t => t | .inr t => t ||| (s ^^^ d)) ((ids zs u).map (Sum.inl (β := Nat)) ++ (ids zs d).map (Sum.inr (α := Nat))) (ids zs s) (by
      rw [List.nodup_append]
      refine ⟨?_, ?_, ?_⟩
      · exact List.Pairwise.map _ (fun x y hxy e => hxy (Sum.inl.inj e)) (ids_nodup zs u)
      · exact List.Pairwise.map _ (fun x y hxy e => hxy (Sum.inr.inj e)) (ids_nodup zs d)
      · intro x hx y hy e
        obtain ⟨t, -, rfl⟩ := List.mem_map.1 hx
        obtain ⟨t2, -, rfl⟩ := List.mem_map.1 hy
        cases e) (fun x hx => by
    rw [List.mem_append] at hx
    rcases hx with hx | hx
    · obtain ⟨t, ht, rfl⟩ := List.mem_map.1 hx
      obtain ⟨t6, ht⟩ := mem_ids.1 ht
      refine mem_ids.2 ⟨t6, fun j hj => ((hu1 j).1 (ht.1 j hj)).1, fun x y hy hx hz => ht.2 x y hy ((hu1 x).2 ⟨hx, fun e => ?_, ?_⟩) hz⟩
      · subst e
        have := ((hu1 y).1 (ht.1 y hy)).2.2
        rw [hz] at this; cases this
      · cases e : bitB (zs[a]?.getD 0) x
        · rfl
        · have := ((hu1 y).1 (ht.1 y hy)).2.2
          rw [tr e hz] at this; cases this
    · obtain ⟨t, ht, rfl⟩ := List.mem_map.1 hx
      obtain ⟨t6, ht⟩ := mem_ids.1 ht
      have hg : ∀ j, (t ||| (s ^^^ d)).testBit j = true ↔ t.testBit j = true ∨ (s.testBit j = true ∧ d.testBit j = false) := fun j => by
        rw [Nat.testBit_or, Nat.testBit_xor, Bool.or_eq_true]
        have := hd1 j
        cases e1 : s.testBit j <;> cases e2 : d.testBit j <;> simp_all
      have hp : IdP zs s (t ||| (s ^^^ d)) := by
        refine ⟨fun j hj => ?_, fun x y hy hx hz => ?_⟩
        · rcases (hg j).1 hj with e | e
          · exact ((hd1 j).1 (ht.1 j e)).1
          · exact e.1
        · refine (hg x).2 ?_
          cases e : d.testBit x
          · exact .inr ⟨hx, rfl⟩
          · refine .inl ?_
            rcases (hg y).1 hy with e2 | ⟨e2, e3⟩
            · exact ht.2 x y e2 e hz
            · exfalso
              have hx1 := (hd1 x).1 e
              rw [hd, e2, Bool.true_and] at e3
              by_cases e4 : a = y
              · subst e4; rw [hx1.2.2] at hz; cases hz
              · cases e5 : bitB (zs[y]?.getD 0) a
                · rw [e5] at e3; simp [e4] at e3
                · rw [tr hz e5] at hx1; cases hx1.2.2
      exact mem_ids.2 ⟨idP_lt hp hs, hp⟩) (fun x hx y hy e => by
    rw [List.mem_append] at hx hy
    have hg : ∀ t j, (t ||| (s ^^^ d)).testBit j = true ↔ t.testBit j = true ∨ (s.testBit j = true ∧ d.testBit j = false) := fun t j => by
      rw [Nat.testBit_or, Nat.testBit_xor, Bool.or_eq_true]
      have := hd1 j
      cases e1 : s.testBit j <;> cases e2 : d.testBit j <;> simp_all
    have hda : d.testBit a = false := by rw [hd]; simp
    rcases hx with hx | hx
    · obtain ⟨t, ht, rfl⟩ := List.mem_map.1 hx
      rcases hy with hy | hy
      · obtain ⟨t2, ht2, rfl⟩ := List.mem_map.1 hy
        exact congrArg _ e
      · exfalso
        obtain ⟨t2, ht2, rfl⟩ := List.mem_map.1 hy
        have e : t = t2 ||| (s ^^^ d) := e
        have h3 := (hg t2 a).2 (.inr ⟨hb, hda⟩)
        rw [← e] at h3
        exact ((hu1 a).1 ((mem_ids.1 ht).2.1 a h3)).2.1 rfl
    · obtain ⟨t, ht, rfl⟩ := List.mem_map.1 hx
      rcases hy with hy | hy
      · exfalso
        obtain ⟨t2, ht2, rfl⟩ := List.mem_map.1 hy
        have e : t ||| (s ^^^ d) = t2 := e
        have h3 := (hg t a).2 (.inr ⟨hb, hda⟩)
        rw [e] at h3
        exact ((hu1 a).1 ((mem_ids.1 ht2).2.1 a h3)).2.1 rfl
      · obtain ⟨t2, ht2, rfl⟩ := List.mem_map.1 hy
        have e : t ||| (s ^^^ d) = t2 ||| (s ^^^ d) := e
        refine congrArg _ (Nat.eq_of_testBit_eq fun j => ?_)
        rw [Bool.eq_iff_iff]
        have k1 := hg t j
        have k2 := hg t2 j
        rw [e] at k1
        constructor
        · intro e1
          rcases k2.1 (k1.2 (.inl e1)) with e3 | e3
          · exact e3
          · rw [(mem_ids.1 ht).2.1 j e1] at e3; cases e3.2
        · intro e1
          rcases k1.1 (k2.2 (.inl e1)) with e3 | e3
          · exact e3
          · rw [(mem_ids.1 ht2).2.1 j e1] at e3; cases e3.2)
  omega
theorem ciN_ids {zs : List Int} (h : VoP zs) : ∀ (k s : Nat), s ≤ k → s < 64 → ciN zs s = (ids zs s).length
  | 0, s, hk, _ => by
    obtain rfl : s = 0 := by omega
    rw [ciN_zero, ids_zero]
  | k + 1, s, hk, h1 => by
    by_cases h0 : s = 0
    · subst h0; rw [ciN_zero, ids_zero]
    · have hu := lessN_lt (zs[low s]?.getD 0) h0 h1
      have hd := lessN_lt ((du zs)[low s]?.getD 0) h0 h1
      rw [ciN_pos h0 h1, ciN_ids h k _ (by omega) (by omega), ciN_ids h k _ (by omega) (by omega)]
      refine (ids_split h h1 (low_fin ⟨s, h1⟩ h0).2 (fun j => lessN_bit s _ j) (fun j => ?_)).symm
      rw [lessN_bit, du_bit h.sets]
/-- All ideals of an order are as many as the program and the model count. -/
theorem ideals_ci {zs : List Int} (h : VoP zs) : (idealsR zs).length = ciN zs (2 ^ zs.length - 1) := by
  have h64 : (2 : Nat) ^ zs.length ≤ 64 := Nat.pow_le_pow_right (n := 2) (by decide) h.1
  rw [ciN_ids h 64 _ (by omega) (by omega)]
  have hm : ∀ t : Nat, t ∈ ids zs (2 ^ zs.length - 1) ↔ (t : Int) ∈ idealsR zs := fun t => by
    rw [mem_ids]
    unfold idealsR
    rw [vo_true h, if_pos rfl, setsTo_mem]
    constructor
    · rintro ⟨-, h1, h2⟩
      have hlt : t < 2 ^ zs.length := Nat.lt_pow_two_of_testBit _ fun i hi => by
        cases e : t.testBit i
        · rfl
        · have := h1 i e
          rw [Nat.testBit_two_pow_sub_one, decide_eq_true_eq] at this; omega
      refine ⟨t, hlt, (idB_iff h.sets (by omega) (by rw [pow_cast]; omega)).2 fun a b hb hz => ?_, rfl⟩
      rw [bit_cast] at hb ⊢
      exact h2 a b hb (by rw [Nat.testBit_two_pow_sub_one, decide_eq_true_eq]; exact bit_none hz) hz
    · rintro ⟨j, hj, hi, e⟩
      obtain rfl : j = t := by omega
      refine ⟨by omega, fun i hi2 => ?_, fun a b hb _ hz => ?_⟩
      · rw [Nat.testBit_two_pow_sub_one, decide_eq_true_eq]; exact bit_lt hj hi2
      · have := (idB_iff h.sets (by omega) (by rw [pow_cast]; omega)).1 hi a b (by rw [bit_cast]; exact hb) hz
        rwa [bit_cast] at this
  have hnd : (idealsR zs).Nodup := by
    unfold idealsR
    split
    · exact setsTo_nodup _ _
    · exact List.nodup_nil
  have h1 := inj_len (fun t : Nat => (t : Int)) (ids zs (2 ^ zs.length - 1)) (idealsR zs) (ids_nodup _ _) (fun t ht => (hm t).1 ht) (fun _ _ _ _ e => by omega)
  have h2 := inj_len (fun t : Int => t.toNat) (idealsR zs) (ids zs (2 ^ zs.length - 1)) hnd (fun t ht => by
    refine (hm t.toNat).2 ?_
    have h0 : 0 ≤ t := by
      unfold idealsR at ht
      rw [vo_true h, if_pos rfl, setsTo_mem] at ht
      obtain ⟨j, -, -, e⟩ := ht; omega
    rwa [Int.toNat_of_nonneg h0]) (fun x hx y hy e => by
    unfold idealsR at hx hy
    rw [vo_true h, if_pos rfl, setsTo_mem] at hx hy
    obtain ⟨j, -, -, e1⟩ := hx
    obtain ⟨j2, -, -, e2⟩ := hy
    omega)
  omega
end Go.Proofs.YtfahccbbccncnaaDoor

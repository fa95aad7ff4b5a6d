/- Texts that several claims share, one behind the other. -/
import Derived.Test.YtiicffibhjeabaaDoorJb
import Derived.Test.YtiicffibhjeabaaDoorJa
import Derived.ChangeKeysEq
import Derived.Deep.RegionHeld3
import Derived.Maps.OwnIn
import Derived.StillTailTactics
/- Joins: what their own laws ask. No program. -/
namespace Go.Proofs.YtiicffibhjeabaaDoor

theorem up_swap (zs : List Int) (a b : Nat) : upR zs a b = upR zs b a := by
  unfold upR andI
  rw [Nat.and_comm]
theorem join_swap (zs : List Int) (a b : Nat) : joinI zs a b = joinI zs b a := by unfold joinI; rw [up_swap]
theorem join_bits {zs : List Int} {a b c : Nat} (h : joinI zs a b = c) : c < zs.length ∧ bitB (atUp zs a) c = true ∧ bitB (atUp zs b) c = true := by
  rcases jnI_cases (zs := zs) (s := upR zs a b) with ⟨e, _⟩ | ⟨d, e, hd, hb⟩
  · exfalso
    have : joinI zs a b = -1 := e
    omega
  · have : joinI zs a b = (d : Int) := e
    obtain rfl : d = c := by omega
    unfold jnB at hb
    rw [Bool.and_eq_true] at hb
    have h1 := hb.1
    unfold upR at h1
    rw [bitB_and, Bool.and_eq_true] at h1
    exact ⟨hd, h1⟩
theorem at_or {zs : List Int} {a c : Nat} (h : bitB (atUp zs a) c = true) (hne : c ≠ a) : bitB (zs[a]?.getD 0) c = true := by
  rw [atUp_bit, Bool.or_eq_true, decide_eq_true_eq] at h
  rcases h with h | h
  · exact h
  · exact absurd h.symm hne
/-- Where there is one, all stand in range. -/
theorem join_parts {zs ds : List Int} {a b J : Int} (hJ : (if vo zs && (isIt zs a && isIt zs b) then joinI ds a.toNat b.toNat else -1) = J) (h0 : 0 ≤ J) :
    VoP zs ∧ ∃ x y c : Nat, a = x ∧ b = y ∧ J = c ∧ x < zs.length ∧ y < zs.length ∧ joinI ds x y = c := by
  cases e : (vo zs && (isIt zs a && isIt zs b))
  · rw [e] at hJ
    simp only [Bool.false_eq_true, if_false] at hJ
    omega
  · rw [e, if_pos rfl] at hJ
    rw [Bool.and_eq_true, Bool.and_eq_true] at e
    obtain ⟨hv, ha, hb⟩ := e
    unfold isIt inB at ha hb
    rw [decide_eq_true_eq] at ha hb
    refine ⟨by simpa [vo] using hv, a.toNat, b.toNat, J.toNat, by omega, by omega, by omega, by omega, by omega, by omega⟩
theorem isIt_cast {zs : List Int} {x : Nat} (h : x < zs.length) : isIt zs (x : Int) = true := by unfold isIt inB; rw [decide_eq_true_eq]; omega
theorem joinR_cast {zs : List Int} (h : VoP zs) {x y : Nat} (hx : x < zs.length) (hy : y < zs.length) : joinR zs x y = joinI zs x y := by
  unfold joinR; rw [vo_true h, isIt_cast hx, isIt_cast hy]; rfl
theorem meetR_cast {zs : List Int} (h : VoP zs) {x y : Nat} (hx : x < zs.length) (hy : y < zs.length) : meetR zs x y = joinI (du zs) x y := by
  unfold meetR; rw [vo_true h, isIt_cast hx, isIt_cast hy]; rfl
end Go.Proofs.YtiicffibhjeabaaDoor

/- Cuts: ideals, closed under meeting, ascending, as many as those of the order turned round, at least as many as items. No program. -/
namespace Go.Proofs.YtiicffibhjeabaaDoor

theorem inj_len {α β : Type} [DecidableEq β] (f : α → β) : ∀ (l : List α) (m : List β), l.Nodup → (∀ x ∈ l, f x ∈ m) → (∀ x ∈ l, ∀ y ∈ l, f x = f y → x = y) → l.length ≤ m.length
  | [], _, _, _, _ => Nat.zero_le _
  | a :: t, m, hn, hm, hi => by
    have ha := hm a (by simp)
    rw [List.nodup_cons] at hn
    have := inj_len f t (m.erase (f a)) hn.2 (fun x hx => by
      refine (List.mem_erase_of_ne fun e => ?_).2 (hm x (by simp [hx]))
      have := hi x (by simp [hx]) a (by simp) e
      subst this
      exact hn.1 hx) (fun x hx y hy => hi x (by simp [hx]) y (by simp [hy]))
    rw [List.length_erase_of_mem ha] at this
    have := List.length_pos_of_mem ha
    simp only [List.length_cons]
    omega
theorem setsTo_mem {p : Int → Bool} {k : Nat} {x : Int} : x ∈ setsTo p k ↔ ∃ j : Nat, j < k ∧ p (j : Int) = true ∧ (j : Int) = x := by
  simp [setsTo, and_assoc]
theorem setsTo_asc (p : Int → Bool) (k : Nat) : (setsTo p k).Pairwise (· < ·) := by
  unfold setsTo
  rw [List.pairwise_map]
  refine (List.pairwise_lt_range.filter _).imp fun h => by omega
theorem setsTo_nodup (p : Int → Bool) (k : Nat) : (setsTo p k).Nodup := (setsTo_asc p k).imp fun h => by omega
theorem setsTo_at {p : Int → Bool} {k i : Nat} (hi : i < (setsTo p k).length) : ∃ j : Nat, j < k ∧ p (j : Int) = true ∧ (setsTo p k)[i]?.getD 0 = (j : Int) := by
  obtain ⟨j, h1, h2, h3⟩ := setsTo_mem.1 (List.getElem_mem hi)
  exact ⟨j, h1, h2, by rw [List.getElem?_eq_getElem hi]; exact h3.symm⟩
theorem setsTo_less {p : Int → Bool} {k i : Nat} (h0 : 0 < i) (hi : i < (setsTo p k).length) : (setsTo p k)[i - 1]?.getD 0 < (setsTo p k)[i]?.getD 0 := by
  rw [List.getElem?_eq_getElem hi, List.getElem?_eq_getElem (by omega)]
  exact List.pairwise_iff_getElem.1 (setsTo_asc p k) (i - 1) i (by omega) hi (by omega)
/-- At or above. -/
theorem at_du {zs : List Int} (h : Sets zs) (a b : Nat) : bitB (atUp (du zs) a) b = bitB (atUp zs b) a := by
  rw [atUp_bit, atUp_bit, du_bit h]
  congr 1
  exact decide_eq_decide.2 ⟨Eq.symm, Eq.symm⟩
theorem at_self (zs : List Int) (a : Nat) : bitB (atUp zs a) a = true := by rw [atUp_bit]; simp
theorem at_trans {zs : List Int} (h : VoP zs) {a b c : Nat} (h1 : bitB (atUp zs a) b = true) (h2 : bitB (atUp zs b) c = true) : bitB (atUp zs a) c = true := by
  rw [atUp_bit, Bool.or_eq_true, decide_eq_true_eq] at h1 h2
  rcases h1 with h1 | rfl
  · rcases h2 with h2 | rfl
    · rw [atUp_bit, (h.trans ⟨bit_none h1, h1⟩ ⟨bit_none h2, h2⟩).2]; rfl
    · rw [atUp_bit, h1]; rfl
  · rw [atUp_bit, Bool.or_eq_true, decide_eq_true_eq]; exact h2
theorem at_asym {zs : List Int} (h : VoP zs) {a b : Nat} (h1 : bitB (atUp zs a) b = true) (h2 : bitB (atUp zs b) a = true) : a = b := by
  rw [atUp_bit, Bool.or_eq_true, decide_eq_true_eq] at h1 h2
  rcases h1 with h1 | h1
  · rcases h2 with h2 | h2
    · rw [h.asym (bit_none h1) h1] at h2; cases h2
    · exact h2.symm
  · exact h1
/-- The cut of a set: what is at or below all that is at or above all of it. -/
theorem cut_bit {zs : List Int} (h : Sets zs) (s : Int) (i : Nat) : bitB (cutI zs s) i = true ↔ i < zs.length ∧ ∀ j : Nat, j < zs.length → (∀ a : Nat, a < zs.length → bitB s a = true → bitB (atUp zs a) j = true) → bitB (atUp zs i) j = true := by
  unfold cutI
  rw [comTo_bit, du_len]
  refine and_congr_right fun _ => ⟨fun g j hj ha => ?_, fun g j hj hb => ?_⟩
  · rw [← at_du h]; exact g j hj ((comTo_bit _ _ _ _).2 ⟨hj, ha⟩)
  · rw [at_du h]; exact g j hj ((comTo_bit _ _ _ _).1 hb).2
theorem cut_bd (zs : List Int) (s : Int) : 0 ≤ cutI zs s ∧ cutI zs s < powI zs.length := by
  have := comTo_bd (du zs) (comTo zs s zs.length) zs.length
  rwa [du_len] at this
theorem cut_in {zs : List Int} (h : Sets zs) {s : Int} (h1 : s < powI zs.length) {i : Nat} (hb : bitB s i = true) : bitB (cutI zs s) i = true :=
  (cut_bit h s i).2 ⟨bitB_lt h1 hb, fun _ _ ha => ha i (bitB_lt h1 hb) hb⟩
theorem cut_mono {zs : List Int} (h : Sets zs) {s t : Int} (hst : ∀ i : Nat, bitB s i = true → bitB t i = true) {i : Nat} (hb : bitB (cutI zs s) i = true) : bitB (cutI zs t) i = true := by
  rw [cut_bit h] at hb ⊢
  exact ⟨hb.1, fun j hj ha => hb.2 j hj fun a ha1 hs => ha a ha1 (hst a hs)⟩
theorem cutB_iff {zs : List Int} (h : Sets zs) {s : Int} (h0 : 0 ≤ s) (h1 : s < powI zs.length) : cutB zs s = true ↔ ∀ i : Nat, bitB (cutI zs s) i = true → bitB s i = true := by
  unfold cutB
  rw [beq_iff_eq]
  refine ⟨fun e i hb => by rwa [e] at hb, fun g => bitB_ext (cut_bd zs s).1 h0 fun i => ?_⟩
  rw [Bool.eq_iff_iff]
  exact ⟨g i, cut_in h h1⟩
theorem cut_inter {zs : List Int} (h : Sets zs) {s t : Int} (s0 : 0 ≤ s) (s1 : s < powI zs.length) (_t0 : 0 ≤ t) (t1 : t < powI zs.length) (hs : cutB zs s = true) (ht : cutB zs t = true) :
    0 ≤ andI s t ∧ andI s t < powI zs.length ∧ cutB zs (andI s t) = true := by
  have h0 : 0 ≤ andI s t := by unfold andI; omega
  have hle : andI s t < powI zs.length := by
    have := andI_bd s t
    omega
  refine ⟨h0, hle, (cutB_iff h h0 hle).2 fun i hb => ?_⟩
  rw [bitB_and, Bool.and_eq_true]
  exact ⟨(cutB_iff h s0 s1).1 hs i (cut_mono h (fun j hj => by rw [bitB_and, Bool.and_eq_true] at hj; exact hj.1) hb),
    (cutB_iff h _t0 t1).1 ht i (cut_mono h (fun j hj => by rw [bitB_and, Bool.and_eq_true] at hj; exact hj.2) hb)⟩
theorem cut_ideal {zs : List Int} (h : VoP zs) {s : Int} (h0 : 0 ≤ s) (h1 : s < powI zs.length) (hs : cutB zs s = true) : idB zs s = true := by
  refine (idB_iff h.sets h0 h1).2 fun a b hb hz => (cutB_iff h.sets h0 h1).1 hs a ?_
  have hc := cut_in h.sets h1 hb
  rw [cut_bit h.sets] at hc ⊢
  refine ⟨bit_none hz, fun j hj ha => at_trans h (b := b) ?_ (hc.2 j hj ha)⟩
  rw [atUp_bit, hz]; rfl
theorem cut_all {zs : List Int} (h : Sets zs) : cutB zs (powI zs.length - 1) = true := by
  have hp := powI_pos (zs.length : Int)
  refine (cutB_iff h (by omega) (by omega)).2 fun i hb => ?_
  rw [all_bits', decide_eq_true_eq]
  exact ((cut_bit h _ i).1 hb).1
/-- What is at or below an item is a cut. -/
theorem cut_one {zs : List Int} (h : VoP zs) {a : Nat} (ha : a < zs.length) : 0 ≤ atUp (du zs) a ∧ atUp (du zs) a < powI zs.length ∧ cutB zs (atUp (du zs) a) = true := by
  have hb := atUp_bd (du_sets h.sets) (a := a) (by rw [du_len]; exact ha)
  rw [du_len] at hb
  refine ⟨hb.1, hb.2, (cutB_iff h.sets hb.1 hb.2).2 fun i hi => ?_⟩
  rw [at_du h.sets]
  refine ((cut_bit h.sets _ i).1 hi).2 a ha fun c _ hc => ?_
  rwa [at_du h.sets] at hc
theorem pow_cast (n : Nat) : powI (n : Int) = ((2 ^ n : Nat) : Int) := by simp [powI]
theorem mem_cuts {zs : List Int} (h : VoP zs) {x : Int} : x ∈ cutsR zs ↔ 0 ≤ x ∧ x < powI zs.length ∧ cutB zs x = true := by
  unfold cutsR
  rw [vo_true h, if_pos rfl, setsTo_mem, pow_cast]
  refine ⟨?_, fun ⟨h0, h1, h2⟩ => ⟨x.toNat, by omega, by rwa [Int.toNat_of_nonneg h0], Int.toNat_of_nonneg h0⟩⟩
  rintro ⟨j, h1, h2, rfl⟩
  exact ⟨by omega, by omega, h2⟩
theorem cuts_nodup (zs : List Int) : (cutsR zs).Nodup := by
  unfold cutsR
  split
  · exact setsTo_nodup _ _
  · exact List.nodup_nil
theorem cuts_many {zs : List Int} (h : VoP zs) : zs.length ≤ (cutsR zs).length := by
  have := inj_len (fun a : Nat => atUp (du zs) a) (List.range zs.length) (cutsR zs) List.nodup_range (fun a ha => (mem_cuts h).2 (cut_one h (by simpa using ha)))
    (fun a _ b _ e => at_asym h (by rw [← at_du h.sets, ← (show atUp (du zs) a = atUp (du zs) b from e)]; exact at_self _ _) (by rw [← at_du h.sets, (show atUp (du zs) a = atUp (du zs) b from e)]; exact at_self _ _))
  simpa using this
theorem cuts_du_le {zs : List Int} (h : VoP zs) : (cutsR zs).length ≤ (cutsR (du zs)).length := by
  refine inj_len (fun s => comTo zs s zs.length) _ _ (cuts_nodup zs) (fun s hs => ?_) (fun s hs t ht e => ?_)
  · obtain ⟨h0, h1, h2⟩ := (mem_cuts h).1 hs
    have hb := comTo_bd zs s zs.length
    refine (mem_cuts (du_vo h)).2 ⟨hb.1, by rw [du_len]; exact hb.2, ?_⟩
    unfold cutB at h2 ⊢
    rw [beq_iff_eq] at h2 ⊢
    unfold cutI at h2 ⊢
    rw [du_len, du_du h, h2]
  · have h2 := ((mem_cuts h).1 hs).2.2
    have h3 := ((mem_cuts h).1 ht).2.2
    unfold cutB at h2 h3
    rw [beq_iff_eq] at h2 h3
    rw [← h2, ← h3]
    unfold cutI
    rw [show comTo zs s zs.length = comTo zs t zs.length from e]
theorem cuts_du {zs : List Int} (h : VoP zs) : (cutsR (du zs)).length = (cutsR zs).length := by
  have h1 := cuts_du_le h
  have h2 := cuts_du_le (du_vo h)
  rw [du_du h] at h2
  omega
theorem cuts_last {zs : List Int} (h : VoP zs) {m : Nat} (hm : (cutsR zs).length = m + 1) : (cutsR zs)[m]?.getD 0 = powI zs.length - 1 := by
  have hp := powI_pos (zs.length : Int)
  have hin := (mem_cuts h).2 ⟨by omega, by omega, cut_all h.sets⟩
  obtain ⟨i, hi, e⟩ := List.getElem_of_mem hin
  have hl := (mem_cuts h).1 (List.getElem_mem (l := cutsR zs) (n := m) (by omega))
  rw [List.getElem?_eq_getElem (by omega), Option.getD_some]
  by_cases him : i = m
  · subst him; exact e
  · have hp : (cutsR zs).Pairwise (· < ·) := by
      unfold cutsR
      split
      · exact setsTo_asc _ _
      · exact List.Pairwise.nil
    have := List.pairwise_iff_getElem.1 hp i m hi (by omega) (by omega)
    omega
theorem cuts_pos {zs : List Int} (h : VoP zs) : 0 < (cutsR zs).length := by
  have hp := powI_pos (zs.length : Int)
  exact List.length_pos_of_mem ((mem_cuts h).2 ⟨by omega, by omega, cut_all h.sets⟩)
/-- What the cuts' own law asks of each. -/
theorem cuts_each {zs : List Int} (h : VoP zs) {i j : Nat} (hi : i < (cutsR zs).length) (hj : j < (cutsR zs).length) :
    isIdealR zs ((cutsR zs)[i]?.getD 0) = true ∧ andI ((cutsR zs)[i]?.getD 0) ((cutsR zs)[j]?.getD 0) ∈ cutsR zs := by
  rw [List.getElem?_eq_getElem hi, List.getElem?_eq_getElem hj, Option.getD_some, Option.getD_some]
  obtain ⟨a0, a1, a2⟩ := (mem_cuts h).1 (List.getElem_mem hi)
  obtain ⟨b0, b1, b2⟩ := (mem_cuts h).1 (List.getElem_mem hj)
  exact ⟨by rw [isIdealR_in h a0 a1]; exact cut_ideal h a0 a1 a2, (mem_cuts h).2 (cut_inter h.sets a0 a1 b0 b1 a2 b2)⟩
theorem cuts_asc (zs : List Int) {i : Nat} (h0 : 0 < i) (hi : i < (cutsR zs).length) : (cutsR zs)[i - 1]?.getD 0 < (cutsR zs)[i]?.getD 0 := by
  have hp : (cutsR zs).Pairwise (· < ·) := by
    unfold cutsR
    split
    · exact setsTo_asc _ _
    · exact List.Pairwise.nil
  rw [List.getElem?_eq_getElem hi, List.getElem?_eq_getElem (by omega)]
  exact List.pairwise_iff_getElem.1 hp (i - 1) i (by omega) hi (by omega)
end Go.Proofs.YtiicffibhjeabaaDoor

/- Ideals, counted by the lowest item of what is left, as plain mathematics. No program. -/
namespace Go.Proofs.YtiicffibhjeabaaDoor

/-- The lowest item of a set. -/
def low (s : Nat) : Nat := ((List.range 6).find? fun a => s.testBit a).getD 0
theorem low_fin : ∀ s : Fin 64, s.val ≠ 0 → low s.val < 6 ∧ s.val.testBit (low s.val) = true := by decide +kernel
/-- What is left without the lowest item, and without those that z has. -/
def lessN (s : Nat) (z : Int) : Nat := (lessI (lessI (s : Int) (powI (low s : Int))) z).toNat
theorem rest_fin : ∀ s : Fin 64, s.val ≠ 0 → lessI (s.val : Int) (powI (low s.val : Int)) = ((s.val - 2 ^ low s.val : Nat) : Int) ∧ 2 ^ low s.val ≤ s.val := by decide +kernel
theorem lessN_lt {s : Nat} (z : Int) (h0 : s ≠ 0) (h1 : s < 64) : lessN s z < s := by
  have h2 := rest_fin ⟨s, h1⟩ h0
  simp only at h2
  have h3 := lessI_bd (lessI (s : Int) (powI (low s : Int))) z
  have h4 := Nat.two_pow_pos (low s)
  unfold lessN
  rw [h2.1] at h3 ⊢
  omega
def ciN (zs : List Int) (s : Nat) : Nat := if _h : s = 0 ∨ 64 ≤ s then 1 else ciN zs (lessN s (zs[low s]?.getD 0)) + ciN zs (lessN s ((du zs)[low s]?.getD 0))
termination_by s
decreasing_by
  · exact lessN_lt _ (by omega) (by omega)
  · exact lessN_lt _ (by omega) (by omega)
theorem ciN_zero (zs : List Int) : ciN zs 0 = 1 := by rw [ciN]; rfl
theorem ciN_pos {zs : List Int} {s : Nat} (h0 : s ≠ 0) (h1 : s < 64) : ciN zs s = ciN zs (lessN s (zs[low s]?.getD 0)) + ciN zs (lessN s ((du zs)[low s]?.getD 0)) := by
  rw [ciN, dif_neg (by omega)]
/-- How many items: as a number that is none less than 0. -/
def pcN (s : Nat) : Nat := (popI (s : Int)).toNat
theorem pc_sub_fin : ∀ r : Fin 64, ∀ u : Fin 64, u.val &&& r.val = u.val → pcN u.val ≤ pcN r.val := by decide +kernel
theorem pc_rest_fin : ∀ s : Fin 64, s.val ≠ 0 → pcN (s.val - 2 ^ low s.val) + 1 = pcN s.val := by decide +kernel
theorem pc_le_fin : ∀ s : Fin 64, pcN s.val ≤ 6 := by decide +kernel
theorem lessN_in {s : Nat} (z : Int) (h0 : s ≠ 0) (h1 : s < 64) : pcN (lessN s z) + 1 ≤ pcN s := by
  have h2 := rest_fin ⟨s, h1⟩ h0
  have h3 := pc_rest_fin ⟨s, h1⟩ h0
  simp only at h2 h3
  have hlt := lessN_lt z h0 h1
  have hpw := Nat.two_pow_pos (low s)
  have h4 : lessN s z &&& (s - 2 ^ low s) = lessN s z := by
    refine Nat.eq_of_testBit_eq fun j => ?_
    rw [Nat.testBit_and]
    have hb := bitB_less (lessI (s : Int) (powI (low s : Int))) z (j : Int)
    rw [h2.1] at hb
    have e : ∀ (x : Int), 0 ≤ x → bitB x (j : Int) = x.toNat.testBit j := fun x hx => by simp [bitB]
    have hnn := lessI_bd ((s - 2 ^ low s : Nat) : Int) z
    unfold lessN
    rw [h2.1]
    rw [e _ hnn.1, e _ (Int.natCast_nonneg _), Int.toNat_natCast] at hb
    rw [hb]
    cases (s - 2 ^ low s).testBit j <;> simp
  have h5 := pc_sub_fin ⟨s - 2 ^ low s, by omega⟩ ⟨lessN s z, by omega⟩ h4
  simp only at h5
  omega
theorem ciN_le (zs : List Int) : ∀ (k s : Nat), s ≤ k → s < 64 → ciN zs s ≤ 2 ^ pcN s
  | 0, s, hk, _ => by
    obtain rfl : s = 0 := by omega
    rw [ciN_zero]; exact Nat.two_pow_pos _
  | k + 1, s, hk, h1 => by
    by_cases h0 : s = 0
    · subst h0; rw [ciN_zero]; exact Nat.two_pow_pos _
    · rw [ciN_pos h0 h1]
      have a1 := lessN_lt (zs[low s]?.getD 0) h0 h1
      have a2 := lessN_lt ((du zs)[low s]?.getD 0) h0 h1
      have b1 := ciN_le zs k _ (show lessN s (zs[low s]?.getD 0) ≤ k by omega) (by omega)
      have b2 := ciN_le zs k _ (show lessN s ((du zs)[low s]?.getD 0) ≤ k by omega) (by omega)
      have c1 := lessN_in (zs[low s]?.getD 0) h0 h1
      have c2 := lessN_in ((du zs)[low s]?.getD 0) h0 h1
      have d1 : 2 ^ pcN (lessN s (zs[low s]?.getD 0)) ≤ 2 ^ (pcN s - 1) := Nat.pow_le_pow_right (by decide) (by omega)
      have d2 : 2 ^ pcN (lessN s ((du zs)[low s]?.getD 0)) ≤ 2 ^ (pcN s - 1) := Nat.pow_le_pow_right (by decide) (by omega)
      have d3 : 2 ^ pcN s = 2 * 2 ^ (pcN s - 1) := by rw [← Nat.pow_succ']; congr 1; omega
      omega
theorem ciN_64 (zs : List Int) {s : Nat} (h : s < 64) : ciN zs s ≤ 64 := by
  have h1 := ciN_le zs s s (Nat.le_refl _) h
  have h2 := pc_le_fin ⟨s, h⟩
  have h3 : (2 : Nat) ^ pcN s ≤ 2 ^ 6 := Nat.pow_le_pow_right (by decide) h2
  omega
def countIdealsR (zs : List Int) : Int := if vo zs then (ciN zs (2 ^ zs.length - 1) : Int) else -1
/-- As the program reckons it: without the item all that is below it or it. -/
theorem less_bel {zs : List Int} (h : VoP zs) {s : Nat} (h0 : s ≠ 0) (h1 : s < 2 ^ zs.length) :
    lessI (lessI (s : Int) (powI (low s : Int))) (belI zs (powI (low s : Int))) = lessI (lessI (s : Int) (powI (low s : Int))) ((du zs)[low s]?.getD 0) := by
  have h6 := h.1
  have h64 : s < 64 := Nat.lt_of_lt_of_le h1 (Nat.pow_le_pow_right (n := 2) (by decide) h6)
  obtain ⟨hl, hb⟩ := low_fin ⟨s, h64⟩ h0
  simp only at hl hb
  have hln : low s < zs.length := by
    rcases Nat.lt_or_ge (low s) zs.length with e | e
    · exact e
    · rw [Nat.testBit_lt_two_pow (Nat.lt_of_lt_of_le h1 (Nat.pow_le_pow_right (by decide) e))] at hb; cases hb
  refine bitB_ext (lessI_bd _ _).1 (lessI_bd _ _).1 fun j => ?_
  simp only [bitB_less, bitB_pow]
  by_cases hj : low s = j
  · simp [hj]
  · have e : bitB (belI zs (powI (low s : Int))) j = bitB ((du zs)[low s]?.getD 0) j := by
      rw [Bool.eq_iff_iff, belI_bit h.sets (powI_lt hln), du_bit h.sets]
      constructor
      · rintro (e | ⟨b, hb2, hz⟩)
        · rw [bitB_pow] at e; exact absurd (of_decide_eq_true e) hj
        · rw [bitB_pow] at hb2
          have := of_decide_eq_true hb2
          subst this; exact hz
      · intro e
        exact .inr ⟨low s, by rw [bitB_pow]; simp, e⟩
    rw [e]
end Go.Proofs.YtiicffibhjeabaaDoor

/- Ideals within a set are as many as ciN tells. No program. -/
namespace Go.Proofs.YtiicffibhjeabaaDoor

theorem bit_nat {x : Int} (_hx : 0 ≤ x) (j : Nat) : bitB x (j : Int) = x.toNat.testBit j := by simp [bitB]
theorem lessN_bit (s : Nat) (z : Int) (j : Nat) : (lessN s z).testBit j = ((s.testBit j && !decide (low s = j)) && !bitB z j) := by
  unfold lessN
  rw [← bit_nat (lessI_bd _ _).1, bitB_less, bitB_less, bitB_pow, bit_cast]
/-- An ideal within a set. -/
def IdP (zs : List Int) (s t : Nat) : Prop := (∀ j, t.testBit j = true → s.testBit j = true) ∧ ∀ a b : Nat, t.testBit b = true → s.testBit a = true → bitB (zs[a]?.getD 0) b = true → t.testBit a = true
open Classical in
noncomputable def ids (zs : List Int) (s : Nat) : List Nat := (List.range 64).filter fun t => decide (IdP zs s t)
theorem mem_ids {zs : List Int} {s t : Nat} : t ∈ ids zs s ↔ t < 64 ∧ IdP zs s t := by simp [ids]
theorem ids_nodup (zs : List Int) (s : Nat) : (ids zs s).Nodup := List.nodup_range.filter _
theorem idP_lt {zs : List Int} {s t : Nat} (h : IdP zs s t) (hs : s < 64) : t < 64 := Nat.lt_pow_two_of_testBit (n := 6) _ fun i hi => by
  cases e : t.testBit i
  · rfl
  · have := bit_lt (n := 6) hs (h.1 i e); omega
theorem ids_zero (zs : List Int) : (ids zs 0).length = 1 := by
  have h1 := inj_len (fun t : Nat => t) (ids zs 0) [0] (ids_nodup _ _) (fun t ht => by
    have := (mem_ids.1 ht).2.1
    have : t = 0 := Nat.eq_of_testBit_eq fun j => by
      cases e : t.testBit j
      · simp
      · have := this j e; simp at this
    simp [this]) (fun _ _ _ _ e => e)
  have h2 := inj_len (fun t : Nat => t) [0] (ids zs 0) (by simp) (fun t ht => by
    obtain rfl : t = 0 := by simpa using ht
    exact mem_ids.2 ⟨by omega, fun j hj => hj, fun a b hb => by simp at hb⟩) (fun _ _ _ _ e => e)
  simp at h1 h2
  omega
theorem ids_split {zs : List Int} (h : VoP zs) {s a u d : Nat} (hs : s < 64) (hb : s.testBit a = true)
    (hu : ∀ j, u.testBit j = ((s.testBit j && !decide (a = j)) && !bitB (zs[a]?.getD 0) j)) (hd : ∀ j, d.testBit j = ((s.testBit j && !decide (a = j)) && !bitB (zs[j]?.getD 0) a)) :
    (ids zs s).length = (ids zs u).length + (ids zs d).length := by
  have hu1 : ∀ j, u.testBit j = true ↔ s.testBit j = true ∧ a ≠ j ∧ bitB (zs[a]?.getD 0) j = false := fun j => by rw [hu]; simp [and_assoc]
  have hd1 : ∀ j, d.testBit j = true ↔ s.testBit j = true ∧ a ≠ j ∧ bitB (zs[j]?.getD 0) a = false := fun j => by rw [hd]; simp [and_assoc]
  have hlen : ((ids zs u).map (Sum.inl (β := Nat)) ++ (ids zs d).map (Sum.inr (α := Nat))).length = (ids zs u).length + (ids zs d).length := by simp
  have tr : ∀ {x y z : Nat}, bitB (zs[x]?.getD 0) y = true → bitB (zs[y]?.getD 0) z = true → bitB (zs[x]?.getD 0) z = true := fun h1 h2 => (h.trans ⟨bit_none h1, h1⟩ ⟨bit_none h2, h2⟩).2
  have hin : ∀ t, IdP zs s t → t.testBit a = true → ∀ j, t.testBit j = true ↔ ((t &&& d).testBit j = true ∨ (s.testBit j = true ∧ d.testBit j = false)) := fun t ht ha j => by
    rw [Nat.testBit_and, Bool.and_eq_true]
    constructor
    · intro e
      cases e2 : d.testBit j
      · exact .inr ⟨ht.1 j e, rfl⟩
      · exact .inl ⟨e, rfl⟩
    · rintro (e | ⟨e1, e2⟩)
      · exact e.1
      · rw [hd, e1, Bool.true_and] at e2
        by_cases e3 : a = j
        · subst e3; exact ha
        · cases e4 : bitB (zs[j]?.getD 0) a
          · rw [e4] at e2; simp [e3] at e2
          · exact ht.2 j a ha e1 e4
  have h1 := inj_len (fun t : Nat => if t.testBit a then (Sum.inr (t &&& d) : Nat ⊕ Nat) else Sum.inl t) (ids zs s) ((ids zs u).map (Sum.inl (β := Nat)) ++ (ids zs d).map (Sum.inr (α := Nat))) (ids_nodup _ _) (fun t ht => by
    obtain ⟨t6, ht⟩ := mem_ids.1 ht
    rw [List.mem_append]
    cases e : t.testBit a
    · refine .inl ?_
      simp only [Bool.false_eq_true, if_false]
      refine List.mem_map_of_mem (mem_ids.2 ⟨t6, fun j hj => (hu1 j).2 ⟨ht.1 j hj, fun e2 => (by subst e2; rw [e] at hj; cases hj), ?_⟩, fun x y hy hx hz => ht.2 x y hy ((hu1 x).1 hx).1 hz⟩)
      cases e2 : bitB (zs[a]?.getD 0) j
      · rfl
      · rw [ht.2 a j hj hb e2] at e; cases e
    · refine .inr ?_
      simp only [if_true]
      refine List.mem_map_of_mem (mem_ids.2 ⟨Nat.lt_of_le_of_lt Nat.and_le_left t6, fun j hj => ?_, fun x y hy hx hz => ?_⟩)
      · rw [Nat.testBit_and, Bool.and_eq_true] at hj; exact hj.2
      · rw [Nat.testBit_and, Bool.and_eq_true] at hy ⊢
        exact ⟨ht.2 x y hy.1 ((hd1 x).1 hx).1 hz, hx⟩) (fun t ht t2 ht2 e => by
    obtain ⟨-, ht⟩ := mem_ids.1 ht
    obtain ⟨-, ht2⟩ := mem_ids.1 ht2
    cases e1 : t.testBit a <;> cases e2 : t2.testBit a <;> simp [e1, e2] at e
    · exact e
    · refine Nat.eq_of_testBit_eq fun j => ?_
      rw [Bool.eq_iff_iff, hin t ht e1 j, hin t2 ht2 e2 j, e])
  have h2 := inj_len (fun x : Nat ⊕ Nat => match x with | .inl t => t | .inr t => t ||| (s ^^^ d)) ((ids zs u).map (Sum.inl (β := Nat)) ++ (ids zs d).map (Sum.inr (α := Nat))) (ids zs s) (by
      rw [List.nodup_append]
      refine ⟨?_, ?_, ?_⟩
      · exact List.Pairwise.map _ (fun x y hxy e => hxy (Sum.inl.inj e)) (ids_nodup zs u)
      · exact List.Pairwise.map _ (fun x y hxy e => hxy (Sum.inr.inj e)) (ids_nodup zs d)
      · intro x hx y hy e
        obtain ⟨t, -, rfl⟩ := List.mem_map.1 hx
        obtain ⟨t2, -, rfl⟩ := List.mem_map.1 hy
        cases e) (fun x hx => by
    rw [List.mem_append] at hx
    rcases hx with hx | hx
    · obtain ⟨t, ht, rfl⟩ := List.mem_map.1 hx
      obtain ⟨t6, ht⟩ := mem_ids.1 ht
      refine mem_ids.2 ⟨t6, fun j hj => ((hu1 j).1 (ht.1 j hj)).1, fun x y hy hx hz => ht.2 x y hy ((hu1 x).2 ⟨hx, fun e => ?_, ?_⟩) hz⟩
      · subst e
        have := ((hu1 y).1 (ht.1 y hy)).2.2
        rw [hz] at this; cases this
      · cases e : bitB (zs[a]?.getD 0) x
        · rfl
        · have := ((hu1 y).1 (ht.1 y hy)).2.2
          rw [tr e hz] at this; cases this
    · obtain ⟨t, ht, rfl⟩ := List.mem_map.1 hx
      obtain ⟨t6, ht⟩ := mem_ids.1 ht
      have hg : ∀ j, (t ||| (s ^^^ d)).testBit j = true ↔ t.testBit j = true ∨ (s.testBit j = true ∧ d.testBit j = false) := fun j => by
        rw [Nat.testBit_or, Nat.testBit_xor, Bool.or_eq_true]
        have := hd1 j
        cases e1 : s.testBit j <;> cases e2 : d.testBit j <;> simp_all
      have hp : IdP zs s (t ||| (s ^^^ d)) := by
        refine ⟨fun j hj => ?_, fun x y hy hx hz => ?_⟩
        · rcases (hg j).1 hj with e | e
          · exact ((hd1 j).1 (ht.1 j e)).1
          · exact e.1
        · refine (hg x).2 ?_
          cases e : d.testBit x
          · exact .inr ⟨hx, rfl⟩
          · refine .inl ?_
            rcases (hg y).1 hy with e2 | ⟨e2, e3⟩
            · exact ht.2 x y e2 e hz
            · exfalso
              have hx1 := (hd1 x).1 e
              rw [hd, e2, Bool.true_and] at e3
              by_cases e4 : a = y
              · subst e4; rw [hx1.2.2] at hz; cases hz
              · cases e5 : bitB (zs[y]?.getD 0) a
                · rw [e5] at e3; simp [e4] at e3
                · rw [tr hz e5] at hx1; cases hx1.2.2
      exact mem_ids.2 ⟨idP_lt hp hs, hp⟩) (fun x hx y hy e => by
    rw [List.mem_append] at hx hy
    have hg : ∀ t j, (t ||| (s ^^^ d)).testBit j = true ↔ t.testBit j = true ∨ (s.testBit j = true ∧ d.testBit j = false) := fun t j => by
      rw [Nat.testBit_or, Nat.testBit_xor, Bool.or_eq_true]
      have := hd1 j
      cases e1 : s.testBit j <;> cases e2 : d.testBit j <;> simp_all
    have hda : d.testBit a = false := by rw [hd]; simp
    rcases hx with hx | hx
    · obtain ⟨t, ht, rfl⟩ := List.mem_map.1 hx
      rcases hy with hy | hy
      · obtain ⟨t2, ht2, rfl⟩ := List.mem_map.1 hy
        exact congrArg _ e
      · exfalso
        obtain ⟨t2, ht2, rfl⟩ := List.mem_map.1 hy
        have e : t = t2 ||| (s ^^^ d) := e
        have h3 := (hg t2 a).2 (.inr ⟨hb, hda⟩)
        rw [← e] at h3
        exact ((hu1 a).1 ((mem_ids.1 ht).2.1 a h3)).2.1 rfl
    · obtain ⟨t, ht, rfl⟩ := List.mem_map.1 hx
      rcases hy with hy | hy
      · exfalso
        obtain ⟨t2, ht2, rfl⟩ := List.mem_map.1 hy
        have e : t ||| (s ^^^ d) = t2 := e
        have h3 := (hg t a).2 (.inr ⟨hb, hda⟩)
        rw [e] at h3
        exact ((hu1 a).1 ((mem_ids.1 ht2).2.1 a h3)).2.1 rfl
      · obtain ⟨t2, ht2, rfl⟩ := List.mem_map.1 hy
        have e : t ||| (s ^^^ d) = t2 ||| (s ^^^ d) := e
        refine congrArg _ (Nat.eq_of_testBit_eq fun j => ?_)
        rw [Bool.eq_iff_iff]
        have k1 := hg t j
        have k2 := hg t2 j
        rw [e] at k1
        constructor
        · intro e1
          rcases k2.1 (k1.2 (.inl e1)) with e3 | e3
          · exact e3
          · rw [(mem_ids.1 ht).2.1 j e1] at e3; cases e3.2
        · intro e1
          rcases k1.1 (k2.2 (.inl e1)) with e3 | e3
          · exact e3
          · rw [(mem_ids.1 ht2).2.1 j e1] at e3; cases e3.2)
  omega
theorem ciN_ids {zs : List Int} (h : VoP zs) : ∀ (k s : Nat), s ≤ k → s < 64 → ciN zs s = (ids zs s).length
  | 0, s, hk, _ => by
    obtain rfl : s = 0 := by omega
    rw [ciN_zero, ids_zero]
  | k + 1, s, hk, h1 => by
    by_cases h0 : s = 0
    · subst h0; rw [ciN_zero, ids_zero]
    · have hu := lessN_lt (zs[low s]?.getD 0) h0 h1
      have hd := lessN_lt ((du zs)[low s]?.getD 0) h0 h1
      rw [ciN_pos h0 h1, ciN_ids h k _ (by omega) (by omega), ciN_ids h k _ (by omega) (by omega)]
      refine (ids_split h h1 (low_fin ⟨s, h1⟩ h0).2 (fun j => lessN_bit s _ j) (fun j => ?_)).symm
      rw [lessN_bit, du_bit h.sets]
/-- All ideals of an order are as many as the program and the model count. -/
theorem ideals_ci {zs : List Int} (h : VoP zs) : (idealsR zs).length = ciN zs (2 ^ zs.length - 1) := by
  have h64 : (2 : Nat) ^ zs.length ≤ 64 := Nat.pow_le_pow_right (n := 2) (by decide) h.1
  rw [ciN_ids h 64 _ (by omega) (by omega)]
  have hm : ∀ t : Nat, t ∈ ids zs (2 ^ zs.length - 1) ↔ (t : Int) ∈ idealsR zs := fun t => by
    rw [mem_ids]
    unfold idealsR
    rw [vo_true h, if_pos rfl, setsTo_mem]
    constructor
    · rintro ⟨-, h1, h2⟩
      have hlt : t < 2 ^ zs.length := Nat.lt_pow_two_of_testBit _ fun i hi => by
        cases e : t.testBit i
        · rfl
        · have := h1 i e
          rw [Nat.testBit_two_pow_sub_one, decide_eq_true_eq] at this; omega
      refine ⟨t, hlt, (idB_iff h.sets (by omega) (by rw [pow_cast]; omega)).2 fun a b hb hz => ?_, rfl⟩
      rw [bit_cast] at hb ⊢
      exact h2 a b hb (by rw [Nat.testBit_two_pow_sub_one, decide_eq_true_eq]; exact bit_none hz) hz
    · rintro ⟨j, hj, hi, e⟩
      obtain rfl : j = t := by omega
      refine ⟨by omega, fun i hi2 => ?_, fun a b hb _ hz => ?_⟩
      · rw [Nat.testBit_two_pow_sub_one, decide_eq_true_eq]; exact bit_lt hj hi2
      · have := (idB_iff h.sets (by omega) (by rw [pow_cast]; omega)).1 hi a b (by rw [bit_cast]; exact hb) hz
        rwa [bit_cast] at this
  have hnd : (idealsR zs).Nodup := by
    unfold idealsR
    split
    · exact setsTo_nodup _ _
    · exact List.nodup_nil
  have h1 := inj_len (fun t : Nat => (t : Int)) (ids zs (2 ^ zs.length - 1)) (idealsR zs) (ids_nodup _ _) (fun t ht => (hm t).1 ht) (fun _ _ _ _ e => by omega)
  have h2 := inj_len (fun t : Int => t.toNat) (idealsR zs) (ids zs (2 ^ zs.length - 1)) hnd (fun t ht => by
    refine (hm t.toNat).2 ?_
    have h0 : 0 ≤ t := by
      unfold idealsR at ht
      rw [vo_true h, if_pos rfl, setsTo_mem] at ht
      obtain ⟨j, -, -, e⟩ := ht; omega
    rwa [Int.toNat_of_nonneg h0]) (fun x hx y hy e => by
    unfold idealsR at hx hy
    rw [vo_true h, if_pos rfl, setsTo_mem] at hx hy
    obtain ⟨j, -, -, e1⟩ := hx
    obtain ⟨j2, -, -, e2⟩ := hy
    omega)
  omega
end Go.Proofs.YtiicffibhjeabaaDoor

/- Orders beside each other, and one above the other: ideals and lines of both (mathematics). No program. -/
namespace Go.Proofs.YtiicffibhjeabaaDoor
open Go.RowKit

theorem mem_idsA {zs : List Int} {n t : Nat} (hn : zs.length = n) (h : VoP zs) : t ∈ ids zs (2 ^ n - 1) ↔ t < 2 ^ n ∧ ∀ a b, lt zs a b → t.testBit b = true → t.testBit a = true := by
  have h64 : (2 : Nat) ^ n ≤ 64 := Nat.pow_le_pow_right (n := 2) (j := 6) (by decide) (hn ▸ h.1)
  rw [mem_ids]
  unfold IdP
  have hall : ∀ j, (2 ^ n - 1 : Nat).testBit j = decide (j < n) := fun j => by rw [Nat.testBit_two_pow_sub_one]
  constructor
  · rintro ⟨h1, h2, h3⟩
    refine ⟨Nat.lt_pow_two_of_testBit _ fun i hi => ?_, fun a b hl hb => ?_⟩
    · cases e : t.testBit i
      · rfl
      · have := h2 i e
        rw [hall, decide_eq_true_eq] at this
        omega
    · exact h3 a b hb (by rw [hall, ← hn]; exact decide_eq_true hl.1) hl.2
  · rintro ⟨h1, h2⟩
    refine ⟨by omega, fun j hj => ?_, fun a b hb ha hz => ?_⟩
    · rw [hall, decide_eq_true_eq]
      rcases Nat.lt_or_ge j n with e | e
      · exact e
      · rw [Nat.testBit_lt_two_pow (Nat.lt_of_lt_of_le h1 (Nat.pow_le_pow_right (by decide) e))] at hj; cases hj
    · rw [hall, decide_eq_true_eq] at ha
      exact h2 a b ⟨by rw [hn]; exact ha, hz⟩ hb
theorem nodup_pairs (f : Nat → Nat → Nat) (l2 : List Nat) (h2 : l2.Nodup) : ∀ l1 : List Nat, l1.Nodup → (∀ x ∈ l1, ∀ x' ∈ l1, ∀ y ∈ l2, ∀ y' ∈ l2, f x y = f x' y' → x = x' ∧ y = y') → (l1.flatMap fun x => l2.map (f x)).Nodup
  | [], _, _ => by simp
  | x :: l, h, hf => by
    rw [List.nodup_cons] at h
    rw [List.flatMap_cons]
    unfold List.Nodup
    rw [List.pairwise_append]
    refine ⟨List.pairwise_map.2 (List.Pairwise.imp_of_mem (fun ha hb hne e => hne (hf x (by simp) x (by simp) _ ha _ hb e).2) h2), nodup_pairs f l2 h2 l h.2 (fun a ha b hb => hf a (by simp [ha]) b (by simp [hb])), fun a ha b hb e => ?_⟩
    obtain ⟨y, hy, rfl⟩ := List.mem_map.1 ha
    obtain ⟨x', hx', hb'⟩ := List.mem_flatMap.1 hb
    obtain ⟨y', hy', rfl⟩ := List.mem_map.1 hb'
    have := (hf x (by simp) x' (by simp [hx']) y hy y' hy' e).1
    subst this
    exact h.1 hx'
theorem len_pairs (f : Nat → Nat → Nat) (l2 : List Nat) : ∀ l1 : List Nat, (l1.flatMap fun x => l2.map (f x)).length = l1.length * l2.length
  | [] => by simp
  | x :: l => by rw [List.flatMap_cons, List.length_append, List.length_map, len_pairs f l2 l, List.length_cons, Nat.add_mul, Nat.one_mul, Nat.add_comm]
theorem len_but {k : Nat} : ∀ l : List Nat, l.Nodup → k ∈ l → (l.filter (· != k)).length + 1 = l.length
  | [], _, h => by simp at h
  | x :: l, hn, h => by
    rw [List.nodup_cons] at hn
    rw [List.filter_cons]
    by_cases e : x = k
    · subst e
      have : l.filter (· != x) = l := List.filter_eq_self.2 fun y hy => by simpa using (fun e => hn.1 (e ▸ hy) : ¬ y = x)
      simp [this]
    · have hk : k ∈ l := by
        rcases List.mem_cons.1 h with e' | e'
        · exact absurd e'.symm e
        · exact e'
      have ih := len_but l hn.2 hk
      rw [if_pos (by simpa using e), List.length_cons, List.length_cons]
      omega
section
variable {zs ys : List Int} {n m : Nat} {over : Bool}
theorem both_ids (hn : zs.length = n) (hm : ys.length = m) (hv : VoP zs) (hv' : VoP ys) (h6 : n + m ≤ 6) {s : Nat} :
    s ∈ ids (bothL zs ys over) (2 ^ (n + m) - 1) ↔ s < 2 ^ (n + m) ∧ s % 2 ^ n ∈ ids zs (2 ^ n - 1) ∧ s / 2 ^ n ∈ ids ys (2 ^ m - 1) ∧ (over = true → s % 2 ^ n = 2 ^ n - 1 ∨ s / 2 ^ n = 0) := by
  have hl : (bothL zs ys over).length = n + m := by rw [bothL_len, hn, hm]
  have hp : 0 < (2 : Nat) ^ n := Nat.pow_pos (by decide)
  rw [mem_idsA hl (both_vo hn hm hv hv' h6), mem_idsA hn hv, mem_idsA hm hv']
  constructor
  · rintro ⟨hs, h⟩
    have hhi : s / 2 ^ n < 2 ^ m := by rw [Nat.div_lt_iff_lt_mul hp, ← Nat.pow_add, Nat.add_comm]; exact hs
    refine ⟨hs, ⟨Nat.mod_lt _ hp, fun a b hab hb => ?_⟩, ⟨hhi, fun a b hab hb => ?_⟩, fun ho => ?_⟩
    · rw [lo_bit, Bool.and_eq_true, decide_eq_true_eq] at hb ⊢
      have ha := hab.1
      rw [hn] at ha
      exact ⟨ha, h a b ((both_lt hn hm hv hv' h6).2 (.inl ⟨ha, hb.1, hab⟩)) hb.2⟩
    · rw [hi_bit] at hb ⊢
      exact h (n + a) (n + b) ((both_lt hn hm hv hv' h6).2 (.inr (.inl ⟨by omega, by omega, by rw [Nat.add_sub_cancel_left, Nat.add_sub_cancel_left]; exact hab⟩))) hb
    · rcases Nat.eq_zero_or_pos (s / 2 ^ n) with e' | e'
      · exact .inr e'
      · left
        obtain ⟨b, hb⟩ := Nat.exists_testBit_of_ne_zero (Nat.pos_iff_ne_zero.1 e')
        have hbm : b < m := by
          rcases Nat.lt_or_ge b m with h1 | h1
          · exact h1
          · rw [Nat.testBit_lt_two_pow (Nat.lt_of_lt_of_le hhi (Nat.pow_le_pow_right (by decide) h1))] at hb; cases hb
        rw [hi_bit] at hb
        refine Nat.eq_of_testBit_eq fun j => ?_
        rw [lo_bit, Nat.testBit_two_pow_sub_one]
        by_cases hj : j < n
        · rw [decide_eq_true hj, h j (n + b) ((both_lt hn hm hv hv' h6).2 (.inr (.inr ⟨ho, hj, by omega, by omega⟩))) hb]; rfl
        · rw [decide_eq_false hj]; rfl
  · rintro ⟨hs, ⟨_, h1⟩, ⟨hhi, h2⟩, h3⟩
    refine ⟨hs, fun a b hab hb => ?_⟩
    rcases (both_lt hn hm hv hv' h6).1 hab with ⟨a1, a2, a3⟩ | ⟨a1, a2, a3⟩ | ⟨a1, a2, a3, a4⟩
    · have := h1 a b a3 (by rw [lo_bit, hb, decide_eq_true a2]; rfl)
      rw [lo_bit, Bool.and_eq_true] at this
      exact this.2
    · have := h2 (a - n) (b - n) a3 (by rw [hi_bit, show n + (b - n) = b by omega]; exact hb)
      rw [hi_bit, show n + (a - n) = a by omega] at this
      exact this
    · rcases h3 a1 with e | e
      · have := lo_bit n s a
        rw [e, Nat.testBit_two_pow_sub_one, decide_eq_true a2, Bool.true_and] at this
        exact this.symm
      · have := hi_bit n s (b - n)
        rw [e, show n + (b - n) = b by omega, hb] at this; simp at this
theorem ciN_all {zs : List Int} (h : VoP zs) {n : Nat} (hn : zs.length = n) : ciN zs (2 ^ n - 1) = (ids zs (2 ^ n - 1)).length := by
  have h64 : (2 : Nat) ^ n ≤ 64 := Nat.pow_le_pow_right (n := 2) (j := 6) (by decide) (hn ▸ h.1)
  have hp : 0 < (2 : Nat) ^ n := Nat.pow_pos (by decide)
  exact ciN_ids h _ _ (Nat.le_refl _) (by omega)
theorem zero_ids {zs : List Int} (h : VoP zs) {n : Nat} (hn : zs.length = n) : 0 ∈ ids zs (2 ^ n - 1) := (mem_idsA hn h).2 ⟨Nat.pow_pos (by decide), fun a b _ hb => by simp at hb⟩
theorem all_ids {zs : List Int} (h : VoP zs) {n : Nat} (hn : zs.length = n) : 2 ^ n - 1 ∈ ids zs (2 ^ n - 1) := by
  have hp : 0 < (2 : Nat) ^ n := Nat.pow_pos (by decide)
  exact (mem_idsA hn h).2 ⟨by omega, fun a b hl _ => by rw [Nat.testBit_two_pow_sub_one, ← hn]; exact decide_eq_true hl.1⟩
theorem bes_ci (hn : zs.length = n) (hm : ys.length = m) (hv : VoP zs) (hv' : VoP ys) (h6 : n + m ≤ 6) : ciN (bothL zs ys false) (2 ^ (n + m) - 1) = ciN zs (2 ^ n - 1) * ciN ys (2 ^ m - 1) := by
  have hl : (bothL zs ys false).length = n + m := by rw [bothL_len, hn, hm]
  rw [ciN_all (both_vo hn hm hv hv' h6) hl, ciN_all hv hn, ciN_all hv' hm, ← len_pairs (fun x y => x + 2 ^ n * y)]
  have hp : 0 < (2 : Nat) ^ n := Nat.pow_pos (by decide)
  refine Nat.le_antisymm (inj_len (fun x => x) _ _ (ids_nodup _ _) (fun s hs => ?_) (fun _ _ _ _ e => e)) ?_
  · obtain ⟨_, h1, h2, _⟩ := (both_ids hn hm hv hv' h6).1 hs
    exact List.mem_flatMap.2 ⟨_, h1, List.mem_map.2 ⟨_, h2, by rw [Nat.mod_add_div]⟩⟩
  · refine inj_len (fun x => x) _ _ (nodup_pairs _ _ (ids_nodup _ _) _ (ids_nodup _ _) (fun x hx x' hx' y _ y' _ e => ?_)) (fun s hs => ?_) (fun _ _ _ _ e => e)
    · have h1 := ((mem_idsA hn hv).1 hx).1
      have h2 := ((mem_idsA hn hv).1 hx').1
      have e1 := put_lo (s2 := y) h1
      have e2 := put_hi (s2 := y) h1
      have e : x + 2 ^ n * y = x' + 2 ^ n * y' := e
      rw [e, put_lo h2] at e1
      rw [e, put_hi h2] at e2
      exact ⟨e1.symm, e2.symm⟩
    · obtain ⟨x, hx, hs⟩ := List.mem_flatMap.1 hs
      obtain ⟨y, hy, rfl⟩ := List.mem_map.1 hs
      have h1 := ((mem_idsA hn hv).1 hx).1
      have h2 := ((mem_idsA hm hv').1 hy).1
      exact (both_ids hn hm hv hv' h6).2 ⟨put_lt h1 h2, by rw [put_lo h1]; exact hx, by rw [put_hi h1]; exact hy, fun e => by cases e⟩
theorem stk_ci (hn : zs.length = n) (hm : ys.length = m) (hv : VoP zs) (hv' : VoP ys) (h6 : n + m ≤ 6) : ciN (bothL zs ys true) (2 ^ (n + m) - 1) + 1 = ciN zs (2 ^ n - 1) + ciN ys (2 ^ m - 1) := by
  have hl : (bothL zs ys true).length = n + m := by rw [bothL_len, hn, hm]
  have hp : 0 < (2 : Nat) ^ n := Nat.pow_pos (by decide)
  have hb := len_but (k := 0) (ids ys (2 ^ m - 1)) (ids_nodup _ _) (zero_ids hv' hm)
  rw [ciN_all (both_vo hn hm hv hv' h6) hl, ciN_all hv hn, ciN_all hv' hm, ← hb, ← Nat.add_assoc]
  have key : (ids (bothL zs ys true) (2 ^ (n + m) - 1)).length = (ids zs (2 ^ n - 1) ++ ((ids ys (2 ^ m - 1)).filter (· != 0)).map fun y => (2 ^ n - 1) + 2 ^ n * y).length := by
    have hlt : 2 ^ n - 1 < 2 ^ n := by omega
    refine Nat.le_antisymm (inj_len (fun x => x) _ _ (ids_nodup _ _) (fun s hs => ?_) (fun _ _ _ _ e => e)) (inj_len (fun x => x) _ _ ?_ (fun s hs => ?_) (fun _ _ _ _ e => e))
    · obtain ⟨_, h1, h2, h3⟩ := (both_ids hn hm hv hv' h6).1 hs
      rw [List.mem_append]
      have e := Nat.mod_add_div s (2 ^ n)
      by_cases h0 : s / 2 ^ n = 0
      · rw [h0, Nat.mul_zero, Nat.add_zero] at e
        left; rw [← e]; exact h1
      · right
        rcases h3 rfl with h | h
        · exact List.mem_map.2 ⟨s / 2 ^ n, List.mem_filter.2 ⟨h2, by simpa using h0⟩, by rw [← h]; exact e⟩
        · exact absurd h h0
    · unfold List.Nodup
      rw [List.pairwise_append]
      refine ⟨ids_nodup _ _, List.pairwise_map.2 (((ids_nodup ys (2 ^ m - 1)).filter _).imp fun {u v} hne e => hne (Nat.eq_of_mul_eq_mul_left hp (Nat.add_left_cancel (show (2 ^ n - 1) + 2 ^ n * u = (2 ^ n - 1) + 2 ^ n * v from e)))), fun a ha c hc e => ?_⟩
      · obtain ⟨y, hy, rfl⟩ := List.mem_map.1 hc
        have h1 := ((mem_idsA hn hv).1 ha).1
        have hy0 := (List.mem_filter.1 hy).2
        have hy1 : 1 ≤ y := by
          rcases Nat.eq_zero_or_pos y with h | h
          · rw [h] at hy0; simp at hy0
          · exact h
        have := Nat.mul_le_mul_left (2 ^ n) hy1
        omega
    · rcases List.mem_append.1 hs with h | h
      · have h1 := ((mem_idsA hn hv).1 h).1
        have e1 : s % 2 ^ n = s := Nat.mod_eq_of_lt h1
        have e2 : s / 2 ^ n = 0 := Nat.div_eq_of_lt h1
        exact (both_ids hn hm hv hv' h6).2 ⟨Nat.lt_of_lt_of_le h1 (Nat.pow_le_pow_right (by decide) (by omega)), by rw [e1]; exact h, by rw [e2]; exact zero_ids hv' hm, fun _ => .inr e2⟩
      · obtain ⟨y, hy, rfl⟩ := List.mem_map.1 h
        have hy' := (List.mem_filter.1 hy).1
        have h2 := ((mem_idsA hm hv').1 hy').1
        exact (both_ids hn hm hv hv' h6).2 ⟨put_lt hlt h2, by rw [put_lo hlt]; exact all_ids hv hn, by rw [put_hi hlt]; exact hy', fun _ => .inl (put_lo hlt)⟩
  rw [key, List.length_append, List.length_map]
end
end Go.Proofs.YtiicffibhjeabaaDoor

/- One order above the other: it is lined up in as many ways as the product of both (mathematics). No program. -/
namespace Go.Proofs.YtiicffibhjeabaaDoor
open Go.RowKit

theorem eF_lt {B : List Int} (h : VoP B) {s a : Nat} (hs : s < 2 ^ B.length) : eF B s a = true ↔ s.testBit a = true ∧ ∀ b, s.testBit b = true → ¬ lt B b a := by
  rw [eF_iff h]
  constructor
  · rintro ⟨h1, h2⟩
    exact ⟨h1, fun b hb hl => by have := h2 b hb; rw [hl.2] at this; cases this⟩
  · rintro ⟨h1, h2⟩
    refine ⟨h1, fun b hb => ?_⟩
    cases e : bitB (B[b]?.getD 0) (a : Int)
    · rfl
    · exact absurd ⟨bit_lt hs hb, e⟩ (h2 b hb)
theorem put_b1 {n s1 s2 : Nat} (h : s1 < 2 ^ n) {j : Nat} (hj : j < n) : (s1 + 2 ^ n * s2).testBit j = s1.testBit j := by
  have := lo_bit n (s1 + 2 ^ n * s2) j
  rw [put_lo h, decide_eq_true hj, Bool.true_and] at this
  exact this.symm
theorem put_b2 {n s1 s2 : Nat} (h : s1 < 2 ^ n) (j : Nat) : (s1 + 2 ^ n * s2).testBit (n + j) = s2.testBit j := by
  rw [← hi_bit, put_hi h]
variable {zs ys : List Int} {n m : Nat}
theorem stk_cF (hn : zs.length = n) (hm : ys.length = m) (hv : VoP zs) (hv' : VoP ys) (h6 : n + m ≤ 6) : ∀ (k s1 s2 : Nat), s1 + s2 ≤ k → s1 < 2 ^ n → s2 < 2 ^ m →
    cF (bothL zs ys true) (s1 + 2 ^ n * s2) = cF zs s1 * cF ys s2
  | k, s1, s2, hk, h1, h2 => by
    have hl : (bothL zs ys true).length = n + m := by rw [bothL_len, hn, hm]
    have hvB : VoP (bothL zs ys true) := both_vo hn hm hv hv' h6
    have hS : s1 + 2 ^ n * s2 < 2 ^ (bothL zs ys true).length := by rw [hl]; exact put_lt h1 h2
    have hS1 : s1 < 2 ^ zs.length := by rw [hn]; exact h1
    have hS2 : s2 < 2 ^ ys.length := by rw [hm]; exact h2
    have n64 : 2 ^ n ≤ 64 := pow_le64 (by omega)
    have m64 : 2 ^ m ≤ 64 := pow_le64 (by omega)
    have hpn : 0 < 2 ^ n := Nat.pow_pos (by decide)
    have split : ∀ f : Nat → Nat, ((List.range (n + m)).map f).sum = ((List.range n).map f).sum + ((List.range m).map fun b => f (n + b)).sum := fun f => by
      rw [List.range_add, List.map_append, List.sum_append, List.map_map]; rfl
    by_cases e1 : s1 = 0
    · by_cases e2 : s2 = 0
      · subst e1 e2
        rw [Nat.mul_zero, cF_zero, cF_zero, cF_zero]
      · have hS0 : s1 + 2 ^ n * s2 ≠ 0 := by
          have := Nat.mul_pos hpn (Nat.pos_of_ne_zero e2); omega
        cases k with
        | zero => omega
        | succ k =>
        rw [cF_pos hS0, hl, split]
        have p1 : ∀ a ∈ List.range n, (if eF (bothL zs ys true) (s1 + 2 ^ n * s2) a then cF (bothL zs ys true) (s1 + 2 ^ n * s2 - 2 ^ a) else 0) = 0 := fun a ha => by
          have han : a < n := by simpa using ha
          rw [if_neg]
          rw [eF_lt hvB hS, put_b1 h1 han, e1]
          simp
        have p2 : ∀ b ∈ List.range m, (if eF (bothL zs ys true) (s1 + 2 ^ n * s2) (n + b) then cF (bothL zs ys true) (s1 + 2 ^ n * s2 - 2 ^ (n + b)) else 0) = (if eF ys s2 b then cF ys (s2 - 2 ^ b) else 0) := fun b hb => by
          have hbm : b < m := by simpa using hb
          have he : eF (bothL zs ys true) (s1 + 2 ^ n * s2) (n + b) = eF ys s2 b := by
            rw [Bool.eq_iff_iff, eF_lt hvB hS, eF_lt hv' hS2, put_b2 h1]
            refine and_congr_right fun _ => ⟨fun h c hc hlt => ?_, fun h c hc hlt => ?_⟩
            · exact h (n + c) (by rw [put_b2 h1]; exact hc) ((both_lt hn hm hv hv' h6).2 (Or.inr (Or.inl ⟨by omega, by omega, by rw [Nat.add_sub_cancel_left, Nat.add_sub_cancel_left]; exact hlt⟩)))
            · rcases Nat.lt_or_ge c n with hcn | hcn
              · rw [put_b1 h1 hcn, e1] at hc; simp at hc
              · obtain ⟨d, rfl⟩ := Nat.exists_eq_add_of_le hcn
                rw [put_b2 h1] at hc
                rcases (both_lt hn hm hv hv' h6).1 hlt with ⟨q, _⟩ | ⟨_, _, q⟩ | ⟨_, q, _⟩
                · omega
                · rw [Nat.add_sub_cancel_left, Nat.add_sub_cancel_left] at q; exact h d hc q
                · omega
          rw [he]
          by_cases hE : eF ys s2 b = true
          · rw [if_pos hE, if_pos hE]
            have hbit := ((eF_lt hv' hS2).1 hE).1
            have hge : 2 ^ b ≤ s2 := ge_bit_fin ⟨s2, by omega⟩ ⟨b, by omega⟩ hbit
            have hpb : 0 < 2 ^ b := Nat.pow_pos (by decide)
            have ih := stk_cF hn hm hv hv' h6 k 0 (s2 - 2 ^ b) (by omega) hpn (by omega)
            rw [cF_zero, Nat.one_mul, Nat.zero_add] at ih
            rw [e1, Nat.zero_add, Nat.pow_add, ← Nat.mul_sub]
            exact ih
          · rw [if_neg hE, if_neg hE]
        rw [sum_congr p1, sum_congr p2, sum_map_zero, Nat.zero_add, e1, cF_zero, Nat.one_mul, cF_pos e2, hm]
    · have hS0 : s1 + 2 ^ n * s2 ≠ 0 := by omega
      cases k with
      | zero => omega
      | succ k =>
      rw [cF_pos hS0, hl, split]
      obtain ⟨j, hj⟩ := Nat.exists_testBit_of_ne_zero e1
      have hjn : j < n := bit_lt h1 hj
      have p2 : ∀ b ∈ List.range m, (if eF (bothL zs ys true) (s1 + 2 ^ n * s2) (n + b) then cF (bothL zs ys true) (s1 + 2 ^ n * s2 - 2 ^ (n + b)) else 0) = 0 := fun b hb => by
        have hbm : b < m := by simpa using hb
        rw [if_neg]
        rw [eF_lt hvB hS]
        rintro ⟨_, h⟩
        exact h j (by rw [put_b1 h1 hjn]; exact hj) ((both_lt hn hm hv hv' h6).2 (Or.inr (Or.inr ⟨rfl, hjn, by omega, by omega⟩)))
      have p1 : ∀ a ∈ List.range n, (if eF (bothL zs ys true) (s1 + 2 ^ n * s2) a then cF (bothL zs ys true) (s1 + 2 ^ n * s2 - 2 ^ a) else 0) = cF ys s2 * (if eF zs s1 a then cF zs (s1 - 2 ^ a) else 0) := fun a ha => by
        have han : a < n := by simpa using ha
        have he : eF (bothL zs ys true) (s1 + 2 ^ n * s2) a = eF zs s1 a := by
          rw [Bool.eq_iff_iff, eF_lt hvB hS, eF_lt hv hS1, put_b1 h1 han]
          refine and_congr_right fun _ => ⟨fun h c hc hlt => ?_, fun h c hc hlt => ?_⟩
          · have hcn : c < n := bit_lt h1 hc
            exact h c (by rw [put_b1 h1 hcn]; exact hc) ((both_lt hn hm hv hv' h6).2 (Or.inl ⟨hcn, han, hlt⟩))
          · rcases (both_lt hn hm hv hv' h6).1 hlt with ⟨hcn, _, q⟩ | ⟨_, q, _⟩ | ⟨_, _, q, _⟩
            · rw [put_b1 h1 hcn] at hc; exact h c hc q
            · omega
            · omega
        rw [he]
        by_cases hE : eF zs s1 a = true
        · rw [if_pos hE, if_pos hE]
          have hbit := ((eF_lt hv hS1).1 hE).1
          have hge : 2 ^ a ≤ s1 := ge_bit_fin ⟨s1, by omega⟩ ⟨a, by omega⟩ hbit
          have hpa : 0 < 2 ^ a := Nat.pow_pos (by decide)
          have ih := stk_cF hn hm hv hv' h6 k (s1 - 2 ^ a) s2 (by omega) (by omega) h2
          rw [show s1 + 2 ^ n * s2 - 2 ^ a = s1 - 2 ^ a + 2 ^ n * s2 by omega, ih, Nat.mul_comm]
        · rw [if_neg hE, if_neg hE, Nat.mul_zero]
      rw [sum_congr p1, sum_congr p2, sum_map_zero, Nat.add_zero, sum_mul, Nat.mul_comm, cF_pos e1, hn]
theorem stk_lines (hn : zs.length = n) (hm : ys.length = m) (hv : VoP zs) (hv' : VoP ys) (h6 : n + m ≤ 6) : cG (bothL zs ys true) (2 ^ (n + m) - 1) = cG zs (2 ^ n - 1) * cG ys (2 ^ m - 1) := by
  have hvB : VoP (bothL zs ys true) := both_vo hn hm hv hv' h6
  have c0 := count_both hvB
  have c1 := count_both hv
  have c2 := count_both hv'
  rw [show (bothL zs ys true).length = n + m by rw [bothL_len, hn, hm]] at c0
  rw [hn] at c1
  rw [hm] at c2
  have hpn : 0 < 2 ^ n := Nat.pow_pos (by decide)
  have hpm : 0 < 2 ^ m := Nat.pow_pos (by decide)
  have hs : 2 ^ (n + m) - 1 = (2 ^ n - 1) + 2 ^ n * (2 ^ m - 1) := by
    rw [Nat.pow_add, Nat.mul_sub, Nat.mul_one]
    have : 2 ^ n ≤ 2 ^ n * 2 ^ m := Nat.le_mul_of_pos_right _ hpm
    omega
  rw [c0, c1, c2, hs]
  exact stk_cF hn hm hv hv' h6 _ _ _ (Nat.le_refl _) (by omega) (by omega)
end Go.Proofs.YtiicffibhjeabaaDoor

/- Marks: a set as six bools in an array; made, read, compared; what is below a set, and whether it is an ideal: the program's. -/
namespace Go.Proofs.YtiicffibhjeabaaDoor
open Go.RowKit Go.Shelf
attribute [local go_sem] Oper.semAt_some
attribute [local go_sem, local simp] wide_fn

/-- The six marks of a set. -/
def mkV (s : Int) : Array Value := ((List.range 6).map fun j : Nat => Value.bool (bitB s j)).toArray
theorem mkV_size (s : Int) : (mkV s).size = 6 := by simp [mkV]
theorem mkV_get (s : Int) {j : Nat} (hj : j < 6) : (mkV s)[j]? = some (.bool (bitB s j)) := by
  simp [mkV, hj]
theorem mkV_one (s : Int) : (mkV s).all (·.oneCell') = true := by
  refine Array.all_eq_true.2 fun i hi => ?_
  simp [mkV, Value.oneCell']
theorem mkV_set (s : Int) {k : Nat} (_hk : k < 6) : (mkV s).setIfInBounds k (.bool true) = mkV (orI s (powI k)) := by
  refine Array.ext (by simp [mkV_size]) fun j h1 h2 => ?_
  rw [Array.getElem_setIfInBounds (by simpa using h1)]
  simp only [mkV, List.getElem_toArray, List.getElem_map, List.getElem_range, bitB_or, bitB_pow]
  by_cases h : k = j
  · simp [h]
  · simp [h]
theorem mkV_none : mkV 0 = #[.bool false, .bool false, .bool false, .bool false, .bool false, .bool false] := by
  simp [mkV, bitB_zero, List.range_succ]

section
variable {P : Program} (w : World)
theorem part_mkV {e : TypeId} (he : P.underlying e = some .bool) (s : Int) {i : Nat} (hi : i < 6) : (part e (mkV s) (i * 1)).run P w = .ok (.bool (bitB s i)) w := by
  have h := mkV_get s hi
  have h6 := mkV_size s
  rw [Array.getElem?_eq_getElem (by omega)] at h
  simp only [Option.some.injEq] at h
  simp [part, isAgg, run_underlying he, h6, hi, h]
theorem eqItems_mkV {e : TypeId} (he : P.underlying e = some .bool) (d : Nat) (s t : Int) : ∀ l : List Nat, (∀ i ∈ l, i < 6) →
    (Op.eqItems (d + 1) e 1 (mkV s) (mkV t) l).run P w = .ok (l.all fun i : Nat => bitB s i == bitB t i) w
  | [], _ => by simp [Op.eqItems]
  | i :: l, h => by
    have ih := eqItems_mkV he d s t l (fun j hj => h j (by simp [hj]))
    have hi := h i (by simp)
    simp only [Op.eqItems, Sem.run_bind, part_mkV w he s hi, part_mkV w he t hi, Result.andThen_ok, run_equalIn_bool' w d e _ _ he]
    cases hb : (bitB s i == bitB t i)
    · simp [hb]
    · simp [hb, ih]
theorem run_eql_mkV {t e : TypeId} (hu : P.underlying t = some (.array 6 e)) (he : P.underlying e = some .bool) (hi : (P.info? e).isSome = true) (hc : P.cellsOf e = 1) (x y : Int) (hx0 : 0 ≤ x) (hx : x < 64) (hy0 : 0 ≤ y) (hy : y < 64) :
    (binOp .eql t (.agg (mkV x)) (.agg (mkV y))).run P w = .ok (.bool (x == y)) w := by
  obtain ⟨i, hi⟩ := Option.isSome_iff_exists.1 hi
  rw [run_eql_struct, run_equalIn_array w 9999 _ _ hu hi, hc, eqItems_mkV w he 9998 x y _ (fun i hi => by simpa using hi)]
  have key : ((List.range 6).all fun i : Nat => bitB x i == bitB y i) = (x == y) := by
    rw [Bool.eq_iff_iff, List.all_eq_true, beq_iff_eq]
    constructor
    · intro h
      refine bitB_ext hx0 hy0 fun j => ?_
      rcases Nat.lt_or_ge j 6 with hj | hj
      · simpa using h j (by simpa using hj)
      · have e1 : bitB x j = false := by
          cases e : bitB x j
          · rfl
          · have := bitB_lt (n := 6) hx e; omega
        have e2 : bitB y j = false := by
          cases e : bitB y j
          · rfl
          · have := bitB_lt (n := 6) hy e; omega
        rw [e1, e2]
    · rintro rfl; simp
  rw [key]
  rfl
end

theorem Upd.setRow {R : Nat → Prop} {a w : World} (h : Upd R a w) {g : Nat} (hp : a.heap.size ≤ g ∨ R g) (cs : Array Value) : Upd R a (w.setRow g cs) :=
  ⟨h.os, h.tape, h.output, by simpa using h.size, fun i hi hr => (setRow_other w g i cs (by
    rintro rfl
    rcases hp with hp | hp
    · omega
    · exact hr hp)).trans (h.block i hi hr)⟩

section
variable {F : Fence} {m : Nat} {P : Program} {w : World}
theorem wpListIn_load_row {ops : Array Oper} {rest : List Oper} {o : Oper} {a : Act} {Q : Exit → Act → World → Prop} (hgd : o.guard = none) (ty : TypeId) (x : Operand) (ho : o.op = .load ty x)
    (g : Nat) (hx : a.eval x = .pointer (some ⟨g, 0, none⟩)) (t : TypeId) (cs : Array Value) (fr : Nat × Nat) (d : TypeDesc) (hg : w.heap[g]? = some (.cells cs t fr))
    (hu : P.underlying ty = some d) (hd : (match d with | .struct _ | .array _ _ => true | _ => false) = true) (hi : (P.info? ty).map (·.size) = some cs.size)
    (h : wpListIn F m P ops Q rest (a.put o.dst (.agg cs)) w) : wpListIn F m P ops Q (o :: rest) a w := by
  refine wpListIn_plain hgd fun K hK => ?_
  unfold Oper.wpIn
  refine ⟨?_, ?_⟩
  · simp [Oper.about, ho]
  · rw [Oper.semAt_plain F _ _ (by rw [ho]; intro c hc'; cases hc')]
    simp only [execOp, ho, hx, Instr.loadAt, Instr.sureAddr, Sem.run_bind, Sem.run_pure, Result.andThen_ok, run_loadVar_row w g t ty cs fr d hg hu hd hi]
    exact hK _ _ h
theorem wpListIn_store_row {ops : Array Oper} {rest : List Oper} {o : Oper} {a : Act} {Q : Exit → Act → World → Prop} (hgd : o.guard = none) (ty : TypeId) (x y : Operand) (ho : o.op = .store ty x y)
    (g : Nat) (cells : Array Value) (hx : a.eval x = .pointer (some ⟨g, 0, none⟩)) (hy : a.eval y = .agg cells)
    (t : TypeId) (old : Array Value) (hg : w.heap[g]? = some (.cells old t (0, 0))) (hi : (P.info? ty).map (·.size) = some cells.size)
    (hold : old.size = cells.size) (h1 : cells.all (·.oneCell') = true)
    (h : wpListIn F m P ops Q rest (a.put o.dst undef) (w.setRow g cells)) : wpListIn F m P ops Q (o :: rest) a w := by
  refine wpListIn_plain hgd fun K hK => ?_
  unfold Oper.wpIn
  refine ⟨?_, ?_⟩
  · simp [Oper.about, ho]
  · rw [Oper.semAt_plain F _ _ (by rw [ho]; intro c hc'; cases hc')]
    simp only [execOp, ho, hx, hy, Instr.storeAt, Instr.sureAddr, Sem.run_bind, Sem.run_pure, Result.andThen_ok, run_storeVar_row w g t ty old cells hg hi hold h1]
    exact hK _ _ h
end
/-- In a region that draws its order: a whole variable's load, whose block reads the same in every world met. -/
theorem yieldsIf_load_row {P : Program} {ops : Array Oper} {S : World → Prop} {op : Oper} {a : Act} (hw : Region.wanted op (yielded ops a.tmps) = true) (ty : TypeId) (x : Operand) (ho : op.op = .load ty x)
    (g : Nat) (hx : a.eval x = .pointer (some ⟨g, 0, none⟩)) (t : TypeId) (cs : Array Value) (d : TypeDesc) (hS : ∀ w, S w → w.heap[g]? = some (.cells cs t (0, 0)))
    (hu : P.underlying ty = some d) (hd : (match d with | .struct _ | .array _ _ => true | _ => false) = true) (hi : (P.info? ty).map (·.size) = some cs.size) : YieldsIf P ops S op (.agg cs) a :=
  .inl ⟨hw, fun w hw' => by
    unfold execOp
    simp only [ho, hx, Instr.loadAt, Instr.sureAddr, Sem.run_bind, Sem.run_pure, Result.andThen_ok, run_loadVar_row w g t ty cs (0, 0) d (hS w hw') hu hd hi]⟩
end Go.Proofs.YtiicffibhjeabaaDoor

/- Marks and ideals: the program's. -/
namespace Go.Proofs.YtiicffibhjeabaaDoor
open Go.RowKit Go.Shelf
attribute [local go_sem] Oper.semAt_some
attribute [local go_sem, local simp] wide_fn

/-- What is marked when the items of a list are over. -/
def mkL (l : List Nat) : Int := l.foldl (fun (t : Int) (i : Nat) => orI t (powI i)) 0
theorem mkL_snoc (l : List Nat) (i : Nat) : mkL (l ++ [i]) = orI (mkL l) (powI i) := by simp [mkL]
theorem mkL_fin : ∀ k : Fin 64, mkL (itemsL (k.val : Int)) = (k.val : Int) := by decide +kernel
theorem mkL_all {s : Int} (h0 : 0 ≤ s) (h1 : s < 64) : mkL (itemsL s) = s := by
  obtain ⟨k, rfl⟩ := Int.eq_ofNat_of_zero_le h0
  exact mkL_fin ⟨k, by omega⟩

/-- Block b is just the marks of s. -/
def Mks (w : World) (b : Nat) (s : Int) : Prop := w.heap[b]? = some (.cells (mkV s) 82 (0, 0))
section
variable {w w' : World} {b : Nat} {s : Int} {R : Nat → Prop}
theorem Mks.lt (h : Mks w b s) : b < w.heap.size := (Array.getElem?_eq_some_iff.1 h).1
theorem Mks.upd (h : Mks w b s) (hu : Upd R w w') (hr : ¬ R b) : Mks w' b s := (hu.block b h.lt hr).trans h
theorem Mks.drewN (h : Mks w b s) (n : Nat) : Mks (w.drewN n) b s := h
theorem Mks.alloc (h : Mks w b s) (o : Obj) : Mks (w.alloc o) b s := (Below.heap_alloc w o b h.lt).trans h
theorem Mks.cell (h : Mks w b s) {k : Nat} (hk : k < 6) : w.cell? ⟨b, k, none⟩ = some (.bool (bitB s k)) := by
  rw [cell_of_row w b k _ _ (0, 0) h, mkV_get s hk]
theorem Mks.frozen (h : Mks w b s) (k : Nat) : w.frozen? ⟨b, k, none⟩ = false := by
  unfold Mks at h
  simp [World.frozen?, h]
theorem Mks.set (h : Mks w b s) {k : Nat} (hk : k < 6) : Mks (w.setCell ⟨b, k, none⟩ (.bool true)) b (orI s (powI k)) := by
  unfold Mks at h ⊢
  rw [← mkV_set s hk]
  simp [World.setCell, Array.getElem?_modify, h]
theorem Mks.new (w : World) (s : Int) : Mks (w.alloc (.cells (mkV s) 82)) w.heap.size s := heap_alloc_new w _
end

set_option maxRecDepth 100000 in
set_option maxHeartbeats 4000000 in
theorem marks_any (s : Int) (h0 : 0 ≤ s) (h1 : s < 64) (w : World) :
    Calls Tryd.prog 58 #[.int .i64 s] w fun e W' => e = .returned (.agg (mkV s)) ∧ Below w.heap.size w W' := by
  refine (callsIn_wide (n := 9)).1 ?_
  refine callsIn_of_wp_marks Tryd.func58 rfl trivial ?_ rfl
  simp only [Tryd.ntmps58, List.size_toArray, List.length_cons, List.length_nil, Nat.reduceAdd, Nat.reduceSub, Array.replicate_succ, Array.replicate_zero, List.push_toArray, List.append_toArray, List.nil_append, List.cons_append]
  gi_wp2_with (gi_at_call 52; refine (callsIn_wide.2 (each_any _ _)).mono ?_; rintro e w' ⟨rfl, rfl⟩)
  rw [← mkV_none]
  have bR := ((Mks.new w 0).alloc (.cells (mkV 0) 82)).alloc (.cells #[Value.int .i64 s] 48)
  have bM := (Mks.new (w.alloc (.cells (mkV 0) 82)) 0).alloc (.cells #[Value.int .i64 s] 48)
  have bE := Boxed.new ((w.alloc (.cells (mkV 0) 82)).alloc (.cells (mkV 0) 82)) 48 (.int .i64 s)
  have hu0 : Upd (fun _ => False) w (((w.alloc (.cells (mkV 0) 82)).alloc (.cells (mkV 0) 82)).alloc (.cells #[Value.int .i64 s] 48)) := (((Upd.refl _ w).alloc _).alloc _).alloc _
  have hz0 : (((w.alloc (.cells (mkV 0) 82)).alloc (.cells (mkV 0) 82)).alloc (.cells #[Value.int .i64 s] 48)).heap.size = w.heap.size + 3 := by simp
  simp only [World.size_alloc] at bM bE
  obtain ⟨W0, hW0⟩ : ∃ W0, (((w.alloc (.cells (mkV 0) 82)).alloc (.cells (mkV 0) 82)).alloc (.cells #[Value.int .i64 s] 48)) = W0 := ⟨_, rfl⟩
  rw [hW0] at bR bM bE hu0 hz0 ⊢
  clear hW0
  refine range_out (n := 9) (gf := 62) (lb := #[.pointer (some ⟨w.heap.size + 1 + 1, 0, none⟩)]) rfl (enters_of Tryd.func62 (by kernel_rfl) rfl) (encs := encI) (L := itemsL s)
    (fun k => k = w.heap.size + 1) (fun k e => by omega) (fun _ => rfl)
    (fun W1 l1 hu1 hl1 hl2 => each_iter s h0 (by omega) _ _ W1 (hu1.boxed bE (fun e => e)) (fun e => by omega))
    (fun pre D W => Mks W (w.heap.size + 1) (mkL pre) ∧ Upd (fun k => k = w.heap.size + 1) W0 W)
    (fun _ _ _ _ => False)
    (fun _ D X Y hs hu => ⟨hs.1.upd hu (fun e => by omega), hs.2.trans' hu (fun i hi e => by omega)⟩)
    (fun _ _ _ _ _ hs _ => hs)
    ⟨bM, Upd.refl _ _⟩ ?owes ?done ?stop
  case owes =>
    rintro l1 pre x D1 W hl1 hl2 hDl hD1 - hpre K hK
    gi_wp2
    refine hK _ _ (Upd.refl _ _) ?_
    rintro Wb hWb - ⟨bM1, hU⟩
    clear hK
    obtain ⟨hx6, hxb⟩ := mem_itemsTo.1 (hpre.subset (by simp : x ∈ pre ++ [x]))
    have hcx := bM1.cell hx6
    have hfx := bM1.frozen x
    have Hn := Lib.hid (mkL_snoc pre x)
    gi_wp2
    exact ⟨D1, ⟨by rw [Hn.out]; exact bM1.set hx6, hU.setCell (p := ⟨w.heap.size + 1, x, none⟩) (.inr rfl) _⟩, (Upd.refl _ _).setCell (p := ⟨w.heap.size + 1, x, none⟩) (.inr (.inl rfl)) _, fun k hk => .inl hk⟩
  case done =>
    rintro d D1 W hd ⟨bM1, hU⟩ hD1 hKd
    rw [mkL_all h0 h1] at bM1
    have bR1 := hU.block w.heap.size (by omega) (by omega)
    have hgR : W.heap[w.heap.size]? = some (.cells (mkV 0) 82 (0, 0)) := bR1.trans bR
    clear bR1
    gi_wp2_with (first
      | (refine wpListIn_load_row rfl _ _ rfl (w.heap.size + 1) rfl _ (mkV s) (0, 0) _ bM1 Tryd.underlying82 rfl (by rw [mkV_size]; kernel_rfl) ?_)
      | (refine wpListIn_store_row rfl _ _ _ rfl w.heap.size (mkV s) rfl rfl _ (mkV 0) hgR (by rw [mkV_size]; kernel_rfl) (by rw [mkV_size, mkV_size]) (mkV_one s) ?_))
    have hKd2 := (setRow_other W w.heap.size d (mkV s) (by omega)).trans hKd
    have bS : Mks (W.setRow w.heap.size (mkV s)) w.heap.size s := setRow_heap _ _ _ _ _ _ hgR
    have hU2 : Upd (fun k => w.heap.size ≤ k) W0 (W.setRow w.heap.size (mkV s)) := (hU.mono (fun k _ e => by omega)).setRow (.inr (Nat.le_refl _)) _
    obtain ⟨W2, hW2⟩ : ∃ W2, W.setRow w.heap.size (mkV s) = W2 := ⟨_, rfl⟩
    rw [hW2] at hKd2 bS hU2 ⊢
    clear hW2
    refine leaves_marks [d] W2 ⟨by simp, fun b hb => ?_⟩ (fun W' hu' => ?_)
    · rw [List.mem_singleton.1 hb]
      exact hKd2
    · refine ⟨.agg (mkV s), results_cell_row rfl _ _ w.heap.size _ (mkV s) (0, 0) _ rfl (bS.upd hu' (by simp; omega)) Tryd.underlying82 rfl (by rw [mkV_size]; kernel_rfl), rfl,
        (((hu0.mono fun _ _ e => e.elim).trans' hU2 (fun i hi e => by omega)).trans' hu' (fun i hi e => by simp at e; omega)).toBelow (R := fun _ => False) (fun _ e => e.elim) (Nat.le_refl _)⟩
  case stop =>
    rintro d D1 co pre W hd hpre h
    exact h.elim

theorem idx_mkV (s : Int) {k : Nat} (hk : k < 6) (w : World) : (Instr.index 82 (.agg (mkV s)) (.int .i64 k)).run Tryd.prog w = .ok (.bool (bitB s k)) w := by
  have i0 : ∀ w : World, (Instr.index 82 (.agg (mkV s)) (.int .i64 ((0 : Nat) : Int))).run Tryd.prog w = .ok (.bool (bitB s ((0 : Nat) : Int))) w := fun _ => by kernel_rfl
  have i1 : ∀ w : World, (Instr.index 82 (.agg (mkV s)) (.int .i64 ((1 : Nat) : Int))).run Tryd.prog w = .ok (.bool (bitB s ((1 : Nat) : Int))) w := fun _ => by kernel_rfl
  have i2 : ∀ w : World, (Instr.index 82 (.agg (mkV s)) (.int .i64 ((2 : Nat) : Int))).run Tryd.prog w = .ok (.bool (bitB s ((2 : Nat) : Int))) w := fun _ => by kernel_rfl
  have i3 : ∀ w : World, (Instr.index 82 (.agg (mkV s)) (.int .i64 ((3 : Nat) : Int))).run Tryd.prog w = .ok (.bool (bitB s ((3 : Nat) : Int))) w := fun _ => by kernel_rfl
  have i4 : ∀ w : World, (Instr.index 82 (.agg (mkV s)) (.int .i64 ((4 : Nat) : Int))).run Tryd.prog w = .ok (.bool (bitB s ((4 : Nat) : Int))) w := fun _ => by kernel_rfl
  have i5 : ∀ w : World, (Instr.index 82 (.agg (mkV s)) (.int .i64 ((5 : Nat) : Int))).run Tryd.prog w = .ok (.bool (bitB s ((5 : Nat) : Int))) w := fun _ => by kernel_rfl
  have h : k = 0 ∨ k = 1 ∨ k = 2 ∨ k = 3 ∨ k = 4 ∨ k = 5 := by omega
  rcases h with rfl | rfl | rfl | rfl | rfl | rfl
  · exact i0 w
  · exact i1 w
  · exact i2 w
  · exact i3 w
  · exact i4 w
  · exact i5 w
/-- The items less than k of a set. -/
def upTo (s : Int) (k : Nat) : Int := mkL (itemsTo s k)
theorem upTo_yes {s : Int} {k : Nat} (h : bitB s k = true) : upTo s (k + 1) = orI (upTo s k) (powI k) := by unfold upTo; rw [itemsTo_yes h, mkL_snoc]
theorem upTo_no {s : Int} {k : Nat} (h : bitB s k = false) : upTo s (k + 1) = upTo s k := by unfold upTo; rw [itemsTo_no h]
theorem upTo_bd (s : Int) : ∀ k : Nat, 0 ≤ upTo s k ∧ upTo s k < powI k
  | 0 => by simp [upTo, itemsTo, mkL, powI]
  | k + 1 => by
    have ih := upTo_bd s k
    have hp : powI (k : Int) < powI ((k + 1 : Nat) : Int) := powI_lt (by omega)
    cases h : bitB s k
    · rw [upTo_no h]; omega
    · rw [upTo_yes h]; exact orI_bd ih.1 (by omega) (Int.le_of_lt (powI_pos _)) hp

set_option maxHeartbeats 1000000 in
theorem mitems_any (s : Int) (h0 : 0 ≤ s) (h1 : s < 64) (w : World) :
    Calls Tryd.prog 59 #[.agg (mkV s)] w fun e W' => e = .returned (.int .i64 s) ∧ Below w.heap.size w W' := by
  go_enter Tryd.func59, Tryd.ntmps59
  have hb : (w.alloc (.cells (mkV s) 82)).heap[w.heap.size]? = some (.cells (mkV s) 82 (0, 0)) := heap_alloc_new w _
  have hB : Below w.heap.size w (w.alloc (.cells (mkV s) 82)) := (Below.refl _ _).alloc (Nat.le_refl _) _
  go_wp2_with (refine wpList_load_row rfl _ _ rfl w.heap.size rfl _ (mkV s) (0, 0) _ hb Tryd.underlying82 rfl (by rw [mkV_size]; kernel_rfl) ?_)
  go_loop [3, 7] (fun t i => ∃ k : Nat, k ≤ 6 ∧ i = .int .i64 k ∧ t = .int .i64 (upTo s k)) (fun _ i => 6 - (intOf i).toNat)
  case atStart => exact ⟨0, by omega, rfl, rfl⟩
  case round =>
    obtain ⟨k, hk, rfl, rfl⟩ := hrel
    by_cases hlt : k < 6
    · have hix := fun w => idx_mkV s hlt w
      have hbd := upTo_bd s k
      have hpk : powI k ≤ 64 := powI_le6 (by omega)
      cases hbit : bitB s k
      · have Hn := Lib.hid (upTo_no hbit)
        go_wp2
        go_round
        case rel => exact ⟨k + 1, by omega, by go_num, by rw [Hn.out]⟩
        case measure => simp [intOf]; omega
      · have Hn := Lib.hid (upTo_yes hbit)
        go_wp2_with (go_at_call 44; refine (with_any _ _ _ (by omega) (by omega) (by omega) (by omega)).mono ?_; rintro e w' ⟨rfl, rfl⟩)
        go_round
        case rel => exact ⟨k + 1, by omega, by go_num, by rw [Hn.out]⟩
        case measure => simp [intOf]; omega
    · obtain rfl : k = 6 := by omega
      have Hs := Lib.hid (show upTo s 6 = s from mkL_all h0 h1)
      go_wp2
      go_ret
      exact ⟨ret_int Hs.out, hB⟩

set_option maxRecDepth 100000 in
set_option maxHeartbeats 4000000 in
theorem markBelow_any (A : Option Addr) (n c : Nat) (zs : List Int) (s : Int) (hvo : VoP zs) (w : World) (hA : Ints w w.heap.size A n zs) (h0 : 0 ≤ s) (h1 : s < powI n) :
    Calls Tryd.prog 57 #[.slice A n c, .agg (mkV s)] w fun e W' => e = .returned (.agg (mkV (belI zs s))) ∧ Below w.heap.size w W' := by
  refine (callsIn_wide (n := 9)).1 ?_
  refine callsIn_of_wp_marks Tryd.func57 rfl trivial ?_ rfl
  simp only [Tryd.ntmps57, List.size_toArray, List.length_cons, List.length_nil, Nat.reduceAdd, Nat.reduceSub, Array.replicate_succ, Array.replicate_zero, List.push_toArray, List.append_toArray, List.nil_append, List.cons_append]
  gi_wp2_with (gi_at_call 49; refine (callsIn_wide.2 (pairs_any _ _ _ _)).mono ?_; rintro e w' ⟨rfl, rfl⟩)
  rw [← mkV_none]
  have bM := ((Mks.new w s).alloc (.cells (mkV 0) 82)).alloc (.cells #[Value.slice A n c] 36)
  have bR := (Mks.new (w.alloc (.cells (mkV s) 82)) 0).alloc (.cells #[Value.slice A n c] 36)
  have bP := Boxed.new ((w.alloc (.cells (mkV s) 82)).alloc (.cells (mkV 0) 82)) 36 (.slice A n c)
  have hu0 : Upd (fun _ => False) w (((w.alloc (.cells (mkV s) 82)).alloc (.cells (mkV 0) 82)).alloc (.cells #[Value.slice A n c] 36)) := (((Upd.refl _ w).alloc _).alloc _).alloc _
  have hz0 : (((w.alloc (.cells (mkV s) 82)).alloc (.cells (mkV 0) 82)).alloc (.cells #[Value.slice A n c] 36)).heap.size = w.heap.size + 3 := by simp
  simp only [World.size_alloc] at bR bP
  obtain ⟨W0, hW0⟩ : ∃ W0, (((w.alloc (.cells (mkV s) 82)).alloc (.cells (mkV 0) 82)).alloc (.cells #[Value.slice A n c] 36)) = W0 := ⟨_, rfl⟩
  rw [hW0] at bR bM bP hu0 hz0 ⊢
  clear hW0
  have hlen := Lib.hid hA.len
  have hn6 : n ≤ 6 := by have := hvo.1; rw [hlen.out] at this; exact this
  have hpn : powI n ≤ 64 := powI_le6 (by omega)
  have hA0 : Ints W0 w.heap.size A n zs := hA.below (hu0.toBelow (fun _ e => e.elim) (Nat.le_refl _))
  refine range_out (n := 9) (gf := 60) (lb := #[.pointer (some ⟨w.heap.size + 1 + 1, 0, none⟩)]) rfl (enters_of Tryd.func60 (by kernel_rfl) rfl) (encs := encP) (L := pairsL zs)
    (fun k => k = w.heap.size) (fun k e => by omega) (fun _ => rfl)
    (fun W1 l1 hu1 hl1 hl2 => pairs_iter_at hvo.sets bP (fun k e => by omega) (by omega) hA0 (by omega) (fun k e => by omega) hu1 hl1 hl2)
    (fun pre D W => Mks W w.heap.size (mkP s pre) ∧ Upd (fun k => k = w.heap.size) W0 W)
    (fun _ _ _ _ => False)
    (fun _ D X Y hs hu => ⟨hs.1.upd hu (fun e => by omega), hs.2.trans' hu (fun i hi e => by omega)⟩)
    (fun _ _ _ _ _ hs _ => hs)
    ⟨bM, Upd.refl _ _⟩ ?owes ?done ?stop
  case owes =>
    rintro l1 pre ⟨lo, hi⟩ D1 W hl1 hl2 hDl hD1 - hpre K hK
    gi_wp2
    refine hK _ _ (Upd.refl _ _) ?_
    rintro Wb hWb - ⟨bM1, hU⟩
    clear hK
    obtain ⟨hlo, hhi, hbit⟩ := hvo.sets.pair (a := lo) (b := hi) (hpre.subset (by simp))
    rw [hlen.out] at hlo hhi
    have hch := bM1.cell (k := hi) (by omega)
    have hcl := bM1.cell (k := lo) (by omega)
    have hfl := bM1.frozen lo
    cases hb : bitB (mkP s pre) hi
    · have Hn := Lib.hid (mkP_no (a := lo) hb)
      gi_wp2
      exact ⟨D1, ⟨by rw [Hn.out]; exact bM1, hU⟩, Upd.refl _ _, fun k hk => .inl hk⟩
    · have Hn := Lib.hid (mkP_yes (a := lo) hb)
      gi_wp2
      exact ⟨D1, ⟨by rw [Hn.out]; exact bM1.set (by omega), hU.setCell (p := ⟨w.heap.size, lo, none⟩) (.inr rfl) _⟩, (Upd.refl _ _).setCell (p := ⟨w.heap.size, lo, none⟩) (.inr (.inl rfl)) _, fun k hk => .inl hk⟩
  case done =>
    rintro d D1 W hd ⟨bM1, hU⟩ hD1 hKd
    rw [mkP_all hvo h0 (by rw [hlen.out]; exact h1)] at bM1
    have bR1 := hU.block (w.heap.size + 1) (by omega) (by omega)
    have hgR : W.heap[w.heap.size + 1]? = some (.cells (mkV 0) 82 (0, 0)) := bR1.trans bR
    clear bR1
    gi_wp2_with (first
      | (refine wpListIn_load_row rfl _ _ rfl w.heap.size rfl _ (mkV (belI zs s)) (0, 0) _ bM1 Tryd.underlying82 rfl (by rw [mkV_size]; kernel_rfl) ?_)
      | (refine wpListIn_store_row rfl _ _ _ rfl (w.heap.size + 1) (mkV (belI zs s)) rfl rfl _ (mkV 0) hgR (by rw [mkV_size]; kernel_rfl) (by rw [mkV_size, mkV_size]) (mkV_one _) ?_))
    have hKd2 := (setRow_other W (w.heap.size + 1) d (mkV (belI zs s)) (by omega)).trans hKd
    have bS : Mks (W.setRow (w.heap.size + 1) (mkV (belI zs s))) (w.heap.size + 1) (belI zs s) := setRow_heap _ _ _ _ _ _ hgR
    have hU2 : Upd (fun k => w.heap.size ≤ k) W0 (W.setRow (w.heap.size + 1) (mkV (belI zs s))) := (hU.mono (fun k _ e => by omega)).setRow (.inr (by omega)) _
    obtain ⟨W2, hW2⟩ : ∃ W2, W.setRow (w.heap.size + 1) (mkV (belI zs s)) = W2 := ⟨_, rfl⟩
    rw [hW2] at hKd2 bS hU2 ⊢
    clear hW2
    refine leaves_marks [d] W2 ⟨by simp, fun b hb => ?_⟩ (fun W' hu' => ?_)
    · rw [List.mem_singleton.1 hb]
      exact hKd2
    · refine ⟨.agg (mkV (belI zs s)), results_cell_row rfl _ _ (w.heap.size + 1) _ (mkV (belI zs s)) (0, 0) _ rfl (bS.upd hu' (by simp; omega)) Tryd.underlying82 rfl (by rw [mkV_size]; kernel_rfl), rfl,
        (((hu0.mono fun _ _ e => e.elim).trans' hU2 (fun i hi e => by omega)).trans' hu' (fun i hi e => by simp at e; omega)).toBelow (R := fun _ => False) (fun _ e => e.elim) (Nat.le_refl _)⟩
  case stop =>
    rintro d D1 co pre W hd hpre h
    exact h.elim

theorem obelow_any (A : Option Addr) (n c : Nat) (zs : List Int) (s : Int) (hvo : VoP zs) (w : World) (hA : Ints w w.heap.size A n zs) (h0 : 0 ≤ s) (h1 : s < powI n) :
    Calls Tryd.prog 43 #[.slice A n c, .int .i64 s] w fun e W' => e = .returned (.int .i64 (belI zs s)) ∧ Below w.heap.size w W' := by
  have hlen := Lib.hid hA.len
  have hn6 : n ≤ 6 := by have := hvo.1; rw [hlen.out] at this; exact this
  have hpn : powI n ≤ 64 := powI_le6 (by omega)
  have hbd := belI_bd hvo.sets h0 (by rw [hlen.out]; exact h1)
  rw [hlen.out] at hbd
  go_enter Tryd.func43, Tryd.ntmps43
  go_wp2_with fail
  refine (marks_any s h0 (by omega) _).mono ?_
  rintro e w1 ⟨rfl, hB1⟩
  have z1 := hB1.size
  go_wp2_with fail
  refine (markBelow_any _ n _ zs s hvo _ (hA.to hB1 (Nat.le_refl _) z1) h0 h1).mono ?_
  rintro e w2 ⟨rfl, hB2⟩
  have z2 := hB2.size
  go_wp2_with fail
  refine (mitems_any _ hbd.1 (by omega) _).mono ?_
  rintro e w3 ⟨rfl, hB3⟩
  go_wp2_with fail
  go_ret
  exact ⟨rfl, hB1.trans ((hB2.mono z1).trans (hB3.mono (by omega)))⟩

end Go.Proofs.YtiicffibhjeabaaDoor

/- IsIdeal, BelowOf, NextIdeal: the program's. -/
namespace Go.Proofs.YtiicffibhjeabaaDoor
open Go.RowKit Go.Shelf
attribute [local go_sem] Oper.semAt_some
attribute [local go_sem, local simp] wide_fn

theorem less_all_fin : ∀ n : Fin 7, ∀ k : Fin 64, (k.val : Int) < powI (n.val : Int) → lessI (powI (n.val : Int) - 1) (k.val : Int) = powI (n.val : Int) - 1 - (k.val : Int) := by decide +kernel
theorem less_all {n : Nat} {s : Int} (hn : n ≤ 6) (h0 : 0 ≤ s) (h1 : s < powI n) : lessI (powI n - 1) s = powI n - 1 - s := by
  have hpn := powI_le6 (n := (n : Int)) (by omega)
  obtain ⟨k, rfl⟩ := Int.eq_ofNat_of_zero_le h0
  exact less_all_fin ⟨n, by omega⟩ ⟨k, by omega⟩ h1

end Go.Proofs.YtiicffibhjeabaaDoor

/- The first item of a set: the program's, by the library's table. -/
namespace Go.Proofs.YtiicffibhjeabaaDoor
open Go.RowKit

/-- The table of the library holds at the places of the powers which ones they are. -/
def Tab (w : World) : Prop := ∀ a : Nat, a < 6 → w.cell? ⟨1, 2 ^ a - 1, none⟩ = some (.int .u8 (a : Int))
theorem Tab.below {w w' : World} {B : Nat} (h : Tab w) (hb : Below B w w') (hB : 1 < B) : Tab w' := fun a ha => (World.cell?_of_block (hb.block 1 hB)).trans (h a ha)
theorem tz_and_fin : ∀ s : Fin 64, s.val ≠ 0 → bits .and .u64 (s.val : Int) (IntKind.u64.wrap (-(s.val : Int))) = ((2 ^ low s.val : Nat) : Int) := by decide +kernel
theorem tz_mul_fin : ∀ a : Fin 6, 2 ^ a.val * 285870213051353865 / 288230376151711744 = 2 ^ a.val - 1 := by decide +kernel

set_option maxHeartbeats 2000000 in
theorem tz_any (s : Nat) (h0 : s ≠ 0) (h1 : s < 64) (w : World) (hT : Tab w) :
    Calls Tryd.prog 68 #[.int .u64 (s : Int)] w fun e w' => e = .returned (.int .i64 (low s : Int)) ∧ w = w' := by
  have ha := low_fin ⟨s, h1⟩ h0
  have h2 := tz_and_fin ⟨s, h1⟩ h0
  simp only at ha h2
  have h3 := tz_mul_fin ⟨low s, ha.1⟩
  simp only at h3
  have hc := hT (low s) ha.1
  have hne : ((s : Int) == 0) = false := by simpa using h0
  obtain ⟨a, hla⟩ : ∃ a, low s = a := ⟨_, rfl⟩
  rw [hla] at ha h2 h3 hc ⊢
  have hpa := ha.1
  clear hla ha hT
  have hp : 2 ^ a ≤ 32 := by
    have : (2 : Nat) ^ a ≤ 2 ^ 5 := Nat.pow_le_pow_right (by decide) (by omega)
    omega
  have hp0 := Nat.two_pow_pos a
  obtain ⟨p, hpp⟩ : ∃ p, 2 ^ a = p := ⟨_, rfl⟩
  rw [← h3] at hc
  rw [hpp] at h2 hp hp0 hc
  clear hpp h3
  go_enter Tryd.func68, Tryd.ntmps68
  go_wp2
  go_ret
  exact ⟨ret_int (by first | rfl | omega), rfl⟩
theorem first_any (s : Nat) (h0 : s ≠ 0) (h1 : s < 64) (w : World) (hT : Tab w) :
    Calls Tryd.prog 41 #[.int .i64 (s : Int)] w fun e w' => e = .returned (.int .i64 (low s : Int)) ∧ w = w' := by
  go_enter Tryd.func41, Tryd.ntmps41
  go_wp2_with fail
  go_enter Tryd.func56, Tryd.ntmps56
  go_wp2_with fail
  refine (tz_any s h0 h1 w hT).mono ?_
  rintro e w' ⟨rfl, rfl⟩
  go_wp2_with fail
  go_ret
  exact ⟨rfl, rfl⟩
end Go.Proofs.YtiicffibhjeabaaDoor

/- CountIdeals: the program's. -/
namespace Go.Proofs.YtiicffibhjeabaaDoor
open Go.RowKit Go.Shelf

set_option maxRecDepth 100000 in
set_option maxHeartbeats 8000000 in
theorem ocountIdeals_any (zs : List Int) (hvo : VoP zs) (n c : Nat) (A : Option Addr) (hlen0 : zs.length = n) : ∀ (N s : Nat) (w : World), s ≤ N → s < 2 ^ n → Ints w w.heap.size A n zs → Tab w → 1 < w.heap.size →
    Calls Tryd.prog 26 #[.slice A n c, .int .i64 (s : Int)] w fun e w' => e = .returned (.int .i64 (ciN zs s)) ∧ Below w.heap.size w w' := by
  intro N
  refine Nat.strongRecOn N fun N ih => ?_
  intro s w hN hs hI hT hw1
  have hlen := Lib.hid hlen0
  have hn6 : n ≤ 6 := by have := hvo.1; rw [hlen0] at this; exact this
  have hs64 : s < 64 := Nat.lt_of_lt_of_le hs (Nat.pow_le_pow_right (n := 2) (by decide) hn6)
  have hsl : s < 2 ^ zs.length := by rw [hlen0]; exact hs
  clear hlen0
  by_cases h0 : s = 0
  · subst h0
    have Hz := Lib.hid (ciN_zero zs)
    go_enter Tryd.func26, Tryd.ntmps26
    go_wp2
    go_ret
    exact ⟨ret_int (by rw [Hz.out]; rfl), Below.refl _ _⟩
  · have hne : ((s : Int) == 0) = false := by simpa using h0
    obtain ⟨hl6, hlb⟩ := low_fin ⟨s, hs64⟩ h0
    obtain ⟨hrest, hple⟩ := rest_fin ⟨s, hs64⟩ h0
    simp only at hl6 hlb hrest hple
    have hln : low s < n := by
      rcases Nat.lt_or_ge (low s) n with e | e
      · exact e
      · rw [Nat.testBit_lt_two_pow (Nat.lt_of_lt_of_le hs (Nat.pow_le_pow_right (by decide) e))] at hlb; cases hlb
    have Hci := Lib.hid (ciN_pos (zs := zs) h0 hs64)
    have hu := lessN_lt (zs[low s]?.getD 0) h0 hs64
    have hd := lessN_lt ((du zs)[low s]?.getD 0) h0 hs64
    have hbu := ciN_64 zs (show lessN s (zs[low s]?.getD 0) < 64 by omega)
    have hbd := ciN_64 zs (show lessN s ((du zs)[low s]?.getD 0) < 64 by omega)
    have ihu := fun w' hI' hT' hw' => ih (lessN s (zs[low s]?.getD 0)) (by omega) (lessN s (zs[low s]?.getD 0)) w' (Nat.le_refl _) (by omega) hI' hT' hw'
    have ihd := fun w' hI' hT' hw' => ih (lessN s ((du zs)[low s]?.getD 0)) (by omega) (lessN s ((du zs)[low s]?.getD 0)) w' (Nat.le_refl _) (by omega) hI' hT' hw'
    have hpw := Nat.two_pow_pos (low s)
    have hzu := hvo.bd (low s) (by rw [hlen.out]; exact hln)
    have hdl : (du zs).length = n := by rw [du_len, hlen.out]
    have hpb : powI (low s : Int) = ((2 ^ low s : Nat) : Int) := by simp [powI]
    have hp6 := powI_le6 (n := (low s : Int)) (by omega)
    have hpl := powI_lt hln
    have hpp := powI_pos (low s : Int)
    have hbl := belI_bd hvo.sets (s := powI (low s : Int)) (by omega) (by rw [hlen.out]; exact hpl)
    have hpn := powI_le6 (n := (n : Int)) (by omega)
    rw [hlen.out] at hbl
    have hlb2 := less_bel hvo h0 hsl
    rw [hrest] at hlb2
    have Hwo := Lib.hid (show lessI (s : Int) (powI (low s : Int)) = ((s - 2 ^ low s : Nat) : Int) from hrest)
    have Hwi := Lib.hid (show orI 0 (powI (low s : Int)) = powI (low s : Int) by
      refine bitB_ext (by simp [orI]; omega) (Int.le_of_lt (powI_pos _)) fun j => ?_
      rw [bitB_or, bitB_zero, Bool.false_or])
    have handu : bits .andNot .i64 ((s - 2 ^ low s : Nat) : Int) (zs[low s]?.getD 0) = (lessN s (zs[low s]?.getD 0) : Int) := by
      rw [bits_less (by omega) (by omega) (by omega) (by omega)]
      unfold lessN
      rw [hrest]
      have := lessI_bd ((s - 2 ^ low s : Nat) : Int) (zs[low s]?.getD 0)
      omega
    have handd : bits .andNot .i64 ((s - 2 ^ low s : Nat) : Int) (belI zs (powI (low s : Int))) = (lessN s ((du zs)[low s]?.getD 0) : Int) := by
      rw [bits_less (by omega) (by omega) (by omega) (by omega), hlb2]
      unfold lessN
      rw [hrest]
      have := lessI_bd ((s - 2 ^ low s : Nat) : Int) ((du zs)[low s]?.getD 0)
      omega
    obtain ⟨b, off, rfl, hb, hc⟩ := hI.at_ hln
    have hcu := hc (low s) hln
    clear hc ih hrest hlb hpb hlb2
    generalize lessN s (zs[low s]?.getD 0) = u at *
    generalize lessN s ((du zs)[low s]?.getD 0) = d at *
    generalize zs[low s]?.getD 0 = zu at *
    have Hfirst := Lib.hid (first_any s h0 hs64)
    generalize hr : s - 2 ^ low s = r at *
    generalize hla : low s = a at *
    generalize hbe : belI zs (powI (a : Int)) = be at *
    have Hbe := Lib.hid hbe
    clear hr hla hbe
    obtain ⟨cu, hcu2⟩ : ∃ cu, ciN zs u = cu := ⟨_, rfl⟩
    obtain ⟨cd, hcd2⟩ : ∃ cd, ciN zs d = cd := ⟨_, rfl⟩
    rw [hcu2] at hbu Hci
    rw [hcd2] at hbd Hci
    simp only [hcu2] at ihu
    simp only [hcd2] at ihd
    clear hcu2 hcd2
    have hsum : IntKind.i64.wrap ((cu : Int) + (cd : Int)) = ((cu + cd : Nat) : Int) := by rw [IntKind.wrap_i64]; omega
    go_enter Tryd.func26, Tryd.ntmps26
    go_wp2_with fail
    refine (Hfirst.out w hT).mono ?_
    rintro e w' ⟨rfl, rfl⟩
    go_wp2_with fail
    refine (without_any _ _ _ (by omega) (by omega) (by omega) (by omega)).mono ?_
    rw [Hwo.out]
    rintro e w' ⟨rfl, rfl⟩
    go_wp2_with fail
    refine (with_any _ _ _ (by omega) (by omega) (by omega) (by omega)).mono ?_
    rw [Hwi.out]
    rintro e w' ⟨rfl, rfl⟩
    go_wp2_with fail
    refine (obelow_any _ n c zs (powI (a : Int)) hvo w hI (by omega) (by omega)).mono ?_
    rw [Hbe.out]
    rintro e w2 ⟨rfl, hB2⟩
    have z2 := hB2.size
    have hI2 := hI.to hB2 (Nat.le_refl _) z2
    have hT2 := hT.below hB2 hw1
    clear hI hT hcu
    go_wp2_with fail
    refine (ihu w2 hI2 hT2 (by omega)).mono ?_
    rintro e w3 ⟨rfl, hB3⟩
    have z3 := hB3.size
    have hI3 := hI2.to hB3 (Nat.le_refl _) z3
    have hT3 := hT2.below hB3 (by omega)
    clear hI2 hT2
    go_wp2_with fail
    refine (ihd w3 hI3 hT3 (by omega)).mono ?_
    rintro e w4 ⟨rfl, hB4⟩
    go_wp2_with fail
    go_ret
    exact ⟨ret_int (by rw [Hci.out]; rfl), (hB2.trans (hB3.mono z2)).trans (hB4.mono (by omega))⟩

theorem CountIdeals_any (A : Option Addr) (n c : Nat) (zs : List Int) (w : World) (h : Ints w w.heap.size A n zs) (hbig : n ≤ 1152921504606846976) (hT : Tab w) (hw1 : 1 < w.heap.size) :
    Calls Tryd.prog 12 #[.slice A n c] w fun e w' => e = .returned (.int .i64 (countIdealsR zs)) ∧ Below w.heap.size w w' := by
  have hlen := Lib.hid h.len
  cases hv : vo zs
  · have Ht := Lib.hid (show countIdealsR zs = -1 by unfold countIdealsR; rw [hv]; rfl)
    have Hv := Lib.hid hv
    clear hv
    go_enter Tryd.func12, Tryd.ntmps12
    go_wp2_with fail
    refine (readOrder_any _ _ _ zs _ h hbig).mono ?_
    rintro e w' ⟨hB, (⟨hv, b, rfl, _, _⟩ | ⟨_, rfl⟩)⟩
    · rw [Hv.out] at hv; cases hv
    · go_wp2_with fail
      go_ret
      exact ⟨ret_int Ht.out.symm, hB⟩
  · have hvo : VoP zs := by simpa [vo] using hv
    have Hv := Lib.hid hv
    clear hv
    have hn6 : n ≤ 6 := by have := hvo.1; rw [hlen.out] at this; exact this
    have hpp := Nat.two_pow_pos n
    have Ht := Lib.hid (show countIdealsR zs = (ciN zs (2 ^ n - 1) : Int) by unfold countIdealsR; rw [Hv.out, hlen.out]; rfl)
    have Hall := Lib.hid (show powI n - 1 = ((2 ^ n - 1 : Nat) : Int) by
      have : powI (n : Int) = ((2 ^ n : Nat) : Int) := by simp [powI]
      omega)
    go_enter Tryd.func12, Tryd.ntmps12
    go_wp2_with fail
    refine (readOrder_any _ _ _ zs _ h hbig).mono ?_
    rintro e w1 ⟨hB, (⟨_, b, rfl, hb, hAr⟩ | ⟨hv, _⟩)⟩
    · have z1 := hB.size
      go_wp2_with fail
      refine (oall_any _ _ _ _ hn6).mono ?_
      rintro e w' ⟨rfl, rfl⟩
      rw [Hall.out]
      go_wp2_with fail
      refine (ocountIdeals_any zs hvo n _ _ hlen.out _ (2 ^ n - 1) w1 (Nat.le_refl _) (by omega) (hAr.ints' hAr.lt hlen.out) (hT.below hB hw1) (by omega)).mono ?_
      rintro e w2 ⟨rfl, hB2⟩
      go_wp2_with fail
      go_ret
      exact ⟨ret_int Ht.out.symm, hB.trans (hB2.mono z1)⟩
    · rw [Hv.out] at hv; cases hv
end Go.Proofs.YtiicffibhjeabaaDoor

/- OrderOf: what follows. -/
namespace Go.Proofs.YtiicffibhjeabaaDoor
open Go.RowKit Go.Shelf

/-- One step: what is above m is put above l, if m is. -/
def fol1 (m : Nat) (d : List Int) (l : Nat) : List Int := if bitB (d[l]?.getD 0) m then d.set l (orI (d[l]?.getD 0) (d[m]?.getD 0)) else d
def folIn (m : Nat) (d : List Int) (b : Nat) : List Int := (List.range b).foldl (fol1 m) d
def folTo (n : Nat) (d : List Int) (a : Nat) : List Int := (List.range a).foldl (fun d m => folIn m d n) d
theorem folIn_succ (m : Nat) (d : List Int) (b : Nat) : folIn m d (b + 1) = fol1 m (folIn m d b) b := by simp [folIn, List.range_succ]
theorem folTo_succ (n : Nat) (d : List Int) (a : Nat) : folTo n d (a + 1) = folIn a (folTo n d a) n := by simp [folTo, List.range_succ]
def Fit (n : Nat) (d : List Int) : Prop := d.length = n ∧ ∀ j : Nat, 0 ≤ d[j]?.getD 0 ∧ d[j]?.getD 0 < powI n
theorem fol1_fit {n m l : Nat} {d : List Int} (h : Fit n d) : Fit n (fol1 m d l) := by
  unfold fol1
  split
  · refine ⟨by simpa using h.1, fun j => ?_⟩
    by_cases hj : l = j
    · subst hj
      by_cases hl : l < d.length
      · rw [List.getElem?_set_self hl]
        exact orI_bd (h.2 _).1 (h.2 _).2 (h.2 _).1 (h.2 _).2
      · rw [List.set_eq_of_length_le (by omega)]
        exact h.2 _
    · rw [List.getElem?_set_ne hj]
      exact h.2 j
  · exact h
theorem folIn_fit {n m : Nat} {d : List Int} (h : Fit n d) : ∀ b : Nat, Fit n (folIn m d b)
  | 0 => h
  | b + 1 => by rw [folIn_succ]; exact fol1_fit (folIn_fit h b)
theorem folTo_fit {n : Nat} {d : List Int} (h : Fit n d) : ∀ a : Nat, Fit n (folTo n d a)
  | 0 => h
  | a + 1 => by rw [folTo_succ]; exact folIn_fit (folTo_fit h a) n
theorem base_fit {n : Nat} {ps : List (Nat × Nat)} (h : ∀ p ∈ ps, p.1 < n) : Fit n (downP n ps) := ⟨downP_len _ _, fun j => downP_bd h j⟩

end Go.Proofs.YtiicffibhjeabaaDoor

/- OrderOf: the program's and the model's. -/
namespace Go.Proofs.YtiicffibhjeabaaDoor
open Go.RowKit Go.Shelf

/-- Whether a row is a pair of numbers of items. -/
def pairOk (n : Int) (r : List Int) : Bool := decide (r.length = 2) && inB (r[0]?.getD 0) 0 (n - 1) && inB (r[1]?.getD 0) 0 (n - 1)
def prOf (r : List Int) : Nat × Nat := ((r[1]?.getD 0).toNat, (r[0]?.getD 0).toNat)
def baseR (n : Nat) (rs : List (List Int)) : List Int := downP n (rs.map prOf)
def closR (n : Nat) (rs : List (List Int)) : List Int := folTo n (baseR n rs) n
def ordOk (n : Int) (rs : List (List Int)) : Bool := inB n 0 6 && rs.all (pairOk n) && vo (closR n.toNat rs)
def ordL (n : Int) (rs : List (List Int)) : List Int := if ordOk n rs then closR n.toNat rs else []
def GivesOrder (w : World) (n : Int) (rs : List (List Int)) (e : Ending) (w' : World) : Prop :=
  ∃ A m c, e = .returned (.tuple #[.slice A m c, .bool (ordOk n rs)]) ∧ Row w' w.heap.size w'.heap.size A m (ordL n rs) ∧ Below w.heap.size w w'

theorem inB_iff {a l h : Int} : inB a l h = true ↔ l ≤ a ∧ a ≤ h := by simp [inB]
theorem pairOk_iff {n : Int} {r : List Int} : pairOk n r = true ↔ r.length = 2 ∧ ((0 : Int) ≤ r[0]?.getD 0 ∧ r[0]?.getD 0 ≤ n - 1) ∧ ((0 : Int) ≤ r[1]?.getD 0 ∧ r[1]?.getD 0 ≤ n - 1) := by
  simp [pairOk, inB_iff, and_assoc]
theorem baseR_fit {n : Nat} {rs : List (List Int)} (h : ∀ r ∈ rs, pairOk n r = true) : Fit n (baseR n rs) ∧ Sets (baseR n rs) ∨ 6 < n := by
  by_cases hn : n ≤ 6
  · have hf : Fit n (baseR n rs) := base_fit (fun p hp => by
      obtain ⟨r, hr, rfl⟩ := List.mem_map.1 hp
      have := pairOk_iff.1 (h r hr)
      show (r[1]?.getD 0).toNat < n
      omega)
    exact .inl ⟨hf, by rw [hf.1]; exact hn, fun a _ => by rw [hf.1]; exact hf.2 a⟩
  · exact .inr (by omega)
theorem baseR_snoc (n : Nat) (rs : List (List Int)) (r : List Int) : baseR n (rs ++ [r]) = (baseR n rs).set (r[0]?.getD 0).toNat (orI ((baseR n rs)[(r[0]?.getD 0).toNat]?.getD 0) (powI (r[1]?.getD 0).toNat)) := by
  rw [baseR, List.map_append, List.map_singleton, downP_snoc]; rfl
theorem take_snoc {rs : List (List Int)} {k : Nat} (hk : k < rs.length) : rs.take k ++ [rs[k]?.getD []] = rs.take (k + 1) := by
  rw [List.take_succ_eq_append_getElem hk, List.getElem?_eq_getElem hk]; rfl
theorem fit_sets {n : Nat} {d : List Int} (h : Fit n d) (hn : n ≤ 6) : Sets d := ⟨by rw [h.1]; exact hn, fun a _ => by rw [h.1]; exact h.2 a⟩
theorem ord_no {n : Int} {rs : List (List Int)} {k : Nat} (hk : k < rs.length) (h : pairOk n (rs[k]?.getD []) = false) : ordOk n rs = false := by
  unfold ordOk
  rw [List.getElem?_eq_getElem hk, Option.getD_some] at h
  have : rs.all (pairOk n) = false := by
    rw [Bool.eq_false_iff]
    intro ha
    rw [List.all_eq_true.1 ha _ (List.getElem_mem hk)] at h
    cases h
  rw [this]; simp
theorem none_order {w w' : World} {n : Int} {rs : List (List Int)} (h : ordOk n rs = false) (hB : Below w.heap.size w w') : GivesOrder w n rs (.returned (.tuple #[.slice none 0 0, .bool false])) w' :=
  ⟨none, 0, 0, by rw [h], by rw [ordL, h]; exact Row.nil _ _ _ _, hB⟩

end Go.Proofs.YtiicffibhjeabaaDoor

/- What follows: the closure by single items is transitive, and is the least one; of next ones it is the order. No program. -/
namespace Go.Proofs.YtiicffibhjeabaaDoor

/-- Whether d holds the pair. -/
def qB (d : List Int) (a b : Nat) : Prop := bitB (d[a]?.getD 0) b = true
theorem qB_lt {n : Nat} {d : List Int} (h : d.length = n) {a b : Nat} (hq : qB d a b) : a < n := by
  rcases Nat.lt_or_ge a n with h1 | h1
  · exact h1
  · unfold qB at hq
    rw [List.getElem?_eq_none (by omega), Option.getD_none, bitB_zero] at hq
    cases hq
theorem fol1_q {m l : Nat} {d : List Int} (hl : l < d.length) (a b : Nat) : qB (fol1 m d l) a b ↔ qB d a b ∨ (a = l ∧ qB d l m ∧ qB d m b) := by
  unfold fol1
  split
  · rename_i h
    unfold qB
    by_cases ha : l = a
    · subst ha
      rw [List.getElem?_set_self hl, Option.getD_some, bitB_or, Bool.or_eq_true]
      simp [h]
    · rw [List.getElem?_set_ne ha]
      have : ¬ a = l := fun e => ha e.symm
      simp [this]
  · rename_i h
    unfold qB
    simp [h]
theorem folIn_len (m : Nat) (d : List Int) : ∀ b : Nat, (folIn m d b).length = d.length
  | 0 => rfl
  | b + 1 => by
    rw [folIn_succ]
    unfold fol1
    split
    · rw [List.length_set, folIn_len m d b]
    · exact folIn_len m d b
theorem folIn_q {m : Nat} {d : List Int} : ∀ b' : Nat, b' ≤ d.length → ∀ a b : Nat, qB (folIn m d b') a b ↔ qB d a b ∨ (a < b' ∧ qB d a m ∧ qB d m b)
  | 0, _, a, b => by simp [folIn]
  | b' + 1, h, a, b => by
    have ih := folIn_q (m := m) (d := d) b' (by omega)
    rw [folIn_succ, fol1_q (by rw [folIn_len]; omega), ih a b, ih b' m, ih m b]
    constructor
    · rintro ((h1 | ⟨h1, h2⟩) | ⟨rfl, (h1 | ⟨h1, _⟩), (h2 | ⟨_, _, h2⟩)⟩)
      · exact .inl h1
      · exact .inr ⟨by omega, h2⟩
      · exact .inr ⟨by omega, h1, h2⟩
      · exact .inr ⟨by omega, h1, h2⟩
      · omega
      · omega
    · rintro (h1 | ⟨h1, h2, h3⟩)
      · exact .inl (.inl h1)
      · rcases Nat.lt_or_ge a b' with h4 | h4
        · exact .inl (.inr ⟨h4, h2, h3⟩)
        · obtain rfl : a = b' := by omega
          exact .inr ⟨rfl, .inl h2, .inl h3⟩
theorem folTo_len (n : Nat) (d : List Int) : ∀ k : Nat, (folTo n d k).length = d.length
  | 0 => rfl
  | k + 1 => by rw [folTo_succ, folIn_len, folTo_len n d k]
theorem folTo_q {n : Nat} {d : List Int} (hd : d.length = n) (k a b : Nat) : qB (folTo n d (k + 1)) a b ↔ qB (folTo n d k) a b ∨ (qB (folTo n d k) a k ∧ qB (folTo n d k) k b) := by
  rw [folTo_succ, folIn_q n (by rw [folTo_len, hd]; exact Nat.le_refl _)]
  constructor
  · rintro (h | ⟨_, h⟩)
    · exact .inl h
    · exact .inr h
  · rintro (h | h)
    · exact .inl h
    · exact .inr ⟨qB_lt (by rw [folTo_len, hd]) h.1, h⟩
theorem folTo_base {n : Nat} {d : List Int} (hd : d.length = n) {a b : Nat} (h : qB d a b) : ∀ k : Nat, qB (folTo n d k) a b
  | 0 => h
  | k + 1 => (folTo_q hd k a b).2 (.inl (folTo_base hd h k))
theorem folTo_trans {n : Nat} {d : List Int} (hd : d.length = n) : ∀ k x : Nat, x < k → ∀ a b : Nat, qB (folTo n d k) a x → qB (folTo n d k) x b → qB (folTo n d k) a b
  | 0, _, h, _, _, _, _ => by omega
  | k + 1, x, hx, a, b, h1, h2 => by
    have ih := folTo_trans hd k
    rw [folTo_q hd] at h1 h2 ⊢
    rcases Nat.lt_or_ge x k with hk | hk
    · rcases h1 with h1 | ⟨h1, h1'⟩ <;> rcases h2 with h2 | ⟨h2, h2'⟩
      · exact .inl (ih x hk a b h1 h2)
      · exact .inr ⟨ih x hk a k h1 h2, h2'⟩
      · exact .inr ⟨h1, ih x hk k b h1' h2⟩
      · exact .inr ⟨h1, h2'⟩
    · obtain rfl : x = k := by omega
      have g1 : qB (folTo n d x) a x := by rcases h1 with h | h; exact h; exact h.1
      have g2 : qB (folTo n d x) x b := by rcases h2 with h | h; exact h; exact h.2
      exact .inr ⟨g1, g2⟩
theorem folTo_le {n : Nat} {d : List Int} (hd : d.length = n) {P : Nat → Nat → Prop} (hP : ∀ a b c, P a b → P b c → P a c) (h : ∀ a b, qB d a b → P a b) : ∀ k a b : Nat, qB (folTo n d k) a b → P a b
  | 0, a, b, hq => h a b hq
  | k + 1, a, b, hq => by
    have ih := folTo_le hd hP h k
    rcases (folTo_q hd k a b).1 hq with h1 | ⟨h1, h2⟩
    · exact ih a b h1
    · exact hP _ _ _ (ih a k h1) (ih k b h2)

theorem baseR_q {n : Nat} {rs : List (List Int)} (h : ∀ r ∈ rs, pairOk n r = true) (a b : Nat) : qB (baseR n rs) a b ↔ ∃ r ∈ rs, (r[0]?.getD 0).toNat = a ∧ (r[1]?.getD 0).toNat = b := by
  unfold qB baseR
  rw [downP_bit (fun p hp => by
    obtain ⟨r, hr, rfl⟩ := List.mem_map.1 hp
    have := pairOk_iff.1 (h r hr)
    show (r[0]?.getD 0).toNat < n
    omega), List.mem_map]
  constructor
  · rintro ⟨r, hr, e⟩
    simp only [prOf, Prod.mk.injEq] at e
    exact ⟨r, hr, e.2, e.1⟩
  · rintro ⟨r, hr, e1, e2⟩
    exact ⟨r, hr, by simp [prOf, e1, e2]⟩
theorem baseR_len (n : Nat) (rs : List (List Int)) : (baseR n rs).length = n := downP_len _ _
theorem closR_len (n : Nat) (rs : List (List Int)) : (closR n rs).length = n := by unfold closR; rw [folTo_len, baseR_len]
/-- Each pair is in the order. -/
theorem closR_has {n : Nat} {rs : List (List Int)} (h : ∀ r ∈ rs, pairOk n r = true) {r : List Int} (hr : r ∈ rs) : bitB ((closR n rs)[(r[0]?.getD 0).toNat]?.getD 0) (r[1]?.getD 0) = true := by
  have hq := folTo_base (baseR_len n rs) ((baseR_q h _ _).2 ⟨r, hr, rfl, rfl⟩) n
  have hp := pairOk_iff.1 (h r hr)
  unfold qB at hq
  rw [Int.toNat_of_nonneg hp.2.2.1] at hq
  exact hq

/-- Each pair of the order follows from next ones. -/
theorem covers_make {zs : List Int} (h : VoP zs) : ∀ (k a b : Nat), lt zs a b → rank zs b - rank zs a ≤ k → qB (closR zs.length (coversR zs)) a b := by
  have hcr : coversR zs = (covTo zs zs.length).map rowOf := by unfold coversR; rw [vo_true h]; rfl
  have hall : ∀ r ∈ coversR zs, pairOk zs.length r = true := fun r hr => by
    rw [hcr] at hr
    obtain ⟨p, hp, rfl⟩ := List.mem_map.1 hr
    rw [cov_pairs h.sets] at hp
    obtain ⟨h1, h2, _⟩ := h.sets.pair (a := p.1) (b := p.2) ((List.mem_filter.1 hp).1)
    rw [pairOk_iff]
    simp [rowOf]
    omega
  have hbase : ∀ a b, lt zs a b → nextB zs a b = true → qB (closR zs.length (coversR zs)) a b := fun a b hl hn => by
    refine folTo_base (baseR_len _ _) ((baseR_q hall a b).2 ⟨rowOf (a, b), ?_, by simp [rowOf], by simp [rowOf]⟩) _
    rw [hcr, cov_pairs h.sets]
    exact List.mem_map.2 ⟨(a, b), List.mem_filter.2 ⟨pairs_lt h hl, hn⟩, rfl⟩
  intro k
  induction k with
  | zero =>
    intro a b hl hk
    have := rank_lt h hl
    omega
  | succ k ih =>
    intro a b hl hk
    cases hn : nextB zs a b with
    | true => exact hbase a b hl hn
    | false =>
      unfold nextB at hn
      rw [List.all_eq_false] at hn
      obtain ⟨x, hx, hb⟩ := hn
      have hzb := h.sets.bd a hl.1
      have hxa : lt zs a x := ⟨hl.1, (mem_itemsL hzb.2).1 hx⟩
      have hxn := h.lt_n hxa
      have hxb : lt zs x b := ⟨hxn, by simpa using hb⟩
      have r1 := rank_lt h hxa
      have r2 := rank_lt h hxb
      exact folTo_trans (baseR_len _ _) _ x hxn a b (ih a x hxa (by omega)) (ih x b hxb (by omega))
theorem covers_ok {zs : List Int} (h : VoP zs) : ∀ r ∈ coversR zs, pairOk zs.length r = true := fun r hr => by
  have hcr : coversR zs = (covTo zs zs.length).map rowOf := by unfold coversR; rw [vo_true h]; rfl
  rw [hcr] at hr
  obtain ⟨p, hp, rfl⟩ := List.mem_map.1 hr
  rw [cov_pairs h.sets] at hp
  obtain ⟨h1, h2, _⟩ := h.sets.pair (a := p.1) (b := p.2) ((List.mem_filter.1 hp).1)
  rw [pairOk_iff]
  simp [rowOf]
  omega
theorem clos_covers {zs : List Int} (h : VoP zs) : closR zs.length (coversR zs) = zs := by
  have hok := covers_ok h
  have hcr : coversR zs = (covTo zs zs.length).map rowOf := by unfold coversR; rw [vo_true h]; rfl
  have hfit : Fit zs.length (closR zs.length (coversR zs)) := folTo_fit (((baseR_fit hok).resolve_right (by have := h.1; omega)).1) _
  refine List.ext_getElem (by rw [closR_len]) fun a h1 h2 => ?_
  have e1 : (closR zs.length (coversR zs))[a]?.getD 0 = (closR zs.length (coversR zs))[a] := by rw [List.getElem?_eq_getElem h1]; rfl
  have e2 : zs[a]?.getD 0 = zs[a] := by rw [List.getElem?_eq_getElem h2]; rfl
  rw [← e1, ← e2]
  refine bitB_ext (hfit.2 a).1 (h.bd a h2).1 fun b => ?_
  rw [Bool.eq_iff_iff]
  constructor
  · intro hq
    refine (folTo_le (baseR_len _ _) (P := lt zs) (fun x y z => h.trans) (fun x y hxy => ?_) _ a b hq).2
    obtain ⟨r, hr, rfl, rfl⟩ := (baseR_q hok x y).1 hxy
    rw [hcr] at hr
    obtain ⟨p, hp, rfl⟩ := List.mem_map.1 hr
    rw [cov_pairs h.sets] at hp
    have := lt_pairs ((List.mem_filter.1 hp).1)
    simpa [rowOf] using this
  · intro hb
    exact covers_make h _ a b ⟨h2, hb⟩ (Nat.le_refl _)
theorem ord_covers {zs : List Int} (h : VoP zs) : ordOk zs.length (coversR zs) = true ∧ ordL zs.length (coversR zs) = zs := by
  have hok : ordOk (zs.length : Int) (coversR zs) = true := by
    unfold ordOk
    rw [Int.toNat_natCast, clos_covers h, vo_true h, List.all_eq_true.2 (covers_ok h)]
    have := h.1
    simp [inB]
    omega
  refine ⟨hok, ?_⟩
  unfold ordL
  rw [if_pos hok, Int.toNat_natCast, clos_covers h]
theorem covers_few {zs : List Int} (h : VoP zs) : (coversR zs).length ≤ 1048576 ∧ ∀ r ∈ coversR zs, r.length ≤ 1048576 := by
  refine ⟨?_, fun r hr => by have := (pairOk_iff.1 (covers_ok h r hr)).1; omega⟩
  have hcr : coversR zs = (covTo zs zs.length).map rowOf := by unfold coversR; rw [vo_true h]; rfl
  have h1 := covTo_len (zs := zs) zs.length
  have h2 := h.1
  rw [hcr, List.length_map]
  omega
/-- What an order made of pairs is. -/
theorem ord_is {n : Int} {rs : List (List Int)} (h : ordOk n rs = true) : VoP (ordL n rs) ∧ ((ordL n rs).length : Int) = n ∧ (∀ r ∈ rs, pairOk n r = true) ∧
    ∀ r ∈ rs, bitB ((ordL n rs)[(r[0]?.getD 0).toNat]?.getD 0) (r[1]?.getD 0) = true := by
  have h' := h
  unfold ordOk at h
  simp only [Bool.and_eq_true, List.all_eq_true] at h
  obtain ⟨⟨h1, h2⟩, h3⟩ := h
  have hn := inB_iff.1 h1
  have e : ordL n rs = closR n.toNat rs := by unfold ordL; rw [if_pos h']
  have hN : ((n.toNat : Nat) : Int) = n := by omega
  refine ⟨by rw [e]; simpa [vo] using h3, by rw [e, closR_len]; exact hN, h2, fun r hr => ?_⟩
  rw [e]
  exact closR_has (fun r hr => by rw [hN]; exact h2 r hr) hr
end Go.Proofs.YtiicffibhjeabaaDoor

/- How many ways what is left is lined up: the program's count, with what it has counted before in a map. -/
namespace Go.Proofs.YtiicffibhjeabaaDoor
open Go.RowKit Go.Shelf
attribute [local go_sem] Oper.semAt_some
attribute [local go_sem, local simp] wide_fn

/-- A set, as a key. -/
def keyN (s : Nat) : Lit := .int .i64 (s : Int)
theorem keyN_wf {s : Nat} (hs : s < 64) : (Lit.int .i64 (s : Int)).wf = true := by
  simp [Lit.wf, IntKind.min, IntKind.max, IntKind.signed, IntKind.bits]; omega
/-- The map in block m, written at most k times, holds counts that are right. -/
def MapOk (zs : List Int) (w : World) (m k : Nat) : Prop := ∃ D : DataW Unit, w.ownsMap Tryd.prog 48 (plainElem Tryd.prog 3) m k D ∧
  ∀ s : Nat, s < 64 → Maps.has D (keyN s) = true → ∀ d, D.atKey (keyN s) d = .lit (.int .i64 (cF zs s))
theorem MapOk.lt {zs : List Int} {w : World} {m k : Nat} (h : MapOk zs w m k) : m < w.heap.size := by
  obtain ⟨D, ⟨es, clock, hb, _⟩, _⟩ := h
  exact (Array.getElem?_eq_some_iff.1 hb).1
theorem MapOk.upd {zs : List Int} {w w' : World} {m k : Nat} {R : Nat → Prop} (h : MapOk zs w m k) (hu : Upd R w w') (hr : ¬ R m) : MapOk zs w' m k := by
  have hl := h.lt
  obtain ⟨D, ⟨es, clock, hb, r⟩, hin⟩ := h
  exact ⟨D, ⟨es, clock, (hu.block m hl hr).trans hb, r⟩, hin⟩
theorem MapOk.mono {zs : List Int} {w : World} {m k k' : Nat} (h : MapOk zs w m k) (hk : k ≤ k') : MapOk zs w m k' := by
  obtain ⟨D, h1, h2⟩ := h
  exact ⟨D, h1.mono hk, h2⟩
theorem MapOk.new {zs : List Int} {w : World} {m : Nat} (h : w.heap[m]? = some (.map #[] 0)) : MapOk zs w m 0 := by
  obtain ⟨es, clock, hb, F, hs, hD⟩ := World.ownsMap_made (H := Unit) w Tryd.prog 48 (plainElem Tryd.prog 3)
  rw [heap_alloc_new] at hb
  cases hb
  refine ⟨.map [], ⟨#[], 0, h, F, hs, hD⟩, fun s _ hh => ?_⟩
  simp [Maps.has] at hh
theorem keyed : Go.Maps.Keyed Tryd.prog 48 := Go.Maps.int_keyed Tryd.underlying48
theorem key_of {s : Nat} (hs : s < 64) : keyOf Tryd.prog 48 (.int .i64 (s : Int)) = some (keyN s) := Go.Maps.keyOf_int_mk Tryd.underlying48 (keyN_wf hs)
theorem keyN_lit (s : Nat) : WideAt.IsKeyLit (keyN s) := trivial
theorem MapOk.put {zs : List Int} {w : World} {m k s : Nat} {D : DataW Unit} (h : ∀ t : Nat, t < 64 → Maps.has D (keyN t) = true → ∀ d, D.atKey (keyN t) d = .lit (.int .i64 (cF zs t)))
    (hm : Maps.IsMap D) (hw : w.ownsMap Tryd.prog 48 (plainElem Tryd.prog 3) m k (D.put (keyN s) (.lit (.int .i64 (cF zs s))))) : MapOk zs w m k := by
  refine ⟨_, hw, fun t ht hh d => ?_⟩
  by_cases hts : t = s
  · subst hts
    exact Maps.atKey_put_same hm (keyN_lit t) _ _
  · have hne : keyN t ≠ keyN s := fun e => by unfold keyN at e; injection e with _ e; omega
    rw [Maps.atKey_put_other hne]
    rw [Maps.has_put_other hne] at hh
    exact h t ht hh d
theorem zero_int (w : World) : (zeroValue 3).run Tryd.prog w = .ok (.int .i64 0) w := by kernel_rfl

set_option maxRecDepth 100000 in
set_option maxHeartbeats 4000000 in
theorem lcount_any (zs : List Int) (hvo : VoP zs) (n : Nat) (hlen0 : zs.length = n) (b m : Nat) (hbm : b ≠ m) : ∀ (N s k : Nat) (w : World), s ≤ N → s < 2 ^ n → Arr w b 48 (du zs) → MapOk zs w m k → k + writes s ≤ 100000000 →
    Calls Tryd.prog 40 #[lineV b m n, .int .i64 (s : Int)] w fun e w' => e = .returned (.int .i64 (cF zs s)) ∧ MapOk zs w' m (k + writes s) ∧ Upd (fun i => i = m) w w' := by
    intro N
    refine Nat.strongRecOn N fun N ih => ?_
    intro s k w hN hs hA hM hk
    have hlen := Lib.hid hlen0
    have hn6 : n ≤ 6 := by have := hvo.1; rw [hlen0] at this; exact this
    have hs64 : s < 64 := Nat.lt_of_lt_of_le hs (pow_le64 hn6)
    have hwr := writes_le hs64
    have hml := hM.lt
    have hbl := hA.lt
    clear hlen0
    have hM0 := hM
    obtain ⟨D, hown, hin⟩ := hM
    have Hin := Lib.hid hin
    clear hin
    unfold lineV
    by_cases h0 : s = 0
    · subst h0
      have Hc := Lib.hid (cF_zero zs)
      go_enter Tryd.func40, Tryd.ntmps40
      go_wp2
      go_ret
      exact ⟨ret_int (by rw [Hc.out]; rfl), (hM0.upd (((Upd.refl (fun _ => False) w).alloc _).alloc _) (fun e => e)).mono (by omega), (((Upd.refl _ w).alloc _).alloc _)⟩
    · have hsb : ((s : Int) == 0) = false := by simpa using h0
      have hz : ∀ w, (zeroValue 3).run Tryd.prog w = .ok (.int .i64 0) w := zero_int
      cases hh : Maps.has D (keyN s)
      · refine (callsIn_wide (n := 9)).1 ?_
        refine callsIn_of_wp_marks Tryd.func40 rfl trivial ?_ rfl
        simp only [Tryd.ntmps40, List.size_toArray, List.length_cons, List.length_nil, Nat.reduceAdd, Nat.reduceSub, Array.replicate_succ, Array.replicate_zero, List.push_toArray, List.append_toArray, List.nil_append, List.cons_append]
        have hN := Lib.hid (show powI n = ((2 ^ n : Nat) : Int) by simp [powI])
        have bL : (((w.alloc (.cells #[Value.slice (some ⟨b, 0, none⟩) n n, .map (some m)] 60)).alloc (.cells #[Value.int .i64 (s : Int)] 48)).alloc (.cells #[Value.int .i64 0] 3)).heap[w.heap.size]? = some (.cells #[Value.slice (some ⟨b, 0, none⟩) n n, .map (some m)] 60 (0, 0)) := ((Below.heap_alloc _ _ _ (by simp; omega)).trans (Below.heap_alloc _ _ _ (by simp))).trans (heap_alloc_new w _)
        have bS := (Boxed.new (w.alloc (.cells #[Value.slice (some ⟨b, 0, none⟩) n n, .map (some m)] 60)) 48 (.int .i64 (s : Int))).alloc (.cells #[Value.int .i64 0] 3)
        have bC := Boxed.new ((w.alloc (.cells #[Value.slice (some ⟨b, 0, none⟩) n n, .map (some m)] 60)).alloc (.cells #[Value.int .i64 (s : Int)] 48)) 3 (.int .i64 0)
        have hu0 : Upd (fun _ => False) w (((w.alloc (.cells #[Value.slice (some ⟨b, 0, none⟩) n n, .map (some m)] 60)).alloc (.cells #[Value.int .i64 (s : Int)] 48)).alloc (.cells #[Value.int .i64 0] 3)) := (((Upd.refl _ w).alloc _).alloc _).alloc _
        have hz0 : (((w.alloc (.cells #[Value.slice (some ⟨b, 0, none⟩) n n, .map (some m)] 60)).alloc (.cells #[Value.int .i64 (s : Int)] 48)).alloc (.cells #[Value.int .i64 0] 3)).heap.size = w.heap.size + 3 := by simp
        simp only [World.size_alloc] at bS bC
        gi_wp2_with (first
          | (gi_at_lookup; refine wpListIn_lookup_own_ok_int _ rfl _ _ _ rfl 48 3 .i64 keyed Tryd.underlying58 Tryd.underlying3 (zero_int _) m k D rfl ((hown.alloc _).alloc _) _ (keyN s) rfl (key_of hs64) ?_; rw [hh]; intro c hat hwc)
          | (refine wpListIn_load_row rfl _ _ rfl w.heap.size rfl _ _ (0, 0) _ bL Tryd.underlying60 rfl (by kernel_rfl) ?_))
        clear hat hwc
        obtain ⟨X, hX⟩ : ∃ X, (((w.alloc (.cells #[Value.slice (some ⟨b, 0, none⟩) n n, .map (some m)] 60)).alloc (.cells #[Value.int .i64 (s : Int)] 48)).alloc (.cells #[Value.int .i64 0] 3)) = X := ⟨_, rfl⟩
        rw [hX] at bL bS bC hu0 hz0 ⊢
        clear hX
        have hAX : Arr X b 48 (du zs) := hA.upd hu0 (fun e => e)
        have hpos := powI_pos (n : Int)
        have hNs : (s : Int) < powI n := by rw [hN.out]; omega
        refine (callsIn_wide.2 (free_any b m n zs s hvo.sets X (hAX.ints' hAX.lt (by rw [du_len, hlen.out])) (by omega) hNs)).mono ?_
        rintro e w4 ⟨rfl, hB4⟩
        have z4 := hB4.size
        have hT := topsTo_bd (du zs) (s : Int) n
        have hpn : powI n ≤ 64 := powI_le6 (by omega)
        have Hnx := Lib.hid (show itemsL (topsTo (du zs) (s : Int) n) = nextL zs s by unfold nextL; rw [hlen.out])
        generalize topsTo (du zs) (s : Int) n = T at *
        gi_wp2_with (gi_at_call 52; refine (callsIn_wide.2 (each_any _ _)).mono ?_; rintro e w' ⟨rfl, rfl⟩)
        have bE := Boxed.new w4 48 (.int .i64 T)
        have hu4 : Upd (fun _ => False) X (w4.alloc (.cells #[Value.int .i64 T] 48)) := ((Upd.refl _ X).below hB4 (fun k h1 h2 => by omega)).alloc _
        have hzz : (w4.alloc (.cells #[Value.int .i64 T] 48)).heap.size = w4.heap.size + 1 := by simp
        obtain ⟨W0, hW0⟩ : ∃ W0, w4.alloc (.cells #[Value.int .i64 T] 48) = W0 := ⟨_, rfl⟩
        rw [hW0] at bE hu4 hzz ⊢
        clear hW0
        have hA0 := hAX.upd hu4 (fun e => e)
        have hM1 := (hM0.upd hu0 (fun e => e)).upd hu4 (fun e => e)
        have bL0 := (hu4.block w.heap.size (by omega) (fun e => e)).trans bL
        have bS0 := hu4.boxed bS (fun e => e)
        have bC0 := hu4.boxed bC (fun e => e)
        have hU0 : Upd (fun _ => False) w W0 := hu0.trans' hu4 (fun i hi e => e)
        clear hu0 hu4 bL bS bC hAX hB4
        refine range_out (n := 9) (gf := 62) (lb := #[.pointer (some ⟨w4.heap.size, 0, none⟩)]) rfl (enters_of Tryd.func62 (by kernel_rfl) rfl) (encs := encI) (L := itemsL T)
          (fun i => i = m ∨ i = w.heap.size + 1 + 1) (fun i e => by omega) (fun _ => rfl)
          (fun W1 l1 hu1 hl1 hl2 => each_iter T hT.1 (by omega) _ _ W1 (hu1.boxed bE (fun e => e)) (fun e => by omega))
          (fun pre D W => Boxed W (w.heap.size + 1 + 1) 3 (.int .i64 (accF zs s pre : Int)) ∧ MapOk zs W m (k + pre.length * (writes s / 7)) ∧ Upd (fun i => i = m ∨ i = w.heap.size + 1 + 1) W0 W)
          (fun _ _ _ _ => False)
          (fun _ D X Y hs hu => ⟨hu.boxed hs.1 (fun e => by omega), hs.2.1.upd hu (fun e => by omega), hs.2.2.trans' hu (fun i hi e => by omega)⟩)
          (fun _ _ _ _ _ hs _ => hs)
          ⟨bC0, by simpa using hM1, Upd.refl _ _⟩ ?owes ?done ?stop
        case owes =>
          rintro l1 pre x D1 W hl1 hl2 hDl hD1 - hpre K hK
          gi_wp2
          refine hK _ _ (Upd.refl _ _) ?_
          rintro Wb hWb - ⟨bC1, hM2, hU⟩
          clear hK
          rw [Hnx.out] at hpre
          obtain ⟨hxn, hxb⟩ := nextL_mem hvo (hpre.subset (by simp : x ∈ pre ++ [x]))
          rw [hlen.out] at hxn
          have hge := ge_bit_fin ⟨s, hs64⟩ ⟨x, by omega⟩ hxb
          simp only at hge
          have hpx := Nat.two_pow_pos x
          have Hacc := Lib.hid (accF_snoc zs s pre x)
          have hab := accF_le hvo h0 (by rw [hlen.out]; exact hs) hpre
          rw [Hacc.out] at hab
          have Hwo := Lib.hid (without_is hs64 (show x < 6 by omega) hxb)
          have hwx := writes_sub hs64 (show x < 6 by omega) hxb
          have hpl : pre.length + 1 ≤ 6 := by
            have h1 := hpre.length_le
            have h2 := nextL_len hvo s
            simp at h1; omega
          have hsb2 := hU.size
          have hsb : w.heap.size + 3 ≤ Wb.heap.size := by omega
          have bC1d : Boxed Wb.drew (w.heap.size + 1 + 1) 3 (.int .i64 (accF zs s pre : Int)) := bC1
          have bSb := hU.boxed bS0 (fun e => by omega)
          have bLb := (hU.block w.heap.size (by omega) (fun e => by omega)).trans bL0
          have hAb : Arr Wb b 48 (du zs) := hA0.upd hU (fun e => by omega)
          have hAd : Arr Wb.drew b 48 (du zs) := hAb
          have hMd : MapOk zs Wb.drew m (k + pre.length * (writes s / 7)) := hM2
          have hw7 : writes s / 7 = writes (s - 2 ^ x) := by omega
          rw [hw7] at hMd
          have hq1 := (writes_le (show s - 2 ^ x < 64 by omega)).1
          have hmul : pre.length * writes (s - 2 ^ x) ≤ 5 * writes (s - 2 ^ x) := Nat.mul_le_mul_right _ (by omega)
          have hrec := fun w' hA' hM' => ih (s - 2 ^ x) (by omega) (s - 2 ^ x) (k + pre.length * writes (s - 2 ^ x)) w' (Nat.le_refl _) (by omega) hA' hM' (by omega)
          have Hw7 := Lib.hid hw7
          have Hlen2 := Lib.hid (show k + pre.length * writes (s - 2 ^ x) + writes (s - 2 ^ x) = k + (pre ++ [x]).length * writes (s - 2 ^ x) by rw [List.length_append, List.length_singleton, Nat.add_mul]; omega)
          clear hw7 hwx
          generalize hacc : accF zs s pre = acc at *
          clear hacc
          obtain ⟨c, hc⟩ : ∃ c, cF zs (s - 2 ^ x) = c := ⟨_, rfl⟩
          rw [hc] at hab Hacc
          simp only [hc] at hrec
          clear hc
          have hsum : IntKind.i64.wrap ((acc : Int) + (c : Int)) = ((acc + c : Nat) : Int) := by rw [IntKind.wrap_i64]; omega
          have hHeld : (fun w' => w'.cell? ⟨w.heap.size + 1 + 1, 0, none⟩ = some (.int .i64 (acc : Int)) ∧ w'.heap[w.heap.size]? = some (.cells #[Value.slice (some ⟨b, 0, none⟩) n n, .map (some m)] 60 (0, 0)) ∧ w'.cell? ⟨w.heap.size + 1, 0, none⟩ = some (.int .i64 (s : Int))) Wb.drew := ⟨bC1.cell, bLb, bSb.cell⟩
          gi_wp2
          refine region_T_round (S := fun w' => w'.cell? ⟨w.heap.size + 1 + 1, 0, none⟩ = some (.int .i64 (acc : Int)) ∧ w'.heap[w.heap.size]? = some (.cells #[Value.slice (some ⟨b, 0, none⟩) n n, .map (some m)] 60 (0, 0)) ∧ w'.cell? ⟨w.heap.size + 1, 0, none⟩ = some (.int .i64 (s : Int))) 7 (by kernel_rfl) (by kernel_rfl) (by rintro ⟨_, _, h⟩; exact h) ?_
          refine anyT_take (i := 0) (oi := ?oi0) (v := ?v0) ?hi0 (by kernel_rfl) ?hq0 ?hy0 (by assumption) ?rest0
          case hi0 => (simp only [List.getElem?_toArray, List.getElem?_cons_zero]; first | done | rfl)
          case hq0 => exact fun _ _ _ h => h
          case hy0 => (refine Or.inl ⟨by rfl, ?_⟩; intro wz hSw; obtain ⟨hSa, hSb, hSc⟩ := hSw; go_simp; first | done | with_reducible rfl)
          try simp only [Act.put, List.setIfInBounds_toArray, List.set_cons_zero, List.set_cons_succ]
          refine anyT_take (i := 1) (oi := ?oi1) (v := .agg #[Value.slice (some ⟨b, 0, none⟩) n n, .map (some m)]) ?hi1 (by kernel_rfl) ?hq1 ?hy1 (by assumption) ?rest1
          case hi1 => (simp only [List.getElem?_toArray, List.getElem?_cons_succ, List.getElem?_cons_zero]; first | done | rfl)
          case hq1 => exact fun _ _ _ h => h
          case hy1 => exact yieldsIf_load_row (by rfl) _ _ rfl _ rfl _ _ _ (fun _ h => h.2.1) Tryd.underlying60 rfl (by kernel_rfl)
          try simp only [Act.put, List.setIfInBounds_toArray, List.set_cons_zero, List.set_cons_succ]
          refine anyT_take (i := 2) (oi := ?oi2) (v := ?v2) ?hi2 (by kernel_rfl) ?hq2 ?hy2 (by assumption) ?rest2
          case hi2 => (simp only [List.getElem?_toArray, List.getElem?_cons_succ, List.getElem?_cons_zero]; first | done | rfl)
          case hq2 => exact fun _ _ _ h => h
          case hy2 => (refine Or.inl ⟨by rfl, ?_⟩; intro wz hSw; obtain ⟨hSa, hSb, hSc⟩ := hSw; go_simp; first | done | with_reducible rfl)
          try simp only [Act.put, List.setIfInBounds_toArray, List.set_cons_zero, List.set_cons_succ]
          refine anyT_take (i := 3) (oi := ?oi3) (v := ?v3) ?hi3 (by kernel_rfl) ?hq3 ?hy3 (by assumption) ?rest3
          case hi3 => (simp only [List.getElem?_toArray, List.getElem?_cons_succ, List.getElem?_cons_zero]; first | done | rfl)
          case hq3 => exact fun _ _ _ h => h
          case hy3 => (refine Or.inl ⟨by rfl, ?_⟩; intro wz hSw; obtain ⟨hSa, hSb, hSc⟩ := hSw; go_simp; first | done | with_reducible rfl)
          try simp only [Act.put, List.setIfInBounds_toArray, List.set_cons_zero, List.set_cons_succ]
          refine anyT_one (i := 4) (by kernel_rfl) rfl (fun K' hK => ?_)
          go_simp
          refine (without_any _ _ _ (by omega) (by omega) (by omega) (by omega)).mono ?_
          rintro e wq ⟨rfl, rfl⟩
          rw [Hwo.out]
          refine hK.out _ _ (fun _ => hHeld) ?_
          clear hK K'
          try simp only [Act.put, List.setIfInBounds_toArray, List.set_cons_zero, List.set_cons_succ]
          refine anyT_one (i := 5) (by kernel_rfl) rfl (fun K' hK => ?_)
          go_simp
          refine (hrec Wb.drew hAd hMd).mono ?_
          rintro e w6 ⟨rfl, hM6, hU6⟩
          have h6 : (fun w' => w'.cell? ⟨w.heap.size + 1 + 1, 0, none⟩ = some (.int .i64 (acc : Int)) ∧ w'.heap[w.heap.size]? = some (.cells #[Value.slice (some ⟨b, 0, none⟩) n n, .map (some m)] 60 (0, 0)) ∧ w'.cell? ⟨w.heap.size + 1, 0, none⟩ = some (.int .i64 (s : Int))) w6 := ⟨hU6.cell hHeld.1 (by simp; omega), (hU6.block w.heap.size (by have := hsb; simp; omega) (by omega)).trans hHeld.2.1, hU6.cell hHeld.2.2 (by simp; omega)⟩
          refine hK.out _ _ (fun _ => h6) ?_
          clear hK K' hHeld
          have hHeld := h6
          try simp only [Act.put, List.setIfInBounds_toArray, List.set_cons_zero, List.set_cons_succ]
          refine anyT_take (i := 6) (oi := ?oi6) (v := .int .i64 ((acc + c : Nat) : Int)) ?hi6 (by kernel_rfl) ?hq6 ?hy6 (by assumption) ?rest6
          case hi6 => (simp only [List.getElem?_toArray, List.getElem?_cons_succ, List.getElem?_cons_zero]; first | done | rfl)
          case hq6 => exact fun _ _ _ h => h
          case hy6 => (refine Or.inl ⟨by rfl, ?_⟩; intro wz hSw; obtain ⟨hSa, hSb, hSc⟩ := hSw; go_simp; first | done | with_reducible rfl | simp)
          try simp only [Act.put, List.setIfInBounds_toArray, List.set_cons_zero, List.set_cons_succ]
          have hcC6 := h6.1
          have hfC6 := (hU6.boxed (v := .int .i64 (acc : Int)) (t := 3) bC1d (by omega)).frozen
          refine anyT_one (i := 7) (by kernel_rfl) rfl (fun K' hK => ?_)
          go_simp
          refine hK.out _ _ (fun h => absurd rfl h) ?_
          clear hK K'
          try simp only [Act.put, List.setIfInBounds_toArray, List.set_cons_zero, List.set_cons_succ]
          refine anyT_done (by kernel_rfl) ?_ _
          have bC6 : Boxed w6 (w.heap.size + 1 + 1) 3 (.int .i64 (acc : Int)) := hU6.boxed bC1d (by omega)
          have hz6 : Wb.heap.size ≤ w6.heap.size := hU6.size
          have hus : Upd (fun i => i = w.heap.size + 1 + 1) w6 (w6.setCell ⟨w.heap.size + 1 + 1, 0, none⟩ (.int .i64 ((acc + c : Nat) : Int))) := (Upd.refl (fun i => i = w.heap.size + 1 + 1) w6).setCell (p := ⟨w.heap.size + 1 + 1, 0, none⟩) (.inr rfl) _
          have hM7 : MapOk zs w6 m (k + (pre ++ [x]).length * (writes s / 7)) := by rw [Hw7.out, ← Hlen2.out]; exact hM6
          have hU7 : Upd (fun i => i = m ∨ i = w.heap.size + 1 + 1) W0 w6 := hU.drew.trans' hU6 (fun i hi e => .inl e)
          have hV7 : Upd (fun i => (i = m ∨ i = w.heap.size + 1 + 1) ∨ D1 i ∨ W.heap.size ≤ i) Wb w6 := (Upd.refl _ Wb).drew.trans' hU6 (fun i hi e => .inl (.inl e))
          gi_wp2
          exact ⟨D1, ⟨by rw [Hacc.out]; exact bC6.set _, hM7.upd hus (fun e => by omega), hU7.setCell (p := ⟨w.heap.size + 1 + 1, 0, none⟩) (.inr (.inr rfl)) _⟩, hV7.setCell (p := ⟨w.heap.size + 1 + 1, 0, none⟩) (.inr (.inl (.inr rfl))) _, fun k hk => .inl hk⟩
        case done =>
          rintro d D1 W hd ⟨bC1, hM2, hU⟩ hD1 hKd
          rw [Hnx.out] at bC1 hM2
          rw [accF_all hvo h0] at bC1
          have hcf := cF_le hvo (s := s) (by rw [hlen.out]; exact hs)
          have hll := nextL_len hvo s
          have hfin : k + (nextL zs s).length * (writes s / 7) + 1 ≤ k + writes s := by
            by_cases hl0 : (nextL zs s).length = 0
            · rw [hl0, Nat.zero_mul]; omega
            · obtain ⟨x, hx⟩ := List.exists_mem_of_length_pos (show 0 < (nextL zs s).length by omega)
              obtain ⟨hxn, hxb⟩ := nextL_mem hvo hx
              rw [hlen.out] at hxn
              have hwx := writes_sub hs64 (show x < 6 by omega) hxb
              have hge := ge_bit_fin ⟨s, hs64⟩ ⟨x, by omega⟩ hxb
              simp only at hge
              have hpx := Nat.two_pow_pos x
              have hq1 := (writes_le (show s - 2 ^ x < 64 by omega)).1
              have hmul : (nextL zs s).length * (writes s / 7) ≤ 6 * (writes s / 7) := Nat.mul_le_mul_right _ hll
              generalize (nextL zs s).length * (writes s / 7) = P at *
              generalize writes (s - 2 ^ x) = q at *
              omega
          have hlt := (Array.getElem?_eq_some_iff.1 hKd).1
          have bLd := (hU.block w.heap.size (by omega) (fun e => by omega)).trans bL0
          have bSd := hU.boxed bS0 (fun e => by omega)
          have hcL : W.cell? ⟨w.heap.size, 1, none⟩ = some (.map (some m)) := by rw [cell_of_row W _ 1 _ _ (0, 0) bLd]; rfl
          have hcS := bSd.cell
          have hcC := bC1.cell
          have hmW := hM2.lt
          obtain ⟨D', hown', hin'⟩ := hM2
          have Hin' := Lib.hid hin'
          clear hin'
          have hval := plainElem_int (H := Unit) (P := Tryd.prog) Tryd.underlying3 (show (Lit.int .i64 (cF zs s : Int)).wf = true by simp [Lit.wf, IntKind.min, IntKind.max, IntKind.signed, IntKind.bits]; omega)
          have hkM : k + (nextL zs s).length * (writes s / 7) < maxLen := by unfold maxLen; omega
          have Hc0 : some m ≠ some (w.heap.size + 1 + 1) := fun e => by cases e; omega
          generalize hcc : cF zs s = cc at *
          have Hcc := Lib.hid hcc
          clear hcc
          gi_wp2_with (gi_at_mapUpdate; refine wpListIn_mapUpdate_own _ rfl _ _ _ _ rfl 48 3 keyed Tryd.underlying58 _ m _ D' rfl hown' hkM _ _ (keyN s) rfl rfl (key_of hs64) _ [] hval ?_; intro w1 hown1 hg1; have bC2 := bC1.kept hg1 (fun e => by cases e; omega); have hcC2 := bC2.cell)
          rename_i w1
          have hM9 : MapOk zs w1 m (k + (nextL zs s).length * (writes s / 7) + 1) := MapOk.put (s := s) Hin'.out hown'.isMap (by rw [Hcc.out]; exact hown1)
          have hU9 : Upd (fun i => i = m ∨ i = w.heap.size + 1 + 1) W0 w1 := hU.grown hg1 (fun i e => by cases e; exact .inr (.inl rfl))
          have hK9 : w1.heap[d]? = some _ := (hg1.block d hlt (fun e => by cases e; omega)).trans hKd
          refine leaves_marks [d] w1 ⟨by simp, fun e he => ?_⟩ (fun W' hu' => ?_)
          · rw [List.mem_singleton.1 he]
            exact hK9
          · refine ⟨.int .i64 (cc : Int), by simp [results, Tryd.f40, go_sem], ret_int (by rw [Hcc.out]), (hM9.upd hu' (fun e => by simp at e; omega)).mono hfin, ?_⟩
            exact ((hU0.mono fun _ _ e => e.elim).trans' hU9 (fun i hi e => by omega)).trans' hu' (fun i hi e => by simp at e; omega)
        case stop =>
          rintro d D1 co pre W hd hpre h
          exact h.elim
      · have Hat := Lib.hid (Hin.out s hs64 hh)
        go_enter Tryd.func40, Tryd.ntmps40
        go_wp2_with (at_lookup; refine wpList_lookup_own_ok_int _ rfl _ _ _ rfl 48 3 .i64 keyed Tryd.underlying58 Tryd.underlying3 (zero_int _) m k D rfl ((hown.alloc _).alloc _) _ (keyN s) rfl (key_of hs64) ?_; rw [hh]; intro c hat hwc)
        go_ret
        refine ⟨ret_int ?_, hM0.upd (((Upd.refl (fun _ => False) w).alloc _).alloc _) (fun e => e) |>.mono (by omega), (((Upd.refl _ w).alloc _).alloc _)⟩
        have := Hat.out (.lit (.int .i64 0))
        rw [hat] at this
        injection this with this
        injection this
end Go.Proofs.YtiicffibhjeabaaDoor

/- CountLines: the program's. -/
namespace Go.Proofs.YtiicffibhjeabaaDoor
open Go.RowKit Go.Shelf

theorem ocountLines_any (A : Option Addr) (n c : Nat) (zs : List Int) (hvo : VoP zs) (w : World) (hA : Ints w w.heap.size A n zs) :
    Calls Tryd.prog 25 #[.slice A n c] w fun e w' => e = .returned (.int .i64 (cF zs (2 ^ n - 1))) ∧ Below w.heap.size w w' := by
  have hlen := Lib.hid hA.len
  have hn6 : n ≤ 6 := by have := hvo.1; rw [hlen.out] at this; exact this
  have hp64 := pow_le64 hn6
  have hpp := Nat.two_pow_pos n
  have Hall := Lib.hid (show powI n - 1 = ((2 ^ n - 1 : Nat) : Int) by
    have : powI (n : Int) = ((2 ^ n : Nat) : Int) := by simp [powI]
    omega)
  have hwr := writes_le (show 2 ^ n - 1 < 64 by omega)
  go_enter Tryd.func25, Tryd.ntmps25
  go_wp2_with fail
  refine (lineup_any A n c zs hvo.sets w hA).mono ?_
  rintro e w1 ⟨b, m, rfl, hAr, hm, hb1, hm1, hbm, hB1⟩
  go_wp2_with fail
  refine (oall_any _ _ _ _ hn6).mono ?_
  rintro e w' ⟨rfl, rfl⟩
  rw [Hall.out]
  go_wp2_with fail
  refine (lcount_any zs hvo n hlen.out b m hbm _ (2 ^ n - 1) 0 w1 (Nat.le_refl _) (by omega) hAr (MapOk.new hm) (by omega)).mono ?_
  rintro e w2 ⟨rfl, -, hU⟩
  go_wp2_with fail
  go_ret
  exact ⟨rfl, hB1.trans (hU.toBelow (fun i e => by omega) hB1.size)⟩

theorem CountLines_any (A : Option Addr) (n c : Nat) (zs : List Int) (w : World) (h : Ints w w.heap.size A n zs) (hbig : n ≤ 1152921504606846976) :
    Calls Tryd.prog 11 #[.slice A n c] w fun e w' => e = .returned (.int .i64 (linesR zs)) ∧ Below w.heap.size w w' := by
  have hlen := Lib.hid h.len
  cases hv : vo zs
  · have Ht := Lib.hid (show linesR zs = -1 by unfold linesR; rw [hv]; rfl)
    have Hv := Lib.hid hv
    clear hv
    go_enter Tryd.func11, Tryd.ntmps11
    go_wp2_with fail
    refine (readOrder_any _ _ _ zs _ h hbig).mono ?_
    rintro e w' ⟨hB, (⟨hv, b, rfl, _, _⟩ | ⟨_, rfl⟩)⟩
    · rw [Hv.out] at hv; cases hv
    · go_wp2_with fail
      go_ret
      exact ⟨ret_int Ht.out.symm, hB⟩
  · have hvo : VoP zs := by simpa [vo] using hv
    have Hv := Lib.hid hv
    clear hv
    have Ht := Lib.hid (show linesR zs = (cF zs (2 ^ n - 1) : Int) by unfold linesR; rw [Hv.out, if_pos rfl, count_both hvo, hlen.out])
    go_enter Tryd.func11, Tryd.ntmps11
    go_wp2_with fail
    refine (readOrder_any _ _ _ zs _ h hbig).mono ?_
    rintro e w' ⟨hB, (⟨_, b, rfl, hb, hAr⟩ | ⟨hv, _⟩)⟩
    · go_wp2_with (go_at_call 25; refine (ocountLines_any _ _ _ zs hvo _ (hAr.ints' hAr.lt hlen.out)).mono ?_; rintro e w2 ⟨rfl, hB2⟩)
      go_ret
      exact ⟨ret_int Ht.out.symm, hB.trans (hB2.mono hB.size)⟩
    · rw [Hv.out] at hv; cases hv
end Go.Proofs.YtiicffibhjeabaaDoor

/- The reader of pseudo-random numbers. -/
namespace Go.Proofs.YtiicffibhjeabaaDoor
open Go.RowKit Go.Shelf

set_option maxHeartbeats 1000000 in
theorem newReader_any (A : Option Addr) (n c : Nat) (bs : List Int) (w : World) (h : Byts w w.heap.size A n bs) (hcap : n ≤ c) (hbig : n ≤ 1152921504606846976) :
    Calls Tryd.prog 13 #[.slice A n c] w fun e w' => e = .returned (.pointer (some ⟨w.heap.size, 0, none⟩)) ∧ w' = w.alloc (.cells #[.slice A (min n 2000) c, .int .i64 0] 51) := by
  by_cases hn : n ≤ 2000
  · go_enter Tryd.func13, Tryd.ntmps13
    go_wp2
    go_ret
    exact ⟨rfl, by rw [Nat.min_eq_left hn]⟩
  · obtain ⟨b, off, rfl, hb, hc⟩ := h.at_ (k := 0) (by omega)
    go_enter Tryd.func13, Tryd.ntmps13
    go_wp2
    go_ret
    exact ⟨rfl, by rw [Nat.min_eq_right (by omega)]⟩

theorem bits_xor {a b : Int} (h0 : 0 ≤ a) (h1 : a < 4611686018427387904) (g0 : 0 ≤ b) (g1 : b < 4611686018427387904) : bits .xor .i64 a b = ((a.toNat ^^^ b.toNat : Nat) : Int) := by
  obtain ⟨a, rfl⟩ := Int.eq_ofNat_of_zero_le h0
  obtain ⟨b, rfl⟩ := Int.eq_ofNat_of_zero_le g0
  have hx : a ^^^ b < 2 ^ 62 := Nat.xor_lt_two_pow (by omega) (by omega)
  show IntKind.i64.wrap ((BitVec.ofInt 64 (a : Int) ^^^ BitVec.ofInt 64 (b : Int)).toNat : Int) = _
  rw [BitVec.toNat_xor, ofInt_i64n a (by omega), ofInt_i64n b (by omega), IntKind.wrap_i64]
  simp only [Int.toNat_natCast]
  omega

/-- The reader in block R, at position p, over at most 2000 bytes that lie below it. -/
def Rd (w : World) (R p : Nat) : Prop := ∃ A m c bs, m ≤ 2000 ∧ w.heap[R]? = some (.cells #[.slice A m c, .int .i64 (p : Int)] 51 (0, 0)) ∧ Byts w R A m bs
theorem Rd.lt {w : World} {R p : Nat} (h : Rd w R p) : R < w.heap.size := by
  obtain ⟨_, _, _, _, _, hh, _⟩ := h
  exact (Array.getElem?_eq_some_iff.1 hh).1
theorem Rd.upd {w w' : World} {R p : Nat} {S : Nat → Prop} (h : Rd w R p) (hu : Upd S w w') (hS : ∀ k, S k → R < k) : Rd w' R p := by
  have hl := h.lt
  obtain ⟨A, m, c, bs, hm, hh, hb⟩ := h
  exact ⟨A, m, c, bs, hm, (hu.block R hl (fun e => by have := hS R e; omega)).trans hh, hb.keep fun q hq => World.cell?_of_block (hu.block _ (by omega) (fun e => by have := hS _ e; omega))⟩
theorem Rd.below {w w' : World} {R p B : Nat} (h : Rd w R p) (hb : Below B w w') (hB : R < B) : Rd w' R p := h.upd (Below.toUpd hb) (fun k hk => by omega)

/-- What a picked number is. -/
def Picked (n v : Int) : Prop := (1 ≤ n → 0 ≤ v ∧ v < n) ∧ (n < 1 → v = 0)
theorem picked_mod {n x : Int} (hn : 1 ≤ n) (_hx : 0 ≤ x) : Picked n (x % n) :=
  ⟨fun _ => ⟨Int.emod_nonneg _ (by omega), Int.emod_lt_of_pos _ (by omega)⟩, fun h => by omega⟩

theorem picked_tmod {n x : Int} (hn : 1 ≤ n) (hx : 0 ≤ x) : Picked n (x.tmod n) :=
  ⟨fun _ => ⟨Int.tmod_nonneg _ hx, Int.tmod_lt_of_pos _ (by omega)⟩, fun h => by omega⟩

set_option maxRecDepth 100000 in
set_option maxHeartbeats 4000000 in
theorem pick_any (R p : Nat) (n : Int) (w : World) (h : Rd w R p) (hp : p ≤ 1000000) :
    Calls Tryd.prog 29 #[.pointer (some ⟨R, 0, none⟩), .int .i64 n] w fun e w' => ∃ v, e = .returned (.int .i64 v) ∧ Picked n v ∧ Rd w' R (p + 1) ∧ Upd (fun k => k = R) w w' := by
  obtain ⟨A, m, c, bs, hm, hh, hb⟩ := h
  have hc0 : w.cell? ⟨R, 0, none⟩ = some (.slice A m c) := by rw [cell_of_row w R 0 _ _ (0, 0) hh]; rfl
  have hc1 : w.cell? ⟨R, 1, none⟩ = some (.int .i64 (p : Int)) := by rw [cell_of_row w R 1 _ _ (0, 0) hh]; rfl
  have hf1 : w.frozen? ⟨R, 1, none⟩ = false := by simp [World.frozen?, hh]
  have hU : Upd (fun k => k = R) w (w.setCell ⟨R, 1, none⟩ (.int .i64 ((p : Int) + 1))) := (Upd.refl (fun k => k = R) w).setCell (p := ⟨R, 1, none⟩) (.inr rfl) _
  have hRd : Rd (w.setCell ⟨R, 1, none⟩ (.int .i64 ((p : Int) + 1))) R (p + 1) := ⟨A, m, c, bs, hm, by
    simp [World.setCell, Array.getElem?_modify, hh], hb.keep fun q hq => World.cell?_of_block (hU.block _ (by have := (Array.getElem?_eq_some_iff.1 hh).1; omega) (fun e => by omega))⟩
  by_cases hn : n < 1
  · go_enter Tryd.func29, Tryd.ntmps29
    go_wp2
    go_ret
    exact ⟨0, rfl, ⟨fun h => by omega, fun _ => rfl⟩, hRd, hU⟩
  · by_cases hm0 : m = 0
    · subst hm0
      go_enter Tryd.func29, Tryd.ntmps29
      go_wp2
      go_ret
      exact ⟨0, rfl, ⟨fun h => ⟨Int.le_refl _, by omega⟩, fun _ => rfl⟩, hRd, hU⟩
    · by_cases hpm : p < m
      · obtain ⟨b, off, rfl, hbb, hc⟩ := hb.at_ hpm
        have hcb := hc p hpm
        have hbd := hb.bd p
        have hcb' : (w.setCell ⟨R, 1, none⟩ (.int .i64 ((p : Int) + 1))).cell? ⟨b, off + p, none⟩ = some (.int .u8 (bs[p]?.getD 0)) := (World.cell?_of_block (hU.block b (by have := (Array.getElem?_eq_some_iff.1 hh).1; omega) (fun e => by omega))).trans hcb
        clear hc
        have hpk := picked_mod (n := n) (x := bs[p]?.getD 0) (by omega) hbd.1
        go_enter Tryd.func29, Tryd.ntmps29
        go_wp2
        go_ret
        exact ⟨_, rfl, hpk, hRd, hU⟩
      · obtain ⟨b, off, rfl, hbb, hc⟩ := hb.at_ (k := 0) (by omega)
        have hRl := (Array.getElem?_eq_some_iff.1 hh).1
        have hc' : ∀ j, j < m → (w.setCell ⟨R, 1, none⟩ (.int .i64 ((p : Int) + 1))).cell? ⟨b, off + j, none⟩ = some (.int .u8 (bs[j]?.getD 0)) := fun j hj => (World.cell?_of_block (hU.block b (by omega) (fun e => by omega))).trans (hc j hj)
        have k1 := hc' (p % m) (Nat.mod_lt _ (by omega))
        have k2 := hc' ((p * 7 + 3) % m) (Nat.mod_lt _ (by omega))
        have d1 := hb.bd (p % m)
        have d2 := hb.bd ((p * 7 + 3) % m)
        have e1 : (p : Int) % (m : Int) = ((p % m : Nat) : Int) := by simp
        have e2 : ((p : Int) * 7 + 3) % (m : Int) = (((p * 7 + 3) % m : Nat) : Int) := by simp
        have e3 : (p : Int) / (m : Int) = ((p / m : Nat) : Int) := by simp
        have l1 : p % m < m := Nat.mod_lt _ (by omega)
        have l2 : (p * 7 + 3) % m < m := Nat.mod_lt _ (by omega)
        have l3 : p / m ≤ p := Nat.div_le_self _ _
        clear hc hc'
        generalize p % m = q1 at *
        generalize (p * 7 + 3) % m = q2 at *
        generalize p / m = q3 at *
        generalize bs[q1]?.getD 0 = x1 at *
        generalize bs[q2]?.getD 0 = x2 at *
        go_enter Tryd.func29, Tryd.ntmps29
        go_wp2
        go_region
        have hx := bits_xor (a := x1 * 131 + x2 * 1117 + (p : Int) * 29 + (q3 : Int) * 53) (b := (x1 * 131 + x2 * 1117 + (p : Int) * 29 + (q3 : Int) * 53) / 64) (by omega) (by omega) (by omega) (by omega)
        go_wp2
        go_ret
        exact ⟨_, rfl, picked_mod (by omega) (by omega), hRd, hU.drew⟩

set_option maxHeartbeats 1000000 in
/-- One of a list's numbers. -/
theorem one_any (R p : Nat) (A : Option Addr) (n c B : Nat) (zs : List Int) (w : World) (h : Rd w R p) (hp : p ≤ 1000000) (hI : Ints w B A n zs) (hRB : ∀ b off, A = some ⟨b, off, none⟩ → b ≠ R) (hn : 0 < n) (hbig : n ≤ 1152921504606846976) :
    Calls Tryd.prog 15 #[.pointer (some ⟨R, 0, none⟩), .slice A n c] w fun e w' => ∃ v, e = .returned (.int .i64 v) ∧ v ∈ zs ∧ Rd w' R (p + 1) ∧ Upd (fun k => k = R) w w' := by
  have hlen := Lib.hid hI.len
  obtain ⟨b, off, rfl, hb, hc⟩ := hI.at_ (k := 0) hn
  have hbR := hRB b off rfl
  go_enter Tryd.func15, Tryd.ntmps15
  go_wp2_with fail
  refine (pick_any R p n w h hp).mono ?_
  rintro e w1 ⟨v, rfl, hv, hR1, hU1⟩
  obtain ⟨h0, h1⟩ := hv.1 (by omega)
  obtain ⟨k, rfl⟩ := Int.eq_ofNat_of_zero_le h0
  have hk : k < n := by omega
  have hck := hU1.cell (hc k hk) hbR
  clear hc
  go_wp2
  go_ret
  refine ⟨_, rfl, ?_, hR1, hU1⟩
  have hkl : k < zs.length := by rw [hlen.out]; exact hk
  rw [List.getElem?_eq_getElem hkl, Option.getD_some]
  exact List.getElem_mem hkl
end Go.Proofs.YtiicffibhjeabaaDoor

/- Pairs that are drawn. -/
namespace Go.Proofs.YtiicffibhjeabaaDoor
open Go.RowKit Go.Shelf

theorem draw_own_lt {w : World} {B : Nat} {v : Value} {rs : List (List Int)} (h : Rowed w B v rs) : ∀ k, v.ownBlock = some k → k < w.heap.size := fun k hk => by
  obtain ⟨vs, h1, _⟩ := h
  obtain ⟨cs, hcs⟩ := own_block h1 k hk
  exact (Array.getElem?_eq_some_iff.1 hcs).1
theorem draw_cell_new2 (w : World) (o : Obj) (e : TypeId) (u : Value) : ((w.alloc o).alloc (.cells #[u] e)).cell? ⟨w.heap.size + 1, 0, none⟩ = some u := by
  have h := cell_new (w.alloc o) e u
  rwa [World.size_alloc] at h

set_option maxRecDepth 100000 in
set_option maxHeartbeats 4000000 in
theorem somePairs_any (R p : Nat) (n : Int) (w : World) (h : Rd w R p) (hp : p ≤ 900000) :
    Calls Tryd.prog 45 #[.pointer (some ⟨R, 0, none⟩), .int .i64 n] w fun e w' => ∃ v rs q, e = .returned v ∧ Rowed w' w.heap.size v rs ∧ (rs.length ≤ 9 ∧ ∀ r ∈ rs, r.length = 2) ∧ q ≤ 19 ∧ Rd w' R (p + q) ∧ Upd (fun k => k = R) w w' := by
  obtain ⟨i0, hi0, hz0, hz1, hz2⟩ := infoRow_parts
  have hRl := h.lt
  go_enter Tryd.func45, Tryd.ntmps45
  go_wp2_with fail
  have R1 := Rowed.new w
  have R2 := R1.keep ((Upd.refl (fun _ => False) (w.alloc (.cells #[] 23))).alloc (.cells #[Value.int .i64 3, .int .i64 4, .int .i64 2, .int .i64 5, .int .i64 1, .int .i64 7, .int .i64 0, .int .i64 9] 3)) (fun _ e => e.elim)
  have hu1 : Upd (fun k => k = R) w ((w.alloc (.cells #[] 23)).alloc (.cells #[Value.int .i64 3, .int .i64 4, .int .i64 2, .int .i64 5, .int .i64 1, .int .i64 7, .int .i64 0, .int .i64 9] 3)) := ((Upd.refl _ _).alloc _).alloc _
  have hL : Arr ((w.alloc (.cells #[] 23)).alloc (.cells #[Value.int .i64 3, .int .i64 4, .int .i64 2, .int .i64 5, .int .i64 1, .int .i64 7, .int .i64 0, .int .i64 9] 3)) (w.heap.size + 1) 3 [3, 4, 2, 5, 1, 7, 0, 9] := by
    have := heap_alloc_new (w.alloc (.cells #[] 23)) (.cells #[Value.int .i64 3, .int .i64 4, .int .i64 2, .int .i64 5, .int .i64 1, .int .i64 7, .int .i64 0, .int .i64 9] 3)
    rw [World.size_alloc] at this
    exact this
  have hR1 := h.upd (((Upd.refl (fun _ => False) w).alloc (.cells #[] 23)).alloc (.cells #[Value.int .i64 3, .int .i64 4, .int .i64 2, .int .i64 5, .int .i64 1, .int .i64 7, .int .i64 0, .int .i64 9] 3)) (fun _ e => e.elim)
  obtain ⟨W1, hW1⟩ : ∃ W1, (w.alloc (.cells #[] 23)).alloc (.cells #[Value.int .i64 3, .int .i64 4, .int .i64 2, .int .i64 5, .int .i64 1, .int .i64 7, .int .i64 0, .int .i64 9] 3) = W1 := ⟨_, rfl⟩
  rw [hW1] at R2 hu1 hL hR1 ⊢
  clear hW1 R1
  refine (one_any R p _ 8 8 _ _ W1 hR1 (by omega) (hL.ints' (n := 8) hL.lt rfl) (fun b off e => by cases e; omega) (by omega) (by omega)).mono ?_
  rintro e w2 ⟨v0, rfl, hv0, hR2, hU2⟩
  have hv9 : 0 ≤ v0 ∧ v0 ≤ 9 := by simp at hv0; omega
  obtain ⟨K, rfl⟩ := Int.eq_ofNat_of_zero_le hv9.1
  have R3 := R2.keep hU2 (fun j e => by omega)
  have hu2 := hu1.trans hU2
  clear hv0 hL R2 hU2 hR1 hu1
  go_wp2
  go_loopw [5, 6] (fun v i wr => ∃ (k p' : Nat) (rs : List (List Int)), k ≤ 9 ∧ i = .int .i64 k ∧ rs.length + k ≤ 9 ∧ (∀ r ∈ rs, r.length = 2) ∧ p ≤ p' ∧ p' + 2 * k ≤ p + 19 ∧ Rowed wr w.heap.size v rs ∧ Rd wr R p' ∧ Upd (fun k => k = R) w wr) (fun _ i _ => (intOf i).toNat)
  case atStart => exact ⟨K, p + 1, [], by omega, rfl, by simp; omega, (fun r hr => by simp at hr), by omega, by omega, R3, hR2, hu2⟩
  case round =>
    clear R3 hR2 hu2
    obtain ⟨k, p', rs, hk, rfl, hlen, hall, hpp, hp', hRo, hRd, hU⟩ := hrel
    have zU := hU.size
    by_cases hlt : 0 < k
    · go_wp2_with fail
      refine (pick_any R p' n _ hRd (by omega)).mono ?_
      rintro e w3 ⟨a, rfl, ha, hRd3, hU3⟩
      go_wp2_with fail
      refine (pick_any R (p' + 1) n _ hRd3 (by omega)).mono ?_
      rintro e w4 ⟨b, rfl, hb, hRd4, hU4⟩
      have hU34 := hU3.trans hU4
      have hRo4 := hRo.keep hU34 (fun j e => by omega)
      have hUw := hU.trans hU34
      obtain ⟨vs, hown, hC, hb1⟩ := hRo4
      have Hall := Lib.hid hall
      clear hall hRo hU hU3 hU4 hU34 hRd hRd3
      by_cases hab : b < a
      · go_wp2_with (at_builtin; go_loud (refine wpList_append1 _ rfl (.tmp 31) (.tmp 35) _ rfl w.heap.size 23 i0 _ 24 Tryd.underlying64 hi0 hz0 hz1 hz2 rfl _ rs.length _ rfl ((hown.alloc _).alloc _) (w4.heap.size + 1) 1 (.slice (some ⟨w4.heap.size, 0, none⟩) 2 2) rfl (draw_cell_new2 _ _ _ _) rfl (by omega) (by omega) (by simp; omega) ?_); rintro v' w' hown' hg' -)
        go_roundw
        case rel => exact ⟨k - 1, p' + 1 + 1, rs ++ [[b, a]], by omega, by go_num, by simp; omega, (fun r hr => by
          rcases List.mem_append.1 hr with hr | hr
          · exact Hall.out r hr
          · rw [List.mem_singleton.1 hr]; rfl), by omega, by omega, Rowed.step hown rfl hC hb1 hown' hg', hRd4.upd ((((Upd.refl (fun k => w.heap.size ≤ k) w4).alloc _).alloc _).grown hg' (fun k hk => .inr (own_base hown k hk))) (fun k hk => by omega), hUw.trans' ((((Upd.refl (fun k => w.heap.size ≤ k) w4).alloc _).alloc _).grown hg' (fun k hk => .inr (own_base hown k hk))) (fun i hi e => by omega)⟩
        case measure => simp [intOf]; omega
      · by_cases hab2 : a < b
        · go_wp2_with (at_builtin; go_loud (refine wpList_append1 _ rfl (.tmp 31) (.tmp 35) _ rfl w.heap.size 23 i0 _ 24 Tryd.underlying64 hi0 hz0 hz1 hz2 rfl _ rs.length _ rfl ((hown.alloc _).alloc _) (w4.heap.size + 1) 1 (.slice (some ⟨w4.heap.size, 0, none⟩) 2 2) rfl (draw_cell_new2 _ _ _ _) rfl (by omega) (by omega) (by simp; omega) ?_); rintro v' w' hown' hg' -)
          go_roundw
          case rel => exact ⟨k - 1, p' + 1 + 1, rs ++ [[a, b]], by omega, by go_num, by simp; omega, (fun r hr => by
            rcases List.mem_append.1 hr with hr | hr
            · exact Hall.out r hr
            · rw [List.mem_singleton.1 hr]; rfl), by omega, by omega, Rowed.step hown rfl hC hb1 hown' hg', hRd4.upd ((((Upd.refl (fun k => w.heap.size ≤ k) w4).alloc _).alloc _).grown hg' (fun k hk => .inr (own_base hown k hk))) (fun k hk => by omega), hUw.trans' ((((Upd.refl (fun k => w.heap.size ≤ k) w4).alloc _).alloc _).grown hg' (fun k hk => .inr (own_base hown k hk))) (fun i hi e => by omega)⟩
          case measure => simp [intOf]; omega
        · go_wp2
          go_roundw
          case rel => exact ⟨k - 1, p' + 1 + 1, rs, by omega, by go_num, by omega, Hall.out, by omega, by omega, ⟨vs, hown, hC, hb1⟩, hRd4, hUw⟩
          case measure => simp [intOf]; omega
    · obtain rfl : k = 0 := by omega
      go_wp2
      go_ret
      exact ⟨_, rs, p' - p, rfl, hRo, ⟨by omega, hall⟩, by omega, by rw [show p + (p' - p) = p' by omega]; exact hRd, hU⟩
end Go.Proofs.YtiicffibhjeabaaDoor

/- A list of pairs that is drawn is short. -/
namespace Go.Proofs.YtiicffibhjeabaaDoor
open Go.RowKit Go.Shelf

theorem Rowed.step1 {w w' : World} {B n : Nat} {v v' : Value} {rs : List (List Int)} {vs : List Value} {a : Int} (h1 : w.ownsRow B 23 1 v n vs) (hn : n = rs.length) (h2 : RowsC w B w.heap.size vs rs) (hB : B ≤ w.heap.size)
    (hown : w'.ownsRow B 23 1 v' (n + 1) (vs ++ [.slice (some ⟨w.heap.size, 0, none⟩) 1 1]))
    (hg : ((w.alloc (.cells #[.int .i64 a] 3)).alloc (.cells #[.slice (some ⟨w.heap.size, 0, none⟩) 1 1] 23)).grownBy w' v.ownBlock) : Rowed w' B v' (rs ++ [[a]]) := by
  have hu : Upd (fun _ => False) w ((w.alloc (.cells #[.int .i64 a] 3)).alloc (.cells #[.slice (some ⟨w.heap.size, 0, none⟩) 1 1] 23)) := ((Upd.refl _ w).alloc _).alloc _
  have h3 := h2.upd hu (fun j e => e.elim)
  have hA : Arr (w.alloc (.cells #[.int .i64 a] 3)) w.heap.size 3 [a] := heap_alloc_new w _
  have h4 := h3.snoc (hi' := w.heap.size + 1 + 1) (r := [a]) (c := 1) (Row.of (hA.alloc _) rfl (Nat.le_refl _) (by omega)) (by omega)
  have h5 := h4.grown (by simp) hg (own_block (h1.alloc _ |>.alloc _))
  refine ⟨_, by rw [List.length_append, ← hn]; exact hown, h5.more (by have := hg.size; simpa using this), by have := hg.size; simp at this; omega⟩

/-- Rows that read: few, and short. -/
def Few (w : World) (v : Value) (rs : List (List Int)) : Prop := ∃ A c, v = .slice A rs.length c ∧ IntsS w w.heap.size A rs.length rs ∧ rs.length ≤ 1048576 ∧ ∀ r ∈ rs, r.length ≤ 1048576
theorem Rowed.few {w : World} {B : Nat} {v : Value} {rs : List (List Int)} (h : Rowed w B v rs) (hl : rs.length ≤ 1048576) (hr : ∀ r ∈ rs, r.length ≤ 2) : Few w v rs := by
  obtain ⟨A, c, rfl, hR⟩ := h.rows
  exact ⟨A, c, rfl, hR.ints (Nat.le_refl _), hl, fun r h => by have := hr r h; omega⟩
end Go.Proofs.YtiicffibhjeabaaDoor

/- OrderOf: the model's. -/
namespace Go.Proofs.YtiicffibhjeabaaDoor
open Go.RowKit Go.Shelf

set_option maxRecDepth 100000 in
set_option maxHeartbeats 4000000 in
theorem specOrderOf_any (n : Int) (A : Option Addr) (m c : Nat) (rs : List (List Int)) (w : World) (h : IntsS w w.heap.size A m rs) (hm : m ≤ 1048576) (hr : ∀ r ∈ rs, r.length ≤ 1048576) :
    Calls Tryd.prog 46 #[.int .i64 n, .slice A m c] w (GivesOrder w n rs) := by
  have hlen := Lib.hid h.len
  cases hin : inB n 0 6
  · have Ho := Lib.hid (show ordOk n rs = false by simp [ordOk, hin])
    have Hin := Lib.hid hin
    clear hin
    go_enter Tryd.func46, Tryd.ntmps46
    go_wp2_with (go_at_call 32; refine (inRange_any _ _ _ _).mono ?_; rw [Hin.out]; rintro e w' ⟨rfl, rfl⟩)
    go_ret2
    exact none_order Ho.out (Below.refl _ _)
  have Hin := Lib.hid hin
  have hnn := inB_iff.1 hin
  clear hin
  obtain ⟨N, rfl⟩ := Int.eq_ofNat_of_zero_le hnn.1
  have hN : N ≤ 6 := by omega
  clear hnn
  have hmk := run_make_row' (P := Tryd.prog) 23 3 (.int .i64 0) 8 Tryd.underlying23 infoInt rfl .i64 .i64 N (by omega) (by omega)
  go_enter Tryd.func46, Tryd.ntmps46
  go_wp2_with (go_at_call 32; refine (inRange_any _ _ _ _).mono ?_; rw [Hin.out]; rintro e w' ⟨rfl, rfl⟩)
  have hA1 := Arr.new w 3 N
  have hB1 : Below w.heap.size w (w.alloc (.cells (madeCells #[.int .i64 0] N) 3)) := (Below.refl _ _).alloc (Nat.le_refl _) _
  obtain ⟨W1, hW1⟩ : ∃ W1, w.alloc (.cells (madeCells #[.int .i64 0] N) 3) = W1 := ⟨_, rfl⟩
  rw [hW1] at hA1 hB1 ⊢
  clear hW1 hmk
  go_loopw [7] (fun i wr => ∃ k : Nat, k ≤ m ∧ i = .int .i64 k ∧ (∀ r ∈ rs.take k, pairOk N r = true) ∧ Arr wr w.heap.size 3 (baseR N (rs.take k)) ∧ Below w.heap.size w wr) (fun i _ => m - (intOf i).toNat)
  case atStart => exact ⟨0, by omega, rfl, (fun r hr => by simp at hr), hA1, hB1⟩
  case round =>
    obtain ⟨k, hk, rfl, hall, hAr, hB⟩ := hrel
    by_cases hlt : k < m
    · have hkl := Lib.hid (show k < rs.length by rw [hlen.out]; exact hlt)
      obtain ⟨b, off, rfl, hb, hc⟩ := (h.below hB).at_ hlt
      obtain ⟨A', c', hcell, hI⟩ := hc k hlt
      have Hc := Lib.hid hc
      clear hc
      have Hts := Lib.hid (take_snoc hkl.out)
      have hml : (rs[k]?.getD []).length ≤ 1048576 := by
        rw [List.getElem?_eq_getElem hkl.out]
        exact hr _ (List.getElem_mem _)
      have hno := fun hp => ord_no (n := N) (rs := rs) hkl.out hp
      generalize rs[k]?.getD [] = r at *
      by_cases h2 : r.length = 2
      · have hI2 : Ints wr w.heap.size A' 2 r := by rw [h2] at hI; exact hI
        rw [h2] at hcell
        obtain ⟨b', off', rfl, hb', hc'⟩ := hI2.at_ (k := 0) (by omega)
        have hc0 := hc' 0 (by omega)
        have hc1 := hc' 1 (by omega)
        rw [Nat.add_zero] at hc0
        clear hc'
        have Hpo := Lib.hid (show pairOk N r = (inB (r[0]?.getD 0) 0 (N - 1) && inB (r[1]?.getD 0) 0 (N - 1)) by simp [pairOk, h2])
        have Hs := Lib.hid (baseR_snoc N (rs.take k) r)
        obtain ⟨hfit, -⟩ : Fit N (baseR N (rs.take k)) ∧ Sets (baseR N (rs.take k)) := (baseR_fit hall).resolve_right (by omega)
        generalize r[0]?.getD 0 = x0 at *
        generalize r[1]?.getD 0 = y0 at *
        clear h2 hml hI
        cases hx : inB x0 0 (N - 1)
        · have Hx := Lib.hid hx
          have Ho := Lib.hid (hno (by rw [Hpo.out, hx]; rfl))
          clear hx hno
          go_wp2_with (go_at_call 32; refine (inRange_any _ _ _ _).mono ?_; rw [Hx.out]; rintro e w' ⟨rfl, rfl⟩)
          go_ret2
          exact none_order Ho.out hB
        cases hy : inB y0 0 (N - 1)
        · have Hx := Lib.hid hx
          have Hy := Lib.hid hy
          have Ho := Lib.hid (hno (by rw [Hpo.out, hx, hy]; rfl))
          clear hx hy hno
          go_wp2_with (go_at_call 32; refine (inRange_any _ _ _ _).mono ?_; (first | rw [Hx.out] | rw [Hy.out]); rintro e w' ⟨rfl, rfl⟩)
          go_ret2
          exact none_order Ho.out hB
        have Hx := Lib.hid hx
        have Hy := Lib.hid hy
        have Hp := Lib.hid (show pairOk N r = true by rw [Hpo.out, hx, hy]; rfl)
        have h0 := inB_iff.1 hx
        have h1 := inB_iff.1 hy
        clear hx hy hno
        have Hall := Lib.hid (show ∀ r' ∈ rs.take k ++ [r], pairOk N r' = true from fun r' hr' => by
          rcases List.mem_append.1 hr' with h9 | h9
          · exact hall r' h9
          · rw [List.mem_singleton.1 h9]; exact Hp.out)
        obtain ⟨x, rfl⟩ := Int.eq_ofNat_of_zero_le h0.1
        obtain ⟨y, rfl⟩ := Int.eq_ofNat_of_zero_le h1.1
        have hxN : x < N := by omega
        have hyN : y < N := by omega
        clear h0 h1
        simp only [Int.toNat_natCast] at Hs
        have hcs := hAr.cell (k := x) (by rw [hfit.1]; exact hxN)
        have hfs := hAr.frozen x
        have hbd := hfit.2 x
        have hpn := powI_le6 (n := (N : Int)) (by omega)
        have hpy := powI_le6 (n := (y : Int)) (by omega)
        have hpp := powI_pos (y : Int)
        clear hfit
        generalize hD : baseR N (rs.take k) = D at *
        have HD := Lib.hid hD
        clear hD
        have hor : bits .or .i64 (D[x]?.getD 0) (powI y) = orI (D[x]?.getD 0) (powI y) := bits_or (by omega) (by omega) (by omega) (by omega)
        go_wp2_with (go_at_call 32; refine (inRange_any _ _ _ _).mono ?_; (first | rw [Hx.out] | rw [Hy.out]); rintro e w' ⟨rfl, rfl⟩)
        have hpw : ∀ W, Calls Tryd.prog 30 #[.int .i64 (y : Int)] W fun e w'' => e = .returned (.int .i64 (powI y)) ∧ w'' = W := fun W =>
          (power_any _ _ (by omega) (by omega)).mono (by rintro e w' ⟨rfl, rfl⟩; exact ⟨rfl, rfl⟩)
        obtain ⟨W2, hW2⟩ : ∃ W2, wr.drew = W2 := ⟨_, rfl⟩
        have kcell : W2.cell? ⟨b, off + k, none⟩ = some (.slice (some ⟨b', off', none⟩) 2 c') := by rw [← hW2]; exact hcell
        have kc0 : W2.cell? ⟨b', off', none⟩ = some (.int .i64 (x : Int)) := by rw [← hW2]; exact hc0
        have kc1 : W2.cell? ⟨b', off' + 1, none⟩ = some (.int .i64 (y : Int)) := by rw [← hW2]; exact hc1
        have kcs : W2.cell? ⟨w.heap.size, x, none⟩ = some (.int .i64 (D[x]?.getD 0)) := by rw [← hW2]; exact hcs
        have kfs : W2.frozen? ⟨w.heap.size, x, none⟩ = false := by rw [← hW2]; exact hfs
        have kAr : Arr W2 w.heap.size 3 D := by rw [← hW2]; exact hAr
        have kB : Below w.heap.size w W2 := by rw [← hW2]; exact hB.drew
        refine wp_region_still_tail 25 (by kernel_rfl) (by kernel_rfl) ?_
        simp only [List.take_succ_cons, List.take_zero, List.drop_succ_cons, List.drop_zero]
        change wpStill _ _ wr.drew (fun a' => wpList _ _ _ _ a' wr.drew) _ _
        rw [hW2]
        clear hW2 hcell hc0 hc1 hcs hfs hAr hB
        repeat (first | still_step | still_call (hpw _))
        refine wpStill_nil ?_
        go_wp2
        go_roundw
        case rel => exact ⟨k + 1, by omega, by go_num, by rw [← Hts.out]; exact Hall.out, by rw [← Hts.out, Hs.out]; exact kAr.set _ _, kB.setCell (p := ⟨w.heap.size, x, none⟩) (Nat.le_refl _) _⟩
        case measure => simp [intOf]; omega
      · have Ho := Lib.hid (hno (by simp [pairOk, h2]))
        have hmi : ((r.length : Int) != 2) = true := by simp; omega
        clear hno
        generalize r.length = q at *
        go_wp2
        go_ret2
        exact none_order Ho.out hB
    · obtain rfl : k = m := by omega
      have htk : rs.take k = rs := List.take_of_length_le (by rw [hlen.out]; exact Nat.le_refl _)
      rw [htk] at hall hAr
      obtain ⟨hfit, -⟩ : Fit N (baseR N rs) ∧ Sets (baseR N rs) := (baseR_fit hall).resolve_right (by omega)
      have Hok := Lib.hid (show ordOk N rs = vo (closR N rs) by
        rw [ordOk, show rs.all (pairOk N) = true from List.all_eq_true.2 hall, Hin.out]; simp)
      have zB := hB.size
      clear hlen h hm
      go_wp2
      go_loopw [8] (fun i wr => ∃ a : Nat, a ≤ N ∧ i = .int .i64 a ∧ Arr wr w.heap.size 3 (folTo N (baseR N rs) a) ∧ Below w.heap.size w wr) (fun i _ => N - (intOf i).toNat)
      case atStart => exact ⟨0, by omega, rfl, hAr, hB⟩
      case round =>
        clear hAr hB zB
        obtain ⟨a, ha, rfl, hAr, hB⟩ := hrel
        by_cases hak : a < N
        · have hF := folTo_fit hfit a
          generalize hD0 : folTo N (baseR N rs) a = d0 at *
          have HD0 := Lib.hid hD0
          clear hD0
          go_wp2
          go_loopw [9] (fun i wr => ∃ l : Nat, l ≤ N ∧ i = .int .i64 l ∧ Arr wr w.heap.size 3 (folIn a d0 l) ∧ Below w.heap.size w wr) (fun i _ => N - (intOf i).toNat)
          case atStart => exact ⟨0, by omega, rfl, hAr, hB⟩
          case round =>
            clear hAr hB
            obtain ⟨l, hl, rfl, hAr, hB⟩ := hrel
            by_cases hlk : l < N
            · have hFi := folIn_fit (m := a) hF l
              have Hs := Lib.hid (folIn_succ a d0 l)
              generalize hD : folIn a d0 l = D at *
              have HD := Lib.hid hD
              clear hD
              have hpn := powI_le6 (n := (N : Int)) (by omega)
              have hl1 := hFi.2 l
              have ha1 := hFi.2 a
              have hcl := hAr.cell (k := l) (by rw [hFi.1]; exact hlk)
              have hca := hAr.cell (k := a) (by rw [hFi.1]; exact hak)
              have hfl := hAr.frozen l
              clear hFi
              cases hbit : bitB (D[l]?.getD 0) a
              · have Hb := Lib.hid hbit
                have hbi : (bitI (D[l]?.getD 0) a == 1) = false := by rw [bitI_one, hbit]
                clear hbit
                go_wp2_with (go_at_call 33; refine (bit_any _ _ _ (by omega) (by omega) (by omega) (by omega)).mono ?_; rintro e w' ⟨rfl, rfl⟩)
                go_roundw
                case rel => exact ⟨l + 1, by omega, by go_num, by rw [Hs.out, fol1, Hb.out]; exact hAr, hB⟩
                case measure => simp [intOf]; omega
              · have Hb := Lib.hid hbit
                have hbi : (bitI (D[l]?.getD 0) a == 1) = true := by rw [bitI_one, hbit]
                clear hbit
                have hor : bits .or .i64 (D[l]?.getD 0) (D[a]?.getD 0) = orI (D[l]?.getD 0) (D[a]?.getD 0) := bits_or (by omega) (by omega) (by omega) (by omega)
                go_wp2_with (go_at_call 33; refine (bit_any _ _ _ (by omega) (by omega) (by omega) (by omega)).mono ?_; rintro e w' ⟨rfl, rfl⟩)
                go_region
                all_goals
                  go_wp2
                  go_roundw
                  case rel => exact ⟨l + 1, by omega, by go_num, by rw [Hs.out, fol1, Hb.out]; exact hAr.set _ _, (hB.setCell (p := ⟨w.heap.size, l, none⟩) (Nat.le_refl _) _).drew⟩
                  case measure => simp [intOf]; omega
            · obtain rfl : l = N := by omega
              have Hs := Lib.hid (folTo_succ l (baseR l rs) a)
              go_wp2
              go_roundw
              case rel => exact ⟨a + 1, by omega, by go_num, by rw [Hs.out, HD0.out]; exact hAr, hB⟩
              case measure => simp [intOf]; omega
        · obtain rfl : a = N := by omega
          have Hf := Lib.hid (folTo_fit hfit a)
          have hl2 := hAr.lt
          go_wp2_with fail
          refine (validOrder_any _ _ _ _ _ _ (hAr.ints' hAr.lt Hf.out.1) (by omega)).mono ?_
          rintro e w3 ⟨rfl, mm, hmm⟩
          have hA3 : Arr w3 w.heap.size 3 (folTo a (baseR a rs) a) := by rw [hmm]; exact hAr
          have hB3 : Below w.heap.size w w3 := by rw [hmm]; exact below_drewN hB _
          clear hmm hAr hB
          cases hvo : vo (closR a rs)
          · have Ho := Lib.hid (show ordOk a rs = false by rw [Hok.out]; exact hvo)
            have Hv := Lib.hid (show vo (folTo a (baseR a rs) a) = false from hvo)
            clear hvo
            rw [Hv.out]
            go_wp2
            go_ret2
            exact none_order Ho.out hB3
          · have Ho := Lib.hid (show ordOk a rs = true by rw [Hok.out]; exact hvo)
            have Hv := Lib.hid (show vo (folTo a (baseR a rs) a) = true from hvo)
            clear hvo
            rw [Hv.out]
            go_wp2
            go_ret2
            exact ⟨_, a, a, by rw [Ho.out]; rfl, by rw [ordL, Ho.out]; exact Row.of hA3 Hf.out.1 (Nat.le_refl _) hA3.lt, hB3⟩
end Go.Proofs.YtiicffibhjeabaaDoor

/- An order under new numbers: what the drawing needs of it. -/
namespace Go.Proofs.YtiicffibhjeabaaDoor
open Go.RowKit Go.Shelf

/-- Small numbers: each is a set of at most six. -/
def Small (os : List Int) : Prop := ∀ j : Nat, 0 ≤ os[j]?.getD 0 ∧ os[j]?.getD 0 < 64
theorem Small.zero (n : Nat) : Small (List.replicate n 0) := fun j => by
  have : (List.replicate n (0 : Int))[j]?.getD 0 = 0 := by by_cases h : j < n <;> simp [h]
  omega
theorem Small.set {os : List Int} (h : Small os) {k : Nat} {v : Int} (h0 : 0 ≤ v) (h1 : v < 64) : Small (os.set k v) := fun j => by
  by_cases hk : k = j
  · subst hk
    by_cases hl : k < os.length
    · rw [List.getElem?_set_self hl]; exact ⟨h0, h1⟩
    · rw [List.set_eq_of_length_le (by omega)]; exact h k
  · rw [List.getElem?_set_ne hk]; exact h j

set_option maxRecDepth 100000 in
set_option maxHeartbeats 4000000 in
theorem renumbered_any (A A' : Option Addr) (n c m c' : Nat) (zs ts : List Int) (w : World) (h : Ints w w.heap.size A n zs) (h' : Ints w w.heap.size A' m ts) (hn6 : n ≤ 6) (hnm : n ≤ m) (hz : Small zs) (ht : ∀ j, j < n → 0 ≤ ts[j]?.getD 0 ∧ ts[j]?.getD 0 < n) :
    Calls Tryd.prog 47 #[.slice A n c, .slice A' m c'] w fun e w' => ∃ os, e = .returned (.slice (some ⟨w.heap.size, 0, none⟩) n n) ∧ os.length = n ∧ Arr w' w.heap.size 3 os ∧ Below w.heap.size w w' := by
  have hmk := run_make_row' (P := Tryd.prog) 23 3 (.int .i64 0) 8 Tryd.underlying23 infoInt rfl .i64 .i64 n (by omega) (by omega)
  go_enter Tryd.func47, Tryd.ntmps47
  go_wp2
  have hA1 := Arr.new w 3 n
  have hB1 : Below w.heap.size w (w.alloc (.cells (madeCells #[.int .i64 0] n) 3)) := (Below.refl _ _).alloc (Nat.le_refl _) _
  obtain ⟨W1, hW1⟩ : ∃ W1, w.alloc (.cells (madeCells #[.int .i64 0] n) 3) = W1 := ⟨_, rfl⟩
  rw [hW1] at hA1 hB1 ⊢
  clear hW1 hmk
  go_loopw [6] (fun i wr => ∃ (k : Nat) (os : List Int), k ≤ n ∧ i = .int .i64 k ∧ os.length = n ∧ Small os ∧ Arr wr w.heap.size 3 os ∧ Below w.heap.size w wr) (fun i _ => n - (intOf i).toNat)
  case atStart => exact ⟨0, _, by omega, rfl, by simp, Small.zero n, hA1, hB1⟩
  case round =>
    clear hA1 hB1
    obtain ⟨k, os, hk, rfl, hlen, hsm, hAr, hB⟩ := hrel
    by_cases hlt : k < n
    · go_wp2
      go_loopw [7] (fun i wr => ∃ (j : Nat) (os : List Int), j ≤ n ∧ i = .int .i64 j ∧ os.length = n ∧ Small os ∧ Arr wr w.heap.size 3 os ∧ Below w.heap.size w wr) (fun i _ => n - (intOf i).toNat)
      case atStart => exact ⟨0, os, by omega, rfl, hlen, hsm, hAr, hB⟩
      case round =>
        clear hlen hsm hAr hB
        obtain ⟨j, os, hj, rfl, hlen, hsm, hAr, hB⟩ := hrel
        by_cases hjn : j < n
        · obtain ⟨b, off, rfl, hbw, hc⟩ := (h.below hB).at_ hlt
          have hck := hc k hlt
          obtain ⟨b', off', rfl, hbw', hc'⟩ := (h'.below hB).at_ (k := k) (by omega)
          have htk := hc' k (by omega)
          have htj := hc' j (by omega)
          have hzk := hz k
          have hkm : k < m := by omega
          have hjm : j < m := by omega
          have t1 := ht k hlt
          have t2 := ht j hjn
          clear hc hc'
          generalize zs[k]?.getD 0 = z at *
          generalize ts[k]?.getD 0 = tk at *
          generalize ts[j]?.getD 0 = tj at *
          obtain ⟨x, rfl⟩ := Int.eq_ofNat_of_zero_le t1.1
          obtain ⟨y, rfl⟩ := Int.eq_ofNat_of_zero_le t2.1
          have hxn : x < n := by omega
          have hyn : y < n := by omega
          have hcs := hAr.cell (k := x) (by omega)
          have hfs := hAr.frozen x
          have hox := hsm x
          cases hb : bitB z j
          · have hbi : (bitI z j == 1) = false := by rw [bitI_one, hb]
            go_wp2_with (go_at_call 33; refine (bit_any _ _ _ (by omega) (by omega) (by omega) (by omega)).mono ?_; rintro e w' ⟨rfl, rfl⟩)
            go_roundw
            case rel => exact ⟨j + 1, os, by omega, by go_num, hlen, hsm, hAr, hB⟩
            case measure => simp [intOf]; omega
          · have hbi : (bitI z j == 1) = true := by rw [bitI_one, hb]
            have hpw : ∀ W, Calls Tryd.prog 30 #[.int .i64 (y : Int)] W fun e w'' => e = .returned (.int .i64 (powI y)) ∧ w'' = W := fun W => (power_any _ _ (by omega) (by omega)).mono fun _ _ ⟨h1, h2⟩ => ⟨h1, h2.symm⟩
            have hpk : powI (y : Int) < 64 := powI_lt (k := y) (n := 6) (by omega)
            have hpp := powI_pos (y : Int)
            have hsn := fun v h0 h1 => hsm.set (k := x) (v := v) h0 h1
            generalize os[x]?.getD 0 = d at *
            have hor : bits .or .i64 d (powI y) = orI d (powI y) := bits_or (by omega) (by omega) (by omega) (by omega)
            have hob := orI_bd (a := d) (b := powI y) (n := 6) hox.1 (by simpa [powI] using hox.2) (Int.le_of_lt hpp) (by simpa [powI] using hpk)
            have hob6 : 0 ≤ orI d (powI y) ∧ orI d (powI y) < 64 := by simpa [powI] using hob
            go_wp2_with (go_at_call 33; refine (bit_any _ _ _ (by omega) (by omega) (by omega) (by omega)).mono ?_; rintro e w' ⟨rfl, rfl⟩)
            obtain ⟨W2, hW2⟩ : ∃ W2, wr.drew = W2 := ⟨_, rfl⟩
            have k1 : W2.cell? ⟨b', off' + k, none⟩ = some (.int .i64 (x : Int)) := by rw [← hW2]; exact htk
            have k2 : W2.cell? ⟨b', off' + j, none⟩ = some (.int .i64 (y : Int)) := by rw [← hW2]; exact htj
            have k3 : W2.cell? ⟨w.heap.size, x, none⟩ = some (.int .i64 d) := by rw [← hW2]; exact hcs
            have k4 : W2.frozen? ⟨w.heap.size, x, none⟩ = false := by rw [← hW2]; exact hfs
            have kAr : Arr W2 w.heap.size 3 os := by rw [← hW2]; exact hAr
            have kB : Below w.heap.size w W2 := by rw [← hW2]; exact hB.drew
            refine wp_region_still_tail 19 (by kernel_rfl) (by kernel_rfl) ?_
            simp only [List.take_succ_cons, List.take_zero, List.drop_succ_cons, List.drop_zero]
            change wpStill _ _ wr.drew (fun a' => wpList _ _ _ _ a' wr.drew) _ _
            rw [hW2]
            clear hW2 htk htj hcs hfs hAr hB
            repeat (first | still_step | still_call (hpw _))
            refine wpStill_nil ?_
            go_wp2
            go_roundw
            case rel => exact ⟨j + 1, os.set x (orI d (powI y)), by omega, by go_num, by simpa using hlen, hsn _ hob6.1 hob6.2, kAr.set _ _, kB.setCell (p := ⟨w.heap.size, x, none⟩) (Nat.le_refl _) _⟩
            case measure => simp [intOf]; omega
        · obtain rfl : j = n := by omega
          go_wp2
          go_roundw
          case rel => exact ⟨k + 1, os, by omega, by go_num, hlen, hsm, hAr, hB⟩
          case measure => simp [intOf]; omega
    · obtain rfl : k = n := by omega
      go_wp2
      go_ret
      exact ⟨os, rfl, hlen, hAr, hB⟩
end Go.Proofs.YtiicffibhjeabaaDoor

/- An order that is drawn. -/
namespace Go.Proofs.YtiicffibhjeabaaDoor
open Go.RowKit Go.Shelf

theorem addr_add (b k j : Nat) : (⟨b, k, none⟩ : Addr).add j = ⟨b, k + j, none⟩ := by unfold Addr.add; split <;> simp_all
/-- Pairs that are written out: a block each, then the row of their slices. -/
def litA (w : World) : List (Int × Int) → World
  | [] => w
  | r :: rs => litA (w.alloc (.cells #[.int .i64 r.1, .int .i64 r.2] 3)) rs
def litV (b : Nat) : List (Int × Int) → List Value
  | [] => []
  | _ :: rs => .slice (some ⟨b, 0, none⟩) 2 2 :: litV (b + 1) rs
def litN (b : Nat) : List (Int × Int) → Nat
  | [] => b
  | _ :: rs => litN (b + 1) rs
def litW (w : World) (rs : List (Int × Int)) : World := (litA w rs).alloc (.cells (litV w.heap.size rs).toArray 23)
theorem litA_upd : ∀ (rs : List (Int × Int)) (w : World), Upd (fun _ => False) w (litA w rs)
  | [], w => Upd.refl _ w
  | _ :: rs, w => (((Upd.refl (fun _ => False) w).alloc _)).trans (litA_upd rs _)
theorem litA_size : ∀ (rs : List (Int × Int)) (w : World), (litA w rs).heap.size = litN w.heap.size rs ∧ litN w.heap.size rs = w.heap.size + rs.length
  | [], w => ⟨rfl, rfl⟩
  | r :: rs, w => by
    have h := litA_size rs (w.alloc (.cells #[.int .i64 r.1, .int .i64 r.2] 3))
    rw [World.size_alloc] at h
    refine ⟨h.1, ?_⟩
    show litN (w.heap.size + 1) rs = _
    rw [h.2, List.length_cons]; omega
theorem litA_row : ∀ (rs : List (Int × Int)) (w : World) (j : Nat) (hj : j < rs.length), Arr (litA w rs) (w.heap.size + j) 3 [rs[j].1, rs[j].2]
  | [], _, j, hj => by simp at hj
  | r :: rs, w, 0, _ => by
    have hA : Arr (w.alloc (.cells #[.int .i64 r.1, .int .i64 r.2] 3)) w.heap.size 3 [r.1, r.2] := heap_alloc_new w _
    exact hA.upd (litA_upd rs _) (fun e => e)
  | r :: rs, w, j + 1, hj => by
    have h := litA_row rs (w.alloc (.cells #[.int .i64 r.1, .int .i64 r.2] 3)) j (by simpa using hj)
    rw [World.size_alloc, show w.heap.size + 1 + j = w.heap.size + (j + 1) by omega] at h
    exact h
theorem litV_get : ∀ (rs : List (Int × Int)) (b j : Nat), j < rs.length → (litV b rs)[j]? = some (.slice (some ⟨b + j, 0, none⟩) 2 2)
  | [], _, j, hj => by simp at hj
  | _ :: rs, b, 0, _ => rfl
  | _ :: rs, b, j + 1, hj => by
    have h := litV_get rs (b + 1) j (by simpa using hj)
    rw [show b + 1 + j = b + (j + 1) by omega] at h
    simpa [litV] using h
theorem litRows (w : World) (rs : List (Int × Int)) : IntsS (litW w rs) (litW w rs).heap.size (some ⟨litN w.heap.size rs, 0, none⟩) rs.length (rs.map fun r => [r.1, r.2]) := by
  refine ⟨by simp, fun _ => ⟨litN w.heap.size rs, 0, rfl, by unfold litW; rw [World.size_alloc, (litA_size rs w).1]; omega, fun j hj => ?_⟩⟩
  have hA := (litA_row rs w j hj).alloc (.cells (litV w.heap.size rs).toArray 23)
  have hg : (rs.map fun r => [r.1, r.2])[j]?.getD [] = [rs[j].1, rs[j].2] := by simp [hj]
  rw [hg]
  refine ⟨_, 2, ?_, hA.ints (by have := hA.lt; exact this)⟩
  have hc := heap_alloc_new (litA w rs) (.cells (litV w.heap.size rs).toArray 23)
  rw [(litA_size rs w).1] at hc
  rw [Nat.zero_add]
  refine (cell_of_row _ _ _ _ _ _ hc).trans ?_
  simpa using litV_get rs w.heap.size j hj
theorem litW_upd (w : World) (rs : List (Int × Int)) : Upd (fun _ => False) w (litW w rs) := (litA_upd rs w).alloc _

theorem ordL_small (n : Int) (rs : List (List Int)) : Small (ordL n rs) ∧ ((ordL n rs).length = 0 ∨ ((ordL n rs).length : Int) = n) ∧ (ordL n rs).length ≤ 6 := by
  cases hok : ordOk n rs with
  | false => simp [ordL, hok, Small]
  | true =>
    obtain ⟨h1, h2, _⟩ := ord_is hok
    refine ⟨fun j => ?_, .inr h2, h1.1⟩
    by_cases hj : j < (ordL n rs).length
    · exact h1.bd j hj
    · rw [List.getElem?_eq_none (by omega)]; simp

set_option maxRecDepth 100000 in
set_option maxHeartbeats 8000000 in
theorem goodOrder_any (R p : Nat) (w : World) (h : Rd w R p) (hp : p ≤ 800000) :
    Calls Tryd.prog 28 #[.pointer (some ⟨R, 0, none⟩), .int .i64 6] w fun e w' => ∃ A n c zs q, e = .returned (.slice A n c) ∧ n ≤ 6 ∧ Row w' w.heap.size w'.heap.size A n zs ∧ q ≤ 100 ∧ Rd w' R (p + q) ∧ Upd (fun k => k = R) w w' := by
  have hRl := h.lt
  obtain ⟨i0, hi0, hz0, hz1, hz2⟩ := infoRow_parts
  obtain ⟨i1, hi1, hzi1, hsi1, hbi1⟩ := info_parts infoInt
  go_enter Tryd.func28, Tryd.ntmps28
  go_wp2_with fail
  have hu1 : Upd (fun k => k = R) w (w.alloc (.cells #[Value.int .i64 4, .int .i64 5, .int .i64 6, .int .i64 3, .int .i64 5, .int .i64 6, .int .i64 2, .int .i64 1, .int .i64 4, .int .i64 0] 3)) := (Upd.refl _ _).alloc _
  have hL : Arr (w.alloc (.cells #[Value.int .i64 4, .int .i64 5, .int .i64 6, .int .i64 3, .int .i64 5, .int .i64 6, .int .i64 2, .int .i64 1, .int .i64 4, .int .i64 0] 3)) w.heap.size 3 [4, 5, 6, 3, 5, 6, 2, 1, 4, 0] := heap_alloc_new w _
  have hR1 := h.upd ((Upd.refl (fun _ => False) w).alloc (.cells #[Value.int .i64 4, .int .i64 5, .int .i64 6, .int .i64 3, .int .i64 5, .int .i64 6, .int .i64 2, .int .i64 1, .int .i64 4, .int .i64 0] 3)) (fun _ e => e.elim)
  obtain ⟨W1, hW1⟩ : ∃ W1, w.alloc (.cells #[Value.int .i64 4, .int .i64 5, .int .i64 6, .int .i64 3, .int .i64 5, .int .i64 6, .int .i64 2, .int .i64 1, .int .i64 4, .int .i64 0] 3) = W1 := ⟨_, rfl⟩
  rw [hW1] at hu1 hL hR1 ⊢
  clear hW1
  refine (one_any R p _ 10 10 _ _ W1 hR1 (by omega) (hL.ints' (n := 10) hL.lt rfl) (fun b off e => by cases e; omega) (by omega) (by omega)).mono ?_
  rintro e w2 ⟨v0, rfl, hv0, hR2, hU2⟩
  have hv9 : 0 ≤ v0 ∧ v0 ≤ 6 := by simp at hv0; omega
  obtain ⟨K, rfl⟩ := Int.eq_ofNat_of_zero_le hv9.1
  have hu2 := hu1.trans hU2
  clear hv0 hL hU2 hR1 hu1
  have hK6 : K ≤ 6 := by omega
  have hRw2 : Upd (fun k => k = R) w w2 := hu2
  clear hu2 hv9
  go_wp2_with fail
  refine (somePairs_any R (p + 1) K w2 hR2 (by omega)).mono ?_
  rintro e w3 ⟨v3, rs3, q3, rfl, hRo3, ⟨hl3, hr3⟩, hq3, hR3, hU3⟩
  have hRw3 := hRw2.trans hU3
  have hz2' := hRw2.size
  have hz3' := hRw3.size
  clear hR2
  go_wp2_with fail
  refine (pick_any R (p + 1 + q3) 10 w3 hR3 (by omega)).mono ?_
  rintro e w4 ⟨x, rfl, hx, hR4, hU4⟩
  have hRw4 := hRw3.trans hU4
  have hz4' := hRw4.size
  have hRo4 := hRo3.keep hU4 (fun j e => by omega)
  have hF4 := hRo4.few (by omega) (fun r hr => by rw [hr3 r hr]; omega)
  clear hRo3 hRo4
  have hx9 := hx.1 (by omega)
  clear hx hR3
  by_cases x0 : x = 0
  · subst x0
    go_wp2_with fail
    have hL := litRows w4 [(0, 3), (0, 4), (1, 3), (1, 5), (2, 4), (2, 5)]
    have hup := litW_upd w4 [(0, 3), (0, 4), (1, 3), (1, 5), (2, 4), (2, 5)]
    refine (specOrderOf_any 6 _ 6 6 _ (litW w4 [(0, 3), (0, 4), (1, 3), (1, 5), (2, 4), (2, 5)]) hL (by simp) (by simp)).mono ?_
    rintro e w5 ⟨A5, m5, c5, rfl, r5, hB5⟩
    have hzL := hup.size
    have hRw5 := (hRw4.trans (hup.mono fun _ _ e => e.elim)).below hB5 (fun k h1 h2 => by omega)
    have hR5 := (hR4.upd hup (fun _ e => e.elim)).below hB5 (by omega)
    have hr5 := r5.more (lo' := w.heap.size) (by omega) (Nat.le_refl _)
    have hos := ordL_small 6 (([(0, 3), (0, 4), (1, 3), (1, 5), (2, 4), (2, 5)] : List (Int × Int)).map fun r => [r.1, r.2])
    obtain ⟨zs5, hzs5⟩ : ∃ zs5, ordL 6 (([(0, 3), (0, 4), (1, 3), (1, 5), (2, 4), (2, 5)] : List (Int × Int)).map fun r => [r.1, r.2]) = zs5 := ⟨_, rfl⟩
    rw [hzs5] at hos hr5
    obtain ⟨hsm, hml, hm6⟩ := hos
    rw [hr5.len] at hml hm6
    have hob : ∃ bb : Bool, ordOk 6 (([(0, 3), (0, 4), (1, 3), (1, 5), (2, 4), (2, 5)] : List (Int × Int)).map fun r => [r.1, r.2]) = bb := ⟨_, rfl⟩
    obtain ⟨bb, hbb⟩ := hob
    rw [hbb]
    generalize hp5 : p + 1 + q3 + 1 = p5 at *
    have hp5' : p5 ≤ p + 40 := by omega
    obtain ⟨N, hN1', hN2'⟩ : ∃ N : Nat, N ≤ 6 ∧ 6 ≤ N := ⟨6, Nat.le_refl _, Nat.le_refl _⟩
    clear r5 hL hB5 hR4 hRw4 hup hzL
    go_wp2_with fail
    refine (pick_any R p5 3 w5 hR5 (by omega)).mono ?_
    rintro e w6 ⟨y, rfl, hy, hR6, hU6⟩
    have hRw6 := hRw5.trans hU6
    have hz6 := hRw6.size
    have hr6 := hr5.upd hU6 (fun j e => by omega)
    by_cases hyn : y = 0 ∧ 1 < N
    · obtain ⟨rfl, hN1⟩ := hyn
      try have hK1 : (1 : Int) < (K : Int) := by omega
      go_wp2_with fail
      go_loopw [10, 11] (fun v i wr => ∃ (k bt cp : Nat) (ts : List Int), k ≤ N ∧ i = .int .i64 k ∧ v = .slice (some ⟨bt, 0, none⟩) k cp ∧ (k ≤ cp ∧ cp ≤ maxLen) ∧ (bt < wr.heap.size ∧ w6.heap.size ≤ bt) ∧ ts.length = k ∧ (∀ x ∈ ts, (0 : Int) ≤ x ∧ x < k) ∧ (∀ j, j < k → wr.cell? ⟨bt, j, none⟩ = some (.int .i64 (ts[j]?.getD 0))) ∧ Rd wr R (p5 + 1 + k) ∧ Upd (fun k => k = R) w6 wr) (fun _ i _ => N - (intOf i).toNat)
      case atStart => exact ⟨0, w6.heap.size, 0, [], by omega, rfl, rfl, ⟨by omega, by simp [maxLen]⟩, ⟨by simp, by omega⟩, rfl, (fun x hx => by simp at hx), fun j hj => by omega, hR6.upd ((Upd.refl (fun _ => False) w6).alloc _) (fun _ e => e.elim), (Upd.refl _ _).alloc _⟩
      case round =>
        obtain ⟨k, bt, cp, ts, hk, rfl, rfl, ⟨hkc, hcm⟩, ⟨hbt, hbt6⟩, htl, htb, htc, hRd, hU⟩ := hrel
        have zU := hU.size
        by_cases hlt : k < N
        · go_wp2_with fail
          refine (pick_any R (p5 + 1 + k) (k + 1) _ hRd (by omega)).mono ?_
          rintro e w7 ⟨y, rfl, hy, hR7, hU7⟩
          have hy2 := hy.1 (by omega)
          obtain ⟨h, rfl⟩ := Int.eq_ofNat_of_zero_le hy2.1
          have hhk : h ≤ k := by omega
          have htc7 : ∀ j, j < k → w7.cell? ⟨bt, j, none⟩ = some (.int .i64 (ts[j]?.getD 0)) := fun j hj => hU7.cell (htc j hj) (by simp; omega)
          have hUw7 := hU.trans hU7
          have z7 := hU7.size
          clear hy hy2 htc hU hU7 hRd
          go_wp2_with fail
          obtain ⟨AD, hAD⟩ : ∃ AD, (if cp = h then some (⟨bt, 0, none⟩ : Addr) else some ⟨bt, h, none⟩) = some AD := by split <;> exact ⟨_, rfl⟩
          have hadd : ∀ j, j < (ts.drop h).length → AD.add j = ⟨bt, h + j, none⟩ := fun j hj => by
            have hne : ¬ cp = h := fun e => by simp at hj; omega
            rw [if_neg hne] at hAD
            cases hAD
            exact addr_add ..
          have hadd0 : ∀ j, j < (ts.take h).length → (⟨bt, 0, none⟩ : Addr).add j = ⟨bt, 0 + j, none⟩ := fun j hj => addr_add ..
          have htk : (ts.take h).length = h := by simp; omega
          have htd : (ts.drop h).length = k - h := by simp; omega
          have hgt : ∀ j, j < (ts.take h).length → (ts.take h)[j]?.getD 0 = ts[0 + j]?.getD 0 := fun j hj => by rw [Nat.zero_add, List.getElem?_take_of_lt (by omega)]
          have hgd : ∀ j, j < (ts.drop h).length → (ts.drop h)[j]?.getD 0 = ts[h + j]?.getD 0 := fun j hj => by rw [List.getElem?_drop]
          have hone : ∀ (zs : List Int), ∀ u ∈ zs.map (Value.int .i64), u.oneCell' = true := fun zs u hu => by
            obtain ⟨z, _, rfl⟩ := List.mem_map.1 hu; rfl
          have hbt7 : bt < w7.heap.size := by omega
          have hkN : k < 6 := by omega
          have hhc : h ≤ cp := by omega
          have hhc' : (h : Int) ≤ (cp : Int) := by omega
          have hhk' : (h : Int) ≤ (k : Int) := by omega
          go_region_law (first
            | (refine step_append_any _ rfl (.tmp 94) (.tmp 97) _ (by rfl) w7.heap.size 3 i1 _ 8 Tryd.underlying23 hi1 hzi1 hsi1 hbi1 rfl (.slice (some ⟨_, 0, none⟩) 0 0) 0 [] (by rfl) (by simp) (by first | exact own_new2 _ _ _ | exact own_sooner (own_new _ _) (by first | (simp; done) | (simp; omega)) | exact own_sooner ((own_new _ _).alloc _) (by first | (simp; done) | (simp; omega))) ⟨bt, 0, none⟩ h cp _ (by rfl) (by rw [List.length_map]; exact htk) (news_at htc7 (by repeat' (first | exact Upd.refl _ _ | assumption | refine Upd.alloc ?_ _ | refine Upd.drew ?_)) hbt7 hadd0 hgt (by omega)) (hone _) (by simp [maxLen]; omega) (by omega) (by first | (simp; done) | (simp; omega)) ?_; intro g1 cap1 x1 hown1 hgrow1 hg1 hl1 hc1 hm1; rw [Nat.zero_add] at hown1; have hU1 : Upd (fun k => w7.heap.size ≤ k) w7 x1 := Upd.grown (by repeat' (first | exact Upd.refl _ _ | assumption | refine Upd.alloc ?_ _ | refine Upd.drew ?_)) hgrow1 (fun q hq => by simp [Value.ownBlock] at hq; omega))
            | (refine step_append_any _ rfl (.tmp 98) (.tmp 100) _ (by rfl) w7.heap.size 3 i1 _ 8 Tryd.underlying23 hi1 hzi1 hsi1 hbi1 rfl (.slice (some ⟨g1, 0, none⟩) h cap1) h _ (by rfl) (by simp) (by first | exact hown1 | exact hown1.alloc _) ⟨_, 0, none⟩ 1 1 [.int .i64 (k : Int)] (by rfl) rfl (by first | exact news_one (cell_new _ _ _) | exact news_one ((hgrow1.cell_far _ (by first | (simp; done) | (simp; omega)) (by simp [Value.ownBlock])).trans (draw_cell_new2 _ _ _ _)) | exact news_one ((hgrow1.cell_far _ (by first | (simp; done) | (simp; omega)) (by simp [Value.ownBlock])).trans (cell_new _ _ _)) | exact news_one ((hgrow1.cell_far _ (by first | (simp; done) | (simp; omega)) (by simp [Value.ownBlock])).trans (cell_new_alloc _ _ _ _)) | exact news_one ((hgrow1.cell_far _ (by first | (simp; done) | (simp; omega)) (by simp [Value.ownBlock])).trans (cell_new _ _ _))) (by simp [Value.oneCell']) (by simp [maxLen]; omega) (by omega) (by have := hU1.size; simp; omega) ?_; intro g2 cap2 x2 hown2 hgrow2 hg2 hl2 hc2 hm2; have hU2 : Upd (fun k => w7.heap.size ≤ k) w7 x2 := Upd.grown (by repeat' (first | exact Upd.refl _ _ | assumption | refine Upd.alloc ?_ _ | refine Upd.drew ?_)) hgrow2 (fun q hq => by simp [Value.ownBlock] at hq; omega))
            | (refine step_append_any _ rfl (.tmp 101) (.tmp 104) _ (by rfl) w7.heap.size 3 i1 _ 8 Tryd.underlying23 hi1 hzi1 hsi1 hbi1 rfl (.slice (some ⟨g2, 0, none⟩) (h + 1) cap2) (h + 1) _ (by rfl) (by simp) hown2 AD (k - h) _ _ (by simp [Act.eval]; rfl) (by rw [List.length_map]; exact htd) (news_at htc7 hU2 hbt7 hadd hgd (by omega)) (hone _) (by simp [maxLen]; omega) (by omega) (by have := hU2.size; omega) ?_; intro g3 cap3 x3 hown3 hgrow3 hg3 hl3 hc3 hm3; have hU3 : Upd (fun k => w7.heap.size ≤ k) w7 x3 := Upd.grown hU2 hgrow3 (fun q hq => by simp [Value.ownBlock] at hq; omega)))
          all_goals
            have e3 : ([] ++ (ts.take h).map (Value.int .i64) ++ [Value.int .i64 (k : Int)]) ++ (ts.drop h).map (Value.int .i64) = (ts.take h ++ [(k : Int)] ++ ts.drop h).map (Value.int .i64) := by simp
            rw [e3] at hown3
            have hn3 : h + 1 + (k - h) = k + 1 := by omega
            rw [hn3] at hown3 hc3
            obtain ⟨hl3', hc3'⟩ := own_cells hown3
            simp only [hn3]
            have htb' : ∀ x ∈ ts.take h ++ [(k : Int)] ++ ts.drop h, (0 : Int) ≤ x ∧ x < ((k + 1 : Nat) : Int) := fun x hx => by
              rcases List.mem_append.1 hx with hx | hx
              · rcases List.mem_append.1 hx with hx | hx
                · have := htb x (List.mem_of_mem_take hx); omega
                · have := List.mem_singleton.1 hx; omega
              · have := htb x (List.mem_of_mem_drop hx); omega
            have hR8 : Rd x3 R (p5 + 1 + (k + 1)) := hR7.upd hU3 (fun q hq => by omega)
            have hU8 : Upd (fun k => k = R) w6 x3 := hUw7.trans' hU3 (fun i hi e => by omega)
            go_wp2
            go_roundw
            case rel => exact ⟨k + 1, g3, cap3, ts.take h ++ [(k : Int)] ++ ts.drop h, by omega, by go_num, rfl, ⟨hc3, hm3⟩, ⟨hl3, by omega⟩, hl3', htb', hc3', hR8, hU8⟩
            case measure => simp [intOf]; omega
        · obtain rfl : k = N := by omega
          go_wp2_with fail
          refine (renumbered_any A5 (some ⟨bt, 0, none⟩) m5 c5 k cp zs5 ts wr ((hr6.upd hU (fun j e => by omega)).ints (by have := hU6.size; omega)) ⟨htl, fun _ => ⟨bt, 0, rfl, hbt, fun j hj => by rw [Nat.zero_add]; exact htc j hj⟩⟩ hm6 (by omega) hsm (fun j hj => by
            have hjl : j < ts.length := by omega
            have := htb ts[j] (List.getElem_mem hjl)
            rw [List.getElem?_eq_getElem hjl, Option.getD_some]
            omega)).mono ?_
          rintro e w8 ⟨os, rfl, hos, hArr, hB8⟩
          go_wp2
          go_ret
          exact ⟨_, m5, m5, os, p5 + 1 + k - p, rfl, by omega, Row.of hArr hos (by omega) hArr.lt, by omega, by rw [show p + (p5 + 1 + k - p) = p5 + 1 + k by omega]; exact hRd.below hB8 (by omega), (hRw6.trans hU).below hB8 (fun k h1 h2 => by omega)⟩
    · by_cases hy0 : y = 0
      · subst hy0
        have hN1 : ¬ 1 < N := fun e => hyn ⟨rfl, e⟩
        first
          | (exfalso; omega)
          | (go_wp2; go_ret; exact ⟨A5, m5, c5, zs5, p5 + 1 - p, rfl, by omega, hr6.more (Nat.le_refl _) hU6.size, by omega, by rw [show p + (p5 + 1 - p) = p5 + 1 by omega]; exact hR6, hRw6⟩)
      · go_wp2
        go_ret
        exact ⟨A5, m5, c5, zs5, p5 + 1 - p, rfl, by omega, hr6.more (Nat.le_refl _) hU6.size, by omega, by rw [show p + (p5 + 1 - p) = p5 + 1 by omega]; exact hR6, hRw6⟩
  by_cases x1 : x = 1
  · subst x1
    go_wp2_with fail
    have hL := litRows w4 [(0, 2), (1, 2), (1, 3)]
    have hup := litW_upd w4 [(0, 2), (1, 2), (1, 3)]
    refine (specOrderOf_any 4 _ 3 3 _ (litW w4 [(0, 2), (1, 2), (1, 3)]) hL (by simp) (by simp)).mono ?_
    rintro e w5 ⟨A5, m5, c5, rfl, r5, hB5⟩
    have hzL := hup.size
    have hRw5 := (hRw4.trans (hup.mono fun _ _ e => e.elim)).below hB5 (fun k h1 h2 => by omega)
    have hR5 := (hR4.upd hup (fun _ e => e.elim)).below hB5 (by omega)
    have hr5 := r5.more (lo' := w.heap.size) (by omega) (Nat.le_refl _)
    have hos := ordL_small 4 (([(0, 2), (1, 2), (1, 3)] : List (Int × Int)).map fun r => [r.1, r.2])
    obtain ⟨zs5, hzs5⟩ : ∃ zs5, ordL 4 (([(0, 2), (1, 2), (1, 3)] : List (Int × Int)).map fun r => [r.1, r.2]) = zs5 := ⟨_, rfl⟩
    rw [hzs5] at hos hr5
    obtain ⟨hsm, hml, hm6⟩ := hos
    rw [hr5.len] at hml hm6
    have hob : ∃ bb : Bool, ordOk 4 (([(0, 2), (1, 2), (1, 3)] : List (Int × Int)).map fun r => [r.1, r.2]) = bb := ⟨_, rfl⟩
    obtain ⟨bb, hbb⟩ := hob
    rw [hbb]
    generalize hp5 : p + 1 + q3 + 1 = p5 at *
    have hp5' : p5 ≤ p + 40 := by omega
    obtain ⟨N, hN1', hN2'⟩ : ∃ N : Nat, N ≤ 4 ∧ 4 ≤ N := ⟨4, Nat.le_refl _, Nat.le_refl _⟩
    clear r5 hL hB5 hR4 hRw4 hup hzL
    go_wp2_with fail
    refine (pick_any R p5 3 w5 hR5 (by omega)).mono ?_
    rintro e w6 ⟨y, rfl, hy, hR6, hU6⟩
    have hRw6 := hRw5.trans hU6
    have hz6 := hRw6.size
    have hr6 := hr5.upd hU6 (fun j e => by omega)
    by_cases hyn : y = 0 ∧ 1 < N
    · obtain ⟨rfl, hN1⟩ := hyn
      try have hK1 : (1 : Int) < (K : Int) := by omega
      go_wp2_with fail
      go_loopw [10, 11] (fun v i wr => ∃ (k bt cp : Nat) (ts : List Int), k ≤ N ∧ i = .int .i64 k ∧ v = .slice (some ⟨bt, 0, none⟩) k cp ∧ (k ≤ cp ∧ cp ≤ maxLen) ∧ (bt < wr.heap.size ∧ w6.heap.size ≤ bt) ∧ ts.length = k ∧ (∀ x ∈ ts, (0 : Int) ≤ x ∧ x < k) ∧ (∀ j, j < k → wr.cell? ⟨bt, j, none⟩ = some (.int .i64 (ts[j]?.getD 0))) ∧ Rd wr R (p5 + 1 + k) ∧ Upd (fun k => k = R) w6 wr) (fun _ i _ => N - (intOf i).toNat)
      case atStart => exact ⟨0, w6.heap.size, 0, [], by omega, rfl, rfl, ⟨by omega, by simp [maxLen]⟩, ⟨by simp, by omega⟩, rfl, (fun x hx => by simp at hx), fun j hj => by omega, hR6.upd ((Upd.refl (fun _ => False) w6).alloc _) (fun _ e => e.elim), (Upd.refl _ _).alloc _⟩
      case round =>
        obtain ⟨k, bt, cp, ts, hk, rfl, rfl, ⟨hkc, hcm⟩, ⟨hbt, hbt6⟩, htl, htb, htc, hRd, hU⟩ := hrel
        have zU := hU.size
        by_cases hlt : k < N
        · go_wp2_with fail
          refine (pick_any R (p5 + 1 + k) (k + 1) _ hRd (by omega)).mono ?_
          rintro e w7 ⟨y, rfl, hy, hR7, hU7⟩
          have hy2 := hy.1 (by omega)
          obtain ⟨h, rfl⟩ := Int.eq_ofNat_of_zero_le hy2.1
          have hhk : h ≤ k := by omega
          have htc7 : ∀ j, j < k → w7.cell? ⟨bt, j, none⟩ = some (.int .i64 (ts[j]?.getD 0)) := fun j hj => hU7.cell (htc j hj) (by simp; omega)
          have hUw7 := hU.trans hU7
          have z7 := hU7.size
          clear hy hy2 htc hU hU7 hRd
          go_wp2_with fail
          obtain ⟨AD, hAD⟩ : ∃ AD, (if cp = h then some (⟨bt, 0, none⟩ : Addr) else some ⟨bt, h, none⟩) = some AD := by split <;> exact ⟨_, rfl⟩
          have hadd : ∀ j, j < (ts.drop h).length → AD.add j = ⟨bt, h + j, none⟩ := fun j hj => by
            have hne : ¬ cp = h := fun e => by simp at hj; omega
            rw [if_neg hne] at hAD
            cases hAD
            exact addr_add ..
          have hadd0 : ∀ j, j < (ts.take h).length → (⟨bt, 0, none⟩ : Addr).add j = ⟨bt, 0 + j, none⟩ := fun j hj => addr_add ..
          have htk : (ts.take h).length = h := by simp; omega
          have htd : (ts.drop h).length = k - h := by simp; omega
          have hgt : ∀ j, j < (ts.take h).length → (ts.take h)[j]?.getD 0 = ts[0 + j]?.getD 0 := fun j hj => by rw [Nat.zero_add, List.getElem?_take_of_lt (by omega)]
          have hgd : ∀ j, j < (ts.drop h).length → (ts.drop h)[j]?.getD 0 = ts[h + j]?.getD 0 := fun j hj => by rw [List.getElem?_drop]
          have hone : ∀ (zs : List Int), ∀ u ∈ zs.map (Value.int .i64), u.oneCell' = true := fun zs u hu => by
            obtain ⟨z, _, rfl⟩ := List.mem_map.1 hu; rfl
          have hbt7 : bt < w7.heap.size := by omega
          have hkN : k < 6 := by omega
          have hhc : h ≤ cp := by omega
          have hhc' : (h : Int) ≤ (cp : Int) := by omega
          have hhk' : (h : Int) ≤ (k : Int) := by omega
          go_region_law (first
            | (refine step_append_any _ rfl (.tmp 94) (.tmp 97) _ (by rfl) w7.heap.size 3 i1 _ 8 Tryd.underlying23 hi1 hzi1 hsi1 hbi1 rfl (.slice (some ⟨_, 0, none⟩) 0 0) 0 [] (by rfl) (by simp) (by first | exact own_new2 _ _ _ | exact own_sooner (own_new _ _) (by first | (simp; done) | (simp; omega)) | exact own_sooner ((own_new _ _).alloc _) (by first | (simp; done) | (simp; omega))) ⟨bt, 0, none⟩ h cp _ (by rfl) (by rw [List.length_map]; exact htk) (news_at htc7 (by repeat' (first | exact Upd.refl _ _ | assumption | refine Upd.alloc ?_ _ | refine Upd.drew ?_)) hbt7 hadd0 hgt (by omega)) (hone _) (by simp [maxLen]; omega) (by omega) (by first | (simp; done) | (simp; omega)) ?_; intro g1 cap1 x1 hown1 hgrow1 hg1 hl1 hc1 hm1; rw [Nat.zero_add] at hown1; have hU1 : Upd (fun k => w7.heap.size ≤ k) w7 x1 := Upd.grown (by repeat' (first | exact Upd.refl _ _ | assumption | refine Upd.alloc ?_ _ | refine Upd.drew ?_)) hgrow1 (fun q hq => by simp [Value.ownBlock] at hq; omega))
            | (refine step_append_any _ rfl (.tmp 98) (.tmp 100) _ (by rfl) w7.heap.size 3 i1 _ 8 Tryd.underlying23 hi1 hzi1 hsi1 hbi1 rfl (.slice (some ⟨g1, 0, none⟩) h cap1) h _ (by rfl) (by simp) (by first | exact hown1 | exact hown1.alloc _) ⟨_, 0, none⟩ 1 1 [.int .i64 (k : Int)] (by rfl) rfl (by first | exact news_one (cell_new _ _ _) | exact news_one ((hgrow1.cell_far _ (by first | (simp; done) | (simp; omega)) (by simp [Value.ownBlock])).trans (draw_cell_new2 _ _ _ _)) | exact news_one ((hgrow1.cell_far _ (by first | (simp; done) | (simp; omega)) (by simp [Value.ownBlock])).trans (cell_new _ _ _)) | exact news_one ((hgrow1.cell_far _ (by first | (simp; done) | (simp; omega)) (by simp [Value.ownBlock])).trans (cell_new_alloc _ _ _ _)) | exact news_one ((hgrow1.cell_far _ (by first | (simp; done) | (simp; omega)) (by simp [Value.ownBlock])).trans (cell_new _ _ _))) (by simp [Value.oneCell']) (by simp [maxLen]; omega) (by omega) (by have := hU1.size; simp; omega) ?_; intro g2 cap2 x2 hown2 hgrow2 hg2 hl2 hc2 hm2; have hU2 : Upd (fun k => w7.heap.size ≤ k) w7 x2 := Upd.grown (by repeat' (first | exact Upd.refl _ _ | assumption | refine Upd.alloc ?_ _ | refine Upd.drew ?_)) hgrow2 (fun q hq => by simp [Value.ownBlock] at hq; omega))
            | (refine step_append_any _ rfl (.tmp 101) (.tmp 104) _ (by rfl) w7.heap.size 3 i1 _ 8 Tryd.underlying23 hi1 hzi1 hsi1 hbi1 rfl (.slice (some ⟨g2, 0, none⟩) (h + 1) cap2) (h + 1) _ (by rfl) (by simp) hown2 AD (k - h) _ _ (by simp [Act.eval]; rfl) (by rw [List.length_map]; exact htd) (news_at htc7 hU2 hbt7 hadd hgd (by omega)) (hone _) (by simp [maxLen]; omega) (by omega) (by have := hU2.size; omega) ?_; intro g3 cap3 x3 hown3 hgrow3 hg3 hl3 hc3 hm3; have hU3 : Upd (fun k => w7.heap.size ≤ k) w7 x3 := Upd.grown hU2 hgrow3 (fun q hq => by simp [Value.ownBlock] at hq; omega)))
          all_goals
            have e3 : ([] ++ (ts.take h).map (Value.int .i64) ++ [Value.int .i64 (k : Int)]) ++ (ts.drop h).map (Value.int .i64) = (ts.take h ++ [(k : Int)] ++ ts.drop h).map (Value.int .i64) := by simp
            rw [e3] at hown3
            have hn3 : h + 1 + (k - h) = k + 1 := by omega
            rw [hn3] at hown3 hc3
            obtain ⟨hl3', hc3'⟩ := own_cells hown3
            simp only [hn3]
            have htb' : ∀ x ∈ ts.take h ++ [(k : Int)] ++ ts.drop h, (0 : Int) ≤ x ∧ x < ((k + 1 : Nat) : Int) := fun x hx => by
              rcases List.mem_append.1 hx with hx | hx
              · rcases List.mem_append.1 hx with hx | hx
                · have := htb x (List.mem_of_mem_take hx); omega
                · have := List.mem_singleton.1 hx; omega
              · have := htb x (List.mem_of_mem_drop hx); omega
            have hR8 : Rd x3 R (p5 + 1 + (k + 1)) := hR7.upd hU3 (fun q hq => by omega)
            have hU8 : Upd (fun k => k = R) w6 x3 := hUw7.trans' hU3 (fun i hi e => by omega)
            go_wp2
            go_roundw
            case rel => exact ⟨k + 1, g3, cap3, ts.take h ++ [(k : Int)] ++ ts.drop h, by omega, by go_num, rfl, ⟨hc3, hm3⟩, ⟨hl3, by omega⟩, hl3', htb', hc3', hR8, hU8⟩
            case measure => simp [intOf]; omega
        · obtain rfl : k = N := by omega
          go_wp2_with fail
          refine (renumbered_any A5 (some ⟨bt, 0, none⟩) m5 c5 k cp zs5 ts wr ((hr6.upd hU (fun j e => by omega)).ints (by have := hU6.size; omega)) ⟨htl, fun _ => ⟨bt, 0, rfl, hbt, fun j hj => by rw [Nat.zero_add]; exact htc j hj⟩⟩ hm6 (by omega) hsm (fun j hj => by
            have hjl : j < ts.length := by omega
            have := htb ts[j] (List.getElem_mem hjl)
            rw [List.getElem?_eq_getElem hjl, Option.getD_some]
            omega)).mono ?_
          rintro e w8 ⟨os, rfl, hos, hArr, hB8⟩
          go_wp2
          go_ret
          exact ⟨_, m5, m5, os, p5 + 1 + k - p, rfl, by omega, Row.of hArr hos (by omega) hArr.lt, by omega, by rw [show p + (p5 + 1 + k - p) = p5 + 1 + k by omega]; exact hRd.below hB8 (by omega), (hRw6.trans hU).below hB8 (fun k h1 h2 => by omega)⟩
    · by_cases hy0 : y = 0
      · subst hy0
        have hN1 : ¬ 1 < N := fun e => hyn ⟨rfl, e⟩
        first
          | (exfalso; omega)
          | (go_wp2; go_ret; exact ⟨A5, m5, c5, zs5, p5 + 1 - p, rfl, by omega, hr6.more (Nat.le_refl _) hU6.size, by omega, by rw [show p + (p5 + 1 - p) = p5 + 1 by omega]; exact hR6, hRw6⟩)
      · go_wp2
        go_ret
        exact ⟨A5, m5, c5, zs5, p5 + 1 - p, rfl, by omega, hr6.more (Nat.le_refl _) hU6.size, by omega, by rw [show p + (p5 + 1 - p) = p5 + 1 by omega]; exact hR6, hRw6⟩
  by_cases x2 : x = 2
  · subst x2
    go_wp2_with fail
    have R4 := Rowed.new w4
    go_loopw [6, 7] (fun v i wr => ∃ (i' : Nat) (rs : List (List Int)), i = .int .i64 i' ∧ (1 ≤ i' ∧ (i' ≤ K ∨ i' = 1)) ∧ rs.length + 1 = i' ∧ (∀ r ∈ rs, r.length = 2) ∧ Rowed wr w4.heap.size v rs ∧ Rd wr R (p + 1 + q3 + 1 + rs.length) ∧ Upd (fun k => k = R) w wr) (fun _ i _ => K + 1 - (intOf i).toNat)
    case atStart => exact ⟨1, [], rfl, ⟨by omega, .inr rfl⟩, rfl, (fun r hr => by simp at hr), R4, hR4.upd ((Upd.refl (fun _ => False) w4).alloc _) (fun _ e => e.elim), hRw4.alloc _⟩
    case round =>
      clear hR4 R4
      obtain ⟨i', rs, rfl, ⟨hia, hib⟩, hrl, hall, hRo, hRd, hU⟩ := hrel
      have zU := hU.size
      by_cases hlt : i' < K
      · go_wp2_with fail
        refine (pick_any R (p + 1 + q3 + 1 + rs.length) i' _ hRd (by omega)).mono ?_
        rintro e w5 ⟨a, rfl, -, hR5, hU5⟩
        have hRo5 := hRo.keep hU5 (fun j e => by omega)
        have hUw := hU.trans hU5
        have z5 := hU5.size
        obtain ⟨vs, hown, hC, hb1⟩ := hRo5
        clear hRo hRd hU hU5
        go_wp2_with (at_builtin; go_loud (refine wpList_append1 _ rfl (.tmp 46) (.tmp 52) _ rfl w4.heap.size 23 i0 _ 24 Tryd.underlying64 hi0 hz0 hz1 hz2 rfl _ rs.length _ rfl ((hown.alloc _).alloc _) (w5.heap.size + 1) 1 (.slice (some ⟨w5.heap.size, 0, none⟩) 2 2) rfl (draw_cell_new2 _ _ _ _) rfl (by omega) (by omega) (by simp; omega) ?_); rintro v' w' hown' hg' -)
        have hall' : ∀ r ∈ rs ++ [[a, (i' : Int)]], r.length = 2 := fun r hr => by
          rcases List.mem_append.1 hr with hr | hr
          · exact hall r hr
          · rw [List.mem_singleton.1 hr]; rfl
        have hUg : Upd (fun k => w4.heap.size ≤ k) w5 w' := (((Upd.refl (fun k => w4.heap.size ≤ k) w5).alloc _).alloc _).grown hg' (fun k hk => .inr (own_base hown k hk))
        have hR9 : Rd w' R (p + 1 + q3 + 1 + (rs ++ [[a, (i' : Int)]]).length) := by
          rw [List.length_append]; exact hR5.upd hUg (fun k hk => by omega)
        have hU9 : Upd (fun k => k = R) w w' := hUw.trans' hUg (fun i hi e => by omega)
        have hl9 : (rs ++ [[a, (i' : Int)]]).length + 1 = i' + 1 := by simp; omega
        go_roundw
        case rel => exact ⟨i' + 1, rs ++ [[a, (i' : Int)]], by go_num, ⟨by omega, .inl (by omega)⟩, hl9, hall', Rowed.step hown rfl hC hb1 hown' hg', hR9, hU9⟩
        case measure => simp [intOf]; omega
      · have hF := hRo.few (by omega) (fun r hr => by rw [hall r hr]; omega)
        obtain ⟨A3, c3, rfl, hI4, hl4, hr4⟩ := hF
        go_wp2_with fail
        refine (specOrderOf_any K A3 _ c3 rs wr hI4 hl4 hr4).mono ?_
        rintro e w5 ⟨A5, m5, c5, rfl, r5, hB5⟩
        have hRw5 := hU.below hB5 (fun k h1 h2 => by omega)
        have hR5 := hRd.below hB5 (by omega)
        have hr5 := r5.more (lo' := w.heap.size) zU (Nat.le_refl _)
        obtain ⟨hsm, hml, hm6⟩ := ordL_small K rs
        rw [r5.len] at hml hm6
        generalize ordL (K : Int) rs = zs5 at *
        generalize hp5 : p + 1 + q3 + 1 + rs.length = p5 at *
        have hp5' : p5 ≤ p + 40 := by omega
        obtain ⟨N, hN1', hN2'⟩ : ∃ N : Nat, N ≤ K ∧ K ≤ N := ⟨K, Nat.le_refl _, Nat.le_refl _⟩
        clear r5 hI4 hB5 hRd hU hr4 hl4 hRo
        go_wp2_with fail
        refine (pick_any R p5 3 w5 hR5 (by omega)).mono ?_
        rintro e w6 ⟨y, rfl, hy, hR6, hU6⟩
        have hRw6 := hRw5.trans hU6
        have hz6 := hRw6.size
        have hr6 := hr5.upd hU6 (fun j e => by omega)
        by_cases hyn : y = 0 ∧ 1 < N
        · obtain ⟨rfl, hN1⟩ := hyn
          try have hK1 : (1 : Int) < (K : Int) := by omega
          go_wp2_with fail
          go_loopw [10, 11] (fun v i wr => ∃ (k bt cp : Nat) (ts : List Int), k ≤ N ∧ i = .int .i64 k ∧ v = .slice (some ⟨bt, 0, none⟩) k cp ∧ (k ≤ cp ∧ cp ≤ maxLen) ∧ (bt < wr.heap.size ∧ w6.heap.size ≤ bt) ∧ ts.length = k ∧ (∀ x ∈ ts, (0 : Int) ≤ x ∧ x < k) ∧ (∀ j, j < k → wr.cell? ⟨bt, j, none⟩ = some (.int .i64 (ts[j]?.getD 0))) ∧ Rd wr R (p5 + 1 + k) ∧ Upd (fun k => k = R) w6 wr) (fun _ i _ => N - (intOf i).toNat)
          case atStart => exact ⟨0, w6.heap.size, 0, [], by omega, rfl, rfl, ⟨by omega, by simp [maxLen]⟩, ⟨by simp, by omega⟩, rfl, (fun x hx => by simp at hx), fun j hj => by omega, hR6.upd ((Upd.refl (fun _ => False) w6).alloc _) (fun _ e => e.elim), (Upd.refl _ _).alloc _⟩
          case round =>
            obtain ⟨k, bt, cp, ts, hk, rfl, rfl, ⟨hkc, hcm⟩, ⟨hbt, hbt6⟩, htl, htb, htc, hRd, hU⟩ := hrel
            have zU := hU.size
            by_cases hlt : k < N
            · go_wp2_with fail
              refine (pick_any R (p5 + 1 + k) (k + 1) _ hRd (by omega)).mono ?_
              rintro e w7 ⟨y, rfl, hy, hR7, hU7⟩
              have hy2 := hy.1 (by omega)
              obtain ⟨h, rfl⟩ := Int.eq_ofNat_of_zero_le hy2.1
              have hhk : h ≤ k := by omega
              have htc7 : ∀ j, j < k → w7.cell? ⟨bt, j, none⟩ = some (.int .i64 (ts[j]?.getD 0)) := fun j hj => hU7.cell (htc j hj) (by simp; omega)
              have hUw7 := hU.trans hU7
              have z7 := hU7.size
              clear hy hy2 htc hU hU7 hRd
              go_wp2_with fail
              obtain ⟨AD, hAD⟩ : ∃ AD, (if cp = h then some (⟨bt, 0, none⟩ : Addr) else some ⟨bt, h, none⟩) = some AD := by split <;> exact ⟨_, rfl⟩
              have hadd : ∀ j, j < (ts.drop h).length → AD.add j = ⟨bt, h + j, none⟩ := fun j hj => by
                have hne : ¬ cp = h := fun e => by simp at hj; omega
                rw [if_neg hne] at hAD
                cases hAD
                exact addr_add ..
              have hadd0 : ∀ j, j < (ts.take h).length → (⟨bt, 0, none⟩ : Addr).add j = ⟨bt, 0 + j, none⟩ := fun j hj => addr_add ..
              have htk : (ts.take h).length = h := by simp; omega
              have htd : (ts.drop h).length = k - h := by simp; omega
              have hgt : ∀ j, j < (ts.take h).length → (ts.take h)[j]?.getD 0 = ts[0 + j]?.getD 0 := fun j hj => by rw [Nat.zero_add, List.getElem?_take_of_lt (by omega)]
              have hgd : ∀ j, j < (ts.drop h).length → (ts.drop h)[j]?.getD 0 = ts[h + j]?.getD 0 := fun j hj => by rw [List.getElem?_drop]
              have hone : ∀ (zs : List Int), ∀ u ∈ zs.map (Value.int .i64), u.oneCell' = true := fun zs u hu => by
                obtain ⟨z, _, rfl⟩ := List.mem_map.1 hu; rfl
              have hbt7 : bt < w7.heap.size := by omega
              have hkN : k < 6 := by omega
              have hhc : h ≤ cp := by omega
              have hhc' : (h : Int) ≤ (cp : Int) := by omega
              have hhk' : (h : Int) ≤ (k : Int) := by omega
              go_region_law (first
                | (refine step_append_any _ rfl (.tmp 94) (.tmp 97) _ (by rfl) w7.heap.size 3 i1 _ 8 Tryd.underlying23 hi1 hzi1 hsi1 hbi1 rfl (.slice (some ⟨_, 0, none⟩) 0 0) 0 [] (by rfl) (by simp) (by first | exact own_new2 _ _ _ | exact own_sooner (own_new _ _) (by first | (simp; done) | (simp; omega)) | exact own_sooner ((own_new _ _).alloc _) (by first | (simp; done) | (simp; omega))) ⟨bt, 0, none⟩ h cp _ (by rfl) (by rw [List.length_map]; exact htk) (news_at htc7 (by repeat' (first | exact Upd.refl _ _ | assumption | refine Upd.alloc ?_ _ | refine Upd.drew ?_)) hbt7 hadd0 hgt (by omega)) (hone _) (by simp [maxLen]; omega) (by omega) (by first | (simp; done) | (simp; omega)) ?_; intro g1 cap1 x1 hown1 hgrow1 hg1 hl1 hc1 hm1; rw [Nat.zero_add] at hown1; have hU1 : Upd (fun k => w7.heap.size ≤ k) w7 x1 := Upd.grown (by repeat' (first | exact Upd.refl _ _ | assumption | refine Upd.alloc ?_ _ | refine Upd.drew ?_)) hgrow1 (fun q hq => by simp [Value.ownBlock] at hq; omega))
                | (refine step_append_any _ rfl (.tmp 98) (.tmp 100) _ (by rfl) w7.heap.size 3 i1 _ 8 Tryd.underlying23 hi1 hzi1 hsi1 hbi1 rfl (.slice (some ⟨g1, 0, none⟩) h cap1) h _ (by rfl) (by simp) (by first | exact hown1 | exact hown1.alloc _) ⟨_, 0, none⟩ 1 1 [.int .i64 (k : Int)] (by rfl) rfl (by first | exact news_one (cell_new _ _ _) | exact news_one ((hgrow1.cell_far _ (by first | (simp; done) | (simp; omega)) (by simp [Value.ownBlock])).trans (draw_cell_new2 _ _ _ _)) | exact news_one ((hgrow1.cell_far _ (by first | (simp; done) | (simp; omega)) (by simp [Value.ownBlock])).trans (cell_new _ _ _)) | exact news_one ((hgrow1.cell_far _ (by first | (simp; done) | (simp; omega)) (by simp [Value.ownBlock])).trans (cell_new_alloc _ _ _ _)) | exact news_one ((hgrow1.cell_far _ (by first | (simp; done) | (simp; omega)) (by simp [Value.ownBlock])).trans (cell_new _ _ _))) (by simp [Value.oneCell']) (by simp [maxLen]; omega) (by omega) (by have := hU1.size; simp; omega) ?_; intro g2 cap2 x2 hown2 hgrow2 hg2 hl2 hc2 hm2; have hU2 : Upd (fun k => w7.heap.size ≤ k) w7 x2 := Upd.grown (by repeat' (first | exact Upd.refl _ _ | assumption | refine Upd.alloc ?_ _ | refine Upd.drew ?_)) hgrow2 (fun q hq => by simp [Value.ownBlock] at hq; omega))
                | (refine step_append_any _ rfl (.tmp 101) (.tmp 104) _ (by rfl) w7.heap.size 3 i1 _ 8 Tryd.underlying23 hi1 hzi1 hsi1 hbi1 rfl (.slice (some ⟨g2, 0, none⟩) (h + 1) cap2) (h + 1) _ (by rfl) (by simp) hown2 AD (k - h) _ _ (by simp [Act.eval]; rfl) (by rw [List.length_map]; exact htd) (news_at htc7 hU2 hbt7 hadd hgd (by omega)) (hone _) (by simp [maxLen]; omega) (by omega) (by have := hU2.size; omega) ?_; intro g3 cap3 x3 hown3 hgrow3 hg3 hl3 hc3 hm3; have hU3 : Upd (fun k => w7.heap.size ≤ k) w7 x3 := Upd.grown hU2 hgrow3 (fun q hq => by simp [Value.ownBlock] at hq; omega)))
              all_goals
                have e3 : ([] ++ (ts.take h).map (Value.int .i64) ++ [Value.int .i64 (k : Int)]) ++ (ts.drop h).map (Value.int .i64) = (ts.take h ++ [(k : Int)] ++ ts.drop h).map (Value.int .i64) := by simp
                rw [e3] at hown3
                have hn3 : h + 1 + (k - h) = k + 1 := by omega
                rw [hn3] at hown3 hc3
                obtain ⟨hl3', hc3'⟩ := own_cells hown3
                simp only [hn3]
                have htb' : ∀ x ∈ ts.take h ++ [(k : Int)] ++ ts.drop h, (0 : Int) ≤ x ∧ x < ((k + 1 : Nat) : Int) := fun x hx => by
                  rcases List.mem_append.1 hx with hx | hx
                  · rcases List.mem_append.1 hx with hx | hx
                    · have := htb x (List.mem_of_mem_take hx); omega
                    · have := List.mem_singleton.1 hx; omega
                  · have := htb x (List.mem_of_mem_drop hx); omega
                have hR8 : Rd x3 R (p5 + 1 + (k + 1)) := hR7.upd hU3 (fun q hq => by omega)
                have hU8 : Upd (fun k => k = R) w6 x3 := hUw7.trans' hU3 (fun i hi e => by omega)
                go_wp2
                go_roundw
                case rel => exact ⟨k + 1, g3, cap3, ts.take h ++ [(k : Int)] ++ ts.drop h, by omega, by go_num, rfl, ⟨hc3, hm3⟩, ⟨hl3, by omega⟩, hl3', htb', hc3', hR8, hU8⟩
                case measure => simp [intOf]; omega
            · obtain rfl : k = N := by omega
              go_wp2_with fail
              refine (renumbered_any A5 (some ⟨bt, 0, none⟩) m5 c5 k cp zs5 ts wr ((hr6.upd hU (fun j e => by omega)).ints (by have := hU6.size; omega)) ⟨htl, fun _ => ⟨bt, 0, rfl, hbt, fun j hj => by rw [Nat.zero_add]; exact htc j hj⟩⟩ hm6 (by omega) hsm (fun j hj => by
                have hjl : j < ts.length := by omega
                have := htb ts[j] (List.getElem_mem hjl)
                rw [List.getElem?_eq_getElem hjl, Option.getD_some]
                omega)).mono ?_
              rintro e w8 ⟨os, rfl, hos, hArr, hB8⟩
              go_wp2
              go_ret
              exact ⟨_, m5, m5, os, p5 + 1 + k - p, rfl, by omega, Row.of hArr hos (by omega) hArr.lt, by omega, by rw [show p + (p5 + 1 + k - p) = p5 + 1 + k by omega]; exact hRd.below hB8 (by omega), (hRw6.trans hU).below hB8 (fun k h1 h2 => by omega)⟩
        · by_cases hy0 : y = 0
          · subst hy0
            have hN1 : ¬ 1 < N := fun e => hyn ⟨rfl, e⟩
            first
              | (exfalso; omega)
              | (go_wp2; go_ret; exact ⟨A5, m5, c5, zs5, p5 + 1 - p, rfl, by omega, hr6.more (Nat.le_refl _) hU6.size, by omega, by rw [show p + (p5 + 1 - p) = p5 + 1 by omega]; exact hR6, hRw6⟩)
          · go_wp2
            go_ret
            exact ⟨A5, m5, c5, zs5, p5 + 1 - p, rfl, by omega, hr6.more (Nat.le_refl _) hU6.size, by omega, by rw [show p + (p5 + 1 - p) = p5 + 1 by omega]; exact hR6, hRw6⟩
  by_cases x3 : x = 3
  · subst x3
    go_wp2_with fail
    have hL := litRows w4 [(0, 1), (0, 2), (0, 3), (1, 4), (2, 4), (3, 4)]
    have hup := litW_upd w4 [(0, 1), (0, 2), (0, 3), (1, 4), (2, 4), (3, 4)]
    refine (specOrderOf_any 5 _ 6 6 _ (litW w4 [(0, 1), (0, 2), (0, 3), (1, 4), (2, 4), (3, 4)]) hL (by simp) (by simp)).mono ?_
    rintro e w5 ⟨A5, m5, c5, rfl, r5, hB5⟩
    have hzL := hup.size
    have hRw5 := (hRw4.trans (hup.mono fun _ _ e => e.elim)).below hB5 (fun k h1 h2 => by omega)
    have hR5 := (hR4.upd hup (fun _ e => e.elim)).below hB5 (by omega)
    have hr5 := r5.more (lo' := w.heap.size) (by omega) (Nat.le_refl _)
    have hos := ordL_small 5 (([(0, 1), (0, 2), (0, 3), (1, 4), (2, 4), (3, 4)] : List (Int × Int)).map fun r => [r.1, r.2])
    obtain ⟨zs5, hzs5⟩ : ∃ zs5, ordL 5 (([(0, 1), (0, 2), (0, 3), (1, 4), (2, 4), (3, 4)] : List (Int × Int)).map fun r => [r.1, r.2]) = zs5 := ⟨_, rfl⟩
    rw [hzs5] at hos hr5
    obtain ⟨hsm, hml, hm6⟩ := hos
    rw [hr5.len] at hml hm6
    have hob : ∃ bb : Bool, ordOk 5 (([(0, 1), (0, 2), (0, 3), (1, 4), (2, 4), (3, 4)] : List (Int × Int)).map fun r => [r.1, r.2]) = bb := ⟨_, rfl⟩
    obtain ⟨bb, hbb⟩ := hob
    rw [hbb]
    generalize hp5 : p + 1 + q3 + 1 = p5 at *
    have hp5' : p5 ≤ p + 40 := by omega
    obtain ⟨N, hN1', hN2'⟩ : ∃ N : Nat, N ≤ 5 ∧ 5 ≤ N := ⟨5, Nat.le_refl _, Nat.le_refl _⟩
    clear r5 hL hB5 hR4 hRw4 hup hzL
    go_wp2_with fail
    refine (pick_any R p5 3 w5 hR5 (by omega)).mono ?_
    rintro e w6 ⟨y, rfl, hy, hR6, hU6⟩
    have hRw6 := hRw5.trans hU6
    have hz6 := hRw6.size
    have hr6 := hr5.upd hU6 (fun j e => by omega)
    by_cases hyn : y = 0 ∧ 1 < N
    · obtain ⟨rfl, hN1⟩ := hyn
      try have hK1 : (1 : Int) < (K : Int) := by omega
      go_wp2_with fail
      go_loopw [10, 11] (fun v i wr => ∃ (k bt cp : Nat) (ts : List Int), k ≤ N ∧ i = .int .i64 k ∧ v = .slice (some ⟨bt, 0, none⟩) k cp ∧ (k ≤ cp ∧ cp ≤ maxLen) ∧ (bt < wr.heap.size ∧ w6.heap.size ≤ bt) ∧ ts.length = k ∧ (∀ x ∈ ts, (0 : Int) ≤ x ∧ x < k) ∧ (∀ j, j < k → wr.cell? ⟨bt, j, none⟩ = some (.int .i64 (ts[j]?.getD 0))) ∧ Rd wr R (p5 + 1 + k) ∧ Upd (fun k => k = R) w6 wr) (fun _ i _ => N - (intOf i).toNat)
      case atStart => exact ⟨0, w6.heap.size, 0, [], by omega, rfl, rfl, ⟨by omega, by simp [maxLen]⟩, ⟨by simp, by omega⟩, rfl, (fun x hx => by simp at hx), fun j hj => by omega, hR6.upd ((Upd.refl (fun _ => False) w6).alloc _) (fun _ e => e.elim), (Upd.refl _ _).alloc _⟩
      case round =>
        obtain ⟨k, bt, cp, ts, hk, rfl, rfl, ⟨hkc, hcm⟩, ⟨hbt, hbt6⟩, htl, htb, htc, hRd, hU⟩ := hrel
        have zU := hU.size
        by_cases hlt : k < N
        · go_wp2_with fail
          refine (pick_any R (p5 + 1 + k) (k + 1) _ hRd (by omega)).mono ?_
          rintro e w7 ⟨y, rfl, hy, hR7, hU7⟩
          have hy2 := hy.1 (by omega)
          obtain ⟨h, rfl⟩ := Int.eq_ofNat_of_zero_le hy2.1
          have hhk : h ≤ k := by omega
          have htc7 : ∀ j, j < k → w7.cell? ⟨bt, j, none⟩ = some (.int .i64 (ts[j]?.getD 0)) := fun j hj => hU7.cell (htc j hj) (by simp; omega)
          have hUw7 := hU.trans hU7
          have z7 := hU7.size
          clear hy hy2 htc hU hU7 hRd
          go_wp2_with fail
          obtain ⟨AD, hAD⟩ : ∃ AD, (if cp = h then some (⟨bt, 0, none⟩ : Addr) else some ⟨bt, h, none⟩) = some AD := by split <;> exact ⟨_, rfl⟩
          have hadd : ∀ j, j < (ts.drop h).length → AD.add j = ⟨bt, h + j, none⟩ := fun j hj => by
            have hne : ¬ cp = h := fun e => by simp at hj; omega
            rw [if_neg hne] at hAD
            cases hAD
            exact addr_add ..
          have hadd0 : ∀ j, j < (ts.take h).length → (⟨bt, 0, none⟩ : Addr).add j = ⟨bt, 0 + j, none⟩ := fun j hj => addr_add ..
          have htk : (ts.take h).length = h := by simp; omega
          have htd : (ts.drop h).length = k - h := by simp; omega
          have hgt : ∀ j, j < (ts.take h).length → (ts.take h)[j]?.getD 0 = ts[0 + j]?.getD 0 := fun j hj => by rw [Nat.zero_add, List.getElem?_take_of_lt (by omega)]
          have hgd : ∀ j, j < (ts.drop h).length → (ts.drop h)[j]?.getD 0 = ts[h + j]?.getD 0 := fun j hj => by rw [List.getElem?_drop]
          have hone : ∀ (zs : List Int), ∀ u ∈ zs.map (Value.int .i64), u.oneCell' = true := fun zs u hu => by
            obtain ⟨z, _, rfl⟩ := List.mem_map.1 hu; rfl
          have hbt7 : bt < w7.heap.size := by omega
          have hkN : k < 6 := by omega
          have hhc : h ≤ cp := by omega
          have hhc' : (h : Int) ≤ (cp : Int) := by omega
          have hhk' : (h : Int) ≤ (k : Int) := by omega
          go_region_law (first
            | (refine step_append_any _ rfl (.tmp 94) (.tmp 97) _ (by rfl) w7.heap.size 3 i1 _ 8 Tryd.underlying23 hi1 hzi1 hsi1 hbi1 rfl (.slice (some ⟨_, 0, none⟩) 0 0) 0 [] (by rfl) (by simp) (by first | exact own_new2 _ _ _ | exact own_sooner (own_new _ _) (by first | (simp; done) | (simp; omega)) | exact own_sooner ((own_new _ _).alloc _) (by first | (simp; done) | (simp; omega))) ⟨bt, 0, none⟩ h cp _ (by rfl) (by rw [List.length_map]; exact htk) (news_at htc7 (by repeat' (first | exact Upd.refl _ _ | assumption | refine Upd.alloc ?_ _ | refine Upd.drew ?_)) hbt7 hadd0 hgt (by omega)) (hone _) (by simp [maxLen]; omega) (by omega) (by first | (simp; done) | (simp; omega)) ?_; intro g1 cap1 x1 hown1 hgrow1 hg1 hl1 hc1 hm1; rw [Nat.zero_add] at hown1; have hU1 : Upd (fun k => w7.heap.size ≤ k) w7 x1 := Upd.grown (by repeat' (first | exact Upd.refl _ _ | assumption | refine Upd.alloc ?_ _ | refine Upd.drew ?_)) hgrow1 (fun q hq => by simp [Value.ownBlock] at hq; omega))
            | (refine step_append_any _ rfl (.tmp 98) (.tmp 100) _ (by rfl) w7.heap.size 3 i1 _ 8 Tryd.underlying23 hi1 hzi1 hsi1 hbi1 rfl (.slice (some ⟨g1, 0, none⟩) h cap1) h _ (by rfl) (by simp) (by first | exact hown1 | exact hown1.alloc _) ⟨_, 0, none⟩ 1 1 [.int .i64 (k : Int)] (by rfl) rfl (by first | exact news_one (cell_new _ _ _) | exact news_one ((hgrow1.cell_far _ (by first | (simp; done) | (simp; omega)) (by simp [Value.ownBlock])).trans (draw_cell_new2 _ _ _ _)) | exact news_one ((hgrow1.cell_far _ (by first | (simp; done) | (simp; omega)) (by simp [Value.ownBlock])).trans (cell_new _ _ _)) | exact news_one ((hgrow1.cell_far _ (by first | (simp; done) | (simp; omega)) (by simp [Value.ownBlock])).trans (cell_new_alloc _ _ _ _)) | exact news_one ((hgrow1.cell_far _ (by first | (simp; done) | (simp; omega)) (by simp [Value.ownBlock])).trans (cell_new _ _ _))) (by simp [Value.oneCell']) (by simp [maxLen]; omega) (by omega) (by have := hU1.size; simp; omega) ?_; intro g2 cap2 x2 hown2 hgrow2 hg2 hl2 hc2 hm2; have hU2 : Upd (fun k => w7.heap.size ≤ k) w7 x2 := Upd.grown (by repeat' (first | exact Upd.refl _ _ | assumption | refine Upd.alloc ?_ _ | refine Upd.drew ?_)) hgrow2 (fun q hq => by simp [Value.ownBlock] at hq; omega))
            | (refine step_append_any _ rfl (.tmp 101) (.tmp 104) _ (by rfl) w7.heap.size 3 i1 _ 8 Tryd.underlying23 hi1 hzi1 hsi1 hbi1 rfl (.slice (some ⟨g2, 0, none⟩) (h + 1) cap2) (h + 1) _ (by rfl) (by simp) hown2 AD (k - h) _ _ (by simp [Act.eval]; rfl) (by rw [List.length_map]; exact htd) (news_at htc7 hU2 hbt7 hadd hgd (by omega)) (hone _) (by simp [maxLen]; omega) (by omega) (by have := hU2.size; omega) ?_; intro g3 cap3 x3 hown3 hgrow3 hg3 hl3 hc3 hm3; have hU3 : Upd (fun k => w7.heap.size ≤ k) w7 x3 := Upd.grown hU2 hgrow3 (fun q hq => by simp [Value.ownBlock] at hq; omega)))
          all_goals
            have e3 : ([] ++ (ts.take h).map (Value.int .i64) ++ [Value.int .i64 (k : Int)]) ++ (ts.drop h).map (Value.int .i64) = (ts.take h ++ [(k : Int)] ++ ts.drop h).map (Value.int .i64) := by simp
            rw [e3] at hown3
            have hn3 : h + 1 + (k - h) = k + 1 := by omega
            rw [hn3] at hown3 hc3
            obtain ⟨hl3', hc3'⟩ := own_cells hown3
            simp only [hn3]
            have htb' : ∀ x ∈ ts.take h ++ [(k : Int)] ++ ts.drop h, (0 : Int) ≤ x ∧ x < ((k + 1 : Nat) : Int) := fun x hx => by
              rcases List.mem_append.1 hx with hx | hx
              · rcases List.mem_append.1 hx with hx | hx
                · have := htb x (List.mem_of_mem_take hx); omega
                · have := List.mem_singleton.1 hx; omega
              · have := htb x (List.mem_of_mem_drop hx); omega
            have hR8 : Rd x3 R (p5 + 1 + (k + 1)) := hR7.upd hU3 (fun q hq => by omega)
            have hU8 : Upd (fun k => k = R) w6 x3 := hUw7.trans' hU3 (fun i hi e => by omega)
            go_wp2
            go_roundw
            case rel => exact ⟨k + 1, g3, cap3, ts.take h ++ [(k : Int)] ++ ts.drop h, by omega, by go_num, rfl, ⟨hc3, hm3⟩, ⟨hl3, by omega⟩, hl3', htb', hc3', hR8, hU8⟩
            case measure => simp [intOf]; omega
        · obtain rfl : k = N := by omega
          go_wp2_with fail
          refine (renumbered_any A5 (some ⟨bt, 0, none⟩) m5 c5 k cp zs5 ts wr ((hr6.upd hU (fun j e => by omega)).ints (by have := hU6.size; omega)) ⟨htl, fun _ => ⟨bt, 0, rfl, hbt, fun j hj => by rw [Nat.zero_add]; exact htc j hj⟩⟩ hm6 (by omega) hsm (fun j hj => by
            have hjl : j < ts.length := by omega
            have := htb ts[j] (List.getElem_mem hjl)
            rw [List.getElem?_eq_getElem hjl, Option.getD_some]
            omega)).mono ?_
          rintro e w8 ⟨os, rfl, hos, hArr, hB8⟩
          go_wp2
          go_ret
          exact ⟨_, m5, m5, os, p5 + 1 + k - p, rfl, by omega, Row.of hArr hos (by omega) hArr.lt, by omega, by rw [show p + (p5 + 1 + k - p) = p5 + 1 + k by omega]; exact hRd.below hB8 (by omega), (hRw6.trans hU).below hB8 (fun k h1 h2 => by omega)⟩
    · by_cases hy0 : y = 0
      · subst hy0
        have hN1 : ¬ 1 < N := fun e => hyn ⟨rfl, e⟩
        first
          | (exfalso; omega)
          | (go_wp2; go_ret; exact ⟨A5, m5, c5, zs5, p5 + 1 - p, rfl, by omega, hr6.more (Nat.le_refl _) hU6.size, by omega, by rw [show p + (p5 + 1 - p) = p5 + 1 by omega]; exact hR6, hRw6⟩)
      · go_wp2
        go_ret
        exact ⟨A5, m5, c5, zs5, p5 + 1 - p, rfl, by omega, hr6.more (Nat.le_refl _) hU6.size, by omega, by rw [show p + (p5 + 1 - p) = p5 + 1 by omega]; exact hR6, hRw6⟩
  obtain ⟨A3, c3, rfl, hI4, hl4, hr4⟩ := hF4
  go_wp2_with fail
  refine (specOrderOf_any K A3 _ c3 rs3 w4 hI4 hl4 hr4).mono ?_
  rintro e w5 ⟨A5, m5, c5, rfl, r5, hB5⟩
  have hRw5 := hRw4.below hB5 (fun k h1 h2 => by omega)
  have hR5 := hR4.below hB5 (by omega)
  have hr5 := r5.more (lo' := w.heap.size) hz4' (Nat.le_refl _)
  obtain ⟨hsm, hml, hm6⟩ := ordL_small K rs3
  rw [r5.len] at hml hm6
  generalize ordL (K : Int) rs3 = zs5 at *
  generalize hp5 : p + 1 + q3 + 1 = p5 at *
  have hp5' : p5 ≤ p + 40 := by omega
  obtain ⟨N, hN1', hN2'⟩ : ∃ N : Nat, N ≤ K ∧ K ≤ N := ⟨K, Nat.le_refl _, Nat.le_refl _⟩
  clear r5 hI4 hB5 hR4 hRw4 hr4 hl4
  go_wp2_with fail
  refine (pick_any R p5 3 w5 hR5 (by omega)).mono ?_
  rintro e w6 ⟨y, rfl, hy, hR6, hU6⟩
  have hRw6 := hRw5.trans hU6
  have hz6 := hRw6.size
  have hr6 := hr5.upd hU6 (fun j e => by omega)
  by_cases hyn : y = 0 ∧ 1 < N
  · obtain ⟨rfl, hN1⟩ := hyn
    try have hK1 : (1 : Int) < (K : Int) := by omega
    go_wp2_with fail
    go_loopw [10, 11] (fun v i wr => ∃ (k bt cp : Nat) (ts : List Int), k ≤ N ∧ i = .int .i64 k ∧ v = .slice (some ⟨bt, 0, none⟩) k cp ∧ (k ≤ cp ∧ cp ≤ maxLen) ∧ (bt < wr.heap.size ∧ w6.heap.size ≤ bt) ∧ ts.length = k ∧ (∀ x ∈ ts, (0 : Int) ≤ x ∧ x < k) ∧ (∀ j, j < k → wr.cell? ⟨bt, j, none⟩ = some (.int .i64 (ts[j]?.getD 0))) ∧ Rd wr R (p5 + 1 + k) ∧ Upd (fun k => k = R) w6 wr) (fun _ i _ => N - (intOf i).toNat)
    case atStart => exact ⟨0, w6.heap.size, 0, [], by omega, rfl, rfl, ⟨by omega, by simp [maxLen]⟩, ⟨by simp, by omega⟩, rfl, (fun x hx => by simp at hx), fun j hj => by omega, hR6.upd ((Upd.refl (fun _ => False) w6).alloc _) (fun _ e => e.elim), (Upd.refl _ _).alloc _⟩
    case round =>
      obtain ⟨k, bt, cp, ts, hk, rfl, rfl, ⟨hkc, hcm⟩, ⟨hbt, hbt6⟩, htl, htb, htc, hRd, hU⟩ := hrel
      have zU := hU.size
      by_cases hlt : k < N
      · go_wp2_with fail
        refine (pick_any R (p5 + 1 + k) (k + 1) _ hRd (by omega)).mono ?_
        rintro e w7 ⟨y, rfl, hy, hR7, hU7⟩
        have hy2 := hy.1 (by omega)
        obtain ⟨h, rfl⟩ := Int.eq_ofNat_of_zero_le hy2.1
        have hhk : h ≤ k := by omega
        have htc7 : ∀ j, j < k → w7.cell? ⟨bt, j, none⟩ = some (.int .i64 (ts[j]?.getD 0)) := fun j hj => hU7.cell (htc j hj) (by simp; omega)
        have hUw7 := hU.trans hU7
        have z7 := hU7.size
        clear hy hy2 htc hU hU7 hRd
        go_wp2_with fail
        obtain ⟨AD, hAD⟩ : ∃ AD, (if cp = h then some (⟨bt, 0, none⟩ : Addr) else some ⟨bt, h, none⟩) = some AD := by split <;> exact ⟨_, rfl⟩
        have hadd : ∀ j, j < (ts.drop h).length → AD.add j = ⟨bt, h + j, none⟩ := fun j hj => by
          have hne : ¬ cp = h := fun e => by simp at hj; omega
          rw [if_neg hne] at hAD
          cases hAD
          exact addr_add ..
        have hadd0 : ∀ j, j < (ts.take h).length → (⟨bt, 0, none⟩ : Addr).add j = ⟨bt, 0 + j, none⟩ := fun j hj => addr_add ..
        have htk : (ts.take h).length = h := by simp; omega
        have htd : (ts.drop h).length = k - h := by simp; omega
        have hgt : ∀ j, j < (ts.take h).length → (ts.take h)[j]?.getD 0 = ts[0 + j]?.getD 0 := fun j hj => by rw [Nat.zero_add, List.getElem?_take_of_lt (by omega)]
        have hgd : ∀ j, j < (ts.drop h).length → (ts.drop h)[j]?.getD 0 = ts[h + j]?.getD 0 := fun j hj => by rw [List.getElem?_drop]
        have hone : ∀ (zs : List Int), ∀ u ∈ zs.map (Value.int .i64), u.oneCell' = true := fun zs u hu => by
          obtain ⟨z, _, rfl⟩ := List.mem_map.1 hu; rfl
        have hbt7 : bt < w7.heap.size := by omega
        have hkN : k < 6 := by omega
        have hhc : h ≤ cp := by omega
        have hhc' : (h : Int) ≤ (cp : Int) := by omega
        have hhk' : (h : Int) ≤ (k : Int) := by omega
        go_region_law (first
          | (refine step_append_any _ rfl (.tmp 94) (.tmp 97) _ (by rfl) w7.heap.size 3 i1 _ 8 Tryd.underlying23 hi1 hzi1 hsi1 hbi1 rfl (.slice (some ⟨_, 0, none⟩) 0 0) 0 [] (by rfl) (by simp) (by first | exact own_new2 _ _ _ | exact own_sooner (own_new _ _) (by first | (simp; done) | (simp; omega)) | exact own_sooner ((own_new _ _).alloc _) (by first | (simp; done) | (simp; omega))) ⟨bt, 0, none⟩ h cp _ (by rfl) (by rw [List.length_map]; exact htk) (news_at htc7 (by repeat' (first | exact Upd.refl _ _ | assumption | refine Upd.alloc ?_ _ | refine Upd.drew ?_)) hbt7 hadd0 hgt (by omega)) (hone _) (by simp [maxLen]; omega) (by omega) (by first | (simp; done) | (simp; omega)) ?_; intro g1 cap1 x1 hown1 hgrow1 hg1 hl1 hc1 hm1; rw [Nat.zero_add] at hown1; have hU1 : Upd (fun k => w7.heap.size ≤ k) w7 x1 := Upd.grown (by repeat' (first | exact Upd.refl _ _ | assumption | refine Upd.alloc ?_ _ | refine Upd.drew ?_)) hgrow1 (fun q hq => by simp [Value.ownBlock] at hq; omega))
          | (refine step_append_any _ rfl (.tmp 98) (.tmp 100) _ (by rfl) w7.heap.size 3 i1 _ 8 Tryd.underlying23 hi1 hzi1 hsi1 hbi1 rfl (.slice (some ⟨g1, 0, none⟩) h cap1) h _ (by rfl) (by simp) (by first | exact hown1 | exact hown1.alloc _) ⟨_, 0, none⟩ 1 1 [.int .i64 (k : Int)] (by rfl) rfl (by first | exact news_one (cell_new _ _ _) | exact news_one ((hgrow1.cell_far _ (by first | (simp; done) | (simp; omega)) (by simp [Value.ownBlock])).trans (draw_cell_new2 _ _ _ _)) | exact news_one ((hgrow1.cell_far _ (by first | (simp; done) | (simp; omega)) (by simp [Value.ownBlock])).trans (cell_new _ _ _)) | exact news_one ((hgrow1.cell_far _ (by first | (simp; done) | (simp; omega)) (by simp [Value.ownBlock])).trans (cell_new_alloc _ _ _ _)) | exact news_one ((hgrow1.cell_far _ (by first | (simp; done) | (simp; omega)) (by simp [Value.ownBlock])).trans (cell_new _ _ _))) (by simp [Value.oneCell']) (by simp [maxLen]; omega) (by omega) (by have := hU1.size; simp; omega) ?_; intro g2 cap2 x2 hown2 hgrow2 hg2 hl2 hc2 hm2; have hU2 : Upd (fun k => w7.heap.size ≤ k) w7 x2 := Upd.grown (by repeat' (first | exact Upd.refl _ _ | assumption | refine Upd.alloc ?_ _ | refine Upd.drew ?_)) hgrow2 (fun q hq => by simp [Value.ownBlock] at hq; omega))
          | (refine step_append_any _ rfl (.tmp 101) (.tmp 104) _ (by rfl) w7.heap.size 3 i1 _ 8 Tryd.underlying23 hi1 hzi1 hsi1 hbi1 rfl (.slice (some ⟨g2, 0, none⟩) (h + 1) cap2) (h + 1) _ (by rfl) (by simp) hown2 AD (k - h) _ _ (by simp [Act.eval]; rfl) (by rw [List.length_map]; exact htd) (news_at htc7 hU2 hbt7 hadd hgd (by omega)) (hone _) (by simp [maxLen]; omega) (by omega) (by have := hU2.size; omega) ?_; intro g3 cap3 x3 hown3 hgrow3 hg3 hl3 hc3 hm3; have hU3 : Upd (fun k => w7.heap.size ≤ k) w7 x3 := Upd.grown hU2 hgrow3 (fun q hq => by simp [Value.ownBlock] at hq; omega)))
        all_goals
          have e3 : ([] ++ (ts.take h).map (Value.int .i64) ++ [Value.int .i64 (k : Int)]) ++ (ts.drop h).map (Value.int .i64) = (ts.take h ++ [(k : Int)] ++ ts.drop h).map (Value.int .i64) := by simp
          rw [e3] at hown3
          have hn3 : h + 1 + (k - h) = k + 1 := by omega
          rw [hn3] at hown3 hc3
          obtain ⟨hl3', hc3'⟩ := own_cells hown3
          simp only [hn3]
          have htb' : ∀ x ∈ ts.take h ++ [(k : Int)] ++ ts.drop h, (0 : Int) ≤ x ∧ x < ((k + 1 : Nat) : Int) := fun x hx => by
            rcases List.mem_append.1 hx with hx | hx
            · rcases List.mem_append.1 hx with hx | hx
              · have := htb x (List.mem_of_mem_take hx); omega
              · have := List.mem_singleton.1 hx; omega
            · have := htb x (List.mem_of_mem_drop hx); omega
          have hR8 : Rd x3 R (p5 + 1 + (k + 1)) := hR7.upd hU3 (fun q hq => by omega)
          have hU8 : Upd (fun k => k = R) w6 x3 := hUw7.trans' hU3 (fun i hi e => by omega)
          go_wp2
          go_roundw
          case rel => exact ⟨k + 1, g3, cap3, ts.take h ++ [(k : Int)] ++ ts.drop h, by omega, by go_num, rfl, ⟨hc3, hm3⟩, ⟨hl3, by omega⟩, hl3', htb', hc3', hR8, hU8⟩
          case measure => simp [intOf]; omega
      · obtain rfl : k = N := by omega
        go_wp2_with fail
        refine (renumbered_any A5 (some ⟨bt, 0, none⟩) m5 c5 k cp zs5 ts wr ((hr6.upd hU (fun j e => by omega)).ints (by have := hU6.size; omega)) ⟨htl, fun _ => ⟨bt, 0, rfl, hbt, fun j hj => by rw [Nat.zero_add]; exact htc j hj⟩⟩ hm6 (by omega) hsm (fun j hj => by
          have hjl : j < ts.length := by omega
          have := htb ts[j] (List.getElem_mem hjl)
          rw [List.getElem?_eq_getElem hjl, Option.getD_some]
          omega)).mono ?_
        rintro e w8 ⟨os, rfl, hos, hArr, hB8⟩
        go_wp2
        go_ret
        exact ⟨_, m5, m5, os, p5 + 1 + k - p, rfl, by omega, Row.of hArr hos (by omega) hArr.lt, by omega, by rw [show p + (p5 + 1 + k - p) = p5 + 1 + k by omega]; exact hRd.below hB8 (by omega), (hRw6.trans hU).below hB8 (fun k h1 h2 => by omega)⟩
  · by_cases hy0 : y = 0
    · subst hy0
      have hN1 : ¬ 1 < N := fun e => hyn ⟨rfl, e⟩
      first
        | (exfalso; omega)
        | (go_wp2; go_ret; exact ⟨A5, m5, c5, zs5, p5 + 1 - p, rfl, by omega, hr6.more (Nat.le_refl _) hU6.size, by omega, by rw [show p + (p5 + 1 - p) = p5 + 1 by omega]; exact hR6, hRw6⟩)
    · go_wp2
      go_ret
      exact ⟨A5, m5, c5, zs5, p5 + 1 - p, rfl, by omega, hr6.more (Nat.le_refl _) hU6.size, by omega, by rw [show p + (p5 + 1 - p) = p5 + 1 by omega]; exact hR6, hRw6⟩
end Go.Proofs.YtiicffibhjeabaaDoor

/- A list that is drawn, an order most often. -/
namespace Go.Proofs.YtiicffibhjeabaaDoor
open Go.RowKit Go.Shelf

set_option maxRecDepth 100000 in
set_option maxHeartbeats 4000000 in
theorem someOrder_any (R p : Nat) (w : World) (h : Rd w R p) (hp : p ≤ 700000) :
    Calls Tryd.prog 14 #[.pointer (some ⟨R, 0, none⟩), .int .i64 6] w fun e w' => ∃ A n c zs q, e = .returned (.slice A n c) ∧ n ≤ 7 ∧ Row w' w.heap.size w'.heap.size A n zs ∧ q ≤ 110 ∧ Rd w' R (p + q) ∧ Upd (fun k => k = R) w w' := by
  have hRl := h.lt
  go_enter Tryd.func14, Tryd.ntmps14
  go_wp2_with fail
  refine (goodOrder_any R p w h (by omega)).mono ?_
  rintro e w1 ⟨A, n, c, zs, q, rfl, hn6, r1, hq, hR1, hU1⟩
  have z1 := hU1.size
  by_cases hn : 0 < n
  · obtain ⟨b, ys, rfl, hb0, hb1, hAr⟩ := r1.2 hn
    have hlen := Lib.hid r1.len
    clear r1
    go_wp2_with fail
    refine (pick_any R (p + q) n w1 hR1 (by omega)).mono ?_
    rintro e w2 ⟨k, rfl, hk, hR2, hU2⟩
    obtain ⟨k0, k1⟩ := hk.1 (by omega)
    obtain ⟨k, rfl⟩ := Int.eq_ofNat_of_zero_le k0
    have hA2 := hAr.upd hU2 (by omega)
    have z2 := hU2.size
    have hUw2 := hU1.trans hU2
    clear hk hR1 hAr hU2
    go_wp2_with fail
    refine (pick_any R (p + q + 1) 40 w2 hR2 (by omega)).mono ?_
    rintro e w3 ⟨x, rfl, -, hR3, hU3⟩
    have hA3 := hA2.upd hU3 (by omega)
    have z3 := hU3.size
    have hUw3 := hUw2.trans hU3
    clear hR2 hA2 hU3 hUw2
    have hkl : k < (zs ++ ys).length := by rw [List.length_append, hlen.out]; omega
    have hck := hA3.cell hkl
    have hfk := hA3.frozen k
    have hset : ∀ v : Int, (zs ++ ys).set k v = zs.set k v ++ ys := fun v => List.set_append_left _ _ (by rw [hlen.out]; omega)
    have hpk : ∀ w, Calls Tryd.prog 30 #[.int .i64 (k : Int)] w fun e w' => e = .returned (.int .i64 (powI k)) ∧ w = w' := fun w => power_any _ _ (by omega) (by omega)
    have hpn : ∀ w, Calls Tryd.prog 30 #[.int .i64 (n : Int)] w fun e w' => e = .returned (.int .i64 (powI n)) ∧ w = w' := fun w => power_any _ _ (by omega) (by omega)
    by_cases x0 : x = 0
    · subst x0
      obtain ⟨z, hz⟩ : ∃ z, (zs ++ ys)[k]?.getD 0 = z := ⟨_, rfl⟩
      rw [hz] at hck
      have hRd : Rd w3.drew R (p + q + 1 + 1) := hR3
      have hcel : ∀ w4, Upd (fun k => k = R) w3.drew w4 → w4.cell? ⟨b, k, none⟩ = some (.int .i64 z) ∧ w4.frozen? ⟨b, k, none⟩ = false := fun w4 hU4 =>
        ⟨hU4.cell (p := ⟨b, k, none⟩) hck (by simp; omega), (hA3.drew.upd hU4 (by omega)).frozen k⟩
      have hfin : ∀ w4 xv, Upd (fun k => k = R) w3.drew w4 → Rd w4 R (p + q + 1 + 1 + 1) →
          Row (w4.setCell ⟨b, k, none⟩ (.int .i64 xv)) w.heap.size (w4.setCell ⟨b, k, none⟩ (.int .i64 xv)).heap.size (some ⟨b, 0, none⟩) n (zs.set k xv) ∧
          Rd (w4.setCell ⟨b, k, none⟩ (.int .i64 xv)) R (p + (q + 3)) ∧ Upd (fun k => k = R) w (w4.setCell ⟨b, k, none⟩ (.int .i64 xv)) := fun w4 xv hU4 hR4 => by
        have hA4 := hA3.drew.upd hU4 (by omega)
        have z4 : w3.heap.size ≤ w4.heap.size := hU4.size
        have hU4' := hUw3.drew.trans hU4
        have hA6 := hA4.set k xv
        rw [hset] at hA6
        have hU6 : Upd (fun i => w.heap.size ≤ i ∧ i = b) w4 (w4.setCell ⟨b, k, none⟩ (.int .i64 xv)) := (Upd.refl (fun i => w.heap.size ≤ i ∧ i = b) w4).setCell (p := ⟨b, k, none⟩) (.inr ⟨hb0, rfl⟩) _
        refine ⟨⟨by simpa using hlen.out, fun _ => ⟨b, ys, rfl, hb0, by simp [World.setCell]; omega, hA6⟩⟩, ?_, hU4'.trans' hU6 (fun i hi e => by omega)⟩
        rw [show p + (q + 3) = p + q + 1 + 1 + 1 by omega]; exact hR4.upd hU6 (fun i hi => by omega)
      have hpick : Calls Tryd.prog 29 #[.pointer (some ⟨R, 0, none⟩), .int .i64 (n : Int)] w3.drew fun e w' => ∃ v, e = .returned (.int .i64 v) ∧ 0 ≤ v ∧ v < n ∧ Rd w' R (p + q + 1 + 1 + 1) ∧ Upd (fun k => k = R) w3.drew w' := by
        refine (pick_any R (p + q + 1 + 1) n _ hRd (by omega)).mono ?_
        rintro e w4 ⟨v, rfl, hv, hR4, hU4⟩
        exact ⟨v, rfl, (hv.1 (by omega)).1, (hv.1 (by omega)).2, hR4, hU4⟩
      have hq : q + 3 ≤ 110 := by omega
      have hn7 : n ≤ 7 := by omega
      clear hpk hpn hRd hset hR3 hA3 hUw3 hz hlen hkl hRl h hp hU1 z1 hb0 hb1 z2 z3
      go_wp2
      go_region_with (first
        | (go_at_call 29; refine hpick.mono ?_; rintro e w4 ⟨v, rfl, hv0, hv1, hR4, hU4⟩; obtain ⟨hck4, hfk4⟩ := hcel w4 hU4)
        | (go_at_call 30; refine (power_any _ _ (by omega) (by omega)).mono ?_; rintro e w' ⟨rfl, rfl⟩))
      all_goals
        obtain ⟨hf1, hf2, hf3⟩ := hfin w4 (bits .xor .i64 z (powI v)) hU4 hR4
        clear hfin hcel hpick hck hfk hck4 hfk4 hR4 hU4
        obtain ⟨W5, hW5⟩ : ∃ W5, w4.setCell ⟨b, k, none⟩ (.int .i64 (bits .xor .i64 z (powI v))) = W5 := ⟨_, rfl⟩
        rw [hW5] at hf1 hf2 hf3 ⊢
        obtain ⟨xv, hxv⟩ : ∃ xv, bits .xor .i64 z (powI v) = xv := ⟨_, rfl⟩
        rw [hxv] at hf1 ⊢
        clear hW5 hxv
        go_wp2
        go_ret
        exact ⟨_, n, c, _, q + 3, rfl, hn7, hf1, hq, hf2, hf3⟩
    · by_cases x1 : x = 1
      · subst x1
        go_wp2_with (first
          | (go_at_call 30; with_reducible refine (hpn _).mono ?_; rintro e w' ⟨rfl, rfl⟩)
          | (go_at_call 30; with_reducible refine (hpk _).mono ?_; rintro e w' ⟨rfl, rfl⟩))
        have hL : Arr (w3.alloc (.cells #[Value.int .i64 (-1), .int .i64 (powI n), .int .i64 (powI k)] 3)) w3.heap.size 3 [-1, powI n, powI k] := heap_alloc_new w3 _
        have hup : Upd (fun _ => False) w3 (w3.alloc (.cells #[Value.int .i64 (-1), .int .i64 (powI n), .int .i64 (powI k)] 3)) := (Upd.refl _ _).alloc _
        obtain ⟨W4, hW4⟩ : ∃ W4, w3.alloc (.cells #[Value.int .i64 (-1), .int .i64 (powI n), .int .i64 (powI k)] 3) = W4 := ⟨_, rfl⟩
        rw [hW4] at hL hup ⊢
        clear hW4
        have z4 := hup.size
        refine (one_any R (p + q + 1 + 1) _ 3 3 _ _ W4 (hR3.upd hup (fun _ e => e.elim)) (by omega) (hL.ints' (n := 3) hL.lt rfl) (fun b off e => by cases e; omega) (by omega) (by omega)).mono ?_
        rintro e w5 ⟨v, rfl, -, hR5, hU5⟩
        have hA5 := (hA3.upd hup (fun e => e)).upd hU5 (by omega)
        have z5 := hU5.size
        have hck5 := hA5.cell hkl
        have hfk5 := hA5.frozen k
        have hU5' := (hUw3.trans (hup.mono fun _ _ e => e.elim)).trans hU5
        go_wp2
        go_ret
        have hA6 := hA5.set k v
        rw [hset] at hA6
        have hU6 : Upd (fun i => w.heap.size ≤ i ∧ i = b) w5 (w5.setCell ⟨b, k, none⟩ (.int .i64 v)) := (Upd.refl (fun i => w.heap.size ≤ i ∧ i = b) w5).setCell (p := ⟨b, k, none⟩) (.inr ⟨hb0, rfl⟩) _
        exact ⟨_, n, c, zs.set k v, q + 3, rfl, by omega, ⟨by simpa using hlen.out, fun _ => ⟨b, ys, rfl, hb0, by simp [World.setCell]; omega, hA6⟩⟩, by omega, hR5.upd hU6 (fun i hi => by omega), hU5'.trans' hU6 (fun i hi e => by omega)⟩
      · by_cases x2 : x = 2
        · subst x2
          have hmk := run_make_row' (P := Tryd.prog) 23 3 (.int .i64 0) 8 Tryd.underlying23 infoInt rfl .i64 .i64 7 (by omega) (by omega)
          simp only [Int.cast_ofNat_Int] at hmk
          go_wp2
          go_ret
          exact ⟨_, 7, 7, List.replicate 7 0, q + 2, rfl, by omega, Row.of (Arr.new w3 3 7) (by simp) (by omega) (by simp), by omega, hR3.upd ((Upd.refl (fun _ => False) w3).alloc _) (fun _ e => e.elim), hUw3.alloc _⟩
        · go_wp2
          go_ret
          exact ⟨_, n, c, zs, q + 2, rfl, by omega, ⟨hlen.out, fun _ => ⟨b, ys, rfl, hb0, by omega, hA3⟩⟩, by omega, hR3, hUw3⟩
  · obtain rfl : n = 0 := by omega
    go_wp2
    go_ret
    exact ⟨A, 0, c, zs, q, rfl, by omega, r1, by omega, hR1, hU1⟩
end Go.Proofs.YtiicffibhjeabaaDoor

/- Arguments that are drawn: a new reader, and what is drawn reads as numbers. -/
namespace Go.Proofs.YtiicffibhjeabaaDoor
open Go.RowKit Go.Shelf

/-- A list that is drawn reads as numbers, few of them. -/
def Drawn (w : World) (e : Ending) (w' : World) : Prop := ∃ A n c zs, e = .returned (.slice A n c) ∧ n ≤ 7 ∧ Ints w' w'.heap.size A n zs ∧ Below w.heap.size w w'
theorem newReader_rd {A : Option Addr} {m c : Nat} {bs : List Int} {w : World} (h : Byts w w.heap.size A m bs) (hcap : m ≤ c) (hbig : m ≤ 1152921504606846976) :
    Calls Tryd.prog 13 #[.slice A m c] w fun e w' => e = .returned (.pointer (some ⟨w.heap.size, 0, none⟩)) ∧ Rd w' w.heap.size 0 ∧ Below w.heap.size w w' ∧ w.heap.size < w'.heap.size := by
  refine (newReader_any A m c bs w h hcap hbig).mono ?_
  rintro e w0 ⟨rfl, rfl⟩
  exact ⟨rfl, ⟨A, min m 2000, c, bs.take (min m 2000), by omega, heap_alloc_new w _, (h.take (by omega)).below (((Below.refl w.heap.size w).alloc (Nat.le_refl _)) _)⟩, (Below.refl w.heap.size w).alloc (Nat.le_refl _) _, by simp⟩
end Go.Proofs.YtiicffibhjeabaaDoor

/- What follows: the closure by single items is transitive, and is the least one; of next ones it is the order. No program. -/
import Derived.Test.YtmlihbcffndnbaaDoorGxb
import Derived.Test.YtmlihbcffndnbaaDoorGa
import Derived.Test.YtmlihbcffndnbaaDoorOrdOf
set_option linter.unusedVariables false
set_option linter.unusedSimpArgs false
namespace Go.Proofs.YtmlihbcffndnbaaDoor

/-- Whether d holds the pair. -/
def qB (d : List Int) (a b : Nat) : Prop := bitB (d[a]?.getD 0) b = true
theorem qB_lt {n : Nat} {d : List Int} (h : d.length = n) {a b : Nat} (hq : qB d a b) : a < n := by
  rcases Nat.lt_or_ge a n with h1 | h1
  · exact h1
  · unfold qB at hq
    rw [List.getElem?_eq_none (by omega), Option.getD_none, bitB_zero] at hq
    cases hq
theorem fol1_q {m l : Nat} {d : List Int} (hl : l < d.length) (a b : Nat) : qB (fol1 m d l) a b ↔ qB d a b ∨ (a = l ∧ qB d l m ∧ qB d m b) := by
  unfold fol1
  split
  · rename_i h
    unfold qB
    by_cases ha : l = a
    · subst ha
      rw [List.getElem?_set_self hl, Option.getD_some, bitB_or, Bool.or_eq_true]
      simp [h]
    · rw [List.getElem?_set_ne ha]
      have : ¬ a = l := fun e => ha e.symm
      simp [this]
  · rename_i h
    unfold qB
    simp [h]
theorem folIn_len (m : Nat) (d : List Int) : ∀ b : Nat, (folIn m d b).length = d.length
  | 0 => rfl
  | b + 1 => by
    rw [folIn_succ]
    unfold fol1
    split
    · rw [List.length_set, folIn_len m d b]
    · exact folIn_len m d b
theorem folIn_q {m : Nat} {d : List Int} : ∀ b' : Nat, b' ≤ d.length → ∀ a b : Nat, qB (folIn m d b') a b ↔ qB d a b ∨ (a < b' ∧ qB d a m ∧ qB d m b)
  | 0, _, a, b => by simp [folIn]
  | b' + 1, h, a, b => by
    have ih := folIn_q (m := m) (d := d) b' (by omega)
    rw [folIn_succ, fol1_q (by rw [folIn_len]; omega), ih a b, ih b' m, ih m b]
    constructor
    · rintro ((h1 | ⟨h1, h2⟩) | ⟨rfl, (h1 | ⟨h1, _⟩), (h2 | ⟨_, _, h2⟩)⟩)
      · exact .inl h1
      · exact .inr ⟨by omega, h2⟩
      · exact .inr ⟨by omega, h1, h2⟩
      · exact .inr ⟨by omega, h1, h2⟩
      · omega
      · omega
    · rintro (h1 | ⟨h1, h2, h3⟩)
      · exact .inl (.inl h1)
      · rcases Nat.lt_or_ge a b' with h4 | h4
        · exact .inl (.inr ⟨h4, h2, h3⟩)
        · obtain rfl : a = b' := by omega
          exact .inr ⟨rfl, .inl h2, .inl h3⟩
theorem folTo_len (n : Nat) (d : List Int) : ∀ k : Nat, (folTo n d k).length = d.length
  | 0 => rfl
  | k + 1 => by rw [folTo_succ, folIn_len, folTo_len n d k]
theorem folTo_q {n : Nat} {d : List Int} (hd : d.length = n) (k a b : Nat) : qB (folTo n d (k + 1)) a b ↔ qB (folTo n d k) a b ∨ (qB (folTo n d k) a k ∧ qB (folTo n d k) k b) := by
  rw [folTo_succ, folIn_q n (by rw [folTo_len, hd]; exact Nat.le_refl _)]
  constructor
  · rintro (h | ⟨_, h⟩)
    · exact .inl h
    · exact .inr h
  · rintro (h | h)
    · exact .inl h
    · exact .inr ⟨qB_lt (by rw [folTo_len, hd]) h.1, h⟩
theorem folTo_base {n : Nat} {d : List Int} (hd : d.length = n) {a b : Nat} (h : qB d a b) : ∀ k : Nat, qB (folTo n d k) a b
  | 0 => h
  | k + 1 => (folTo_q hd k a b).2 (.inl (folTo_base hd h k))
theorem folTo_trans {n : Nat} {d : List Int} (hd : d.length = n) : ∀ k x : Nat, x < k → ∀ a b : Nat, qB (folTo n d k) a x → qB (folTo n d k) x b → qB (folTo n d k) a b
  | 0, _, h, _, _, _, _ => by omega
  | k + 1, x, hx, a, b, h1, h2 => by
    have ih := folTo_trans hd k
    rw [folTo_q hd] at h1 h2 ⊢
    rcases Nat.lt_or_ge x k with hk | hk
    · rcases h1 with h1 | ⟨h1, h1'⟩ <;> rcases h2 with h2 | ⟨h2, h2'⟩
      · exact .inl (ih x hk a b h1 h2)
      · exact .inr ⟨ih x hk a k h1 h2, h2'⟩
      · exact .inr ⟨h1, ih x hk k b h1' h2⟩
      · exact .inr ⟨h1, h2'⟩
    · obtain rfl : x = k := by omega
      have g1 : qB (folTo n d x) a x := by rcases h1 with h | h; exact h; exact h.1
      have g2 : qB (folTo n d x) x b := by rcases h2 with h | h; exact h; exact h.2
      exact .inr ⟨g1, g2⟩
theorem folTo_le {n : Nat} {d : List Int} (hd : d.length = n) {P : Nat → Nat → Prop} (hP : ∀ a b c, P a b → P b c → P a c) (h : ∀ a b, qB d a b → P a b) : ∀ k a b : Nat, qB (folTo n d k) a b → P a b
  | 0, a, b, hq => h a b hq
  | k + 1, a, b, hq => by
    have ih := folTo_le hd hP h k
    rcases (folTo_q hd k a b).1 hq with h1 | ⟨h1, h2⟩
    · exact ih a b h1
    · exact hP _ _ _ (ih a k h1) (ih k b h2)

theorem baseR_q {n : Nat} {rs : List (List Int)} (h : ∀ r ∈ rs, pairOk n r = true) (a b : Nat) : qB (baseR n rs) a b ↔ ∃ r ∈ rs, (r[0]?.getD 0).toNat = a ∧ (r[1]?.getD 0).toNat = b := by
  unfold qB baseR
  rw [downP_bit (fun p hp => by
    obtain ⟨r, hr, rfl⟩ := List.mem_map.1 hp
    have := pairOk_iff.1 (h r hr)
    show (r[0]?.getD 0).toNat < n
    omega), List.mem_map]
  constructor
  · rintro ⟨r, hr, e⟩
    simp only [prOf, Prod.mk.injEq] at e
    exact ⟨r, hr, e.2, e.1⟩
  · rintro ⟨r, hr, e1, e2⟩
    exact ⟨r, hr, by simp [prOf, e1, e2]⟩
theorem baseR_len (n : Nat) (rs : List (List Int)) : (baseR n rs).length = n := downP_len _ _
theorem closR_len (n : Nat) (rs : List (List Int)) : (closR n rs).length = n := by unfold closR; rw [folTo_len, baseR_len]
/-- Each pair is in the order. -/
theorem closR_has {n : Nat} {rs : List (List Int)} (h : ∀ r ∈ rs, pairOk n r = true) {r : List Int} (hr : r ∈ rs) : bitB ((closR n rs)[(r[0]?.getD 0).toNat]?.getD 0) (r[1]?.getD 0) = true := by
  have hq := folTo_base (baseR_len n rs) ((baseR_q h _ _).2 ⟨r, hr, rfl, rfl⟩) n
  have hp := pairOk_iff.1 (h r hr)
  unfold qB at hq
  rw [Int.toNat_of_nonneg hp.2.2.1] at hq
  exact hq

/-- Each pair of the order follows from next ones. -/
theorem covers_make {zs : List Int} (h : VoP zs) : ∀ (k a b : Nat), lt zs a b → rank zs b - rank zs a ≤ k → qB (closR zs.length (coversR zs)) a b := by
  have hcr : coversR zs = (covTo zs zs.length).map rowOf := by unfold coversR; rw [vo_true h]; rfl
  have hall : ∀ r ∈ coversR zs, pairOk zs.length r = true := fun r hr => by
    rw [hcr] at hr
    obtain ⟨p, hp, rfl⟩ := List.mem_map.1 hr
    rw [cov_pairs h.sets] at hp
    obtain ⟨h1, h2, _⟩ := h.sets.pair (a := p.1) (b := p.2) ((List.mem_filter.1 hp).1)
    rw [pairOk_iff]
    simp [rowOf]
    omega
  have hbase : ∀ a b, lt zs a b → nextB zs a b = true → qB (closR zs.length (coversR zs)) a b := fun a b hl hn => by
    refine folTo_base (baseR_len _ _) ((baseR_q hall a b).2 ⟨rowOf (a, b), ?_, by simp [rowOf], by simp [rowOf]⟩) _
    rw [hcr, cov_pairs h.sets]
    exact List.mem_map.2 ⟨(a, b), List.mem_filter.2 ⟨pairs_lt h hl, hn⟩, rfl⟩
  intro k
  induction k with
  | zero =>
    intro a b hl hk
    have := rank_lt h hl
    omega
  | succ k ih =>
    intro a b hl hk
    cases hn : nextB zs a b with
    | true => exact hbase a b hl hn
    | false =>
      unfold nextB at hn
      rw [List.all_eq_false] at hn
      obtain ⟨x, hx, hb⟩ := hn
      have hzb := h.sets.bd a hl.1
      have hxa : lt zs a x := ⟨hl.1, (mem_itemsL hzb.2).1 hx⟩
      have hxn := h.lt_n hxa
      have hxb : lt zs x b := ⟨hxn, by simpa using hb⟩
      have r1 := rank_lt h hxa
      have r2 := rank_lt h hxb
      exact folTo_trans (baseR_len _ _) _ x hxn a b (ih a x hxa (by omega)) (ih x b hxb (by omega))
theorem covers_ok {zs : List Int} (h : VoP zs) : ∀ r ∈ coversR zs, pairOk zs.length r = true := fun r hr => by
  have hcr : coversR zs = (covTo zs zs.length).map rowOf := by unfold coversR; rw [vo_true h]; rfl
  rw [hcr] at hr
  obtain ⟨p, hp, rfl⟩ := List.mem_map.1 hr
  rw [cov_pairs h.sets] at hp
  obtain ⟨h1, h2, _⟩ := h.sets.pair (a := p.1) (b := p.2) ((List.mem_filter.1 hp).1)
  rw [pairOk_iff]
  simp [rowOf]
  omega
theorem clos_covers {zs : List Int} (h : VoP zs) : closR zs.length (coversR zs) = zs := by
  have hok := covers_ok h
  have hcr : coversR zs = (covTo zs zs.length).map rowOf := by unfold coversR; rw [vo_true h]; rfl
  have hfit : Fit zs.length (closR zs.length (coversR zs)) := folTo_fit (((baseR_fit hok).resolve_right (by have := h.1; omega)).1) _
  refine List.ext_getElem (by rw [closR_len]) fun a h1 h2 => ?_
  have e1 : (closR zs.length (coversR zs))[a]?.getD 0 = (closR zs.length (coversR zs))[a] := by rw [List.getElem?_eq_getElem h1]; rfl
  have e2 : zs[a]?.getD 0 = zs[a] := by rw [List.getElem?_eq_getElem h2]; rfl
  rw [← e1, ← e2]
  refine bitB_ext (hfit.2 a).1 (h.bd a h2).1 fun b => ?_
  rw [Bool.eq_iff_iff]
  constructor
  · intro hq
    refine (folTo_le (baseR_len _ _) (P := lt zs) (fun x y z => h.trans) (fun x y hxy => ?_) _ a b hq).2
    obtain ⟨r, hr, rfl, rfl⟩ := (baseR_q hok x y).1 hxy
    rw [hcr] at hr
    obtain ⟨p, hp, rfl⟩ := List.mem_map.1 hr
    rw [cov_pairs h.sets] at hp
    have := lt_pairs ((List.mem_filter.1 hp).1)
    simpa [rowOf] using this
  · intro hb
    exact covers_make h _ a b ⟨h2, hb⟩ (Nat.le_refl _)
theorem ord_covers {zs : List Int} (h : VoP zs) : ordOk zs.length (coversR zs) = true ∧ ordL zs.length (coversR zs) = zs := by
  have hok : ordOk (zs.length : Int) (coversR zs) = true := by
    unfold ordOk
    rw [Int.toNat_natCast, clos_covers h, vo_true h, List.all_eq_true.2 (covers_ok h)]
    have := h.1
    simp [inB]
    omega
  refine ⟨hok, ?_⟩
  unfold ordL
  rw [if_pos hok, Int.toNat_natCast, clos_covers h]
theorem covers_few {zs : List Int} (h : VoP zs) : (coversR zs).length ≤ 1048576 ∧ ∀ r ∈ coversR zs, r.length ≤ 1048576 := by
  refine ⟨?_, fun r hr => by have := (pairOk_iff.1 (covers_ok h r hr)).1; omega⟩
  have hcr : coversR zs = (covTo zs zs.length).map rowOf := by unfold coversR; rw [vo_true h]; rfl
  have h1 := covTo_len (zs := zs) zs.length
  have h2 := h.1
  rw [hcr, List.length_map]
  omega
/-- What an order made of pairs is. -/
theorem ord_is {n : Int} {rs : List (List Int)} (h : ordOk n rs = true) : VoP (ordL n rs) ∧ ((ordL n rs).length : Int) = n ∧ (∀ r ∈ rs, pairOk n r = true) ∧
    ∀ r ∈ rs, bitB ((ordL n rs)[(r[0]?.getD 0).toNat]?.getD 0) (r[1]?.getD 0) = true := by
  have h' := h
  unfold ordOk at h
  simp only [Bool.and_eq_true, List.all_eq_true] at h
  obtain ⟨⟨h1, h2⟩, h3⟩ := h
  have hn := inB_iff.1 h1
  have e : ordL n rs = closR n.toNat rs := by unfold ordL; rw [if_pos h']
  have hN : ((n.toNat : Nat) : Int) = n := by omega
  refine ⟨by rw [e]; simpa [vo] using h3, by rw [e, closR_len]; exact hN, h2, fun r hr => ?_⟩
  rw [e]
  exact closR_has (fun r hr => by rw [hN]; exact h2 r hr) hr
end Go.Proofs.YtmlihbcffndnbaaDoor

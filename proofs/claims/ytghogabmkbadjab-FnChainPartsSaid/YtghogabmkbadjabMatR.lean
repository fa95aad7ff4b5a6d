/- The matching: who has an item is below it; each item has one at most; as many have none as could not be matched (mathematics). -/
import Derived.Test.YtghogabmkbadjabFindI
set_option linter.unusedVariables false
set_option linter.unusedSimpArgs false
namespace Go.Proofs.Ytghogabmkbadjab

/-- Whoever has an item is below it. -/
def RelH (zs has : List Int) : Prop := ∀ j : Nat, j < has.length → 0 ≤ has[j]?.getD 0 → bitB (zs[(has[j]?.getD 0).toNat]?.getD 0) j = true
theorem RelH.set {zs has : List Int} {a b : Nat} (h : RelH zs has) (hb : bitB (zs[a]?.getD 0) b = true) : RelH zs (has.set b (a : Int)) := fun j hj h0 => by
  rw [List.length_set] at hj
  by_cases e : b = j
  · subst e
    rw [List.getElem?_set_self hj] at h0 ⊢
    simpa using hb
  · rw [List.getElem?_set_ne e] at h0 ⊢
    exact h j hj h0
theorem mateG_rel {zs : List Int} {rec : Nat → List Int → List Bool → Bool × List Int × List Bool} {a : Nat}
    (hrec : ∀ (x : Nat) (has : List Int) (seen : List Bool), RelH zs has → RelH zs (rec x has seen).2.1) :
    ∀ (d b : Nat) (has : List Int) (seen : List Bool), RelH zs has → RelH zs (mateG zs rec a d b has seen).2.1
  | 0, _, _, _, h => h
  | d + 1, b, has, seen, h => by
    unfold mateG
    split
    · exact mateG_rel hrec d (b + 1) has seen h
    · rename_i c1
      have hb : bitB (zs[a]?.getD 0) b = true := by
        cases e : bitB (zs[a]?.getD 0) b
        · rw [e] at c1; simp at c1
        · rfl
      split
      · exact h.set hb
      · split
        · exact (hrec _ _ _ h).set hb
        · exact mateG_rel hrec d (b + 1) _ _ (hrec _ _ _ h)
theorem mateF_rel (zs : List Int) : ∀ (f x : Nat) (has : List Int) (seen : List Bool), RelH zs has → RelH zs (mateF zs f x has seen).2.1
  | 0, _, _, _, h => h
  | f + 1, _, has, seen, h => mateG_rel (mateF_rel zs f) zs.length 0 has seen h
theorem matesTo_rel (zs : List Int) : ∀ k : Nat, RelH zs (matesTo zs k)
  | 0 => fun j hj h0 => by
    have hj' : j < zs.length := by simpa [matesTo] using hj
    simp [matesTo, hj'] at h0
  | k + 1 => mateF_rel zs _ k _ _ (matesTo_rel zs k)

theorem count_set' {l : List Int} {i : Nat} {v y : Int} (hi : i < l.length) : (l.set i v).count y + (if l[i]?.getD 0 = y then 1 else 0) = l.count y + (if v = y then 1 else 0) := by
  induction l generalizing i with
  | nil => simp at hi
  | cons x l ih =>
    cases i with
    | zero =>
      simp only [List.set_cons_zero, List.getElem?_cons_zero, Option.getD_some, List.count_cons, beq_iff_eq]
      split <;> split <;> omega
    | succ i =>
      have := ih (i := i) (by simpa using hi)
      simp only [List.set_cons_succ, List.getElem?_cons_succ, List.count_cons]
      omega
/-- Asked for a: either nothing has changed, or a has one item more, and all others as many as before. -/
def Moved (a : Nat) (has : List Int) (r : Bool × List Int × List Bool) : Prop := (r.1 = false → r.2.1 = has) ∧ (r.1 = true → ∀ y : Int, 0 ≤ y → r.2.1.count y = has.count y + if (a : Int) = y then 1 else 0)
theorem mateG_moved {zs : List Int} {n : Nat} {rec : Nat → List Int → List Bool → Bool × List Int × List Bool} {a : Nat}
    (hkeep : ∀ (j x : Nat) (has : List Int) (seen : List Bool), seen[j]?.getD false = true → (rec x has seen).2.1[j]?.getD 0 = has[j]?.getD 0 ∧ (rec x has seen).2.2[j]?.getD false = true)
    (hok : ∀ (x : Nat) (has : List Int) (seen : List Bool), x < n → OkH n has → seen.length = n → Keeps n seen (rec x has seen))
    (hrec : ∀ (x : Nat) (has : List Int) (seen : List Bool), x < n → OkH n has → seen.length = n → Moved x has (rec x has seen)) :
    ∀ (d b : Nat) (has : List Int) (seen : List Bool), b + d = n → OkH n has → seen.length = n → Moved a has (mateG zs rec a d b has seen)
  | 0, _, has, seen, _, _, _ => ⟨fun _ => rfl, fun e => by cases e⟩
  | d + 1, b, has, seen, hb, h1, h2 => by
    unfold mateG
    by_cases c1 : (!bitB (zs[a]?.getD 0) b || seen[b]?.getD false) = true
    · rw [if_pos c1]; exact mateG_moved hkeep hok hrec d (b + 1) has seen (by omega) h1 h2
    · rw [if_neg c1]
      have hbl : b < has.length := by rw [h1.1]; omega
      by_cases c2 : has[b]?.getD 0 < 0
      · rw [if_pos c2]
        refine ⟨fun e => (by cases e), fun _ y hy => ?_⟩
        have := count_set' (v := (a : Int)) (y := y) hbl
        rw [if_neg (by omega : ¬ has[b]?.getD 0 = y)] at this
        exact this
      · rw [if_neg c2]
        have hx := h1.2 b (by omega)
        have hs2 : (seen.set b true).length = n := by simpa using h2
        have hsb : (seen.set b true)[b]?.getD false = true := by rw [List.getElem?_set_self (by omega)]; rfl
        obtain ⟨k1, k2, k3⟩ := hok (has[b]?.getD 0).toNat has (seen.set b true) (by omega) h1 hs2
        obtain ⟨m1, m2⟩ := hrec (has[b]?.getD 0).toNat has (seen.set b true) (by omega) h1 hs2
        have hk := (hkeep b (has[b]?.getD 0).toNat has (seen.set b true) hsb).1
        generalize rec (has[b]?.getD 0).toNat has (seen.set b true) = r at *
        by_cases c3 : r.1 = true
        · rw [if_pos c3]
          refine ⟨fun e => (by cases e), fun _ y hy => ?_⟩
          have h3 := count_set' (l := r.2.1) (i := b) (v := (a : Int)) (y := y) (by rw [k1.1]; omega)
          have h4 := m2 c3 y hy
          rw [hk] at h3
          rw [show (((has[b]?.getD 0).toNat : Nat) : Int) = has[b]?.getD 0 by omega] at h4
          show (r.2.1.set b (a : Int)).count y = _
          omega
        · rw [if_neg c3]
          have e3 := m1 (by simpa using c3)
          obtain ⟨q1, q2⟩ := mateG_moved (zs := zs) (a := a) hkeep hok hrec d (b + 1) r.2.1 r.2.2 (by omega) k1 k2
          exact ⟨fun e => (q1 e).trans e3, fun e y hy => by rw [q2 e y hy, e3]⟩
theorem mateF_moved (zs : List Int) : ∀ (f x : Nat) (has : List Int) (seen : List Bool), x < zs.length → OkH zs.length has → seen.length = zs.length → Moved x has (mateF zs f x has seen)
  | 0, _, _, _, _, _, _ => ⟨fun _ => rfl, fun e => by cases e⟩
  | f + 1, x, has, seen, _, h1, h2 => by
    unfold mateF
    exact mateG_moved (fun j x has seen h => mateF_keep zs (j := j) f x has seen h) (fun y ha se hy k1 k2 => mateF_ok zs f y ha se hy k1 k2) (fun y ha se hy k1 k2 => mateF_moved zs f y ha se hy k1 k2) zs.length 0 has seen (by omega) h1 h2
/-- Each item has one at most; those not asked for yet have none. -/
theorem matesTo_once (zs : List Int) : ∀ k : Nat, k ≤ zs.length → (∀ y : Int, 0 ≤ y → (matesTo zs k).count y ≤ 1) ∧ (∀ y : Int, (k : Int) ≤ y → (matesTo zs k).count y = 0)
  | 0, _ => by
    have hz : ∀ y : Int, 0 ≤ y → (matesTo zs 0).count y = 0 := fun y hy => by
      unfold matesTo
      rw [List.count_replicate, if_neg]
      simp; omega
    exact ⟨fun y hy => by rw [hz y hy]; omega, fun y hy => hz y (by omega)⟩
  | k + 1, hk => by
    obtain ⟨h1, h2⟩ := matesTo_once zs k (by omega)
    have hm := mateF_moved zs (zs.length + 1) k (matesTo zs k) (List.replicate zs.length false) (by omega) (matesTo_ok zs k (by omega)) (by simp)
    have he : matesTo zs (k + 1) = (mateF zs (zs.length + 1) k (matesTo zs k) (List.replicate zs.length false)).2.1 := rfl
    generalize mateF zs (zs.length + 1) k (matesTo zs k) (List.replicate zs.length false) = r at *
    rw [he]
    cases hr : r.1
    · rw [hm.1 hr]
      exact ⟨h1, fun y hy => h2 y (by omega)⟩
    · have hc := hm.2 hr
      refine ⟨fun y hy => ?_, fun y hy => ?_⟩
      · rw [hc y hy]
        by_cases e : (k : Int) = y
        · rw [if_pos e, h2 y (by omega)]; omega
        · rw [if_neg e]; have := h1 y hy; omega
      · rw [hc y (by omega), if_neg (by omega), h2 y (by omega)]
end Go.Proofs.Ytghogabmkbadjab

/- The widest set apart and the fewest chains: where a search of the matching fails, what it saw is closed; a closed set stays; the items that are not matched, and all that is reached from them, tell a set apart. No program. -/
import Derived.Test.YtghogabmkbadjabMatR
import Derived.Test.YtghogabmkbadjabGb
import Derived.Test.YtghogabmkbadjabWide
import Derived.Test.YtghogabmkbadjabGa
set_option linter.unusedVariables false
set_option linter.unusedSimpArgs false
namespace Go.Proofs.Ytghogabmkbadjab

theorem inj_lenD {α β : Type} [DecidableEq β] (f : α → β) : ∀ (l : List α) (m : List β), l.Nodup → (∀ x ∈ l, f x ∈ m) → (∀ x ∈ l, ∀ y ∈ l, f x = f y → x = y) → l.length ≤ m.length
  | [], _, _, _, _ => Nat.zero_le _
  | a :: t, m, hn, hm, hi => by
    have ha := hm a (by simp)
    rw [List.nodup_cons] at hn
    have := inj_lenD f t (m.erase (f a)) hn.2 (fun x hx => by
      refine (List.mem_erase_of_ne fun e => ?_).2 (hm x (by simp [hx]))
      have := hi x (by simp [hx]) a (by simp) e
      subst this
      exact hn.1 hx) (fun x hx y hy => hi x (by simp [hx]) y (by simp [hy]))
    rw [List.length_erase_of_mem ha] at this
    have := List.length_pos_of_mem ha
    simp only [List.length_cons]
    omega
theorem filter_addD {p q r : Nat → Bool} : ∀ l : List Nat, (∀ a ∈ l, r a = (p a || q a) ∧ (p a && q a) = false) → (l.filter r).length = (l.filter p).length + (l.filter q).length
  | [], _ => rfl
  | x :: l, h => by
    have ih := filter_addD l fun a ha => h a (by simp [ha])
    have hx := h x (by simp)
    rw [List.filter_cons, List.filter_cons, List.filter_cons, hx.1]
    cases hp : p x <;> cases hq : q x <;> simp [hp, hq] at hx ⊢ <;> omega
/-- The set of the items below k of which p holds. -/
def setD (p : Nat → Bool) : Nat → Int
  | 0 => 0
  | k + 1 => if p k then orI (setD p k) (powI (k : Int)) else setD p k
theorem setD_bd (p : Nat → Bool) : ∀ k : Nat, 0 ≤ setD p k ∧ setD p k < powI k
  | 0 => ⟨Int.le_refl _, powI_pos _⟩
  | k + 1 => by
    have h := setD_bd p k
    have h2 : powI ((k + 1 : Nat) : Int) = 2 * powI k := by rw [show ((k + 1 : Nat) : Int) = (k : Int) + 1 by omega]; exact powI_succ (by omega)
    have h3 := powI_pos (k : Int)
    unfold setD
    split
    · have h4 : powI ((k : Int) + 1) = 2 * powI k := powI_succ (by omega)
      have h5 := orI_bd (a := setD p k) (b := powI (k : Int)) (n := (k : Int) + 1) h.1 (by omega) (by omega) (by omega)
      rw [h4] at h5; rw [h2]; exact h5
    · omega
theorem setD_bit (p : Nat → Bool) (j : Nat) : ∀ k : Nat, bitB (setD p k) j = (decide (j < k) && p j)
  | 0 => by simp [setD, bitB_zero]
  | k + 1 => by
    have ih := setD_bit p j k
    unfold setD
    by_cases hj : j = k
    · subst hj
      cases hp : p j
      · simp [hp, ih]
      · simp [hp, bitB_or, bitB_pow]
    · have e : decide (j < k + 1) = decide (j < k) := by rw [decide_eq_decide]; omega
      rw [e]
      cases hp : p k
      · simpa using ih
      · rw [if_pos rfl, bitB_or, bitB_pow, ih, decide_eq_false (show ¬ k = j from fun e => hj e.symm)]; simp
/-- Closed: each item of it is had, and whoever has it is below items of it alone. -/
def Clo (zs has : List Int) (S : Nat → Prop) : Prop := ∀ b, S b → b < zs.length ∧ 0 ≤ has[b]?.getD 0 ∧ ∀ c : Nat, c < zs.length → bitB (zs[(has[b]?.getD 0).toNat]?.getD 0) c = true → S c
/-- A search leaves a closed set as it is, and finds nothing there. -/
def Left (zs has : List Int) (S : Nat → Prop) (x lo : Nat) (r : Bool × List Int × List Bool) : Prop := (∀ b, S b → r.2.1[b]?.getD 0 = has[b]?.getD 0) ∧ ((∀ c : Nat, lo ≤ c → c < zs.length → bitB (zs[x]?.getD 0) c = true → S c) → r.1 = false)
theorem mateG_left {zs : List Int} {S : Nat → Prop} {rec : Nat → List Int → List Bool → Bool × List Int × List Bool} {a : Nat}
    (hok : ∀ (x : Nat) (has : List Int) (seen : List Bool), x < zs.length → OkH zs.length has → seen.length = zs.length → Keeps zs.length seen (rec x has seen))
    (hmv : ∀ (x : Nat) (has : List Int) (seen : List Bool), x < zs.length → OkH zs.length has → seen.length = zs.length → Moved x has (rec x has seen))
    (hrec : ∀ (x : Nat) (has : List Int) (seen : List Bool), x < zs.length → OkH zs.length has → seen.length = zs.length → Clo zs has S → Left zs has S x 0 (rec x has seen)) :
    ∀ (d b : Nat) (has : List Int) (seen : List Bool), b + d = zs.length → OkH zs.length has → seen.length = zs.length → Clo zs has S → Left zs has S a b (mateG zs rec a d b has seen)
  | 0, _, has, seen, _, _, _, _ => ⟨fun _ _ => rfl, fun _ => rfl⟩
  | d + 1, b, has, seen, hb, h1, h2, hc => by
    unfold mateG
    by_cases c1 : (!bitB (zs[a]?.getD 0) b || seen[b]?.getD false) = true
    · rw [if_pos c1]
      obtain ⟨k1, k2⟩ := mateG_left (a := a) hok hmv hrec d (b + 1) has seen (by omega) h1 h2 hc
      exact ⟨k1, fun e => k2 fun c h3 h4 h5 => e c (by omega) h4 h5⟩
    · rw [if_neg c1]
      have hbit : bitB (zs[a]?.getD 0) b = true := by
        cases e : bitB (zs[a]?.getD 0) b
        · rw [e] at c1; simp at c1
        · rfl
      by_cases c2 : has[b]?.getD 0 < 0
      · rw [if_pos c2]
        have hnS : ¬ S b := fun e => by have := (hc b e).2.1; omega
        refine ⟨fun b' hb' => ?_, fun e => absurd (e b (Nat.le_refl _) (by omega) hbit) hnS⟩
        show (has.set b (a : Int))[b']?.getD 0 = _
        rw [List.getElem?_set_ne (fun e => hnS (by rw [e]; exact hb'))]
      · rw [if_neg c2]
        have hx := h1.2 b (by omega)
        have hs2 : (seen.set b true).length = zs.length := by simpa using h2
        obtain ⟨k1, k2, k3⟩ := hok (has[b]?.getD 0).toNat has (seen.set b true) (by omega) h1 hs2
        have hm := hmv (has[b]?.getD 0).toNat has (seen.set b true) (by omega) h1 hs2
        obtain ⟨q1, q2⟩ := hrec (has[b]?.getD 0).toNat has (seen.set b true) (by omega) h1 hs2 hc
        generalize rec (has[b]?.getD 0).toNat has (seen.set b true) = r at *
        by_cases c3 : r.1 = true
        · rw [if_pos c3]
          have hnS : ¬ S b := fun e => by
            rw [q2 fun c _ h4 h5 => (hc b e).2.2 c h4 h5] at c3
            cases c3
          refine ⟨fun b' hb' => ?_, fun e => absurd (e b (Nat.le_refl _) (by omega) hbit) hnS⟩
          show (r.2.1.set b (a : Int))[b']?.getD 0 = _
          rw [List.getElem?_set_ne (fun e => hnS (by rw [e]; exact hb'))]
          exact q1 b' hb'
        · rw [if_neg c3]
          have e3 := hm.1 (by simpa using c3)
          have hc2 : Clo zs r.2.1 S := by rw [e3]; exact hc
          obtain ⟨p1, p2⟩ := mateG_left (a := a) hok hmv hrec d (b + 1) r.2.1 r.2.2 (by omega) k1 k2 hc2
          exact ⟨fun b' hb' => by rw [p1 b' hb', e3], fun e => p2 fun c h3 h4 h5 => e c (by omega) h4 h5⟩
theorem mateF_left (zs : List Int) (S : Nat → Prop) : ∀ (f x : Nat) (has : List Int) (seen : List Bool), x < zs.length → OkH zs.length has → seen.length = zs.length → Clo zs has S → Left zs has S x 0 (mateF zs f x has seen)
  | 0, _, _, _, _, _, _, _ => ⟨fun _ _ => rfl, fun _ => rfl⟩
  | f + 1, x, has, seen, _, h1, h2, hc => by
    unfold mateF
    exact mateG_left (fun y ha se hy k1 k2 => mateF_ok zs f y ha se hy k1 k2) (fun y ha se hy k1 k2 => mateF_moved zs f y ha se hy k1 k2) (fun y ha se hy k1 k2 k3 => mateF_left zs S f y ha se hy k1 k2 k3) zs.length 0 has seen (by omega) h1 h2 hc

/-- What a search that fails has seen. -/
structure Fails (zs has : List Int) (x lo : Nat) (seen out : List Bool) : Prop where
  more : ∀ j : Nat, seen[j]?.getD false = true → out[j]?.getD false = true
  all : ∀ c : Nat, lo ≤ c → c < zs.length → bitB (zs[x]?.getD 0) c = true → out[c]?.getD false = true
  new : ∀ b : Nat, out[b]?.getD false = true → seen[b]?.getD false = true ∨ (b < zs.length ∧ 0 ≤ has[b]?.getD 0 ∧ ∀ c : Nat, c < zs.length → bitB (zs[(has[b]?.getD 0).toNat]?.getD 0) c = true → out[c]?.getD false = true)
theorem mateG_fails {zs : List Int} {f : Nat} {rec : Nat → List Int → List Bool → Bool × List Int × List Bool} {a : Nat}
    (hok : ∀ (x : Nat) (has : List Int) (seen : List Bool), x < zs.length → OkH zs.length has → seen.length = zs.length → Keeps zs.length seen (rec x has seen))
    (hmv : ∀ (x : Nat) (has : List Int) (seen : List Bool), x < zs.length → OkH zs.length has → seen.length = zs.length → Moved x has (rec x has seen))
    (hrec : ∀ (x : Nat) (has : List Int) (seen : List Bool), x < zs.length → OkH zs.length has → seen.length = zs.length → unseen seen < f → (rec x has seen).1 = false → Fails zs has x 0 seen (rec x has seen).2.2) :
    ∀ (d b : Nat) (has : List Int) (seen : List Bool), b + d = zs.length → OkH zs.length has → seen.length = zs.length → unseen seen < f + 1 → (mateG zs rec a d b has seen).1 = false → Fails zs has a b seen (mateG zs rec a d b has seen).2.2
  | 0, _, has, seen, hb, _, _, _, _ => ⟨fun _ h => h, fun c h3 h4 _ => by omega, fun _ h => .inl h⟩
  | d + 1, b, has, seen, hb, h1, h2, hu, hf => by
    unfold mateG at hf ⊢
    by_cases c1 : (!bitB (zs[a]?.getD 0) b || seen[b]?.getD false) = true
    · rw [if_pos c1] at hf ⊢
      obtain ⟨k1, k2, k3⟩ := mateG_fails (a := a) hok hmv hrec d (b + 1) has seen (by omega) h1 h2 hu hf
      refine ⟨k1, fun c h3 h4 h5 => ?_, k3⟩
      rcases Nat.lt_or_ge b c with h6 | h6
      · exact k2 c h6 h4 h5
      · obtain rfl : c = b := by omega
        rw [h5] at c1
        exact k1 c (by simpa using c1)
    · rw [if_neg c1] at hf ⊢
      have hsb : seen[b]?.getD false = false := by
        cases e : seen[b]?.getD false
        · rfl
        · rw [e] at c1; simp at c1
      have hun := unseen_set seen b (by omega) hsb
      by_cases c2 : has[b]?.getD 0 < 0
      · rw [if_pos c2] at hf; cases hf
      · rw [if_neg c2] at hf ⊢
        have hx := h1.2 b (by omega)
        have hs2 : (seen.set b true).length = zs.length := by simpa using h2
        obtain ⟨k1, k2, k3⟩ := hok (has[b]?.getD 0).toNat has (seen.set b true) (by omega) h1 hs2
        have hm := hmv (has[b]?.getD 0).toNat has (seen.set b true) (by omega) h1 hs2
        have hq := hrec (has[b]?.getD 0).toNat has (seen.set b true) (by omega) h1 hs2 (by omega)
        generalize rec (has[b]?.getD 0).toNat has (seen.set b true) = r at *
        by_cases c3 : r.1 = true
        · rw [if_pos c3] at hf; cases hf
        · rw [if_neg c3] at hf ⊢
          have c3' : r.1 = false := by simpa using c3
          have e3 := hm.1 c3'
          obtain ⟨q1, q2, q3⟩ := hq c3'
          obtain ⟨p1, p2, p3⟩ := mateG_fails (a := a) hok hmv hrec d (b + 1) r.2.1 r.2.2 (by omega) k1 k2 (by omega) hf
          have p3' : ∀ j : Nat, (mateG zs rec a d (b + 1) r.2.1 r.2.2).2.2[j]?.getD false = true → r.2.2[j]?.getD false = true ∨ (j < zs.length ∧ 0 ≤ has[j]?.getD 0 ∧ ∀ c : Nat, c < zs.length → bitB (zs[(has[j]?.getD 0).toNat]?.getD 0) c = true → (mateG zs rec a d (b + 1) r.2.1 r.2.2).2.2[c]?.getD false = true) := fun j e => by
            have := p3 j e
            rw [e3] at this ⊢
            exact this
          have hset : ∀ j : Nat, (seen.set b true)[j]?.getD false = true → j = b ∨ seen[j]?.getD false = true := fun j e => by
            by_cases hj : b = j
            · exact .inl hj.symm
            · rw [List.getElem?_set_ne hj] at e; exact .inr e
          have hself : (seen.set b true)[b]?.getD false = true := by rw [List.getElem?_set_self (by omega)]; rfl
          refine ⟨fun j e => p1 j (q1 j ?_), fun c h3 h4 h5 => ?_, fun j e => ?_⟩
          · by_cases hj : b = j
            · subst hj; exact hself
            · rw [List.getElem?_set_ne hj]; exact e
          · rcases Nat.lt_or_ge b c with h6 | h6
            · exact p2 c h6 h4 h5
            · obtain rfl : c = b := by omega
              exact p1 c (q1 c hself)
          · rcases p3' j e with e2 | e2
            · rcases q3 j e2 with e4 | ⟨e4, e5, e6⟩
              · rcases hset j e4 with rfl | e5
                · exact .inr ⟨by omega, by omega, fun c h4 h5 => p1 c (q2 c (Nat.zero_le _) h4 h5)⟩
                · exact .inl e5
              · exact .inr ⟨e4, e5, fun c h4 h5 => p1 c (e6 c h4 h5)⟩
            · exact .inr e2
theorem mateF_fails (zs : List Int) : ∀ (f x : Nat) (has : List Int) (seen : List Bool), x < zs.length → OkH zs.length has → seen.length = zs.length → unseen seen < f → (mateF zs f x has seen).1 = false → Fails zs has x 0 seen (mateF zs f x has seen).2.2
  | 0, _, _, _, _, _, _, h, _ => by omega
  | f + 1, x, has, seen, _, h1, h2, hu, hf => by
    unfold mateF at hf ⊢
    exact mateG_fails (fun y ha se hy k1 k2 => mateF_ok zs f y ha se hy k1 k2) (fun y ha se hy k1 k2 => mateF_moved zs f y ha se hy k1 k2) (fun y ha se hy k1 k2 k3 k4 => mateF_fails zs f y ha se hy k1 k2 k3 k4) zs.length 0 has seen (by omega) h1 h2 hu hf

/-- All that items which are not matched are below lies in a closed set. -/
theorem mates_inv (zs : List Int) : ∀ k : Nat, k ≤ zs.length → ∃ S : Nat → Prop, Clo zs (matesTo zs k) S ∧ ∀ a : Nat, a < k → (matesTo zs k).count (a : Int) = 0 → ∀ c : Nat, c < zs.length → bitB (zs[a]?.getD 0) c = true → S c
  | 0, _ => ⟨fun _ => False, fun _ e => e.elim, fun a ha => by omega⟩
  | k + 1, hk => by
    obtain ⟨S, hS, hU⟩ := mates_inv zs k (by omega)
    have hok := matesTo_ok zs k (by omega)
    have hm := mateF_moved zs (zs.length + 1) k (matesTo zs k) (List.replicate zs.length false) (by omega) hok (by simp)
    have hl := mateF_left zs S (zs.length + 1) k (matesTo zs k) (List.replicate zs.length false) (by omega) hok (by simp) hS
    have hf := mateF_fails zs (zs.length + 1) k (matesTo zs k) (List.replicate zs.length false) (by omega) hok (by simp) (by have := unseen_le (List.replicate zs.length false); rw [List.length_replicate] at this; omega)
    have he : matesTo zs (k + 1) = (mateF zs (zs.length + 1) k (matesTo zs k) (List.replicate zs.length false)).2.1 := rfl
    generalize mateF zs (zs.length + 1) k (matesTo zs k) (List.replicate zs.length false) = r at *
    rw [he]
    cases hr : r.1
    · have e3 := hm.1 hr
      obtain ⟨f1, f2, f3⟩ := hf hr
      rw [e3]
      have hno : ∀ b : Nat, ¬ (List.replicate zs.length false)[b]?.getD false = true := fun b e => by
        by_cases hb : b < zs.length
        · simp [hb] at e
        · simp [hb] at e
      refine ⟨fun b => S b ∨ r.2.2[b]?.getD false = true, fun b e => ?_, fun a ha h0 c h4 h5 => ?_⟩
      · rcases e with e | e
        · obtain ⟨h1, h2, h3⟩ := hS b e
          exact ⟨h1, h2, fun c h4 h5 => .inl (h3 c h4 h5)⟩
        · rcases f3 b e with e2 | ⟨h1, h2, h3⟩
          · exact absurd e2 (hno b)
          · exact ⟨h1, h2, fun c h4 h5 => .inr (h3 c h4 h5)⟩
      · by_cases ea : a = k
        · subst ea; exact .inr (f2 c (Nat.zero_le _) h4 h5)
        · exact .inl (hU a (by omega) h0 c h4 h5)
    · have hc := hm.2 hr
      refine ⟨S, fun b e => ?_, fun a ha h0 c h4 h5 => ?_⟩
      · rw [hl.1 b e]; exact hS b e
      · have h1 := hc (a : Int) (by omega)
        rw [h0] at h1
        by_cases ea : a = k
        · rw [ea, if_pos rfl] at h1; omega
        · exact hU a (by omega) (by omega) c h4 h5

theorem noneTo_len (has : List Int) : ∀ k : Nat, noneTo has k = ((List.range k).filter fun b => decide (has[b]?.getD 0 < 0)).length
  | 0 => rfl
  | k + 1 => by
    rw [List.range_succ, List.filter_append, List.length_append, noneTo, noneTo_len has k]
    by_cases h : has[k]?.getD 0 < 0 <;> simp [h]
theorem nodup_f (p : Nat → Bool) (n : Nat) : ((List.range n).filter p).Nodup := List.nodup_range.filter _
theorem filter_not {p : Nat → Bool} (l : List Nat) : l.length = (l.filter p).length + (l.filter fun x => !p x).length := by
  induction l with
  | nil => rfl
  | cons x l ih =>
    rw [List.filter_cons, List.filter_cons]
    cases h : p x <;> simp <;> omega
theorem count_at {has : List Int} {y : Int} (h : has.count y ≤ 1) {i j : Nat} (hi : i < has.length) (hj : j < has.length) (ei : has[i]?.getD 0 = y) (ej : has[j]?.getD 0 = y) : i = j := by
  induction has generalizing i j with
  | nil => simp at hi
  | cons x l ih =>
    rw [List.count_cons] at h
    cases i with
    | zero =>
      cases j with
      | zero => rfl
      | succ j =>
        have hx : x = y := by simpa using ei
        have hm : y ∈ l := by
          have hj' : j < l.length := by simpa using hj
          have : l[j]?.getD 0 = y := by simpa using ej
          rw [List.getElem?_eq_getElem hj', Option.getD_some] at this
          exact this ▸ List.getElem_mem hj'
        have := List.count_pos_iff.2 hm
        simp [hx] at h
        omega
    | succ i =>
      cases j with
      | zero =>
        have hx : x = y := by simpa using ej
        have hm : y ∈ l := by
          have hi' : i < l.length := by simpa using hi
          have : l[i]?.getD 0 = y := by simpa using ei
          rw [List.getElem?_eq_getElem hi', Option.getD_some] at this
          exact this ▸ List.getElem_mem hi'
        have := List.count_pos_iff.2 hm
        simp [hx] at h
        omega
      | succ j =>
        have := ih (by omega) (i := i) (j := j) (by simpa using hi) (by simpa using hj) (by simpa using ei) (by simpa using ej)
        omega
theorem has_pos {has : List Int} {y : Int} (h : has.count y ≠ 0) : ∃ b, b < has.length ∧ has[b]?.getD 0 = y := by
  have hm : y ∈ has := List.count_pos_iff.1 (by omega)
  obtain ⟨b, hb, e⟩ := List.mem_iff_getElem.1 hm
  exact ⟨b, hb, by rw [List.getElem?_eq_getElem hb]; exact e⟩
/-- As many items are apart as are not had, or more. -/
theorem wide_ge {zs : List Int} (h : VoP zs) : (noneTo (matesTo zs zs.length) zs.length : Int) ≤ wideR zs := by
  classical
  have h6 := h.1
  obtain ⟨S, hS, hU⟩ := mates_inv zs zs.length (Nat.le_refl _)
  have hok := matesTo_ok zs zs.length (Nat.le_refl _)
  obtain ⟨honce, -⟩ := matesTo_once zs zs.length (Nat.le_refl _)
  rw [noneTo_len]
  generalize matesTo zs zs.length = has at *
  obtain ⟨n, hn⟩ : ∃ n, zs.length = n := ⟨_, rfl⟩
  rw [hn] at hok hU ⊢
  have hlh := hok.1
  let uB : Nat → Bool := fun x => decide (has.count (x : Int) = 0)
  let hB : Nat → Bool := fun x => decide (∃ b, S b ∧ has[b]?.getD 0 = (x : Int))
  let sB : Nat → Bool := fun b => decide (S b)
  let aB : Nat → Bool := fun x => (uB x || hB x) && !sB x
  have hSn : ∀ b, S b → b < n := fun b e => by rw [← hn]; exact (hS b e).1
  have hdis : ∀ x, ¬ (uB x = true ∧ hB x = true) := fun x e => by
    have h1 : has.count (x : Int) = 0 := by simpa [uB] using e.1
    obtain ⟨b, hb, e2⟩ : ∃ b, S b ∧ has[b]?.getD 0 = (x : Int) := by simpa [hB] using e.2
    have hbl : b < has.length := by rw [hlh]; exact hSn b hb
    have hm : (x : Int) ∈ has := by
      rw [List.getElem?_eq_getElem hbl, Option.getD_some] at e2
      exact e2 ▸ List.getElem_mem hbl
    have := List.count_pos_iff.2 hm
    omega
  have c1 : ((List.range n).filter fun x => uB x || hB x).length = ((List.range n).filter uB).length + ((List.range n).filter hB).length := filter_addD _ fun x _ => ⟨rfl, by
    cases e1 : uB x <;> cases e2 : hB x <;> simp
    exact hdis x ⟨e1, e2⟩⟩
  have c2 : ((List.range n).filter fun x => uB x || hB x).length = ((List.range n).filter aB).length + ((List.range n).filter fun x => (uB x || hB x) && sB x).length := filter_addD _ fun x _ => by
    show _ = ((uB x || hB x) && !sB x || (uB x || hB x) && sB x) ∧ ((uB x || hB x) && !sB x && ((uB x || hB x) && sB x)) = false
    cases uB x <;> cases hB x <;> cases sB x <;> simp
  have c3 : ((List.range n).filter fun x => (uB x || hB x) && sB x).length ≤ ((List.range n).filter sB).length := inj_lenD id _ _ (nodup_f _ _) (fun x hx => by
    rw [List.mem_filter] at hx ⊢
    exact ⟨hx.1, by have := hx.2; rw [Bool.and_eq_true] at this; exact this.2⟩) (fun x _ y _ e => e)
  have c4 : ((List.range n).filter sB).length ≤ ((List.range n).filter hB).length := inj_lenD (fun b => (has[b]?.getD 0).toNat) _ _ (nodup_f _ _) (fun b hb => by
    rw [List.mem_filter] at hb ⊢
    have hb2 : S b := by simpa [sB] using hb.2
    have h0 := (hS b hb2).2.1
    have h1 := hok.2 b (hSn b hb2)
    refine ⟨List.mem_range.2 (by omega), ?_⟩
    simp only [hB, decide_eq_true_eq]
    exact ⟨b, hb2, by omega⟩) (fun b hb b' hb' e => by
    rw [List.mem_filter] at hb hb'
    have hb2 : S b := by simpa [sB] using hb.2
    have hb3 : S b' := by simpa [sB] using hb'.2
    have h0 := (hS b hb2).2.1
    have h1 := (hS b' hb3).2.1
    exact count_at (honce (has[b]?.getD 0) h0) (by rw [hlh]; exact hSn b hb2) (by rw [hlh]; exact hSn b' hb3) rfl (by have e' : (has[b]?.getD 0).toNat = (has[b']?.getD 0).toNat := e; omega))
  have c5 : (List.range n).length = ((List.range n).filter fun b => decide (has[b]?.getD 0 < 0)).length + ((List.range n).filter fun b => !decide (has[b]?.getD 0 < 0)).length := filter_not _
  have c6 : (List.range n).length = ((List.range n).filter uB).length + ((List.range n).filter fun x => !uB x).length := filter_not _
  have c7 : ((List.range n).filter fun x => !uB x).length ≤ ((List.range n).filter fun b => !decide (has[b]?.getD 0 < 0)).length := inj_lenD (fun (x : Nat) => has.idxOf (x : Int)) ((List.range n).filter fun x => !uB x) ((List.range n).filter fun b => !decide (has[b]?.getD 0 < 0)) (nodup_f _ _) (fun x hx => by
    rw [List.mem_filter] at hx ⊢
    have hx2 : has.count (x : Int) ≠ 0 := by simpa [uB] using hx.2
    have hm : (x : Int) ∈ has := List.count_pos_iff.1 (by omega)
    have hl := List.idxOf_lt_length_of_mem hm
    refine ⟨List.mem_range.2 (by omega), ?_⟩
    have e2 : has[has.idxOf (x : Int)]?.getD 0 = (x : Int) := by rw [List.getElem?_eq_getElem hl, Option.getD_some, List.getElem_idxOf hl]
    show (!decide (has[has.idxOf (x : Int)]?.getD 0 < 0)) = true
    rw [e2]
    simp) (fun x hx y hy e => by
    rw [List.mem_filter] at hx hy
    have hx2 : has.count (x : Int) ≠ 0 := by simpa [uB] using hx.2
    have hy2 : has.count (y : Int) ≠ 0 := by simpa [uB] using hy.2
    have hl := List.idxOf_lt_length_of_mem (List.count_pos_iff.1 (by omega) : (x : Int) ∈ has)
    have hl2 := List.idxOf_lt_length_of_mem (List.count_pos_iff.1 (by omega) : (y : Int) ∈ has)
    have e1 : has[has.idxOf (x : Int)]?.getD 0 = (x : Int) := by rw [List.getElem?_eq_getElem hl, Option.getD_some, List.getElem_idxOf hl]
    have e2 : has[has.idxOf (y : Int)]?.getD 0 = (y : Int) := by rw [List.getElem?_eq_getElem hl2, Option.getD_some, List.getElem_idxOf hl2]
    have e' : has.idxOf (x : Int) = has.idxOf (y : Int) := e
    rw [e'] at e1
    omega)
  have hsb := setD_bd aB n
  have hp6 := powI_le6 (n := (n : Int)) (by omega)
  have hap : apB zs (setD aB n) = true := (apB_iff (by omega)).2 fun a b ha hb => by
    rw [setD_bit, Bool.and_eq_true, decide_eq_true_eq] at ha hb
    obtain ⟨ha1, ha2⟩ := ha
    obtain ⟨hb1, hb2⟩ := hb
    cases hbit : bitB (zs[a]?.getD 0) b
    · rfl
    · exfalso
      have hSb : ¬ S b := by
        have := hb2
        simp only [aB, Bool.and_eq_true, Bool.not_eq_true', sB, decide_eq_false_iff_not] at this
        exact this.2
      have hza : uB a = true ∨ hB a = true := by
        have := ha2
        simp only [aB, Bool.and_eq_true, Bool.or_eq_true] at this
        exact this.1
      rcases hza with e | e
      · exact hSb (hU a ha1 (by simpa [uB] using e) b (by omega) hbit)
      · obtain ⟨c, hc, e2⟩ : ∃ b, S b ∧ has[b]?.getD 0 = (a : Int) := by simpa [hB] using e
        have h3 := (hS c hc).2.2 b (by omega)
        rw [e2, Int.toNat_natCast] at h3
        exact hSb (h3 hbit)
  have hpop : (((List.range n).filter aB).length : Int) ≤ popI (setD aB n) := by
    rw [popI_items hsb.1 (by omega)]
    refine Int.ofNat_le.2 (inj_lenD id _ _ (nodup_f _ _) (fun x hx => ?_) (fun x _ y _ e => e))
    rw [List.mem_filter, List.mem_range] at hx
    refine (mem_itemsL (by omega)).2 ?_
    show bitB (setD aB n) (x : Int) = true
    rw [setD_bit, decide_eq_true hx.1, Bool.true_and]
    exact hx.2
  have hpw := setsN_pow zs
  rw [hn] at hpw
  obtain ⟨s, hs⟩ := Int.eq_ofNat_of_zero_le hsb.1
  rw [hs] at hap hpop hsb
  have := grTo_ge (p := apB zs) (j := s) hap (setsN zs) (by omega)
  unfold wideR
  rw [vo_true h, if_pos rfl]
  omega
end Go.Proofs.Ytghogabmkbadjab

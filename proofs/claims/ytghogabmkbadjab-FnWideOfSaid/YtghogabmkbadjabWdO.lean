/- What WideOf's own law asks. No program. -/
import Derived.Test.YtghogabmkbadjabWdM
import Derived.Test.YtghogabmkbadjabCovM
import Derived.Test.YtghogabmkbadjabGxb
set_option linter.unusedVariables false
set_option linter.unusedSimpArgs false
namespace Go.Proofs.Ytghogabmkbadjab

theorem mem_covTo {zs : List Int} (h : VoP zs) {a b : Nat} : (a, b) ∈ covTo zs zs.length ↔ lt zs a b ∧ nextB zs a b = true := by
  rw [cov_pairs h.sets, List.mem_filter, mem_pairsL]
  constructor
  · rintro ⟨⟨h1, _, h2⟩, h3⟩; exact ⟨⟨h1, h2⟩, h3⟩
  · rintro ⟨h1, h3⟩
    have := h.lt_n h1
    have := h.1
    exact ⟨⟨h1.1, by omega, h1.2⟩, h3⟩
theorem wdF_le (l : List Int) (x : Int) : ∀ (ps : List (Nat × Nat)) (m : Int), ps.foldl (fun m p => max m (atI l (p.2 : Int) - atI l (p.1 : Int))) m ≤ x ↔ m ≤ x ∧ ∀ p ∈ ps, atI l (p.2 : Int) - atI l (p.1 : Int) ≤ x
  | [], m => by simp
  | p :: ps, m => by
    rw [List.foldl_cons, wdF_le l x ps]
    constructor
    · rintro ⟨h1, h2⟩
      refine ⟨by omega, fun q hq => ?_⟩
      rcases List.mem_cons.1 hq with rfl | hq
      · omega
      · exact h2 q hq
    · rintro ⟨h1, h2⟩
      have := h2 p List.mem_cons_self
      exact ⟨by omega, fun q hq => h2 q (List.mem_cons_of_mem _ hq)⟩
theorem wdMin_ge (zs : List Int) (x : Int) : ∀ (ls : List (List Int)) (m : Int), x ≤ wdMin zs m ls ↔ x ≤ m ∧ ∀ l ∈ ls, x ≤ wdL zs l
  | [], m => by simp [wdMin]
  | l :: ls, m => by
    have ih := wdMin_ge zs x ls (min m (wdL zs l))
    show x ≤ wdMin zs (min m (wdL zs l)) ls ↔ _
    rw [ih]
    constructor
    · rintro ⟨h1, h2⟩
      refine ⟨by omega, fun q hq => ?_⟩
      rcases List.mem_cons.1 hq with rfl | hq
      · omega
      · exact h2 q hq
    · rintro ⟨h1, h2⟩
      have := h2 l List.mem_cons_self
      exact ⟨by omega, fun q hq => h2 q (List.mem_cons_of_mem _ hq)⟩
theorem eq_of_le {a b : Int} (h : ∀ x : Int, a ≤ x ↔ b ≤ x) : a = b := Int.le_antisymm ((h b).2 (Int.le_refl _)) ((h a).1 (Int.le_refl _))
theorem eq_of_ge {a b : Int} (h : ∀ x : Int, x ≤ a ↔ x ≤ b) : a = b := Int.le_antisymm ((h a).1 (Int.le_refl _)) ((h b).2 (Int.le_refl _))
theorem wdL_back {zs l : List Int} (h : VoP zs) (hl : lineB zs l = true) : wdL (du zs) l.reverse = wdL zs l := by
  have hz := line_zr h rfl hl
  refine eq_of_le fun x => ?_
  unfold wdL wdF
  rw [wdF_le, wdF_le]
  have hb : ∀ y : Nat, y < zs.length → atI l.reverse (y : Int) = (zs.length : Int) - 1 - atI l (y : Int) := fun y hy => at_back h.1 hz hy
  constructor
  · rintro ⟨h1, h2⟩
    refine ⟨h1, fun p hp => ?_⟩
    obtain ⟨a, b⟩ := p
    obtain ⟨h3, h4⟩ := (mem_covTo h).1 hp
    have h5 := h2 (b, a) ((mem_covTo (du_vo h)).2 ⟨(du_lt h a b).2 h3, by rw [du_next h]; exact h4⟩)
    have h6 := hb a h3.1
    have h7 := hb b (h.lt_n h3)
    simp only at h5 ⊢
    omega
  · rintro ⟨h1, h2⟩
    refine ⟨h1, fun p hp => ?_⟩
    obtain ⟨b, a⟩ := p
    obtain ⟨h3, h4⟩ := (mem_covTo (du_vo h)).1 hp
    have h3' := (du_lt h a b).1 h3
    have h5 := h2 (a, b) ((mem_covTo h).2 ⟨h3', by rw [← du_next h]; exact h4⟩)
    have h6 := hb a h3'.1
    have h7 := hb b (h.lt_n h3')
    simp only at h5 ⊢
    omega
theorem wdMin_du {zs : List Int} (h : VoP zs) : wdMin (du zs) (du zs).length (alL (du zs)) = wdMin zs zs.length (alL zs) := by
  refine eq_of_ge fun x => ?_
  rw [wdMin_ge, wdMin_ge, du_len]
  constructor
  · rintro ⟨h1, h2⟩
    refine ⟨h1, fun l hl => ?_⟩
    have hl' := (alL_mem zs l).1 hl
    have := h2 l.reverse ((alL_mem _ _).2 (line_back h hl'))
    rw [wdL_back h hl'] at this
    exact this
  · rintro ⟨h1, h2⟩
    refine ⟨h1, fun l hl => ?_⟩
    have hl' := (alL_mem _ l).1 hl
    have hr := line_back (du_vo h) hl'
    rw [du_du h] at hr
    have := h2 l.reverse ((alL_mem _ _).2 hr)
    rw [← wdL_back h hr, List.reverse_reverse] at this
    exact this
theorem wide_facts {zs : List Int} (h : VoP zs) (h5 : zs.length ≤ 5) : ∃ W : Nat, W ≤ 6 ∧ wideOfR zs = (W : Int) ∧ wideOfR (du zs) = (W : Int) ∧ (W = 0 ↔ (coversR zs).length = 0) ∧ (W : Int) < max 1 (zs.length : Int) := by
  have hvb : vo zs = true := by unfold vo; exact decide_eq_true h
  have hvd : vo (du zs) = true := by unfold vo; exact decide_eq_true (du_vo h)
  have e1 : wideOfR zs = wdMin zs zs.length (alL zs) := by unfold wideOfR; rw [hvb]; simp [h5]
  have e2 : wideOfR (du zs) = wdMin zs zs.length (alL zs) := by unfold wideOfR; rw [hvd, du_len]; simp only [h5, decide_true, Bool.and_self, if_true]; have := wdMin_du h; rw [du_len] at this; exact this
  have hb := wdMin_bd zs (alL zs) zs.length (fun l hl => by rw [(by have := alG_len zs _ _ _ l hl; simpa using this : l.length = zs.length)]; omega) (by omega) (by omega)
  obtain ⟨W, hW⟩ := Int.eq_ofNat_of_zero_le hb.1
  have hon : onL zs ∈ alL zs := (alL_mem zs _).2 (on_line h)
  have hc : coversR zs = (covTo zs zs.length).map rowOf := by unfold coversR; rw [hvb]; rfl
  have hge := fun x => wdMin_ge zs x (alL zs) zs.length
  refine ⟨W, by omega, by rw [e1, hW], by rw [e2, hW], ?_, ?_⟩
  · rw [hc, List.length_map, List.length_eq_zero_iff]
    constructor
    · intro h0
      cases e : covTo zs zs.length with
      | nil => rfl
      | cons p ps =>
        exfalso
        have hp : (p.1, p.2) ∈ covTo zs zs.length := by rw [e]; exact List.mem_cons_self
        obtain ⟨h3, h4⟩ := (mem_covTo h).1 hp
        have h1 : (1 : Int) ≤ wdMin zs zs.length (alL zs) := by
          rw [hge]
          have := h3.1
          refine ⟨by omega, fun l hl => ?_⟩
          have hq := line_behind h rfl ((alL_mem zs l).1 hl) (x := p.1) (y := p.2) h3.2
          have := ((wdF_le l (wdL zs l) (covTo zs zs.length) 0).1 (Int.le_refl _)).2 _ hp
          simp only at this
          omega
        omega
    · intro h0
      have h1 := ((hge (W : Int)).1 (by rw [hW]; exact Int.le_refl _)).2 _ hon
      have h2 : wdL zs (onL zs) = 0 := by unfold wdL wdF; rw [h0]; rfl
      omega
  · have h1 := ((hge (W : Int)).1 (by rw [hW]; exact Int.le_refl _))
    have hz := line_zr h rfl (on_line h)
    have h3 : wdL zs (onL zs) ≤ max 0 ((zs.length : Int) - 1) := by
      unfold wdL wdF
      rw [wdF_le]
      refine ⟨by omega, fun p hp => ?_⟩
      obtain ⟨h3, h4⟩ := (mem_covTo h).1 (show (p.1, p.2) ∈ _ from hp)
      obtain ⟨k, hk, _, e5⟩ := at_of h.1 hz h3.1
      obtain ⟨j, hj, _, e6⟩ := at_of h.1 hz (h.lt_n h3)
      rw [e5, e6]
      omega
    have h4 := h1.2 _ hon
    omega
end Go.Proofs.Ytghogabmkbadjab

/- Each order of at most six items is what three of its lines have in common. No program. -/
import Derived.Test.YtipdmaggfbfnlaaD3P
set_option linter.unusedVariables false
set_option linter.unusedSimpArgs false
namespace Go.Proofs.Ytipdmaggfbfnlaa

section
variable {zs : List Int} {n : Nat} {s : Nat → Nat} {a : List Nat}
theorem dn_of (ha : ∀ k, k < n → (a.map fun k => (s k : Int))[k]?.getD 0 = (s (a[k]?.getD 0) : Int)) : ∀ k : Nat, k ≤ n → ∀ j : Nat, bitB (doneTo (a.map fun k => (s k : Int)) k) j = true ↔ ∃ i, i < k ∧ s (a[i]?.getD 0) = j
  | 0, _, j => by unfold doneTo; rw [bitB_zero]; simp
  | k + 1, hk, j => by
    unfold doneTo
    rw [ha k (by omega), bitB_or, bitB_pow, Bool.or_eq_true, dn_of ha k (by omega) j, decide_eq_true_eq]
    constructor
    · rintro (⟨i, hi, e⟩ | e)
      · exact ⟨i, by omega, e⟩
      · exact ⟨k, by omega, e⟩
    · rintro ⟨i, hi, e⟩
      rcases Nat.lt_or_ge i k with h | h
      · exact .inl ⟨i, h, e⟩
      · obtain rfl : i = k := by omega
        exact .inr e
theorem perm_line (h : VoP zs) (hn : zs.length = n) (hs : ∀ k, k < n → s k < n) (hi : ∀ i j, i < n → j < n → s i = s j → i = j) (hsur : ∀ y, y < n → ∃ k, k < n ∧ s k = y) (hp : pmC n a = true)
    (hord : ∀ x y, x < n → y < n → qB zs (s x) (s y) → a.idxOf x < a.idxOf y) : lineB zs (a.map fun k => (s k : Int)) = true ∧ ∀ x, x < n → atI (a.map fun k => (s k : Int)) (s x : Int) = (a.idxOf x : Int) := by
  obtain ⟨hl, hm, hlt, hnd⟩ := pm_of hp
  have hml : (a.map fun k => (s k : Int)).length = n := by rw [List.length_map, hl]
  have hget : ∀ k, k < n → (a.map fun k => (s k : Int))[k]?.getD 0 = (s (a[k]?.getD 0) : Int) := fun k hk => by
    rw [List.getElem?_map, List.getElem?_eq_getElem (by omega)]; rfl
  have hal : ∀ k, k < n → a[k]?.getD 0 < n := fun k hk => hlt _ (by rw [List.getElem?_eq_getElem (by omega), Option.getD_some]; exact List.getElem_mem _)
  have hix : ∀ x, x < n → a.idxOf x < n ∧ a[a.idxOf x]?.getD 0 = x := fun x hx => by
    have h1 := List.idxOf_lt_length_iff.2 (hm x hx)
    refine ⟨by omega, ?_⟩
    rw [List.getElem?_eq_getElem h1, Option.getD_some]
    exact List.getElem_idxOf h1
  refine ⟨lineB_yes hml hn.symm fun k hk => ?_, fun x hx => ?_⟩
  · unfold stepOk
    rw [hget k hk, hn]
    have hx := hal k hk
    have hsx := hs _ hx
    have hidx := hnd k (by omega)
    have hd := dn_of hget k (by omega)
    generalize a[k]?.getD 0 = x at hx hsx hidx
    rw [Bool.and_eq_true, Bool.and_eq_true]
    refine ⟨by simp [inB]; omega, ?_, ?_⟩
    · cases e : bitB (doneTo (a.map fun k => (s k : Int)) k) (s x : Int)
      · rfl
      · obtain ⟨i, hik, e2⟩ := (hd (s x)).1 e
        have := hi _ _ (hal i (by omega)) hx e2
        have h3 := hnd i (by omega)
        rw [this] at h3
        omega
    · rw [beq_iff_eq, lessI_none, Int.toNat_natCast]
      intro j hj
      rw [du_bit h.sets] at hj
      obtain ⟨hj1, _⟩ := q_lt2 h hj
      rw [hn] at hj1
      obtain ⟨y, hy, rfl⟩ := hsur j hj1
      have h1 := hord y x hy hx hj
      exact (hd (s y)).2 ⟨a.idxOf y, by omega, by rw [(hix y hy).2]⟩
  · refine atI_hit (fun j hj e => ?_) (by rw [hml]; exact (hix x hx).1) (by rw [hget _ (hix x hx).1, (hix x hx).2])
    have hjn : j < n := by have := (hix x hx).1; omega
    rw [hget j hjn] at e
    have h1 := hi _ _ (hal j hjn) hx (by omega)
    have h2 := hnd j (by omega)
    rw [h1] at h2
    omega
end

theorem three_lines {zs : List Int} (h : VoP zs) : ∃ a b d, lineB zs a = true ∧ lineB zs b = true ∧ lineB zs d = true ∧ meL zs.length [a, b, d] = zs := by
  have hn6 := h.1
  have hr := on_line h
  have hz := line_zr h rfl hr
  have hbeh : ∀ {x y : Nat}, qB zs x y → atI (onL zs) (x : Int) < atI (onL zs) (y : Int) := fun hq => line_behind h rfl hr hq
  obtain ⟨n, hn⟩ : ∃ n, zs.length = n := ⟨_, rfl⟩
  rw [hn] at hz hn6
  rw [hn]
  generalize onL zs = r at hr hz hbeh
  have hit := fun k (hk : k < n) => (it_lt hz hk).2
  have hat := fun k (hk : k < n) => at_it hz hk
  have hall := fun y (hy : y < n) => it_all hn6 hz hy
  generalize itN r = s at hit hat hall
  have hinj : ∀ i j, i < n → j < n → s i = s j → i = j := fun i j hi hj e => by
    have h1 := hat i hi
    have h2 := hat j hj
    rw [e] at h1; omega
  have hlt : ∀ i j, i < n → j < n → qB zs (s i) (s j) → i < j := fun i j hi hj hq => by
    have h1 := hbeh hq
    rw [hat i hi, hat j hj] at h1; omega
  obtain ⟨c, hc, hcb⟩ := code_of (fun i j => bitB (zs[s i]?.getD 0) (s j : Int)) n hn6
  have hdn : ∀ i j, j < n → ((dnC c j).testBit i = true ↔ i < j ∧ qB zs (s i) (s j)) := fun i j hj => by
    rw [hcb j hj i, Bool.and_eq_true, decide_eq_true_eq]; rfl
  have htr : trC c n = true := tr_of n fun j hj k hk hb => by
    refine Nat.eq_of_testBit_eq fun i => ?_
    rw [Nat.testBit_and, Bool.eq_iff_iff, Bool.and_eq_true, hdn i k (by omega), hdn i j hj]
    have h1 := ((hdn k j hj).1 hb).2
    constructor
    · rintro ⟨e, _⟩; exact e
    · rintro ⟨e1, e2⟩; exact ⟨⟨e1, e2⟩, by omega, q_trans h e2 h1⟩
  obtain ⟨a, b, d, pa, pb, pd, hbf⟩ := three_of hn6 hc htr
  have hbit : ∀ i j, i < n → j < n → (qB zs (s i) (s j) ↔ a.idxOf i < a.idxOf j ∧ b.idxOf i < b.idxOf j ∧ d.idxOf i < d.idxOf j) := fun i j hi hj => by
    rw [← bf_of ((pm_of pa).2.1 j hj), ← bf_of ((pm_of pb).2.1 j hj), ← bf_of ((pm_of pd).2.1 j hj)]
    have h1 := hdn i j hj
    rw [← hbf j hj, Nat.testBit_and, Nat.testBit_and, Bool.and_eq_true, Bool.and_eq_true] at h1
    rw [h1]
    exact ⟨fun e => ⟨hlt i j hi hj e, e⟩, fun e => e.2⟩
  obtain ⟨la, ta⟩ := perm_line h hn hit hinj hall pa fun x y hx hy hq => ((hbit x y hx hy).1 hq).1
  obtain ⟨lb, tb⟩ := perm_line h hn hit hinj hall pb fun x y hx hy hq => ((hbit x y hx hy).1 hq).2.1
  obtain ⟨ld, td⟩ := perm_line h hn hit hinj hall pd fun x y hx hy hq => ((hbit x y hx hy).1 hq).2.2
  refine ⟨_, _, _, la, lb, ld, q_eq (by rw [meL_len, hn]) (fun j => (meL_bd _ _ _).1) (fun j => ?_) fun x y => ?_⟩
  · rcases Nat.lt_or_ge j zs.length with hj | hj
    · exact (h.sets.2 j hj).1
    · rw [List.getElem?_eq_none hj]; exact Int.le_refl _
  · rcases Nat.lt_or_ge x n with hx | hx
    · unfold qB
      rw [meL_get _ hx, setP_bit]
      rcases Nat.lt_or_ge y n with hy | hy
      · rw [decide_eq_true hy, Bool.true_and]
        obtain ⟨i, hi, rfl⟩ := hall x hx
        obtain ⟨j, hj, rfl⟩ := hall y hy
        unfold behB
        rw [Bool.and_eq_true]
        simp only [List.all_cons, List.all_nil, Bool.and_true, Bool.and_eq_true, decide_eq_true_eq, ta i hi, ta j hj, tb i hi, tb j hj, td i hi, td j hj, Int.ofNat_lt]
        refine Iff.trans ?_ (hbit i j hi hj).symm
        constructor
        · rintro ⟨_, e⟩; exact e
        · intro e
          refine ⟨?_, e⟩
          have : s i ≠ s j := fun e2 => by
            have := hinj i j hi hj e2
            subst this; omega
          simpa using this
      · rw [decide_eq_false (by omega), Bool.false_and]
        constructor
        · intro e; cases e
        · intro e; have := (q_lt2 h e).2; omega
    · constructor
      · intro e; have := qB_lt (meL_len _ _) e; omega
      · intro e; have := (q_lt2 h e).1; omega
end Go.Proofs.Ytipdmaggfbfnlaa

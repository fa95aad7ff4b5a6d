/- Sums over the chains with both ends: they are the number of two items. No program. -/
import Derived.Test.YtopfeebibphdgaaGb
namespace Go.Proofs.Ytopfeebibphdgaa

/-- A chain from the one item to the other, with both. -/
def clB (zs : List Int) (a b : Nat) (s : Nat) : Bool := (lessI (twoS a b) (s : Int) == 0 && lessI (s : Int) (btw zs a b) == 0) && chB zs (s : Int)
def clS (zs : List Int) (a b s : Nat) : Int := if clB zs a b s then par s else 0
theorem lsum_filter (g : Nat → Int) (p : Nat → Bool) : ∀ l : List Nat, lsum g (l.filter p) = lsum (fun s => if p s then g s else 0) l
  | [] => rfl
  | x :: l => by
    have ih := lsum_filter g p l
    rw [List.filter_cons, lsum_cons]
    cases p x <;> simp [ih, lsum_cons]
theorem clB_iff {zs : List Int} (h : VoP zs) {a b s : Nat} (hb : b < zs.length) : clB zs a b s = true ↔ (s.testBit a = true ∧ s.testBit b = true) ∧ (∀ x : Nat, s.testBit x = true → leB zs a x = true ∧ leB zs x b = true) ∧ chB zs (s : Int) = true := by
  unfold clB
  rw [Bool.and_eq_true, Bool.and_eq_true, beq_iff_eq, beq_iff_eq, lessI_none, lessI_none]
  simp only [bit_cast, twoS_bit, btw_bit h hb, Bool.or_eq_true, decide_eq_true_eq, Bool.and_eq_true]
  constructor
  · rintro ⟨⟨h1, h2⟩, h3⟩
    exact ⟨⟨h1 a (.inl rfl), h1 b (.inr rfl)⟩, h2, h3⟩
  · rintro ⟨⟨h1, h2⟩, h3, h4⟩
    exact ⟨⟨fun j hj => hj.elim (fun e => e ▸ h1) (fun e => e ▸ h2), h3⟩, h4⟩
theorem one_bits {a x : Nat} : (2 ^ a : Nat).testBit x = true ↔ a = x := by rw [Nat.testBit_two_pow]; simp
theorem par_one : ∀ a : Fin 6, par (2 ^ a.val) = 1 := by decide +kernel
theorem cl_self' {zs : List Int} (h : VoP zs) {a : Nat} (ha : a < zs.length) : smTo (clS zs a a) (2 ^ zs.length) = 1 := by
  have hn := h.1
  have h64 : (2 : Nat) ^ zs.length ≤ 64 := Nat.pow_le_pow_right (n := 2) (by decide) hn
  have hlt : (2 : Nat) ^ a < 2 ^ zs.length := Nat.pow_lt_pow_right (by decide) ha
  rw [smTo_one (c := 2 ^ a) hlt fun s hs hne => ?_]
  · have : clB zs a a (2 ^ a) = true := (clB_iff h ha).2 ⟨⟨one_bits.2 rfl, one_bits.2 rfl⟩, fun x hx => by
      rw [one_bits] at hx
      subst hx
      simp [leB], (chB_iff' (by omega)).2 fun x y hx hy hxy => by
      rw [one_bits] at hx hy
      omega⟩
    unfold clS
    rw [this, if_pos rfl]
    exact par_one ⟨a, by omega⟩
  · unfold clS
    cases hc : clB zs a a s
    · rfl
    · obtain ⟨⟨h1, -⟩, h2, -⟩ := (clB_iff h ha).1 hc
      exfalso
      refine hne (Nat.eq_of_testBit_eq fun j => ?_)
      rw [Bool.eq_iff_iff, one_bits]
      constructor
      · intro hj
        obtain ⟨h3, h4⟩ := h2 j hj
        simp only [leB, Bool.or_eq_true, beq_iff_eq, upw_lt] at h3 h4
        rcases h3 with h3 | h3
        · exact h3
        · rcases h4 with h4 | h4
          · exact h4.symm
          · exact absurd (h.trans h3 h4) h.irr
      · rintro rfl; exact h1
theorem cl_none' {zs : List Int} (h : VoP zs) {a b : Nat} (hb : b < zs.length) (hl : leB zs a b = false) : smTo (clS zs a b) (2 ^ zs.length) = 0 := smTo_nil fun s _ => by
  unfold clS
  cases hc : clB zs a b s
  · rfl
  · obtain ⟨⟨h1, h1'⟩, h2, -⟩ := (clB_iff h hb).1 hc
    have := (h2 a h1).2
    rw [hl] at this; cases this
theorem cl_lt {zs : List Int} (h : VoP zs) {a b : Nat} (hl : lt zs a b) : smTo (clS zs a b) (2 ^ zs.length) = chI zs a b := by
  have hn := h.1
  have ha : a < zs.length := hl.1
  have hb := h.lt_n hl
  have hab : a ≠ b := fun e => h.irr (e ▸ hl)
  have h64 : (2 : Nat) ^ zs.length ≤ 64 := Nat.pow_le_pow_right (n := 2) (by decide) hn
  have hno : ∀ s, s.testBit a = false ∨ s.testBit b = false → clS zs a b s = 0 := fun s hs => by
    unfold clS
    cases hc : clB zs a b s
    · rfl
    · obtain ⟨⟨h1, h2⟩, -⟩ := (clB_iff h hb).1 hc
      rcases hs with e | e
      · rw [h1] at e; cases e
      · rw [h2] at e; cases e
  rw [smTo_half _ hn ha, smTo_half _ hn hb, chI]
  refine smTo_congr _ fun s hs => ?_
  have hs' : s < 64 := by omega
  have hob := or_lt hs hb
  have hoa := or_lt hob ha
  cases hsb : s.testBit b
  · cases hsa : s.testBit a
    · have e1 : (s ||| 2 ^ b).testBit a = false := by rw [or_bit, hsa]; simpa using fun e => hab e.symm
      have e2 : clS zs a b s = 0 := hno s (.inl hsa)
      have e3 : clS zs a b (s ||| 2 ^ a) = 0 := hno _ (.inr (by rw [or_bit, hsb]; simpa using hab))
      have e4 : clS zs a b (s ||| 2 ^ b) = 0 := hno _ (.inl e1)
      have e5 : clB zs a b ((s ||| 2 ^ b) ||| 2 ^ a) = (opB zs s a b && chB zs (s : Int)) := by
        have hbit : ∀ x, ((s ||| 2 ^ b) ||| 2 ^ a).testBit x = true ↔ s.testBit x = true ∨ x = b ∨ x = a := fun x => by
          rw [or_bit, or_bit]
          simp only [Bool.or_eq_true, decide_eq_true_eq]
          constructor
          · rintro ((h1 | h1) | h1)
            · exact .inl h1
            · exact .inr (.inl h1.symm)
            · exact .inr (.inr h1.symm)
          · rintro (h1 | h1 | h1)
            · exact .inl (.inl h1)
            · exact .inl (.inr h1.symm)
            · exact .inr h1.symm
        have hul := upw_lt.2 hl
        rw [Bool.eq_iff_iff, clB_iff h hb, Bool.and_eq_true, opB_iff hs', chB_iff' (by omega), chB_iff' hs']
        constructor
        · rintro ⟨-, h2, h3⟩
          refine ⟨fun x hx => ?_, fun x y hx hy hxy => h3 x y ((hbit x).2 (.inl hx)) ((hbit y).2 (.inl hy)) hxy⟩
          obtain ⟨h4, h5⟩ := h2 x ((hbit x).2 (.inl hx))
          simp only [leB, Bool.or_eq_true, beq_iff_eq, upw_lt] at h4 h5
          have xa : a ≠ x := fun e => by subst e; rw [hx] at hsa; cases hsa
          have xb : x ≠ b := fun e => by subst e; rw [hx] at hsb; cases hsb
          exact ⟨h4.resolve_left xa, h5.resolve_left xb⟩
        · rintro ⟨h2, h3⟩
          refine ⟨⟨(hbit a).2 (.inr (.inr rfl)), (hbit b).2 (.inr (.inl rfl))⟩, fun x hx => ?_, fun x y hx hy hxy => ?_⟩
          · simp only [leB, Bool.or_eq_true, beq_iff_eq, upw_lt]
            rcases (hbit x).1 hx with h4 | rfl | rfl
            · exact ⟨.inr (h2 x h4).1, .inr (h2 x h4).2⟩
            · exact ⟨.inr hl, .inl rfl⟩
            · exact ⟨.inl rfl, .inr hl⟩
          · rcases (hbit x).1 hx with h4 | rfl | rfl
            · rcases (hbit y).1 hy with h5 | rfl | rfl
              · exact h3 x y h4 h5 hxy
              · exact .inl (h2 x h4).2
              · exact .inr (h2 x h4).1
            · rcases (hbit y).1 hy with h5 | rfl | rfl
              · exact .inr (h2 y h5).2
              · exact absurd rfl hxy
              · exact .inr hl
            · rcases (hbit y).1 hy with h5 | rfl | rfl
              · exact .inl (h2 y h5).1
              · exact .inl hl
              · exact absurd rfl hxy
      have e6 : par ((s ||| 2 ^ b) ||| 2 ^ a) = par s := by rw [par_more (by omega) (by omega) e1, par_more hs' (by omega) hsb, Int.neg_neg]
      have e7 : clS zs a b ((s ||| 2 ^ b) ||| 2 ^ a) = chS zs a b s := by unfold clS chS; rw [e5, e6]
      simp only [e1, e2, e3, e4, e7, Bool.false_eq_true, if_false]
      omega
    · have e1 : (s ||| 2 ^ b).testBit a = true := by rw [or_bit, hsa]; rfl
      have : opB zs s a b = false := by
        cases e : opB zs s a b
        · rfl
        · exact absurd ((opB_iff hs').1 e a hsa).1 h.irr
      simp only [e1, Bool.false_eq_true, if_false, if_true]
      unfold chS
      rw [this]; rfl
  · have : opB zs s a b = false := by
      cases e : opB zs s a b
      · rfl
      · exact absurd ((opB_iff hs').1 e b hsb).2 h.irr
    simp only [if_true]
    unfold chS
    rw [this]; rfl
/-- The chains with both ends: their sum. -/
def clL (zs : List Int) (a b : Nat) : List Nat := (List.range (2 ^ zs.length)).filter (clB zs a b)
theorem clL_sum {zs : List Int} (h : VoP zs) {a b : Nat} (ha : a < zs.length) (hb : b < zs.length) : lsum par (clL zs a b) = muI zs a b := by
  unfold clL
  rw [lsum_filter, lsum_range, mu_is h]
  show smTo (clS zs a b) _ = _
  by_cases hab : a = b
  · subst hab
    rw [if_pos rfl, cl_self' h ha]
  · rw [if_neg hab]
    cases hu : upw zs a b
    · rw [cl_none' h hb (by simp [leB, hab, hu])]; rfl
    · rw [cl_lt h (upw_lt.1 hu)]; rfl
end Go.Proofs.Ytopfeebibphdgaa

/- The order with one item put above another one: its lines are those with the one ahead of the other. No program. -/
import Derived.Test.YtghogabmkbadjaaFcM
set_option linter.unusedVariables false
set_option linter.unusedSimpArgs false
namespace Go.Proofs.Ytghogabmkbadjaa

theorem vo_mk {d : List Int} (hn : d.length ≤ 6) (hb : ∀ a, a < d.length → 0 ≤ d[a]?.getD 0 ∧ d[a]?.getD 0 < powI d.length) (hi : ∀ a, ¬ qB d a a) (ht : ∀ a b c, qB d a b → qB d b c → qB d a c) : VoP d := by
  refine ⟨hn, fun a ha => ?_, fun a ha b hbn => ?_⟩
  · have h1 := hb a ha
    have h2 : bitB (d[a]?.getD 0) a = false := by
      cases e : bitB (d[a]?.getD 0) a
      · rfl
      · exact absurd e (hi a)
    unfold okA inB
    rw [h2]
    simp only [Bool.not_false, Bool.and_true, decide_eq_true_eq]
    omega
  · unfold okP
    cases e : bitB (d[a]?.getD 0) b
    · rfl
    · have h1 : lessI (d[b]?.getD 0) (d[a]?.getD 0) = 0 := by
        refine bitB_ext (lessI_bd _ _).1 (Int.le_refl _) fun j => ?_
        rw [bitB_less, bitB_zero]
        cases e1 : bitB (d[b]?.getD 0) j
        · rfl
        · have := ht a b j e e1
          unfold qB at this
          rw [this]; rfl
      have h2 : bitB (d[b]?.getD 0) a = false := by
        cases e2 : bitB (d[b]?.getD 0) a
        · rfl
        · exact absurd (ht a b a e e2) (hi a)
      rw [h1, h2]; rfl

/-- b put above a. -/
def putB (zs : List Int) (a b : Nat) : List Int := zs.set a (orI (zs[a]?.getD 0) (powI (b : Int)))
def putA (zs : List Int) (a b : Nat) : List Int := folTo zs.length (putB zs a b) zs.length
def PA (zs : List Int) (a b x y : Nat) : Prop := qB zs x y ∨ ((x = a ∨ qB zs x a) ∧ (y = b ∨ qB zs b y))
section
variable {zs : List Int} {a b : Nat}
theorem q_trans (h : VoP zs) {x y z : Nat} (h1 : qB zs x y) (h2 : qB zs y z) : qB zs x z :=
  (h.trans (a := x) (b := y) (c := z) ⟨qB_lt rfl h1, h1⟩ ⟨qB_lt rfl h2, h2⟩).2
theorem q_irr (h : VoP zs) {x : Nat} : ¬ qB zs x x := fun e => by
  have := h.irrB (qB_lt rfl e)
  unfold qB at e
  rw [e] at this; cases this
theorem putB_fit (h : VoP zs) (hb : b < zs.length) : Fit zs.length (putB zs a b) := by
  refine ⟨by unfold putB; simp, fun j => ?_⟩
  have hz : ∀ j : Nat, 0 ≤ zs[j]?.getD 0 ∧ zs[j]?.getD 0 < powI zs.length := fun j => by
    rcases Nat.lt_or_ge j zs.length with e | e
    · exact h.sets.2 j e
    · rw [List.getElem?_eq_none e]; exact ⟨Int.le_refl _, powI_pos _⟩
  unfold putB
  by_cases e : a = j
  · subst e
    rcases Nat.lt_or_ge a zs.length with e2 | e2
    · rw [List.getElem?_set_self e2]
      exact orI_bd (hz a).1 (hz a).2 (Int.le_of_lt (powI_pos _)) (powI_lt hb)
    · rw [List.set_eq_of_length_le e2]; exact hz a
  · rw [List.getElem?_set_ne e]; exact hz j
theorem putB_q (ha : a < zs.length) (x y : Nat) : qB (putB zs a b) x y ↔ qB zs x y ∨ (x = a ∧ y = b) := by
  unfold qB putB
  by_cases e : a = x
  · subst e
    rw [List.getElem?_set_self ha]
    simp only [Option.getD_some]
    rw [bitB_or, bitB_pow, Bool.or_eq_true, decide_eq_true_eq]
    constructor
    · rintro (h | h)
      · exact .inl h
      · exact .inr ⟨by first | trivial | rfl, h.symm⟩
    · rintro (h | ⟨_, h⟩)
      · exact .inl h
      · exact .inr h.symm
  · rw [List.getElem?_set_ne e]
    constructor
    · exact .inl
    · rintro (h | ⟨h, _⟩)
      · exact h
      · exact absurd h.symm e
theorem putA_q (h : VoP zs) (ha : a < zs.length) (hb : b < zs.length) (x y : Nat) : qB (putA zs a b) x y ↔ PA zs a b x y := by
  have hd : (putB zs a b).length = zs.length := by unfold putB; simp
  constructor
  · intro hq
    refine folTo_le hd (P := PA zs a b) ?_ ?_ _ x y hq
    · rintro x y z (h1 | ⟨h1, h1'⟩) (h2 | ⟨h2, h2'⟩)
      · exact .inl (q_trans h h1 h2)
      · refine .inr ⟨.inr ?_, h2'⟩
        rcases h2 with e | e
        · subst e; exact h1
        · exact q_trans h h1 e
      · refine .inr ⟨h1, .inr ?_⟩
        rcases h1' with e | e
        · subst e; exact h2
        · exact q_trans h e h2
      · exact .inr ⟨h1, h2'⟩
    · intro x y hxy
      rcases (putB_q ha x y).1 hxy with e | ⟨e1, e2⟩
      · exact .inl e
      · exact .inr ⟨.inl e1, .inl e2⟩
  · have base : ∀ x y, qB zs x y → qB (putA zs a b) x y := fun x y e => folTo_base hd ((putB_q ha x y).2 (.inl e)) _
    have hab : qB (putA zs a b) a b := folTo_base hd ((putB_q ha a b).2 (.inr ⟨rfl, rfl⟩)) _
    rintro (e | ⟨e1, e2⟩)
    · exact base x y e
    · have h1 : qB (putA zs a b) x b := by
        rcases e1 with e | e
        · subst e; exact hab
        · exact folTo_trans hd _ a ha x b (base x a e) hab
      rcases e2 with e | e
      · subst e; exact h1
      · exact folTo_trans hd _ b hb x y h1 (base b y e)
theorem putA_len : (putA zs a b).length = zs.length := by unfold putA; rw [folTo_len]; unfold putB; simp
theorem putA_vo (h : VoP zs) (ha : a < zs.length) (hb : b < zs.length) (hab : a ≠ b) (hnb : ¬ qB zs b a) : VoP (putA zs a b) := by
  have hn6 := h.1
  have hfit := folTo_fit (putB_fit (a := a) h hb) zs.length
  refine vo_mk (by rw [putA_len]; exact hn6) (fun j hj => ?_) (fun x e => ?_) (fun x y z h1 h2 => ?_)
  · rw [putA_len]; exact hfit.2 j
  · rcases (putA_q h ha hb x x).1 e with e | ⟨e1, e2⟩
    · exact q_irr h e
    · rcases e1 with e1 | e1 <;> rcases e2 with e2 | e2
      · exact hab (e1.symm.trans e2)
      · subst e1; exact hnb e2
      · subst e2; exact hnb e1
      · exact hnb (q_trans h e2 e1)
  · have hd : (putB zs a b).length = zs.length := by unfold putB; simp
    exact folTo_trans hd _ y (by have := qB_lt putA_len h2; exact this) x z h1 h2
end

/-! The lines of it. -/
section
variable {zs : List Int} {a b : Nat}
theorem eF_q {ys : List Int} (h : VoP ys) {s x : Nat} : eF ys s x = true ↔ s.testBit x = true ∧ ∀ y, s.testBit y = true → ¬ qB ys y x := by
  rw [eF_iff h]
  unfold qB
  simp only [Bool.not_eq_true]
/-- Where all that is at or below a is done, nothing has changed. -/
theorem cF_put (h : VoP zs) (ha : a < zs.length) (hb : b < zs.length) (hv : VoP (putA zs a b)) : ∀ (k s : Nat), s ≤ k → s < 2 ^ zs.length → (∀ y, s.testBit y = true → y ≠ a ∧ ¬ qB zs y a) → cF (putA zs a b) s = cF zs s
  | 0, s, hk, _, _ => by
    obtain rfl : s = 0 := by omega
    rw [cF_zero, cF_zero]
  | k + 1, s, hk, hs, hL => by
    by_cases h0 : s = 0
    · subst h0; rw [cF_zero, cF_zero]
    · have hn6 := h.1
      have hp64 := pow_le64 hn6
      rw [cF_pos h0, cF_pos h0, putA_len]
      refine sum_congr fun x hx => ?_
      have e : eF (putA zs a b) s x = eF zs s x := by
        rw [Bool.eq_iff_iff, eF_q hv, eF_q h]
        refine and_congr_right fun _ => forall_congr' fun y => ?_
        constructor
        · exact fun e hy hq => e hy ((putA_q h ha hb y x).2 (.inl hq))
        · intro e hy hq
          rcases (putA_q h ha hb y x).1 hq with e2 | ⟨e2, _⟩
          · exact e hy e2
          · rcases e2 with e2 | e2
            · exact (hL y hy).1 e2
            · exact (hL y hy).2 e2
      rw [e]
      cases he : eF zs s x
      · rfl
      · obtain ⟨hx1, _⟩ := (eF_q h).1 he
        have hx6 := bit_lt hs hx1
        have hlt := sub_lt (a := x) h0
        rw [if_pos rfl, if_pos rfl, cF_put h ha hb hv k (s - 2 ^ x) (by omega) (by omega) fun y hy => hL y ?_]
        have hpx := Nat.two_pow_pos x
        rcases Nat.lt_or_ge y 6 with hy6 | hy6
        · rw [sub_bit_fin ⟨s, by omega⟩ ⟨x, by omega⟩ ⟨y, hy6⟩ hx1, Bool.and_eq_true] at hy
          exact hy.1
        · rw [Nat.testBit_lt_two_pow (Nat.lt_of_lt_of_le (show s - 2 ^ x < 2 ^ 6 by omega) (Nat.pow_le_pow_right (by decide) hy6))] at hy; cases hy
theorem ideal_put (h : VoP zs) (ha : a < zs.length) (hb : b < zs.length) (hv : VoP (putA zs a b)) {s : Nat} (hI : Ideal (putA zs a b) s) : Ideal zs s := fun x y hy hq => hI x y hy (by
  rw [du_bit h.sets] at hq
  rw [du_bit hv.sets]
  exact (putA_q h ha hb x y).2 (.inl hq))
/-- Where a and b are still to come, nothing has changed. -/
theorem cG_put (h : VoP zs) (ha : a < zs.length) (hb : b < zs.length) (hv : VoP (putA zs a b)) : ∀ (k s : Nat), s ≤ k → s < 2 ^ zs.length → s.testBit b = false → cG (putA zs a b) s = cG zs s
  | 0, s, hk, _, _ => by
    obtain rfl : s = 0 := by omega
    rw [cG_zero, cG_zero]
  | k + 1, s, hk, hs, hsb => by
    by_cases h0 : s = 0
    · subst h0; rw [cG_zero, cG_zero]
    · have hn6 := h.1
      have hp64 := pow_le64 hn6
      by_cases hI : Ideal zs s
      · rw [cG_pos h0, cG_pos h0, putA_len]
        have hnb : ∀ y, s.testBit y = true → y ≠ b ∧ ¬ qB zs b y := fun y hy => by
          refine ⟨fun e => (by subst e; rw [hsb] at hy; cases hy), fun e => ?_⟩
          have := hI b y hy (by rw [du_bit h.sets]; exact e)
          rw [hsb] at this; cases this
        refine sum_congr fun x hx => ?_
        have e : eG (putA zs a b) s x = eG zs s x := by
          unfold eG
          cases hsx : s.testBit x
          · rfl
          · have e1 : (lessI ((du zs)[x]?.getD 0) (s : Int) == 0) = true := by
              rw [beq_iff_eq, less_zero]; exact fun j hj => hI j x hsx hj
            have e2 : (lessI ((du (putA zs a b))[x]?.getD 0) (s : Int) == 0) = true := by
              rw [beq_iff_eq, less_zero]
              intro j hj
              rw [du_bit hv.sets] at hj
              rcases (putA_q h ha hb j x).1 hj with e3 | ⟨_, e3⟩
              · exact hI j x hsx (by rw [du_bit h.sets]; exact e3)
              · rcases e3 with e3 | e3
                · exact absurd e3 (hnb x hsx).1
                · exact absurd e3 (hnb x hsx).2
            have e4 : belowAny (putA zs a b) s x = belowAny zs s x := by
              have hs2 : s < 2 ^ (putA zs a b).length := by rw [putA_len]; exact hs
              have key : belowAny (putA zs a b) s x = false ↔ belowAny zs s x = false := by
                rw [below_any hv hs2, below_any h hs, andI_zero, andI_zero]
                refine forall_congr' fun y => ?_
                rw [bit_cast]
                refine imp_congr_right fun hy => ?_
                constructor
                · intro e5
                  cases e6 : bitB (zs[x]?.getD 0) y
                  · rfl
                  · have : qB (putA zs a b) x y := (putA_q h ha hb x y).2 (.inl e6)
                    unfold qB at this
                    rw [this] at e5; cases e5
                · intro e5
                  cases e6 : bitB ((putA zs a b)[x]?.getD 0) y
                  · rfl
                  · rcases (putA_q h ha hb x y).1 e6 with e7 | ⟨_, e7⟩
                    · unfold qB at e7; rw [e7] at e5; cases e5
                    · rcases e7 with e7 | e7
                      · exact absurd e7 (hnb y hy).1
                      · exact absurd e7 (hnb y hy).2
              cases e8 : belowAny (putA zs a b) s x <;> cases e9 : belowAny zs s x <;> simp_all
            rw [e1, e2, e4]
        rw [e]
        cases he : eG zs s x
        · rfl
        · have hx1 : s.testBit x = true := by unfold eG at he; rw [Bool.and_eq_true] at he; exact he.1
          have hx6 := bit_lt hs hx1
          have hlt := sub_lt (a := x) h0
          have hpx := Nat.two_pow_pos x
          have hbb : (s - 2 ^ x).testBit b = false := by
            rw [sub_bit_fin ⟨s, by omega⟩ ⟨x, by omega⟩ ⟨b, by omega⟩ hx1]
            simp only [hsb, Bool.false_and]
          rw [if_pos rfl, if_pos rfl, cG_put h ha hb hv k (s - 2 ^ x) (by omega) (by omega) hbb]
      · have z1 : cG zs s = 0 := by
          rcases Nat.eq_zero_or_pos (cG zs s) with e | e
          · exact e
          · exact absurd (cG_ideal h s s (Nat.le_refl _) hs (by omega)) hI
        have z2 : cG (putA zs a b) s = 0 := by
          rcases Nat.eq_zero_or_pos (cG (putA zs a b) s) with e | e
          · exact e
          · exact absurd (ideal_put h ha hb hv (cG_ideal hv s s (Nat.le_refl _) (by rw [putA_len]; exact hs) (by omega))) hI
        rw [z1, z2]
/-- As the model asks it: a and b are still to come, and all below a is there. -/
def mB (zs : List Int) (a b s : Nat) : Bool := !s.testBit a && (!s.testBit b && (lessI ((du zs)[a]?.getD 0) (s : Int) == 0))
/-- In how many lines a is ahead of b. -/
def fcN (zs : List Int) (a b : Nat) : Nat := ((List.range (2 ^ zs.length)).map fun s => if mB zs a b s then cG zs s * cF zs (2 ^ zs.length - 1 - (s + 2 ^ a)) else 0).sum
theorem fc_put (h : VoP zs) (ha : a < zs.length) (hb : b < zs.length) (hab : a ≠ b) (hnb : ¬ qB zs b a) : fcN zs a b = cF (putA zs a b) (2 ^ zs.length - 1) := by
  have hn6 := h.1
  have hp64 := pow_le64 hn6
  have hv := putA_vo h ha hb hab hnb
  have hby := by_item hv (a := a) (by rw [putA_len]; exact ha)
  rw [putA_len] at hby
  rw [← hby]
  unfold fcN
  refine sum_congr fun s hs => ?_
  have hN := List.mem_range.1 hs
  have hdu : (du (putA zs a b))[a]?.getD 0 = (du zs)[a]?.getD 0 := by
    have h1 := (du_vo hv).bd a (by rw [du_len, putA_len]; exact ha)
    have h2 := (du_vo h).bd a (by rw [du_len]; exact ha)
    refine bitB_ext h1.1 h2.1 fun j => ?_
    rw [du_bit hv.sets, du_bit h.sets, Bool.eq_iff_iff]
    constructor
    · intro e
      rcases (putA_q h ha hb j a).1 e with e | ⟨_, e⟩
      · exact e
      · rcases e with e | e
        · exact absurd e hab
        · exact absurd e hnb
    · exact fun e => (putA_q h ha hb j a).2 (.inl e)
  have hnx : nextE (putA zs a b) s a = nextE zs s a := by unfold nextE; rw [hdu]
  rw [hnx]
  cases hsa : s.testBit a
  · cases hle : (lessI ((du zs)[a]?.getD 0) (s : Int) == 0)
    · have e1 : mB zs a b s = false := by unfold mB; rw [hle]; simp
      have e2 : nextE zs s a = false := by unfold nextE; rw [hle]; simp
      rw [e1, e2]; rfl
    · have e2 : nextE zs s a = true := by unfold nextE; rw [hsa, hle]; rfl
      rw [e2, if_pos rfl]
      cases hsb : s.testBit b
      · have e1 : mB zs a b s = true := by unfold mB; rw [hsa, hsb, hle]; rfl
        rw [e1, if_pos rfl, cG_put h ha hb hv s s (Nat.le_refl _) hN hsb]
        have hlt := add_lt_fin ⟨zs.length, by omega⟩ ⟨s, by omega⟩ ⟨a, by omega⟩ hN ha hsa
        simp only at hlt
        have hpa := Nat.two_pow_pos a
        rw [cF_put h ha hb hv _ (2 ^ zs.length - 1 - (s + 2 ^ a)) (Nat.le_refl _) (by omega) fun y hy => ?_]
        have hyn := bit_lt (n := zs.length) (by omega) hy
        have hy2 := com_bit_fin ⟨zs.length, by omega⟩ ⟨s + 2 ^ a, by omega⟩ hlt ⟨y, by omega⟩
        have hy3 := add_bit_fin ⟨s, by omega⟩ ⟨a, by omega⟩ ⟨y, by omega⟩ hsa
        simp only at hy2 hy3
        rw [hy2, hy3] at hy
        simp only [Bool.and_eq_true, Bool.not_eq_true', Bool.or_eq_false_iff, decide_eq_false_iff_not] at hy
        refine ⟨fun e => hy.2.2 e.symm, fun e => ?_⟩
        have := less_zero.1 (beq_iff_eq.1 hle) y (by rw [du_bit h.sets]; exact e)
        rw [hy.2.1] at this; cases this
      · have e1 : mB zs a b s = false := by unfold mB; rw [hsb]; simp
        have z : cG (putA zs a b) s = 0 := by
          rcases Nat.eq_zero_or_pos (cG (putA zs a b) s) with e | e
          · exact e
          · have hI := cG_ideal hv s s (Nat.le_refl _) (by rw [putA_len]; exact hN) (by omega)
            have := hI a b hsb (by rw [du_bit hv.sets]; exact (putA_q h ha hb a b).2 (.inr ⟨.inl rfl, .inl rfl⟩))
            rw [hsa] at this; cases this
        rw [e1, z, Nat.zero_mul]; rfl
  · have e1 : mB zs a b s = false := by unfold mB; rw [hsa]; rfl
    have e2 : nextE zs s a = false := by unfold nextE; rw [hsa]; rfl
    rw [e1, e2]; rfl
theorem fc_none (h : VoP zs) (hba : qB zs b a) : fcN zs a b = 0 := by
  unfold fcN
  refine (sum_congr (g := fun _ => 0) fun s _ => ?_).trans (sum_map_zero _)
  have : mB zs a b s = false := by
    cases e : mB zs a b s
    · rfl
    · unfold mB at e
      rw [Bool.and_eq_true, Bool.and_eq_true] at e
      have h1 := less_zero.1 (beq_iff_eq.1 e.2.2) b (by rw [du_bit h.sets]; exact hba)
      rw [h1] at e; simp at e
  rw [this]; rfl
end
end Go.Proofs.Ytghogabmkbadjaa

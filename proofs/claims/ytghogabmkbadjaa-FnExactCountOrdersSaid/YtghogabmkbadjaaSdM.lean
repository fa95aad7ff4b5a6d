/- Sides, as plain mathematics: the steps by which one is made, and that the first choice that comes through is the least one. No program. -/
import Derived.Test.YtghogabmkbadjaaFcP
import Derived.Test.YtghogabmkbadjaaTwM
import Derived.Test.YtghogabmkbadjaaGxd
set_option linter.unusedVariables false
set_option linter.unusedSimpArgs false
namespace Go.Proofs.Ytghogabmkbadjaa

theorem q_lt2 {zs : List Int} (h : VoP zs) {x y : Nat} (hq : qB zs x y) : x < zs.length ∧ y < zs.length := by
  have hx := qB_lt rfl hq
  exact ⟨hx, bitB_lt (h.sets.2 x hx).2 hq⟩
/-- Two items of which none is above the other one. -/
def un (zs : List Int) (x y : Nat) : Prop := x ≠ y ∧ ¬ qB zs x y ∧ ¬ qB zs y x
theorem un_symm {zs : List Int} {x y : Nat} (h : un zs x y) : un zs y x := ⟨h.1.symm, h.2.2, h.2.1⟩
structure SideOf (zs T : List Int) : Prop where
  vo : VoP T
  len : T.length = zs.length
  iff : ∀ x y, x < zs.length → y < zs.length → (qB T x y ∨ qB T y x ↔ un zs x y)

theorem relI_q {zs : List Int} (h : VoP zs) {x : Nat} (hx : x < zs.length) (y : Nat) : bitB (relI zs x) y = true ↔ y = x ∨ qB zs x y ∨ qB zs y x := by
  unfold relI
  rw [bitB_or, Bool.or_eq_true, belI_bit h.sets (powI_lt hx)]
  constructor
  · rintro (e | e | ⟨b, e1, e2⟩)
    · exact .inr (.inl e)
    · rw [bitB_pow, decide_eq_true_eq] at e; exact .inl e.symm
    · rw [bitB_pow, decide_eq_true_eq] at e1; rw [← e1] at e2; exact .inr (.inr e2)
  · rintro (e | e | e)
    · exact .inr (.inl (by rw [bitB_pow, e]; simp))
    · exact .inl e
    · exact .inr (.inr ⟨x, by rw [bitB_pow]; simp, e⟩)

/-! One step: what is at or above hi is put above what is at or below lo. -/
def folS (S : List Int) (hi : Nat) : Int := orI (S[hi]?.getD 0) (powI (hi : Int))
def belS (S : List Int) (lo : Nat) : Int := belI S (powI (lo : Int))
def stepS (S : List Int) (lo hi : Nat) : List Int := (List.range S.length).map fun x : Nat => if bitB (belS S lo) (x : Int) then orI (S[x]?.getD 0) (folS S hi) else S[x]?.getD 0
def badS (zs S : List Int) (lo hi : Nat) : Bool := (itemsL (belS S lo)).any fun x => !(andI (relI zs x) (folS S hi) == 0)
section
variable {zs S : List Int} {lo hi : Nat}
theorem stepS_len : (stepS S lo hi).length = S.length := by simp [stepS]
theorem stepS_get {x : Nat} (hx : x < S.length) : (stepS S lo hi)[x]?.getD 0 = if bitB (belS S lo) (x : Int) then orI (S[x]?.getD 0) (folS S hi) else S[x]?.getD 0 := by
  simp [stepS, List.getElem?_range, hx]
theorem belS_q (h : VoP S) (hl : lo < S.length) (x : Nat) : bitB (belS S lo) (x : Int) = true ↔ x = lo ∨ qB S x lo := by
  unfold belS
  rw [belI_bit h.sets (powI_lt hl)]
  constructor
  · rintro (e | ⟨b, e1, e2⟩)
    · rw [bitB_pow, decide_eq_true_eq] at e; exact .inl e.symm
    · rw [bitB_pow, decide_eq_true_eq] at e1; rw [← e1] at e2; exact .inr e2
  · rintro (e | e)
    · exact .inl (by rw [bitB_pow, e]; simp)
    · exact .inr ⟨lo, by rw [bitB_pow]; simp, e⟩
theorem belS_bd (h : VoP S) (hl : lo < S.length) : 0 ≤ belS S lo ∧ belS S lo < powI S.length := belI_bd h.sets (Int.le_of_lt (powI_pos _)) (powI_lt hl)
theorem folS_q (y : Nat) : bitB (folS S hi) (y : Int) = true ↔ y = hi ∨ qB S hi y := by
  unfold folS
  rw [bitB_or, Bool.or_eq_true, bitB_pow, decide_eq_true_eq]
  constructor
  · rintro (e | e)
    · exact .inr e
    · exact .inl e.symm
  · rintro (e | e)
    · exact .inr e.symm
    · exact .inl e
theorem folS_bd (h : VoP S) (hh : hi < S.length) : 0 ≤ folS S hi ∧ folS S hi < powI S.length :=
  orI_bd (h.sets.2 hi hh).1 (h.sets.2 hi hh).2 (Int.le_of_lt (powI_pos _)) (powI_lt hh)
theorem stepS_q (h : VoP S) (hl : lo < S.length) (x y : Nat) : qB (stepS S lo hi) x y ↔ PA S lo hi x y := by
  rcases Nat.lt_or_ge x S.length with hx | hx
  · unfold qB PA
    rw [stepS_get hx]
    cases hb : bitB (belS S lo) (x : Int)
    · have hn : ¬ (x = lo ∨ qB S x lo) := fun e => by rw [(belS_q h hl x).2 e] at hb; cases hb
      constructor
      · exact fun e => .inl e
      · rintro (e | ⟨e, _⟩)
        · exact e
        · exact absurd e hn
    · have hy := (belS_q h hl x).1 hb
      rw [if_pos rfl, bitB_or, Bool.or_eq_true, folS_q]
      constructor
      · rintro (e | e)
        · exact .inl e
        · exact .inr ⟨hy, e⟩
      · rintro (e | ⟨_, e⟩)
        · exact .inl e
        · exact .inr e
  · constructor
    · intro e
      have := qB_lt stepS_len e
      omega
    · rintro (e | ⟨e, _⟩)
      · have := qB_lt rfl e; omega
      · rcases e with e | e
        · omega
        · have := qB_lt rfl e; omega
theorem badS_no (hz : VoP zs) (h : VoP S) (hlen : S.length = zs.length) (hl : lo < S.length) (hb : badS zs S lo hi = false) : ∀ x y, (x = lo ∨ qB S x lo) → (y = hi ∨ qB S hi y) → un zs x y := by
  intro x y hx hy
  have hxl : x < zs.length := by
    rcases hx with e | e
    · omega
    · have := qB_lt rfl e; omega
  have hn6 := h.1
  have hp64 := powI_le6 (n := (S.length : Int)) (by omega)
  have hbd := belS_bd h hl
  have hm : x ∈ itemsL (belS S lo) := (mem_itemsL (by omega)).2 ((belS_q h hl x).2 hx)
  have hz0 : andI (relI zs x) (folS S hi) = 0 := by
    cases e : andI (relI zs x) (folS S hi) == 0
    · have : badS zs S lo hi = true := List.any_eq_true.2 ⟨x, hm, by rw [e]; rfl⟩
      rw [hb] at this; cases this
    · exact beq_iff_eq.1 e
  have := andI_zero.1 hz0 y ((folS_q y).2 hy)
  have hr : ¬ (y = x ∨ qB zs x y ∨ qB zs y x) := fun e => by rw [(relI_q hz hxl y).2 e] at this; cases this
  exact ⟨fun e => hr (.inl e.symm), fun e => hr (.inr (.inl e)), fun e => hr (.inr (.inr e))⟩
theorem badS_yes (hz : VoP zs) (h : VoP S) (hlen : S.length = zs.length) (hl : lo < S.length) (hb : badS zs S lo hi = true) : ∃ x y, (x = lo ∨ qB S x lo) ∧ (y = hi ∨ qB S hi y) ∧ ¬ un zs x y := by
  obtain ⟨x, hm, hx⟩ := List.any_eq_true.1 hb
  have hn6 := h.1
  have hp64 := powI_le6 (n := (S.length : Int)) (by omega)
  have hbd := belS_bd h hl
  have hxb := (belS_q h hl x).1 ((mem_itemsL (by omega)).1 hm)
  have hxl : x < zs.length := by
    rcases hxb with e | e
    · omega
    · have := qB_lt rfl e; omega
  have hne : andI (relI zs x) (folS S hi) ≠ 0 := by simpa using hx
  have : ∃ y : Nat, bitB (folS S hi) (y : Int) = true ∧ bitB (relI zs x) (y : Int) = true := by
    refine Classical.byContradiction fun hno => hne (andI_zero.2 fun y hy => ?_)
    cases e : bitB (relI zs x) (y : Int)
    · rfl
    · exact absurd ⟨y, hy, e⟩ hno
  obtain ⟨y, hy, hr⟩ := this
  refine ⟨x, y, hxb, (folS_q y).1 hy, fun hu => ?_⟩
  rcases (relI_q hz hxl y).1 hr with e | e | e
  · exact hu.1 e.symm
  · exact hu.2.1 e
  · exact hu.2.2 e

/-- A side under way. -/
structure SInv (zs S : List Int) : Prop where
  vo : VoP S
  len : S.length = zs.length
  sub : ∀ x y, qB S x y → un zs x y
theorem PA_trans (h : VoP S) {x y z : Nat} : PA S lo hi x y → PA S lo hi y z → PA S lo hi x z := by
  rintro (h1 | ⟨h1, h1'⟩) (h2 | ⟨h2, h2'⟩)
  · exact .inl (q_trans h h1 h2)
  · refine .inr ⟨.inr ?_, h2'⟩
    rcases h2 with e | e
    · subst e; exact h1
    · exact q_trans h h1 e
  · refine .inr ⟨h1, .inr ?_⟩
    rcases h1' with e | e
    · subst e; exact h2
    · exact q_trans h e h2
  · exact .inr ⟨h1, h2'⟩
theorem step_inv (hz : VoP zs) (h : SInv zs S) (hl : lo < zs.length) (hh : hi < zs.length) (hb : badS zs S lo hi = false) : SInv zs (stepS S lo hi) := by
  have hn6 := h.vo.1
  have hlS : lo < S.length := by rw [h.len]; exact hl
  have hhS : hi < S.length := by rw [h.len]; exact hh
  have hu := badS_no hz h.vo h.len hlS hb
  have hsub : ∀ x y, qB (stepS S lo hi) x y → un zs x y := fun x y e => by
    rcases (stepS_q h.vo hlS x y).1 e with e | ⟨e1, e2⟩
    · exact h.sub x y e
    · exact hu x y e1 e2
  refine ⟨vo_mk (by rw [stepS_len]; exact hn6) (fun a ha => ?_) (fun a e => (hsub a a e).1 rfl) (fun a b c h1 h2 => ?_), by rw [stepS_len]; exact h.len, hsub⟩
  · rw [stepS_len] at ha ⊢
    rw [stepS_get ha]
    have h1 := h.vo.sets.2 a ha
    split
    · exact orI_bd h1.1 h1.2 (folS_bd h.vo hhS).1 (folS_bd h.vo hhS).2
    · exact h1
  · exact (stepS_q h.vo hlS a c).2 (PA_trans h.vo ((stepS_q h.vo hlS a b).1 h1) ((stepS_q h.vo hlS b c).1 h2))
end

/-! The pairs, as the program has them, and what a choice makes of them. -/
def prA (zs : List Int) : List (Nat × Nat) := (List.range zs.length).reverse.flatMap fun a => ((itemsL (unrI zs a)).filter fun b => decide (a < b)).map fun b => (a, b)
def arcC (c i : Nat) (p : Nat × Nat) : Nat × Nat := if c.testBit i then p else (p.2, p.1)
def arcA (zs : List Int) (c i : Nat) : Nat × Nat := arcC c i ((prA zs)[i]?.getD (0, 0))
def sdTo (zs : List Int) (c : Nat) : Nat → Option (List Int)
  | 0 => some (zr zs.length)
  | i + 1 => (sdTo zs c i).bind fun S => if badS zs S (arcA zs c i).1 (arcA zs c i).2 then none else some (stepS S (arcA zs c i).1 (arcA zs c i).2)
def sdC (zs : List Int) (c : Nat) : Option (List Int) := sdTo zs c (prA zs).length
def sdF (zs : List Int) : Option (List Int) := (List.range (2 ^ (prA zs).length)).findSome? (sdC zs)
section
variable {zs : List Int}
theorem un_iff (h : VoP zs) {a b : Nat} (ha : a < zs.length) : bitB (unrI zs a) (b : Int) = true ↔ b < zs.length ∧ un zs a b := by
  rw [unrI_bit h ha]
  unfold un qB relB
  rw [Bool.or_eq_false_iff, ← Bool.not_eq_true, ← Bool.not_eq_true]
  constructor
  · rintro ⟨h1, h2, h3, h4⟩; exact ⟨h1, fun e => h2 e.symm, h3, h4⟩
  · rintro ⟨h1, h2, h3, h4⟩; exact ⟨h1, fun e => h2 e.symm, h3, h4⟩
theorem mem_prA (h : VoP zs) {p : Nat × Nat} : p ∈ prA zs ↔ p.1 < p.2 ∧ p.2 < zs.length ∧ un zs p.1 p.2 := by
  have hn6 := h.1
  have hp64 := powI_le6 (n := (zs.length : Int)) (by omega)
  unfold prA
  simp only [List.mem_flatMap, List.mem_reverse, List.mem_range, List.mem_map, List.mem_filter, decide_eq_true_eq]
  constructor
  · rintro ⟨a, ha, b, ⟨hb, hab⟩, rfl⟩
    have hbd := unrI_bd zs a
    have := (un_iff h ha).1 ((mem_itemsL (by omega)).1 hb)
    exact ⟨hab, this⟩
  · rintro ⟨h1, h2, h3⟩
    have hbd := unrI_bd zs p.1
    exact ⟨p.1, by omega, p.2, ⟨(mem_itemsL (by omega)).2 ((un_iff h (by omega)).2 ⟨h2, h3⟩), h1⟩, rfl⟩
theorem arc_ok (h : VoP zs) {c i : Nat} (hi : i < (prA zs).length) : (arcA zs c i).1 < zs.length ∧ (arcA zs c i).2 < zs.length ∧ un zs (arcA zs c i).1 (arcA zs c i).2 := by
  have hm := (mem_prA h).1 (List.getElem_mem hi)
  unfold arcA arcC
  rw [List.getElem?_eq_getElem hi, Option.getD_some]
  split
  · exact ⟨by omega, hm.2.1, hm.2.2⟩
  · exact ⟨hm.2.1, by show (prA zs)[i].1 < _; omega, un_symm hm.2.2⟩
theorem sdTo_inv (h : VoP zs) {c : Nat} : ∀ {i : Nat} {S : List Int}, i ≤ (prA zs).length → sdTo zs c i = some S → SInv zs S ∧ ∀ j, j < i → qB S (arcA zs c j).1 (arcA zs c j).2
  | 0, S, _, e => by
    have hn6 := h.1
    unfold sdTo at e
    cases e
    refine ⟨⟨zr_vo hn6, zr_len _, fun x y e => ?_⟩, fun j hj => by omega⟩
    unfold qB zr at e
    rw [List.getElem?_replicate] at e
    split at e <;> rw [show (Option.getD _ (0 : Int)) = 0 from rfl, bitB_zero] at e <;> cases e
  | i + 1, S, hi, e => by
    unfold sdTo at e
    cases e0 : sdTo zs c i with
    | none => rw [e0] at e; cases e
    | some S0 =>
      rw [e0, Option.bind_some] at e
      obtain ⟨h1, h2⟩ := sdTo_inv h (by omega) e0
      obtain ⟨a1, a2, a3⟩ := arc_ok h (c := c) (show i < (prA zs).length by omega)
      cases hb : badS zs S0 (arcA zs c i).1 (arcA zs c i).2
      · rw [hb] at e
        simp only [Bool.false_eq_true, if_false, Option.some.injEq] at e
        subst e
        refine ⟨step_inv h h1 a1 a2 hb, fun j hj => ?_⟩
        refine (stepS_q h1.vo (by rw [h1.len]; exact a1) _ _).2 ?_
        rcases Nat.lt_or_ge j i with hji | hji
        · exact .inl (h2 j hji)
        · obtain rfl : j = i := by omega
          exact .inr ⟨.inl rfl, .inl rfl⟩
      · rw [hb] at e; simp at e
theorem sdTo_sub (h : VoP zs) {c : Nat} {T : List Int} (hT : SideOf zs T) : ∀ {i : Nat} {S : List Int}, i ≤ (prA zs).length → (∀ j, j < i → qB T (arcA zs c j).1 (arcA zs c j).2) → sdTo zs c i = some S → ∀ x y, qB S x y → qB T x y
  | 0, S, _, _, e, x, y, hq => by
    unfold sdTo at e
    cases e
    unfold qB zr at hq
    rw [List.getElem?_replicate] at hq
    split at hq <;> rw [show (Option.getD _ (0 : Int)) = 0 from rfl, bitB_zero] at hq <;> cases hq
  | i + 1, S, hi, ha, e, x, y, hq => by
    unfold sdTo at e
    cases e0 : sdTo zs c i with
    | none => rw [e0] at e; cases e
    | some S0 =>
      rw [e0, Option.bind_some] at e
      have h1 := (sdTo_inv h (by omega) e0).1
      have ih := sdTo_sub h hT (by omega) (fun j hj => ha j (by omega)) e0
      obtain ⟨a1, a2, a3⟩ := arc_ok h (c := c) (show i < (prA zs).length by omega)
      have hai := ha i (by omega)
      cases hb : badS zs S0 (arcA zs c i).1 (arcA zs c i).2
      · rw [hb] at e
        simp only [Bool.false_eq_true, if_false, Option.some.injEq] at e
        subst e
        rcases (stepS_q h1.vo (by rw [h1.len]; exact a1) x y).1 hq with e | ⟨e1, e2⟩
        · exact ih x y e
        · have hb2 : qB T x (arcA zs c i).2 := by
            rcases e1 with e1 | e1
            · rw [e1]; exact hai
            · exact q_trans hT.vo (ih _ _ e1) hai
          rcases e2 with e2 | e2
          · rw [e2]; exact hb2
          · exact q_trans hT.vo hb2 (ih _ _ e2)
      · rw [hb] at e; simp at e
theorem side_un {T : List Int} (hT : SideOf zs T) {x y : Nat} (hq : qB T x y) : un zs x y := by
  obtain ⟨h1, h2⟩ := q_lt2 hT.vo hq
  rw [hT.len] at h1 h2
  exact (hT.iff x y h1 h2).1 (.inl hq)
theorem sdTo_some (h : VoP zs) {c : Nat} {T : List Int} (hT : SideOf zs T) : ∀ {i : Nat}, i ≤ (prA zs).length → (∀ j, j < i → qB T (arcA zs c j).1 (arcA zs c j).2) → ∃ S, sdTo zs c i = some S
  | 0, _, _ => ⟨_, rfl⟩
  | i + 1, hi, ha => by
    obtain ⟨S, e⟩ := sdTo_some h hT (i := i) (by omega) fun j hj => ha j (by omega)
    have h1 := (sdTo_inv h (by omega) e).1
    have hs := sdTo_sub h hT (by omega) (fun j hj => ha j (by omega)) e
    obtain ⟨a1, a2, a3⟩ := arc_ok h (c := c) (show i < (prA zs).length by omega)
    have hai := ha i (by omega)
    cases hb : badS zs S (arcA zs c i).1 (arcA zs c i).2
    · exact ⟨stepS S (arcA zs c i).1 (arcA zs c i).2, by unfold sdTo; rw [e, Option.bind_some, hb]; rfl⟩
    · exfalso
      obtain ⟨x, y, hx, hy, hn⟩ := badS_yes h h1.vo h1.len (by rw [h1.len]; exact a1) hb
      refine hn (side_un hT ?_)
      have hb2 : qB T x (arcA zs c i).2 := by
        rcases hx with e1 | e1
        · rw [e1]; exact hai
        · exact q_trans hT.vo (hs _ _ e1) hai
      rcases hy with e2 | e2
      · rw [e2]; exact hb2
      · exact q_trans hT.vo hb2 (hs _ _ e2)
theorem pair_at (h : VoP zs) {x y : Nat} (hx : x < zs.length) (hy : y < zs.length) (hu : un zs x y) : ∃ i, i < (prA zs).length ∧ ((prA zs)[i]?.getD (0, 0) = (x, y) ∨ (prA zs)[i]?.getD (0, 0) = (y, x)) := by
  rcases Nat.lt_or_ge x y with e | e
  · obtain ⟨i, hi, e2⟩ := List.getElem_of_mem ((mem_prA h (p := (x, y))).2 ⟨e, hy, hu⟩)
    exact ⟨i, hi, .inl (by rw [List.getElem?_eq_getElem hi, Option.getD_some, e2])⟩
  · have hne := hu.1
    obtain ⟨i, hi, e2⟩ := List.getElem_of_mem ((mem_prA h (p := (y, x))).2 ⟨by show y < x; omega, hx, un_symm hu⟩)
    exact ⟨i, hi, .inr (by rw [List.getElem?_eq_getElem hi, Option.getD_some, e2])⟩
theorem sdC_side (h : VoP zs) {c : Nat} {S : List Int} (e : sdC zs c = some S) : SideOf zs S ∧ ∀ j, j < (prA zs).length → qB S (arcA zs c j).1 (arcA zs c j).2 := by
  obtain ⟨h1, h2⟩ := sdTo_inv h (Nat.le_refl _) e
  refine ⟨⟨h1.vo, h1.len, fun x y hx hy => ⟨?_, fun hu => ?_⟩⟩, h2⟩
  · rintro (e | e)
    · exact h1.sub x y e
    · exact un_symm (h1.sub y x e)
  · obtain ⟨i, hi, hp⟩ := pair_at h hx hy hu
    have := h2 i hi
    unfold arcA arcC at this
    rcases hp with hp | hp <;> rw [hp] at this <;> split at this
    · exact .inl this
    · exact .inr this
    · exact .inr this
    · exact .inl this
theorem side_asym {T : List Int} (hT : VoP T) {x y : Nat} (h1 : qB T x y) (h2 : qB T y x) : False := q_irr hT (q_trans hT h1 h2)
theorem side_eq {S T : List Int} (hS : SideOf zs S) (hT : SideOf zs T) (hsub : ∀ x y, qB S x y → qB T x y) : S = T := by
  have hq : ∀ x y, qB S x y ↔ qB T x y := fun x y => ⟨hsub x y, fun e => by
    obtain ⟨h1, h2⟩ := q_lt2 hT.vo e
    rw [hT.len] at h1 h2
    rcases (hS.iff x y h1 h2).2 (side_un hT e) with e1 | e1
    · exact e1
    · exact absurd (hsub y x e1) fun e2 => side_asym hT.vo e e2⟩
  refine List.ext_getElem? fun a => ?_
  rcases Nat.lt_or_ge a zs.length with ha | ha
  · have a1 : a < S.length := by rw [hS.len]; exact ha
    have a2 : a < T.length := by rw [hT.len]; exact ha
    have b1 := (hS.vo.sets.2 a a1).1
    have b2 := (hT.vo.sets.2 a a2).1
    rw [List.getElem?_eq_getElem a1] at b1 ⊢
    rw [List.getElem?_eq_getElem a2] at b2 ⊢
    congr 1
    refine bitB_ext b1 b2 fun j => ?_
    have := hq a j
    unfold qB at this
    rw [List.getElem?_eq_getElem a1, List.getElem?_eq_getElem a2] at this
    rw [Bool.eq_iff_iff]; exact this
  · rw [List.getElem?_eq_none (by rw [hS.len]; exact ha), List.getElem?_eq_none (by rw [hT.len]; exact ha)]
theorem sdC_of (h : VoP zs) {c : Nat} {T : List Int} (hT : SideOf zs T) (ha : ∀ j, j < (prA zs).length → qB T (arcA zs c j).1 (arcA zs c j).2) : sdC zs c = some T := by
  obtain ⟨S, e⟩ := sdTo_some h hT (Nat.le_refl _) ha
  have := side_eq (sdC_side h e).1 hT (sdTo_sub h hT (Nat.le_refl _) ha e)
  rw [← this]; exact e

/-! The choice of a side. -/
def mkC (p : Nat → Bool) : Nat → Nat
  | 0 => 0
  | k + 1 => if p k then mkC p k ||| 2 ^ k else mkC p k
theorem mkC_bit (p : Nat → Bool) (j : Nat) : ∀ k : Nat, (mkC p k).testBit j = (decide (j < k) && p j)
  | 0 => by simp [mkC]
  | k + 1 => by
    have ih := mkC_bit p j k
    unfold mkC
    by_cases hj : j = k
    · subst hj
      cases hp : p j
      · simp [ih]
      · simp [Nat.testBit_or]
    · have e : decide (j < k + 1) = decide (j < k) := by rw [decide_eq_decide]; omega
      rw [e]
      cases hp : p k
      · simpa using ih
      · rw [if_pos rfl, Nat.testBit_or, ih, Nat.testBit_two_pow, decide_eq_false (show ¬ k = j from fun e => hj e.symm)]; simp
theorem mkC_lt (p : Nat → Bool) (k : Nat) : mkC p k < 2 ^ k := Nat.lt_pow_two_of_testBit _ fun j hj => by rw [mkC_bit, decide_eq_false (by omega)]; rfl
def chC (zs T : List Int) : Nat := mkC (fun i => bitB (T[((prA zs)[i]?.getD (0, 0)).1]?.getD 0) (((prA zs)[i]?.getD (0, 0)).2 : Int)) (prA zs).length
theorem chC_lt (zs T : List Int) : chC zs T < 2 ^ (prA zs).length := mkC_lt _ _
theorem chC_bit (zs T : List Int) {i : Nat} (hi : i < (prA zs).length) : (chC zs T).testBit i = true ↔ qB T ((prA zs)[i]?.getD (0, 0)).1 ((prA zs)[i]?.getD (0, 0)).2 := by
  unfold chC
  rw [mkC_bit, decide_eq_true hi, Bool.true_and]; exact Iff.rfl
theorem chC_arcs (h : VoP zs) {T : List Int} (hT : SideOf zs T) : ∀ j, j < (prA zs).length → qB T (arcA zs (chC zs T) j).1 (arcA zs (chC zs T) j).2 := fun j hj => by
  have hm := (mem_prA h).1 (List.getElem_mem hj)
  have hb := chC_bit zs T hj
  unfold arcA arcC
  rw [List.getElem?_eq_getElem hj, Option.getD_some] at hb ⊢
  split
  · rename_i hc; exact hb.1 hc
  · rename_i hc
    have hno : ¬ qB T (prA zs)[j].1 (prA zs)[j].2 := fun e => hc (hb.2 e)
    exact ((hT.iff _ _ (by omega) hm.2.1).2 hm.2.2).resolve_left hno
theorem chC_some (h : VoP zs) {T : List Int} (hT : SideOf zs T) : sdC zs (chC zs T) = some T := sdC_of h hT (chC_arcs h hT)
theorem chC_of (h : VoP zs) {c : Nat} {T : List Int} (hc : c < 2 ^ (prA zs).length) (e : sdC zs c = some T) : chC zs T = c := by
  obtain ⟨hT, ha⟩ := sdC_side h e
  refine Nat.eq_of_testBit_eq fun i => ?_
  by_cases hi : i < (prA zs).length
  · have hb := chC_bit zs T hi
    have hai := ha i hi
    unfold arcA arcC at hai
    cases hci : c.testBit i
    · rw [hci] at hai
      simp only [Bool.false_eq_true, if_false] at hai
      cases h2 : (chC zs T).testBit i
      · rfl
      · exact absurd (hb.1 h2) fun e => side_asym hT.vo e hai
    · rw [hci, if_pos rfl] at hai
      exact hb.2 hai
  · rw [Nat.testBit_lt_two_pow (Nat.lt_of_lt_of_le (chC_lt zs T) (Nat.pow_le_pow_right (by decide) (by omega))), Nat.testBit_lt_two_pow (Nat.lt_of_lt_of_le hc (Nat.pow_le_pow_right (by decide) (by omega)))]

theorem lt_testBit {x y : Nat} (i : Nat) (hx : x.testBit i = false) (hy : y.testBit i = true) (h : ∀ j, i < j → x.testBit j = y.testBit j) : x < y := by
  have e : x / 2 ^ (i + 1) = y / 2 ^ (i + 1) := Nat.eq_of_testBit_eq fun j => by
    rw [Nat.testBit_div_two_pow, Nat.testBit_div_two_pow]; exact h _ (by omega)
  have h1 : x % 2 ^ (i + 1) < 2 ^ i := Nat.lt_pow_two_of_testBit _ fun j hj => by
    rw [Nat.testBit_mod_two_pow]
    rcases Nat.eq_or_lt_of_le hj with e1 | e1
    · rw [← e1, hx]; simp
    · rw [decide_eq_false (by omega)]; rfl
  have h2 : 2 ^ i ≤ y % 2 ^ (i + 1) := by
    rcases Nat.lt_or_ge (y % 2 ^ (i + 1)) (2 ^ i) with e1 | e1
    · have := Nat.testBit_lt_two_pow e1
      rw [Nat.testBit_mod_two_pow, hy] at this
      simp at this
    · exact e1
  have d1 := Nat.div_add_mod x (2 ^ (i + 1))
  have d2 := Nat.div_add_mod y (2 ^ (i + 1))
  rw [e] at d1
  omega
/-- Whether a list comes ahead of another one as long. -/
def lexB (a b : List Int) : Bool := match (List.range a.length).find? (fun i => !(a[i]?.getD 0 == b[i]?.getD 0)) with | none => false | some i => decide (a[i]?.getD 0 < b[i]?.getD 0)
theorem top_bit_fin : ∀ x y : Fin 64, x.val < y.val → ∃ b : Fin 6, x.val.testBit b.val = false ∧ y.val.testBit b.val = true ∧ ∀ j : Fin 6, b.val < j.val → x.val.testBit j.val = y.val.testBit j.val := by decide +kernel
theorem top_bit {x y : Int} (h0 : 0 ≤ x) (h1 : y < 64) (h : x < y) : ∃ b : Nat, b < 6 ∧ bitB x (b : Int) = false ∧ bitB y (b : Int) = true ∧ ∀ j : Nat, b < j → bitB x (j : Int) = bitB y (j : Int) := by
  obtain ⟨b, e1, e2, e3⟩ := top_bit_fin ⟨x.toNat, by omega⟩ ⟨y.toNat, by omega⟩ (by show x.toNat < y.toNat; omega)
  refine ⟨b.val, b.isLt, e1, e2, fun j hj => ?_⟩
  rcases Nat.lt_or_ge j 6 with hj6 | hj6
  · exact e3 ⟨j, hj6⟩ hj
  · have key : ∀ z : Int, z < 64 → bitB z (j : Int) = false := fun z hz => by
      unfold bitB
      rw [Int.toNat_natCast]
      exact Nat.testBit_lt_two_pow (Nat.lt_of_lt_of_le (show z.toNat < 2 ^ 6 by omega) (Nat.pow_le_pow_right (by decide) hj6))
    rw [key x (by omega), key y h1]
theorem prA_sorted (zs : List Int) : (prA zs).Pairwise fun p q => q.1 < p.1 ∨ (q.1 = p.1 ∧ p.2 < q.2) := by
  unfold prA
  rw [List.pairwise_flatMap]
  refine ⟨fun a _ => ?_, ?_⟩
  · rw [List.pairwise_map]
    exact ((itemsL_sorted (unrI zs a)).filter _).imp fun h => .inr ⟨rfl, h⟩
  · rw [List.pairwise_reverse]
    refine List.pairwise_lt_range.imp fun {a b} hab => ?_
    intro p hp q hq
    simp only [List.mem_map] at hp hq
    obtain ⟨_, _, rfl⟩ := hp
    obtain ⟨_, _, rfl⟩ := hq
    exact .inl hab
theorem lex_choice (h : VoP zs) {S T : List Int} (hS : SideOf zs S) (hT : SideOf zs T) (hl : lexB S T = true) : chC zs S < chC zs T := by
  unfold lexB at hl
  cases e : (List.range S.length).find? (fun i => !(S[i]?.getD 0 == T[i]?.getD 0)) with
  | none => rw [e] at hl; cases hl
  | some k =>
    rw [e] at hl
    have hlt : S[k]?.getD 0 < T[k]?.getD 0 := of_decide_eq_true hl
    rw [List.find?_eq_some_iff_getElem] at e
    obtain ⟨_, k', hk', ek, hbef⟩ := e
    simp only [List.getElem_range] at ek
    subst ek
    rw [List.length_range] at hk'
    have heq : ∀ j, j < k' → S[j]?.getD 0 = T[j]?.getD 0 := fun j hj => by
      have := hbef j hj
      simpa using this
    have hkn : k' < zs.length := by rw [← hS.len]; exact hk'
    have b1 := hS.vo.sets.bd k' hk'
    have b2 := hT.vo.sets.bd k' (by rw [hT.len]; exact hkn)
    obtain ⟨b, hb6, c1, c2, c3⟩ := top_bit b1.1 b2.2 hlt
    have hqT : qB T k' b := c2
    have hu := side_un hT hqT
    have hbn := (q_lt2 hT.vo hqT).2
    rw [hT.len] at hbn
    have hkb : k' < b := by
      rcases Nat.lt_or_ge k' b with h1 | h1
      · exact h1
      · exfalso
        have hne := hu.1
        have hbk : b < k' := by omega
        rcases (hS.iff k' b hkn hbn).2 hu with e1 | e1
        · unfold qB at e1; rw [e1] at c1; cases c1
        · have : qB T b k' := by
            unfold qB at e1 ⊢
            rw [← heq b hbk]; exact e1
          exact side_asym hT.vo hqT this
    obtain ⟨i, hi, ei⟩ := List.getElem_of_mem ((mem_prA h (p := (k', b))).2 ⟨hkb, hbn, hu⟩)
    have gi : (prA zs)[i]?.getD (0, 0) = (k', b) := by rw [List.getElem?_eq_getElem hi, Option.getD_some, ei]
    refine lt_testBit i ?_ ?_ fun j hj => ?_
    · cases hc : (chC zs S).testBit i
      · rfl
      · have := (chC_bit zs S hi).1 hc
        rw [gi] at this
        unfold qB at this
        rw [this] at c1; cases c1
    · exact (chC_bit zs T hi).2 (by rw [gi]; exact hqT)
    · by_cases hjl : j < (prA zs).length
      · have hso := List.pairwise_iff_getElem.1 (prA_sorted zs) i j hi hjl hj
        rw [ei] at hso
        have gj : (prA zs)[j]?.getD (0, 0) = (prA zs)[j] := by rw [List.getElem?_eq_getElem hjl, Option.getD_some]
        have hqq : qB S (prA zs)[j].1 (prA zs)[j].2 ↔ qB T (prA zs)[j].1 (prA zs)[j].2 := by
          unfold qB
          rcases hso with h1 | ⟨h1, h2⟩
          · rw [heq _ h1]
          · rw [h1, c3 _ h2]
        rw [Bool.eq_iff_iff, chC_bit zs S hjl, chC_bit zs T hjl, gj]
        exact hqq
      · rw [Nat.testBit_lt_two_pow (Nat.lt_of_lt_of_le (chC_lt zs S) (Nat.pow_le_pow_right (by decide) (by omega))), Nat.testBit_lt_two_pow (Nat.lt_of_lt_of_le (chC_lt zs T) (Nat.pow_le_pow_right (by decide) (by omega)))]

/-- The least side. -/
def Least (zs T : List Int) : Prop := SideOf zs T ∧ ∀ T', SideOf zs T' → lexB T' T = false
theorem find_first {α β : Type} (f : α → Option β) {l : List α} {b : β} (h : l.findSome? f = some b) : ∃ i, ∃ hi : i < l.length, f l[i] = some b ∧ ∀ j, ∀ hj : j < i, f (l[j]'(by omega)) = none := by
  induction l with
  | nil => simp at h
  | cons x l ih =>
    rw [List.findSome?_cons] at h
    cases e : f x with
    | some y =>
      rw [e] at h
      exact ⟨0, by simp, by simpa using e.trans h, fun j hj => by omega⟩
    | none =>
      rw [e] at h
      obtain ⟨i, hi, e1, e2⟩ := ih h
      refine ⟨i + 1, by simpa using hi, by simpa using e1, fun j hj => ?_⟩
      cases j with
      | zero => simpa using e
      | succ j => simpa using e2 j (by omega)
theorem sdF_some (h : VoP zs) {T : List Int} (e : sdF zs = some T) : Least zs T := by
  obtain ⟨c, hc, e1, e2⟩ := find_first _ e
  simp only [List.getElem_range, List.length_range] at e1 e2 hc
  have hT := (sdC_side h e1).1
  refine ⟨hT, fun T' hT' => ?_⟩
  cases hl : lexB T' T
  · rfl
  · exfalso
    have h1 := lex_choice h hT' hT hl
    rw [chC_of h hc e1] at h1
    have := e2 _ h1
    rw [chC_some h hT'] at this
    cases this
theorem sdF_none (h : VoP zs) (e : sdF zs = none) : ∀ T, ¬ SideOf zs T := fun T hT => by
  unfold sdF at e
  rw [List.findSome?_eq_none_iff] at e
  have := e (chC zs T) (List.mem_range.2 (chC_lt zs T))
  rw [chC_some h hT] at this
  cases this
end
end Go.Proofs.Ytghogabmkbadjaa

/- What LinesOf's own law asks: all lines stand by their ranks. No program. -/
import Derived.Test.YtghogabmkbadjaaTlM
import Derived.Test.YtghogabmkbadjaaRkPos
set_option linter.unusedVariables false
set_option linter.unusedSimpArgs false
namespace Go.Proofs.Ytghogabmkbadjaa

/-- One list stands ahead of another one: at the first place where they differ it has the lesser number. -/
def lexLt (x y : List Int) : Prop := ∃ (so : List Int) (a b : Int) (t u : List Int), x = so ++ a :: t ∧ y = so ++ b :: u ∧ a < b
theorem alG_lex (zs : List Int) : ∀ (k : Nat) (so : List Int) (s : Int), (alG zs k so s).Pairwise lexLt
  | 0, so, s => by rw [alG]; exact List.pairwise_singleton _ _
  | k + 1, so, s => by
    rw [alG]
    unfold List.flatMap
    refine List.pairwise_flatten.2 ⟨fun l hl => ?_, ?_⟩
    · obtain ⟨a, _, rfl⟩ := List.mem_map.1 hl
      split
      · exact alG_lex zs k _ _
      · exact List.Pairwise.nil
    · rw [List.pairwise_map]
      refine List.Pairwise.imp_of_mem (R := (· < ·)) ?_ (List.pairwise_lt_range)
      intro a b _ _ hab x hx y hy
      split at hx
      · split at hy
        · obtain ⟨t, _, e1, _⟩ := (alG_mem zs k _ _ _).1 hx
          obtain ⟨t', _, e2, _⟩ := (alG_mem zs k _ _ _).1 hy
          exact ⟨so, (a : Int), (b : Int), t, t', by rw [e1]; simp, by rw [e2]; simp, by omega⟩
        · cases hy
      · cases hx
theorem doneTo_head (so t u : List Int) : ∀ m : Nat, m ≤ so.length → doneTo (so ++ t) m = doneTo (so ++ u) m
  | 0, _ => rfl
  | m + 1, h => by
    unfold doneTo
    rw [doneTo_head so t u m (by omega), List.getElem?_append_left (by omega), List.getElem?_append_left (by omega)]
theorem rkUp_head (zs so t u : List Int) : ∀ m : Nat, m ≤ so.length → rkUp zs (so ++ t) m = rkUp zs (so ++ u) m
  | 0, _ => rfl
  | m + 1, h => by
    have hd := doneTo_head so t u m (by omega)
    have hi : (so ++ t)[m]?.getD 0 = (so ++ u)[m]?.getD 0 := by rw [List.getElem?_append_left (by omega), List.getElem?_append_left (by omega)]
    rw [rkUp_succ, rkUp_succ, rkUp_head zs so t u m (by omega)]
    unfold dN itN
    rw [hd, hi]
theorem rank_lex {zs x y : List Int} (hv : VoP zs) (hx : lineB zs x = true) (hy : lineB zs y = true) (h : lexLt x y) : rkUp zs x zs.length < rkUp zs y zs.length := by
  obtain ⟨so, a, b, t, u, rfl, rfl, hab⟩ := h
  obtain ⟨hlx, hsx⟩ := line_steps hx
  obtain ⟨hly, hsy⟩ := line_steps hy
  have hm : so.length < zs.length := by rw [List.length_append, List.length_cons] at hlx; omega
  have hax : (so ++ a :: t)[so.length]?.getD 0 = a := by simp
  have hby : (so ++ b :: u)[so.length]?.getD 0 = b := by simp
  have hix := it_is (hsx so.length hm)
  have hiy := it_is (hsy so.length hm)
  have hd : dN (so ++ a :: t) so.length = dN (so ++ b :: u) so.length := by unfold dN; rw [doneTo_head so (a :: t) (b :: u) so.length (Nat.le_refl _)]
  have h1 := line_lt hv hsx (zs.length - (so.length + 1)) (so.length + 1) (by omega)
  have h2 := rkIn_line hv hsx hm
  have h3 := rkUp_succ (zs := zs) (ls := so ++ a :: t) so.length
  have h4 := rkUp_succ (zs := zs) (ls := so ++ b :: u) so.length
  have h5 := rkUp_head zs so (a :: t) (b :: u) so.length (Nat.le_refl _)
  have hlt : itN (so ++ a :: t) so.length + 1 ≤ itN (so ++ b :: u) so.length := by
    have e1 := hix.1
    have e2 := hiy.1
    rw [hax] at e1
    rw [hby] at e2
    omega
  have h6 := rkIn_mono' (zs := zs) (D := dN (so ++ b :: u) so.length) hlt
  have h7 := rkUp_mono' (zs := zs) (ls := so ++ b :: u) (show so.length + 1 ≤ zs.length from hm)
  rw [hd] at h2 h3
  rw [← h5] at h4
  generalize rkIn zs (dN (so ++ b :: u) so.length) (itN (so ++ a :: t) so.length) = p at *
  generalize rkIn zs (dN (so ++ b :: u) so.length) (itN (so ++ b :: u) so.length) = q at *
  omega
/-- The ranks of all lines, in their order. -/
theorem ranks_all {zs : List Int} (hv : VoP zs) : (alL zs).map (fun l => rkUp zs l zs.length) = List.range (cF zs (2 ^ zs.length - 1)) := by
  refine inc_ext _ _ ?_ (range_inc _) fun r => ?_
  · rw [List.pairwise_map]
    refine List.Pairwise.imp_of_mem (R := lexLt) ?_ (alG_lex zs zs.length [] 0)
    intro x y hx hy hl
    exact rank_lex hv ((alL_mem zs x).1 hx) ((alL_mem zs y).1 hy) hl
  · rw [List.mem_map, List.mem_range]
    constructor
    · rintro ⟨l, hl, rfl⟩
      exact (at_rank hv ((alL_mem zs l).1 hl)).1
    · intro hr
      obtain ⟨h1, h2⟩ := rank_at hv hr
      exact ⟨_, (alL_mem zs _).2 h1, h2⟩
/-- Whether one row is less, as the law sees it. -/
def lessRB : List Int → List Int → Bool
  | x :: xs, y :: ys => if x = y then lessRB xs ys else decide (x < y)
  | _, _ => false
theorem lessRB_lex {x y : List Int} (h : lexLt x y) : lessRB x y = true := by
  obtain ⟨so, a, b, t, u, rfl, rfl, hab⟩ := h
  induction so with
  | nil =>
    show (if a = b then lessRB t u else decide (a < b)) = true
    rw [if_neg (by omega)]
    simpa using hab
  | cons c so ih =>
    show (if c = c then lessRB (so ++ a :: t) (so ++ b :: u) else decide (c < c)) = true
    rw [if_pos rfl]
    exact ih
/-- All that the law asks. -/
theorem lines_law {zs : List Int} (hv : VoP zs) : ((alL zs).length : Int) = linesR zs ∧ ∀ (i : Nat) (l : List Int), (alL zs)[i]? = some l → isLineR zs l = true ∧ rankR zs l = (i : Int) ∧ ∀ (j : Nat) (l' : List Int), i = j + 1 → (alL zs)[j]? = some l' → lessRB l' l = true := by
  have hr := ranks_all hv
  have hvb : vo zs = true := by unfold vo; exact decide_eq_true hv
  constructor
  · have h1 := congrArg List.length hr
    rw [List.length_map, List.length_range] at h1
    unfold linesR
    rw [hvb, if_pos rfl, count_both hv, h1]
  · intro i l hl
    have hm := (alL_mem zs l).1 (List.mem_of_getElem? hl)
    have hil := (List.getElem?_eq_some_iff.1 hl).1
    refine ⟨by unfold isLineR; rw [hvb, hm]; rfl, ?_, ?_⟩
    · have h1 := congrArg (fun z => z[i]?) hr
      simp only [List.getElem?_map, hl, Option.map_some] at h1
      have h2 := List.getElem?_eq_some_iff.1 h1.symm
      obtain ⟨h3, h4⟩ := h2
      rw [List.getElem_range] at h4
      unfold rankR isLineR
      rw [hvb, hm, (line_steps hm).1, ← h4]
      rfl
    · rintro j l' rfl hl'
      obtain ⟨hj, ej⟩ := List.getElem?_eq_some_iff.1 hl'
      obtain ⟨hi, ei⟩ := List.getElem?_eq_some_iff.1 hl
      have := List.pairwise_iff_getElem.1 (alG_lex zs zs.length [] 0) j (j + 1) hj hi (by omega)
      refine lessRB_lex ?_
      rw [← ej, ← ei]
      exact this
end Go.Proofs.Ytghogabmkbadjaa

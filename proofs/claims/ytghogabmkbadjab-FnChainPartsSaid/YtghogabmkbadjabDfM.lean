/- The different sets of a list: as both sides tell them (mathematics). No program. -/
import Derived.Test.YtghogabmkbadjabGb
import Derived.Test.YtghogabmkbadjabDfP
set_option linter.unusedVariables false
set_option linter.unusedSimpArgs false
namespace Go.Proofs.Ytghogabmkbadjab

/-! Ascending, each once. -/
theorem sortL_sorted (zs : List Int) : (sortL zs).Pairwise (· ≤ ·) := by
  have h := List.pairwise_mergeSort (le := fun x y : Int => decide (x ≤ y)) (fun a b c h1 h2 => by simp at h1 h2 ⊢; omega) (fun a b => by simp; omega) zs
  exact h.imp (fun h => by simpa using h)
theorem sortL_perm (zs : List Int) : (sortL zs).Perm zs := List.mergeSort_perm _ _
theorem arr_get {zs : List Int} {j : Nat} (hj : j < zs.length) : zs.toArray[j]! = zs[j] := by simp [hj]
theorem compact_asc {zs : List Int} (h : zs.Pairwise (· ≤ ·)) : (Lib.compact zs).Pairwise (· < ·) := by
  unfold Lib.compact Lib.compactUpTo
  rw [List.pairwise_map]
  refine List.Pairwise.imp_of_mem ?_ (List.Pairwise.filter _ (List.pairwise_lt_range (n := zs.length)))
  intro i j hi hj hij
  rw [List.mem_filter, List.mem_range] at hi hj
  have hk := hj.2
  simp only [Lib.keeps, decide_eq_true_eq] at hk
  have hle := List.pairwise_iff_getElem.1 h
  rw [arr_get hi.1, arr_get hj.1]
  rcases hk with hk | hk
  · omega
  · rw [arr_get hj.1, arr_get (show j - 1 < zs.length by omega)] at hk
    have h1 := hle (j - 1) j (by omega) hj.1 (by omega)
    rcases Nat.lt_or_ge i (j - 1) with h2 | h2
    · have h3 := hle i (j - 1) hi.1 (by omega) h2; omega
    · have h3 : i = j - 1 := by omega
      subst h3
      omega
theorem compact_mem {zs : List Int} (y : Int) : y ∈ Lib.compact zs ↔ y ∈ zs := by
  unfold Lib.compact Lib.compactUpTo
  simp only [List.mem_map, List.mem_filter, List.mem_range]
  constructor
  · rintro ⟨j, ⟨hj, _⟩, rfl⟩
    rw [arr_get hj]; exact List.getElem_mem hj
  · intro hy
    have key : ∀ k : Nat, (∃ j, ∃ hj : j < zs.length, j < k ∧ zs[j] = y) → ∃ j, (j < zs.length ∧ Lib.keeps zs.toArray j = true) ∧ zs.toArray[j]! = y := fun k => by
      induction k with
      | zero => rintro ⟨j, _, hj, _⟩; omega
      | succ k ih =>
        rintro ⟨j, hj, hk, e⟩
        by_cases hs : ∃ i, ∃ hi : i < zs.length, i < k ∧ zs[i] = y
        · exact ih hs
        · refine ⟨j, ⟨hj, ?_⟩, by rw [arr_get hj]; exact e⟩
          simp only [Lib.keeps, decide_eq_true_eq]
          rcases Nat.eq_zero_or_pos j with h0 | h0
          · exact .inl h0
          · refine .inr fun e2 => ?_
            rw [arr_get hj, arr_get (show j - 1 < zs.length by omega)] at e2
            exact hs ⟨j - 1, by omega, by omega, by rw [← e2]; exact e⟩
    obtain ⟨j, hj, e⟩ := List.getElem_of_mem hy
    exact key zs.length ⟨j, hj, hj, e⟩
theorem difA_asc (zs : List Int) : (difA zs).Pairwise (· < ·) := compact_asc (sortL_sorted zs)
theorem difA_mem (zs : List Int) (y : Int) : y ∈ difA zs ↔ y ∈ zs := by
  rw [difA_eq, compact_mem]
  exact (sortL_perm zs).mem_iff
theorem difA_nodup (zs : List Int) : (difA zs).Nodup := (difA_asc zs).imp (fun h => by omega)
theorem difA_len (zs : List Int) : (difA zs).length ≤ zs.length := Nat.le_trans (cmp_len _) (Nat.le_of_eq (sortL_len zs))

/-! By falling size, each once, as the model finds them. -/
/-- The place behind the last of the first j that is at least as great. -/
def plTo (out : List Int) (x : Int) : Nat → Nat
  | 0 => 0
  | j + 1 => if popI x ≤ popI (out[j]?.getD 0) then j + 1 else plTo out x j
theorem plTo_le (out : List Int) (x : Int) : ∀ j : Nat, plTo out x j ≤ j
  | 0 => Nat.le_refl _
  | j + 1 => by have := plTo_le out x j; unfold plTo; split <;> omega
theorem plTo_yes {out : List Int} {x : Int} {j : Nat} (h : popI x ≤ popI (out[j]?.getD 0)) : plTo out x (j + 1) = j + 1 := by simp [plTo, h]
theorem plTo_no {out : List Int} {x : Int} {j : Nat} (h : ¬ popI x ≤ popI (out[j]?.getD 0)) : plTo out x (j + 1) = plTo out x j := by simp [plTo, h]
theorem plTo_last (out : List Int) (x : Int) : ∀ j : Nat, (0 < plTo out x j → popI x ≤ popI (out[plTo out x j - 1]?.getD 0)) ∧ ∀ i, plTo out x j ≤ i → i < j → popI (out[i]?.getD 0) < popI x
  | 0 => ⟨fun h => by simp [plTo] at h, fun i _ h => by omega⟩
  | j + 1 => by
    obtain ⟨h1, h2⟩ := plTo_last out x j
    by_cases h : popI x ≤ popI (out[j]?.getD 0)
    · rw [plTo_yes h]; exact ⟨fun _ => by simpa using h, fun i h3 h4 => by omega⟩
    · rw [plTo_no h]
      refine ⟨h1, fun i h3 h4 => ?_⟩
      rcases Nat.lt_or_ge i j with h5 | h5
      · exact h2 i h3 h5
      · have : i = j := by omega
        subst this; omega
def putS (out : List Int) (x : Int) : List Int := out.take (plTo out x out.length) ++ [x] ++ out.drop (plTo out x out.length)
def insS (out : List Int) (x : Int) : List Int := if x ∈ out then out else putS out x
def diS (l : List Int) : List Int := l.foldl insS []
theorem diS_snoc (l : List Int) (x : Int) : diS (l ++ [x]) = insS (diS l) x := by simp [diS]
theorem putS_mem (out : List Int) (x y : Int) : y ∈ putS out x ↔ y ∈ out ∨ y = x := by
  unfold putS
  conv => rhs; rw [← List.take_append_drop (plTo out x out.length) out]
  simp only [List.mem_append, List.mem_singleton]
  constructor
  · rintro ((h | h) | h) <;> simp [h]
  · rintro ((h | h) | h) <;> simp [h]
theorem insS_mem (out : List Int) (x y : Int) : y ∈ insS out x ↔ y ∈ out ∨ y = x := by
  unfold insS
  split
  · rename_i h
    constructor
    · exact .inl
    · rintro (e | rfl)
      · exact e
      · exact h
  · exact putS_mem out x y
theorem putS_perm (out : List Int) (x : Int) : (putS out x).Perm (x :: out) := by
  unfold putS
  have h : (out.take (plTo out x out.length) ++ [x] ++ out.drop (plTo out x out.length)).Perm ([x] ++ (out.take (plTo out x out.length) ++ out.drop (plTo out x out.length))) := by
    rw [← List.append_assoc]
    exact List.Perm.append_right _ List.perm_append_comm
  rwa [List.take_append_drop] at h
theorem insS_nodup {out : List Int} (x : Int) (h : out.Nodup) : (insS out x).Nodup := by
  unfold insS
  split
  · exact h
  · rename_i hn
    exact (putS_perm out x).nodup_iff.2 (List.nodup_cons.2 ⟨hn, h⟩)
abbrev Fall (l : List Int) : Prop := l.Pairwise fun a b => popI b ≤ popI a
theorem putS_fall {out : List Int} (x : Int) (h : Fall out) : Fall (putS out x) := by
  obtain ⟨h1, h2⟩ := plTo_last out x out.length
  have hk := plTo_le out x out.length
  have hp := List.pairwise_iff_getElem.1 h
  unfold Fall putS
  generalize plTo out x out.length = k at *
  have ha : ∀ a ∈ out.take k, popI x ≤ popI a := fun a ha => by
    obtain ⟨i, hi, rfl⟩ := List.getElem_of_mem ha
    rw [List.length_take] at hi
    have h3 := h1 (by omega)
    rw [List.getElem?_eq_getElem (by omega), Option.getD_some] at h3
    rw [List.getElem_take]
    rcases Nat.lt_or_ge i (k - 1) with h4 | h4
    · have := hp i (k - 1) (by omega) (by omega) h4; omega
    · have : i = k - 1 := by omega
      subst this; exact h3
  have hb : ∀ b ∈ out.drop k, popI b < popI x := fun b hb => by
    obtain ⟨i, hi, rfl⟩ := List.getElem_of_mem hb
    rw [List.length_drop] at hi
    have := h2 (k + i) (by omega) (by omega)
    rw [List.getElem?_eq_getElem (by omega), Option.getD_some] at this
    rw [List.getElem_drop]; exact this
  rw [List.pairwise_append, List.pairwise_append]
  refine ⟨⟨h.sublist (List.take_sublist _ _), List.pairwise_singleton _ _, fun a h3 b h4 => ?_⟩, h.sublist (List.drop_sublist _ _), fun a h3 b h4 => ?_⟩
  · rw [List.mem_singleton.1 h4]; exact ha a h3
  · have := hb b h4
    rcases List.mem_append.1 h3 with h5 | h5
    · have := ha a h5; omega
    · rw [List.mem_singleton.1 h5]; omega
theorem diS_all (zs : List Int) : (diS zs).Nodup ∧ Fall (diS zs) ∧ ∀ y, y ∈ diS zs ↔ y ∈ zs := by
  have key : ∀ (l out : List Int), out.Nodup → Fall out → (l.foldl insS out).Nodup ∧ Fall (l.foldl insS out) ∧ ∀ y, y ∈ l.foldl insS out ↔ y ∈ out ∨ y ∈ l := fun l => by
    induction l with
    | nil => intro out h1 h2; exact ⟨h1, h2, fun y => by simp⟩
    | cons x l ih =>
      intro out h1 h2
      have h3 : Fall (insS out x) := by
        unfold insS
        split
        · exact h2
        · exact putS_fall x h2
      obtain ⟨g1, g2, g3⟩ := ih (insS out x) (insS_nodup x h1) h3
      refine ⟨g1, g2, fun y => ?_⟩
      rw [List.foldl_cons, g3, insS_mem, List.mem_cons, or_assoc]
  obtain ⟨h1, h2, h3⟩ := key zs [] List.nodup_nil List.Pairwise.nil
  exact ⟨h1, h2, fun y => by rw [diS, h3]; simp⟩
theorem diS_perm (zs : List Int) : (diS zs).Perm (difA zs) := by
  refine (List.perm_ext_iff_of_nodup (diS_all zs).1 (difA_nodup zs)).2 fun y => ?_
  rw [(diS_all zs).2.2, difA_mem]
theorem diS_len (zs : List Int) : (diS zs).length = (difA zs).length := (diS_perm zs).length_eq
theorem diS_le (zs : List Int) : (diS zs).length ≤ zs.length := by rw [diS_len]; exact difA_len zs

def upsR (zs : List Int) : Int := if vo zs then ((difA zs).length : Int) else -1
def downsR (zs : List Int) : Int := if vo zs then ((difA (du zs)).length : Int) else -1
end Go.Proofs.Ytghogabmkbadjab

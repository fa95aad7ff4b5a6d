/- Next ones that end at an item: as many as the items next below it. No program. -/
import Derived.Test.YtogiooecjfnkcaaGc
import Derived.Test.YtogiooecjfnkcaaCovM
namespace Go.Proofs.Ytogiooecjfnkcaa

/-- How many of the first k rows have i as their second number. -/
def colTo (rs : List (List Int)) (i : Int) : Nat → Nat
  | 0 => 0
  | k + 1 => colTo rs i k + (if (rs[k]?.getD [])[1]?.getD 0 == i then 1 else 0)
theorem colTo_le (rs : List (List Int)) (i : Int) : ∀ k : Nat, colTo rs i k ≤ k
  | 0 => Nat.le_refl _
  | k + 1 => by
    have := colTo_le rs i k
    unfold colTo
    split <;> omega
theorem colTo_take (rs : List (List Int)) (i : Int) : ∀ k : Nat, k ≤ rs.length → colTo rs i k = ((rs.take k).filter fun r => r[1]?.getD 0 == i).length
  | 0, _ => by simp [colTo]
  | k + 1, hk => by
    rw [List.take_succ_eq_append_getElem (by omega), List.filter_append, List.length_append, ← colTo_take rs i k (by omega)]
    show colTo rs i k + (if (rs[k]?.getD [])[1]?.getD 0 == i then 1 else 0) = _
    rw [List.getElem?_eq_getElem (by omega : k < rs.length), Option.getD_some, List.filter_cons]
    split <;> simp
theorem colTo_all (rs : List (List Int)) (i : Int) : colTo rs i rs.length = (rs.filter fun r => r[1]?.getD 0 == i).length := by
  rw [colTo_take rs i _ (Nat.le_refl _), List.take_length]
theorem filter_one (q : Nat → Bool) (i : Nat) : ∀ n : Nat, i < n → ((List.range n).filter fun b => q b && b == i).length = if q i then 1 else 0
  | 0, h => by omega
  | n + 1, h => by
    rw [List.range_succ, List.filter_append, List.length_append, List.filter_cons]
    by_cases e : i = n
    · subst e
      have h0 : (List.range i).filter (fun b => q b && b == i) = [] := by
        rw [List.filter_eq_nil_iff]
        intro b hb
        have : b < i := by simpa using hb
        have hne : ¬ b = i := by omega
        simp [hne]
      rw [h0]
      cases q i <;> simp
    · rw [filter_one q i n (by omega)]
      have hne : ¬ n = i := by omega
      simp [hne]
theorem pairsTo_col {zs : List Int} (h : Sets zs) {i : Nat} (hi : i < zs.length) : ∀ k : Nat, k ≤ zs.length → (((pairsTo zs k).filter (coverB zs)).filter fun p => p.2 == i).length = ((List.range k).filter fun a => covR zs a i).length
  | 0, _ => rfl
  | k + 1, hk => by
    rw [pairsTo_succ, List.filter_append, List.filter_append, List.length_append, pairsTo_col h hi k (by omega), List.range_succ, List.filter_append, List.length_append, List.filter_map, List.filter_map, List.length_map, ← itemsTo_all (h.2 k (by omega)).2 h.1]
    unfold itemsTo
    rw [List.filter_filter, List.filter_filter]
    congr 1
    have h1 := filter_one (fun b => covR zs k b) i zs.length hi
    refine Eq.trans (congrArg List.length (List.filter_congr (q := fun b => covR zs k b && b == i) fun j _ => ?_)) ?_
    · unfold covR upB coverB
      simp only [Function.comp_apply]
      cases bitB (zs[k]?.getD 0) j <;> cases nextB zs k j <;> cases (j == i) <;> rfl
    · rw [h1, List.filter_cons]
      cases covR zs k i <;> rfl
theorem col_pop {zs : List Int} (h : VoP zs) {i : Nat} (hi : i < zs.length) : (colTo (coversR zs) (i : Int) (coversR zs).length : Int) = popI (topsTo zs ((du zs)[i]?.getD 0) zs.length) := by
  have h6 := h.1
  have hT := topsTo_bd zs ((du zs)[i]?.getD 0) zs.length
  have hp := powI_le6 (n := (zs.length : Int)) (by omega)
  rw [popI_items hT.1 (by omega), ← itemsTo_all hT.2 h6, colTo_all, covers_is h, List.filter_map, List.length_map]
  have h1 := pairsTo_col h.sets hi zs.length (Nat.le_refl _)
  have h2 : (((pairsL zs).filter (coverB zs)).filter ((fun r : List Int => r[1]?.getD 0 == (i : Int)) ∘ rowOf)) = (((pairsTo zs zs.length).filter (coverB zs)).filter fun p => p.2 == i) := by
    unfold pairsL
    refine List.filter_congr fun p _ => ?_
    simp only [Function.comp_apply, rowOf]
    rw [Bool.eq_iff_iff]
    simp
    omega
  rw [h2, h1]
  unfold itemsTo
  congr 1
  refine congrArg List.length (List.filter_congr fun a ha => ?_)
  have han : a < zs.length := by simpa using ha
  rw [Bool.eq_iff_iff, topsTo_bit, andI_zero]
  unfold covR upB nextB
  rw [Bool.and_eq_true, List.all_eq_true, du_bit h.sets]
  constructor
  · rintro ⟨h1, h2⟩
    refine ⟨han, h1, fun b hb => ?_⟩
    rw [du_bit h.sets] at hb
    cases e : bitB (zs[a]?.getD 0) b
    · rfl
    · have := h2 b ((mem_itemsL (h.bd a han).2).2 e)
      rw [hb] at this
      cases this
  · rintro ⟨_, h1, h2⟩
    refine ⟨h1, fun x hx => ?_⟩
    cases e : bitB (zs[x]?.getD 0) i
    · rfl
    · have := h2 x (by rw [du_bit h.sets]; exact e)
      rw [(mem_itemsL (h.bd a han).2).1 hx] at this
      cases this
theorem row_at {zs : List Int} (h : VoP zs) {k : Nat} (hk : k < (coversR zs).length) : ∃ a b : Nat, (coversR zs)[k]?.getD [] = [(a : Int), (b : Int)] := by
  obtain ⟨a, b, e, _⟩ := covers_at h hk
  exact ⟨a, b, e⟩
end Go.Proofs.Ytogiooecjfnkcaa

/- The next ones of the order turned round are the next ones the other way round, and as many. No program. -/
import Derived.Test.YtghogabmkbadjabGb
import Derived.Test.YtghogabmkbadjabGa
set_option linter.unusedVariables false
set_option linter.unusedSimpArgs false
namespace Go.Proofs.Ytghogabmkbadjab

theorem nextB_iff {zs : List Int} (h : VoP zs) {a b : Nat} : nextB zs a b = true ↔ ∀ x : Nat, lt zs a x → ¬ lt zs x b := by
  unfold nextB
  rw [List.all_eq_true]
  constructor
  · intro e x h1 h2
    have hb := h.bd a h1.1
    have := e x ((mem_itemsL hb.2).2 h1.2)
    rw [h2.2] at this
    cases this
  · intro e x hx
    by_cases ha : a < zs.length
    · have hb := h.bd a ha
      have hax : lt zs a x := ⟨ha, (mem_itemsL hb.2).1 hx⟩
      cases e2 : bitB (zs[x]?.getD 0) b
      · rfl
      · exact absurd ⟨h.lt_n hax, e2⟩ (e x hax)
    · rw [List.getElem?_eq_none (by omega)] at hx
      have : x ∈ itemsL 0 := hx
      rw [mem_itemsL (by omega), bitB_zero] at this
      cases this
theorem du_next {zs : List Int} (h : VoP zs) (a b : Nat) : nextB (du zs) b a = nextB zs a b := by
  have key : nextB (du zs) b a = true ↔ nextB zs a b = true := by
    rw [nextB_iff (du_vo h), nextB_iff h]
    constructor
    · intro e x h1 h2
      exact e x ((du_lt h x b).2 h2) ((du_lt h a x).2 h1)
    · intro e x h1 h2
      exact e x ((du_lt h a x).1 h2) ((du_lt h x b).1 h1)
  cases e1 : nextB (du zs) b a <;> cases e2 : nextB zs a b <;> simp_all
theorem covers_is {zs : List Int} (h : VoP zs) : coversR zs = ((pairsL zs).filter (coverB zs)).map rowOf := by
  unfold coversR
  rw [vo_true h, ← cov_pairs h.sets]
  rfl
theorem mem_covers {zs : List Int} (h : VoP zs) {r : List Int} : r ∈ coversR zs ↔ ∃ a b : Nat, r = [(a : Int), (b : Int)] ∧ lt zs a b ∧ nextB zs a b = true := by
  rw [covers_is h, List.mem_map]
  constructor
  · rintro ⟨⟨a, b⟩, hp, rfl⟩
    rw [List.mem_filter] at hp
    exact ⟨a, b, rfl, lt_pairs hp.1, hp.2⟩
  · rintro ⟨a, b, rfl, hl, hn⟩
    exact ⟨(a, b), List.mem_filter.2 ⟨pairs_lt h hl, hn⟩, rfl⟩
/-- Each pair of next ones, as it stands: two items, and the other way round next ones of the order turned round. -/
theorem covers_at {zs : List Int} (h : VoP zs) {k : Nat} (hk : k < (coversR zs).length) : ∃ a b : Nat, (coversR zs)[k]?.getD [] = [(a : Int), (b : Int)] ∧ [(b : Int), (a : Int)] ∈ coversR (du zs) := by
  rw [List.getElem?_eq_getElem hk, Option.getD_some]
  obtain ⟨a, b, e, hl, hn⟩ := (mem_covers h).1 (List.getElem_mem hk)
  exact ⟨a, b, e, (mem_covers (du_vo h)).2 ⟨b, a, rfl, (du_lt h a b).2 hl, by rw [du_next h]; exact hn⟩⟩
def covR (zs : List Int) (a b : Nat) : Bool := upB zs a b && nextB zs a b
theorem pairsTo_filter {zs : List Int} (h : Sets zs) : ∀ k : Nat, k ≤ zs.length → ((pairsTo zs k).filter (coverB zs)).length = cl (covR zs) (List.range k) (List.range zs.length)
  | 0, _ => rfl
  | k + 1, hk => by
    rw [pairsTo_succ, List.filter_append, List.length_append, pairsTo_filter h k (by omega)]
    unfold cl
    rw [List.range_succ, List.map_append, List.sum_append, List.filter_map, List.length_map, ← itemsTo_all (h.2 k (by omega)).2 h.1]
    unfold itemsTo
    rw [List.filter_filter]
    simp only [List.map_cons, List.map_nil, List.sum_cons, List.sum_nil, Nat.add_zero]
    congr 1
    refine congrArg List.length (List.filter_congr fun j _ => ?_)
    unfold covR upB coverB
    simp [Bool.and_comm]
theorem covers_cl {zs : List Int} (h : VoP zs) : (coversR zs).length = cl (covR zs) (List.range zs.length) (List.range zs.length) := by
  rw [covers_is h, List.length_map]
  exact pairsTo_filter h.sets _ (Nat.le_refl _)
theorem du_covers {zs : List Int} (h : VoP zs) : (coversR (du zs)).length = (coversR zs).length := by
  rw [covers_cl h, covers_cl (du_vo h), du_len]
  have : covR (du zs) = fun a b : Nat => covR zs b a := by
    funext a b
    unfold covR upB
    rw [du_bit h.sets, du_next h]
  rw [this]
  exact cl_flip (covR zs) _ fun a ha => by
    unfold covR upB
    rw [h.irrB (List.mem_range.1 ha)]
    rfl
end Go.Proofs.Ytghogabmkbadjab

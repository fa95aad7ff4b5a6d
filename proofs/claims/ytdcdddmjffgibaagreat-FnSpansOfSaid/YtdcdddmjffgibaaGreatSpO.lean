/- What the own laws ask of spans: the order of the spans of an order is it; the numbers are few (mathematics). -/
import Derived.Test.YtdcdddmjffgibaaGreatSpI
import Derived.Test.YtdcdddmjffgibaaGreatSoM
set_option linter.unusedVariables false
set_option linter.unusedSimpArgs false
namespace Go.Proofs.YtdcdddmjffgibaaGreat
open Go.RowKit

theorem spR_len (zs : List Int) : (spR zs).length = zs.length := by unfold spR; rw [rwS_len, plR_len, du_len]
theorem las_is (zs : List Int) {i : Nat} (hi : i < zs.length) : (plR (fun x => -popI x) zs)[i]?.getD 0 = (lasR zs i : Int) := by
  rw [plR_get _ hi]
  unfold rkF lasR
  rw [show (fun y => decide (-popI y < -popI (zs[i]?.getD 0))) = (fun u => decide (popI (zs[i]?.getD 0) < popI u)) from funext fun y => by rw [Bool.eq_iff_iff, decide_eq_true_eq, decide_eq_true_eq]; omega]
theorem fir_is (zs : List Int) {i : Nat} (hi : i < zs.length) : (plR popI (du zs))[i]?.getD 0 = (firR zs i : Int) := by
  rw [plR_get _ (by rw [du_len]; exact hi)]
  rfl
theorem spR_row (zs : List Int) {i : Nat} (hi : i < zs.length) : (spR zs)[i]?.getD [] = [(firR zs i : Int), (lasR zs i : Int)] := by
  unfold spR rwS
  rw [List.getElem?_map, List.getElem?_range (by rw [plR_len, du_len]; exact hi)]
  simp only [Option.map_some, Option.getD_some]
  rw [fir_is zs hi, las_is zs hi]
theorem spR_F (zs : List Int) {i : Nat} (hi : i < zs.length) : sF (spR zs) i = (firR zs i : Int) := by unfold sF; rw [spR_row zs hi]; rfl
theorem spR_L (zs : List Int) {i : Nat} (hi : i < zs.length) : sL (spR zs) i = (lasR zs i : Int) := by unfold sL; rw [spR_row zs hi]; rfl
theorem spR_so {zs : List Int} (h : VoP zs) (ht : twoB zs = false) : soB (spR zs) = true := by
  have h6 := h.1
  have hd := difA_len zs
  unfold soB
  rw [Bool.and_eq_true, List.all_eq_true, decide_eq_true_eq, spR_len]
  refine ⟨fun r hr => ?_, h6⟩
  obtain ⟨i, hi, rfl⟩ := List.mem_iff_getElem.1 hr
  rw [spR_len] at hi
  have hrow := spR_row zs hi
  rw [List.getElem?_eq_getElem (by rw [spR_len]; exact hi), Option.getD_some] at hrow
  rw [hrow]
  have hok := span_ok h ht hi
  unfold spanOk inB
  simp
  omega
theorem spR_rows (zs : List Int) : ∀ r ∈ spR zs, r.length ≤ 1048576 := fun r hr => by
  obtain ⟨i, hi, rfl⟩ := List.mem_iff_getElem.1 hr
  have hi' := hi
  rw [spR_len] at hi'
  have hrow := spR_row zs hi'
  rw [List.getElem?_eq_getElem hi, Option.getD_some] at hrow
  rw [hrow]
  simp
theorem spR_back {zs : List Int} (h : VoP zs) (ht : twoB zs = false) : soR (spR zs) = zs := by
  unfold soR
  rw [spR_so h ht, if_pos rfl]
  refine List.ext_getElem? fun i => ?_
  rcases Nat.lt_or_ge i zs.length with hi | hi
  · have e : (soL (spR zs))[i]?.getD 0 = zs[i]?.getD 0 := by
      have hi2 : i < (spR zs).length := by rw [spR_len]; exact hi
      have hb := soTo_bd (spR zs) i (spR zs).length
      refine bitB_ext (by rw [soL_get hi2]; exact hb.1) (h.bd i hi).1 fun j => ?_
      rw [soL_get hi2, Bool.eq_iff_iff, soTo_bit, spR_len]
      constructor
      · rintro ⟨hj, hl⟩
        rw [spR_L zs hi, spR_F zs hj] at hl
        rw [span_lt h ht hi hj, decide_eq_true_eq]
        omega
      · intro hj
        have hjn : j < zs.length := h.lt_n ⟨hi, hj⟩
        rw [span_lt h ht hi hjn, decide_eq_true_eq] at hj
        refine ⟨hjn, ?_⟩
        rw [spR_L zs hi, spR_F zs hjn]
        omega
    rw [List.getElem?_eq_getElem (by rw [soL_len, spR_len]; exact hi), List.getElem?_eq_getElem hi] at e ⊢
    simpa using e
  · rw [List.getElem?_eq_none (by rw [soL_len, spR_len]; exact hi), List.getElem?_eq_none hi]
end Go.Proofs.YtdcdddmjffgibaaGreat

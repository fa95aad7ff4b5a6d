/- What LinesOrder's own law asks. No program. -/
import Derived.Test.YtghogabmkbadjabGxk
import Derived.Test.YtghogabmkbadjabGxb
import Derived.Test.YtghogabmkbadjabGa
set_option linter.unusedVariables false
set_option linter.unusedSimpArgs false
namespace Go.Proofs.Ytghogabmkbadjab

section
variable {n : Nat} {rs : List (List Int)} {r E : List Int}
theorem meN_q (hne : rs ≠ []) {x y : Nat} (hx : x < n) (hy : y < n) : qB (meL n rs) x y ↔ ∀ r ∈ rs, atI r (x : Int) < atI r (y : Int) := by
  unfold qB
  rw [meL_get _ hx, setP_bit]
  unfold behB
  rw [decide_eq_true hy, Bool.true_and, Bool.and_eq_true, List.all_eq_true]
  simp only [decide_eq_true_eq]
  constructor
  · rintro ⟨_, e⟩; exact e
  · intro e
    refine ⟨?_, e⟩
    obtain ⟨r, hr⟩ := List.exists_mem_of_ne_nil rs hne
    have h1 := e r hr
    have : x ≠ y := fun e2 => by subst e2; omega
    simpa using this
theorem meN_vo (hn : n ≤ 6) (hne : rs ≠ []) : VoP (meL n rs) := by
  refine vo_mk (by rw [meL_len]; exact hn) (fun x hx => ?_) (fun x e => ?_) (fun x y z h1 h2 => ?_)
  · rw [meL_len] at hx ⊢; exact meL_bd _ _ _
  · obtain ⟨hx, _⟩ := me_lt e
    obtain ⟨r, hr⟩ := List.exists_mem_of_ne_nil rs hne
    have := (meN_q hne hx hx).1 e r hr; omega
  · obtain ⟨hx, hy⟩ := me_lt h1
    obtain ⟨_, hz⟩ := me_lt h2
    have e1 := (meN_q hne hx hy).1 h1
    have e2 := (meN_q hne hy hz).1 h2
    exact (meN_q hne hx hz).2 fun r hr => by have := e1 r hr; have := e2 r hr; omega
theorem line_mk (hn : n ≤ 6) (h : VoP E) (hl : E.length = n) (hr : lineB (zr n) r = true) (hq : ∀ x y, qB E x y → atI r (x : Int) < atI r (y : Int)) : lineB E r = true := by
  obtain ⟨h1, hs⟩ := zr_steps hr
  refine lineB_yes h1 hl.symm fun k hk => ?_
  have hk1 := hs k hk
  have hi := it_lt hr hk
  have hlow : (lessI ((du E)[(r[k]?.getD 0).toNat]?.getD 0) (doneTo r k) == 0) = true := by
    rw [beq_iff_eq, lessI_none]
    intro j hj
    change bitB ((du E)[itN r k]?.getD 0) j = true at hj
    rw [du_bit h.sets] at hj
    have hjE : j < n := by have := qB_lt hl (a := j) (b := itN r k) hj; omega
    obtain ⟨i, hin, e1, e2⟩ := at_of hn hr hjE
    have h3 := hq j (itN r k) hj
    rw [e2, at_it hr hk] at h3
    exact (done_of (n := n) (fun i hi => hs i (by omega)) j).2 ⟨i, by omega, e1⟩
  unfold stepOk at hk1 ⊢
  rw [Bool.and_eq_true, Bool.and_eq_true] at hk1
  rw [zr_len] at hk1
  rw [hl, hk1.1, hk1.2.1, hlow]
  rfl
theorem one_total (hn : n ≤ 6) (hvo : VoP (meL n rs)) (hne : rs ≠ []) (hE : (meL n rs).length = n) (h1 : rs.length = 1) (hall : ∀ r ∈ rs, lineB (zr n) r = true) : Tot (meL n rs) := by
  refine ⟨hvo, fun x y hx hy hxy => ?_⟩
  rw [hE] at hx hy
  rw [meN_q hne hx hy, meN_q hne hy hx]
  match rs, h1 with
  | [a], _ =>
    have := at_ne hn (hall a (by simp)) hx hy hxy
    simp only [List.mem_singleton, forall_eq]
    omega
theorem filt_mono {α : Type} {p q : α → Bool} (h : ∀ a, p a = true → q a = true) : ∀ l : List α, (l.filter p).length ≤ (l.filter q).length
  | [] => Nat.le_refl _
  | a :: l => by
    have ih := filt_mono h l
    cases hp : p a
    · rw [List.filter_cons_of_neg (by simp [hp])]
      cases hq : q a
      · rw [List.filter_cons_of_neg (by simp [hq])]; exact ih
      · rw [List.filter_cons_of_pos hq, List.length_cons]; omega
    · rw [List.filter_cons_of_pos hp, List.filter_cons_of_pos (h a hp), List.length_cons, List.length_cons]; omega
theorem pop_mono {s t : Int} (hs : 0 ≤ s ∧ s < 64) (ht : 0 ≤ t ∧ t < 64) (h : ∀ j : Nat, bitB s j = true → bitB t j = true) : popI s ≤ popI t := by
  have h1 := popI_items hs.1 hs.2
  have h2 := popI_items ht.1 ht.2
  have h3 : (itemsL s).length ≤ (itemsL t).length := filt_mono (fun j hj => h j hj) (List.range 6)
  omega
theorem popTo_mono {E F : List Int} : ∀ k : Nat, (∀ a, a < k → popI (E[a]?.getD 0) ≤ popI (F[a]?.getD 0)) → popTo E k ≤ popTo F k
  | 0, _ => Int.le_refl _
  | k + 1, h => by
    have ih := popTo_mono k (fun a ha => h a (by omega))
    have := h k (by omega)
    simp only [popTo]
    omega
end

/-- What the law asks of lists that are lines. -/
theorem lo_facts {n : Int} {rs : List (List Int)} (h : lnOk n rs = true) : ∃ N : Nat, n = (N : Int) ∧ N ≤ 6 ∧ 0 < rs.length ∧ (∀ r ∈ rs, r.length = N) ∧ VoP (meL N rs) ∧ lnR n rs = meL N rs ∧ (∀ r ∈ rs, isLineR (meL N rs) r = true) ∧
    lnOk n rs.tail = decide (2 ≤ rs.length) ∧ (2 ≤ rs.length → lnR n rs.tail = meL N rs.tail ∧ countR (meL N rs) ≤ countR (meL N rs.tail)) ∧ (rs.length = 1 → longR (meL N rs) = (N : Int)) ∧ fewLR (meL N rs) ≤ max 1 (rs.length : Int) := by
  have h0 := h
  unfold lnOk at h0
  simp only [Bool.and_eq_true, decide_eq_true_eq, List.all_eq_true] at h0
  obtain ⟨hin, hall, hlen⟩ := h0
  have hb : 0 ≤ n ∧ n ≤ 6 := by unfold inB at hin; simpa using hin
  obtain ⟨N, rfl⟩ := Int.eq_ofNat_of_zero_le hb.1
  rw [Int.toNat_natCast] at hall
  have hn : N ≤ 6 := by omega
  have hne : rs ≠ [] := List.ne_nil_of_length_pos hlen
  have hvo := meN_vo hn hne
  have hE := meL_len N rs
  have hline : ∀ r ∈ rs, lineB (meL N rs) r = true := fun r hr => line_mk hn hvo hE (hall r hr) fun x y hq => by
    obtain ⟨hx, hy⟩ := me_lt hq
    exact (meN_q hne hx hy).1 hq r hr
  have htail : lnOk (N : Int) rs.tail = decide (2 ≤ rs.length) := by
    unfold lnOk
    rw [hin, Bool.true_and, Int.toNat_natCast]
    have : rs.tail.all (lineB (zr N)) = true := List.all_eq_true.2 fun r hr => hall r (List.mem_of_mem_tail hr)
    rw [this, Bool.true_and, List.length_tail, decide_eq_decide]
    omega
  refine ⟨N, rfl, hn, hlen, fun r hr => (zr_steps (hall r hr)).1, hvo, by unfold lnR; rw [h, if_pos rfl, Int.toNat_natCast], fun r hr => by unfold isLineR; rw [vo_true hvo, hline r hr]; rfl, htail, fun h2 => ?_, fun h1 => ?_, ?_⟩
  · have ht : rs.tail ≠ [] := List.ne_nil_of_length_pos (by rw [List.length_tail]; omega)
    have hvt := meN_vo hn ht
    refine ⟨by unfold lnR; rw [htail, decide_eq_true h2, if_pos rfl, Int.toNat_natCast], ?_⟩
    unfold countR
    rw [vo_true hvo, vo_true hvt, if_pos rfl, if_pos rfl, hE, meL_len]
    have hp := powI_le6 (n := (N : Int)) (by omega)
    refine popTo_mono N fun a ha => pop_mono ?_ ?_ fun j hj => ?_
    · have := meL_bd N rs a; omega
    · have := meL_bd N rs.tail a; omega
    · obtain ⟨hx, hy⟩ := me_lt (n := N) (rs := rs) (x := a) (y := j) hj
      exact (meN_q ht hx hy).2 fun r hr => (meN_q hne hx hy).1 hj r (List.mem_of_mem_tail hr)
  · have hT := one_total hn hvo hne hE h1 hall
    have := tot_long hT
    unfold longR
    rw [vo_true hvo, if_pos rfl, this, hE]
  · unfold fewLR
    split
    · have hbd := fw_bd (meL N rs)
      rcases (show rs.length = 1 ∨ rs.length = 2 ∨ 3 ≤ rs.length by omega) with e | e | e
      · have hT := one_total hn hvo hne hE e hall
        have := (fw_one hvo).2 (tot_long hT)
        omega
      · have : fwN (meL N rs) ≤ 2 := by
          rw [fw_le2 hvo, ← two_iff hvo]
          match rs, e with
          | [a, b], _ =>
            exact ⟨a, b, hline a (by simp), hline b (by simp), by rw [hE]⟩
        omega
      · omega
    · omega
end Go.Proofs.Ytghogabmkbadjab

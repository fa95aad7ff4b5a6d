/- Chains and sets apart, as plain mathematics: pairs within a set, the greatest ones, heights and chains. No program. -/
import Derived.Test.YtipdmaggfbfnlaaHgt
import Derived.Test.YtipdmaggfbfnlaaCount
set_option linter.unusedVariables false
set_option linter.unusedSimpArgs false
namespace Go.Proofs.Ytipdmaggfbfnlaa

/-! Pairs of a relation within a list. -/
/-- How many pairs of the list are related. -/
def cl (r : Nat → Nat → Bool) (l m : List Nat) : Nat := (l.map fun a => (m.filter (r a)).length).sum
theorem cl_cons (r : Nat → Nat → Bool) (x : Nat) (m : List Nat) : ∀ l : List Nat, cl r l (x :: m) = (l.filter fun a => r a x).length + cl r l m
  | [] => rfl
  | a :: l => by
    have ih := cl_cons r x m l
    have e1 : cl r (a :: l) (x :: m) = ((x :: m).filter (r a)).length + cl r l (x :: m) := rfl
    have e2 : cl r (a :: l) m = (m.filter (r a)).length + cl r l m := rfl
    rw [e1, e2, ih, List.filter_cons, List.filter_cons]
    cases r a x <;> simp <;> omega
theorem cl_self (r : Nat → Nat → Bool) {x : Nat} {l : List Nat} (hx : r x x = false) : cl r (x :: l) (x :: l) = (l.filter (r x)).length + (l.filter fun a => r a x).length + cl r l l := by
  have h := cl_cons r x l l
  have e1 : cl r (x :: l) (x :: l) = ((x :: l).filter (r x)).length + cl r l (x :: l) := rfl
  rw [e1, h, List.filter_cons, hx]
  simp only [Bool.false_eq_true, if_false]
  omega
theorem two_way (r : Nat → Nat → Bool) (x : Nat) : ∀ l : List Nat, (∀ b ∈ l, r x b = true → r b x = false) →
    (l.filter (r x)).length + (l.filter fun a => r a x).length ≤ l.length ∧ ((l.filter (r x)).length + (l.filter fun a => r a x).length = l.length ↔ ∀ b ∈ l, (r x b || r b x) = true)
  | [], _ => by simp
  | b :: l, h => by
    obtain ⟨h1, h2⟩ := two_way r x l (fun c hc => h c (by simp [hc]))
    have hb := h b (by simp)
    rw [List.filter_cons, List.filter_cons, List.length_cons]
    have hall : (∀ c ∈ b :: l, (r x c || r c x) = true) ↔ (r x b || r b x) = true ∧ ∀ c ∈ l, (r x c || r c x) = true := by simp
    rw [hall, ← h2]
    cases hxb : r x b <;> cases hbx : r b x <;> simp [hxb, hbx] at hb ⊢ <;> omega
theorem cl_all (r : Nat → Nat → Bool) : ∀ l : List Nat, (∀ a ∈ l, r a a = false) → (∀ a ∈ l, ∀ b ∈ l, r a b = true → r b a = false) →
    2 * cl r l l + l.length ≤ l.length * l.length ∧ (2 * cl r l l + l.length = l.length * l.length ↔ l.Pairwise fun a b => (r a b || r b a) = true)
  | [], _, _ => by simp [cl]
  | x :: l, hi, ha => by
    obtain ⟨h1, h2⟩ := cl_all r l (fun a h => hi a (by simp [h])) (fun a h b h' => ha a (by simp [h]) b (by simp [h']))
    obtain ⟨h3, h4⟩ := two_way r x l (fun b hb => ha x (by simp) b (by simp [hb]))
    have e3 : ∀ m : Nat, (m + 1) * (m + 1) = m * m + 2 * m + 1 := fun m => by rw [Nat.add_mul, Nat.mul_add m m 1]; omega
    rw [cl_self r (hi x (by simp)), List.pairwise_cons, List.length_cons, e3, ← h4, ← h2]
    clear e3
    generalize l.length * l.length = q at *
    generalize (l.filter fun a => r a x).length = u at *
    generalize (l.filter (r x)).length = v at *
    generalize cl r l l = c at *
    generalize l.length = m at *
    constructor
    · omega
    · constructor
      · intro h; omega
      · rintro ⟨h5, h6⟩; omega

/-! Sets as lists of their items. -/
theorem popI_len : ∀ k : Fin 64, popI (k.val : Int) = (itemsL (k.val : Int)).length := by decide +kernel
theorem popI_items {s : Int} (h0 : 0 ≤ s) (h1 : s < 64) : popI s = (itemsL s).length := by
  obtain ⟨k, rfl⟩ := Int.eq_ofNat_of_zero_le h0
  exact popI_len ⟨k, by omega⟩
theorem itemsL_and (a s : Int) : itemsL (andI a s) = (itemsL s).filter fun j : Nat => bitB a j := by
  unfold itemsL itemsTo
  rw [List.filter_filter]
  congr 1
  funext j
  rw [bitB_and]
theorem andI_lt {a s : Int} (h0 : 0 ≤ s) (h1 : s < 64) : 0 ≤ andI a s ∧ andI a s < 64 := by
  have : a.toNat &&& s.toNat ≤ s.toNat := Nat.and_le_right
  unfold andI; omega
theorem itemsL_sorted (s : Int) : (itemsL s).Pairwise (· < ·) := by
  unfold itemsL itemsTo
  exact List.Pairwise.filter _ List.pairwise_lt_range
theorem mem_itemsL {s : Int} {j : Nat} (h1 : s < 64) : j ∈ itemsL s ↔ bitB s j = true := by
  unfold itemsL
  rw [mem_itemsTo]
  exact ⟨fun h => h.2, fun h => ⟨bitB_lt (n := 6) (by simpa [powI] using h1) h, h⟩⟩

/-- a is above b, or b above a. -/
def relB (zs : List Int) (a b : Nat) : Bool := bitB (zs[a]?.getD 0) b || bitB (zs[b]?.getD 0) a
/-- Each two items of the set are related. -/
def ChP (zs : List Int) (s : Int) : Prop := (itemsL s).Pairwise fun a b => relB zs a b = true
instance (zs : List Int) (s : Int) : Decidable (ChP zs s) := by unfold ChP; infer_instance
def chB (zs : List Int) (s : Int) : Bool := decide (ChP zs s)
/-- No item of the set has one of the set above. -/
def apB (zs : List Int) (s : Int) : Bool := (itemsL s).all fun a => andI (zs[a]?.getD 0) s == 0
/-- How many pairs are within the set, of the items that have been seen. -/
def pwL (zs : List Int) (s : Int) (l : List Nat) : Int := l.foldl (fun (t : Int) (a : Nat) => t + popI (andI (zs[a]?.getD 0) s)) 0
theorem pwL_snoc (zs : List Int) (s : Int) (l : List Nat) (a : Nat) : pwL zs s (l ++ [a]) = pwL zs s l + popI (andI (zs[a]?.getD 0) s) := by simp [pwL]
theorem pwL_bd (zs : List Int) {s : Int} (h0 : 0 ≤ s) (h1 : s < 64) (l : List Nat) : 0 ≤ pwL zs s l ∧ pwL zs s l ≤ 6 * l.length := by
  have key : ∀ (l : List Nat) (t : Int), t ≤ l.foldl (fun (t : Int) (a : Nat) => t + popI (andI (zs[a]?.getD 0) s)) t ∧ l.foldl (fun (t : Int) (a : Nat) => t + popI (andI (zs[a]?.getD 0) s)) t ≤ t + 6 * l.length := fun l => by
    induction l with
    | nil => intro t; simp
    | cons a l ih =>
      intro t
      have h2 := andI_lt (a := zs[a]?.getD 0) h0 h1
      have h3 := popI_bd h2.1 h2.2
      have h4 := ih (t + popI (andI (zs[a]?.getD 0) s))
      simp only [List.foldl_cons, List.length_cons]
      omega
  have := key l 0
  unfold pwL; omega
theorem pwL_eq (zs : List Int) {s : Int} (h0 : 0 ≤ s) (h1 : s < 64) (l : List Nat) : pwL zs s l = cl (fun a b => bitB (zs[a]?.getD 0) b) l (itemsL s) := by
  have key : ∀ (l : List Nat) (t : Int), l.foldl (fun (t : Int) (a : Nat) => t + popI (andI (zs[a]?.getD 0) s)) t = t + cl (fun a b => bitB (zs[a]?.getD 0) b) l (itemsL s) := fun l => by
    induction l with
    | nil => intro t; simp [cl]
    | cons a l ih =>
      intro t
      have h2 := andI_lt (a := zs[a]?.getD 0) h0 h1
      have h3 := popI_items h2.1 h2.2
      rw [itemsL_and] at h3
      rw [List.foldl_cons, ih, h3]
      simp only [cl, List.map_cons, List.sum_cons]
      omega
  have := key l 0
  unfold pwL; omega
theorem len_items (s : Int) : (itemsL s).length ≤ 6 := Nat.le_trans (List.length_filter_le _ _) (by simp)
theorem VoP.irrB {zs : List Int} (h : VoP zs) {a : Nat} (ha : a < zs.length) : bitB (zs[a]?.getD 0) a = false := by
  have := h.2.1 a ha
  simp [okA] at this
  exact this.2
theorem VoP.asym {zs : List Int} (h : VoP zs) {a b : Nat} (ha : a < zs.length) (hb : bitB (zs[a]?.getD 0) b = true) : bitB (zs[b]?.getD 0) a = false := by
  cases hc : bitB (zs[b]?.getD 0) a with
  | false => rfl
  | true =>
    have hbn := h.lt_n ⟨ha, hb⟩
    exact absurd (h.trans ⟨ha, hb⟩ ⟨hbn, hc⟩) h.irr
theorem pw_chain {zs : List Int} (h : VoP zs) {s : Int} (h0 : 0 ≤ s) (h1 : s < powI zs.length) : (pwL zs s (itemsL s) == (popI s * (popI s - 1)).tdiv 2) = chB zs s := by
  have hpn := powI_le6 (n := (zs.length : Int)) (by have := h.1; omega)
  have hm : ∀ a ∈ itemsL s, a < zs.length := fun a ha => bitB_lt h1 ((mem_itemsL (by omega)).1 ha)
  obtain ⟨h2, h3⟩ := cl_all (fun a b => bitB (zs[a]?.getD 0) b) (itemsL s) (fun a ha => h.irrB (hm a ha)) (fun a ha b _ hb => h.asym (hm a ha) hb)
  have h4 := len_items s
  have e : pwL zs s (itemsL s) = cl (fun a b => bitB (zs[a]?.getD 0) b) (itemsL s) (itemsL s) := pwL_eq zs h0 (by omega) _
  rw [popI_items h0 (by omega), e, Bool.eq_iff_iff, beq_iff_eq, chB, decide_eq_true_eq]
  unfold ChP relB
  rw [← h3]
  generalize cl (fun a b => bitB (zs[a]?.getD 0) b) (itemsL s) (itemsL s) = c at *
  generalize (itemsL s).length = m at *
  have : m = 0 ∨ m = 1 ∨ m = 2 ∨ m = 3 ∨ m = 4 ∨ m = 5 ∨ m = 6 := by omega
  rcases this with rfl | rfl | rfl | rfl | rfl | rfl | rfl <;> simp <;> omega
theorem pw_apart {zs : List Int} {s : Int} (h0 : 0 ≤ s) (h1 : s < 64) : (pwL zs s (itemsL s) == 0) = apB zs s := by
  have key : ∀ m : List Nat, (pwL zs s m.reverse == 0) = m.reverse.all fun a => andI (zs[a]?.getD 0) s == 0 := fun m => by
    induction m with
    | nil => rfl
    | cons a m ih =>
      rw [List.reverse_cons]
      generalize m.reverse = l at *
      have hz : ∀ k : Fin 64, (popI (k.val : Int) == 0) = ((k.val : Int) == 0) := by decide +kernel
      have h2 := andI_lt (a := zs[a]?.getD 0) h0 h1
      have h3 := popI_bd h2.1 h2.2
      have h4 := pwL_bd zs h0 h1 l
      have h5 : (popI (andI (zs[a]?.getD 0) s) == 0) = (andI (zs[a]?.getD 0) s == 0) := by
        obtain ⟨k, hk⟩ := Int.eq_ofNat_of_zero_le h2.1
        have := hz ⟨k, by omega⟩
        rw [hk]; exact this
      rw [pwL_snoc, List.all_append, ← ih, List.all_cons, List.all_nil, Bool.and_true, ← h5, Bool.eq_iff_iff]
      simp only [beq_iff_eq, Bool.and_eq_true]
      omega
  have := key (itemsL s).reverse
  rwa [List.reverse_reverse] at this
end Go.Proofs.Ytipdmaggfbfnlaa

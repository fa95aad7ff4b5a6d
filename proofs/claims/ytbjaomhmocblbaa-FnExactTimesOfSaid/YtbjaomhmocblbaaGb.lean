/- Texts that several claims share, one behind the other. -/
import Derived.Test.YtbjaomhmocblbaaGa
import Derived.Maps.Own
import Derived.Test.YtbjaomhmocblbaaRows
import Derived.ProofKit
import Derived.OpenShut
import Derived.JoinedOf
import Derived.JoinedAt
import Derived.ChangeSlices
import Derived.ChangeSame
import Derived.JoinedCond
/- Chains and sets apart, as plain mathematics: pairs within a set, the greatest ones, heights and chains. No program. -/
namespace Go.Proofs.Ytbjaomhmocblbaa

/-! Pairs of a relation within a list. -/
/-- How many pairs of the list are related. -/
def cl (r : Nat → Nat → Bool) (l m : List Nat) : Nat := (l.map fun a => (m.filter (r a)).length).sum
theorem cl_cons (r : Nat → Nat → Bool) (x : Nat) (m : List Nat) : ∀ l : List Nat, cl r l (x :: m) = (l.filter fun a => r a x).length + cl r l m
  | [] => rfl
  | a :: l => by
    have ih := cl_cons r x m l
    have e1 : cl r (a :: l) (x :: m) = ((x :: m).filter (r a)).length + cl r l (x :: m) := rfl
    have e2 : cl r (a :: l) m = (m.filter (r a)).length + cl r l m := rfl
    rw [e1, e2, ih, List.filter_cons, List.filter_cons]
    cases r a x <;> simp <;> omega
theorem cl_self (r : Nat → Nat → Bool) {x : Nat} {l : List Nat} (hx : r x x = false) : cl r (x :: l) (x :: l) = (l.filter (r x)).length + (l.filter fun a => r a x).length + cl r l l := by
  have h := cl_cons r x l l
  have e1 : cl r (x :: l) (x :: l) = ((x :: l).filter (r x)).length + cl r l (x :: l) := rfl
  rw [e1, h, List.filter_cons, hx]
  simp only [Bool.false_eq_true, if_false]
  omega
theorem two_way (r : Nat → Nat → Bool) (x : Nat) : ∀ l : List Nat, (∀ b ∈ l, r x b = true → r b x = false) →
    (l.filter (r x)).length + (l.filter fun a => r a x).length ≤ l.length ∧ ((l.filter (r x)).length + (l.filter fun a => r a x).length = l.length ↔ ∀ b ∈ l, (r x b || r b x) = true)
  | [], _ => by simp
  | b :: l, h => by
    obtain ⟨h1, h2⟩ := two_way r x l (fun c hc => h c (by simp [hc]))
    have hb := h b (by simp)
    rw [List.filter_cons, List.filter_cons, List.length_cons]
    have hall : (∀ c ∈ b :: l, (r x c || r c x) = true) ↔ (r x b || r b x) = true ∧ ∀ c ∈ l, (r x c || r c x) = true := by simp
    rw [hall, ← h2]
    cases hxb : r x b <;> cases hbx : r b x <;> simp [hxb, hbx] at hb ⊢ <;> omega
theorem cl_all (r : Nat → Nat → Bool) : ∀ l : List Nat, (∀ a ∈ l, r a a = false) → (∀ a ∈ l, ∀ b ∈ l, r a b = true → r b a = false) →
    2 * cl r l l + l.length ≤ l.length * l.length ∧ (2 * cl r l l + l.length = l.length * l.length ↔ l.Pairwise fun a b => (r a b || r b a) = true)
  | [], _, _ => by simp [cl]
  | x :: l, hi, ha => by
    obtain ⟨h1, h2⟩ := cl_all r l (fun a h => hi a (by simp [h])) (fun a h b h' => ha a (by simp [h]) b (by simp [h']))
    obtain ⟨h3, h4⟩ := two_way r x l (fun b hb => ha x (by simp) b (by simp [hb]))
    have e3 : ∀ m : Nat, (m + 1) * (m + 1) = m * m + 2 * m + 1 := fun m => by rw [Nat.add_mul, Nat.mul_add m m 1]; omega
    rw [cl_self r (hi x (by simp)), List.pairwise_cons, List.length_cons, e3, ← h4, ← h2]
    clear e3
    generalize l.length * l.length = q at *
    generalize (l.filter fun a => r a x).length = u at *
    generalize (l.filter (r x)).length = v at *
    generalize cl r l l = c at *
    generalize l.length = m at *
    constructor
    · omega
    · constructor
      · intro h; omega
      · rintro ⟨h5, h6⟩; omega

/-! Sets as lists of their items. -/
theorem popI_len : ∀ k : Fin 64, popI (k.val : Int) = (itemsL (k.val : Int)).length := by decide +kernel
theorem popI_items {s : Int} (h0 : 0 ≤ s) (h1 : s < 64) : popI s = (itemsL s).length := by
  obtain ⟨k, rfl⟩ := Int.eq_ofNat_of_zero_le h0
  exact popI_len ⟨k, by omega⟩
theorem itemsL_and (a s : Int) : itemsL (andI a s) = (itemsL s).filter fun j : Nat => bitB a j := by
  unfold itemsL itemsTo
  rw [List.filter_filter]
  congr 1
  funext j
  rw [bitB_and]
theorem andI_lt {a s : Int} (h0 : 0 ≤ s) (h1 : s < 64) : 0 ≤ andI a s ∧ andI a s < 64 := by
  have : a.toNat &&& s.toNat ≤ s.toNat := Nat.and_le_right
  unfold andI; omega
theorem itemsL_sorted (s : Int) : (itemsL s).Pairwise (· < ·) := by
  unfold itemsL itemsTo
  exact List.Pairwise.filter _ List.pairwise_lt_range
theorem mem_itemsL {s : Int} {j : Nat} (h1 : s < 64) : j ∈ itemsL s ↔ bitB s j = true := by
  unfold itemsL
  rw [mem_itemsTo]
  exact ⟨fun h => h.2, fun h => ⟨bitB_lt (n := 6) (by simpa [powI] using h1) h, h⟩⟩

/-- a is above b, or b above a. -/
def relB (zs : List Int) (a b : Nat) : Bool := bitB (zs[a]?.getD 0) b || bitB (zs[b]?.getD 0) a
/-- Each two items of the set are related. -/
def ChP (zs : List Int) (s : Int) : Prop := (itemsL s).Pairwise fun a b => relB zs a b = true
instance (zs : List Int) (s : Int) : Decidable (ChP zs s) := by unfold ChP; infer_instance
def chB (zs : List Int) (s : Int) : Bool := decide (ChP zs s)
/-- No item of the set has one of the set above. -/
def apB (zs : List Int) (s : Int) : Bool := (itemsL s).all fun a => andI (zs[a]?.getD 0) s == 0
/-- How many pairs are within the set, of the items that have been seen. -/
def pwL (zs : List Int) (s : Int) (l : List Nat) : Int := l.foldl (fun (t : Int) (a : Nat) => t + popI (andI (zs[a]?.getD 0) s)) 0
theorem pwL_snoc (zs : List Int) (s : Int) (l : List Nat) (a : Nat) : pwL zs s (l ++ [a]) = pwL zs s l + popI (andI (zs[a]?.getD 0) s) := by simp [pwL]
theorem pwL_bd (zs : List Int) {s : Int} (h0 : 0 ≤ s) (h1 : s < 64) (l : List Nat) : 0 ≤ pwL zs s l ∧ pwL zs s l ≤ 6 * l.length := by
  have key : ∀ (l : List Nat) (t : Int), t ≤ l.foldl (fun (t : Int) (a : Nat) => t + popI (andI (zs[a]?.getD 0) s)) t ∧ l.foldl (fun (t : Int) (a : Nat) => t + popI (andI (zs[a]?.getD 0) s)) t ≤ t + 6 * l.length := fun l => by
    induction l with
    | nil => intro t; simp
    | cons a l ih =>
      intro t
      have h2 := andI_lt (a := zs[a]?.getD 0) h0 h1
      have h3 := popI_bd h2.1 h2.2
      have h4 := ih (t + popI (andI (zs[a]?.getD 0) s))
      simp only [List.foldl_cons, List.length_cons]
      omega
  have := key l 0
  unfold pwL; omega
theorem pwL_eq (zs : List Int) {s : Int} (h0 : 0 ≤ s) (h1 : s < 64) (l : List Nat) : pwL zs s l = cl (fun a b => bitB (zs[a]?.getD 0) b) l (itemsL s) := by
  have key : ∀ (l : List Nat) (t : Int), l.foldl (fun (t : Int) (a : Nat) => t + popI (andI (zs[a]?.getD 0) s)) t = t + cl (fun a b => bitB (zs[a]?.getD 0) b) l (itemsL s) := fun l => by
    induction l with
    | nil => intro t; simp [cl]
    | cons a l ih =>
      intro t
      have h2 := andI_lt (a := zs[a]?.getD 0) h0 h1
      have h3 := popI_items h2.1 h2.2
      rw [itemsL_and] at h3
      rw [List.foldl_cons, ih, h3]
      simp only [cl, List.map_cons, List.sum_cons]
      omega
  have := key l 0
  unfold pwL; omega
theorem len_items (s : Int) : (itemsL s).length ≤ 6 := Nat.le_trans (List.length_filter_le _ _) (by simp)
theorem VoP.irrB {zs : List Int} (h : VoP zs) {a : Nat} (ha : a < zs.length) : bitB (zs[a]?.getD 0) a = false := by
  have := h.2.1 a ha
  simp [okA] at this
  exact this.2
theorem VoP.asym {zs : List Int} (h : VoP zs) {a b : Nat} (ha : a < zs.length) (hb : bitB (zs[a]?.getD 0) b = true) : bitB (zs[b]?.getD 0) a = false := by
  cases hc : bitB (zs[b]?.getD 0) a with
  | false => rfl
  | true =>
    have hbn := h.lt_n ⟨ha, hb⟩
    exact absurd (h.trans ⟨ha, hb⟩ ⟨hbn, hc⟩) h.irr
theorem pw_chain {zs : List Int} (h : VoP zs) {s : Int} (h0 : 0 ≤ s) (h1 : s < powI zs.length) : (pwL zs s (itemsL s) == (popI s * (popI s - 1)).tdiv 2) = chB zs s := by
  have hpn := powI_le6 (n := (zs.length : Int)) (by have := h.1; omega)
  have hm : ∀ a ∈ itemsL s, a < zs.length := fun a ha => bitB_lt h1 ((mem_itemsL (by omega)).1 ha)
  obtain ⟨h2, h3⟩ := cl_all (fun a b => bitB (zs[a]?.getD 0) b) (itemsL s) (fun a ha => h.irrB (hm a ha)) (fun a ha b _ hb => h.asym (hm a ha) hb)
  have h4 := len_items s
  have e : pwL zs s (itemsL s) = cl (fun a b => bitB (zs[a]?.getD 0) b) (itemsL s) (itemsL s) := pwL_eq zs h0 (by omega) _
  rw [popI_items h0 (by omega), e, Bool.eq_iff_iff, beq_iff_eq, chB, decide_eq_true_eq]
  unfold ChP relB
  rw [← h3]
  generalize cl (fun a b => bitB (zs[a]?.getD 0) b) (itemsL s) (itemsL s) = c at *
  generalize (itemsL s).length = m at *
  have : m = 0 ∨ m = 1 ∨ m = 2 ∨ m = 3 ∨ m = 4 ∨ m = 5 ∨ m = 6 := by omega
  rcases this with rfl | rfl | rfl | rfl | rfl | rfl | rfl <;> simp <;> omega
theorem pw_apart {zs : List Int} {s : Int} (h0 : 0 ≤ s) (h1 : s < 64) : (pwL zs s (itemsL s) == 0) = apB zs s := by
  have key : ∀ m : List Nat, (pwL zs s m.reverse == 0) = m.reverse.all fun a => andI (zs[a]?.getD 0) s == 0 := fun m => by
    induction m with
    | nil => rfl
    | cons a m ih =>
      rw [List.reverse_cons]
      generalize m.reverse = l at *
      have hz : ∀ k : Fin 64, (popI (k.val : Int) == 0) = ((k.val : Int) == 0) := by decide +kernel
      have h2 := andI_lt (a := zs[a]?.getD 0) h0 h1
      have h3 := popI_bd h2.1 h2.2
      have h4 := pwL_bd zs h0 h1 l
      have h5 : (popI (andI (zs[a]?.getD 0) s) == 0) = (andI (zs[a]?.getD 0) s == 0) := by
        obtain ⟨k, hk⟩ := Int.eq_ofNat_of_zero_le h2.1
        have := hz ⟨k, by omega⟩
        rw [hk]; exact this
      rw [pwL_snoc, List.all_append, ← ih, List.all_cons, List.all_nil, Bool.and_true, ← h5, Bool.eq_iff_iff]
      simp only [beq_iff_eq, Bool.and_eq_true]
      omega
  have := key (itemsL s).reverse
  rwa [List.reverse_reverse] at this
end Go.Proofs.Ytbjaomhmocblbaa

/- The greatest chain has as many items as the greatest height tells; chains and levels counted. No program. -/
namespace Go.Proofs.Ytbjaomhmocblbaa

/-- The greatest size of the sets less than k that are counted. -/
def grTo (p : Int → Bool) : Nat → Int
  | 0 => 0
  | k + 1 => if p (k : Int) then max (grTo p k) (popI (k : Int)) else grTo p k
theorem grTo_nn (p : Int → Bool) : ∀ k : Nat, 0 ≤ grTo p k
  | 0 => Int.le_refl _
  | k + 1 => by have := grTo_nn p k; unfold grTo; split <;> omega
theorem grTo_bd (p : Int → Bool) : ∀ k : Nat, k ≤ 64 → grTo p k ≤ 6
  | 0, _ => by simp [grTo]
  | k + 1, h => by
    have h1 := grTo_bd p k (by omega)
    have h2 := popI_bd (s := (k : Int)) (by omega) (by omega)
    unfold grTo; split <;> omega
theorem grTo_ge {p : Int → Bool} {j : Nat} (hp : p (j : Int) = true) : ∀ k : Nat, j < k → popI (j : Int) ≤ grTo p k
  | 0, h => by omega
  | k + 1, h => by
    rcases Nat.lt_or_ge j k with h1 | h1
    · have := grTo_ge hp k h1
      unfold grTo; split <;> omega
    · obtain rfl : j = k := by omega
      unfold grTo; rw [if_pos hp]; omega
theorem grTo_le {p : Int → Bool} {m : Int} (h0 : 0 ≤ m) : ∀ k : Nat, (∀ j : Nat, j < k → p (j : Int) = true → popI (j : Int) ≤ m) → grTo p k ≤ m
  | 0, _ => by simpa [grTo] using h0
  | k + 1, h => by
    have h1 := grTo_le h0 k (fun j hj => h j (by omega))
    unfold grTo
    split
    · rename_i hp; have := h k (by omega) hp; omega
    · exact h1

theorem pigeon1 (k : Nat) : ∀ l : List Nat, l.Pairwise (· ≠ ·) → l.length ≤ (l.filter (· != k)).length + 1
  | [], _ => by simp
  | x :: l, h => by
    rw [List.pairwise_cons] at h
    have ih := pigeon1 k l h.2
    rw [List.filter_cons]
    by_cases hx : x = k
    · subst hx
      have e : l.filter (· != x) = l := List.filter_eq_self.2 fun y hy => by simpa using (fun e => h.1 y hy e.symm : ¬ y = x)
      simp [e]
    · simp [hx]; omega
theorem pigeon : ∀ (k : Nat) (l : List Nat), l.Pairwise (· ≠ ·) → (∀ x ∈ l, x < k) → l.length ≤ k
  | 0, l, _, h => by
    cases l with
    | nil => simp
    | cons x l => have := h x (by simp); omega
  | k + 1, l, hp, h => by
    have h1 := pigeon1 k l hp
    have h2 := pigeon k (l.filter (· != k)) (hp.filter _) (fun x hx => by
      have := List.mem_filter.1 hx
      have h3 := h x this.1
      have h4 : x ≠ k := by simpa using this.2
      omega)
    omega

theorem ChP_iff {zs : List Int} {s : Int} (h1 : s < 64) : ChP zs s ↔ ∀ a b : Nat, bitB s a = true → bitB s b = true → a < b → relB zs a b = true := by
  constructor
  · intro h a b ha hb hab
    have hs := itemsL_sorted s
    obtain ⟨i, hi, rfl⟩ := List.getElem_of_mem ((mem_itemsL h1).2 ha)
    obtain ⟨j, hj, rfl⟩ := List.getElem_of_mem ((mem_itemsL h1).2 hb)
    have hij : i < j := by
      rcases Nat.lt_or_ge i j with h2 | h2
      · exact h2
      · rcases Nat.lt_or_ge j i with h3 | h3
        · have := List.pairwise_iff_getElem.1 hs j i hj hi h3; omega
        · have : i = j := by omega
          subst this; omega
    exact List.pairwise_iff_getElem.1 h i j hi hj hij
  · intro h
    exact (itemsL_sorted s).imp_of_mem fun ha hb hab => h _ _ ((mem_itemsL h1).1 ha) ((mem_itemsL h1).1 hb) hab

/-- One more than the greatest height. -/
def longI (zs : List Int) : Int := maxL (hgt zs) (List.range zs.length)
theorem longI_nn (zs : List Int) : 0 ≤ longI zs := (maxL_ge _ _).1
theorem longI_bd {zs : List Int} (h : VoP zs) : longI zs ≤ zs.length := by
  rcases maxL_eq (hgt zs) (List.range zs.length) with e | ⟨a, ha, e⟩
  · unfold longI; omega
  · have := hgt_bd h (List.mem_range.1 ha)
    unfold longI; omega
theorem longI_gt {zs : List Int} {a : Nat} (ha : a < zs.length) : hgt zs a + 1 ≤ longI zs := (maxL_ge (hgt zs) (List.range zs.length)).2 a (List.mem_range.2 ha)

theorem chain_le {zs : List Int} (h : VoP zs) {s : Int} (h0 : 0 ≤ s) (h1 : s < powI zs.length) (hc : chB zs s = true) : popI s ≤ longI zs := by
  have hpn := powI_le6 (n := (zs.length : Int)) (by have := h.1; omega)
  have hm : ∀ a ∈ itemsL s, a < zs.length := fun a ha => bitB_lt h1 ((mem_itemsL (by omega)).1 ha)
  have hC : ChP zs s := by simpa [chB] using hc
  have hp : ((itemsL s).map fun a => (hgt zs a).toNat).Pairwise (· ≠ ·) := by
    rw [List.pairwise_map]
    refine List.Pairwise.imp_of_mem ?_ hC
    intro a b ha hb hr he
    have hna := hgt_nn zs a
    have hnb := hgt_nn zs b
    simp only [relB, Bool.or_eq_true] at hr
    rcases hr with hr | hr
    · have := hgt_up h ⟨hm a ha, hr⟩; omega
    · have := hgt_up h ⟨hm b hb, hr⟩; omega
  have hk := pigeon (longI zs).toNat _ hp (fun x hx => by
    obtain ⟨a, ha, rfl⟩ := List.mem_map.1 hx
    have h2 := longI_gt (zs := zs) (hm a ha)
    have h3 := hgt_nn zs a
    show (hgt zs a).toNat < _
    omega)
  rw [List.length_map] at hk
  have := longI_nn zs
  rw [popI_items h0 (by omega)]
  omega

theorem popI_or_fin : ∀ k : Fin 64, ∀ j : Fin 6, bitB (k.val : Int) (j.val : Int) = false → popI (orI (k.val : Int) (powI (j.val : Int))) = popI (k.val : Int) + 1 := by decide +kernel
theorem popI_or {s : Int} {j : Nat} (h0 : 0 ≤ s) (h1 : s < 64) (hj : j < 6) (hb : bitB s j = false) : popI (orI s (powI j)) = popI s + 1 := by
  obtain ⟨k, rfl⟩ := Int.eq_ofNat_of_zero_le h0
  exact popI_or_fin ⟨k, by omega⟩ ⟨j, hj⟩ hb
theorem popI_pow_fin : ∀ j : Fin 6, popI (powI (j.val : Int)) = 1 := by decide +kernel

/-- Under each item there is a chain as long as its height tells. -/
theorem chain_ex {zs : List Int} (h : VoP zs) : ∀ (m b : Nat), b < zs.length → hgt zs b = m →
    ∃ s, 0 ≤ s ∧ s < powI zs.length ∧ ChP zs s ∧ popI s = m + 1 ∧ (∀ c : Nat, bitB s c = true → c = b ∨ lt zs c b)
  | 0, b, hb, hm => by
    have h6 := h.1
    refine ⟨powI b, Int.le_of_lt (powI_pos _), powI_lt hb, ?_, by have := popI_pow_fin ⟨b, by omega⟩; simpa using this, fun c hc => ?_⟩
    · have hp6 := powI_lt (k := b) (n := 6) (by omega)
      rw [ChP_iff (by simpa [powI] using hp6)]
      intro a c ha hc hac
      rw [bitB_pow] at ha hc
      have := of_decide_eq_true ha
      have := of_decide_eq_true hc
      omega
    · rw [bitB_pow] at hc
      exact .inl (of_decide_eq_true hc).symm
  | m + 1, b, hb, hm => by
    have h6 := h.1
    have hpn := powI_le6 (n := (zs.length : Int)) (by omega)
    rcases hgt_eq h hb with e | ⟨a, hl, e⟩
    · omega
    · obtain ⟨s, hs0, hs1, hC, hp, hall⟩ := chain_ex h m a hl.1 (by omega)
      have hnb : bitB s b = false := by
        cases hc : bitB s b with
        | false => rfl
        | true =>
          rcases hall b hc with rfl | h2
          · exact absurd hl h.irr
          · exact absurd (h.trans hl h2) h.irr
      have hlb : ∀ c : Nat, bitB s c = true → lt zs c b := fun c hc => by
        rcases hall c hc with rfl | h2
        · exact hl
        · exact h.trans h2 hl
      have hob := orI_bd (n := (zs.length : Int)) hs0 hs1 (Int.le_of_lt (powI_pos _)) (powI_lt hb)
      refine ⟨orI s (powI b), hob.1, hob.2, ?_, by rw [popI_or hs0 (by omega) (by omega) hnb, hp]; omega, fun c hc => ?_⟩
      · rw [ChP_iff (by omega)]
        intro x y hx hy hxy
        rw [bitB_or, bitB_pow] at hx hy
        simp only [Bool.or_eq_true, decide_eq_true_eq] at hx hy
        unfold relB
        rcases hx with hx | rfl <;> rcases hy with hy | rfl
        · exact (ChP_iff (by omega)).1 hC x y hx hy hxy
        · simp [(hlb x hx).2]
        · simp [(hlb y hy).2]
        · omega
      · rw [bitB_or, bitB_pow] at hc
        simp only [Bool.or_eq_true, decide_eq_true_eq] at hc
        rcases hc with hc | rfl
        · exact .inr (hlb c hc)
        · exact .inl rfl

/-- How many sets there are. -/
def setsN (zs : List Int) : Nat := 2 ^ zs.length
theorem setsN_pow (zs : List Int) : powI zs.length = (setsN zs : Int) := by simp [powI, setsN]
theorem gr_long {zs : List Int} (h : VoP zs) : grTo (chB zs) (setsN zs) = longI zs := by
  have hN := setsN_pow zs
  have hle : grTo (chB zs) (setsN zs) ≤ longI zs := grTo_le (longI_nn zs) _ (fun j hj hp => chain_le h (by omega) (by omega) hp)
  have hge : longI zs ≤ grTo (chB zs) (setsN zs) := by
    rcases maxL_eq (hgt zs) (List.range zs.length) with e | ⟨a, ha, e⟩
    · have := grTo_nn (chB zs) (setsN zs); unfold longI; omega
    · have hnn := hgt_nn zs a
      obtain ⟨s, hs0, hs1, hC, hp, -⟩ := chain_ex h (hgt zs a).toNat a (List.mem_range.1 ha) (by omega)
      obtain ⟨k, rfl⟩ := Int.eq_ofNat_of_zero_le hs0
      have := grTo_ge (p := chB zs) (j := k) (by simpa [chB] using hC) (setsN zs) (by omega)
      unfold longI; omega
  omega

/-- How many of the sets less than k of each size are counted. -/
def cntTo (p : Int → Bool) (len : Nat) : Nat → List Int
  | 0 => List.replicate len 0
  | k + 1 => if p (k : Int) then (cntTo p len k).set (popI (k : Int)).toNat ((cntTo p len k)[(popI (k : Int)).toNat]?.getD 0 + 1) else cntTo p len k
theorem cntTo_len (p : Int → Bool) (len : Nat) : ∀ k : Nat, (cntTo p len k).length = len
  | 0 => by simp [cntTo]
  | k + 1 => by unfold cntTo; split <;> simp [cntTo_len p len k]
theorem cntTo_bd (p : Int → Bool) (len : Nat) : ∀ (k i : Nat), 0 ≤ (cntTo p len k)[i]?.getD 0 ∧ (cntTo p len k)[i]?.getD 0 ≤ k
  | 0, i => by
    have : (List.replicate len (0 : Int))[i]?.getD 0 = 0 := by by_cases h : i < len <;> simp [h]
    simp [cntTo, this]
  | k + 1, i => by
    have h1 := cntTo_bd p len k i
    have h2 := cntTo_bd p len k (popI (k : Int)).toNat
    unfold cntTo
    split
    · by_cases hi : (popI (k : Int)).toNat = i
      · subst hi
        by_cases hl : (popI (k : Int)).toNat < (cntTo p len k).length
        · rw [List.getElem?_set_self hl]; simp only [Option.getD_some]; omega
        · rw [List.set_eq_of_length_le (by omega)]; omega
      · rw [List.getElem?_set_ne hi]; omega
    · omega
theorem cntTo_take (p : Int → Bool) {len m : Nat} (hm : m ≤ len) : ∀ k : Nat, (∀ j : Nat, j < k → p (j : Int) = true → (popI (j : Int)).toNat < m) → (cntTo p len k).take m = cntTo p m k
  | 0, _ => by simp [cntTo, List.take_replicate, hm]
  | k + 1, h => by
    have ih := cntTo_take p hm k (fun j hj => h j (by omega))
    unfold cntTo
    split
    · rename_i hp
      have hlt := h k (by omega) hp
      rw [List.take_set, ih, ← ih, List.getElem?_take_of_lt hlt]
    · exact ih
/-- How many chains of each size there are. -/
def chainsR (zs : List Int) : List Int := if vo zs then cntTo (chB zs) ((longI zs).toNat + 1) (setsN zs) else []
theorem chains_take {zs : List Int} (h : VoP zs) : (cntTo (chB zs) (zs.length + 1) (setsN zs)).take ((longI zs).toNat + 1) = cntTo (chB zs) ((longI zs).toNat + 1) (setsN zs) := by
  have hN := setsN_pow zs
  have hb := longI_bd h
  have hn := longI_nn zs
  exact cntTo_take _ (by omega) _ (fun j hj hp => by
    have := chain_le h (s := (j : Int)) (by omega) (by omega) hp
    omega)

/-- The items less than k of each height. -/
def lvTo (zs : List Int) : Nat → List Int
  | 0 => List.replicate (longI zs).toNat 0
  | k + 1 => (lvTo zs k).set (hgt zs k).toNat (orI ((lvTo zs k)[(hgt zs k).toNat]?.getD 0) (powI k))
theorem lvTo_len (zs : List Int) : ∀ k : Nat, (lvTo zs k).length = (longI zs).toNat
  | 0 => by simp [lvTo]
  | k + 1 => by simp [lvTo, lvTo_len zs k]
theorem lvTo_bd (zs : List Int) : ∀ (k i : Nat), 0 ≤ (lvTo zs k)[i]?.getD 0 ∧ (lvTo zs k)[i]?.getD 0 < powI k
  | 0, i => by
    have : (List.replicate (longI zs).toNat (0 : Int))[i]?.getD 0 = 0 := by by_cases h : i < (longI zs).toNat <;> simp [h]
    simp [lvTo, this, powI]
  | k + 1, i => by
    have h1 := lvTo_bd zs k i
    have h2 := lvTo_bd zs k (hgt zs k).toNat
    have hp : powI (k : Int) < powI ((k + 1 : Nat) : Int) := powI_lt (by omega)
    unfold lvTo
    by_cases hi : (hgt zs k).toNat = i
    · subst hi
      by_cases hl : (hgt zs k).toNat < (lvTo zs k).length
      · rw [List.getElem?_set_self hl]
        exact orI_bd h2.1 (by omega) (Int.le_of_lt (powI_pos _)) hp
      · rw [List.set_eq_of_length_le (by omega)]; omega
    · rw [List.getElem?_set_ne hi]; omega
def levelsR (zs : List Int) : List Int := if vo zs then lvTo zs zs.length else []
end Go.Proofs.Ytbjaomhmocblbaa

/- The order turned round, as plain mathematics: chains, sets apart and pairs of it are as many. No program. -/
namespace Go.Proofs.Ytbjaomhmocblbaa

/-- The order turned round. -/
def du (zs : List Int) : List Int := downP zs.length (pairsL zs)
theorem du_len (zs : List Int) : (du zs).length = zs.length := downP_len _ _
theorem du_bit {zs : List Int} (h : Sets zs) (a b : Nat) : bitB ((du zs)[b]?.getD 0) a = bitB (zs[a]?.getD 0) b := by
  have hn : ∀ p ∈ pairsL zs, p.2 < zs.length := fun p hp => (h.pair (a := p.1) (b := p.2) hp).2.1
  have key : bitB ((du zs)[b]?.getD 0) a = true ↔ bitB (zs[a]?.getD 0) b = true := by
    unfold du
    rw [downP_bit hn, mem_pairsL]
    constructor
    · exact fun e => e.2.2
    · intro e
      have ha : a < zs.length := by
        rcases Nat.lt_or_ge a zs.length with h1 | h1
        · exact h1
        · rw [List.getElem?_eq_none (by omega), Option.getD_none, bitB_zero] at e; cases e
      have hb := bitB_lt (h.2 a ha).2 e
      have := h.1
      exact ⟨ha, by omega, e⟩
  cases h1 : bitB ((du zs)[b]?.getD 0) a <;> cases h2 : bitB (zs[a]?.getD 0) b <;> simp_all
theorem du_sets {zs : List Int} (h : Sets zs) : Sets (du zs) := down_sets h
theorem du_lt {zs : List Int} (h : VoP zs) (a b : Nat) : lt (du zs) b a ↔ lt zs a b := by
  unfold lt
  rw [du_bit h.sets, du_len]
  constructor
  · rintro ⟨_, e⟩
    refine ⟨?_, e⟩
    rcases Nat.lt_or_ge a zs.length with h1 | h1
    · exact h1
    · rw [List.getElem?_eq_none (by omega), Option.getD_none, bitB_zero] at e; cases e
  · rintro ⟨ha, e⟩
    exact ⟨bitB_lt (h.sets.2 a ha).2 e, e⟩
theorem du_vo {zs : List Int} (h : VoP zs) : VoP (du zs) := by
  have hs := du_sets h.sets
  refine ⟨hs.1, fun a ha => ?_, fun a ha b hb => ?_⟩
  · have h1 := hs.2 a ha
    have h2 : bitB ((du zs)[a]?.getD 0) a = false := by
      rw [du_bit h.sets]
      cases e : bitB (zs[a]?.getD 0) a
      · rfl
      · exact absurd ⟨by rw [du_len] at ha; exact ha, e⟩ (h.irr (a := a))
    unfold okA inB
    rw [h2]
    simp only [Bool.not_false, Bool.and_true, decide_eq_true_eq]
    omega
  · unfold okP
    cases e : bitB ((du zs)[a]?.getD 0) b
    · rfl
    · have hab : lt zs b a := (du_lt h b a).1 ⟨ha, e⟩
      have h1 : lessI ((du zs)[b]?.getD 0) ((du zs)[a]?.getD 0) = 0 := by
        refine bitB_ext (lessI_bd _ _).1 (Int.le_refl _) fun j => ?_
        rw [bitB_less, bitB_zero]
        cases e1 : bitB ((du zs)[b]?.getD 0) j
        · rfl
        · have hjb := (du_lt h j b).1 ⟨hb, e1⟩
          have := ((du_lt h j a).2 (h.trans hjb hab)).2
          rw [this]; rfl
      have h2 : bitB ((du zs)[b]?.getD 0) a = false := by
        cases e2 : bitB ((du zs)[b]?.getD 0) a
        · rfl
        · exact absurd (h.trans hab ((du_lt h a b).1 ⟨hb, e2⟩)) h.irr
      rw [h1, h2]; rfl
theorem du_du {zs : List Int} (h : VoP zs) : du (du zs) = zs := by
  have hl : (du (du zs)).length = zs.length := by rw [du_len, du_len]
  refine List.ext_getElem hl fun j h1 h2 => ?_
  have e1 := (du_vo (du_vo h)).bd j h1
  have e2 := h.bd j h2
  have hb : ∀ k : Nat, bitB ((du (du zs))[j]?.getD 0) k = bitB (zs[j]?.getD 0) k := fun k => by rw [du_bit (du_vo h).sets, du_bit h.sets]
  have := bitB_ext e1.1 e2.1 hb
  rwa [List.getElem?_eq_getElem h1, List.getElem?_eq_getElem h2, Option.getD_some, Option.getD_some] at this

theorem du_rel {zs : List Int} (h : Sets zs) (a b : Nat) : relB (du zs) a b = relB zs a b := by
  unfold relB
  rw [du_bit h, du_bit h, Bool.or_comm]
theorem du_chB {zs : List Int} (h : Sets zs) (s : Int) : chB (du zs) s = chB zs s := by
  unfold chB ChP
  have : (fun a b => relB (du zs) a b = true) = fun a b => relB zs a b = true := by funext a b; rw [du_rel h]
  simp only [this]
theorem du_chBf {zs : List Int} (h : Sets zs) : chB (du zs) = chB zs := funext fun s => du_chB h s
theorem andI_zero {z s : Int} : andI z s = 0 ↔ ∀ b : Nat, bitB s b = true → bitB z b = false := by
  constructor
  · intro e b hb
    have := bitB_and z s b
    rw [e, bitB_zero, hb] at this
    simpa using this.symm
  · intro e
    refine bitB_ext (by unfold andI; omega) (Int.le_refl _) fun j => ?_
    rw [bitB_and, bitB_zero]
    cases e1 : bitB s j
    · simp
    · rw [e j e1]; rfl
theorem apB_iff {zs : List Int} {s : Int} (h1 : s < 64) : apB zs s = true ↔ ∀ a b : Nat, bitB s a = true → bitB s b = true → bitB (zs[a]?.getD 0) b = false := by
  unfold apB
  rw [List.all_eq_true]
  constructor
  · intro e a b ha hb
    have := e a ((mem_itemsL h1).2 ha)
    exact andI_zero.1 (by simpa using this) b hb
  · intro e a ha
    have := (andI_zero (z := zs[a]?.getD 0)).2 (fun b hb => e a b ((mem_itemsL h1).1 ha) hb)
    simpa using this
theorem du_apB {zs : List Int} (h : Sets zs) {s : Int} (h1 : s < 64) : apB (du zs) s = apB zs s := by
  have key : apB (du zs) s = true ↔ apB zs s = true := by
    rw [apB_iff h1, apB_iff h1]
    constructor
    · intro e a b ha hb
      have := e b a hb ha
      rwa [du_bit h] at this
    · intro e a b ha hb
      rw [du_bit h]
      exact e b a hb ha
  cases e1 : apB (du zs) s <;> cases e2 : apB zs s <;> simp_all
theorem grTo_congr {p q : Int → Bool} : ∀ k : Nat, (∀ j : Nat, j < k → p (j : Int) = q (j : Int)) → grTo p k = grTo q k
  | 0, _ => rfl
  | k + 1, h => by
    unfold grTo
    rw [h k (by omega), grTo_congr k fun j hj => h j (by omega)]
theorem setsN_le {zs : List Int} (h : zs.length ≤ 6) : setsN zs ≤ 64 := Nat.pow_le_pow_right (n := 2) (by decide) h
theorem du_setsN (zs : List Int) : setsN (du zs) = setsN zs := by unfold setsN; rw [du_len]
theorem du_wide {zs : List Int} (h : VoP zs) : grTo (apB (du zs)) (setsN zs) = grTo (apB zs) (setsN zs) :=
  grTo_congr _ fun j hj => du_apB h.sets (by have := setsN_le h.1; omega)
theorem du_long {zs : List Int} (h : VoP zs) : longI (du zs) = longI zs := by
  rw [← gr_long (du_vo h), ← gr_long h, du_chBf h.sets, du_setsN]

/-! Pairs. -/
theorem cl_flip (r : Nat → Nat → Bool) : ∀ l : List Nat, (∀ a ∈ l, r a a = false) → cl (fun a b => r b a) l l = cl r l l
  | [], _ => rfl
  | x :: l, h => by
    have h1 := cl_self r (x := x) (l := l) (h x (by simp))
    have h2 : cl (fun a b => r b a) (x :: l) (x :: l) = (l.filter fun a => r a x).length + (l.filter (r x)).length + cl (fun a b => r b a) l l := cl_self (fun a b => r b a) (x := x) (h x (by simp))
    rw [h1, h2, cl_flip r l fun a ha => h a (by simp [ha])]
    omega
/-- b is above a. -/
def upB (zs : List Int) (a b : Nat) : Bool := bitB (zs[a]?.getD 0) b
/-- How many pairs an order has, as mathematics. -/
def prs (zs : List Int) : Nat := cl (upB zs) (List.range zs.length) (List.range zs.length)
theorem popTo_cl {zs : List Int} (h : Sets zs) : ∀ k : Nat, k ≤ zs.length → popTo zs k = cl (upB zs) (List.range k) (List.range zs.length)
  | 0, _ => rfl
  | k + 1, hk => by
    have hb := h.bd k (by omega)
    unfold popTo
    rw [popTo_cl h k (by omega), popI_items hb.1 hb.2, ← itemsTo_all (h.2 k (by omega)).2 h.1]
    unfold cl
    rw [List.range_succ, List.map_append, List.sum_append]
    simp [itemsTo]
    rfl
theorem popTo_prs {zs : List Int} (h : Sets zs) : popTo zs zs.length = prs zs := popTo_cl h _ (Nat.le_refl _)
theorem du_prs {zs : List Int} (h : VoP zs) : prs (du zs) = prs zs := by
  unfold prs
  rw [du_len]
  have : upB (du zs) = fun a b : Nat => upB zs b a := by funext a b; unfold upB; rw [du_bit h.sets]
  rw [this]
  exact cl_flip (upB zs) _ fun a ha => h.irrB (List.mem_range.1 ha)
theorem prs_bd {zs : List Int} (h : VoP zs) : 2 * prs zs + zs.length ≤ zs.length * zs.length := by
  have := (cl_all (upB zs) (List.range zs.length) (fun a ha => h.irrB (List.mem_range.1 ha)) (fun a ha b _ e => h.asym (List.mem_range.1 ha) e)).1
  simpa [prs] using this
theorem prs_none {zs : List Int} (h : VoP zs) (hl : longI zs ≤ 1) : prs zs = 0 := by
  have hno : ∀ a b : Nat, ¬ lt zs a b := fun a b e => by
    have h1 := hgt_up h e
    have h2 := hgt_nn zs a
    have h3 := longI_gt (zs := zs) (h.lt_n e)
    omega
  unfold prs cl
  rw [List.map_congr_left (g := fun _ => 0)]
  · generalize List.range zs.length = l
    induction l with
    | nil => rfl
    | cons x l ih => simpa using ih
  · intro a ha
    rw [List.length_eq_zero_iff, List.filter_eq_nil_iff]
    intro b _ e
    exact hno a b ⟨List.mem_range.1 ha, e⟩

/-! Chains of none, of one and of two items. -/
theorem cnt_get (p : Int → Bool) {len m : Nat} (hm : m < len) : ∀ k : Nat, (cntTo p len k)[m]?.getD 0 = (((List.range k).filter fun j : Nat => p (j : Int) && (popI (j : Int)).toNat == m).length : Int)
  | 0 => by simp [cntTo, hm]
  | k + 1 => by
    have ih := cnt_get p hm k
    rw [List.range_succ, List.filter_append, List.length_append]
    have hl := cntTo_len p len k
    unfold cntTo
    cases hp : p (k : Int)
    · simp [hp, ih]
    · by_cases he : (popI (k : Int)).toNat = m
      · simp [hp, he]
        rw [List.getElem?_eq_getElem (by omega)] at ih
        rw [List.getElem?_set_self (by omega), Option.getD_some, List.getElem?_eq_getElem (by omega), Option.getD_some]
        simp only [Option.getD_some] at ih
        rw [ih]
      · simp [hp, he, ih]
def twos (n : Nat) : List Nat := (List.range n).flatMap fun b => (List.range b).map fun a => 2 ^ a + 2 ^ b
theorem twos_fin : ∀ n : Fin 7, (List.range (2 ^ n.val)).filter (fun j : Nat => (popI (j : Int)).toNat == 2) = twos n.val := by decide +kernel
theorem ones_fin : ∀ n : Fin 7, (List.range (2 ^ n.val)).filter (fun j : Nat => (popI (j : Int)).toNat == 1) = (List.range n.val).map fun a => 2 ^ a := by decide +kernel
theorem noes_fin : ∀ n : Fin 7, (List.range (2 ^ n.val)).filter (fun j : Nat => (popI (j : Int)).toNat == 0) = [0] := by decide +kernel
theorem two_items : ∀ b : Fin 6, ∀ a : Fin b.val, itemsL ((2 ^ a.val + 2 ^ b.val : Nat) : Int) = [a.val, b.val] := by decide +kernel
theorem one_items : ∀ b : Fin 6, itemsL ((2 ^ b.val : Nat) : Int) = [b.val] := by decide +kernel
theorem chB_two (zs : List Int) {a b : Nat} (hab : a < b) (hb : b < 6) : chB zs ((2 ^ a + 2 ^ b : Nat) : Int) = relB zs a b := by
  have h : ChP zs ((2 ^ a + 2 ^ b : Nat) : Int) ↔ relB zs a b = true := by
    unfold ChP
    rw [two_items ⟨b, hb⟩ ⟨a, hab⟩]
    simp
  unfold chB
  cases hr : relB zs a b
  · exact decide_eq_false fun e => by rw [h.1 e] at hr; cases hr
  · exact decide_eq_true (h.2 hr)
theorem chB_one (zs : List Int) {b : Nat} (hb : b < 6) : chB zs ((2 ^ b : Nat) : Int) = true := by
  refine decide_eq_true ?_
  unfold ChP
  rw [one_items ⟨b, hb⟩]
  simp
theorem chB_none (zs : List Int) : chB zs ((0 : Nat) : Int) = true := by
  have : itemsL ((0 : Nat) : Int) = [] := by decide
  refine decide_eq_true ?_
  unfold ChP
  rw [this]
  simp
theorem filter_and {α : Type} (p q : α → Bool) (l : List α) : l.filter (fun j => p j && q j) = (l.filter q).filter p := by rw [List.filter_filter]
theorem or_len (u v : Nat → Bool) : ∀ l : List Nat, (∀ a ∈ l, u a = true → v a = false) → (l.filter fun a => u a || v a).length = (l.filter u).length + (l.filter v).length
  | [], _ => rfl
  | a :: l, h => by
    have ih := or_len u v l fun b hb => h b (by simp [hb])
    have ha := h a (by simp)
    simp only [List.filter_cons]
    cases hu : u a <;> cases hv : v a <;> simp [hu, hv] at ha ⊢ <;> omega
theorem cl_range (r : Nat → Nat → Bool) : ∀ n : Nat, (∀ a, a < n → r a a = false) → cl r (List.range (n + 1)) (List.range (n + 1)) = cl r (List.range n) (List.range n) + ((List.range n).filter (r n)).length + ((List.range n).filter fun a => r a n).length + (if r n n then 1 else 0) := fun n _ => by
  unfold cl
  rw [List.range_succ, List.map_append, List.sum_append]
  have e : ∀ l : List Nat, (l.map fun a => ((List.range n ++ [n]).filter (r a)).length).sum = (l.map fun a => ((List.range n).filter (r a)).length).sum + (l.filter fun a => r a n).length := fun l => by
    induction l with
    | nil => rfl
    | cons a l ih =>
      rw [List.map_cons, List.sum_cons, ih, List.map_cons, List.sum_cons, List.filter_append, List.length_append, List.filter_cons (xs := l)]
      cases h : r a n <;> simp [h] <;> omega
  rw [e]
  cases h : r n n <;> simp [h, List.filter_append] <;> omega
theorem twos_chain {zs : List Int} (h : VoP zs) : ∀ n : Nat, n ≤ zs.length → ((twos n).filter fun j : Nat => chB zs (j : Int)).length = cl (upB zs) (List.range n) (List.range n)
  | 0, _ => rfl
  | n + 1, hn => by
    have h6 := h.1
    have ih := twos_chain h n (by omega)
    rw [cl_range (upB zs) n (fun a ha => h.irrB (show a < zs.length by omega)), ← ih]
    have e1 : twos (n + 1) = twos n ++ (List.range n).map fun a => 2 ^ a + 2 ^ n := by simp [twos, List.range_succ]
    rw [e1, List.filter_append, List.length_append, List.filter_map, List.length_map]
    have e2 : (List.range n).filter ((fun j : Nat => chB zs (j : Int)) ∘ fun a => 2 ^ a + 2 ^ n) = (List.range n).filter fun a => upB zs n a || upB zs a n := by
      refine List.filter_congr fun a ha => ?_
      have := chB_two zs (List.mem_range.1 ha) (show n < 6 by omega)
      simp only [Function.comp]
      rw [this]
      unfold relB upB
      rw [Bool.or_comm]
    have e3 : upB zs n n = false := h.irrB (show n < zs.length by omega)
    rw [e2, or_len (upB zs n) (fun a => upB zs a n) _ (fun a _ e => h.asym (show n < zs.length by omega) e), e3]
    simp
    omega
theorem chains_two {zs : List Int} (h : VoP zs) (hl : 2 ≤ longI zs) : (chainsR zs)[2]?.getD 0 = (prs zs : Int) := by
  have hn := h.1
  unfold chainsR
  rw [vo_true h]
  simp only [if_true]
  rw [cnt_get (chB zs) (len := (longI zs).toNat + 1) (m := 2) (by omega)]
  rw [filter_and (fun j : Nat => chB zs (j : Int)) (fun j : Nat => (popI (j : Int)).toNat == 2)]
  unfold setsN
  rw [twos_fin ⟨zs.length, by omega⟩, twos_chain h _ (Nat.le_refl _)]
  rfl
theorem chains_one {zs : List Int} (h : VoP zs) (hl : 1 ≤ longI zs) : (chainsR zs)[1]?.getD 0 = (zs.length : Int) := by
  have hn := h.1
  unfold chainsR
  rw [vo_true h]
  simp only [if_true]
  rw [cnt_get (chB zs) (len := (longI zs).toNat + 1) (m := 1) (by omega)]
  rw [filter_and (fun j : Nat => chB zs (j : Int)) (fun j : Nat => (popI (j : Int)).toNat == 1)]
  unfold setsN
  rw [ones_fin ⟨zs.length, by omega⟩, List.filter_map, List.length_map, List.filter_eq_self.2]
  · simp
  · intro a ha
    exact chB_one zs (by have := List.mem_range.1 ha; omega)
theorem chains_none {zs : List Int} (h : VoP zs) : (chainsR zs)[0]?.getD 0 = 1 := by
  have hn := h.1
  unfold chainsR
  rw [vo_true h]
  simp only [if_true]
  rw [cnt_get (chB zs) (len := (longI zs).toNat + 1) (m := 0) (by omega)]
  rw [filter_and (fun j : Nat => chB zs (j : Int)) (fun j : Nat => (popI (j : Int)).toNat == 0)]
  unfold setsN
  rw [noes_fin ⟨zs.length, by omega⟩, List.filter_cons, if_pos (chB_none zs)]
  rfl
theorem chains_len {zs : List Int} (h : VoP zs) : (chainsR zs).length = (longI zs).toNat + 1 := by
  unfold chainsR
  rw [vo_true h]
  simp [cntTo_len]
theorem du_chains {zs : List Int} (h : VoP zs) : chainsR (du zs) = chainsR zs := by
  unfold chainsR
  rw [vo_true h, vo_true (du_vo h), du_long h, du_chBf h.sets, du_setsN]
theorem long_pos {zs : List Int} (h : zs.length ≠ 0) : 1 ≤ longI zs := by
  have h1 := longI_gt (zs := zs) (a := 0) (by omega)
  have h2 := hgt_nn zs 0
  omega
end Go.Proofs.Ytbjaomhmocblbaa

/- Sets that part all items, as the laws see them. -/
namespace Go.Proofs.Ytbjaomhmocblbaa
open Go.RowKit Go.Shelf

/-- All items of the first k sets. -/
def seenTo (xs : List Int) : Nat → Int
  | 0 => 0
  | k + 1 => orI (seenTo xs k) (xs[k]?.getD 0)
theorem seenTo_bit (xs : List Int) (j : Nat) : ∀ k : Nat, bitB (seenTo xs k) j = true ↔ ∃ i, i < k ∧ bitB (xs[i]?.getD 0) j = true
  | 0 => by simp [seenTo, bitB_zero]
  | k + 1 => by
    unfold seenTo
    rw [bitB_or, Bool.or_eq_true, seenTo_bit xs j k]
    constructor
    · rintro (⟨i, hi, e⟩ | e)
      · exact ⟨i, by omega, e⟩
      · exact ⟨k, by omega, e⟩
    · rintro ⟨i, hi, e⟩
      by_cases hik : i = k
      · subst hik; exact .inr e
      · exact .inl ⟨i, by omega, e⟩
theorem seenTo_bd {xs : List Int} {n : Nat} (h : ∀ i, i < xs.length → 0 ≤ xs[i]?.getD 0 ∧ xs[i]?.getD 0 < powI n) : ∀ k : Nat, k ≤ xs.length → 0 ≤ seenTo xs k ∧ seenTo xs k < powI n
  | 0, _ => ⟨Int.le_refl _, powI_pos _⟩
  | k + 1, hk => by
    have h1 := seenTo_bd h k (by omega)
    have h2 := h k (by omega)
    exact orI_bd h1.1 h1.2 h2.1 h2.2
/-- Each item is in just one of the sets. -/
structure PartsOk (xs : List Int) (n : Nat) : Prop where
  n6 : n ≤ 6
  bd : ∀ i, i < xs.length → 0 ≤ xs[i]?.getD 0 ∧ xs[i]?.getD 0 < powI n
  apart : ∀ i k j : Nat, i < k → k < xs.length → bitB (xs[i]?.getD 0) j = true → bitB (xs[k]?.getD 0) j = true → False
  all : ∀ j : Nat, j < n → ∃ i, i < xs.length ∧ bitB (xs[i]?.getD 0) j = true
theorem all_bits {n : Nat} : ∀ j : Nat, bitB (powI n - 1) j = decide (j < n) := fun j => by
  have e : (powI (n : Int) - 1).toNat = 2 ^ n - 1 := by
    have : powI (n : Int) = ((2 ^ n : Nat) : Int) := by simp [powI]
    omega
  simp [bitB, e, Nat.testBit_two_pow_sub_one]
theorem PartsOk.seen {xs : List Int} {n : Nat} (h : PartsOk xs n) : seenTo xs xs.length = powI n - 1 := by
  have hb := seenTo_bd h.bd xs.length (Nat.le_refl _)
  have hp := powI_pos (n : Int)
  refine bitB_ext hb.1 (by omega) fun j => ?_
  rw [all_bits]
  by_cases hj : j < n
  · have := (seenTo_bit xs j xs.length).2 (h.all j hj)
    rw [this]; simp [hj]
  · cases e : bitB (seenTo xs xs.length) j
    · simp [hj]
    · exact absurd (bitB_lt hb.2 e) hj
theorem PartsOk.no {xs : List Int} {n k : Nat} (h : PartsOk xs n) (hk : k < xs.length) : andI (seenTo xs k) (xs[k]?.getD 0) = 0 := by
  refine bitB_ext (andI_bd _ _).1 (Int.le_refl _) fun j => ?_
  rw [bitB_and, bitB_zero]
  cases e : bitB (seenTo xs k) j
  · rfl
  · cases e2 : bitB (xs[k]?.getD 0) j
    · rfl
    · obtain ⟨i, hi, hb⟩ := (seenTo_bit xs j k).1 e
      exact (h.apart i k j hi hk hb e2).elim

end Go.Proofs.Ytbjaomhmocblbaa

/- The model's test of sets. -/
namespace Go.Proofs.Ytbjaomhmocblbaa
open Go.RowKit Go.Shelf
attribute [local go_sem] Oper.semAt_some
attribute [local go_sem, local simp] wide_fn
end Go.Proofs.Ytbjaomhmocblbaa

/- Tops: words, the model's helper and the program's. -/
namespace Go.Proofs.Ytbjaomhmocblbaa
open Go.RowKit Go.Shelf
attribute [local go_sem] Oper.semAt_some
attribute [local go_sem, local simp] wide_fn

/-- The items of s less than k above which there is none of s. -/
def topsTo (zs : List Int) (s : Int) : Nat → Int
  | 0 => 0
  | k + 1 => if bitB s k && andI (zs[k]?.getD 0) s == 0 then orI (topsTo zs s k) (powI k) else topsTo zs s k
theorem topsTo_bd (zs : List Int) (s : Int) : ∀ k : Nat, 0 ≤ topsTo zs s k ∧ topsTo zs s k < powI k
  | 0 => by simp [topsTo, powI]
  | k + 1 => by
    have h := topsTo_bd zs s k
    have hp : powI (k : Int) < powI ((k + 1 : Nat) : Int) := powI_lt (by omega)
    unfold topsTo
    split
    · exact orI_bd h.1 (by omega) (Int.le_of_lt (powI_pos _)) hp
    · omega
theorem topsTo_yes {zs : List Int} {s : Int} {k : Nat} (h : bitB s k = true) (h2 : (andI (zs[k]?.getD 0) s == 0) = true) : topsTo zs s (k + 1) = orI (topsTo zs s k) (powI k) := by simp [topsTo, h, h2]
theorem topsTo_no {zs : List Int} {s : Int} {k : Nat} (h : bitB s k = false ∨ (andI (zs[k]?.getD 0) s == 0) = false) : topsTo zs s (k + 1) = topsTo zs s k := by
  rcases h with h | h <;> simp [topsTo, h]
def topsR (zs : List Int) (s : Int) : Int := if vo zs && inB s 0 (powI zs.length - 1) then topsTo zs s zs.length else -1

theorem topsTo_bit {zs : List Int} {s : Int} (j : Nat) : ∀ k : Nat, bitB (topsTo zs s k) j = true ↔ j < k ∧ bitB s j = true ∧ andI (zs[j]?.getD 0) s = 0
  | 0 => by simp [topsTo, bitB_zero]
  | k + 1 => by
    have ih := topsTo_bit (zs := zs) (s := s) j k
    cases hc : (bitB s k && andI (zs[k]?.getD 0) s == 0)
    · have e : topsTo zs s (k + 1) = topsTo zs s k := by simp only [topsTo]; rw [hc]; rfl
      rw [e, ih]
      constructor
      · rintro ⟨h1, h2⟩; exact ⟨by omega, h2⟩
      · rintro ⟨h1, h2, h3⟩
        refine ⟨?_, h2, h3⟩
        by_cases hjk : j = k
        · subst hjk; rw [h2, h3] at hc; cases hc
        · omega
    · have e : topsTo zs s (k + 1) = orI (topsTo zs s k) (powI k) := by simp only [topsTo]; rw [hc]; rfl
      rw [Bool.and_eq_true] at hc
      rw [e, bitB_or, bitB_pow, Bool.or_eq_true, ih, decide_eq_true_eq]
      constructor
      · rintro (⟨h1, h2⟩ | rfl)
        · exact ⟨by omega, h2⟩
        · exact ⟨by omega, hc.1, by simpa using hc.2⟩
      · rintro ⟨h1, h2⟩
        by_cases hjk : k = j
        · exact .inr hjk
        · exact .inl ⟨by omega, h2⟩
/-- What has been gathered when the items of a list are over. -/
def topsL (zs : List Int) (s : Int) (l : List Nat) : Int := l.foldl (fun (t : Int) (i : Nat) => if andI (zs[i]?.getD 0) s == 0 then orI t (powI i) else t) 0
theorem topsL_yes {zs : List Int} {s : Int} {l : List Nat} {i : Nat} (h : (andI (zs[i]?.getD 0) s == 0) = true) : topsL zs s (l ++ [i]) = orI (topsL zs s l) (powI i) := by
  have h' : andI (zs[i]?.getD 0) s = 0 := by simpa using h
  simp [topsL, h']
theorem topsL_no {zs : List Int} {s : Int} {l : List Nat} {i : Nat} (h : (andI (zs[i]?.getD 0) s == 0) = false) : topsL zs s (l ++ [i]) = topsL zs s l := by
  have h' : ¬ andI (zs[i]?.getD 0) s = 0 := by simpa using h
  simp [topsL, h']
theorem topsL_to (zs : List Int) (s : Int) : ∀ k : Nat, topsL zs s (itemsTo s k) = topsTo zs s k
  | 0 => rfl
  | k + 1 => by
    have ih := topsL_to zs s k
    cases hb : bitB s k
    · rw [itemsTo_no hb, topsTo_no (.inl hb), ih]
    · rw [itemsTo_yes hb]
      cases ha : (andI (zs[k]?.getD 0) s == 0)
      · rw [topsL_no ha, topsTo_no (.inr ha), ih]
      · rw [topsL_yes ha, topsTo_yes hb ha, ih]
theorem topsTo_up {zs : List Int} {s : Int} {n : Nat} (h1 : s < powI n) : ∀ d : Nat, topsTo zs s (n + d) = topsTo zs s n
  | 0 => rfl
  | d + 1 => by
    have hb : bitB s ((n + d : Nat) : Int) = false := by
      cases h : bitB s ((n + d : Nat) : Int) with
      | false => rfl
      | true => have := bitB_lt h1 h; omega
    rw [← Nat.add_assoc, topsTo_no (.inl hb), topsTo_up h1 d]
theorem topsL_all {zs : List Int} {s : Int} {n : Nat} (hn : n ≤ 6) (h1 : s < powI n) : topsL zs s (itemsL s) = topsTo zs s n := by
  rw [itemsL, topsL_to, show (6 : Nat) = n + (6 - n) from by omega, topsTo_up h1]

end Go.Proofs.Ytbjaomhmocblbaa

/- Lines, as plain mathematics: what is lined up, what is left, and when the next item may come. No program. -/
namespace Go.Proofs.Ytbjaomhmocblbaa

/-- The first k items of the list. -/
def doneTo (ls : List Int) : Nat → Int
  | 0 => 0
  | k + 1 => orI (doneTo ls k) (powI (ls[k]?.getD 0))
/-- All items but the first k of the list. -/
def leftTo (n : Nat) (ls : List Int) : Nat → Int
  | 0 => powI n - 1
  | k + 1 => lessI (leftTo n ls k) (powI (ls[k]?.getD 0))
/-- The item k of the list is one, was not yet there, and all below it were. -/
def stepOk (zs ls : List Int) (k : Nat) : Bool :=
  inB (ls[k]?.getD 0) 0 ((zs.length : Int) - 1) && (!bitB (doneTo ls k) (ls[k]?.getD 0) && (lessI ((du zs)[(ls[k]?.getD 0).toNat]?.getD 0) (doneTo ls k) == 0))
def lineB (zs ls : List Int) : Bool := decide (ls.length = zs.length) && (List.range ls.length).all (stepOk zs ls)
def isLineR (zs ls : List Int) : Bool := vo zs && lineB zs ls

theorem lineB_yes {zs ls : List Int} {m : Nat} (hm : ls.length = m) (hl : m = zs.length) (h : ∀ k, k < m → stepOk zs ls k = true) : lineB zs ls = true := by
  unfold lineB
  rw [Bool.and_eq_true, List.all_eq_true]
  exact ⟨by simp; omega, fun k hk => h k (by rw [← hm]; exact List.mem_range.1 hk)⟩
theorem lineB_len {zs ls : List Int} {m : Nat} (hm : ls.length = m) (hl : m ≠ zs.length) : lineB zs ls = false := by
  unfold lineB
  rw [decide_eq_false (by omega)]
  rfl
theorem lineB_no {zs ls : List Int} {m k : Nat} (hm : ls.length = m) (hk : k < m) (h : stepOk zs ls k = false) : lineB zs ls = false := by
  cases e : lineB zs ls
  · rfl
  · unfold lineB at e
    rw [Bool.and_eq_true, List.all_eq_true] at e
    have := e.2 k (List.mem_range.2 (by omega))
    rw [h] at this
    cases this
theorem stepOk_in {zs ls : List Int} {k : Nat} (h : stepOk zs ls k = true) : 0 ≤ ls[k]?.getD 0 ∧ ls[k]?.getD 0 < zs.length := by
  unfold stepOk at h
  rw [Bool.and_eq_true] at h
  have : (0 : Int) ≤ ls[k]?.getD 0 ∧ ls[k]?.getD 0 ≤ (zs.length : Int) - 1 := by simpa [inB] using h.1
  omega
theorem stepOk_new {zs ls : List Int} {k : Nat} (h : stepOk zs ls k = true) : bitB (doneTo ls k) (ls[k]?.getD 0) = false := by
  unfold stepOk at h
  rw [Bool.and_eq_true, Bool.and_eq_true] at h
  simpa using h.2.1
theorem doneTo_bd {zs ls : List Int} : ∀ k : Nat, (∀ i, i < k → stepOk zs ls i = true) → 0 ≤ doneTo ls k ∧ doneTo ls k < powI zs.length
  | 0, _ => ⟨Int.le_refl _, powI_pos _⟩
  | k + 1, h => by
    have h1 := doneTo_bd k fun i hi => h i (by omega)
    have h2 := stepOk_in (h k (by omega))
    obtain ⟨a, ha⟩ := Int.eq_ofNat_of_zero_le h2.1
    have h3 : powI (a : Int) < powI (zs.length : Int) := powI_lt (by omega)
    have h4 := powI_pos (a : Int)
    unfold doneTo
    rw [ha]
    exact orI_bd h1.1 h1.2 (by omega) h3
theorem leftTo_bd {n : Nat} {ls : List Int} : ∀ k : Nat, 0 ≤ leftTo n ls k ∧ leftTo n ls k < powI n
  | 0 => by have := powI_pos (n : Int); unfold leftTo; omega
  | k + 1 => by
    have h1 := leftTo_bd (n := n) (ls := ls) k
    have h2 := lessI_bd (leftTo n ls k) (powI (ls[k]?.getD 0))
    unfold leftTo
    omega
theorem leftTo_bit {zs ls : List Int} (j : Nat) : ∀ k : Nat, (∀ i, i < k → stepOk zs ls i = true) → bitB (leftTo zs.length ls k) j = (decide (j < zs.length) && !bitB (doneTo ls k) j)
  | 0, _ => by unfold leftTo doneTo; rw [all_bits, bitB_zero]; simp
  | k + 1, h => by
    have ih := leftTo_bit (zs := zs) (ls := ls) j k fun i hi => h i (by omega)
    have h2 := stepOk_in (h k (by omega))
    obtain ⟨a, ha⟩ := Int.eq_ofNat_of_zero_le h2.1
    unfold leftTo doneTo
    rw [ha, bitB_less, bitB_or, bitB_pow, ih]
    cases decide (j < zs.length) <;> cases bitB (doneTo ls k) j <;> cases decide (a = j) <;> rfl
/-- As the program asks it: the item is a top, turned round, of what is left. -/
theorem step_tops {zs ls : List Int} (h : VoP zs) {k : Nat} (hk : ∀ i, i < k → stepOk zs ls i = true) {a : Nat} (ha : ls[k]?.getD 0 = (a : Int)) (hn : a < zs.length) :
    bitB (topsTo (du zs) (leftTo zs.length ls k) zs.length) a = stepOk zs ls k := by
  have hds := (du_sets h.sets).2 a (by rw [du_len]; exact hn)
  rw [du_len] at hds
  have hl := leftTo_bit (zs := zs) (ls := ls) a k hk
  have hin : inB (a : Int) 0 ((zs.length : Int) - 1) = true := by simp [inB]; omega
  have key : bitB (topsTo (du zs) (leftTo zs.length ls k) zs.length) a = true ↔ stepOk zs ls k = true := by
    rw [topsTo_bit]
    unfold stepOk
    rw [ha, hin, hl, Bool.true_and, Int.toNat_natCast]
    simp only [Bool.and_eq_true]
    have e2 : andI ((du zs)[a]?.getD 0) (leftTo zs.length ls k) = 0 ↔ (lessI ((du zs)[a]?.getD 0) (doneTo ls k) == 0) = true := by
      rw [beq_iff_eq, andI_zero]
      constructor
      · intro e
        refine bitB_ext (lessI_bd _ _).1 (Int.le_refl _) fun j => ?_
        rw [bitB_less, bitB_zero]
        cases e1 : bitB ((du zs)[a]?.getD 0) j
        · rfl
        · cases e3 : bitB (doneTo ls k) j
          · have hj := bitB_lt hds.2 e1
            have := e j (by rw [leftTo_bit (zs := zs) (ls := ls) j k hk, e3]; simp [hj])
            rw [e1] at this; cases this
          · rfl
      · intro e j hj
        rw [leftTo_bit (zs := zs) (ls := ls) j k hk, Bool.and_eq_true] at hj
        cases e1 : bitB ((du zs)[a]?.getD 0) j
        · rfl
        · have := bitB_less ((du zs)[a]?.getD 0) (doneTo ls k) j
          rw [e, bitB_zero, e1] at this
          simp at this hj
          rw [this] at hj
          simp at hj
    constructor
    · rintro ⟨_, h1, h2⟩
      exact ⟨h1.2, e2.1 h2⟩
    · rintro ⟨h1, h2⟩
      exact ⟨hn, ⟨by simpa using hn, h1⟩, e2.2 h2⟩
  cases e1 : bitB (topsTo (du zs) (leftTo zs.length ls k) zs.length) a <;> cases e2 : stepOk zs ls k <;> simp_all
end Go.Proofs.Ytbjaomhmocblbaa

/- The program's lineup: its making, what is free, all items; an item less. -/
namespace Go.Proofs.Ytbjaomhmocblbaa
open Go.RowKit Go.Shelf

/-- A lineup: the order turned round in block b, the map in block m. -/
def lineV (b m n : Nat) : Value := .agg #[.slice (some ⟨b, 0, none⟩) n n, .map (some m)]

theorem without_any (s j : Int) (w : World) (h0 : 0 ≤ s) (h1 : s < 64) (j0 : 0 ≤ j) (j1 : j ≤ 6) :
    Calls Try.prog 48 #[.int .i64 s, .int .i64 j] w fun e w' => e = .returned (.int .i64 (lessI s (powI j))) ∧ w = w' := by
  go_enter Try.func48, Try.ntmps48
  go_wp2
  go_ret
  have hp := powI_le6 j1
  have hq := powI_pos j
  exact ⟨ret_int (by
    have : wrap64 (2 ^ j.toNat) = powI j := IntWalk.wrap64_in _ ⟨by unfold powI at hq; omega, by unfold powI at hp; omega⟩
    rw [this]; exact bits_less h0 (by omega) (by omega) (by omega)), rfl⟩
theorem oall_any (A : Option Addr) (n c : Nat) (w : World) (h1 : n ≤ 6) :
    Calls Try.prog 45 #[.slice A n c] w fun e w' => e = .returned (.int .i64 (powI n - 1)) ∧ w = w' := by
  have hp := powI_le6 (n := (n : Int)) (by omega)
  have hq := powI_pos (n : Int)
  go_enter Try.func45, Try.ntmps45
  go_wp2
  go_ret
  exact ⟨ret_int (by
    have : wrap64 (2 ^ ((n : Int)).toNat) = powI n := IntWalk.wrap64_in _ ⟨by unfold powI at hq; omega, by unfold powI at hp; omega⟩
    simp only [Int.toNat_natCast] at this
    rw [this]; exact IntWalk.wrap64_in _ ⟨by omega, by omega⟩), rfl⟩
end Go.Proofs.Ytbjaomhmocblbaa

/- Orders beside each other, and one above the other: the program's. -/
namespace Go.Proofs.Ytbjaomhmocblbaa
open Go.RowKit Go.Shelf
attribute [local go_sem] Oper.semAt_some
attribute [local go_sem, local simp] wide_fn

set_option maxRecDepth 100000 in
set_option maxHeartbeats 4000000 in
theorem withBeside_any (b n c : Nat) (zs : List Int) (b' m c' : Nat) (ys : List Int) (w : World) (hA : Arr w b 54 zs) (hA' : Arr w b' 54 ys) (hlen0 : zs.length = n) (hlen0' : ys.length = m) (hvy : VoP ys) (hnm : n + m ≤ 6) :
    Calls Try.prog 29 #[.slice (some ⟨b, 0, none⟩) n c, .slice (some ⟨b', 0, none⟩) m c'] w fun e w' => ∃ v, e = .returned v ∧ OwnS (fun k => w.heap.size ≤ k) w' w.heap.size 54 v (zs ++ shl n ys) ∧ Below w.heap.size w w' := by
  obtain ⟨i0, hi0, hz0, hz1, hz2⟩ := info_parts infoItems
  have hlen := Lib.hid hlen0
  have hlen' := Lib.hid hlen0'
  have Hcl := Lib.hid (clone_own b n c zs w hA hlen0 (by omega))
  have Hsl := Lib.hid (shl_len n ys)
  have hpn := powI_le6 (n := (n : Int)) (by omega)
  have hpn0 := powI_pos (n : Int)
  clear hlen0 hlen0'
  go_enter Try.func29, Try.ntmps29
  go_wp2_with fail
  refine Hcl.out.mono ?_
  rintro e w1 ⟨v1, rfl, hO1, hB1⟩
  have z1 := hB1.size
  have hU1 : Upd (fun k => w.heap.size ≤ k) w w1 := (Below.toUpd hB1).mono fun _ _ e => e
  go_wp2_with fail
  go_loopw [5, 12] (fun v i wr => ∃ j : Nat, j ≤ m ∧ i = .int .i64 j ∧ OwnS (fun k => w.heap.size ≤ k) wr w.heap.size 54 v (zs ++ (shl n ys).take j) ∧ Below w.heap.size w wr) (fun _ i _ => m - (intOf i).toNat)
  case atStart => exact ⟨0, by omega, rfl, by simpa using hO1, hB1⟩
  case round =>
    clear hO1 hB1 hU1
    obtain ⟨j, hj, rfl, hO, hB⟩ := hrel
    rename World => wy
    have zy := hB.size
    by_cases hlt : j < m
    · have hcy := (hA'.below hB hA'.lt).cell (k := j) (by rw [hlen'.out]; exact hlt)
      have hz := hvy.sets.2 j (by rw [hlen'.out]; exact hlt)
      rw [hlen'.out] at hz
      have hsb := shl_bd (n := n) (m := m) hz.1 hz.2 hnm
      have Hsn := Lib.hid (shl_snoc n ys (k := j) (by rw [hlen'.out]; exact hlt))
      have Hln := Lib.hid (show (zs ++ (shl n ys).take j).length = n + j by rw [List.length_append, List.length_take, hlen.out, Hsl.out, hlen'.out]; omega)
      generalize ys[j]?.getD 0 = yj at *
      obtain ⟨q, hq⟩ : ∃ q, yj * powI (n : Int) = q := ⟨_, rfl⟩
      rw [hq] at hsb Hsn
      have hwm : IntKind.i64.wrap (yj * powI (n : Int)) = q := by rw [IntKind.wrap_i64, hq]; omega
      have hwm2 : wrap64 (yj * 2 ^ n) = q := by
        have e : (2 : Int) ^ n = powI (n : Int) := by simp [powI]
        rw [e, hq]; exact IntWalk.wrap64_in _ ⟨by omega, by omega⟩
      clear hq
      go_wp2_with (at_builtin; refine wpList_append1 _ rfl (.tmp 16) (.tmp 21) _ rfl w.heap.size 54 i0 _ 8 Try.underlying36 hi0 hz0 hz1 hz2 rfl _ (zs ++ (shl n ys).take j).length _ rfl (hO.2.alloc _) wy.heap.size 1 (.int .i64 q) rfl (cell_new _ _ _) rfl (by rw [Hln.out]; omega) (by rw [Hln.out]; omega) (by simp; omega) ?_; rintro v' w' hown' hg' hv')
      have zg := hg'.size
      simp at zg
      go_roundw
      case rel => exact ⟨j + 1, by omega, by go_num, by rw [Hsn.out, ← List.append_assoc]; exact hO.step hown' hv' (fun k e => e) (fun _ => by omega), ((((Below.toUpd hB).mono (S := fun k => w.heap.size ≤ k) fun _ _ e => e).alloc _).grown hg' (fun k hk => .inl (hO.1 k hk))).toBelow (fun _ e => e) (Nat.le_refl _)⟩
      case measure => simp [intOf]; omega
    · obtain rfl : j = m := by omega
      rw [List.take_of_length_le (by rw [Hsl.out, hlen'.out]; exact Nat.le_refl _)] at hO
      go_wp2_with fail
      go_ret
      exact ⟨_, rfl, hO, hB⟩

/-- What stands when k items have those of the second order above them. -/
def abL (bh : Int) (zs us : List Int) (k : Nat) : List Int := (zs.take k).map (fun z => orI z bh) ++ zs.drop k ++ us
theorem abL_zero (bh : Int) (zs us : List Int) : abL bh zs us 0 = zs ++ us := by simp [abL]
theorem abL_all (bh : Int) (zs us : List Int) {n : Nat} (h : zs.length = n) : abL bh zs us n = zs.map (fun z => orI z bh) ++ us := by subst h; simp [abL]
theorem abL_len (bh : Int) (zs us : List Int) (k : Nat) : (abL bh zs us k).length = zs.length + us.length := by simp [abL]; omega
theorem abL_get (bh : Int) (zs us : List Int) {k : Nat} (h : k < zs.length) : (abL bh zs us k)[k]?.getD 0 = zs[k]?.getD 0 := by
  unfold abL
  rw [List.append_assoc, List.getElem?_append_right (by simp; omega), List.getElem?_append_left (by simp; omega)]
  simp [Nat.min_eq_left (Nat.le_of_lt h)]
theorem abL_step (bh : Int) (zs us : List Int) {k : Nat} (h : k < zs.length) : (abL bh zs us k).set k (orI (zs[k]?.getD 0) bh) = abL bh zs us (k + 1) := by
  unfold abL
  have h1 : ((zs.take k).map (fun z => orI z bh)).length = k := by simp; omega
  rw [List.append_assoc, List.set_append_right _ _ (by omega), h1, Nat.sub_self, List.drop_eq_getElem_cons h, List.cons_append, List.set_cons_zero, List.take_succ_eq_append_getElem h, List.map_append, List.getElem?_eq_getElem h]
  simp
set_option maxRecDepth 100000 in
set_option maxHeartbeats 4000000 in
theorem withAbove_any (b n c : Nat) (zs : List Int) (b' m c' : Nat) (ys : List Int) (w : World) (hA : Arr w b 54 zs) (hA' : Arr w b' 54 ys) (hlen0 : zs.length = n) (hlen0' : ys.length = m) (hvo : VoP zs) (hvy : VoP ys) (hnm : n + m ≤ 6) :
    Calls Try.prog 30 #[.slice (some ⟨b, 0, none⟩) n c, .slice (some ⟨b', 0, none⟩) m c'] w fun e w' => ∃ v, e = .returned v ∧ OwnS (fun k => w.heap.size ≤ k) w' w.heap.size 54 v (zs.map (fun z => orI z (behI n m)) ++ shl n ys) ∧ Below w.heap.size w w' := by
  have hlen := Lib.hid hlen0
  have Hwb := Lib.hid (withBeside_any b n c zs b' m c' ys w hA hA' hlen0 hlen0' hvy hnm)
  have hbd := fun j hj => hvo.bd j hj
  rw [hlen0] at hbd
  have Hlu : (shl n ys).length = m := by rw [shl_len]; exact hlen0'
  have hbeh := beh_bd hnm
  have hpn := powI_le6 (n := (n : Int)) (by omega)
  have hpn0 := powI_pos (n : Int)
  have hpm := powI_le6 (n := ((n + m : Nat) : Int)) (by omega)
  have hpm0 := powI_pos ((n + m : Nat) : Int)
  have hless : bits .andNot .i64 (powI ((n + m : Nat) : Int) - 1) (powI (n : Int) - 1) = behI n m := by rw [bits_less (by omega) (by omega) (by omega) (by omega)]; exact beh_less hnm
  have hl0 : (zs ++ shl n ys).length = n + m := by rw [List.length_append, Hlu, hlen0]
  generalize behI n m = bh at *
  generalize shl n ys = us at *
  clear hvo hvy hA hA' hlen0 hlen0'
  go_enter Try.func30, Try.ntmps30
  go_wp2_with fail
  refine Hwb.out.mono ?_
  rintro e w1 ⟨v1, rfl, hO1, hB1⟩
  clear Hwb
  have z1 := hB1.size
  obtain ⟨A1, c1, rfl, -⟩ := ints_of_own hO1.2
  rw [hl0] at hO1 ⊢
  have hal1 := fun w => oall_any A1 (n + m) c1 w (by omega)
  have hal2 := fun w => oall_any (some ⟨b, 0, none⟩) n c w (by omega)
  obtain ⟨nm, hnm0⟩ : ∃ nm, n + m = nm := ⟨_, rfl⟩
  rw [hnm0] at hl0 hO1 hpm hpm0 hless hal1 hnm ⊢
  have Hnm := Lib.hid hnm0
  have hnle : n ≤ nm := by omega
  clear hnm0
  generalize powI (nm : Int) - 1 = N1 at *
  generalize powI (n : Int) - 1 = N2 at *
  go_wp2_with (first
    | (go_at_call 45; with_reducible refine (hal1 _).mono ?_; rintro e w' ⟨rfl, rfl⟩)
    | (go_at_call 45; with_reducible refine (hal2 _).mono ?_; rintro e w' ⟨rfl, rfl⟩))
  clear hal1 hal2
  go_loopw [18] (fun i wr => ∃ k : Nat, k ≤ n ∧ i = .int .i64 k ∧ OwnS (fun k => w.heap.size ≤ k) wr w.heap.size 54 (.slice A1 nm c1) (abL bh zs us k) ∧ Below w.heap.size w wr) (fun i _ => n - (intOf i).toNat)
  case atStart => exact ⟨0, by omega, rfl, by rw [abL_zero]; exact hO1, hB1⟩
  case round =>
    clear hO1 hB1
    obtain ⟨k, hk, rfl, hO, hB⟩ := hrel
    rename World => wy
    have Hal := Lib.hid (show (abL bh zs us k).length = nm by rw [abL_len, hlen.out, Hlu, Hnm.out])
    have hO2 := hO.2
    rw [Hal.out] at hO2
    by_cases hlt : k < n
    · have hz := hbd k hlt
      have Hg := Lib.hid (abL_get bh zs us (k := k) (by rw [hlen.out]; exact hlt))
      have Hs := Lib.hid (abL_step bh zs us (k := k) (by rw [hlen.out]; exact hlt))
      obtain ⟨g, cap, e1⟩ := own_some hO2 (by omega)
      cases e1
      obtain ⟨hcs, hfs, hgl⟩ := own_cell hO2
      have hck := hcs k (by omega)
      have hfk := hfs k
      rw [Hg.out] at hck
      have hor : bits .or .i64 (zs[k]?.getD 0) bh = orI (zs[k]?.getD 0) bh := bits_or (by omega) (by omega) (by omega) (by omega)
      have hknm : k < nm := by omega
      have hgw : w.heap.size ≤ g := hO.1 g rfl
      clear hcs hfs Hg
      generalize zs[k]?.getD 0 = zk at *
      go_wp2
      go_roundw
      case rel => exact ⟨k + 1, by omega, by go_num, ⟨fun j hj => hO.1 j hj, by rw [← Hs.out, List.length_set, Hal.out, List.map_set]; exact own_set hO2 k _⟩, hB.setCell (p := ⟨g, k, none⟩) hgw _⟩
      case measure => simp [intOf]; omega
    · obtain rfl : k = n := by omega
      have Hal2 := Lib.hid (abL_all bh zs us hlen.out)
      go_wp2
      go_ret
      exact ⟨_, rfl, by rw [← Hal2.out]; exact hO, hB⟩
end Go.Proofs.Ytbjaomhmocblbaa

/- Orders beside each other, and one above the other: the program's, whole. -/
namespace Go.Proofs.Ytbjaomhmocblbaa
open Go.RowKit Go.Shelf
attribute [local go_sem] Oper.semAt_some
attribute [local go_sem, local simp] wide_fn
theorem RowV.ofArr {w : World} {lo hi n b : Nat} {xs : List Int} (h : Arr w b 3 xs) (hn : xs.length = n) (hlo : lo ≤ b) (hhi : b < hi) : RowV w lo hi (some ⟨b, 0, none⟩) n xs :=
  ⟨hn, fun _ => ⟨b, _, rfl, hlo, hhi, h, by rw [← hn]; exact List.take_of_length_le (by simp)⟩⟩
theorem bothB_no4 {zs ys : List Int} (h : (vo zs && vo ys) = false) : bothB zs ys = false := by
  unfold bothB
  rw [← Bool.and_assoc, h]; rfl

set_option maxHeartbeats 2000000 in
theorem BesideOf_any (A : Option Addr) (n c : Nat) (zs : List Int) (A' : Option Addr) (n' c' : Nat) (ys : List Int) (w : World) (h : Ints w w.heap.size A n zs) (h' : Ints w w.heap.size A' n' ys) (hbig : n ≤ 1152921504606846976) (hbig' : n' ≤ 1152921504606846976) :
    Calls Try.prog 10 #[.slice A n c, .slice A' n' c'] w (GivesAtV w (bothR zs ys false) (bothB zs ys)) := by
  have hlen := Lib.hid h.len
  have hlen' := Lib.hid h'.len
  go_enter Try.func10, Try.ntmps10
  go_wp2_with fail
  refine (readBoth_any A n c zs A' n' c' ys _ h h' hbig hbig').mono ?_
  rintro e w1 ⟨hB1, (⟨hv, hv', b, b', rfl, hAr, hAr'⟩ | ⟨hno, A1, k1, A2, k2, rfl⟩)⟩
  · have hvo : VoP zs := by simpa [vo] using hv
    have hvy : VoP ys := by simpa [vo] using hv'
    have z1 := hB1.size
    clear hv hv'
    have h6 : n ≤ 6 := by have := hvo.1; rw [hlen.out] at this; exact this
    have h6' : n' ≤ 6 := by have := hvy.1; rw [hlen'.out] at this; exact this
    by_cases hnm : n + n' ≤ 6
    · have Hb := Lib.hid (bothB_yes hlen.out hlen'.out hvo hvy hnm)
      have Ht := Lib.hid (bothR_yes (over := false) Hb.out)
      have Hl := Lib.hid (show bothL zs ys false = zs ++ shl n ys from by unfold bothL; rw [hlen.out, hlen'.out, uqL_false])
      have Hll := Lib.hid (show (bothL zs ys false).length = n + n' by rw [bothL_len, hlen.out, hlen'.out])
      have Hcall := Lib.hid (withBeside_any b n n zs b' n' n' ys _ hAr hAr' hlen.out hlen'.out hvy hnm)
      have hnm2 : (n : Int) + (n' : Int) ≤ 6 := by omega
      clear hAr hAr'
      go_wp2_with fail
      refine Hcall.out.mono ?_
      clear Hcall
      rintro e w2 ⟨v, rfl, hO, hB2⟩
      have z2 := hB2.size
      rw [← Hl.out] at hO
      obtain ⟨A2, c2, rfl, hI⟩ := ints_of_own hO.2
      rw [Hll.out] at hI ⊢
      clear hO Hl
      obtain ⟨N, hN⟩ : ∃ N, n + n' = N := ⟨_, rfl⟩
      rw [hN] at hI ⊢
      have HN := Lib.hid hN
      have hN6 : N ≤ 6 := by omega
      clear hN
      go_wp2_with fail
      refine (list_any _ N c2 _ _ hI (by omega)).mono ?_
      rintro e w3 ⟨rfl, hA3, hB3⟩
      have z3 := hA3.lt
      go_wp2_with fail
      go_ret2
      exact ⟨_, N, N, by rw [Hb.out]; rfl, by rw [Ht.out]; exact RowV.ofArr hA3 (by rw [Hll.out, HN.out]) (by omega) z3, hB1.trans ((hB2.mono z1).trans (hB3.mono (by omega)))⟩
    · have Hb := Lib.hid (bothB_no3 hlen.out hlen'.out hnm)
      have Ht := Lib.hid (bothR_no (over := false) Hb.out)
      have hnm2 : ¬ (n : Int) + (n' : Int) ≤ 6 := by omega
      clear hAr hAr'
      go_wp2_with fail
      go_ret2
      exact ⟨none, 0, 0, by rw [Hb.out]; rfl, by rw [Ht.out]; exact RowV.nil _ _ _ _, hB1⟩
  · have Hb := Lib.hid (bothB_no4 hno)
    have Ht := Lib.hid (bothR_no (over := false) Hb.out)
    clear hno
    go_wp2_with fail
    go_ret2
    exact ⟨none, 0, 0, by rw [Hb.out]; rfl, by rw [Ht.out]; exact RowV.nil _ _ _ _, hB1⟩

set_option maxHeartbeats 2000000 in
theorem StackOf_any (A : Option Addr) (n c : Nat) (zs : List Int) (A' : Option Addr) (n' c' : Nat) (ys : List Int) (w : World) (h : Ints w w.heap.size A n zs) (h' : Ints w w.heap.size A' n' ys) (hbig : n ≤ 1152921504606846976) (hbig' : n' ≤ 1152921504606846976) :
    Calls Try.prog 15 #[.slice A n c, .slice A' n' c'] w (GivesAtV w (bothR zs ys true) (bothB zs ys)) := by
  have hlen := Lib.hid h.len
  have hlen' := Lib.hid h'.len
  go_enter Try.func15, Try.ntmps15
  go_wp2_with fail
  refine (readBoth_any A n c zs A' n' c' ys _ h h' hbig hbig').mono ?_
  rintro e w1 ⟨hB1, (⟨hv, hv', b, b', rfl, hAr, hAr'⟩ | ⟨hno, A1, k1, A2, k2, rfl⟩)⟩
  · have hvo : VoP zs := by simpa [vo] using hv
    have hvy : VoP ys := by simpa [vo] using hv'
    have z1 := hB1.size
    clear hv hv'
    have h6 : n ≤ 6 := by have := hvo.1; rw [hlen.out] at this; exact this
    have h6' : n' ≤ 6 := by have := hvy.1; rw [hlen'.out] at this; exact this
    by_cases hnm : n + n' ≤ 6
    · have Hb := Lib.hid (bothB_yes hlen.out hlen'.out hvo hvy hnm)
      have Ht := Lib.hid (bothR_yes (over := true) Hb.out)
      have Hl := Lib.hid (show bothL zs ys true = zs.map (fun z => orI z (behI n n')) ++ shl n ys from by unfold bothL uqL uqS; rw [hlen.out, hlen'.out]; rfl)
      have Hll := Lib.hid (show (bothL zs ys true).length = n + n' by rw [bothL_len, hlen.out, hlen'.out])
      have Hcall := Lib.hid (withAbove_any b n n zs b' n' n' ys _ hAr hAr' hlen.out hlen'.out hvo hvy hnm)
      have hnm2 : (n : Int) + (n' : Int) ≤ 6 := by omega
      clear hAr hAr'
      go_wp2_with fail
      refine Hcall.out.mono ?_
      clear Hcall
      rintro e w2 ⟨v, rfl, hO, hB2⟩
      have z2 := hB2.size
      rw [← Hl.out] at hO
      obtain ⟨A2, c2, rfl, hI⟩ := ints_of_own hO.2
      rw [Hll.out] at hI ⊢
      clear hO Hl
      obtain ⟨N, hN⟩ : ∃ N, n + n' = N := ⟨_, rfl⟩
      rw [hN] at hI ⊢
      have HN := Lib.hid hN
      have hN6 : N ≤ 6 := by omega
      clear hN
      go_wp2_with fail
      refine (list_any _ N c2 _ _ hI (by omega)).mono ?_
      rintro e w3 ⟨rfl, hA3, hB3⟩
      have z3 := hA3.lt
      go_wp2_with fail
      go_ret2
      exact ⟨_, N, N, by rw [Hb.out]; rfl, by rw [Ht.out]; exact RowV.ofArr hA3 (by rw [Hll.out, HN.out]) (by omega) z3, hB1.trans ((hB2.mono z1).trans (hB3.mono (by omega)))⟩
    · have Hb := Lib.hid (bothB_no3 hlen.out hlen'.out hnm)
      have Ht := Lib.hid (bothR_no (over := true) Hb.out)
      have hnm2 : ¬ (n : Int) + (n' : Int) ≤ 6 := by omega
      clear hAr hAr'
      go_wp2_with fail
      go_ret2
      exact ⟨none, 0, 0, by rw [Hb.out]; rfl, by rw [Ht.out]; exact RowV.nil _ _ _ _, hB1⟩
  · have Hb := Lib.hid (bothB_no4 hno)
    have Ht := Lib.hid (bothR_no (over := true) Hb.out)
    clear hno
    go_wp2_with fail
    go_ret2
    exact ⟨none, 0, 0, by rw [Hb.out]; rfl, by rw [Ht.out]; exact RowV.nil _ _ _ _, hB1⟩
end Go.Proofs.Ytbjaomhmocblbaa

/- The arguments of the laws, opened and shut: lists of numbers. -/
namespace Go.Proofs.Ytbjaomhmocblbaa
open Go.ChangeShapes Go.WideShapes Go.ChangeAt Go.RowKit
set_option linter.unusedVariables false

section
variable {H : Type} {enc : TypeId × Value → H} {P : Program}
/-- The row's last step where the call leaves all that lay as it lay. -/
theorem post_of_below {f : Func} {s : ChangeSpec} {apart fresh handsOn again : Bool} {W W' : World} {args : Array Value} {v : Value} {ds gs : List (DataW H)} {before pa pv : List MemPlace}
    (hW : DataW.Whole enc P f.params.toList s.vars apart W args.toList ds gs before)
    (hres : ∀ (b : Nat) (sp : Nat → Bool) (hd : Bool), DataW.TrodAll enc P W' b sp hd f.resultTypes.toList (v.resultList f.resultTypes.size) (s.fn H (ds ++ gs)).results [])
    (hargs : ∀ sp : Nat → Bool, (∀ p ∈ before, sp p.block = true) → DataW.TrodAll enc P W' 0 sp true f.params.toList args.toList (s.fn H (ds ++ gs)).args pa)
    (hvars : ∀ sp : Nat → Bool, (∀ p ∈ before, sp p.block = true) → DataW.TrodVars enc P W' sp s.vars (s.fn H (ds ++ gs)).vars pv)
    (hps : before = pa ++ pv) (hb : Below W.heap.size W W')
    (hok : ∀ (j : Nat) (t : TypeId) (r : Value), f.resultTypes[j]? = some t → (v.resultList f.resultTypes.size)[j]? = some r → Value.okWide P W' .any 0 t r) :
    s.post enc P f apart fresh handsOn again W args v W' := by
  have hlt : ∀ p ∈ before, p.block < W.heap.size := fun p hp => hW.lt p hp
  have hold : ∀ p ∈ before, (fun b => decide (b < W.heap.size)) p.block = true := fun p hp => by simpa using hlt p hp
  refine ⟨ds, gs, before, [], pa, pv, hW, hres _ _ _, hargs _ hold, hvars _ hold, World.keptBut_mono (fun p hp => ⟨hp, ?_⟩) (hb.frame (· ∈ before)), fun _ => ?_⟩
  · rw [hps, List.mem_append] at hp
    exact Or.inr hp
  · obtain ⟨_, _, _, _, _, hz, hn⟩ := hW
    refine ⟨hok, _, _, ([] ++ pa) ++ pv, ⟨[] ++ pa, pv, trodAll_append (hargs _ (fun _ _ => rfl)) (hres _ _ _), hvars _ (fun _ _ => rfl), rfl, ?_, ?_⟩, ?_⟩
    · intro b off hp
      have hin : MemPlace.cell b off ∈ before := by rw [hps]; simpa using hp
      rw [hb.frozen (hlt _ hin)]
      exact hz b off hin
    · intro ha
      have := hn ha
      rw [hps] at this
      simpa using this
    · intro p hp _
      rw [hps]
      simpa using hp
end

theorem own : ownKnob Try.prog.godebug = none := by kernel_rfl
theorem cellsInt : Try.prog.cellsOf 3 = 1 := by kernel_rfl

theorem cell_lt {w : World} {a : Addr} {v : Value} (h : w.cell? a = some v) : a.block < w.heap.size := by
  obtain ⟨o, ho, _⟩ := cells_of_cell h
  exact (Array.getElem?_eq_some_iff.1 ho).1
theorem block_of_add (a : Addr) (n : Nat) : (a.add n).block = a.block := by unfold Addr.add; split <;> rfl

section
variable {H : Type} {enc : TypeId × Value → H}
set_option maxRecDepth 100000 in
/-- A list of numbers that comes in: it reads as numbers, and reads again so in whatever world that keeps what lay. -/
theorem arg_ints {W : World} {v : Value} {d : DataW H} {p : List MemPlace} {base : Nat} (hok : Value.okWide Try.prog W .any base 22 v)
    (h : DataW.Trod enc Try.prog W 0 (fun _ => true) true 22 v d p) :
    ∃ (A : Option Addr) (n c : Nat) (zs : List Int), v = .slice A n c ∧ Ints W W.heap.size A n zs ∧ (∀ x ∈ zs, (Lit.int .i64 x).wf = true) ∧
      ∀ (W' : World), Below W.heap.size W W' → ∀ sp : Nat → Bool, (∀ q ∈ p, sp q.block = true) → DataW.Trod enc Try.prog W' 0 sp true 22 v d p := by
  obtain ⟨a0, len, cap, rfl⟩ := okWide_slice Try.underlying22 hok
  obtain ⟨fuel, hf⟩ := h
  rcases open_ints Try.underlying22 Try.underlying3 cellsInt hf with ⟨hcs, hx⟩ | ⟨a, len', cap', zs, hcs, _, hl, hm, hz, hx, hcell, hwz⟩
  · simp [Value.cells] at hcs
    obtain ⟨rfl, rfl, rfl⟩ := hcs
    simp only [Prod.mk.injEq] at hx
    obtain ⟨rfl, rfl⟩ := hx
    exact ⟨none, 0, 0, [], rfl, Ints.nil _ _ _, (fun _ hx => by cases hx), fun W' hb sp _ => shut_slice_nil Try.underlying22⟩
  · simp [Value.cells] at hcs
    obtain ⟨rfl, rfl, rfl⟩ := hcs
    simp only [Prod.mk.injEq] at hx
    obtain ⟨rfl, rfl⟩ := hx
    simp only [if_true] at hz
    have hlt : ∀ j, j < zs.length → a.block < W.heap.size := fun j hj => by
      have := cell_lt (hcell j hj)
      rwa [block_of_add] at this
    refine ⟨some a, len, cap, zs.take len, rfl, ⟨by simp; omega, fun hn => ?_⟩, fun x hx => hwz x (List.mem_of_mem_take hx), fun W' hb sp hsp => ?_⟩
    · obtain ⟨b, off, spot⟩ := a
      have hspot : spot = none := by simpa [Addr.add] using World.cell?_spot (hcell 0 (by omega))
      subst hspot
      refine ⟨b, off, rfl, hlt 0 (by omega), fun j hj => ?_⟩
      rw [← add_plain, hcell j (by omega)]
      simp [hj]
    · by_cases hz0 : zs.length = 0
      · have hc0 : cap = 0 := by omega
        have hl0 : len = 0 := by omega
        subst hc0; subst hl0
        have t0 := shut_ints (enc := enc) (w := W') (base := 0) (spare := sp) (held := true) (a := a) (len := 0) (cap := 0) (zs := zs) 0 Try.underlying22 Try.underlying3 cellsInt (Nat.zero_le _) (Nat.le_refl _) hm (by simp [hz0]) (fun j hj => by omega) hwz
        exact ⟨2, by simpa [Value.cells] using t0⟩
      · have hspb : sp a.block = true := by
          have := hsp (.cell a.block a.off) (MemPlace.mem_row.2 ⟨0, by omega, by simp⟩)
          exact this
        have t0 := shut_ints (enc := enc) (w := W') (base := 0) (spare := sp) (held := true) (a := a) (len := len) (cap := cap) (zs := zs) 0 Try.underlying22 Try.underlying3 cellsInt (Nat.zero_le _) hl hm (by simp [hspb, hz]) (fun j hj => by
          rw [hb.cell (by rw [block_of_add]; exact hlt j hj)]; exact hcell j hj) hwz
        exact ⟨2, by simpa [Value.cells] using t0⟩
end
end Go.Proofs.Ytbjaomhmocblbaa

/- Parts of an order: what PartOf's and ValidOrder's own laws ask. No program. -/
import Derived.Test.YtfahccbbccncnaaDoorGb
namespace Go.Proofs.YtfahccbbccncnaaDoor

theorem left_all (n : Nat) : leftL n (2 ^ n - 1) = List.range n := by
  unfold leftL
  rw [List.filter_eq_self]
  intro a ha
  rw [Nat.testBit_two_pow_sub_one]
  simpa using ha
theorem ext_bits {xs ys : List Int} {n : Nat} (hx : xs.length = n) (hy : ys.length = n) (x0 : ∀ i, i < n → 0 ≤ xs[i]?.getD 0) (y0 : ∀ i, i < n → 0 ≤ ys[i]?.getD 0)
    (h : ∀ i j : Nat, i < n → bitB (xs[i]?.getD 0) j = bitB (ys[i]?.getD 0) j) : xs = ys := by
  refine List.ext_getElem? fun i => ?_
  rcases Nat.lt_or_ge i n with hi | hi
  · have e1 : xs[i]? = some (xs[i]?.getD 0) := by rw [List.getElem?_eq_getElem (by omega)]; rfl
    have e2 : ys[i]? = some (ys[i]?.getD 0) := by rw [List.getElem?_eq_getElem (by omega)]; rfl
    rw [e1, e2, bitB_ext (x0 i hi) (y0 i hi) (fun j => h i j hi)]
  · rw [List.getElem?_eq_none (by omega), List.getElem?_eq_none (by omega)]
theorem range_get {n i : Nat} (hi : i < n) : (List.range n)[i]?.getD 0 = i := by simp [hi]
theorem range_Inc (zs : List Int) : Inc zs (List.range zs.length) := ⟨range_inc _, fun a ha => by simpa using ha⟩
theorem ind_all {zs : List Int} (h : VoP zs) : ind zs (List.range zs.length) = zs := by
  have hi := range_Inc zs
  refine ext_bits (n := zs.length) (by rw [ind_len, List.length_range]) rfl (fun i hi' => ((ind_vo h hi).bd i (by rw [ind_len, List.length_range]; exact hi')).1) (fun i hi' => (h.bd i hi').1) fun i j hi' => ?_
  rw [Bool.eq_iff_iff, ind_bit (by rw [List.length_range]; exact hi'), List.length_range, range_get hi']
  constructor
  · rintro ⟨hj, e⟩; rwa [range_get hj] at e
  · intro e
    have hj : j < zs.length := bitB_lt (h.sets.2 i hi').2 e
    exact ⟨hj, by rw [range_get hj]; exact e⟩
theorem part_whole {zs : List Int} (h : VoP zs) : partR zs (powI zs.length - 1) = zs := by
  have hp := powI_pos (zs.length : Int)
  have e : (powI zs.length - 1).toNat = 2 ^ zs.length - 1 := by
    have : powI (zs.length : Int) = ((2 ^ zs.length : Nat) : Int) := by simp [powI]
    omega
  unfold partR
  rw [vo_true h, in_set h (by omega) (by omega), Bool.and_true, if_pos rfl, e, left_all, ind_all h]
theorem part_in {zs : List Int} {s : Int} (h : VoP zs) (h0 : 0 ≤ s) (h1 : s < powI zs.length) : partR zs s = ind zs (leftL zs.length s.toNat) := by
  unfold partR
  rw [vo_true h, in_set h h0 h1, Bool.and_true, if_pos rfl]
theorem part_vo {zs : List Int} {s : Int} (h : VoP zs) (h0 : 0 ≤ s) (h1 : s < powI zs.length) : VoP (partR zs s) := by
  rw [part_in h h0 h1]
  exact ind_vo h (leftL_inc zs _)
theorem vo_nil : VoP [] := ⟨by simp, fun a ha => by simp at ha, fun a ha => by simp at ha⟩
theorem part_vo' {zs : List Int} (h : VoP zs) (s : Int) : VoP (partR zs s) := by
  unfold partR
  split
  · exact ind_vo h (leftL_inc zs _)
  · exact vo_nil
theorem part_len {zs : List Int} {s : Int} (h : VoP zs) (h0 : 0 ≤ s) (h1 : s < powI zs.length) : ((partR zs s).length : Int) = popI s := by
  rw [part_in h h0 h1, ind_len]
  obtain ⟨k, rfl⟩ := Int.eq_ofNat_of_zero_le h0
  have hk : k < 2 ^ zs.length := by unfold powI at h1; simp at h1; exact_mod_cast h1
  rw [Int.toNat_natCast, left_pop h.1 hk]
theorem du_ind {zs : List Int} (h : VoP zs) {l : List Nat} (hl : Inc zs l) : ind (du zs) l = du (ind zs l) := by
  have hi := ind_vo h hl
  have hl2 : Inc (du zs) l := ⟨hl.inc, fun a ha => by rw [du_len]; exact hl.lt a ha⟩
  have hi2 := ind_vo (du_vo h) hl2
  have hd := du_vo hi
  refine ext_bits (n := l.length) (ind_len _ _) (by rw [du_len, ind_len]) (fun i hi' => (hi2.bd i (by rw [ind_len]; exact hi')).1) (fun i hi' => (hd.bd i (by rw [du_len, ind_len]; exact hi')).1) fun i j hi' => ?_
  rw [Bool.eq_iff_iff, ind_bit hi', du_bit h.sets, du_bit hi.sets]
  constructor
  · rintro ⟨hj, e⟩; exact (ind_bit hj).2 ⟨hi', e⟩
  · intro e
    have hj : j < l.length := by have := bit_none e; rwa [ind_len] at this
    exact ⟨hj, ((ind_bit hj).1 e).2⟩
theorem part_du {zs : List Int} {s : Int} (h : VoP zs) (h0 : 0 ≤ s) (h1 : s < powI zs.length) : partR (du zs) s = du (partR zs s) := by
  rw [part_in h h0 h1, part_in (du_vo h) h0 (by rw [du_len]; exact h1), du_len, du_ind h (leftL_inc zs _)]
/-! As many pairs at most. -/
theorem sum_sub {f g : Nat → Nat} : ∀ {l m : List Nat}, l.Sublist m → (∀ a ∈ l, f a ≤ g a) → (l.map f).sum ≤ (m.map g).sum
  | _, _, .slnil, _ => Nat.le_refl _
  | l, b :: m, .cons _ hs, hf => by
    have := sum_sub hs hf
    rw [List.map_cons, List.sum_cons]
    omega
  | a :: l, _ :: m, .cons_cons _ hs, hf => by
    have h1 := sum_sub hs (fun x hx => hf x (List.mem_cons_of_mem _ hx))
    have h2 := hf a (by simp)
    rw [List.map_cons, List.sum_cons, List.map_cons, List.sum_cons]
    omega
theorem cl_sub {r : Nat → Nat → Bool} {l m : List Nat} (h : l.Sublist m) : cl r l l ≤ cl r m m :=
  sum_sub h fun a _ => (h.filter (r a)).length_le
theorem get_range (l : List Nat) : (List.range l.length).map (fun i => l[i]?.getD 0) = l := by
  refine List.ext_getElem? fun i => ?_
  rcases Nat.lt_or_ge i l.length with hi | hi
  · rw [List.getElem?_map, List.getElem?_range hi, List.getElem?_eq_getElem hi, Option.map_some, List.getElem?_eq_getElem hi]; rfl
  · rw [List.getElem?_eq_none (by simpa using hi), List.getElem?_eq_none hi]
theorem map_at (l : List Nat) (f : Nat → Nat) : (List.range l.length).map (fun i => f (l[i]?.getD 0)) = l.map f := by
  conv => rhs; rw [← get_range l]
  rw [List.map_map]
  rfl
theorem filter_at (l : List Nat) (p : Nat → Bool) : ((List.range l.length).filter fun i => p (l[i]?.getD 0)).length = (l.filter p).length := by
  conv => rhs; rw [← get_range l]
  rw [List.filter_map, List.length_map]
  rfl
theorem prs_ind {zs : List Int} {l : List Nat} : prs (ind zs l) = cl (upB zs) l l := by
  unfold prs cl
  rw [ind_len, ← map_at l]
  congr 1
  refine List.map_congr_left fun i hi => ?_
  have hil : i < l.length := by simpa using hi
  rw [← filter_at l]
  congr 1
  refine List.filter_congr fun j hj => ?_
  have hjl : j < l.length := by simpa using hj
  unfold upB
  rw [Bool.eq_iff_iff, ind_bit hil]
  exact ⟨fun h => h.2, fun h => ⟨hjl, h⟩⟩
theorem part_pairs {zs : List Int} {s : Int} (h : VoP zs) (h0 : 0 ≤ s) (h1 : s < powI zs.length) : countR (partR zs s) ≤ countR zs := by
  have hv := part_vo h h0 h1
  unfold countR
  rw [vo_true h, vo_true hv]
  simp only [if_true]
  rw [popTo_prs h.sets, popTo_prs hv.sets, part_in h h0 h1, prs_ind]
  have : cl (upB zs) (leftL zs.length s.toNat) (leftL zs.length s.toNat) ≤ prs zs := cl_sub (List.filter_sublist ..)
  exact_mod_cast this
end Go.Proofs.YtfahccbbccncnaaDoor

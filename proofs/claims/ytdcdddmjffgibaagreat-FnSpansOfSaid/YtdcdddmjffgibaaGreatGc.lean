/- Texts that several claims share, one behind the other. -/
import Derived.Test.YtdcdddmjffgibaaGreatGa
import Derived.OrdersHeld
import Derived.Deep.RegionHeld3
set_option linter.unusedVariables false
set_option linter.unusedSimpArgs false
/- Rows of numbers under way, that grow by append: where they lie; what has been read of them; rows whose cells alone are told. -/
namespace Go.Proofs.YtdcdddmjffgibaaGreat
open Go.RowKit

/-- A row of numbers under way, in a block that S names. -/
def OwnS (S : Nat → Prop) (w : World) (B : Nat) (e : TypeId) (v : Value) (xs : List Int) : Prop := (∀ k, v.ownBlock = some k → S k) ∧ w.ownsRow B e 1 v xs.length (xs.map (Value.int .i64))
section
variable {S R : Nat → Prop} {w w' : World} {B : Nat} {e : TypeId} {v : Value} {xs : List Int}
theorem OwnS.keep (h : OwnS S w B e v xs) (hu : Upd R w w') (hS : ∀ k, S k → ¬ R k) : OwnS S w' B e v xs := by
  obtain ⟨h0, h1⟩ := h
  refine ⟨h0, h1.1, ?_⟩
  rcases h1.2 with e | ⟨g, cap, cur, rfl, hg, hc, hrest⟩
  · exact .inl e
  · exact .inr ⟨g, cap, cur, rfl, hg, (hu.block g (Array.getElem?_eq_some_iff.1 hc).1 (hS g (h0 g rfl))).trans hc, hrest⟩
theorem OwnS.none (S : Nat → Prop) (w : World) (B : Nat) (e : TypeId) : OwnS S w B e (.slice none 0 0) [] := ⟨fun k hk => by simp [Value.ownBlock] at hk, rfl, .inl ⟨rfl, rfl⟩⟩
theorem own_lt' {base n : Nat} {ys : List Value} (h : w.ownsRow base e 1 v n ys) : ∀ g, v.ownBlock = some g → g < w.heap.size := fun g hg => by
  rcases h.2 with ⟨rfl, _⟩ | ⟨g', cap, cur, rfl, _, hc, _⟩
  · simp [Value.ownBlock] at hg
  · simp [Value.ownBlock] at hg; subst hg; exact (Array.getElem?_eq_some_iff.1 hc).1
theorem OwnS.step {S' : Nat → Prop} {x : Int} {o : Obj} {v' : Value} (h : OwnS S w B e v xs) (hown : w'.ownsRow B e 1 v' (xs.length + 1) (xs.map (Value.int .i64) ++ [.int .i64 x])) (hv : v'.ownBlock = v.ownBlock ∨ v'.ownBlock = some (w.alloc o).heap.size)
    (hS : ∀ k, S k → S' k) (hS1 : w.heap.size + 1 < w'.heap.size → S' (w.heap.size + 1)) : OwnS S' w' B e v' (xs ++ [x]) :=
  ⟨fun k hk => by
    rcases hv with e | e
    · exact hS k (h.1 k (e ▸ hk))
    · have hlt := own_lt' hown k hk
      rw [e] at hk; simp at hk; subst hk; exact hS1 hlt, by rw [List.length_append, List.map_append]; exact hown⟩
end

/-- A row whose cells are told, in a block from lo up to less than hi (empty ones may lie anywhere). -/
def RowC (w : World) (lo hi : Nat) (A : Option Addr) (n : Nat) (xs : List Int) : Prop :=
  xs.length = n ∧ (0 < n → ∃ b, A = some ⟨b, 0, none⟩ ∧ lo ≤ b ∧ b < hi ∧ ∀ j, j < n → w.cell? ⟨b, j, none⟩ = some (.int .i64 (xs[j]?.getD 0)))
section
variable {w w' : World} {lo hi n : Nat} {A : Option Addr} {xs : List Int} {R : Nat → Prop}
theorem RowC.len (h : RowC w lo hi A n xs) : xs.length = n := h.1
theorem RowC.nil (w : World) (lo hi : Nat) (A : Option Addr) : RowC w lo hi A 0 [] := ⟨rfl, fun h => absurd h (by omega)⟩
theorem RowC.ints (h : RowC w lo hi A n xs) {B : Nat} (hB : hi ≤ B) : Ints w B A n xs :=
  ⟨h.1, fun hn => by
    obtain ⟨b, e, _, hb, hc⟩ := h.2 hn
    exact ⟨b, 0, e, by omega, fun j hj => by rw [Nat.zero_add]; exact hc j hj⟩⟩
theorem RowC.upd (h : RowC w lo hi A n xs) (hu : Upd R w w') (hr : ∀ j, R j → j < lo ∨ hi ≤ j) : RowC w' lo hi A n xs :=
  ⟨h.1, fun hn => by
    obtain ⟨b, e, hl, hb, hc⟩ := h.2 hn
    exact ⟨b, e, hl, hb, fun j hj => hu.cell (hc j hj) (fun hr' => by have := hr b hr'; omega)⟩⟩
theorem RowC.below {B : Nat} (h : RowC w lo hi A n xs) (hu : Below B w w') (hB : hi ≤ B) : RowC w' lo hi A n xs := h.upd (Below.toUpd hu) (fun j hj => by omega)
theorem RowC.more {lo' hi' : Nat} (h : RowC w lo hi A n xs) (h1 : lo' ≤ lo) (h2 : hi ≤ hi') : RowC w lo' hi' A n xs :=
  ⟨h.1, fun hn => by
    obtain ⟨b, e, hl, hb, hc⟩ := h.2 hn
    exact ⟨b, e, by omega, by omega, hc⟩⟩
theorem Row.told (h : Row w lo hi A n xs) : RowC w lo hi A n xs :=
  ⟨h.1, fun hn => by
    obtain ⟨b, ys, e, hl, hb, hA⟩ := h.2 hn
    exact ⟨b, e, hl, hb, fun j hj => by
      have hl := h.1
      rw [hA.cell (by rw [List.length_append]; omega), List.getElem?_append_left (by omega)]⟩⟩
/-- A grown row's cells. -/
theorem rowC_of_own {base m : Nat} {e : TypeId} {v : Value} (h : w.ownsRow base e 1 v m (xs.map (Value.int .i64))) : ∃ A c, v = .slice A m c ∧ RowC w base w.heap.size A m xs := by
  obtain ⟨A, c, rfl, hI, hA⟩ := ints_of_own_at h
  refine ⟨A, c, rfl, hI.1, fun hn => ?_⟩
  rcases h.2 with ⟨e, _⟩ | ⟨g, cap, cur, e, hg, hgc, _⟩
  · cases e; omega
  · cases e
    refine ⟨g, rfl, hg, (Array.getElem?_eq_some_iff.1 hgc).1, fun j hj => ?_⟩
    obtain ⟨b, off, e1, hb, hc⟩ := hI.2 hn
    cases e1
    have := hc j hj
    rwa [Nat.zero_add] at this
end
/-- What a function that hands back a new row of numbers does: its cells told. -/
def GivesRowC (w : World) (xs : List Int) (e : Ending) (w' : World) : Prop := ∃ A n c, e = .returned (.slice A n c) ∧ RowC w' w.heap.size w'.heap.size A n xs ∧ Below w.heap.size w w'
end Go.Proofs.YtdcdddmjffgibaaGreat

/- Orders beside each other, and one above the other: as both sides tell them. No program. -/
namespace Go.Proofs.YtdcdddmjffgibaaGreat
open Go.RowKit

/-- The sets of items behind n other ones. -/
def shl (n : Nat) (ys : List Int) : List Int := ys.map fun y => y * powI n
theorem shl_len (n : Nat) (ys : List Int) : (shl n ys).length = ys.length := by simp [shl]
theorem shl_get (n : Nat) (ys : List Int) {k : Nat} (hk : k < ys.length) : (shl n ys)[k]?.getD 0 = (ys[k]?.getD 0) * powI n := by
  unfold shl
  rw [List.getElem?_map, List.getElem?_eq_getElem hk]; rfl
theorem take_snocJ (l : List Int) {k : Nat} (hk : k < l.length) : l.take (k + 1) = l.take k ++ [l[k]?.getD 0] := by
  rw [List.take_succ_eq_append_getElem hk, List.getElem?_eq_getElem hk]; rfl
theorem shl_snoc (n : Nat) (ys : List Int) {k : Nat} (hk : k < ys.length) : (shl n ys).take (k + 1) = (shl n ys).take k ++ [(ys[k]?.getD 0) * powI n] := by
  rw [take_snocJ _ (by rw [shl_len]; exact hk), shl_get n ys hk]
/-- All items of the second order, behind n. -/
def behI (n m : Nat) : Int := (powI m - 1) * powI n
def uqS (n m : Nat) (over : Bool) (z : Int) : Int := if over then orI z (behI n m) else z
def uqL (n m : Nat) (over : Bool) (zs : List Int) : List Int := zs.map (uqS n m over)
theorem uqL_len (n m : Nat) (over : Bool) (zs : List Int) : (uqL n m over zs).length = zs.length := by simp [uqL]
theorem uqL_get (n m : Nat) (over : Bool) (zs : List Int) {k : Nat} (hk : k < zs.length) : (uqL n m over zs)[k]?.getD 0 = uqS n m over (zs[k]?.getD 0) := by
  unfold uqL
  rw [List.getElem?_map, List.getElem?_eq_getElem hk]; rfl
theorem uqL_snoc (n m : Nat) (over : Bool) (zs : List Int) {k : Nat} (hk : k < zs.length) : (uqL n m over zs).take (k + 1) = (uqL n m over zs).take k ++ [uqS n m over (zs[k]?.getD 0)] := by
  rw [take_snocJ _ (by rw [uqL_len]; exact hk), uqL_get n m over zs hk]
theorem uqL_false (n m : Nat) (zs : List Int) : uqL n m false zs = zs := by
  unfold uqL
  have : uqS n m false = id := by funext z; rfl
  rw [this, List.map_id]
def bothL (zs ys : List Int) (over : Bool) : List Int := uqL zs.length ys.length over zs ++ shl zs.length ys
theorem bothL_len (zs ys : List Int) (over : Bool) : (bothL zs ys over).length = zs.length + ys.length := by unfold bothL; rw [List.length_append, uqL_len, shl_len]
def bothB (zs ys : List Int) : Bool := vo zs && (vo ys && decide (zs.length + ys.length ≤ 6))
def bothR (zs ys : List Int) (over : Bool) : List Int := if bothB zs ys then bothL zs ys over else []
theorem bothR_le (zs ys : List Int) (over : Bool) : (bothR zs ys over).length ≤ 1048576 := by
  unfold bothR
  split
  · rename_i h
    unfold bothB at h
    simp only [Bool.and_eq_true, decide_eq_true_eq] at h
    rw [bothL_len]; omega
  · simp
theorem bothB_parts {zs ys : List Int} (h : bothB zs ys = true) : VoP zs ∧ VoP ys ∧ zs.length + ys.length ≤ 6 := by
  unfold bothB at h
  simp only [Bool.and_eq_true, decide_eq_true_eq] at h
  exact ⟨by simpa [vo] using h.1, by simpa [vo] using h.2.1, h.2.2⟩
theorem powI_add6 : ∀ n : Fin 7, ∀ m : Fin 7, powI (n.val : Int) * powI (m.val : Int) = powI ((n.val + m.val : Nat) : Int) := by decide +kernel
theorem beh_fin : ∀ n : Fin 7, ∀ m : Fin 7, n.val + m.val ≤ 6 → 0 ≤ behI n.val m.val ∧ behI n.val m.val < 64 ∧ lessI (powI ((n.val + m.val : Nat) : Int) - 1) (powI (n.val : Int) - 1) = behI n.val m.val := by decide +kernel
theorem beh_bd {n m : Nat} (h : n + m ≤ 6) : 0 ≤ behI n m ∧ behI n m < 64 := ⟨(beh_fin ⟨n, by omega⟩ ⟨m, by omega⟩ h).1, (beh_fin ⟨n, by omega⟩ ⟨m, by omega⟩ h).2.1⟩
theorem beh_less {n m : Nat} (h : n + m ≤ 6) : lessI (powI ((n + m : Nat) : Int) - 1) (powI (n : Int) - 1) = behI n m := (beh_fin ⟨n, by omega⟩ ⟨m, by omega⟩ h).2.2
theorem shl_bd {n m : Nat} {z : Int} (h0 : 0 ≤ z) (h1 : z < powI m) (h : n + m ≤ 6) : 0 ≤ z * powI n ∧ z * powI n < 64 := by
  have hp := powI_pos (n : Int)
  have e := powI_add6 ⟨n, by omega⟩ ⟨m, by omega⟩
  have h64 := powI_le6 (n := ((n + m : Nat) : Int)) (by omega)
  simp only at e
  refine ⟨Int.mul_nonneg h0 (by omega), ?_⟩
  have h2 : (z + 1) * powI n ≤ powI m * powI n := Int.mul_le_mul_of_nonneg_right (by omega) (by omega)
  rw [Int.add_mul, Int.one_mul, Int.mul_comm (powI m), e] at h2
  omega
end Go.Proofs.YtdcdddmjffgibaaGreat

/- The greatest chain has as many items as the greatest height tells; chains and levels counted. No program. -/
namespace Go.Proofs.YtdcdddmjffgibaaGreat

/-- The greatest size of the sets less than k that are counted. -/
def grTo (p : Int → Bool) : Nat → Int
  | 0 => 0
  | k + 1 => if p (k : Int) then max (grTo p k) (popI (k : Int)) else grTo p k
theorem grTo_nn (p : Int → Bool) : ∀ k : Nat, 0 ≤ grTo p k
  | 0 => Int.le_refl _
  | k + 1 => by have := grTo_nn p k; unfold grTo; split <;> omega
theorem grTo_bd (p : Int → Bool) : ∀ k : Nat, k ≤ 64 → grTo p k ≤ 6
  | 0, _ => by simp [grTo]
  | k + 1, h => by
    have h1 := grTo_bd p k (by omega)
    have h2 := popI_bd (s := (k : Int)) (by omega) (by omega)
    unfold grTo; split <;> omega
theorem grTo_ge {p : Int → Bool} {j : Nat} (hp : p (j : Int) = true) : ∀ k : Nat, j < k → popI (j : Int) ≤ grTo p k
  | 0, h => by omega
  | k + 1, h => by
    rcases Nat.lt_or_ge j k with h1 | h1
    · have := grTo_ge hp k h1
      unfold grTo; split <;> omega
    · obtain rfl : j = k := by omega
      unfold grTo; rw [if_pos hp]; omega
theorem grTo_le {p : Int → Bool} {m : Int} (h0 : 0 ≤ m) : ∀ k : Nat, (∀ j : Nat, j < k → p (j : Int) = true → popI (j : Int) ≤ m) → grTo p k ≤ m
  | 0, _ => by simpa [grTo] using h0
  | k + 1, h => by
    have h1 := grTo_le h0 k (fun j hj => h j (by omega))
    unfold grTo
    split
    · rename_i hp; have := h k (by omega) hp; omega
    · exact h1

theorem pigeon1 (k : Nat) : ∀ l : List Nat, l.Pairwise (· ≠ ·) → l.length ≤ (l.filter (· != k)).length + 1
  | [], _ => by simp
  | x :: l, h => by
    rw [List.pairwise_cons] at h
    have ih := pigeon1 k l h.2
    rw [List.filter_cons]
    by_cases hx : x = k
    · subst hx
      have e : l.filter (· != x) = l := List.filter_eq_self.2 fun y hy => by simpa using (fun e => h.1 y hy e.symm : ¬ y = x)
      simp [e]
    · simp [hx]; omega
theorem pigeon : ∀ (k : Nat) (l : List Nat), l.Pairwise (· ≠ ·) → (∀ x ∈ l, x < k) → l.length ≤ k
  | 0, l, _, h => by
    cases l with
    | nil => simp
    | cons x l => have := h x (by simp); omega
  | k + 1, l, hp, h => by
    have h1 := pigeon1 k l hp
    have h2 := pigeon k (l.filter (· != k)) (hp.filter _) (fun x hx => by
      have := List.mem_filter.1 hx
      have h3 := h x this.1
      have h4 : x ≠ k := by simpa using this.2
      omega)
    omega

theorem ChP_iff {zs : List Int} {s : Int} (h1 : s < 64) : ChP zs s ↔ ∀ a b : Nat, bitB s a = true → bitB s b = true → a < b → relB zs a b = true := by
  constructor
  · intro h a b ha hb hab
    have hs := itemsL_sorted s
    obtain ⟨i, hi, rfl⟩ := List.getElem_of_mem ((mem_itemsL h1).2 ha)
    obtain ⟨j, hj, rfl⟩ := List.getElem_of_mem ((mem_itemsL h1).2 hb)
    have hij : i < j := by
      rcases Nat.lt_or_ge i j with h2 | h2
      · exact h2
      · rcases Nat.lt_or_ge j i with h3 | h3
        · have := List.pairwise_iff_getElem.1 hs j i hj hi h3; omega
        · have : i = j := by omega
          subst this; omega
    exact List.pairwise_iff_getElem.1 h i j hi hj hij
  · intro h
    exact (itemsL_sorted s).imp_of_mem fun ha hb hab => h _ _ ((mem_itemsL h1).1 ha) ((mem_itemsL h1).1 hb) hab

/-- One more than the greatest height. -/
def longI (zs : List Int) : Int := maxL (hgt zs) (List.range zs.length)
theorem longI_nn (zs : List Int) : 0 ≤ longI zs := (maxL_ge _ _).1
theorem longI_bd {zs : List Int} (h : VoP zs) : longI zs ≤ zs.length := by
  rcases maxL_eq (hgt zs) (List.range zs.length) with e | ⟨a, ha, e⟩
  · unfold longI; omega
  · have := hgt_bd h (List.mem_range.1 ha)
    unfold longI; omega
theorem longI_gt {zs : List Int} {a : Nat} (ha : a < zs.length) : hgt zs a + 1 ≤ longI zs := (maxL_ge (hgt zs) (List.range zs.length)).2 a (List.mem_range.2 ha)

theorem chain_le {zs : List Int} (h : VoP zs) {s : Int} (h0 : 0 ≤ s) (h1 : s < powI zs.length) (hc : chB zs s = true) : popI s ≤ longI zs := by
  have hpn := powI_le6 (n := (zs.length : Int)) (by have := h.1; omega)
  have hm : ∀ a ∈ itemsL s, a < zs.length := fun a ha => bitB_lt h1 ((mem_itemsL (by omega)).1 ha)
  have hC : ChP zs s := by simpa [chB] using hc
  have hp : ((itemsL s).map fun a => (hgt zs a).toNat).Pairwise (· ≠ ·) := by
    rw [List.pairwise_map]
    refine List.Pairwise.imp_of_mem ?_ hC
    intro a b ha hb hr he
    have hna := hgt_nn zs a
    have hnb := hgt_nn zs b
    simp only [relB, Bool.or_eq_true] at hr
    rcases hr with hr | hr
    · have := hgt_up h ⟨hm a ha, hr⟩; omega
    · have := hgt_up h ⟨hm b hb, hr⟩; omega
  have hk := pigeon (longI zs).toNat _ hp (fun x hx => by
    obtain ⟨a, ha, rfl⟩ := List.mem_map.1 hx
    have h2 := longI_gt (zs := zs) (hm a ha)
    have h3 := hgt_nn zs a
    show (hgt zs a).toNat < _
    omega)
  rw [List.length_map] at hk
  have := longI_nn zs
  rw [popI_items h0 (by omega)]
  omega

theorem popI_or_fin : ∀ k : Fin 64, ∀ j : Fin 6, bitB (k.val : Int) (j.val : Int) = false → popI (orI (k.val : Int) (powI (j.val : Int))) = popI (k.val : Int) + 1 := by decide +kernel
theorem popI_or {s : Int} {j : Nat} (h0 : 0 ≤ s) (h1 : s < 64) (hj : j < 6) (hb : bitB s j = false) : popI (orI s (powI j)) = popI s + 1 := by
  obtain ⟨k, rfl⟩ := Int.eq_ofNat_of_zero_le h0
  exact popI_or_fin ⟨k, by omega⟩ ⟨j, hj⟩ hb
theorem popI_pow_fin : ∀ j : Fin 6, popI (powI (j.val : Int)) = 1 := by decide +kernel

/-- Under each item there is a chain as long as its height tells. -/
theorem chain_ex {zs : List Int} (h : VoP zs) : ∀ (m b : Nat), b < zs.length → hgt zs b = m →
    ∃ s, 0 ≤ s ∧ s < powI zs.length ∧ ChP zs s ∧ popI s = m + 1 ∧ (∀ c : Nat, bitB s c = true → c = b ∨ lt zs c b)
  | 0, b, hb, hm => by
    have h6 := h.1
    refine ⟨powI b, Int.le_of_lt (powI_pos _), powI_lt hb, ?_, by have := popI_pow_fin ⟨b, by omega⟩; simpa using this, fun c hc => ?_⟩
    · have hp6 := powI_lt (k := b) (n := 6) (by omega)
      rw [ChP_iff (by simpa [powI] using hp6)]
      intro a c ha hc hac
      rw [bitB_pow] at ha hc
      have := of_decide_eq_true ha
      have := of_decide_eq_true hc
      omega
    · rw [bitB_pow] at hc
      exact .inl (of_decide_eq_true hc).symm
  | m + 1, b, hb, hm => by
    have h6 := h.1
    have hpn := powI_le6 (n := (zs.length : Int)) (by omega)
    rcases hgt_eq h hb with e | ⟨a, hl, e⟩
    · omega
    · obtain ⟨s, hs0, hs1, hC, hp, hall⟩ := chain_ex h m a hl.1 (by omega)
      have hnb : bitB s b = false := by
        cases hc : bitB s b with
        | false => rfl
        | true =>
          rcases hall b hc with rfl | h2
          · exact absurd hl h.irr
          · exact absurd (h.trans hl h2) h.irr
      have hlb : ∀ c : Nat, bitB s c = true → lt zs c b := fun c hc => by
        rcases hall c hc with rfl | h2
        · exact hl
        · exact h.trans h2 hl
      have hob := orI_bd (n := (zs.length : Int)) hs0 hs1 (Int.le_of_lt (powI_pos _)) (powI_lt hb)
      refine ⟨orI s (powI b), hob.1, hob.2, ?_, by rw [popI_or hs0 (by omega) (by omega) hnb, hp]; omega, fun c hc => ?_⟩
      · rw [ChP_iff (by omega)]
        intro x y hx hy hxy
        rw [bitB_or, bitB_pow] at hx hy
        simp only [Bool.or_eq_true, decide_eq_true_eq] at hx hy
        unfold relB
        rcases hx with hx | rfl <;> rcases hy with hy | rfl
        · exact (ChP_iff (by omega)).1 hC x y hx hy hxy
        · simp [(hlb x hx).2]
        · simp [(hlb y hy).2]
        · omega
      · rw [bitB_or, bitB_pow] at hc
        simp only [Bool.or_eq_true, decide_eq_true_eq] at hc
        rcases hc with hc | rfl
        · exact .inr (hlb c hc)
        · exact .inl rfl

/-- How many sets there are. -/
def setsN (zs : List Int) : Nat := 2 ^ zs.length
theorem setsN_pow (zs : List Int) : powI zs.length = (setsN zs : Int) := by simp [powI, setsN]
theorem gr_long {zs : List Int} (h : VoP zs) : grTo (chB zs) (setsN zs) = longI zs := by
  have hN := setsN_pow zs
  have hle : grTo (chB zs) (setsN zs) ≤ longI zs := grTo_le (longI_nn zs) _ (fun j hj hp => chain_le h (by omega) (by omega) hp)
  have hge : longI zs ≤ grTo (chB zs) (setsN zs) := by
    rcases maxL_eq (hgt zs) (List.range zs.length) with e | ⟨a, ha, e⟩
    · have := grTo_nn (chB zs) (setsN zs); unfold longI; omega
    · have hnn := hgt_nn zs a
      obtain ⟨s, hs0, hs1, hC, hp, -⟩ := chain_ex h (hgt zs a).toNat a (List.mem_range.1 ha) (by omega)
      obtain ⟨k, rfl⟩ := Int.eq_ofNat_of_zero_le hs0
      have := grTo_ge (p := chB zs) (j := k) (by simpa [chB] using hC) (setsN zs) (by omega)
      unfold longI; omega
  omega

/-- How many of the sets less than k of each size are counted. -/
def cntTo (p : Int → Bool) (len : Nat) : Nat → List Int
  | 0 => List.replicate len 0
  | k + 1 => if p (k : Int) then (cntTo p len k).set (popI (k : Int)).toNat ((cntTo p len k)[(popI (k : Int)).toNat]?.getD 0 + 1) else cntTo p len k
theorem cntTo_len (p : Int → Bool) (len : Nat) : ∀ k : Nat, (cntTo p len k).length = len
  | 0 => by simp [cntTo]
  | k + 1 => by unfold cntTo; split <;> simp [cntTo_len p len k]
theorem cntTo_bd (p : Int → Bool) (len : Nat) : ∀ (k i : Nat), 0 ≤ (cntTo p len k)[i]?.getD 0 ∧ (cntTo p len k)[i]?.getD 0 ≤ k
  | 0, i => by
    have : (List.replicate len (0 : Int))[i]?.getD 0 = 0 := by by_cases h : i < len <;> simp [h]
    simp [cntTo, this]
  | k + 1, i => by
    have h1 := cntTo_bd p len k i
    have h2 := cntTo_bd p len k (popI (k : Int)).toNat
    unfold cntTo
    split
    · by_cases hi : (popI (k : Int)).toNat = i
      · subst hi
        by_cases hl : (popI (k : Int)).toNat < (cntTo p len k).length
        · rw [List.getElem?_set_self hl]; simp only [Option.getD_some]; omega
        · rw [List.set_eq_of_length_le (by omega)]; omega
      · rw [List.getElem?_set_ne hi]; omega
    · omega
theorem cntTo_take (p : Int → Bool) {len m : Nat} (hm : m ≤ len) : ∀ k : Nat, (∀ j : Nat, j < k → p (j : Int) = true → (popI (j : Int)).toNat < m) → (cntTo p len k).take m = cntTo p m k
  | 0, _ => by simp [cntTo, List.take_replicate, hm]
  | k + 1, h => by
    have ih := cntTo_take p hm k (fun j hj => h j (by omega))
    unfold cntTo
    split
    · rename_i hp
      have hlt := h k (by omega) hp
      rw [List.take_set, ih, ← ih, List.getElem?_take_of_lt hlt]
    · exact ih
/-- How many chains of each size there are. -/
def chainsR (zs : List Int) : List Int := if vo zs then cntTo (chB zs) ((longI zs).toNat + 1) (setsN zs) else []
theorem chains_take {zs : List Int} (h : VoP zs) : (cntTo (chB zs) (zs.length + 1) (setsN zs)).take ((longI zs).toNat + 1) = cntTo (chB zs) ((longI zs).toNat + 1) (setsN zs) := by
  have hN := setsN_pow zs
  have hb := longI_bd h
  have hn := longI_nn zs
  exact cntTo_take _ (by omega) _ (fun j hj hp => by
    have := chain_le h (s := (j : Int)) (by omega) (by omega) hp
    omega)

/-- The items less than k of each height. -/
def lvTo (zs : List Int) : Nat → List Int
  | 0 => List.replicate (longI zs).toNat 0
  | k + 1 => (lvTo zs k).set (hgt zs k).toNat (orI ((lvTo zs k)[(hgt zs k).toNat]?.getD 0) (powI k))
theorem lvTo_len (zs : List Int) : ∀ k : Nat, (lvTo zs k).length = (longI zs).toNat
  | 0 => by simp [lvTo]
  | k + 1 => by simp [lvTo, lvTo_len zs k]
theorem lvTo_bd (zs : List Int) : ∀ (k i : Nat), 0 ≤ (lvTo zs k)[i]?.getD 0 ∧ (lvTo zs k)[i]?.getD 0 < powI k
  | 0, i => by
    have : (List.replicate (longI zs).toNat (0 : Int))[i]?.getD 0 = 0 := by by_cases h : i < (longI zs).toNat <;> simp [h]
    simp [lvTo, this, powI]
  | k + 1, i => by
    have h1 := lvTo_bd zs k i
    have h2 := lvTo_bd zs k (hgt zs k).toNat
    have hp : powI (k : Int) < powI ((k + 1 : Nat) : Int) := powI_lt (by omega)
    unfold lvTo
    by_cases hi : (hgt zs k).toNat = i
    · subst hi
      by_cases hl : (hgt zs k).toNat < (lvTo zs k).length
      · rw [List.getElem?_set_self hl]
        exact orI_bd h2.1 (by omega) (Int.le_of_lt (powI_pos _)) hp
      · rw [List.set_eq_of_length_le (by omega)]; omega
    · rw [List.getElem?_set_ne hi]; omega
def levelsR (zs : List Int) : List Int := if vo zs then lvTo zs zs.length else []
end Go.Proofs.YtdcdddmjffgibaaGreat

/- The model's test of sets. -/
namespace Go.Proofs.YtdcdddmjffgibaaGreat
open Go.RowKit Go.Shelf
attribute [local go_sem] Oper.semAt_some
attribute [local go_sem, local simp] wide_fn
end Go.Proofs.YtdcdddmjffgibaaGreat

/- The model's tests of chains and of sets apart. -/
namespace Go.Proofs.YtdcdddmjffgibaaGreat
open Go.RowKit

theorem relB_comm (zs : List Int) (a b : Nat) : relB zs a b = relB zs b a := by unfold relB; rw [Bool.or_comm]
/-- The item at place a of a set. -/
def itAt (s : Int) (a : Nat) : Nat := (itemsL s)[a]?.getD 0
theorem itAt_mem {s : Int} {a : Nat} (ha : a < (itemsL s).length) : itAt s a ∈ itemsL s := by
  unfold itAt; rw [List.getElem?_eq_getElem ha]; exact List.getElem_mem ha
theorem itAt_cast {s : Int} {a : Nat} (ha : a < (itemsL s).length) : (((itemsL s).map fun x : Nat => (x : Int))[a]?.getD 0) = (itAt s a : Int) := by
  unfold itAt; rw [List.getElem?_map, List.getElem?_eq_getElem ha]; rfl
theorem itAt_lt {n : Nat} {s : Int} {a : Nat} (hn : n ≤ 6) (h1 : s < powI n) (ha : a < (itemsL s).length) : itAt s a < n := by
  have hpn := powI_le6 (n := (n : Int)) (by omega)
  exact bitB_lt h1 ((mem_itemsL (by omega)).1 (itAt_mem ha))
theorem chB_of {zs : List Int} {s : Int} (h : ∀ a, a < (itemsL s).length → ∀ b, b < a → relB zs (itAt s a) (itAt s b) = true) : chB zs s = true := by
  unfold chB
  rw [decide_eq_true_eq]
  refine List.pairwise_iff_getElem.2 fun i j hi hj hij => ?_
  have := h j hj i hij
  rw [relB_comm] at this
  simpa [itAt, hi, hj] using this
theorem chB_not {zs : List Int} {s : Int} {a b : Nat} (ha : a < (itemsL s).length) (hb : b < a) (h : relB zs (itAt s a) (itAt s b) = false) : chB zs s = false := by
  unfold chB
  rw [decide_eq_false_iff_not]
  intro hc
  have := List.pairwise_iff_getElem.1 hc b a (by omega) ha hb
  rw [relB_comm] at this
  simp [itAt, ha, Nat.lt_trans hb ha] at h
  simp [h] at this
theorem apB_of {zs : List Int} {s : Int} (h : ∀ a, a < (itemsL s).length → (andI (zs[itAt s a]?.getD 0) s == 0) = true) : apB zs s = true := by
  unfold apB
  rw [List.all_eq_true]
  intro x hx
  obtain ⟨i, hi, rfl⟩ := List.getElem_of_mem hx
  have := h i hi
  simpa [itAt, hi] using this
theorem apB_not {zs : List Int} {s : Int} {a : Nat} (ha : a < (itemsL s).length) (h : (andI (zs[itAt s a]?.getD 0) s == 0) = false) : apB zs s = false := by
  unfold apB
  cases hc : (itemsL s).all fun a => andI (zs[a]?.getD 0) s == 0 with
  | false => rfl
  | true => rw [List.all_eq_true.1 hc _ (itAt_mem ha)] at h; cases h

end Go.Proofs.YtdcdddmjffgibaaGreat

/- Rows that grew by append: their block has spare cells behind; marking them. -/
namespace Go.Proofs.YtdcdddmjffgibaaGreat
open Go.RowKit

/-- A row at the head of a block of numbers' cells, in a block from lo up to less than hi (empty ones may lie anywhere). -/
def RowV (w : World) (lo hi : Nat) (A : Option Addr) (n : Nat) (xs : List Int) : Prop :=
  xs.length = n ∧ (0 < n → ∃ b cur, A = some ⟨b, 0, none⟩ ∧ lo ≤ b ∧ b < hi ∧ w.heap[b]? = some (.cells cur 3 (0, 0)) ∧ cur.toList.take n = xs.map (Value.int .i64))
section
variable {w w' : World} {lo hi n : Nat} {A : Option Addr} {xs : List Int} {R : Nat → Prop}
theorem RowV.len (h : RowV w lo hi A n xs) : xs.length = n := h.1
theorem RowV.nil (w : World) (lo hi : Nat) (A : Option Addr) : RowV w lo hi A 0 [] := ⟨rfl, fun h => absurd h (by omega)⟩
theorem RowV.upd (h : RowV w lo hi A n xs) (hu : Upd R w w') (hr : ∀ j, R j → j < lo ∨ hi ≤ j) : RowV w' lo hi A n xs :=
  ⟨h.1, fun hn => by
    obtain ⟨b, cur, e, hl, hb, hc, ht⟩ := h.2 hn
    exact ⟨b, cur, e, hl, hb, (hu.block b (Array.getElem?_eq_some_iff.1 hc).1 (fun hr' => by have := hr b hr'; omega)).trans hc, ht⟩⟩
theorem RowV.below {B : Nat} (h : RowV w lo hi A n xs) (hu : Below B w w') (hB : hi ≤ B) : RowV w' lo hi A n xs := h.upd (Below.toUpd hu) (fun j hj => by omega)
theorem RowV.more {lo' hi' : Nat} (h : RowV w lo hi A n xs) (h1 : lo' ≤ lo) (h2 : hi ≤ hi') : RowV w lo' hi' A n xs :=
  ⟨h.1, fun hn => by
    obtain ⟨b, cur, e, hl, hb, hc⟩ := h.2 hn
    exact ⟨b, cur, e, by omega, by omega, hc⟩⟩
theorem take_at {cur : Array Value} {n j : Nat} {ys : List Value} (h : cur.toList.take n = ys) (hj : j < n) : cur[j]? = ys[j]? := by
  rw [← h, List.getElem?_take, if_pos hj, Array.getElem?_toList]
theorem RowV.told (h : RowV w lo hi A n xs) : RowC w lo hi A n xs :=
  ⟨h.1, fun hn => by
    obtain ⟨b, cur, e, hl, hb, hc, ht⟩ := h.2 hn
    refine ⟨b, e, hl, hb, fun j hj => ?_⟩
    have hj2 : j < xs.length := by rw [h.1]; exact hj
    rw [cell_of_row w b j _ _ (0, 0) hc, take_at ht hj, List.getElem?_map, List.getElem?_eq_getElem hj2]
    simp⟩
theorem RowV.ints (h : RowV w lo hi A n xs) {B : Nat} (hB : hi ≤ B) : Ints w B A n xs := h.told.ints hB
theorem rowV_of_own {base m : Nat} {v : Value} (h : w.ownsRow base 3 1 v m (xs.map (Value.int .i64))) : ∃ A c, v = .slice A m c ∧ RowV w base w.heap.size A m xs := by
  have hl : xs.length = m := by simpa using h.1
  rcases h.2 with ⟨rfl, rfl⟩ | ⟨g, cap, cur, rfl, hg, hc, _, _, _, ht⟩
  · obtain rfl : xs = [] := List.eq_nil_of_length_eq_zero hl
    exact ⟨none, 0, rfl, RowV.nil _ _ _ _⟩
  · exact ⟨_, cap, rfl, hl, fun _ => ⟨g, cur, rfl, hg, (Array.getElem?_eq_some_iff.1 hc).1, hc, by simpa using ht⟩⟩
end

/-- What a function that hands back a new row of numbers does. -/
def GivesRowV (w : World) (xs : List Int) (e : Ending) (w' : World) : Prop := ∃ A n c, e = .returned (.slice A n c) ∧ RowV w' w.heap.size w'.heap.size A n xs ∧ Below w.heap.size w w'
/-- What a function that hands back a new row and whether there is one does. -/
def GivesAtV (w : World) (xs : List Int) (t : Bool) (e : Ending) (w' : World) : Prop := ∃ A n c, e = .returned (.tuple #[.slice A n c, .bool t]) ∧ RowV w' w.heap.size w'.heap.size A n xs ∧ Below w.heap.size w w'
theorem RowV.set0 {w : World} {lo hi n : Nat} {A : Option Addr} {xs : List Int} (h : RowV w lo hi A n xs) {b : Nat} (hA : A = some ⟨b, 0, none⟩) (v : Int) : RowV (w.setCell ⟨b, 0, none⟩ (.int .i64 v)) lo hi A n (xs.set 0 v) :=
  ⟨by rw [List.length_set]; exact h.1, fun hn => by
    obtain ⟨b', cur, e, hl, hb, hc, ht⟩ := h.2 hn
    rw [hA] at e
    cases e
    exact ⟨b, cur.setIfInBounds 0 (.int .i64 v), hA, hl, hb, by simp [World.setCell, Array.getElem?_modify, hc], by rw [Array.toList_setIfInBounds, List.take_set, ht, ← List.map_set]⟩⟩
theorem RowV.cell {w : World} {lo hi n : Nat} {A : Option Addr} {xs : List Int} (h : RowV w lo hi A n xs) (hn : 0 < n) : ∃ b, A = some ⟨b, 0, none⟩ ∧ lo ≤ b ∧ b < hi ∧ (∀ j, w.frozen? ⟨b, j, none⟩ = false) ∧ ∀ j, j < n → w.cell? ⟨b, j, none⟩ = some (.int .i64 (xs[j]?.getD 0)) := by
  obtain ⟨b, cur, e, hl, hb, hc, ht⟩ := h.2 hn
  obtain ⟨b', e', _, _, hcell⟩ := h.told.2 hn
  rw [e] at e'
  cases e'
  exact ⟨b, e, hl, hb, fun j => frozen_of_row _ _ j _ _ hc, hcell⟩
end Go.Proofs.YtdcdddmjffgibaaGreat

/- slices.Clone of an order; a row under way whose cells are stored into; what a list of sets tells, of two lists. -/
namespace Go.Proofs.YtdcdddmjffgibaaGreat
open Go.RowKit Go.Shelf
attribute [local go_sem] Oper.semAt_some
attribute [local go_sem, local simp] wide_fn

section
variable {P : Program} (w : World)
theorem wpList_appendK {ops : Array Oper} {rest : List Oper} {o : Oper} {a : Act} {Q : Exit → Act → World → Prop} (hgd : o.guard = none) (s x : Operand) (t : TypeId)
    (ho : o.op = .call { callee := .builtin .append, args := #[s, x], argTypes := #[t, t] })
    (base : Nat) (e : TypeId) (i : TypeInfo) (z : Value) (bytes : Nat) (ht : P.underlying t = some (.slice e)) (hi : P.info? e = some i) (hz : i.zero = some z)
    (hsize : i.size = 1) (hby : i.bytes = bytes) (hzs : z.cells.size = 1)
    (v : Value) (n : Nat) (xs : List Value) (hs : a.eval s = v) (hown : w.ownsRow base e 1 v n xs)
    (ad : Addr) (m c : Nat) (news : List Value) (hx : a.eval x = .slice (some ad) m c) (hl : news.length = m) (hnews : ∀ j u, news[j]? = some u → w.cell? (ad.add j) = some u) (h1 : ∀ u ∈ news, u.oneCell' = true)
    (h63 : n + m ≤ maxLen) (hbytes : (n + m) * bytes ≤ 140737488355328) (hbase : base ≤ w.heap.size)
    (h : ∀ v' w', w'.ownsRow base e 1 v' (n + m) (xs ++ news) → w.grownBy w' v.ownBlock → wpList P ops Q rest (a.put o.dst v') w') : wpList P ops Q (o :: rest) a w := by
  obtain ⟨v', w', hrun, h2, h3, _, _⟩ := run_append_own_at (P := P) w base t o.type e i z 1 bytes ht hi hz hsize hby hzs (by omega) v n xs hown ad m c news (by omega) hnews h1 h63 hbytes hbase
  refine wpList_plain hgd fun K hK => ?_
  unfold Oper.wp execOp
  simp only [ho, resolve, invoke, builtin, Sem.run_bind, Sem.run_pure, Result.andThen_ok, List.map_toArray, List.map_cons, List.map_nil, hs, hx, hrun]
  exact hK _ _ (h v' w' h2 h3)
end
theorem addr_add3 (b k j : Nat) : (⟨b, k, none⟩ : Addr).add j = ⟨b, k + j, none⟩ := by unfold Addr.add; split <;> simp_all
theorem own_set {w : World} {base n g cap : Nat} {e : TypeId} {xs : List Value} (h : w.ownsRow base e 1 (.slice (some ⟨g, 0, none⟩) n cap) n xs) (k : Nat) (u : Value) :
    (w.setCell ⟨g, k, none⟩ u).ownsRow base e 1 (.slice (some ⟨g, 0, none⟩) n cap) n (xs.set k u) := by
  refine ⟨by rw [List.length_set]; exact h.1, ?_⟩
  rcases h.2 with ⟨e, _⟩ | ⟨g', cap', cur, e, hg, hc, h1, h2, h3, ht⟩
  · cases e
  · cases e
    refine .inr ⟨g, cap, cur.setIfInBounds k u, rfl, hg, by simp [World.setCell, Array.getElem?_modify, hc], h1, h2, by simpa using h3, ?_⟩
    rw [Array.toList_setIfInBounds, List.take_set, ht]
theorem own_cell {w : World} {base n g cap : Nat} {e : TypeId} {zs : List Int} (h : w.ownsRow base e 1 (.slice (some ⟨g, 0, none⟩) n cap) n (zs.map (Value.int .i64))) : (∀ j, j < n → w.cell? ⟨g, j, none⟩ = some (.int .i64 (zs[j]?.getD 0))) ∧ (∀ j, w.frozen? ⟨g, j, none⟩ = false) ∧ g < w.heap.size := by
  refine ⟨(own_cells h).2, fun j => ?_, own_lt' h g rfl⟩
  rcases h.2 with ⟨e, _⟩ | ⟨g', cap', cur, e, hg, hc, _⟩
  · cases e
  · cases e
    exact frozen_of_row _ _ j _ _ hc
theorem own_some {w : World} {base n : Nat} {e : TypeId} {v : Value} {xs : List Value} (h : w.ownsRow base e 1 v n xs) (hn : 0 < n) : ∃ g cap, v = .slice (some ⟨g, 0, none⟩) n cap := by
  rcases h.2 with ⟨_, e⟩ | ⟨g, cap, cur, e, _⟩
  · omega
  · exact ⟨g, cap, e⟩

/-- What reading two lists gives. -/
def Reads2 (zs ys : List Int) (n m : Nat) (w : World) (e : Ending) (w' : World) : Prop :=
  Below w.heap.size w w' ∧ ((vo zs = true ∧ vo ys = true ∧ ∃ b b', e = .returned (.tuple #[.slice (some ⟨b, 0, none⟩) n n, .slice (some ⟨b', 0, none⟩) m m, .bool true]) ∧ Arr w' b 59 zs ∧ Arr w' b' 59 ys) ∨
    ((vo zs && vo ys) = false ∧ ∃ A k A' k', e = .returned (.tuple #[.slice A k k, .slice A' k' k', .bool false])))
end Go.Proofs.YtdcdddmjffgibaaGreat

/- The order turned round, as plain mathematics: chains, sets apart and pairs of it are as many. No program. -/
namespace Go.Proofs.YtdcdddmjffgibaaGreat

/-- The order turned round. -/
def du (zs : List Int) : List Int := downP zs.length (pairsL zs)
theorem du_len (zs : List Int) : (du zs).length = zs.length := downP_len _ _
theorem du_bit {zs : List Int} (h : Sets zs) (a b : Nat) : bitB ((du zs)[b]?.getD 0) a = bitB (zs[a]?.getD 0) b := by
  have hn : ∀ p ∈ pairsL zs, p.2 < zs.length := fun p hp => (h.pair (a := p.1) (b := p.2) hp).2.1
  have key : bitB ((du zs)[b]?.getD 0) a = true ↔ bitB (zs[a]?.getD 0) b = true := by
    unfold du
    rw [downP_bit hn, mem_pairsL]
    constructor
    · exact fun e => e.2.2
    · intro e
      have ha : a < zs.length := by
        rcases Nat.lt_or_ge a zs.length with h1 | h1
        · exact h1
        · rw [List.getElem?_eq_none (by omega), Option.getD_none, bitB_zero] at e; cases e
      have hb := bitB_lt (h.2 a ha).2 e
      have := h.1
      exact ⟨ha, by omega, e⟩
  cases h1 : bitB ((du zs)[b]?.getD 0) a <;> cases h2 : bitB (zs[a]?.getD 0) b <;> simp_all
theorem du_sets {zs : List Int} (h : Sets zs) : Sets (du zs) := down_sets h
theorem du_lt {zs : List Int} (h : VoP zs) (a b : Nat) : lt (du zs) b a ↔ lt zs a b := by
  unfold lt
  rw [du_bit h.sets, du_len]
  constructor
  · rintro ⟨_, e⟩
    refine ⟨?_, e⟩
    rcases Nat.lt_or_ge a zs.length with h1 | h1
    · exact h1
    · rw [List.getElem?_eq_none (by omega), Option.getD_none, bitB_zero] at e; cases e
  · rintro ⟨ha, e⟩
    exact ⟨bitB_lt (h.sets.2 a ha).2 e, e⟩
theorem du_vo {zs : List Int} (h : VoP zs) : VoP (du zs) := by
  have hs := du_sets h.sets
  refine ⟨hs.1, fun a ha => ?_, fun a ha b hb => ?_⟩
  · have h1 := hs.2 a ha
    have h2 : bitB ((du zs)[a]?.getD 0) a = false := by
      rw [du_bit h.sets]
      cases e : bitB (zs[a]?.getD 0) a
      · rfl
      · exact absurd ⟨by rw [du_len] at ha; exact ha, e⟩ (h.irr (a := a))
    unfold okA inB
    rw [h2]
    simp only [Bool.not_false, Bool.and_true, decide_eq_true_eq]
    omega
  · unfold okP
    cases e : bitB ((du zs)[a]?.getD 0) b
    · rfl
    · have hab : lt zs b a := (du_lt h b a).1 ⟨ha, e⟩
      have h1 : lessI ((du zs)[b]?.getD 0) ((du zs)[a]?.getD 0) = 0 := by
        refine bitB_ext (lessI_bd _ _).1 (Int.le_refl _) fun j => ?_
        rw [bitB_less, bitB_zero]
        cases e1 : bitB ((du zs)[b]?.getD 0) j
        · rfl
        · have hjb := (du_lt h j b).1 ⟨hb, e1⟩
          have := ((du_lt h j a).2 (h.trans hjb hab)).2
          rw [this]; rfl
      have h2 : bitB ((du zs)[b]?.getD 0) a = false := by
        cases e2 : bitB ((du zs)[b]?.getD 0) a
        · rfl
        · exact absurd (h.trans hab ((du_lt h a b).1 ⟨hb, e2⟩)) h.irr
      rw [h1, h2]; rfl
theorem du_du {zs : List Int} (h : VoP zs) : du (du zs) = zs := by
  have hl : (du (du zs)).length = zs.length := by rw [du_len, du_len]
  refine List.ext_getElem hl fun j h1 h2 => ?_
  have e1 := (du_vo (du_vo h)).bd j h1
  have e2 := h.bd j h2
  have hb : ∀ k : Nat, bitB ((du (du zs))[j]?.getD 0) k = bitB (zs[j]?.getD 0) k := fun k => by rw [du_bit (du_vo h).sets, du_bit h.sets]
  have := bitB_ext e1.1 e2.1 hb
  rwa [List.getElem?_eq_getElem h1, List.getElem?_eq_getElem h2, Option.getD_some, Option.getD_some] at this

theorem du_rel {zs : List Int} (h : Sets zs) (a b : Nat) : relB (du zs) a b = relB zs a b := by
  unfold relB
  rw [du_bit h, du_bit h, Bool.or_comm]
theorem du_chB {zs : List Int} (h : Sets zs) (s : Int) : chB (du zs) s = chB zs s := by
  unfold chB ChP
  have : (fun a b => relB (du zs) a b = true) = fun a b => relB zs a b = true := by funext a b; rw [du_rel h]
  simp only [this]
theorem du_chBf {zs : List Int} (h : Sets zs) : chB (du zs) = chB zs := funext fun s => du_chB h s
theorem andI_zero {z s : Int} : andI z s = 0 ↔ ∀ b : Nat, bitB s b = true → bitB z b = false := by
  constructor
  · intro e b hb
    have := bitB_and z s b
    rw [e, bitB_zero, hb] at this
    simpa using this.symm
  · intro e
    refine bitB_ext (by unfold andI; omega) (Int.le_refl _) fun j => ?_
    rw [bitB_and, bitB_zero]
    cases e1 : bitB s j
    · simp
    · rw [e j e1]; rfl
theorem apB_iff {zs : List Int} {s : Int} (h1 : s < 64) : apB zs s = true ↔ ∀ a b : Nat, bitB s a = true → bitB s b = true → bitB (zs[a]?.getD 0) b = false := by
  unfold apB
  rw [List.all_eq_true]
  constructor
  · intro e a b ha hb
    have := e a ((mem_itemsL h1).2 ha)
    exact andI_zero.1 (by simpa using this) b hb
  · intro e a ha
    have := (andI_zero (z := zs[a]?.getD 0)).2 (fun b hb => e a b ((mem_itemsL h1).1 ha) hb)
    simpa using this
theorem du_apB {zs : List Int} (h : Sets zs) {s : Int} (h1 : s < 64) : apB (du zs) s = apB zs s := by
  have key : apB (du zs) s = true ↔ apB zs s = true := by
    rw [apB_iff h1, apB_iff h1]
    constructor
    · intro e a b ha hb
      have := e b a hb ha
      rwa [du_bit h] at this
    · intro e a b ha hb
      rw [du_bit h]
      exact e b a hb ha
  cases e1 : apB (du zs) s <;> cases e2 : apB zs s <;> simp_all
theorem grTo_congr {p q : Int → Bool} : ∀ k : Nat, (∀ j : Nat, j < k → p (j : Int) = q (j : Int)) → grTo p k = grTo q k
  | 0, _ => rfl
  | k + 1, h => by
    unfold grTo
    rw [h k (by omega), grTo_congr k fun j hj => h j (by omega)]
theorem setsN_le {zs : List Int} (h : zs.length ≤ 6) : setsN zs ≤ 64 := Nat.pow_le_pow_right (n := 2) (by decide) h
theorem du_setsN (zs : List Int) : setsN (du zs) = setsN zs := by unfold setsN; rw [du_len]
theorem du_wide {zs : List Int} (h : VoP zs) : grTo (apB (du zs)) (setsN zs) = grTo (apB zs) (setsN zs) :=
  grTo_congr _ fun j hj => du_apB h.sets (by have := setsN_le h.1; omega)
theorem du_long {zs : List Int} (h : VoP zs) : longI (du zs) = longI zs := by
  rw [← gr_long (du_vo h), ← gr_long h, du_chBf h.sets, du_setsN]

/-! Pairs. -/
theorem cl_flip (r : Nat → Nat → Bool) : ∀ l : List Nat, (∀ a ∈ l, r a a = false) → cl (fun a b => r b a) l l = cl r l l
  | [], _ => rfl
  | x :: l, h => by
    have h1 := cl_self r (x := x) (l := l) (h x (by simp))
    have h2 : cl (fun a b => r b a) (x :: l) (x :: l) = (l.filter fun a => r a x).length + (l.filter (r x)).length + cl (fun a b => r b a) l l := cl_self (fun a b => r b a) (x := x) (h x (by simp))
    rw [h1, h2, cl_flip r l fun a ha => h a (by simp [ha])]
    omega
/-- b is above a. -/
def upB (zs : List Int) (a b : Nat) : Bool := bitB (zs[a]?.getD 0) b
/-- How many pairs an order has, as mathematics. -/
def prs (zs : List Int) : Nat := cl (upB zs) (List.range zs.length) (List.range zs.length)
theorem popTo_cl {zs : List Int} (h : Sets zs) : ∀ k : Nat, k ≤ zs.length → popTo zs k = cl (upB zs) (List.range k) (List.range zs.length)
  | 0, _ => rfl
  | k + 1, hk => by
    have hb := h.bd k (by omega)
    unfold popTo
    rw [popTo_cl h k (by omega), popI_items hb.1 hb.2, ← itemsTo_all (h.2 k (by omega)).2 h.1]
    unfold cl
    rw [List.range_succ, List.map_append, List.sum_append]
    simp [itemsTo]
    rfl
theorem popTo_prs {zs : List Int} (h : Sets zs) : popTo zs zs.length = prs zs := popTo_cl h _ (Nat.le_refl _)
theorem du_prs {zs : List Int} (h : VoP zs) : prs (du zs) = prs zs := by
  unfold prs
  rw [du_len]
  have : upB (du zs) = fun a b : Nat => upB zs b a := by funext a b; unfold upB; rw [du_bit h.sets]
  rw [this]
  exact cl_flip (upB zs) _ fun a ha => h.irrB (List.mem_range.1 ha)
theorem prs_bd {zs : List Int} (h : VoP zs) : 2 * prs zs + zs.length ≤ zs.length * zs.length := by
  have := (cl_all (upB zs) (List.range zs.length) (fun a ha => h.irrB (List.mem_range.1 ha)) (fun a ha b _ e => h.asym (List.mem_range.1 ha) e)).1
  simpa [prs] using this
theorem prs_none {zs : List Int} (h : VoP zs) (hl : longI zs ≤ 1) : prs zs = 0 := by
  have hno : ∀ a b : Nat, ¬ lt zs a b := fun a b e => by
    have h1 := hgt_up h e
    have h2 := hgt_nn zs a
    have h3 := longI_gt (zs := zs) (h.lt_n e)
    omega
  unfold prs cl
  rw [List.map_congr_left (g := fun _ => 0)]
  · generalize List.range zs.length = l
    induction l with
    | nil => rfl
    | cons x l ih => simpa using ih
  · intro a ha
    rw [List.length_eq_zero_iff, List.filter_eq_nil_iff]
    intro b _ e
    exact hno a b ⟨List.mem_range.1 ha, e⟩

/-! Chains of none, of one and of two items. -/
theorem cnt_get (p : Int → Bool) {len m : Nat} (hm : m < len) : ∀ k : Nat, (cntTo p len k)[m]?.getD 0 = (((List.range k).filter fun j : Nat => p (j : Int) && (popI (j : Int)).toNat == m).length : Int)
  | 0 => by simp [cntTo, hm]
  | k + 1 => by
    have ih := cnt_get p hm k
    rw [List.range_succ, List.filter_append, List.length_append]
    have hl := cntTo_len p len k
    unfold cntTo
    cases hp : p (k : Int)
    · simp [hp, ih]
    · by_cases he : (popI (k : Int)).toNat = m
      · simp [hp, he]
        rw [List.getElem?_eq_getElem (by omega)] at ih
        rw [List.getElem?_set_self (by omega), Option.getD_some, List.getElem?_eq_getElem (by omega), Option.getD_some]
        simp only [Option.getD_some] at ih
        rw [ih]
      · simp [hp, he, ih]
def twos (n : Nat) : List Nat := (List.range n).flatMap fun b => (List.range b).map fun a => 2 ^ a + 2 ^ b
theorem twos_fin : ∀ n : Fin 7, (List.range (2 ^ n.val)).filter (fun j : Nat => (popI (j : Int)).toNat == 2) = twos n.val := by decide +kernel
theorem ones_fin : ∀ n : Fin 7, (List.range (2 ^ n.val)).filter (fun j : Nat => (popI (j : Int)).toNat == 1) = (List.range n.val).map fun a => 2 ^ a := by decide +kernel
theorem noes_fin : ∀ n : Fin 7, (List.range (2 ^ n.val)).filter (fun j : Nat => (popI (j : Int)).toNat == 0) = [0] := by decide +kernel
theorem two_items : ∀ b : Fin 6, ∀ a : Fin b.val, itemsL ((2 ^ a.val + 2 ^ b.val : Nat) : Int) = [a.val, b.val] := by decide +kernel
theorem one_items : ∀ b : Fin 6, itemsL ((2 ^ b.val : Nat) : Int) = [b.val] := by decide +kernel
theorem chB_two (zs : List Int) {a b : Nat} (hab : a < b) (hb : b < 6) : chB zs ((2 ^ a + 2 ^ b : Nat) : Int) = relB zs a b := by
  have h : ChP zs ((2 ^ a + 2 ^ b : Nat) : Int) ↔ relB zs a b = true := by
    unfold ChP
    rw [two_items ⟨b, hb⟩ ⟨a, hab⟩]
    simp
  unfold chB
  cases hr : relB zs a b
  · exact decide_eq_false fun e => by rw [h.1 e] at hr; cases hr
  · exact decide_eq_true (h.2 hr)
theorem chB_one (zs : List Int) {b : Nat} (hb : b < 6) : chB zs ((2 ^ b : Nat) : Int) = true := by
  refine decide_eq_true ?_
  unfold ChP
  rw [one_items ⟨b, hb⟩]
  simp
theorem chB_none (zs : List Int) : chB zs ((0 : Nat) : Int) = true := by
  have : itemsL ((0 : Nat) : Int) = [] := by decide
  refine decide_eq_true ?_
  unfold ChP
  rw [this]
  simp
theorem filter_and {α : Type} (p q : α → Bool) (l : List α) : l.filter (fun j => p j && q j) = (l.filter q).filter p := by rw [List.filter_filter]
theorem or_len (u v : Nat → Bool) : ∀ l : List Nat, (∀ a ∈ l, u a = true → v a = false) → (l.filter fun a => u a || v a).length = (l.filter u).length + (l.filter v).length
  | [], _ => rfl
  | a :: l, h => by
    have ih := or_len u v l fun b hb => h b (by simp [hb])
    have ha := h a (by simp)
    simp only [List.filter_cons]
    cases hu : u a <;> cases hv : v a <;> simp [hu, hv] at ha ⊢ <;> omega
theorem cl_range (r : Nat → Nat → Bool) : ∀ n : Nat, (∀ a, a < n → r a a = false) → cl r (List.range (n + 1)) (List.range (n + 1)) = cl r (List.range n) (List.range n) + ((List.range n).filter (r n)).length + ((List.range n).filter fun a => r a n).length + (if r n n then 1 else 0) := fun n _ => by
  unfold cl
  rw [List.range_succ, List.map_append, List.sum_append]
  have e : ∀ l : List Nat, (l.map fun a => ((List.range n ++ [n]).filter (r a)).length).sum = (l.map fun a => ((List.range n).filter (r a)).length).sum + (l.filter fun a => r a n).length := fun l => by
    induction l with
    | nil => rfl
    | cons a l ih =>
      rw [List.map_cons, List.sum_cons, ih, List.map_cons, List.sum_cons, List.filter_append, List.length_append, List.filter_cons (xs := l)]
      cases h : r a n <;> simp [h] <;> omega
  rw [e]
  cases h : r n n <;> simp [h, List.filter_append] <;> omega
theorem twos_chain {zs : List Int} (h : VoP zs) : ∀ n : Nat, n ≤ zs.length → ((twos n).filter fun j : Nat => chB zs (j : Int)).length = cl (upB zs) (List.range n) (List.range n)
  | 0, _ => rfl
  | n + 1, hn => by
    have h6 := h.1
    have ih := twos_chain h n (by omega)
    rw [cl_range (upB zs) n (fun a ha => h.irrB (show a < zs.length by omega)), ← ih]
    have e1 : twos (n + 1) = twos n ++ (List.range n).map fun a => 2 ^ a + 2 ^ n := by simp [twos, List.range_succ]
    rw [e1, List.filter_append, List.length_append, List.filter_map, List.length_map]
    have e2 : (List.range n).filter ((fun j : Nat => chB zs (j : Int)) ∘ fun a => 2 ^ a + 2 ^ n) = (List.range n).filter fun a => upB zs n a || upB zs a n := by
      refine List.filter_congr fun a ha => ?_
      have := chB_two zs (List.mem_range.1 ha) (show n < 6 by omega)
      simp only [Function.comp]
      rw [this]
      unfold relB upB
      rw [Bool.or_comm]
    have e3 : upB zs n n = false := h.irrB (show n < zs.length by omega)
    rw [e2, or_len (upB zs n) (fun a => upB zs a n) _ (fun a _ e => h.asym (show n < zs.length by omega) e), e3]
    simp
    omega
theorem chains_two {zs : List Int} (h : VoP zs) (hl : 2 ≤ longI zs) : (chainsR zs)[2]?.getD 0 = (prs zs : Int) := by
  have hn := h.1
  unfold chainsR
  rw [vo_true h]
  simp only [if_true]
  rw [cnt_get (chB zs) (len := (longI zs).toNat + 1) (m := 2) (by omega)]
  rw [filter_and (fun j : Nat => chB zs (j : Int)) (fun j : Nat => (popI (j : Int)).toNat == 2)]
  unfold setsN
  rw [twos_fin ⟨zs.length, by omega⟩, twos_chain h _ (Nat.le_refl _)]
  rfl
theorem chains_one {zs : List Int} (h : VoP zs) (hl : 1 ≤ longI zs) : (chainsR zs)[1]?.getD 0 = (zs.length : Int) := by
  have hn := h.1
  unfold chainsR
  rw [vo_true h]
  simp only [if_true]
  rw [cnt_get (chB zs) (len := (longI zs).toNat + 1) (m := 1) (by omega)]
  rw [filter_and (fun j : Nat => chB zs (j : Int)) (fun j : Nat => (popI (j : Int)).toNat == 1)]
  unfold setsN
  rw [ones_fin ⟨zs.length, by omega⟩, List.filter_map, List.length_map, List.filter_eq_self.2]
  · simp
  · intro a ha
    exact chB_one zs (by have := List.mem_range.1 ha; omega)
theorem chains_none {zs : List Int} (h : VoP zs) : (chainsR zs)[0]?.getD 0 = 1 := by
  have hn := h.1
  unfold chainsR
  rw [vo_true h]
  simp only [if_true]
  rw [cnt_get (chB zs) (len := (longI zs).toNat + 1) (m := 0) (by omega)]
  rw [filter_and (fun j : Nat => chB zs (j : Int)) (fun j : Nat => (popI (j : Int)).toNat == 0)]
  unfold setsN
  rw [noes_fin ⟨zs.length, by omega⟩, List.filter_cons, if_pos (chB_none zs)]
  rfl
theorem chains_len {zs : List Int} (h : VoP zs) : (chainsR zs).length = (longI zs).toNat + 1 := by
  unfold chainsR
  rw [vo_true h]
  simp [cntTo_len]
theorem du_chains {zs : List Int} (h : VoP zs) : chainsR (du zs) = chainsR zs := by
  unfold chainsR
  rw [vo_true h, vo_true (du_vo h), du_long h, du_chBf h.sets, du_setsN]
theorem long_pos {zs : List Int} (h : zs.length ≠ 0) : 1 ≤ longI zs := by
  have h1 := longI_gt (zs := zs) (a := 0) (by omega)
  have h2 := hgt_nn zs 0
  omega
end Go.Proofs.YtdcdddmjffgibaaGreat

/- Sets that part all items, as the laws see them. -/
namespace Go.Proofs.YtdcdddmjffgibaaGreat
open Go.RowKit Go.Shelf

/-- All items of the first k sets. -/
def seenTo (xs : List Int) : Nat → Int
  | 0 => 0
  | k + 1 => orI (seenTo xs k) (xs[k]?.getD 0)
theorem seenTo_bit (xs : List Int) (j : Nat) : ∀ k : Nat, bitB (seenTo xs k) j = true ↔ ∃ i, i < k ∧ bitB (xs[i]?.getD 0) j = true
  | 0 => by simp [seenTo, bitB_zero]
  | k + 1 => by
    unfold seenTo
    rw [bitB_or, Bool.or_eq_true, seenTo_bit xs j k]
    constructor
    · rintro (⟨i, hi, e⟩ | e)
      · exact ⟨i, by omega, e⟩
      · exact ⟨k, by omega, e⟩
    · rintro ⟨i, hi, e⟩
      by_cases hik : i = k
      · subst hik; exact .inr e
      · exact .inl ⟨i, by omega, e⟩
theorem seenTo_bd {xs : List Int} {n : Nat} (h : ∀ i, i < xs.length → 0 ≤ xs[i]?.getD 0 ∧ xs[i]?.getD 0 < powI n) : ∀ k : Nat, k ≤ xs.length → 0 ≤ seenTo xs k ∧ seenTo xs k < powI n
  | 0, _ => ⟨Int.le_refl _, powI_pos _⟩
  | k + 1, hk => by
    have h1 := seenTo_bd h k (by omega)
    have h2 := h k (by omega)
    exact orI_bd h1.1 h1.2 h2.1 h2.2
/-- Each item is in just one of the sets. -/
structure PartsOk (xs : List Int) (n : Nat) : Prop where
  n6 : n ≤ 6
  bd : ∀ i, i < xs.length → 0 ≤ xs[i]?.getD 0 ∧ xs[i]?.getD 0 < powI n
  apart : ∀ i k j : Nat, i < k → k < xs.length → bitB (xs[i]?.getD 0) j = true → bitB (xs[k]?.getD 0) j = true → False
  all : ∀ j : Nat, j < n → ∃ i, i < xs.length ∧ bitB (xs[i]?.getD 0) j = true
theorem all_bits {n : Nat} : ∀ j : Nat, bitB (powI n - 1) j = decide (j < n) := fun j => by
  have e : (powI (n : Int) - 1).toNat = 2 ^ n - 1 := by
    have : powI (n : Int) = ((2 ^ n : Nat) : Int) := by simp [powI]
    omega
  simp [bitB, e, Nat.testBit_two_pow_sub_one]
theorem PartsOk.seen {xs : List Int} {n : Nat} (h : PartsOk xs n) : seenTo xs xs.length = powI n - 1 := by
  have hb := seenTo_bd h.bd xs.length (Nat.le_refl _)
  have hp := powI_pos (n : Int)
  refine bitB_ext hb.1 (by omega) fun j => ?_
  rw [all_bits]
  by_cases hj : j < n
  · have := (seenTo_bit xs j xs.length).2 (h.all j hj)
    rw [this]; simp [hj]
  · cases e : bitB (seenTo xs xs.length) j
    · simp [hj]
    · exact absurd (bitB_lt hb.2 e) hj
theorem PartsOk.no {xs : List Int} {n k : Nat} (h : PartsOk xs n) (hk : k < xs.length) : andI (seenTo xs k) (xs[k]?.getD 0) = 0 := by
  refine bitB_ext (andI_bd _ _).1 (Int.le_refl _) fun j => ?_
  rw [bitB_and, bitB_zero]
  cases e : bitB (seenTo xs k) j
  · rfl
  · cases e2 : bitB (xs[k]?.getD 0) j
    · rfl
    · obtain ⟨i, hi, hb⟩ := (seenTo_bit xs j k).1 e
      exact (h.apart i k j hi hk hb e2).elim

end Go.Proofs.YtdcdddmjffgibaaGreat

/- Tops: words, the model's helper and the program's. -/
namespace Go.Proofs.YtdcdddmjffgibaaGreat
open Go.RowKit Go.Shelf
attribute [local go_sem] Oper.semAt_some
attribute [local go_sem, local simp] wide_fn

/-- The items of s less than k above which there is none of s. -/
def topsTo (zs : List Int) (s : Int) : Nat → Int
  | 0 => 0
  | k + 1 => if bitB s k && andI (zs[k]?.getD 0) s == 0 then orI (topsTo zs s k) (powI k) else topsTo zs s k
theorem topsTo_bd (zs : List Int) (s : Int) : ∀ k : Nat, 0 ≤ topsTo zs s k ∧ topsTo zs s k < powI k
  | 0 => by simp [topsTo, powI]
  | k + 1 => by
    have h := topsTo_bd zs s k
    have hp : powI (k : Int) < powI ((k + 1 : Nat) : Int) := powI_lt (by omega)
    unfold topsTo
    split
    · exact orI_bd h.1 (by omega) (Int.le_of_lt (powI_pos _)) hp
    · omega
theorem topsTo_yes {zs : List Int} {s : Int} {k : Nat} (h : bitB s k = true) (h2 : (andI (zs[k]?.getD 0) s == 0) = true) : topsTo zs s (k + 1) = orI (topsTo zs s k) (powI k) := by simp [topsTo, h, h2]
theorem topsTo_no {zs : List Int} {s : Int} {k : Nat} (h : bitB s k = false ∨ (andI (zs[k]?.getD 0) s == 0) = false) : topsTo zs s (k + 1) = topsTo zs s k := by
  rcases h with h | h <;> simp [topsTo, h]
def topsR (zs : List Int) (s : Int) : Int := if vo zs && inB s 0 (powI zs.length - 1) then topsTo zs s zs.length else -1

theorem topsTo_bit {zs : List Int} {s : Int} (j : Nat) : ∀ k : Nat, bitB (topsTo zs s k) j = true ↔ j < k ∧ bitB s j = true ∧ andI (zs[j]?.getD 0) s = 0
  | 0 => by simp [topsTo, bitB_zero]
  | k + 1 => by
    have ih := topsTo_bit (zs := zs) (s := s) j k
    cases hc : (bitB s k && andI (zs[k]?.getD 0) s == 0)
    · have e : topsTo zs s (k + 1) = topsTo zs s k := by simp only [topsTo]; rw [hc]; rfl
      rw [e, ih]
      constructor
      · rintro ⟨h1, h2⟩; exact ⟨by omega, h2⟩
      · rintro ⟨h1, h2, h3⟩
        refine ⟨?_, h2, h3⟩
        by_cases hjk : j = k
        · subst hjk; rw [h2, h3] at hc; cases hc
        · omega
    · have e : topsTo zs s (k + 1) = orI (topsTo zs s k) (powI k) := by simp only [topsTo]; rw [hc]; rfl
      rw [Bool.and_eq_true] at hc
      rw [e, bitB_or, bitB_pow, Bool.or_eq_true, ih, decide_eq_true_eq]
      constructor
      · rintro (⟨h1, h2⟩ | rfl)
        · exact ⟨by omega, h2⟩
        · exact ⟨by omega, hc.1, by simpa using hc.2⟩
      · rintro ⟨h1, h2⟩
        by_cases hjk : k = j
        · exact .inr hjk
        · exact .inl ⟨by omega, h2⟩
/-- What has been gathered when the items of a list are over. -/
def topsL (zs : List Int) (s : Int) (l : List Nat) : Int := l.foldl (fun (t : Int) (i : Nat) => if andI (zs[i]?.getD 0) s == 0 then orI t (powI i) else t) 0
theorem topsL_yes {zs : List Int} {s : Int} {l : List Nat} {i : Nat} (h : (andI (zs[i]?.getD 0) s == 0) = true) : topsL zs s (l ++ [i]) = orI (topsL zs s l) (powI i) := by
  have h' : andI (zs[i]?.getD 0) s = 0 := by simpa using h
  simp [topsL, h']
theorem topsL_no {zs : List Int} {s : Int} {l : List Nat} {i : Nat} (h : (andI (zs[i]?.getD 0) s == 0) = false) : topsL zs s (l ++ [i]) = topsL zs s l := by
  have h' : ¬ andI (zs[i]?.getD 0) s = 0 := by simpa using h
  simp [topsL, h']
theorem topsL_to (zs : List Int) (s : Int) : ∀ k : Nat, topsL zs s (itemsTo s k) = topsTo zs s k
  | 0 => rfl
  | k + 1 => by
    have ih := topsL_to zs s k
    cases hb : bitB s k
    · rw [itemsTo_no hb, topsTo_no (.inl hb), ih]
    · rw [itemsTo_yes hb]
      cases ha : (andI (zs[k]?.getD 0) s == 0)
      · rw [topsL_no ha, topsTo_no (.inr ha), ih]
      · rw [topsL_yes ha, topsTo_yes hb ha, ih]
theorem topsTo_up {zs : List Int} {s : Int} {n : Nat} (h1 : s < powI n) : ∀ d : Nat, topsTo zs s (n + d) = topsTo zs s n
  | 0 => rfl
  | d + 1 => by
    have hb : bitB s ((n + d : Nat) : Int) = false := by
      cases h : bitB s ((n + d : Nat) : Int) with
      | false => rfl
      | true => have := bitB_lt h1 h; omega
    rw [← Nat.add_assoc, topsTo_no (.inl hb), topsTo_up h1 d]
theorem topsL_all {zs : List Int} {s : Int} {n : Nat} (hn : n ≤ 6) (h1 : s < powI n) : topsL zs s (itemsL s) = topsTo zs s n := by
  rw [itemsL, topsL_to, show (6 : Nat) = n + (6 - n) from by omega, topsTo_up h1]

end Go.Proofs.YtdcdddmjffgibaaGreat

/- Lines, as plain mathematics: what is lined up, what is left, and when the next item may come. No program. -/
namespace Go.Proofs.YtdcdddmjffgibaaGreat

/-- The first k items of the list. -/
def doneTo (ls : List Int) : Nat → Int
  | 0 => 0
  | k + 1 => orI (doneTo ls k) (powI (ls[k]?.getD 0))
/-- All items but the first k of the list. -/
def leftTo (n : Nat) (ls : List Int) : Nat → Int
  | 0 => powI n - 1
  | k + 1 => lessI (leftTo n ls k) (powI (ls[k]?.getD 0))
/-- The item k of the list is one, was not yet there, and all below it were. -/
def stepOk (zs ls : List Int) (k : Nat) : Bool :=
  inB (ls[k]?.getD 0) 0 ((zs.length : Int) - 1) && (!bitB (doneTo ls k) (ls[k]?.getD 0) && (lessI ((du zs)[(ls[k]?.getD 0).toNat]?.getD 0) (doneTo ls k) == 0))
def lineB (zs ls : List Int) : Bool := decide (ls.length = zs.length) && (List.range ls.length).all (stepOk zs ls)
def isLineR (zs ls : List Int) : Bool := vo zs && lineB zs ls

theorem lineB_yes {zs ls : List Int} {m : Nat} (hm : ls.length = m) (hl : m = zs.length) (h : ∀ k, k < m → stepOk zs ls k = true) : lineB zs ls = true := by
  unfold lineB
  rw [Bool.and_eq_true, List.all_eq_true]
  exact ⟨by simp; omega, fun k hk => h k (by rw [← hm]; exact List.mem_range.1 hk)⟩
theorem lineB_len {zs ls : List Int} {m : Nat} (hm : ls.length = m) (hl : m ≠ zs.length) : lineB zs ls = false := by
  unfold lineB
  rw [decide_eq_false (by omega)]
  rfl
theorem lineB_no {zs ls : List Int} {m k : Nat} (hm : ls.length = m) (hk : k < m) (h : stepOk zs ls k = false) : lineB zs ls = false := by
  cases e : lineB zs ls
  · rfl
  · unfold lineB at e
    rw [Bool.and_eq_true, List.all_eq_true] at e
    have := e.2 k (List.mem_range.2 (by omega))
    rw [h] at this
    cases this
theorem stepOk_in {zs ls : List Int} {k : Nat} (h : stepOk zs ls k = true) : 0 ≤ ls[k]?.getD 0 ∧ ls[k]?.getD 0 < zs.length := by
  unfold stepOk at h
  rw [Bool.and_eq_true] at h
  have : (0 : Int) ≤ ls[k]?.getD 0 ∧ ls[k]?.getD 0 ≤ (zs.length : Int) - 1 := by simpa [inB] using h.1
  omega
theorem stepOk_new {zs ls : List Int} {k : Nat} (h : stepOk zs ls k = true) : bitB (doneTo ls k) (ls[k]?.getD 0) = false := by
  unfold stepOk at h
  rw [Bool.and_eq_true, Bool.and_eq_true] at h
  simpa using h.2.1
theorem doneTo_bd {zs ls : List Int} : ∀ k : Nat, (∀ i, i < k → stepOk zs ls i = true) → 0 ≤ doneTo ls k ∧ doneTo ls k < powI zs.length
  | 0, _ => ⟨Int.le_refl _, powI_pos _⟩
  | k + 1, h => by
    have h1 := doneTo_bd k fun i hi => h i (by omega)
    have h2 := stepOk_in (h k (by omega))
    obtain ⟨a, ha⟩ := Int.eq_ofNat_of_zero_le h2.1
    have h3 : powI (a : Int) < powI (zs.length : Int) := powI_lt (by omega)
    have h4 := powI_pos (a : Int)
    unfold doneTo
    rw [ha]
    exact orI_bd h1.1 h1.2 (by omega) h3
theorem leftTo_bd {n : Nat} {ls : List Int} : ∀ k : Nat, 0 ≤ leftTo n ls k ∧ leftTo n ls k < powI n
  | 0 => by have := powI_pos (n : Int); unfold leftTo; omega
  | k + 1 => by
    have h1 := leftTo_bd (n := n) (ls := ls) k
    have h2 := lessI_bd (leftTo n ls k) (powI (ls[k]?.getD 0))
    unfold leftTo
    omega
theorem leftTo_bit {zs ls : List Int} (j : Nat) : ∀ k : Nat, (∀ i, i < k → stepOk zs ls i = true) → bitB (leftTo zs.length ls k) j = (decide (j < zs.length) && !bitB (doneTo ls k) j)
  | 0, _ => by unfold leftTo doneTo; rw [all_bits, bitB_zero]; simp
  | k + 1, h => by
    have ih := leftTo_bit (zs := zs) (ls := ls) j k fun i hi => h i (by omega)
    have h2 := stepOk_in (h k (by omega))
    obtain ⟨a, ha⟩ := Int.eq_ofNat_of_zero_le h2.1
    unfold leftTo doneTo
    rw [ha, bitB_less, bitB_or, bitB_pow, ih]
    cases decide (j < zs.length) <;> cases bitB (doneTo ls k) j <;> cases decide (a = j) <;> rfl
/-- As the program asks it: the item is a top, turned round, of what is left. -/
theorem step_tops {zs ls : List Int} (h : VoP zs) {k : Nat} (hk : ∀ i, i < k → stepOk zs ls i = true) {a : Nat} (ha : ls[k]?.getD 0 = (a : Int)) (hn : a < zs.length) :
    bitB (topsTo (du zs) (leftTo zs.length ls k) zs.length) a = stepOk zs ls k := by
  have hds := (du_sets h.sets).2 a (by rw [du_len]; exact hn)
  rw [du_len] at hds
  have hl := leftTo_bit (zs := zs) (ls := ls) a k hk
  have hin : inB (a : Int) 0 ((zs.length : Int) - 1) = true := by simp [inB]; omega
  have key : bitB (topsTo (du zs) (leftTo zs.length ls k) zs.length) a = true ↔ stepOk zs ls k = true := by
    rw [topsTo_bit]
    unfold stepOk
    rw [ha, hin, hl, Bool.true_and, Int.toNat_natCast]
    simp only [Bool.and_eq_true]
    have e2 : andI ((du zs)[a]?.getD 0) (leftTo zs.length ls k) = 0 ↔ (lessI ((du zs)[a]?.getD 0) (doneTo ls k) == 0) = true := by
      rw [beq_iff_eq, andI_zero]
      constructor
      · intro e
        refine bitB_ext (lessI_bd _ _).1 (Int.le_refl _) fun j => ?_
        rw [bitB_less, bitB_zero]
        cases e1 : bitB ((du zs)[a]?.getD 0) j
        · rfl
        · cases e3 : bitB (doneTo ls k) j
          · have hj := bitB_lt hds.2 e1
            have := e j (by rw [leftTo_bit (zs := zs) (ls := ls) j k hk, e3]; simp [hj])
            rw [e1] at this; cases this
          · rfl
      · intro e j hj
        rw [leftTo_bit (zs := zs) (ls := ls) j k hk, Bool.and_eq_true] at hj
        cases e1 : bitB ((du zs)[a]?.getD 0) j
        · rfl
        · have := bitB_less ((du zs)[a]?.getD 0) (doneTo ls k) j
          rw [e, bitB_zero, e1] at this
          simp at this hj
          rw [this] at hj
          simp at hj
    constructor
    · rintro ⟨_, h1, h2⟩
      exact ⟨h1.2, e2.1 h2⟩
    · rintro ⟨h1, h2⟩
      exact ⟨hn, ⟨by simpa using hn, h1⟩, e2.2 h2⟩
  cases e1 : bitB (topsTo (du zs) (leftTo zs.length ls k) zs.length) a <;> cases e2 : stepOk zs ls k <;> simp_all
end Go.Proofs.YtdcdddmjffgibaaGreat

/- In how many ways an order is lined up: counted from the first item on, and from the last one back, it is as many. No program. -/
namespace Go.Proofs.YtdcdddmjffgibaaGreat

/-! Sums over lists. -/
theorem sum_map_add {α : Type} (f g : α → Nat) : ∀ l : List α, (l.map fun x => f x + g x).sum = (l.map f).sum + (l.map g).sum
  | [] => rfl
  | x :: l => by
    have := sum_map_add f g l
    simp only [List.map_cons, List.sum_cons] at this ⊢
    omega
theorem sum_map_zero {α : Type} : ∀ l : List α, (l.map fun _ => 0).sum = 0
  | [] => rfl
  | _ :: l => by simpa using sum_map_zero l
theorem sum_swap {α β : Type} (f : α → β → Nat) (m : List β) : ∀ l : List α, (l.map fun x => (m.map (f x)).sum).sum = (m.map fun y => (l.map fun x => f x y).sum).sum
  | [] => by simpa using (sum_map_zero m).symm
  | x :: l => by
    rw [List.map_cons, List.sum_cons, sum_swap f m l, ← sum_map_add]
    rfl
theorem sum_mul {α : Type} (c : Nat) (f : α → Nat) : ∀ l : List α, (l.map fun x => c * f x).sum = c * (l.map f).sum
  | [] => rfl
  | x :: l => by rw [List.map_cons, List.sum_cons, List.map_cons, List.sum_cons, sum_mul c f l, Nat.mul_add]
theorem sum_if {α : Type} (p : α → Bool) (f : α → Nat) : ∀ l : List α, (l.map fun x => if p x then f x else 0).sum = ((l.filter p).map f).sum
  | [] => rfl
  | x :: l => by
    rw [List.map_cons, List.sum_cons, sum_if p f l, List.filter_cons]
    cases p x <;> simp
theorem sum_congr {α : Type} {f g : α → Nat} {l : List α} (h : ∀ x ∈ l, f x = g x) : (l.map f).sum = (l.map g).sum := by rw [List.map_congr_left h]

/-- The sets with the item a are those without it, and it. -/
theorem with_item : ∀ n : Fin 7, ∀ a : Fin 6, a.val < n.val → (List.range (2 ^ n.val)).filter (fun s : Nat => s.testBit a.val) = ((List.range (2 ^ n.val)).filter fun s : Nat => !s.testBit a.val).map fun s => s + 2 ^ a.val := by decide +kernel
/-- Edges: by the items s, the item a comes next. -/
def nextE (zs : List Int) (s a : Nat) : Bool := !s.testBit a && (lessI ((du zs)[a]?.getD 0) (s : Int) == 0)
def belowAny (zs : List Int) (s a : Nat) : Bool := (List.range zs.length).any fun b => s.testBit b && bitB ((du zs)[b]?.getD 0) a
/-- As the model asks it: a is one of s, with all below it there, and below none of s. -/
def eG (zs : List Int) (s a : Nat) : Bool := s.testBit a && ((lessI ((du zs)[a]?.getD 0) (s : Int) == 0) && !belowAny zs s a)
/-- As the program asks it: a is one of what is left, of which none is below it. -/
def eF (zs : List Int) (s a : Nat) : Bool := s.testBit a && (andI ((du zs)[a]?.getD 0) (s : Int) == 0)
theorem sub_lt {s a : Nat} (h : ¬ s = 0) : s - 2 ^ a < s := by have := Nat.two_pow_pos a; omega
/-- In how many ways the set s is lined up. -/
def cG (zs : List Int) (s : Nat) : Nat := if h : s = 0 then 1 else ((List.range zs.length).map fun a => if eG zs s a then cG zs (s - 2 ^ a) else 0).sum
termination_by s
decreasing_by exact sub_lt h
/-- In how many ways what is left is lined up. -/
def cF (zs : List Int) (s : Nat) : Nat := if h : s = 0 then 1 else ((List.range zs.length).map fun a => if eF zs s a then cF zs (s - 2 ^ a) else 0).sum
termination_by s
decreasing_by exact sub_lt h
theorem cG_zero (zs : List Int) : cG zs 0 = 1 := by rw [cG]; rfl
theorem cF_zero (zs : List Int) : cF zs 0 = 1 := by rw [cF]; rfl
theorem cG_pos {zs : List Int} {s : Nat} (h : s ≠ 0) : cG zs s = ((List.range zs.length).map fun a => if eG zs s a then cG zs (s - 2 ^ a) else 0).sum := by rw [cG, dif_neg h]
theorem cF_pos {zs : List Int} {s : Nat} (h : s ≠ 0) : cF zs s = ((List.range zs.length).map fun a => if eF zs s a then cF zs (s - 2 ^ a) else 0).sum := by rw [cF, dif_neg h]

/-- All below its items are there. -/
def Ideal (zs : List Int) (s : Nat) : Prop := ∀ a b : Nat, s.testBit b = true → bitB ((du zs)[b]?.getD 0) a = true → s.testBit a = true
theorem bit_cast (s j : Nat) : bitB (s : Int) (j : Int) = s.testBit j := by simp [bitB]
theorem less_zero {d : Int} {s : Nat} : lessI d (s : Int) = 0 ↔ ∀ j : Nat, bitB d j = true → s.testBit j = true := by
  constructor
  · intro e j hj
    have := bitB_less d (s : Int) j
    rw [e, bitB_zero, hj, bit_cast] at this
    simpa using this.symm
  · intro e
    refine bitB_ext (lessI_bd _ _).1 (Int.le_refl _) fun j => ?_
    rw [bitB_less, bitB_zero, bit_cast]
    cases h : bitB d j
    · rfl
    · rw [e j h]; rfl
theorem sub_bit_fin : ∀ s : Fin 64, ∀ a j : Fin 6, s.val.testBit a.val = true → (s.val - 2 ^ a.val).testBit j.val = (s.val.testBit j.val && !decide (a.val = j.val)) := by decide +kernel
theorem add_bit_fin : ∀ s : Fin 64, ∀ a j : Fin 6, s.val.testBit a.val = false → (s.val + 2 ^ a.val).testBit j.val = (s.val.testBit j.val || decide (a.val = j.val)) := by decide +kernel
theorem add_lt_fin : ∀ n : Fin 7, ∀ s : Fin 64, ∀ a : Fin 6, s.val < 2 ^ n.val → a.val < n.val → s.val.testBit a.val = false → s.val + 2 ^ a.val < 2 ^ n.val := by decide +kernel
theorem com_bit_fin : ∀ n : Fin 7, ∀ s : Fin 64, s.val < 2 ^ n.val → ∀ j : Fin 6, (2 ^ n.val - 1 - s.val).testBit j.val = (decide (j.val < n.val) && !s.val.testBit j.val) := by decide +kernel
theorem ge_bit_fin : ∀ s : Fin 64, ∀ a : Fin 6, s.val.testBit a.val = true → 2 ^ a.val ≤ s.val := by decide +kernel
theorem bit_lt {n s j : Nat} (hs : s < 2 ^ n) (h : s.testBit j = true) : j < n := by
  rcases Nat.lt_or_ge j n with h1 | h1
  · exact h1
  · rw [Nat.testBit_lt_two_pow (Nat.lt_of_lt_of_le hs (Nat.pow_le_pow_right (by decide) h1))] at h; cases h
theorem pow_le64 {n : Nat} (h : n ≤ 6) : 2 ^ n ≤ 64 := Nat.pow_le_pow_right (n := 2) (by decide) h
theorem sum_pick (f : Nat → Nat) (c : Nat) : ∀ N : Nat, c < N → ((List.range N).map f).sum = ((List.range N).map fun x => if x = c then 0 else f x).sum + f c
  | N + 1, hc => by
    rw [List.range_succ, List.map_append, List.sum_append, List.map_append, List.sum_append]
    by_cases h : c = N
    · subst h
      have : ((List.range c).map fun x => if x = c then 0 else f x).sum = ((List.range c).map f).sum := sum_congr fun x hx => by
        have := List.mem_range.1 hx
        rw [if_neg (by omega)]
      rw [this]
      simp
    · rw [sum_pick f c N (by omega)]
      have : ¬ N = c := fun e => h e.symm
      simp [this]
      omega
theorem du_small {zs : List Int} (h : VoP zs) {a j : Nat} (hb : bitB ((du zs)[a]?.getD 0) j = true) : j < zs.length ∧ a < zs.length := by
  rcases Nat.lt_or_ge a (du zs).length with h1 | h1
  · have := (du_sets h.sets).2 a h1
    rw [du_len] at this h1
    exact ⟨bitB_lt this.2 hb, h1⟩
  · rw [List.getElem?_eq_none h1, Option.getD_none, bitB_zero] at hb; cases hb
theorem du_irr {zs : List Int} (h : VoP zs) (a : Nat) : bitB ((du zs)[a]?.getD 0) a = false := by
  rw [du_bit h.sets]
  rcases Nat.lt_or_ge a zs.length with h1 | h1
  · exact h.irrB h1
  · rw [List.getElem?_eq_none h1, Option.getD_none, bitB_zero]
theorem sum_ne {α : Type} {f : α → Nat} : ∀ l : List α, (l.map f).sum ≠ 0 → ∃ x ∈ l, f x ≠ 0
  | [], h => absurd rfl h
  | x :: l, h => by
    by_cases hx : f x = 0
    · rw [List.map_cons, List.sum_cons, hx, Nat.zero_add] at h
      obtain ⟨y, hy, e⟩ := sum_ne l h
      exact ⟨y, by simp [hy], e⟩
    · exact ⟨x, by simp, hx⟩
theorem cG_ideal {zs : List Int} (h : VoP zs) : ∀ (k s : Nat), s ≤ k → s < 2 ^ zs.length → cG zs s ≠ 0 → Ideal zs s
  | 0, s, hk, _, _ => by
    obtain rfl : s = 0 := by omega
    intro a b hb _
    simp at hb
  | k + 1, s, hk, hN, hc => by
    by_cases h0 : s = 0
    · exact cG_ideal h k s (by omega) hN hc
    · have h6 := pow_le64 h.1
      rw [cG_pos h0] at hc
      obtain ⟨a, ha, hne⟩ := sum_ne _ hc
      have han := List.mem_range.1 ha
      have hn6 := h.1
      cases he : eG zs s a
      · simp only [he] at hne; exact absurd rfl hne
      · simp only [he, if_true] at hne
        unfold eG at he
        rw [Bool.and_eq_true, Bool.and_eq_true] at he
        obtain ⟨h1, h2, _⟩ := he
        have hge := ge_bit_fin ⟨s, by omega⟩ ⟨a, by omega⟩ h1
        simp only at hge
        have hp := Nat.two_pow_pos a
        have ih := cG_ideal h k (s - 2 ^ a) (by omega) (by omega) hne
        have hsub := less_zero.1 (show lessI ((du zs)[a]?.getD 0) (s : Int) = 0 by simpa using h2)
        have sb : ∀ j, j < 6 → (s - 2 ^ a).testBit j = (s.testBit j && !decide (a = j)) := fun j hj => sub_bit_fin ⟨s, by omega⟩ ⟨a, by omega⟩ ⟨j, hj⟩ h1
        intro x b hb hx
        have hb6 := bit_lt hN hb
        by_cases hba : a = b
        · subst hba; exact hsub x hx
        · have hx6 := (du_small h hx).1
          have := ih x b (by rw [sb b (by omega), hb]; simp [hba]) hx
          rw [sb x (by omega), Bool.and_eq_true] at this
          exact this.1
/-- From what is left back to what is there. -/
theorem cF_next {zs : List Int} (h : VoP zs) {s : Nat} (hN : s < 2 ^ zs.length) (hs : s ≠ 2 ^ zs.length - 1) :
    cF zs (2 ^ zs.length - 1 - s) = ((List.range zs.length).map fun a => if nextE zs s a then cF zs (2 ^ zs.length - 1 - (s + 2 ^ a)) else 0).sum := by
  have h6 := pow_le64 h.1
  have hn6 := h.1
  rw [cF_pos (by omega)]
  refine sum_congr fun a ha => ?_
  have han := List.mem_range.1 ha
  have cb : ∀ j, j < 6 → (2 ^ zs.length - 1 - s).testBit j = (decide (j < zs.length) && !s.testBit j) := fun j hj => com_bit_fin ⟨zs.length, by omega⟩ ⟨s, by omega⟩ hN ⟨j, hj⟩
  have e1 : eF zs (2 ^ zs.length - 1 - s) a = nextE zs s a := by
    unfold eF nextE
    rw [cb a (by omega), decide_eq_true han, Bool.true_and]
    congr 1
    have key : andI ((du zs)[a]?.getD 0) ((2 ^ zs.length - 1 - s : Nat) : Int) = 0 ↔ lessI ((du zs)[a]?.getD 0) (s : Int) = 0 := by
      rw [andI_zero, less_zero]
      constructor
      · intro e j hj
        have hjn := (du_small h hj).1
        cases hc : s.testBit j
        · have := e j (by rw [bit_cast, cb j (by omega), hc]; simp [hjn])
          rw [hj] at this; cases this
        · rfl
      · intro e j hj
        cases hd : bitB ((du zs)[a]?.getD 0) j
        · rfl
        · have hjn := (du_small h hd).1
          rw [bit_cast, cb j (by omega), e j hd] at hj
          simp at hj
    by_cases hk : lessI ((du zs)[a]?.getD 0) (s : Int) = 0
    · rw [hk, key.2 hk]
    · have hk' : ¬ andI ((du zs)[a]?.getD 0) ((2 ^ zs.length - 1 - s : Nat) : Int) = 0 := fun e => hk (key.1 e)
      rw [beq_eq_false_iff_ne.2 hk, beq_eq_false_iff_ne.2 hk']
  rw [e1, Nat.sub_sub]
theorem edge_same {zs : List Int} (h : VoP zs) {s a : Nat} (hN : s < 2 ^ zs.length) (han : a < zs.length) (hb : s.testBit a = false) (X : Nat) :
    (if nextE zs s a then cG zs s * X else 0) = if eG zs (s + 2 ^ a) a then cG zs s * X else 0 := by
  have h6 := pow_le64 h.1
  have hn6 := h.1
  have ab : ∀ j, j < 6 → (s + 2 ^ a).testBit j = (s.testBit j || decide (a = j)) := fun j hj => add_bit_fin ⟨s, by omega⟩ ⟨a, by omega⟩ ⟨j, hj⟩ hb
  by_cases hc : cG zs s = 0
  · rw [hc]; simp
  · have hid := cG_ideal h s s (Nat.le_refl _) hN hc
    have e1 : belowAny zs (s + 2 ^ a) a = false := by
      unfold belowAny
      rw [List.any_eq_false]
      intro b hbr
      have hbn := List.mem_range.1 hbr
      rw [ab b (by omega)]
      intro e
      rw [Bool.and_eq_true, Bool.or_eq_true] at e
      obtain ⟨e1 | e1, e2⟩ := e
      · have := hid a b e1 e2
        rw [hb] at this; cases this
      · have : a = b := by simpa using e1
        subst this
        rw [du_irr h] at e2; cases e2
    have e2 : lessI ((du zs)[a]?.getD 0) ((s + 2 ^ a : Nat) : Int) = 0 ↔ lessI ((du zs)[a]?.getD 0) (s : Int) = 0 := by
      rw [less_zero, less_zero]
      constructor
      · intro e j hj
        have hjn := (du_small h hj).1
        have := e j hj
        rw [ab j (by omega), Bool.or_eq_true] at this
        rcases this with h1 | h1
        · exact h1
        · have : a = j := by simpa using h1
          subst this
          rw [du_irr h] at hj; cases hj
      · intro e j hj
        have hjn := (du_small h hj).1
        rw [ab j (by omega), e j hj]
        rfl
    have e3 : nextE zs s a = eG zs (s + 2 ^ a) a := by
      unfold nextE eG
      rw [hb, ab a (by omega), hb, e1]
      by_cases hk : lessI ((du zs)[a]?.getD 0) (s : Int) = 0
      · rw [hk, e2.2 hk]; simp
      · have hk' : ¬ lessI ((du zs)[a]?.getD 0) ((s + 2 ^ a : Nat) : Int) = 0 := fun e => hk (e2.1 e)
        rw [beq_eq_false_iff_ne.2 hk, beq_eq_false_iff_ne.2 hk']; simp
    rw [e3]
/-- Counted both ways it is as many. -/
theorem count_both {zs : List Int} (h : VoP zs) : cG zs (2 ^ zs.length - 1) = cF zs (2 ^ zs.length - 1) := by
  have h6 := pow_le64 h.1
  have hn6 := h.1
  have hpos := Nat.two_pow_pos zs.length
  have P1 := sum_pick (fun s => cG zs s * cF zs (2 ^ zs.length - 1 - s)) (2 ^ zs.length - 1) (2 ^ zs.length) (by omega)
  have P2 := sum_pick (fun s => cG zs s * cF zs (2 ^ zs.length - 1 - s)) 0 (2 ^ zs.length) hpos
  have hA1 : cG zs (2 ^ zs.length - 1) * cF zs (2 ^ zs.length - 1 - (2 ^ zs.length - 1)) = cG zs (2 ^ zs.length - 1) := by rw [Nat.sub_self, cF_zero, Nat.mul_one]
  have hA2 : cG zs 0 * cF zs (2 ^ zs.length - 1 - 0) = cF zs (2 ^ zs.length - 1) := by rw [cG_zero, Nat.one_mul, Nat.sub_zero]
  rw [hA1] at P1
  rw [hA2] at P2
  have L : ((List.range (2 ^ zs.length)).map fun s => if s = 2 ^ zs.length - 1 then 0 else cG zs s * cF zs (2 ^ zs.length - 1 - s)).sum =
      ((List.range (2 ^ zs.length)).map fun s => ((List.range zs.length).map fun a => if nextE zs s a then cG zs s * cF zs (2 ^ zs.length - 1 - (s + 2 ^ a)) else 0).sum).sum := sum_congr fun s hs => by
    have hN := List.mem_range.1 hs
    by_cases he : s = 2 ^ zs.length - 1
    · rw [if_pos he]
      have : ((List.range zs.length).map fun a => if nextE zs s a then cG zs s * cF zs (2 ^ zs.length - 1 - (s + 2 ^ a)) else 0).sum = ((List.range zs.length).map fun _ => 0).sum := sum_congr fun a ha => by
        have han := List.mem_range.1 ha
        have : nextE zs s a = false := by
          unfold nextE
          rw [he, Nat.testBit_two_pow_sub_one, decide_eq_true han]
          rfl
        rw [this]; rfl
      rw [this, sum_map_zero]
    · rw [if_neg he, cF_next h hN he, ← sum_mul]
      refine sum_congr fun a _ => ?_
      cases nextE zs s a <;> simp
  have R : ((List.range (2 ^ zs.length)).map fun s => if s = 0 then 0 else cG zs s * cF zs (2 ^ zs.length - 1 - s)).sum =
      ((List.range (2 ^ zs.length)).map fun s => ((List.range zs.length).map fun a => if eG zs s a then cG zs (s - 2 ^ a) * cF zs (2 ^ zs.length - 1 - s) else 0).sum).sum := sum_congr fun s hs => by
    by_cases he : s = 0
    · rw [if_pos he]
      have : ((List.range zs.length).map fun a => if eG zs s a then cG zs (s - 2 ^ a) * cF zs (2 ^ zs.length - 1 - s) else 0).sum = ((List.range zs.length).map fun _ => 0).sum := sum_congr fun a _ => by
        have : eG zs s a = false := by unfold eG; rw [he]; simp
        rw [this]; rfl
      rw [this, sum_map_zero]
    · rw [if_neg he, cG_pos he, Nat.mul_comm, ← sum_mul]
      refine sum_congr fun a _ => ?_
      cases eG zs s a <;> simp [Nat.mul_comm]
  have M : ((List.range (2 ^ zs.length)).map fun s => ((List.range zs.length).map fun a => if nextE zs s a then cG zs s * cF zs (2 ^ zs.length - 1 - (s + 2 ^ a)) else 0).sum).sum =
      ((List.range (2 ^ zs.length)).map fun s => ((List.range zs.length).map fun a => if eG zs s a then cG zs (s - 2 ^ a) * cF zs (2 ^ zs.length - 1 - s) else 0).sum).sum := by
    refine (sum_swap _ _ _).trans (Eq.trans ?_ (sum_swap _ _ _).symm)
    refine sum_congr fun a ha => ?_
    have han := List.mem_range.1 ha
    have e1 : ((List.range (2 ^ zs.length)).map fun s => if nextE zs s a then cG zs s * cF zs (2 ^ zs.length - 1 - (s + 2 ^ a)) else 0).sum =
        (((List.range (2 ^ zs.length)).filter fun s : Nat => !s.testBit a).map fun s => if nextE zs s a then cG zs s * cF zs (2 ^ zs.length - 1 - (s + 2 ^ a)) else 0).sum := by
      rw [← sum_if]
      refine sum_congr fun s _ => ?_
      cases hb : s.testBit a
      · rfl
      · have : nextE zs s a = false := by unfold nextE; rw [hb]; rfl
        rw [this]; rfl
    have e2 : ((List.range (2 ^ zs.length)).map fun s => if eG zs s a then cG zs (s - 2 ^ a) * cF zs (2 ^ zs.length - 1 - s) else 0).sum =
        (((List.range (2 ^ zs.length)).filter fun s : Nat => s.testBit a).map fun s => if eG zs s a then cG zs (s - 2 ^ a) * cF zs (2 ^ zs.length - 1 - s) else 0).sum := by
      rw [← sum_if]
      refine sum_congr fun s _ => ?_
      cases hb : s.testBit a
      · have : eG zs s a = false := by unfold eG; rw [hb]; rfl
        rw [this]; rfl
      · rfl
    rw [e1, e2, with_item ⟨zs.length, by omega⟩ ⟨a, by omega⟩ han, List.map_map]
    refine sum_congr fun s hs => ?_
    rw [List.mem_filter] at hs
    have hN := List.mem_range.1 hs.1
    have hb : s.testBit a = false := by simpa using hs.2
    simp only [Function.comp, Nat.add_sub_cancel]
    exact edge_same h hN han hb _
  rw [L] at P1
  rw [R] at P2
  rw [P1, M] at P2
  omega
end Go.Proofs.YtdcdddmjffgibaaGreat

/- Lines counted: no number is great; the table as it fills. No program. -/
namespace Go.Proofs.YtdcdddmjffgibaaGreat

theorem sum_le {α : Type} {f : α → Nat} {c : Nat} : ∀ l : List α, (∀ x ∈ l, f x ≤ c) → (l.map f).sum ≤ l.length * c
  | [], _ => by simp
  | x :: l, h => by
    have h1 := h x (by simp)
    have h2 := sum_le l fun y hy => h y (by simp [hy])
    rw [List.map_cons, List.sum_cons, List.length_cons, Nat.add_mul]
    omega
theorem pop_sub_fin : ∀ s : Fin 64, ∀ a : Fin 6, s.val.testBit a.val = true → (popI ((s.val - 2 ^ a.val : Nat) : Int)).toNat + 1 = (popI (s.val : Int)).toNat := by decide +kernel
theorem pop_le_fin : ∀ s : Fin 64, (popI (s.val : Int)).toNat ≤ 6 := by decide +kernel
theorem cG_bd {zs : List Int} (h : VoP zs) : ∀ (k s : Nat), s ≤ k → s < 2 ^ zs.length → cG zs s ≤ 6 ^ (popI (s : Int)).toNat
  | 0, s, hk, _ => by
    obtain rfl : s = 0 := by omega
    rw [cG_zero]; decide
  | k + 1, s, hk, hN => by
    by_cases h0 : s = 0
    · exact cG_bd h k s (by omega) hN
    · have h6 := pow_le64 h.1
      have hn6 := h.1
      rw [cG_pos h0]
      obtain ⟨p, hp⟩ : ∃ p, (popI (s : Int)).toNat = p := ⟨_, rfl⟩
      have hle := sum_le (f := fun a => if eG zs s a then cG zs (s - 2 ^ a) else 0) (c := 6 ^ (p - 1)) (List.range zs.length) fun a ha => by
        have han := List.mem_range.1 ha
        cases he : eG zs s a
        · simp
        · have hb : s.testBit a = true := by unfold eG at he; rw [Bool.and_eq_true] at he; exact he.1
          have hge := ge_bit_fin ⟨s, by omega⟩ ⟨a, by omega⟩ hb
          simp only at hge
          have hpp := Nat.two_pow_pos a
          have ih := cG_bd h k (s - 2 ^ a) (by omega) (by omega)
          have hps := pop_sub_fin ⟨s, by omega⟩ ⟨a, by omega⟩ hb
          simp only at hps
          rw [hp] at hps
          simp only [if_true]
          rw [show p - 1 = (popI ((s - 2 ^ a : Nat) : Int)).toNat by omega]
          exact ih
      rw [List.length_range] at hle
      have hpos : 1 ≤ p := by
        rcases Nat.lt_or_ge 0 p with h1 | h1
        · exact h1
        · exfalso
          have : (popI (s : Int)).toNat = 0 := by omega
          have key : ∀ t : Fin 64, (popI (t.val : Int)).toNat = 0 → t.val = 0 := by decide +kernel
          exact h0 (key ⟨s, by omega⟩ this)
      rw [hp]
      have e : 6 ^ p = 6 * 6 ^ (p - 1) := by rw [← Nat.pow_succ']; congr 1; omega
      rw [e]
      exact Nat.le_trans hle (Nat.mul_le_mul_right _ hn6)
theorem cG_le {zs : List Int} (h : VoP zs) {s : Nat} (hN : s < 2 ^ zs.length) : cG zs s ≤ 46656 := by
  have h6 := pow_le64 h.1
  have h1 := cG_bd h s s (Nat.le_refl _) hN
  have h2 := pop_le_fin ⟨s, by omega⟩
  simp only at h2
  have h3 : 6 ^ (popI (s : Int)).toNat ≤ 6 ^ 6 := Nat.pow_le_pow_right (by decide) h2
  omega
/-- What is summed up of the items less than a. -/
def pg (zs : List Int) (s a : Nat) : Nat := ((List.range a).map fun b => if eG zs s b then cG zs (s - 2 ^ b) else 0).sum
theorem pg_succ (zs : List Int) (s a : Nat) : pg zs s (a + 1) = pg zs s a + (if eG zs s a then cG zs (s - 2 ^ a) else 0) := by
  unfold pg
  rw [List.range_succ, List.map_append, List.sum_append]
  simp
theorem pg_le (zs : List Int) (s : Nat) : ∀ d a : Nat, pg zs s a ≤ pg zs s (a + d)
  | 0, _ => Nat.le_refl _
  | d + 1, a => by
    have := pg_le zs s d a
    rw [show a + (d + 1) = a + d + 1 by omega, pg_succ]
    omega
theorem pg_all {zs : List Int} {s : Nat} (h : s ≠ 0) : pg zs s zs.length = cG zs s := (cG_pos h).symm
theorem pg_bd {zs : List Int} (h : VoP zs) {s a : Nat} (h0 : s ≠ 0) (hN : s < 2 ^ zs.length) (ha : a ≤ zs.length) : pg zs s a ≤ 46656 := by
  have h1 := pg_le zs s (zs.length - a) a
  rw [show a + (zs.length - a) = zs.length by omega, pg_all h0] at h1
  have := cG_le h hN
  omega
def tab (zs : List Int) (s p : Nat) : List Int := (List.range (2 ^ zs.length)).map fun i => if i < s then (cG zs i : Int) else if i = s then (p : Int) else 0
theorem tab_len (zs : List Int) (s p : Nat) : (tab zs s p).length = 2 ^ zs.length := by simp [tab]
theorem tab_get {zs : List Int} {s p i : Nat} (hi : i < 2 ^ zs.length) : (tab zs s p)[i]?.getD 0 = if i < s then (cG zs i : Int) else if i = s then (p : Int) else 0 := by simp [tab, hi]
theorem tab_set {zs : List Int} {s p q : Nat} : (tab zs s p).set s (q : Int) = tab zs s q := by
  refine List.ext_getElem (by simp [tab]) fun i h1 h2 => ?_
  rw [List.length_set, tab_len] at h1
  by_cases hi : s = i
  · subst hi
    rw [List.getElem_set_self]
    simp [tab]
  · rw [List.getElem_set_ne hi]
    have : ¬ i = s := fun e => hi e.symm
    simp [tab, this]
theorem tab_next (zs : List Int) (s : Nat) : tab zs s (cG zs s) = tab zs (s + 1) 0 := by
  unfold tab
  refine List.map_congr_left fun i _ => ?_
  by_cases h1 : i < s
  · rw [if_pos h1, if_pos (by omega)]
  · by_cases h2 : i = s
    · subst h2
      rw [if_neg h1, if_pos rfl, if_pos (by omega)]
    · rw [if_neg h1, if_neg h2, if_neg (by omega)]
      by_cases h3 : i = s + 1
      · rw [if_pos h3]; rfl
      · rw [if_neg h3]
theorem tab_start (zs : List Int) : (List.replicate (2 ^ zs.length) (0 : Int)).set 0 1 = tab zs 1 0 := by
  refine List.ext_getElem (by simp [tab]) fun i h1 h2 => ?_
  by_cases hi : 0 = i
  · subst hi
    rw [List.getElem_set_self]
    simp [tab, cG_zero]
  · rw [List.getElem_set_ne hi]
    simp [tab]
    intro h; omega
/-- In how many ways an order is lined up. -/
def linesR (zs : List Int) : Int := if vo zs then (cG zs (2 ^ zs.length - 1) : Int) else -1
end Go.Proofs.YtdcdddmjffgibaaGreat

/- Lines counted of what is left: the sum over the items that may come next; bounds. No program. -/
namespace Go.Proofs.YtdcdddmjffgibaaGreat

theorem cF_bd {zs : List Int} (h : VoP zs) : ∀ (k s : Nat), s ≤ k → s < 2 ^ zs.length → cF zs s ≤ 6 ^ (popI (s : Int)).toNat
  | k, s, hk, hN => by
    by_cases h0 : s = 0
    · subst h0
      rw [cF_zero]
      exact Nat.pos_of_ne_zero (by have := Nat.pow_pos (n := (popI ((0 : Nat) : Int)).toNat) (show 0 < 6 by omega); omega)
    · cases k with
      | zero => omega
      | succ k =>
        have h64 := Nat.lt_of_lt_of_le hN (pow_le64 h.1)
        have hn6 := h.1
        rw [cF_pos h0]
        have key : ∀ x ∈ List.range zs.length, (if eF zs s x then cF zs (s - 2 ^ x) else 0) ≤ 6 ^ ((popI (s : Int)).toNat - 1) := fun x hx => by
          have hxn : x < zs.length := by simpa using hx
          split
          · rename_i he
            unfold eF at he
            rw [Bool.and_eq_true] at he
            have hp := pop_sub_fin ⟨s, h64⟩ ⟨x, by omega⟩ he.1
            have hge := ge_bit_fin ⟨s, h64⟩ ⟨x, by omega⟩ he.1
            have hpos := Nat.two_pow_pos x
            have ih := cF_bd h k (s - 2 ^ x) (by simp only at hge; omega) (by omega)
            simp only at hp
            rw [show (popI (s : Int)).toNat - 1 = (popI ((s - 2 ^ x : Nat) : Int)).toNat by omega]
            exact ih
          · exact Nat.zero_le _
        have h1 := sum_le _ key
        have hpp : 1 ≤ (popI (s : Int)).toNat := by
          rcases Nat.lt_or_ge 0 (popI (s : Int)).toNat with h | h
          · exact h
          · exact absurd (pop_zero_fin ⟨s, h64⟩ (by simp only; omega)) h0
        rw [List.length_range] at h1
        have h2 : zs.length * 6 ^ ((popI (s : Int)).toNat - 1) ≤ 6 * 6 ^ ((popI (s : Int)).toNat - 1) := Nat.mul_le_mul_right _ h.1
        have h3 : 6 * 6 ^ ((popI (s : Int)).toNat - 1) = 6 ^ (popI (s : Int)).toNat := by
          rw [← Nat.pow_succ']; exact congrArg (6 ^ ·) (by omega)
        omega
where pop_zero_fin : ∀ s : Fin 64, (popI (s.val : Int)).toNat = 0 → s.val = 0 := by decide +kernel
theorem cF_le {zs : List Int} (h : VoP zs) {s : Nat} (hN : s < 2 ^ zs.length) : cF zs s ≤ 46656 := by
  have h64 := Nat.lt_of_lt_of_le hN (pow_le64 h.1)
  have h1 := cF_bd h s s (Nat.le_refl _) hN
  have h2 := pop_le_fin ⟨s, h64⟩
  exact Nat.le_trans h1 (Nat.pow_le_pow_right (n := 6) (by omega) h2)
/-- The items that may come next, and the sum over them. -/
def nextL (zs : List Int) (s : Nat) : List Nat := itemsL (topsTo (du zs) (s : Int) zs.length)
theorem nextL_is {zs : List Int} (h : VoP zs) (s : Nat) : nextL zs s = (List.range zs.length).filter (eF zs s) := by
  have hb := topsTo_bd (du zs) (s : Int) zs.length
  unfold nextL
  rw [← itemsTo_all hb.2 h.1]
  unfold itemsTo
  refine List.filter_congr fun a ha => ?_
  have han : a < zs.length := by simpa using ha
  rw [Bool.eq_iff_iff, topsTo_bit, bit_cast]
  unfold eF
  simp [han]
theorem nextL_mem {zs : List Int} (h : VoP zs) {s x : Nat} (hx : x ∈ nextL zs s) : x < zs.length ∧ s.testBit x = true := by
  rw [nextL_is h, List.mem_filter] at hx
  unfold eF at hx
  rw [Bool.and_eq_true] at hx
  exact ⟨by simpa using hx.1, hx.2.1⟩
/-- What has been counted when the items of a list are over. -/
def accF (zs : List Int) (s : Nat) (l : List Nat) : Nat := (l.map fun a => cF zs (s - 2 ^ a)).sum
theorem accF_snoc (zs : List Int) (s : Nat) (l : List Nat) (x : Nat) : accF zs s (l ++ [x]) = accF zs s l + cF zs (s - 2 ^ x) := by simp [accF]
theorem accF_all {zs : List Int} (h : VoP zs) {s : Nat} (h0 : s ≠ 0) : accF zs s (nextL zs s) = cF zs s := by
  rw [cF_pos h0, sum_if, nextL_is h]
  rfl
theorem accF_le {zs : List Int} (h : VoP zs) {s : Nat} (h0 : s ≠ 0) (hN : s < 2 ^ zs.length) {l : List Nat} (hl : l <+: nextL zs s) : accF zs s l ≤ 46656 := by
  obtain ⟨t, ht⟩ := hl
  have h1 := accF_all h h0
  have h2 := cF_le h hN
  rw [← ht] at h1
  unfold accF at h1 ⊢
  rw [List.map_append, List.sum_append] at h1
  omega
theorem nextL_len {zs : List Int} (h : VoP zs) (s : Nat) : (nextL zs s).length ≤ 6 := by
  rw [nextL_is h]
  have := List.length_filter_le (eF zs s) (List.range zs.length)
  have := h.1
  rw [List.length_range] at *
  omega
theorem without_fin : ∀ s : Fin 64, ∀ a : Fin 6, s.val.testBit a.val = true → lessI (s.val : Int) (powI (a.val : Int)) = ((s.val - 2 ^ a.val : Nat) : Int) := by decide +kernel
theorem without_is {s a : Nat} (hs : s < 64) (ha : a < 6) (hb : s.testBit a = true) : lessI (s : Int) (powI (a : Int)) = ((s - 2 ^ a : Nat) : Int) := without_fin ⟨s, hs⟩ ⟨a, ha⟩ hb
/-- How often the map is written at most. -/
def writes (s : Nat) : Nat := 7 ^ (popI (s : Int)).toNat
theorem writes_sub {s a : Nat} (hs : s < 64) (ha : a < 6) (hb : s.testBit a = true) : 7 * writes (s - 2 ^ a) = writes s := by
  have hp := pop_sub_fin ⟨s, hs⟩ ⟨a, ha⟩ hb
  simp only at hp
  unfold writes
  rw [← hp, Nat.pow_succ, Nat.mul_comm]
theorem writes_le {s : Nat} (hs : s < 64) : 1 ≤ writes s ∧ writes s ≤ 117649 := by
  have h := pop_le_fin ⟨s, hs⟩
  exact ⟨Nat.pow_pos (by omega), Nat.pow_le_pow_right (n := 7) (by omega) h⟩
end Go.Proofs.YtdcdddmjffgibaaGreat

/- A region that draws its order, in a round of a loop over a function, by the laws for plain machines: where nothing in it defers, and no round may outgrow. -/
namespace Go.Proofs.YtdcdddmjffgibaaGreat
open Go.RowKit

section
variable {n : Nat} {P : Program} {ops : Array Oper} {Q : Exit → Act → World → Prop} {md : Region.Mode} {S : World → Prop} {l₀ : Nat}
theorem rows_wide {row : String} {args : Array Value} {w : World} {R : Value → World → Prop} (h : Rows P row args w R) : RowsIn Fence.wide n P row args w R :=
  fun c cs _ => let ⟨v, w', r, s⟩ := h c cs; ⟨v, w', r, stepsIn_wide.2 s⟩
theorem oper_wide {o : Oper} {a : Act} {w : World} {K : Act → World → Prop} (h : o.wp P a w K Q) : o.wpIn Fence.wide n P a w K Q := by
  unfold Oper.wp at h
  refine ⟨fun _ _ => trivial, ?_⟩
  rw [show Fence.wide.round = none from rfl, Oper.semAt_none]
  generalize (execOp a.eval o).run P w = r at h ⊢
  have hd : Fence.wide.depth.isSome = true → 1 ≤ n := fun e => by cases e
  cases r with
  | ok x w' =>
    cases x with
    | value v => exact h
    | skip => exact h
    | defer d => exact h
    | enter f args => exact ⟨hd, callsIn_wide.2 h⟩
    | row row args => exact ⟨hd, rows_wide h⟩
    | _ => exact h.elim
  | halt x w' => cases x <;> exact h
theorem op_wide (hQ : ¬ LetsOut Q) {i : Nat} {a : Act} {w : World} {K K' : Act → World → Prop} (hK : ∀ a w, K a w → K' a w) (h : wpOp P ops Q i K a w) : wpOpIn Fence.wide n P ops Q i K' a w := by
  unfold wpOp at h
  unfold wpOpIn
  split
  · rename_i ho; simp only [ho] at h; exact hK _ _ h
  · rename_i o ho
    simp only [ho] at h
    split
    · rename_i hw
      simp only [hw, if_true] at h
      rcases h with h | h
      · exact Oper.wpIn_mono hK (oper_wide h)
      · exact absurd h.2 hQ
    · rename_i hw
      simp only [hw] at h
      exact ⟨fun _ _ => trivial, hK _ _ h⟩
theorem any_wide (hQ : ¬ LetsOut Q) : ∀ (fuel : Nat) (listed : Array Bool) (a : Act) (w : World), wpAny P md ops Q fuel listed a w → wpAnyIn Fence.wide n P md ops Q fuel listed a w
  | 0, _, _, _, h => h
  | fuel + 1, _, _, _, h => ⟨h.1, fun i hi => op_wide hQ (fun a w h' => any_wide hQ fuel _ a w h') (h.2 i hi)⟩
/-- The beginning, in a round: a condition S on the worlds met is shown of the world behind the draw, and handed on. -/
theorem region_held_round {id : Nat} {a : Act} {w : World} {l : List Oper} (hm : P.follows .mixedOrders = true) (hd : l.all noDefer = true) (hQ : ¬ LetsOut Q) (hS : S w.drew)
    (h : S w.drew → wpAnyH P .any l.toArray Q S l.toArray.size (Array.replicate l.toArray.size false) a w.drew) : (Code.region id l.toArray true).wpIn (Fence.wide.inRound l₀) n P Q a w :=
  wpIn_region_any hm (anyIn_round (fun _ o ho => noDefer_spec (List.all_eq_true.1 hd o (List.mem_of_getElem? (by simpa using ho)))) _ _ _ _ (any_wide hQ _ _ _ _ (wpAny_of_held _ _ _ _ (h hS))))
end

/-! A region whose last operation writes what an earlier one has read: the condition S is asked behind every operation but the last one, z, which waits for all. -/
section
variable {n : Nat} {P : Program} {ops : Array Oper} {Q : Exit → Act → World → Prop} {md : Region.Mode} {S : World → Prop} {z : Nat} {l₀ : Nat}
def anyT (P : Program) (md : Region.Mode) (ops : Array Oper) (Q : Exit → Act → World → Prop) (S : World → Prop) (z : Nat) : Nat → Array Bool → Act → World → Prop
  | 0, listed, a, w => Region.ready md ops listed = [] ∧ Q .normal a w
  | fuel + 1, listed, a, w => (Region.ready md ops listed = [] → Q .normal a w) ∧
    ∀ i ∈ Region.ready md ops listed, wpOp P ops Q i (fun a' w' => (i ≠ z → S w') ∧ anyT P md ops Q S z fuel (listed.setIfInBounds i true) a' w') a w
theorem any_of_T : ∀ (fuel : Nat) (listed : Array Bool) (a : Act) (w : World), anyT P md ops Q S z fuel listed a w → wpAny P md ops Q fuel listed a w
  | 0, _, _, _, h => h
  | fuel + 1, _, _, _, h => ⟨h.1, fun i hi => wpOp_mono (fun a' w' h' => any_of_T fuel _ a' w' h'.2) (h.2 i hi)⟩
/-- What may come up before the last one may be taken first, if it yields the same in every world met. -/
theorem anyT_first {i : Nat} {oi : Oper} {v : Value} (hi : ops[i]? = some oi) (hsel : ∀ (j : Nat) (o : Oper) cs b, ops[j]? = some o → o.op ≠ .select cs b)
    (hQ : ∀ c a w, Q (.panic c) (a.put oi.dst v) w → Q (.panic c) a w) (hs : Region.sinkB md ops z = true) (hc : Region.chainB md ops z = true) (hz : z < ops.size) (hiz : i < z) :
    ∀ (fuel : Nat) (listed : Array Bool) (a : Act) (w : World), HeadInv md ops z listed →
      (∀ j oj, ops[j]? = some oj → j ≠ i → listed.getD j true = false → (∀ e ∈ oj.after, Region.binds md e = true → e.on ≠ i) → oi.apart ops oj = true) →
      i ∈ Region.ready md ops listed → YieldsIf P ops S oi v a → S w →
      anyT P md ops Q S z fuel (listed.setIfInBounds i true) (a.put oi.dst v) w → anyT P md ops Q S z (fuel + 1) listed a w
  | fuel, listed, a, w, inv, hfree, hr, hy, hS, H => by
    have hun := (mem_ready.1 hr).1
    refine ⟨fun h => (by rw [h] at hr; cases hr), fun j hj => ?_⟩
    by_cases hji : j = i
    · rw [hji]; exact hy.wpOp hi hS ⟨fun _ => hS, H⟩
    · have hjz : j < z := by
        rcases Nat.lt_or_ge j z with h | h
        · exact h
        · exact absurd hj (tail_waits hs hc hz inv _ i rfl hiz hun j h)
      cases fuel with
      | zero =>
        have := ready_mono hj hji
        rw [H.1] at this
        cases this
      | succ fuel =>
        have h1 := H.2 j (ready_mono hj hji)
        obtain ⟨hjun, oj, hoj, hall⟩ := mem_ready.1 hj
        have hnot : ∀ e ∈ oj.after, Region.binds md e = true → e.on ≠ i := fun e he hb heq => by
          have h1 := hall e he hb
          rw [heq, getD_both hun] at h1
          cases h1
        have h2 := wpOp_putIf hoj (hfree j oj hoj hji hjun hnot) (fun cs b => hsel i oi cs b hi) (fun cs b => hsel j oj cs b hoj) hQ hy h1
        have hfree' : ∀ k ok, ops[k]? = some ok → k ≠ i → (listed.setIfInBounds j true).getD k true = false →
            (∀ e ∈ ok.after, Region.binds md e = true → e.on ≠ i) → oi.apart ops ok = true := fun k ok hk hki hkun hno => by
          refine hfree k ok hk hki ?_ hno
          by_cases hjk : j = k
          · rw [← hjk]; exact hjun
          · rw [getD_set_ne true hjk] at hkun; exact hkun
        refine wpOp_mono (fun a' w' h3 => ?_) h2
        have hS' := h3.2.1 (by omega)
        refine ⟨fun _ => hS', anyT_first hi hsel hQ hs hc hz hiz fuel (listed.setIfInBounds j true) a' w' (inv.set hj hjz) hfree' (ready_mono hr (Ne.symm hji)) h3.1 hS' ?_⟩
        rw [Array.setIfInBounds_comm _ _ hji]
        exact h3.2.2
/-- The state of a walk through the head, as a Bool. -/
def headB (md : Region.Mode) (ops : Array Oper) (z : Nat) (listed : Array Bool) : Bool :=
  listed.size == ops.size && ((List.range ops.size).all (fun j => !(listed.getD j false) || match ops[j]? with | some o => o.after.all (fun e => !(Region.binds md e) || listed.getD e.on false) | none => true) &&
    (List.range ops.size).all fun t => decide (t < z) || !(listed.getD t true))
theorem headB_inv {listed : Array Bool} (h : headB md ops z listed = true) : HeadInv md ops z listed := by
  unfold headB at h
  rw [Bool.and_eq_true, Bool.and_eq_true, List.all_eq_true, List.all_eq_true, beq_iff_eq] at h
  refine ⟨h.1, fun j oj hj hl e he hb => ?_, fun t ht htn => ?_⟩
  · have := h.2.1 j (by simpa using (Array.getElem?_eq_some_iff.1 hj).1)
    rw [hj, hl] at this
    simp only [Bool.not_true, Bool.false_or] at this
    rw [Array.all_eq_true_iff_forall_mem] at this
    have h2 := this e he
    rw [hb] at h2
    simpa using h2
  · have := h.2.2 t (by simpa using htn)
    have hlt : ¬ t < z := by omega
    simpa [hlt] using this
theorem anyT_take {i : Nat} {oi : Oper} {v : Value} {fuel : Nat} {listed : Array Bool} {a : Act} {w : World} (hi : ops[i]? = some oi)
    (hc : (Region.noSelect ops && Region.sinkB md ops z && Region.chainB md ops z && decide (z < ops.size) && decide (i < z) && headB md ops z listed && Region.free md ops listed i && (Region.ready md ops listed).contains i) = true)
    (hQ : ∀ c a w, Q (.panic c) (a.put oi.dst v) w → Q (.panic c) a w) (hy : YieldsIf P ops S oi v a) (hS : S w)
    (h : anyT P md ops Q S z fuel (listed.setIfInBounds i true) (a.put oi.dst v) w) : anyT P md ops Q S z (fuel + 1) listed a w := by
  simp only [Bool.and_eq_true, decide_eq_true_eq] at hc
  obtain ⟨⟨⟨⟨⟨⟨⟨h1, h2⟩, h3⟩, h4⟩, h5⟩, h6⟩, h7⟩, h8⟩ := hc
  exact anyT_first hi (Region.noSelect_spec h1) hQ h2 h3 h4 h5 fuel listed a w (headB_inv h6) (Region.free_spec hi h7) (by simpa using h8) hy hS h
/-- The only one that may come up: it is carried out. -/
theorem anyT_one {i : Nat} {o : Oper} {fuel : Nat} {listed : Array Bool} {a : Act} {w : World} (hr : Region.ready md ops listed = [i]) (ho : ops[i]? = some o)
    (h : ∀ K' : Act → World → Prop, Shut (∀ a w, (i ≠ z → S w) → anyT P md ops Q S z fuel (listed.setIfInBounds i true) a w → K' a w) → if Region.wanted o (yielded ops a.tmps) = true then Oper.wp P o a w K' Q else K' (a.put o.dst undef) w) :
    anyT P md ops Q S z (fuel + 1) listed a w :=
  ⟨fun h0 => (by rw [hr] at h0; cases h0), fun j hj => by
    rw [hr] at hj
    obtain rfl := List.mem_singleton.1 hj
    exact wpOp_step ho (fun K' hK => h K' (fun a w hS hW => hK a w ⟨hS, hW⟩))⟩
theorem anyT_done {listed : Array Bool} {a : Act} {w : World} (hr : Region.ready md ops listed = []) (h : Q .normal a w) : ∀ fuel, anyT P md ops Q S z fuel listed a w
  | 0 => ⟨hr, h⟩
  | _ + 1 => ⟨fun _ => h, by rw [hr]; simp⟩
theorem region_T_round {id : Nat} {a : Act} {w : World} {l : List Oper} (z : Nat) (hm : P.follows .mixedOrders = true) (hd : l.all noDefer = true) (hQ : ¬ LetsOut Q)
    (h : anyT P .any l.toArray Q S z l.toArray.size (Array.replicate l.toArray.size false) a w.drew) : (Code.region id l.toArray true).wpIn (Fence.wide.inRound l₀) n P Q a w :=
  wpIn_region_any hm (anyIn_round (fun _ o ho => noDefer_spec (List.all_eq_true.1 hd o (List.mem_of_getElem? (by simpa using ho)))) _ _ _ _ (any_wide hQ _ _ _ _ (any_of_T _ _ _ _ h)))
theorem region_T {id : Nat} {a : Act} {w : World} {l : List Oper} (z : Nat) (hm : P.follows .mixedOrders = true)
    (h : anyT P .any l.toArray Q S z l.toArray.size (Array.replicate l.toArray.size false) a w.drew) : (Code.region id l.toArray true).wp P Q a w :=
  wp_region_any hm (any_of_T _ _ _ _ h)
end
end Go.Proofs.YtdcdddmjffgibaaGreat

/- Fractions without a common factor: the model's and the program's. -/
namespace Go.Proofs.YtdcdddmjffgibaaGreat
open Go.RowKit Go.Shelf

theorem results_cell_row2 {P : Program} {fn : Func} {p q : Tmp} {ty : TypeId} (h : fn.results = #[.cell p ty, .tmp q]) (tmps : Array Value) (w : World) (g : Nat) (t : TypeId) (cs : Array Value) (fr : Nat × Nat) (d : TypeDesc) (v : Value)
    (hp : tmps.getD p undef = .pointer (some ⟨g, 0, none⟩)) (hq : tmps.getD q undef = v) (hg : w.heap[g]? = some (.cells cs t fr))
    (hu : P.underlying ty = some d) (hd : (match d with | .struct _ | .array _ _ => true | _ => false) = true) (hi : (P.info? ty).map (·.size) = some cs.size) :
    (results fn tmps).run P w = .ok (.tuple #[.agg cs, v]) w := by
  have hp' : tmps[p]?.getD undef = .pointer (some ⟨g, 0, none⟩) := by simpa using hp
  have hq' : tmps[q]?.getD undef = v := by simpa using hq
  simp [results, h, hp', hq', asAddr, run_loadVar_row w g t ty cs fr d hg hu hd hi]

theorem wrap_nat {x : Int} {k : Nat} (h : x = (k : Int)) (hk : k ≤ 1000000) : IntKind.i64.wrap x = x := by rw [IntKind.wrap_i64]; omega

/-- A fraction, as a struct. -/
def fracV (p q : Nat) : Value := .agg #[.int .i64 (p : Int), .int .i64 (q : Int)]

end Go.Proofs.YtdcdddmjffgibaaGreat

/- Ideals, as plain mathematics: what is below a set, when a set is an ideal, and how both are found pair by pair. No program. -/
namespace Go.Proofs.YtdcdddmjffgibaaGreat

/-- The set with all that is below its items less than k. -/
def belTo (ds : List Int) (s : Int) : Nat → Int
  | 0 => s
  | k + 1 => if bitB s k then orI (belTo ds s k) (ds[k]?.getD 0) else belTo ds s k
theorem belTo_yes {ds : List Int} {s : Int} {k : Nat} (h : bitB s k = true) : belTo ds s (k + 1) = orI (belTo ds s k) (ds[k]?.getD 0) := by simp [belTo, h]
theorem belTo_no {ds : List Int} {s : Int} {k : Nat} (h : bitB s k = false) : belTo ds s (k + 1) = belTo ds s k := by simp [belTo, h]
theorem belTo_bd {ds : List Int} (h : Sets ds) {s : Int} (h0 : 0 ≤ s) (h1 : s < powI ds.length) : ∀ k : Nat, k ≤ ds.length → 0 ≤ belTo ds s k ∧ belTo ds s k < powI ds.length
  | 0, _ => ⟨h0, h1⟩
  | k + 1, hk => by
    have ih := belTo_bd h h0 h1 k (by omega)
    have hz := h.2 k (by omega)
    unfold belTo
    split
    · exact orI_bd ih.1 ih.2 hz.1 hz.2
    · exact ih
theorem belTo_bit (ds : List Int) (s : Int) (j : Nat) : ∀ k : Nat, bitB (belTo ds s k) j = true ↔ bitB s j = true ∨ ∃ b : Nat, b < k ∧ bitB s b = true ∧ bitB (ds[b]?.getD 0) j = true
  | 0 => by simp [belTo]
  | k + 1 => by
    have ih := belTo_bit ds s j k
    cases hb : bitB s k
    · rw [belTo_no hb, ih]
      constructor
      · rintro (h | ⟨b, h1, h2⟩)
        · exact .inl h
        · exact .inr ⟨b, by omega, h2⟩
      · rintro (h | ⟨b, h1, h2, h3⟩)
        · exact .inl h
        · have : b ≠ k := fun e => by rw [e, hb] at h2; cases h2
          exact .inr ⟨b, by omega, h2, h3⟩
    · rw [belTo_yes hb, bitB_or, Bool.or_eq_true, ih]
      constructor
      · rintro ((h | ⟨b, h1, h2⟩) | h)
        · exact .inl h
        · exact .inr ⟨b, by omega, h2⟩
        · exact .inr ⟨k, by omega, hb, h⟩
      · rintro (h | ⟨b, h1, h2, h3⟩)
        · exact .inl (.inl h)
        · by_cases e : b = k
          · rw [e] at h3; exact .inr h3
          · exact .inl (.inr ⟨b, by omega, h2, h3⟩)
/-- The set with all that is below its items. -/
def belI (zs : List Int) (s : Int) : Int := belTo (du zs) s zs.length
theorem belI_bd {zs : List Int} (h : Sets zs) {s : Int} (h0 : 0 ≤ s) (h1 : s < powI zs.length) : 0 ≤ belI zs s ∧ belI zs s < powI zs.length := by
  have := belTo_bd (du_sets h) (s := s) h0 (by rw [du_len]; exact h1) zs.length (by rw [du_len]; exact Nat.le_refl _)
  rwa [du_len] at this
theorem belI_bit {zs : List Int} (h : Sets zs) {s : Int} (h1 : s < powI zs.length) (j : Nat) : bitB (belI zs s) j = true ↔ bitB s j = true ∨ ∃ b : Nat, bitB s b = true ∧ bitB (zs[j]?.getD 0) b = true := by
  unfold belI
  rw [belTo_bit]
  constructor
  · rintro (e | ⟨b, _, h2, h3⟩)
    · exact .inl e
    · exact .inr ⟨b, h2, by rwa [du_bit h] at h3⟩
  · rintro (e | ⟨b, h2, h3⟩)
    · exact .inl e
    · exact .inr ⟨b, bitB_lt h1 h2, h2, by rwa [du_bit h]⟩
/-- Whether the set is an ideal. -/
def idB (zs : List Int) (s : Int) : Bool := belI zs s == s
theorem idB_iff {zs : List Int} (h : Sets zs) {s : Int} (h0 : 0 ≤ s) (h1 : s < powI zs.length) : idB zs s = true ↔ ∀ a b : Nat, bitB s b = true → bitB (zs[a]?.getD 0) b = true → bitB s a = true := by
  unfold idB
  rw [beq_iff_eq]
  constructor
  · intro e a b h2 h3
    rw [← e]
    exact (belI_bit h h1 a).2 (.inr ⟨b, h2, h3⟩)
  · intro e
    refine bitB_ext (belI_bd h h0 h1).1 h0 fun j => ?_
    rw [Bool.eq_iff_iff, belI_bit h h1]
    constructor
    · rintro (e1 | ⟨b, h2, h3⟩)
      · exact e1
      · exact e j b h2 h3
    · exact .inl
/-- The model's test: the items less than k have all below them. -/
def idTo (ds : List Int) (s : Int) (k : Nat) : Bool := (List.range k).all fun a : Nat => !bitB s a || lessI (ds[a]?.getD 0) s == 0
theorem lessI_none {a b : Int} : lessI a b = 0 ↔ ∀ j : Nat, bitB a j = true → bitB b j = true := by
  constructor
  · intro h j hj
    have : bitB (lessI a b) j = false := by rw [h, bitB_zero]
    rw [bitB_less, hj] at this
    simpa using this
  · intro h
    refine bitB_ext (lessI_bd _ _).1 (Int.le_refl _) fun j => ?_
    rw [bitB_less, bitB_zero]
    cases e : bitB a j
    · rfl
    · rw [h j e]; rfl
theorem idTo_all {zs : List Int} (h : Sets zs) {s : Int} (h0 : 0 ≤ s) (h1 : s < powI zs.length) : idTo (du zs) s zs.length = idB zs s := by
  rw [Bool.eq_iff_iff, idB_iff h h0 h1]
  unfold idTo
  rw [List.all_eq_true]
  constructor
  · intro e a b h2 h3
    have hb := bitB_lt h1 h2
    have := e b (by simpa using hb)
    rw [h2] at this
    simp only [Bool.not_true, Bool.false_or, beq_iff_eq] at this
    exact lessI_none.1 this a (by rwa [du_bit h])
  · intro e b _
    cases h2 : bitB s b
    · rfl
    · simp only [Bool.not_true, Bool.false_or, beq_iff_eq]
      exact lessI_none.2 fun j hj => e j b h2 (by rwa [du_bit h] at hj)
theorem idTo_no {ds : List Int} {s : Int} {k n : Nat} (hk : k < n) (h1 : bitB s k = true) (h2 : (lessI (ds[k]?.getD 0) s == 0) = false) : idTo ds s n = false := by
  cases e : idTo ds s n
  · rfl
  · have := List.all_eq_true.1 e k (by simpa using hk)
    rw [h1, h2] at this; cases this
theorem idTo_succ {ds : List Int} {s : Int} {k : Nat} (h : idTo ds s k = true) (h2 : bitB s k = false ∨ (lessI (ds[k]?.getD 0) s == 0) = true) : idTo ds s (k + 1) = true := by
  unfold idTo at h ⊢
  rw [List.range_succ, List.all_append, h]
  rcases h2 with h2 | h2 <;> simp [h2]

/-- What is marked when a list of pairs is over. -/
def mkP (s : Int) (ps : List (Nat × Nat)) : Int := ps.foldl (fun (m : Int) (p : Nat × Nat) => if bitB m p.2 then orI m (powI p.1) else m) s
theorem mkP_yes {s : Int} {ps : List (Nat × Nat)} {a b : Nat} (h : bitB (mkP s ps) b = true) : mkP s (ps ++ [(a, b)]) = orI (mkP s ps) (powI a) := by
  unfold mkP at *
  rw [List.foldl_append]
  simp only [List.foldl_cons, List.foldl_nil]
  rw [if_pos h]
theorem mkP_no {s : Int} {ps : List (Nat × Nat)} {a b : Nat} (h : bitB (mkP s ps) b = false) : mkP s (ps ++ [(a, b)]) = mkP s ps := by
  unfold mkP at *
  rw [List.foldl_append]
  simp only [List.foldl_cons, List.foldl_nil]
  rw [if_neg (by rw [h]; decide)]
theorem mkP_bd {n : Nat} : ∀ (ps : List (Nat × Nat)) {s : Int}, (∀ p ∈ ps, p.1 < n) → 0 ≤ s → s < powI n → 0 ≤ mkP s ps ∧ mkP s ps < powI n
  | [], s, _, h0, h1 => ⟨h0, h1⟩
  | p :: ps, s, h, h0, h1 => by
    have e : mkP s (p :: ps) = mkP (if bitB s p.2 then orI s (powI p.1) else s) ps := rfl
    rw [e]
    have hp := h p (by simp)
    split
    · have := orI_bd (a := s) (b := powI p.1) (n := n) h0 h1 (Int.le_of_lt (powI_pos _)) (powI_lt hp)
      exact mkP_bd ps (fun q hq => h q (by simp [hq])) this.1 this.2
    · exact mkP_bd ps (fun q hq => h q (by simp [hq])) h0 h1
theorem mkP_inv {zs : List Int} (h : VoP zs) {s : Int} : ∀ (ps : List (Nat × Nat)) (m : Int), (∀ p ∈ ps, lt zs p.1 p.2) → (∀ j : Nat, bitB s j = true → bitB m j = true) →
    (∀ j : Nat, bitB m j = true → bitB s j = true ∨ ∃ b : Nat, bitB s b = true ∧ bitB (zs[j]?.getD 0) b = true) →
    (∀ j : Nat, bitB m j = true → bitB (mkP m ps) j = true) ∧ (∀ j : Nat, bitB (mkP m ps) j = true → bitB s j = true ∨ ∃ b : Nat, bitB s b = true ∧ bitB (zs[j]?.getD 0) b = true) ∧ ∀ p ∈ ps, bitB s p.2 = true → bitB (mkP m ps) p.1 = true
  | [], m, _, _, h2 => ⟨fun _ e => e, h2, fun p hp => by cases hp⟩
  | p :: ps, m, hp, h1, h2 => by
    have e : mkP m (p :: ps) = mkP (if bitB m p.2 then orI m (powI p.1) else m) ps := rfl
    rw [e]
    have hlt := hp p (by simp)
    cases hb : bitB m p.2
    · rw [if_neg (by decide)]
      obtain ⟨g1, g2, g3⟩ := mkP_inv h ps m (fun q hq => hp q (by simp [hq])) h1 h2
      refine ⟨g1, g2, fun q hq hs => ?_⟩
      rcases List.mem_cons.1 hq with rfl | hq
      · rw [h1 _ hs] at hb; cases hb
      · exact g3 q hq hs
    · rw [if_pos rfl]
      have hs1 : ∀ j : Nat, bitB m j = true → bitB (orI m (powI p.1)) j = true := fun j hj => by rw [bitB_or, hj]; rfl
      obtain ⟨g1, g2, g3⟩ := mkP_inv h ps (orI m (powI p.1)) (fun q hq => hp q (by simp [hq])) (fun j hj => hs1 j (h1 j hj)) (fun j hj => by
        rw [bitB_or, bitB_pow, Bool.or_eq_true, decide_eq_true_eq] at hj
        rcases hj with hj | rfl
        · exact h2 j hj
        · rcases h2 _ hb with hs | ⟨b, hs, hz⟩
          · exact .inr ⟨p.2, hs, hlt.2⟩
          · refine .inr ⟨b, hs, (h.trans hlt ⟨?_, hz⟩).2⟩
            rcases Nat.lt_or_ge p.2 zs.length with h1 | h1
            · exact h1
            · rw [List.getElem?_eq_none (by omega), Option.getD_none, bitB_zero] at hz; cases hz)
      refine ⟨fun j hj => g1 j (hs1 j hj), g2, fun q hq hs => ?_⟩
      rcases List.mem_cons.1 hq with rfl | hq
      · exact g1 _ (by rw [bitB_or, bitB_pow]; simp)
      · exact g3 q hq hs
theorem mkP_all {zs : List Int} (h : VoP zs) {s : Int} (h0 : 0 ≤ s) (h1 : s < powI zs.length) : mkP s (pairsL zs) = belI zs s := by
  obtain ⟨g1, g2, g3⟩ := mkP_inv h (s := s) (pairsL zs) s (fun p hp => by
    obtain ⟨ha, _, hb⟩ := mem_pairsL.1 (show (p.1, p.2) ∈ pairsL zs from hp)
    exact ⟨ha, hb⟩) (fun _ e => e) (fun _ e => .inl e)
  refine bitB_ext (mkP_bd (n := zs.length) _ (fun p hp => (mem_pairsL.1 (show (p.1, p.2) ∈ pairsL zs from hp)).1) h0 h1).1 (belI_bd h.sets h0 h1).1 fun j => ?_
  rw [Bool.eq_iff_iff, belI_bit h.sets h1]
  constructor
  · exact g2 j
  · rintro (e | ⟨b, hs, hz⟩)
    · exact g1 j e
    · refine g3 (j, b) (mem_pairsL.2 ⟨?_, ?_, hz⟩) hs
      · rcases Nat.lt_or_ge j zs.length with h1 | h1
        · exact h1
        · rw [List.getElem?_eq_none (by omega), Option.getD_none, bitB_zero] at hz; cases hz
      · have := bitB_lt h1 hs; have := h.1; omega

/-! What the functions answer. -/
def isIdealR (zs : List Int) (s : Int) : Bool := (vo zs && inB s 0 (powI zs.length - 1)) && idB zs s
def belowR (zs : List Int) (s : Int) : Int := if vo zs && inB s 0 (powI zs.length - 1) then belI zs s else -1
def nextI (zs : List Int) (s : Int) : Int := belI zs (topsTo (du zs) (powI zs.length - 1 - s) zs.length)
def nextR (zs : List Int) (s : Int) : Int := if isIdealR zs s then nextI zs s else -1
/-- The sets less than k for which p holds, ascending. -/
def setsTo (p : Int → Bool) (k : Nat) : List Int := ((List.range k).filter fun j : Nat => p (j : Int)).map fun j : Nat => (j : Int)
theorem setsTo_yes {p : Int → Bool} {k : Nat} (h : p (k : Int) = true) : setsTo p (k + 1) = setsTo p k ++ [(k : Int)] := by
  simp [setsTo, List.range_succ, h]
theorem setsTo_no {p : Int → Bool} {k : Nat} (h : p (k : Int) = false) : setsTo p (k + 1) = setsTo p k := by
  simp [setsTo, List.range_succ, h]
theorem setsTo_len (p : Int → Bool) (k : Nat) : (setsTo p k).length ≤ k := by
  unfold setsTo
  rw [List.length_map]
  exact Nat.le_trans (List.length_filter_le _ _) (by simp)
def idealsR (zs : List Int) : List Int := if vo zs then setsTo (idB zs) (2 ^ zs.length) else []
def apartsR (zs : List Int) : List Int := if vo zs then setsTo (apB zs) (2 ^ zs.length) else []
end Go.Proofs.YtdcdddmjffgibaaGreat

/- Ideals: the model's. -/
namespace Go.Proofs.YtdcdddmjffgibaaGreat
open Go.RowKit Go.Shelf
attribute [local go_sem] Oper.semAt_some
attribute [local go_sem, local simp] wide_fn

end Go.Proofs.YtdcdddmjffgibaaGreat

/- slices.SortFunc of sets by how many items they have: the program's comparisons; sorted by a number of each. -/
import Derived.Test.YtdcdddmjffgibaaGreatDfP
import Derived.Test.YtdcdddmjffgibaaGreatGa
set_option linter.unusedVariables false
set_option linter.unusedSimpArgs false
namespace Go.Proofs.YtdcdddmjffgibaaGreat
open Go.RowKit Go.Shelf

def cmpI (x y : Int) : Int := if x < y then -1 else if y < x then 1 else 0
theorem cmpI_neg (x y : Int) : cmpI x y < 0 ↔ x < y := by unfold cmpI; split <;> (try split) <;> omega

set_option maxHeartbeats 1000000 in
theorem compare_any (x y : Int) (w : World) : Calls Tryz.prog 68 #[.int .i64 x, .int .i64 y] w fun e w' => e = .returned (.int .i64 (cmpI x y)) ∧ w = w' := by
  have hn : ∀ z w, Calls Tryz.prog 80 #[.int .i64 z] w fun e w' => e = .returned (.bool false) ∧ w = w' := fun z w => by
    go_enter Tryz.func80, Tryz.ntmps80
    go_wp2
    go_ret
    exact ⟨by simp, rfl⟩
  have Hc := Lib.hid (show cmpI x y = if x < y then -1 else if y < x then 1 else 0 from rfl)
  go_enter Tryz.func68, Tryz.ntmps68
  go_wp2_with (go_at_call 80; refine (hn _ _).mono ?_; rintro e w' ⟨rfl, rfl⟩)
  all_goals go_ret
  all_goals exact ⟨ret_int (by rw [Hc.out]; split <;> (try split) <;> omega), rfl⟩

theorem bySize_any (a b : Int) (w : World) (ha : 0 ≤ a ∧ a < 64) (hb : 0 ≤ b ∧ b < 64) : Calls Tryz.prog 49 #[.int .i64 a, .int .i64 b] w fun e w' => e = .returned (.int .i64 (cmpI (popI a) (popI b))) ∧ w = w' := by
  go_enter Tryz.func49, Tryz.ntmps49
  go_wp2_with (first
    | (go_at_call 69; refine (size_any _ _ (by omega) (by omega)).mono ?_; rintro e w' ⟨rfl, rfl⟩)
    | (go_at_call 68; refine (compare_any _ _ _).mono ?_; rintro e w' ⟨rfl, rfl⟩))
  go_ret
  exact ⟨rfl, rfl⟩
theorem byFalling_any (a b : Int) (w : World) (ha : 0 ≤ a ∧ a < 64) (hb : 0 ≤ b ∧ b < 64) : Calls Tryz.prog 50 #[.int .i64 a, .int .i64 b] w fun e w' => e = .returned (.int .i64 (cmpI (-popI a) (-popI b))) ∧ w = w' := by
  have He := Lib.hid (show cmpI (popI b) (popI a) = cmpI (-popI a) (-popI b) by unfold cmpI; split <;> split <;> (try split) <;> (try split) <;> omega)
  go_enter Tryz.func50, Tryz.ntmps50
  go_wp2_with (go_at_call 49; refine (bySize_any _ _ _ hb ha).mono ?_; rintro e w' ⟨rfl, rfl⟩)
  go_ret
  exact ⟨ret_int He.out, rfl⟩

/-! Sets as the 64 that there are. -/
def encF (x : Fin 64) : Value := .int .i64 (x.val : Int)
def toF (x : Int) : Fin 64 := ⟨x.toNat % 64, by omega⟩
theorem toF_val {x : Int} (h0 : 0 ≤ x) (h1 : x < 64) : ((toF x).val : Int) = x := by unfold toF; simp only; omega
theorem fin_get {d : Array (Fin 64)} {j : Nat} (hj : j < d.size) : d[j]! = d[j] := by simp [hj]
theorem holdsF_of {w : World} {g : Nat} {xs : List Int} (h : HoldsI w g xs) (hb : ∀ x ∈ xs, 0 ≤ x ∧ x < 64) : Sort.Holds encF w g 0 (xs.map toF).toArray := fun j hj => by
  have hj' : j < xs.length := by simpa using hj
  have h1 := holds_cell h hj'
  rw [Nat.zero_add]
  refine ⟨?_, h1.2⟩
  have h2 := hb xs[j] (List.getElem_mem hj')
  have h3 := toF_val h2.1 h2.2
  rw [h1.1, fin_get hj, List.getElem?_eq_getElem hj']
  simp only [List.getElem_toArray, List.getElem_map, Option.getD_some, encF]
  rw [h3]
theorem holds_ofF {w : World} {g : Nat} {d : Array (Fin 64)} (h : Sort.Holds encF w g 0 d) : HoldsI w g (d.toList.map fun x => (x.val : Int)) := fun j hj => by
  have hj' : j < d.size := by simpa using hj
  have h1 := h j hj'
  refine ⟨?_, h1.2⟩
  rw [h1.1, fin_get hj']
  simp [encF, hj']
theorem putRowF_upd (w : World) (g off : Nat) (d : Array (Fin 64)) : Upd (fun k => k = g) w (Sort.putRow encF w g off d) := by
  refine ⟨rfl, rfl, rfl, by simp [Sort.putRow, Sort.mapBlock], fun k hk hr => ?_⟩
  simp only [Sort.putRow, Sort.mapBlock, Array.getElem?_modify]
  rw [if_neg (fun e => hr e.symm)]

/-- Sorted by a number of each: what a call of slices.SortFunc leaves. -/
def SortedBy (f : Int → Int) (xs ys : List Int) : Prop := ys.Perm xs ∧ ys.Pairwise fun a b => f a ≤ f b

theorem sortf_any {gf : Nat} (f : Int → Int) (g cap : Nat) (xs : List Int) (w : World) (hH : HoldsI w g xs) (hb : ∀ x ∈ xs, 0 ≤ x ∧ x < 64) (hs : xs.length ≤ 12)
    (eg : ∀ args w, (callFunc gf args).run Tryz.prog w = .ok (.enter gf args) w)
    (hc : ∀ (a b : Int) (W : World), 0 ≤ a ∧ a < 64 → 0 ≤ b ∧ b < 64 → Calls Tryz.prog gf #[.int .i64 a, .int .i64 b] W fun e w' => e = .returned (.int .i64 (cmpI (f a) (f b))) ∧ W = w') :
    Calls Tryz.prog 66 #[.slice (some ⟨g, 0, none⟩) xs.length cap, .func (.func gf) #[] #[]] w fun e w' => e = .returned (.tuple #[]) ∧ ∃ ys, SortedBy f xs ys ∧ HoldsI w' g ys ∧ Upd (fun k => k = g) w w' := by
  have hlen : ∀ (n : Nat) (W : World), n ≤ 12 → Calls Tryz.prog 79 #[.int .u64 n] W fun e w' => (∃ l : Int, e = .returned (.int .i64 l)) ∧ w' = W := fun n W hn =>
    (show Calls Tryz.prog 79 #[.int .u64 n] W _ from Any.bits_Len Tryz.llen n W (by omega) (by omega)).mono (fun _ _ h => ⟨⟨_, h.1⟩, h.2⟩)
  have hcmp : CmpReads Tryz.prog gf #[] encF (fun x y => cmpI (f x.val) (f y.val)) g 0 (xs.map toF).toArray.size w := fun m os dk hdk x y => by
    have h := hc (x.val : Int) (y.val : Int) (sortWorld encF w g 0 m dk os) ⟨by omega, by omega⟩ ⟨by omega, by omega⟩
    exact h.mono (fun _ _ h => ⟨h.1, 0, h.2.symm⟩)
  have hS : Sort.SWO (ltOf fun (x y : Fin 64) => cmpI (f x.val) (f y.val)) := by
    refine ⟨fun x => ?_, fun x y z h1 h2 => ?_, fun x y z h1 h2 => ?_⟩
    · unfold ltOf; rw [decide_eq_false_iff_not, cmpI_neg]; omega
    · unfold ltOf at *; rw [decide_eq_true_eq, cmpI_neg] at *; omega
    · unfold ltOf at *; rw [decide_eq_false_iff_not, cmpI_neg] at *; omega
  have hsz : (xs.map toF).toArray.size = xs.length := by simp
  have h := Any.slices_SortFunc_small_sorted Tryz.lsortf encF (fun _ => rfl) (fun x y => cmpI (f x.val) (f y.val)) hS gf #[] g 0 cap (xs.map toF).toArray w eg hcmp (holdsF_of hH hb) (by rw [hsz]; exact hs) hlen
  rw [hsz] at h
  refine (show Calls Tryz.prog 66 #[.slice (some ⟨g, 0, none⟩) xs.length cap, .func (.func gf) #[] #[]] w _ from h).mono ?_
  rintro e w' ⟨rfl, d', n, ⟨hp1, hp2, hp3⟩, hso, rfl⟩
  have hd : d'.size = xs.length := by rw [hp1, hsz]
  have he1 : (d'.extract 0 xs.length) = d' := by rw [← hd]; simp
  have he2 : ((xs.map toF).toArray.extract 0 xs.length) = (xs.map toF).toArray := by
    have : xs.length = (xs.map toF).toArray.size := by simp
    conv => lhs; rw [this]
    exact Array.extract_size
  rw [he1, he2] at hp3
  refine ⟨rfl, d'.toList.map fun x => (x.val : Int), ⟨?_, ?_⟩, ?_, ?_⟩
  · have h1 := hp3.map (fun x : Fin 64 => (x.val : Int))
    have h2 : ((xs.map toF).toArray.toList.map fun x : Fin 64 => (x.val : Int)) = xs := by
      simp only [List.map_map]
      conv => rhs; rw [← List.map_id xs]
      refine List.map_congr_left fun x hx => ?_
      have := hb x hx
      exact toF_val this.1 this.2
    rwa [h2] at h1
  · rw [List.pairwise_map]
    refine List.pairwise_iff_getElem.2 fun i j hi hj hij => ?_
    have hi' : i < d'.size := by simpa using hi
    have hj' : j < d'.size := by simpa using hj
    have := hso i j (Nat.zero_le _) hij (by omega)
    unfold ltOf at this
    rw [decide_eq_false_iff_not, cmpI_neg, fin_get hi', fin_get hj'] at this
    simp only [Array.getElem_toList]
    omega
  · have h1 : Sort.Holds encF (Sort.putRow encF w g 0 d') g 0 d' := Sort.holds_putRow _ _ _ _ _ _ (holdsF_of hH hb) hp1
    exact holds_upd (holds_ofF h1) ((Upd.refl (fun _ => False) _).drewN n) (fun e => e)
  · exact (putRowF_upd w g 0 d').drewN n

set_option maxHeartbeats 1000000 in
theorem sortf_none (fv : Value) (cap : Nat) (p : Option Addr) (w : World) :
    Calls Tryz.prog 66 #[.slice p 0 cap, fv] w fun e w' => e = .returned (.tuple #[]) ∧ ∃ q, w' = w.drewN q := by
  have hlen : ∀ (W : World), Calls Tryz.prog 79 #[.int .u64 0] W fun e w' => e = .returned (.int .i64 (Lib.bitLen 0)) ∧ w' = W := fun W => Any.bits_Len Tryz.llen 0 W (by omega) (by omega)
  have hins : ∀ W : World, Calls Tryz.prog 87 #[.slice p 0 cap, .int .i64 0, .int .i64 0, fv] W fun e w' => e = .returned (.tuple #[]) ∧ w' = W := fun W => by
    go_enter Tryz.func87, Tryz.ntmps87
    go_wp2
    refine wp_loop_rounds 1 ?_
    rw [rounds_succ]
    go_wp2
    go_end0
    exact ⟨rfl, rfl⟩
  have hpdq : ∀ (l : Int) (W : World), Calls Tryz.prog 78 #[.slice p 0 cap, .int .i64 0, .int .i64 0, .int .i64 l, fv] W fun e w' => e = .returned (.tuple #[]) ∧ w' = W := fun l W => by
    go_enter Tryz.func78, Tryz.ntmps78
    go_wp2
    refine wp_loop_rounds 1 ?_
    rw [rounds_succ]
    go_wp2_with (go_at_call 87; refine (hins _).mono ?_; rintro e w' ⟨rfl, rfl⟩)
    (try simp only [Exit.inBlock, Exit.then]); refine bodyPost_ret (results_none rfl _ _ _) rfl ?_
    exact ⟨rfl, rfl⟩
  go_enter Tryz.func66, Tryz.ntmps66
  go_wp2_with (first
    | (go_at_call 79; refine (hlen _).mono ?_; rintro e w' ⟨rfl, rfl⟩)
    | (go_at_call 78; refine (hpdq _ _).mono ?_; rintro e w' ⟨rfl, rfl⟩))
  go_end0
  exact ⟨rfl, 0, rfl⟩
end Go.Proofs.YtdcdddmjffgibaaGreat

/- All numberings, as the model tells them; the values of MapOrder, CanonOf, SelfMaps. -/
import Derived.Test.YtghogabmkbadjaaRnS
import Derived.Test.YtghogabmkbadjaaAllS
import Derived.Test.YtghogabmkbadjaaLoO
import Derived.Test.YtghogabmkbadjaaSaI
set_option linter.unusedVariables false
set_option linter.unusedSimpArgs false
namespace Go.Proofs.Ytghogabmkbadjaa
open Go.RowKit Go.Shelf

/-- Whether a list is no longer than what is tried, and an order. -/
def triB (zs : List Int) : Bool := vo zs && decide (zs.length ≤ 5)
def selfR (zs : List Int) : Int := if triB zs then (((alL (zr zs.length)).filter fun t => decide (rnL zs t = zs)).length : Int) else -1
def mapO (a b : List Int) : Option (List Int) := if triB a && (triB b && decide (a.length = b.length)) then (alL (zr a.length)).find? (fun t => decide (rnL a t = b)) else none
def mapR (a b : List Int) : List Int := (mapO a b).getD []
def mapB (a b : List Int) : Bool := (mapO a b).isSome
def canT (zs : List Int) (ls : List (List Int)) : List Int := ls.foldl (fun m t => if lessRB (rnL zs t) m then rnL zs t else m) zs
def canR (zs : List Int) : List Int := if triB zs then canT zs (alL (zr zs.length)) else []
theorem triB_vo {zs : List Int} (h : triB zs = true) : VoP zs ∧ zs.length ≤ 5 := by
  unfold triB at h
  rw [Bool.and_eq_true] at h
  exact ⟨by simpa [vo] using h.1, by simpa using h.2⟩
theorem triB_of {zs : List Int} (h : VoP zs) (h5 : zs.length ≤ 5) : triB zs = true := by
  unfold triB
  rw [vo_true h]
  simpa using h5
theorem canT_snoc (zs : List Int) (ls : List (List Int)) (t : List Int) : canT zs (ls ++ [t]) = if lessRB (rnL zs t) (canT zs ls) then rnL zs t else canT zs ls := by
  unfold canT
  rw [List.foldl_append]
  rfl
theorem canT_len' (zs : List Int) : ∀ (ls : List (List Int)) (m : List Int), m.length = zs.length → (ls.foldl (fun m t => if lessRB (rnL zs t) m then rnL zs t else m) m).length = zs.length
  | [], _, h => h
  | t :: ls, m, h => by
    rw [List.foldl_cons]
    refine canT_len' zs ls _ ?_
    split
    · rw [rnL_len]
    · exact h
theorem canT_len (zs : List Int) (ls : List (List Int)) : (canT zs ls).length = zs.length := canT_len' zs ls zs rfl

theorem mk_ints (w : World) (n : Nat) : Ints (w.alloc (.cells (madeCells #[.int .i64 0] n) 3)) (w.heap.size + 1) (some ⟨w.heap.size, 0, none⟩) n (zr n) := Arr.ints' (Arr.new w 3 n) (by omega) (by simp)
theorem mk_ints0 (w : World) (n : Nat) (o1 o2 : Obj) : Ints (((w.alloc (.cells (madeCells #[.int .i64 0] n) 3)).alloc o1).alloc o2) (((w.alloc (.cells (madeCells #[.int .i64 0] n) 3)).alloc o1).alloc o2).heap.size (some ⟨w.heap.size, 0, none⟩) n (zr n) :=
  Arr.ints' (((Arr.new w 3 n).alloc o1).alloc o2) (by simp; omega) (by simp)
theorem mk_ints1 (w : World) (n : Nat) (o0 o2 : Obj) : Ints (((w.alloc o0).alloc (.cells (madeCells #[.int .i64 0] n) 3)).alloc o2) (((w.alloc o0).alloc (.cells (madeCells #[.int .i64 0] n) 3)).alloc o2).heap.size (some ⟨w.heap.size + 1, 0, none⟩) n (zr n) := by
  have h := (Arr.new (w.alloc o0) 3 n).alloc o2
  rw [World.size_alloc] at h
  exact Arr.ints' h (by simp) (by simp)
theorem mk_ints2 (w : World) (n : Nat) (o0 o1 : Obj) : Ints (((w.alloc o0).alloc o1).alloc (.cells (madeCells #[.int .i64 0] n) 3)) (((w.alloc o0).alloc o1).alloc (.cells (madeCells #[.int .i64 0] n) 3)).heap.size (some ⟨w.heap.size + 1 + 1, 0, none⟩) n (zr n) := by
  have h := Arr.new ((w.alloc o0).alloc o1) 3 n
  rw [World.size_alloc, World.size_alloc] at h
  exact Arr.ints' h (by simp) (by simp)
theorem mk_own0 (w : World) (o1 o2 : Obj) : (((w.alloc (.cells #[] 3)).alloc o1).alloc o2).ownsRow 0 3 1 (.slice (some ⟨w.heap.size, 0, none⟩) 0 0) 0 [] := own_sooner (((own_new w 3).alloc o1).alloc o2) (Nat.zero_le _)
theorem mk_own1 (w : World) (o0 o2 : Obj) : (((w.alloc o0).alloc (.cells #[] 3)).alloc o2).ownsRow 0 3 1 (.slice (some ⟨w.heap.size + 1, 0, none⟩) 0 0) 0 [] := by
  have h := (own_new (w.alloc o0) 3).alloc o2
  simp only [World.size_alloc] at h
  exact own_sooner h (Nat.zero_le _)
theorem mk_own2 (w : World) (o0 o1 : Obj) : (((w.alloc o0).alloc o1).alloc (.cells #[] 3)).ownsRow 0 3 1 (.slice (some ⟨w.heap.size + 1 + 1, 0, none⟩) 0 0) 0 [] := by
  have h := own_new ((w.alloc o0).alloc o1) 3
  simp only [World.size_alloc] at h
  exact own_sooner h (Nat.zero_le _)

set_option maxRecDepth 100000 in
set_option maxHeartbeats 4000000 in
theorem perm_any (n : Nat) (hn6 : n ≤ 6) (w : World) :
    Calls Try.prog 51 #[.int .i64 (n : Int)] w fun e w' => ∃ g c L, e = .returned (.slice (some ⟨g, 0, none⟩) L.length c) ∧ L.map Prod.fst = alL (zr n) ∧ LnRows (fun j => w.heap.size ≤ j) w' (.slice (some ⟨g, 0, none⟩) L.length c) L ∧ Below w.heap.size w w' := by
  have hmk := run_make_row' (P := Try.prog) 22 3 (.int .i64 0) 8 Try.underlying22 infoInt rfl .i64 .i64 n (by omega) (by omega)
  have hdu := zr_du hn6
  go_enter Try.func51, Try.ntmps51
  go_wp2
  go_region_with (go_at_call 78; refine (allLines_any (zr n) (zr_vo hn6) n (zr_len n) _ _ _ _ n [] 0 _ _ _ (by simp) (Int.le_refl _) (powI_pos _) (by first | exact mk_ints0 _ _ _ _ | exact mk_ints1 _ _ _ _ | exact mk_ints2 _ _ _ _) (by rw [hdu]; first | exact mk_ints0 _ _ _ _ | exact mk_ints1 _ _ _ _ | exact mk_ints2 _ _ _ _) (by first | exact mk_own0 _ _ _ | exact mk_own1 _ _ _ | exact mk_own2 _ _ _)).mono ?_; rintro e w2 ⟨v, g, c, rfl, ⟨L, rfl, hL, hR⟩, hB⟩)
  all_goals
    go_wp2
    go_ret
    refine ⟨g, c, L, rfl, by rw [hL]; unfold alL; rw [zr_len], hR.more (fun k hk => by have h1 : _ ≤ k := hk; simp at h1; omega), ?_⟩
    exact ((((((Upd.refl (fun _ => False) w).drew).alloc _).alloc _).alloc _).toBelow (B := w.heap.size) (fun _ e => e.elim) (Nat.le_refl _)).trans (hB.mono (by simp; omega))
end Go.Proofs.Ytghogabmkbadjaa

/- Texts that several claims share, one behind the other. -/
import Derived.Test.YtghogabmkbadjaaRnS
import Derived.Test.YtghogabmkbadjaaGxg
import Derived.Test.YtghogabmkbadjaaGxd
import Derived.Test.YtghogabmkbadjaaGxh
import Derived.Test.YtghogabmkbadjaaRdT
import Derived.Test.YtghogabmkbadjaaGc
import Derived.Test.YtghogabmkbadjaaGb
set_option linter.unusedVariables false
set_option linter.unusedSimpArgs false
/- All numberings, as the model tells them; the values of MapOrder, CanonOf, SelfMaps. -/
namespace Go.Proofs.Ytghogabmkbadjaa
open Go.RowKit Go.Shelf

def selfR (zs : List Int) : Int := if triB zs then (((alL (zr zs.length)).filter fun t => decide (rnL zs t = zs)).length : Int) else -1
def mapO (a b : List Int) : Option (List Int) := if triB a && (triB b && decide (a.length = b.length)) then (alL (zr a.length)).find? (fun t => decide (rnL a t = b)) else none
def mapR (a b : List Int) : List Int := (mapO a b).getD []
def mapB (a b : List Int) : Bool := (mapO a b).isSome
def canT (zs : List Int) (ls : List (List Int)) : List Int := ls.foldl (fun m t => if lessRB (rnL zs t) m then rnL zs t else m) zs
def canR (zs : List Int) : List Int := if triB zs then canT zs (alL (zr zs.length)) else []
theorem canT_snoc (zs : List Int) (ls : List (List Int)) (t : List Int) : canT zs (ls ++ [t]) = if lessRB (rnL zs t) (canT zs ls) then rnL zs t else canT zs ls := by
  unfold canT
  rw [List.foldl_append]
  rfl
theorem canT_len' (zs : List Int) : ∀ (ls : List (List Int)) (m : List Int), m.length = zs.length → (ls.foldl (fun m t => if lessRB (rnL zs t) m then rnL zs t else m) m).length = zs.length
  | [], _, h => h
  | t :: ls, m, h => by
    rw [List.foldl_cons]
    refine canT_len' zs ls _ ?_
    split
    · rw [rnL_len]
    · exact h
theorem canT_len (zs : List Int) (ls : List (List Int)) : (canT zs ls).length = zs.length := canT_len' zs ls zs rfl

theorem mk_ints (w : World) (n : Nat) : Ints (w.alloc (.cells (madeCells #[.int .i64 0] n) 3)) (w.heap.size + 1) (some ⟨w.heap.size, 0, none⟩) n (zr n) := Arr.ints' (Arr.new w 3 n) (by omega) (by simp)
theorem mk_ints0 (w : World) (n : Nat) (o1 o2 : Obj) : Ints (((w.alloc (.cells (madeCells #[.int .i64 0] n) 3)).alloc o1).alloc o2) (((w.alloc (.cells (madeCells #[.int .i64 0] n) 3)).alloc o1).alloc o2).heap.size (some ⟨w.heap.size, 0, none⟩) n (zr n) :=
  Arr.ints' (((Arr.new w 3 n).alloc o1).alloc o2) (by simp; omega) (by simp)
theorem mk_ints1 (w : World) (n : Nat) (o0 o2 : Obj) : Ints (((w.alloc o0).alloc (.cells (madeCells #[.int .i64 0] n) 3)).alloc o2) (((w.alloc o0).alloc (.cells (madeCells #[.int .i64 0] n) 3)).alloc o2).heap.size (some ⟨w.heap.size + 1, 0, none⟩) n (zr n) := by
  have h := (Arr.new (w.alloc o0) 3 n).alloc o2
  rw [World.size_alloc] at h
  exact Arr.ints' h (by simp) (by simp)
theorem mk_ints2 (w : World) (n : Nat) (o0 o1 : Obj) : Ints (((w.alloc o0).alloc o1).alloc (.cells (madeCells #[.int .i64 0] n) 3)) (((w.alloc o0).alloc o1).alloc (.cells (madeCells #[.int .i64 0] n) 3)).heap.size (some ⟨w.heap.size + 1 + 1, 0, none⟩) n (zr n) := by
  have h := Arr.new ((w.alloc o0).alloc o1) 3 n
  rw [World.size_alloc, World.size_alloc] at h
  exact Arr.ints' h (by simp) (by simp)
theorem mk_own0 (w : World) (o1 o2 : Obj) : (((w.alloc (.cells #[] 3)).alloc o1).alloc o2).ownsRow 0 3 1 (.slice (some ⟨w.heap.size, 0, none⟩) 0 0) 0 [] := own_sooner (((own_new w 3).alloc o1).alloc o2) (Nat.zero_le _)
theorem mk_own1 (w : World) (o0 o2 : Obj) : (((w.alloc o0).alloc (.cells #[] 3)).alloc o2).ownsRow 0 3 1 (.slice (some ⟨w.heap.size + 1, 0, none⟩) 0 0) 0 [] := by
  have h := (own_new (w.alloc o0) 3).alloc o2
  simp only [World.size_alloc] at h
  exact own_sooner h (Nat.zero_le _)
theorem mk_own2 (w : World) (o0 o1 : Obj) : (((w.alloc o0).alloc o1).alloc (.cells #[] 3)).ownsRow 0 3 1 (.slice (some ⟨w.heap.size + 1 + 1, 0, none⟩) 0 0) 0 [] := by
  have h := own_new ((w.alloc o0).alloc o1) 3
  simp only [World.size_alloc] at h
  exact own_sooner h (Nat.zero_le _)

set_option maxRecDepth 100000 in
set_option maxHeartbeats 4000000 in
theorem perm_any (n : Nat) (hn6 : n ≤ 6) (w : World) :
    Calls Try.prog 51 #[.int .i64 (n : Int)] w fun e w' => ∃ g c L, e = .returned (.slice (some ⟨g, 0, none⟩) L.length c) ∧ L.map Prod.fst = alL (zr n) ∧ LnRows (fun j => w.heap.size ≤ j) w' (.slice (some ⟨g, 0, none⟩) L.length c) L ∧ Below w.heap.size w w' := by
  have hmk := run_make_row' (P := Try.prog) 22 3 (.int .i64 0) 8 Try.underlying22 infoInt rfl .i64 .i64 n (by omega) (by omega)
  have hdu := zr_du hn6
  go_enter Try.func51, Try.ntmps51
  go_wp2
  go_region_with (go_at_call 78; refine (allLines_any (zr n) (zr_vo hn6) n (zr_len n) _ _ _ _ n [] 0 _ _ _ (by simp) (Int.le_refl _) (powI_pos _) (by first | exact mk_ints0 _ _ _ _ | exact mk_ints1 _ _ _ _ | exact mk_ints2 _ _ _ _) (by rw [hdu]; first | exact mk_ints0 _ _ _ _ | exact mk_ints1 _ _ _ _ | exact mk_ints2 _ _ _ _) (by first | exact mk_own0 _ _ _ | exact mk_own1 _ _ _ | exact mk_own2 _ _ _)).mono ?_; rintro e w2 ⟨v, g, c, rfl, ⟨L, rfl, hL, hR⟩, hB⟩)
  all_goals
    go_wp2
    go_ret
    refine ⟨g, c, L, rfl, by rw [hL]; unfold alL; rw [zr_len], hR.more (fun k hk => by have h1 : _ ≤ k := hk; simp at h1; omega), ?_⟩
    exact ((((((Upd.refl (fun _ => False) w).drew).alloc _).alloc _).alloc _).toBelow (B := w.heap.size) (fun _ e => e.elim) (Nat.le_refl _)).trans (hB.mono (by simp; omega))
end Go.Proofs.Ytghogabmkbadjaa

/- The least order under all numberings: it is one of all, and the same for all. No program. -/
namespace Go.Proofs.Ytghogabmkbadjaa

theorem less_irr : ∀ x : List Int, lessRB x x = false
  | [] => rfl
  | a :: x => by
    show (if a = a then lessRB x x else decide (a < a)) = false
    rw [if_pos rfl]
    exact less_irr x
theorem less_cons (a b : Int) (x y : List Int) : lessRB (a :: x) (b :: y) = true ↔ a < b ∨ (a = b ∧ lessRB x y = true) := by
  show (if a = b then lessRB x y else decide (a < b)) = true ↔ _
  by_cases h : a = b
  · rw [if_pos h]; simp [h]
  · rw [if_neg h, decide_eq_true_eq]; simp [h]
theorem less_tot : ∀ x y : List Int, x.length = y.length → lessRB x y = true ∨ x = y ∨ lessRB y x = true
  | [], [], _ => .inr (.inl rfl)
  | [], _ :: _, h => by simp at h
  | _ :: _, [], h => by simp at h
  | a :: x, b :: y, h => by
    have ih := less_tot x y (by simpa using h)
    rw [less_cons, less_cons]
    rcases Int.lt_trichotomy a b with h1 | h1 | h1
    · exact .inl (.inl h1)
    · rcases ih with h2 | h2 | h2
      · exact .inl (.inr ⟨h1, h2⟩)
      · exact .inr (.inl (by rw [h1, h2]))
      · exact .inr (.inr (.inr ⟨h1.symm, h2⟩))
    · exact .inr (.inr (.inl h1))
theorem less_trans : ∀ x y z : List Int, lessRB x y = true → lessRB y z = true → lessRB x z = true
  | [], _, _, h, _ => by cases h
  | _ :: _, [], _, h, _ => by cases h
  | _ :: _, _ :: _, [], _, h => by cases h
  | a :: x, b :: y, c :: z, h1, h2 => by
    rw [less_cons] at h1 h2 ⊢
    rcases h1 with h1 | ⟨h1, h3⟩ <;> rcases h2 with h2 | ⟨h2, h4⟩
    · exact .inl (by omega)
    · exact .inl (by omega)
    · exact .inl (by omega)
    · exact .inr ⟨h1.trans h2, less_trans x y z h3 h4⟩
theorem less_not {x y : List Int} (hl : x.length = y.length) (h : lessRB x y = false) : x = y ∨ lessRB y x = true := by
  rcases less_tot x y hl with e | e | e
  · rw [h] at e; cases e
  · exact .inl e
  · exact .inr e

theorem canF {zs : List Int} : ∀ (ls : List (List Int)) (m : List Int), m.length = zs.length →
    ((ls.foldl (fun m t => if lessRB (rnL zs t) m then rnL zs t else m) m) = m ∨ ∃ t ∈ ls, (ls.foldl (fun m t => if lessRB (rnL zs t) m then rnL zs t else m) m) = rnL zs t) ∧
    lessRB m (ls.foldl (fun m t => if lessRB (rnL zs t) m then rnL zs t else m) m) = false ∧ ∀ t ∈ ls, lessRB (rnL zs t) (ls.foldl (fun m t => if lessRB (rnL zs t) m then rnL zs t else m) m) = false
  | [], m, _ => ⟨.inl rfl, less_irr m, fun t h => by cases h⟩
  | t :: ls, m, hm => by
    rw [List.foldl_cons]
    have hl : (if lessRB (rnL zs t) m then rnL zs t else m).length = zs.length := by
      split
      · rw [rnL_len]
      · exact hm
    obtain ⟨h1, h2, h3⟩ := canF ls _ hl
    have hr := canT_len' zs ls _ hl
    generalize (ls.foldl (fun m t => if lessRB (rnL zs t) m then rnL zs t else m) (if lessRB (rnL zs t) m then rnL zs t else m)) = r at *
    have hx := rnL_len zs t
    cases e : lessRB (rnL zs t) m
    · rw [e] at h1 h2
      rw [if_neg (by decide)] at h1 h2
      refine ⟨?_, h2, fun u hu => ?_⟩
      · rcases h1 with h1 | ⟨u, hu, h1⟩
        · exact .inl h1
        · exact .inr ⟨u, List.mem_cons_of_mem _ hu, h1⟩
      · rcases List.mem_cons.1 hu with rfl | hu
        · cases e2 : lessRB (rnL zs u) r with
          | false => rfl
          | true =>
            rcases less_not (by omega) h2 with e3 | e3
            · rw [← e3, e] at e2; cases e2
            · rw [less_trans _ _ _ e2 e3] at e; cases e
        · exact h3 u hu
    · rw [e] at h1 h2
      rw [if_pos rfl] at h1 h2
      refine ⟨?_, ?_, fun u hu => ?_⟩
      · rcases h1 with h1 | ⟨u, hu, h1⟩
        · exact .inr ⟨t, List.mem_cons_self, h1⟩
        · exact .inr ⟨u, List.mem_cons_of_mem _ hu, h1⟩
      · cases e2 : lessRB m r with
        | false => rfl
        | true => rw [less_trans _ _ _ e e2] at h2; cases h2
      · rcases List.mem_cons.1 hu with rfl | hu
        · exact h2
        · exact h3 u hu

/-- The least one of all. -/
def canA (zs : List Int) : List Int := canT zs (alL (zr zs.length))
section
variable {zs : List Int} {p : List Int}
theorem can_is (hz : Sets zs) : (∃ t, lineB (zr zs.length) t = true ∧ canA zs = rnL zs t) ∧ lessRB zs (canA zs) = false ∧ ∀ t, lineB (zr zs.length) t = true → lessRB (rnL zs t) (canA zs) = false := by
  obtain ⟨h1, h2, h3⟩ := canF (zs := zs) (alL (zr zs.length)) zs rfl
  refine ⟨?_, h2, fun t ht => h3 t ((alL_mem _ _).2 ht)⟩
  rcases h1 with h1 | ⟨t, ht, h1⟩
  · exact ⟨idN zs.length, id_nb hz.1, by rw [rn_id hz]; exact h1⟩
  · exact ⟨t, (alL_mem _ _).1 ht, h1⟩
theorem can_rn (hz : Sets zs) (hp : lineB (zr zs.length) p = true) : canA (rnL zs p) = canA zs := by
  have hn := hz.1
  have l1 := rnL_len zs p
  have hs := rnL_sets hz hp
  obtain ⟨⟨t1, ht1, e1⟩, _, m1⟩ := can_is hz
  obtain ⟨⟨t2, ht2, e2⟩, _, m2⟩ := can_is hs
  rw [l1] at ht2
  have a1 := m1 _ (cm_nb hn hp ht2)
  rw [← rn_cm hz hp ht2, ← e2] at a1
  have hq := cm_nb hn (bk_nb hn hp) ht1
  have a2 := m2 (cmP zs.length (bkL zs.length p) t1) (by rw [l1]; exact hq)
  have e4 := rn_cm (zs := rnL zs p) hs (p := bkL zs.length p) (q := t1) (by rw [l1]; exact bk_nb hn hp) (by rw [l1]; exact ht1)
  rw [l1] at e4
  rw [← e4, rn_back hz hp, ← e1] at a2
  have hl : (canA (rnL zs p)).length = (canA zs).length := by
    unfold canA; rw [canT_len, canT_len, l1]
  rcases less_not hl a1 with e | e
  · exact e
  · rw [a2] at e; cases e
theorem tri_parts (h : triB zs = true) : VoP zs ∧ zs.length ≤ 5 := by
  unfold triB vo at h
  simpa using h
theorem tri_mk (h : VoP zs) (hl : zs.length ≤ 5) : triB zs = true := by
  unfold triB vo
  simp [h, hl]
theorem tri_rn (h : triB zs = true) (hp : lineB (zr zs.length) p = true) : triB (rnL zs p) = true :=
  tri_mk (rn_vo (tri_parts h).1 hp) (by rw [rnL_len]; exact (tri_parts h).2)
theorem canR_tri (h : triB zs = true) : canR zs = canA zs := by unfold canR; rw [h]; rfl
theorem selfR_tri (h : triB zs = true) : selfR zs = ((numb zs zs).length : Int) := by unfold selfR; rw [h]; rfl
theorem selfR_no (h : triB zs = false) : selfR zs = -1 := by unfold selfR; rw [h]; rfl

set_option maxRecDepth 100000 in
theorem all_fact : ∀ n : Fin 6, ((alL (zr n.val)).length : Int) = factI n.val := by decide +kernel

/-- What SelfMaps' own law asks. -/
theorem self_facts (h : 0 ≤ selfR zs) : selfR zs ≥ 1 ∧ zs.length ≤ 5 ∧ selfR zs ≤ 120 ∧ (factI zs.length).tmod (selfR zs) = 0 ∧ VoP zs ∧ selfR (du zs) = selfR zs := by
  cases ht : triB zs
  · rw [selfR_no ht] at h; omega
  · obtain ⟨hv, hl⟩ := tri_parts ht
    have htd : triB (du zs) = true := tri_mk (du_vo hv) (by rw [du_len]; exact hl)
    have h1 := self_one hv.sets
    have h2 := self_div hv.sets
    have h3 := all_fact ⟨zs.length, by omega⟩
    dsimp only at h3
    have h4 : (numb zs zs).length ≤ (alL (zr zs.length)).length := List.length_filter_le _ _
    have h5 : ∀ n : Fin 6, factI n.val ≤ 120 := by decide
    have h6 := h5 ⟨zs.length, by omega⟩
    dsimp only at h6
    rw [selfR_tri ht, selfR_tri htd, self_du hv]
    refine ⟨by omega, hl, by omega, ?_, hv, rfl⟩
    rw [← h3]
    exact Int.tmod_eq_zero_of_dvd (Int.natCast_dvd_natCast.2 h2)
/-- What CanonOf's own law asks. -/
theorem can_facts (h : canR zs ≠ []) : vo (canR zs) = true ∧ canR (canR zs) = canR zs ∧ mapB zs (canR zs) = true ∧ selfR (canR zs) = selfR zs ∧ lessRB zs (canR zs) = false ∧ zs.length ≤ 5 ∧ (canR zs).length = zs.length := by
  cases ht : triB zs
  · exfalso; apply h; unfold canR; rw [ht]; rfl
  · obtain ⟨hv, hl⟩ := tri_parts ht
    obtain ⟨⟨t, htn, e⟩, h2, _⟩ := can_is hv.sets
    have hc := tri_rn ht htn
    rw [canR_tri ht]
    have h3 := can_rn hv.sets htn
    have h4 := self_rn hv.sets htn
    rw [← e] at hc h3 h4
    have hlen : (canA zs).length = zs.length := by unfold canA; rw [canT_len]
    refine ⟨vo_true (tri_parts hc).1, by rw [canR_tri hc, h3], ?_, by rw [selfR_tri ht, selfR_tri hc, h4], h2, hl, hlen⟩
    unfold mapB mapO
    rw [ht, hc, hlen]
    simp only [Bool.true_and, decide_true, if_true]
    rw [List.find?_isSome]
    exact ⟨t, (alL_mem _ _).2 htn, by rw [e]; simp⟩
/-- What MapOrder's own law asks. -/
theorem map_facts {ys : List Int} (h : mapB zs ys = true) : rnOk zs (mapR zs ys) = true ∧ rnR zs (mapR zs ys) = ys ∧ canR ys = canR zs ∧ zs.length ≤ 5 := by
  unfold mapB at h
  obtain ⟨t, ht⟩ := Option.isSome_iff_exists.1 h
  have er : mapR zs ys = t := by unfold mapR; rw [ht]; rfl
  cases hc : (triB zs && (triB ys && decide (zs.length = ys.length)))
  · have : mapO zs ys = none := by unfold mapO; rw [hc]; rfl
    rw [this] at ht; cases ht
  · have hf : mapO zs ys = (alL (zr zs.length)).find? (fun t => decide (rnL zs t = ys)) := by unfold mapO; rw [hc]; rfl
    rw [hf] at ht
    have h1 := List.mem_of_find?_eq_some ht
    have h2 := List.find?_some ht
    have h2 : rnL zs t = ys := by simpa using h2
    have h1 := (alL_mem _ _).1 h1
    simp only [Bool.and_eq_true] at hc
    obtain ⟨hv, hl⟩ := tri_parts hc.1
    have hok : rnOk zs t = true := by unfold rnOk; rw [vo_true hv, h1]; rfl
    rw [er]
    refine ⟨hok, by unfold rnR; rw [hok]; exact h2, ?_, hl⟩
    rw [canR_tri hc.1, canR_tri hc.2.1, ← h2, can_rn hv.sets h1]
theorem mapR_no {ys : List Int} (h : mapB zs ys = false) : mapR zs ys = [] := by
  unfold mapB at h
  unfold mapR
  cases e : mapO zs ys with
  | none => rfl
  | some t => rw [e] at h; cases h
theorem canR_len5 (zs : List Int) : (canR zs).length ≤ 5 := by
  unfold canR
  split
  · rename_i h
    rw [canT_len]
    exact (tri_parts h).2
  · simp
end
end Go.Proofs.Ytghogabmkbadjaa

/- SelfMaps, MapOrder, CanonOf: the model's, whole. -/
namespace Go.Proofs.Ytghogabmkbadjaa
open Go.RowKit Go.Shelf

/-- All numberings as rows. -/
theorem perm_rows (n : Nat) (hn6 : n ≤ 6) (w : World) :
    Calls Try.prog 51 #[.int .i64 (n : Int)] w fun e w' => ∃ g N c, e = .returned (.slice (some ⟨g, 0, none⟩) N c) ∧ (alL (zr n)).length = N ∧ N ≤ 46656 ∧ IntsS w' w'.heap.size (some ⟨g, 0, none⟩) N (alL (zr n)) ∧ Below w.heap.size w w' := by
  refine (perm_any n hn6 w).mono ?_
  rintro e w' ⟨g, c, L, rfl, hL, hR, hB⟩
  have h1 := hR.ints rfl
  rw [hL] at h1
  have h2 : (alL (zr n)).length = L.length := by rw [← hL, List.length_map]
  have h3 := alL_count (zs := zr n) (by rw [zr_len]; exact hn6)
  exact ⟨g, L.length, c, rfl, h2, by omega, h1, hB⟩
theorem alz_row {n k : Nat} (hk : k < (alL (zr n)).length) : lineB (zr n) ((alL (zr n))[k]?.getD []) = true ∧ ((alL (zr n))[k]?.getD []).length = n := by
  have h1 : lineB (zr n) ((alL (zr n))[k]?.getD []) = true := by
    rw [List.getElem?_eq_getElem hk, Option.getD_some]
    exact (alL_mem _ _).1 (List.getElem_mem hk)
  exact ⟨h1, (zr_steps h1).1⟩
theorem takeRn_snoc {α : Type} {l : List (List α)} {k : Nat} (hk : k < l.length) : l.take (k + 1) = l.take k ++ [l[k]?.getD []] := by
  rw [List.take_succ_eq_append_getElem hk, List.getElem?_eq_getElem hk]
  rfl

set_option maxRecDepth 100000 in
set_option maxHeartbeats 4000000 in
theorem specSelfMapsF_any (A : Option Addr) (n c : Nat) (zs : List Int) (w : World) (h : Ints w w.heap.size A n zs) (hbig : n ≤ 1152921504606846976) :
    Calls Try.prog 24 #[.slice A n c] w fun e w' => e = .returned (.int .i64 (selfR zs)) ∧ Below w.heap.size w w' := by
  have hlen := Lib.hid h.len
  cases hv : vo zs
  · have Ht := Lib.hid (show selfR zs = -1 by unfold selfR triB; rw [hv]; rfl)
    go_enter Try.func24, Try.ntmps24
    go_wp2_with fail
    refine (validOrder_any _ _ _ _ zs _ h hbig).mono ?_
    rw [hv]
    rintro e w' ⟨rfl, m, rfl⟩
    go_wp2_with fail
    go_ret
    exact ⟨ret_int Ht.out.symm, below_drewN (Below.refl _ _) m⟩
  · have hvo : VoP zs := by simpa [vo] using hv
    have Hv := Lib.hid hv
    clear hv
    have hn6 : n ≤ 6 := by have := hvo.1; rw [hlen.out] at this; exact this
    by_cases hn5 : n ≤ 5
    · have Ht := Lib.hid (show selfR zs = (((alL (zr n)).filter fun t => decide (rnL zs t = zs)).length : Int) by unfold selfR; rw [triB_of hvo (by rw [hlen.out]; exact hn5), hlen.out]; rfl)
      go_enter Try.func24, Try.ntmps24
      go_wp2_with fail
      refine (validOrder_any _ _ _ _ zs _ h hbig).mono ?_
      rw [Hv.out]
      rintro e w' ⟨rfl, m, rfl⟩
      have i1 : Ints (w.drewN m) (w.drewN m).heap.size A n zs := h.drewN m
      have B1 : Below w.heap.size w (w.drewN m) := below_drewN (Below.refl _ _) m
      generalize w.drewN m = w1 at *
      have z1 := B1.size
      go_wp2_with fail
      refine (perm_rows n hn6 w1).mono ?_
      rintro e w2 ⟨g, N, cN, rfl, hN, hNb, hR, hB2⟩
      have z2 := hB2.size
      have i2 := i1.to hB2 (Nat.le_refl _) z2
      have C2 := B1.trans (hB2.mono z1)
      have HN := Lib.hid hN
      clear hN i1 h hB2 B1
      go_wp2_with fail
      go_loopw [3, 5] (fun cnt i wr => ∃ k : Nat, k ≤ N ∧ i = .int .i64 k ∧ cnt = .int .i64 ((((alL (zr n)).take k).filter fun t => decide (rnL zs t = zs)).length : Nat) ∧ Below w2.heap.size w2 wr) (fun _ i _ => N - (intOf i).toNat)
      case atStart => exact ⟨0, by omega, rfl, rfl, Below.refl _ _⟩
      case round =>
        obtain ⟨k, hk, rfl, rfl, hB⟩ := hrel
        rename World => wr
        have zB := hB.size
        by_cases hlt : k < N
        · obtain ⟨b0, off, e0, hb0, hc⟩ := (hR.below hB).at_ hlt
          cases e0
          obtain ⟨A', c', hcell, hI⟩ := hc k hlt
          clear hc
          obtain ⟨hlb, hll⟩ := alz_row (n := n) (k := k) (by rw [HN.out]; exact hlt)
          have htk := takeRn_snoc (l := alL (zr n)) (k := k) (by rw [HN.out]; exact hlt)
          generalize hrr : (alL (zr n))[k]?.getD [] = r at *
          have Htk := Lib.hid (show (((alL (zr n)).take (k + 1)).filter fun t => decide (rnL zs t = zs)).length = (((alL (zr n)).take k).filter fun t => decide (rnL zs t = zs)).length + (if rnL zs r = zs then 1 else 0) by
            rw [htk, List.filter_append, List.length_append, List.filter_cons]
            by_cases e : rnL zs r = zs <;> simp [e])
          have hcb : (((alL (zr n)).take k).filter fun t => decide (rnL zs t = zs)).length ≤ k := Nat.le_trans (List.length_filter_le _ _) (by rw [List.length_take]; exact Nat.min_le_left _ _)
          have Hlb := Lib.hid hlb
          clear htk hrr hlb
          rw [hll, Nat.zero_add] at hcell
          rw [hll] at hI
          generalize (((alL (zr n)).take k).filter fun t => decide (rnL zs t = zs)).length = q at *
          have i3 := i2.to hB (Nat.le_refl _) zB
          go_wp2_with fail
          refine (rnS_any A A' n c c' zs r wr i3 (hI.more zB) hvo.sets Hlb.out).mono ?_
          rintro e w3 ⟨rfl, hA3, hB3⟩
          have z3 := hB3.size
          have hD := hB.trans (hB3.mono zB)
          go_wp2_with fail
          refine (below_quiet (sameInts_any _ _ _ _ _ _ w3.heap.size w3.heap.size _ zs _ (hA3.ints' hA3.lt (by rw [rnL_len, hlen.out])) (i3.to hB3 (Nat.le_refl _) z3) (by omega) (by omega))).mono ?_
          rintro e w4 ⟨rfl, hB4⟩
          have hD4 := hD.trans (hB4.mono (by omega))
          by_cases he : rnL zs r = zs
          · have hdec : decide (rnL zs r = zs) = true := by simpa using he
            rw [if_pos he] at Htk
            clear he
            go_wp2_with fail
            go_roundw
            case rel => exact ⟨k + 1, by omega, by go_num, congrArg (Value.int .i64) (by rw [Htk.out]; omega), hD4⟩
            case measure => simp [intOf]; omega
          · have hdec : decide (rnL zs r = zs) = false := by simpa using he
            rw [if_neg he] at Htk
            clear he
            go_wp2_with fail
            go_roundw
            case rel => exact ⟨k + 1, by omega, by go_num, congrArg (Value.int .i64) (by rw [Htk.out]; rfl), hD4⟩
            case measure => simp [intOf]; omega
        · obtain rfl : k = N := by omega
          have Htk := Lib.hid (show (alL (zr n)).take k = alL (zr n) by rw [List.take_of_length_le]; rw [HN.out]; exact Nat.le_refl _)
          go_wp2
          go_ret
          exact ⟨ret_int (by rw [Ht.out, Htk.out]), C2.trans (hB.mono C2.size)⟩
    · have Ht := Lib.hid (show selfR zs = -1 by unfold selfR triB; rw [Hv.out, hlen.out]; simp [hn5])
      go_enter Try.func24, Try.ntmps24
      go_wp2_with fail
      refine (validOrder_any _ _ _ _ zs _ h hbig).mono ?_
      rw [Hv.out]
      rintro e w' ⟨rfl, m, rfl⟩
      go_wp2_with fail
      go_ret
      exact ⟨ret_int Ht.out.symm, below_drewN (Below.refl _ _) m⟩
end Go.Proofs.Ytghogabmkbadjaa

/- CanonOf: the model's, whole. -/
namespace Go.Proofs.Ytghogabmkbadjaa
open Go.RowKit Go.Shelf

set_option maxHeartbeats 1000000 in
theorem lessIntsB_any (A A' : Option Addr) (n c c' B B' : Nat) (xs ys : List Int) (w : World) (hA : Ints w B A n xs) (hA' : Ints w B' A' n ys) (hbig : n ≤ 1152921504606846976) :
    Calls Try.prog 80 #[.slice A n c, .slice A' n c'] w fun e w' => e = .returned (.bool (lessRB xs ys)) ∧ ∃ m, w' = w.drewN m := by
  have hlen := Lib.hid hA.len
  have hlen' := Lib.hid hA'.len
  go_enter Try.func80, Try.ntmps80
  go_wp2
  go_loopw [5] (fun i wr => ∃ k m : Nat, k ≤ n ∧ i = .int .i64 k ∧ (∀ a, a < k → xs[a]?.getD 0 = ys[a]?.getD 0) ∧ wr = w.drewN m) (fun i _ => n - (intOf i).toNat)
  case atStart => exact ⟨0, 0, by omega, rfl, fun a ha => by omega, rfl⟩
  case round =>
    obtain ⟨k, m, hk, rfl, hok, rfl⟩ := hrel
    have Hok := Lib.hid hok
    clear hok
    by_cases hlt : k < n
    · obtain ⟨b, off, rfl, _, hc⟩ := hA.at_ hlt
      obtain ⟨b', off', rfl, _, hc'⟩ := hA'.at_ hlt
      have hck := hc k hlt
      have hck' := hc' k hlt
      have Hc := Lib.hid hc
      have Hc' := Lib.hid hc'
      clear hc hc'
      cases hne : (xs[k]?.getD 0 != ys[k]?.getD 0)
      · have Heq := Lib.hid (show xs[k]?.getD 0 = ys[k]?.getD 0 by simpa [bne] using hne)
        go_wp2
        go_quiet (fail)
        go_wp2
        go_roundw
        case rel => exact ⟨k + 1, _, by omega, by go_num, all_snoc Hok.out Heq.out, rfl⟩
        case measure => simp [intOf]; omega
      · have Hne := Lib.hid (lessRB_at (xs := xs) (ys := ys) (k := k) (by rw [hlen.out]; exact hlt) (by rw [hlen'.out]; exact hlt) Hok.out (by simpa [bne] using hne))
        generalize xs[k]?.getD 0 = x at *
        generalize ys[k]?.getD 0 = y at *
        go_wp2
        go_quiet (fail)
        go_wp2
        go_quiet (fail)
        go_wp2
        go_ret
        exact ⟨ret_bool Hne.out.symm, by first | exact ⟨_, rfl⟩ | exact ⟨_, (congrArg (fun z => World.drewN z _) (World.drewN_drewN ..)).trans (World.drewN_drewN ..)⟩⟩
    · obtain rfl : k = n := by omega
      have Hf := Lib.hid (lessRB_end (xs := xs) (ys := ys) (k := k) (by rw [hlen.out]; exact Nat.le_refl _) (by rw [hlen'.out]; exact Nat.le_refl _) (.inl (by rw [hlen.out])) Hok.out)
      go_wp2
      go_ret
      exact ⟨ret_bool Hf.out.symm, _, rfl⟩

theorem canR_le (zs : List Int) : (canR zs).length ≤ 1048576 := by
  unfold canR
  cases h : triB zs
  · simp
  · have := (triB_vo h).2
    simp only [if_true]
    rw [canT_len]; omega

set_option maxRecDepth 100000 in
set_option maxHeartbeats 4000000 in
theorem scanon_any (b0 o0 n c : Nat) (zs : List Int) (hvo : VoP zs) (w : World) (h : Ints w w.heap.size (some ⟨b0, o0, none⟩) n zs) (hb0 : b0 < w.heap.size) :
    Calls Try.prog 55 #[.slice (some ⟨b0, o0, none⟩) n c] w (GivesRowC w (canT zs (alL (zr n)))) := by
  have hlen := Lib.hid h.len
  have hn6 : n ≤ 6 := by have := hvo.1; rw [hlen.out] at this; exact this
  obtain ⟨i0, hi0, hz0, hz1, hz2⟩ := info_parts infoInt
  go_enter Try.func55, Try.ntmps55
  go_wp2_with fail
  refine (perm_rows n hn6 w).mono ?_
  rintro e w2 ⟨g, N, cN, rfl, hN, hNb, hR, hB2⟩
  have z2 := hB2.size
  have i2 := h.to hB2 (Nat.le_refl _) z2
  have HN := Lib.hid hN
  clear hN h
  go_wp2_with fail
  go_loopw [3, 5, 6] (fun best i _ wr => ∃ (k b' o' c' : Nat), k ≤ N ∧ i = .int .i64 k ∧ best = .slice (some ⟨b', o', none⟩) n c' ∧ b' < wr.heap.size ∧ Ints wr wr.heap.size (some ⟨b', o', none⟩) n (canT zs ((alL (zr n)).take k)) ∧ Below w2.heap.size w2 wr) (fun _ i _ _ => N - (intOf i).toNat)
  case atStart => exact ⟨0, b0, o0, c, by omega, rfl, rfl, by omega, i2, Below.refl _ _⟩
  case round =>
    obtain ⟨k, b', o', cb, hk, rfl, rfl, hbl, hI, hB⟩ := hrel
    rename World => wr
    have zB := hB.size
    by_cases hlt : k < N
    · obtain ⟨b9, off, e0, hb9, hc⟩ := (hR.below hB).at_ hlt
      cases e0
      obtain ⟨A', c', hcell, hIr⟩ := hc k hlt
      clear hc
      obtain ⟨hlb, hll⟩ := alz_row (n := n) (k := k) (by rw [HN.out]; exact hlt)
      have htk := takeRn_snoc (l := alL (zr n)) (k := k) (by rw [HN.out]; exact hlt)
      generalize hrr : (alL (zr n))[k]?.getD [] = r at *
      have Htk := Lib.hid (show canT zs ((alL (zr n)).take (k + 1)) = if lessRB (rnL zs r) (canT zs ((alL (zr n)).take k)) then rnL zs r else canT zs ((alL (zr n)).take k) by rw [htk, canT_snoc])
      have Hlb := Lib.hid hlb
      clear htk hrr hlb
      rw [hll, Nat.zero_add] at hcell
      rw [hll] at hIr
      generalize canT zs ((alL (zr n)).take k) = q at *
      have i3 := i2.to hB (Nat.le_refl _) zB
      go_wp2_with fail
      refine (rnS_any _ A' n c c' zs r wr i3 (hIr.more zB) hvo.sets Hlb.out).mono ?_
      rintro e w3 ⟨rfl, hA3, hB3⟩
      have z3 := hB3.size
      have hD := hB.trans (hB3.mono zB)
      have hI3 := hI.to hB3 (Nat.le_refl _) z3
      have hIx := hA3.ints' (B := w3.heap.size) hA3.lt (show (rnL zs r).length = n by rw [rnL_len, hlen.out])
      have hxl := hA3.lt
      go_wp2_with fail
      refine (below_quiet (lessIntsB_any _ _ n _ _ w3.heap.size w3.heap.size (rnL zs r) q _ hIx hI3 (by omega))).mono ?_
      rintro e w4 ⟨rfl, hB4⟩
      have z4 := hB4.size
      have hD4 := hD.trans (hB4.mono (by omega))
      have hI4 := hI3.to hB4 (Nat.le_refl _) z4
      have hIx4 := hIx.to hB4 (Nat.le_refl _) z4
      cases he : lessRB (rnL zs r) q
      · rw [he] at Htk
        go_wp2_with fail
        go_roundw
        case rel => exact ⟨k + 1, b', o', cb, by omega, by go_num, rfl, by omega, by rw [Htk.out]; exact hI4, hD4⟩
        case measure => simp [intOf]; omega
      · rw [he] at Htk
        go_wp2_with fail
        go_roundw
        case rel => exact ⟨k + 1, wr.heap.size, 0, n, by omega, by go_num, rfl, by omega, by rw [Htk.out]; exact hIx4, hD4⟩
        case measure => simp [intOf]; omega
    · obtain rfl : k = N := by omega
      have Htk := Lib.hid (show (alL (zr n)).take k = alL (zr n) by rw [List.take_of_length_le]; rw [HN.out]; exact Nat.le_refl _)
      rw [Htk.out] at hI
      have Hl := Lib.hid (show (canT zs (alL (zr n))).length = n by rw [canT_len, hlen.out])
      generalize canT zs (alL (zr n)) = q at *
      have hown := own_new wr 3
      have hU1 : Upd (fun _ => False) wr (wr.alloc (.cells #[] 3)) := (Upd.refl _ wr).alloc _
      have hz1' : (wr.alloc (.cells #[] 3)).heap.size = wr.heap.size + 1 := by simp
      have hcell : ∀ j, j < n → wr.cell? ⟨b', o' + j, none⟩ = some (.int .i64 (q[j]?.getD 0)) := fun j hj => by
        obtain ⟨b3, o3, e3, _, hc⟩ := hI.at_ hj
        cases e3
        exact hc j hj
      have hnews : ∀ j u, (q.map (Value.int .i64))[j]? = some u → (wr.alloc (.cells #[] 3)).cell? ((⟨b', o', none⟩ : Addr).add j) = some u := fun j u hj => by
        rw [List.getElem?_map] at hj
        have hjl : j < q.length := by
          rcases Nat.lt_or_ge j q.length with h1 | h1
          · exact h1
          · rw [List.getElem?_eq_none h1] at hj; cases hj
        rw [addr_add3]
        have h2 := hU1.cell (hcell j (by rw [← Hl.out]; exact hjl)) (fun e => e)
        rw [h2, ← hj, List.getElem?_eq_getElem hjl]
        rfl
      have Hnews := Lib.hid hnews
      clear hnews hcell
      go_wp2_with (at_builtin; refine wpList_appendK _ rfl (.tmp 27) (.tmp 28) _ rfl wr.heap.size 3 i0 _ 8 Try.underlying22 hi0 hz0 hz1 hz2 rfl _ 0 [] rfl hown ⟨b', o', none⟩ n cb _ rfl (by rw [List.length_map]; exact Hl.out) Hnews.out (fun u hu => by obtain ⟨z, _, rfl⟩ := List.mem_map.1 hu; rfl) (by simp [maxLen]; omega) (by omega) (by simp) ?_; intro v' w' hown' hg'; rw [Nat.zero_add, List.nil_append] at hown'; obtain ⟨A1, c1, rfl, hV⟩ := rowV_of_own hown')
      go_ret
      have hBn : Below w2.heap.size w2 w' := hB.trans (((hU1.mono (S := fun k => wr.heap.size ≤ k) (fun _ _ e => e.elim)).grown hg' (fun k hk => by simp [Value.ownBlock, Act.eval] at hk; exact .inl (by omega))).toBelow (B := w2.heap.size) (fun k e => by omega) zB)
      obtain ⟨A2, c2, e2, hC⟩ := rowC_of_own hown'
      cases e2
      exact ⟨_, n, c1, rfl, hC.more (by omega) (Nat.le_refl _), hB2.trans (hBn.mono z2)⟩

set_option maxRecDepth 100000 in
theorem specCanonOfF_any (b0 o0 n c : Nat) (zs : List Int) (w : World) (h : Ints w w.heap.size (some ⟨b0, o0, none⟩) n zs) (hb0 : b0 < w.heap.size) (hbig : n ≤ 1152921504606846976) :
    Calls Try.prog 22 #[.slice (some ⟨b0, o0, none⟩) n c] w (GivesRowC w (canR zs)) := by
  have hlen := Lib.hid h.len
  cases hv : vo zs
  · have Ht := Lib.hid (show canR zs = [] by unfold canR triB; rw [hv]; rfl)
    go_enter Try.func22, Try.ntmps22
    go_wp2_with fail
    refine (validOrder_any _ _ _ _ zs _ h hbig).mono ?_
    rw [hv]
    rintro e w' ⟨rfl, m, rfl⟩
    go_wp2_with fail
    go_ret
    exact ⟨_, _, _, rfl, by rw [Ht.out]; exact RowC.nil _ _ _ _, below_drewN (Below.refl _ _) m⟩
  · have hvo : VoP zs := by simpa [vo] using hv
    have Hv := Lib.hid hv
    clear hv
    have hn6 : n ≤ 6 := by have := hvo.1; rw [hlen.out] at this; exact this
    go_enter Try.func22, Try.ntmps22
    go_wp2_with fail
    refine (validOrder_any _ _ _ _ zs _ h hbig).mono ?_
    rw [Hv.out]
    rintro e w' ⟨rfl, m, rfl⟩
    have i1 : Ints (w.drewN m) (w.drewN m).heap.size (some ⟨b0, o0, none⟩) n zs := h.drewN m
    have B1 : Below w.heap.size w (w.drewN m) := below_drewN (Below.refl _ _) m
    generalize w.drewN m = w1 at *
    have z1 := B1.size
    by_cases hn5 : n ≤ 5
    · have Ht := Lib.hid (show canR zs = canT zs (alL (zr n)) by unfold canR; rw [triB_of hvo (by rw [hlen.out]; exact hn5), hlen.out]; rfl)
      go_wp2_with fail
      refine (scanon_any b0 o0 n c zs hvo w1 i1 (by omega)).mono ?_
      rintro e w2 ⟨A2, n2, c2, rfl, hC, hB2⟩
      go_wp2_with fail
      go_ret
      exact ⟨_, _, _, rfl, by rw [Ht.out]; exact hC.more z1 (Nat.le_refl _), B1.trans (hB2.mono z1)⟩
    · have Ht := Lib.hid (show canR zs = [] by unfold canR triB; rw [Hv.out, hlen.out]; simp [hn5])
      go_wp2_with fail
      go_ret
      exact ⟨_, _, _, rfl, by rw [Ht.out]; exact RowC.nil _ _ _ _, B1⟩
end Go.Proofs.Ytghogabmkbadjaa

/- MapOrder: the model's, whole. -/
namespace Go.Proofs.Ytghogabmkbadjaa
open Go.RowKit Go.Shelf

theorem find_hit {p : List Int → Bool} : ∀ {l : List (List Int)} {k : Nat}, k < l.length → (∀ j, j < k → p (l[j]?.getD []) = false) → p (l[k]?.getD []) = true → l.find? p = some (l[k]?.getD [])
  | [], k, hk, _, _ => by simp at hk
  | x :: l, 0, _, _, h => by
    have h' : p x = true := by simpa using h
    rw [List.find?_cons, h']; rfl
  | x :: l, k + 1, hk, hno, h => by
    have h0 : p x = false := by simpa using hno 0 (by omega)
    rw [List.find?_cons, h0]
    simp only [List.getElem?_cons_succ] at h ⊢
    exact find_hit (by simpa using hk) (fun j hj => by simpa using hno (j + 1) (by omega)) h
theorem find_no {p : List Int → Bool} {l : List (List Int)} (h : ∀ j, j < l.length → p (l[j]?.getD []) = false) : l.find? p = none := by
  rw [List.find?_eq_none]
  intro x hx
  obtain ⟨j, hj, rfl⟩ := List.mem_iff_getElem.1 hx
  have := h j hj
  rw [List.getElem?_eq_getElem hj, Option.getD_some] at this
  rw [this]; simp
theorem own_from {w : World} {lo n : Nat} {e : TypeId} {v : Value} {xs : List Value} (h : w.ownsRow 0 e 1 v n xs) (hlo : ∀ k, v.ownBlock = some k → lo ≤ k) : w.ownsRow lo e 1 v n xs := by
  refine ⟨h.1, ?_⟩
  rcases h.2 with e | ⟨g, cap, cur, e, hg, hc, hrest⟩
  · exact .inl e
  · exact .inr ⟨g, cap, cur, e, hlo g (by rw [e]; rfl), hc, hrest⟩
theorem lnHas_rowV {x : Ln} {w : World} {lo n : Nat} (h : lnHas x w) (hlo : ∀ k, lnOwn x k → lo ≤ k) (hn : x.1.length = n) : ∃ A c, x.2 = .slice A n c ∧ RowV w lo w.heap.size A n x.1 := by
  obtain ⟨A, c, e, hV⟩ := rowV_of_own (own_from h hlo)
  rw [hn] at e hV
  exact ⟨A, c, e, hV⟩
theorem map_no {a b : List Int} (h : (triB a && (triB b && decide (a.length = b.length))) = false) : mapB a b = false ∧ mapR a b = [] := by
  unfold mapB mapR mapO
  rw [h]
  exact ⟨rfl, rfl⟩
theorem map_yes {a b : List Int} (h : (triB a && (triB b && decide (a.length = b.length))) = true) : mapO a b = (alL (zr a.length)).find? (fun t => decide (rnL a t = b)) := by
  unfold mapO
  rw [h]
  rfl

set_option maxRecDepth 100000 in
set_option maxHeartbeats 8000000 in
theorem specMapOrderF_any (A : Option Addr) (n c : Nat) (zs : List Int) (A2 : Option Addr) (n2 c2 : Nat) (ys : List Int) (w : World) (h : Ints w w.heap.size A n zs) (h' : Ints w w.heap.size A2 n2 ys) (hbig : n ≤ 1152921504606846976) (hbig' : n2 ≤ 1152921504606846976) :
    Calls Try.prog 20 #[.slice A n c, .slice A2 n2 c2] w (GivesAtV w (mapR zs ys) (mapB zs ys)) := by
  have hlen := Lib.hid h.len
  have hlen2 := Lib.hid h'.len
  have stop : ∀ (w9 : World), (triB zs && (triB ys && decide (zs.length = ys.length))) = false → Below w.heap.size w w9 → GivesAtV w (mapR zs ys) (mapB zs ys) (.returned (.tuple #[.slice none 0 0, .bool false])) w9 := fun w9 e hB => by
    obtain ⟨e1, e2⟩ := map_no e
    exact ⟨none, 0, 0, by rw [e1], by rw [e2]; exact RowV.nil _ _ _ _, hB⟩
  have Stop := Lib.hid stop
  clear stop
  cases hv : vo zs
  · have Hno := Lib.hid (show (triB zs && (triB ys && decide (zs.length = ys.length))) = false by unfold triB; rw [hv]; rfl)
    go_enter Try.func20, Try.ntmps20
    go_wp2_with fail
    refine (validOrder_any _ _ _ _ zs _ h hbig).mono ?_
    rw [hv]
    rintro e w' ⟨rfl, m, rfl⟩
    go_wp2_with fail
    go_ret2
    exact Stop.out _ Hno.out (below_drewN (Below.refl _ _) m)
  · have hvo : VoP zs := by simpa [vo] using hv
    have Hv := Lib.hid hv
    clear hv
    have hn6 : n ≤ 6 := by have := hvo.1; rw [hlen.out] at this; exact this
    go_enter Try.func20, Try.ntmps20
    go_wp2_with fail
    refine (validOrder_any _ _ _ _ zs _ h hbig).mono ?_
    rw [Hv.out]
    rintro e w' ⟨rfl, m, rfl⟩
    have i1 : Ints (w.drewN m) (w.drewN m).heap.size A n zs := h.drewN m
    have j1 : Ints (w.drewN m) (w.drewN m).heap.size A2 n2 ys := h'.drewN m
    have B1 : Below w.heap.size w (w.drewN m) := below_drewN (Below.refl _ _) m
    generalize w.drewN m = w1 at *
    have z1 := B1.size
    go_wp2_with fail
    refine (validOrder_any _ _ _ _ ys _ j1 hbig').mono ?_
    cases hv2 : vo ys
    · have Hno := Lib.hid (show (triB zs && (triB ys && decide (zs.length = ys.length))) = false by
        have : triB ys = false := by unfold triB; rw [hv2]; rfl
        rw [this]; cases triB zs <;> rfl)
      rintro e w' ⟨rfl, m2, rfl⟩
      go_wp2_with fail
      go_ret2
      exact Stop.out _ Hno.out (below_drewN B1 m2)
    · have hvy : VoP ys := by simpa [vo] using hv2
      clear hv2
      have hn26 : n2 ≤ 6 := by have := hvy.1; rw [hlen2.out] at this; exact this
      rintro e w' ⟨rfl, m2, rfl⟩
      have i2 : Ints (w1.drewN m2) (w1.drewN m2).heap.size A n zs := i1.drewN m2
      have j2 : Ints (w1.drewN m2) (w1.drewN m2).heap.size A2 n2 ys := j1.drewN m2
      have C2 : Below w.heap.size w (w1.drewN m2) := below_drewN B1 m2
      clear h h' i1 j1 B1 z1
      generalize w1.drewN m2 = w2 at *
      by_cases hnn : n = n2
      · subst hnn
        by_cases hn5 : n ≤ 5
        · have Hyes := Lib.hid (map_yes (a := zs) (b := ys) (by rw [triB_of hvo (by rw [hlen.out]; exact hn5), triB_of hvy (by rw [hlen2.out]; exact hn5), hlen.out, hlen2.out]; simp))
          rw [hlen.out] at Hyes
          go_wp2_with fail
          refine (perm_any n hn6 w2).mono ?_
          rintro e w3 ⟨g, cN, L, rfl, hL, hR, hB3⟩
          have z2 := C2.size
          have z3 := hB3.size
          have i3 := i2.to hB3 (Nat.le_refl _) z3
          have j3 := j2.to hB3 (Nat.le_refl _) z3
          have C3 := C2.trans (hB3.mono z2)
          have HL := Lib.hid hL
          have HR := Lib.hid hR
          obtain ⟨N, hN⟩ : ∃ N, L.length = N := ⟨_, rfl⟩
          have HN := Lib.hid hN
          have HNa := Lib.hid (show (alL (zr n)).length = N by rw [← hL, List.length_map, hN])
          have hNb : N ≤ 46656 := by rw [← HNa.out]; exact alL_count (zs := zr n) (by rw [zr_len]; exact hn6)
          rw [hN]
          clear hL hR hN i2 j2 hB3 C2
          go_wp2_with fail
          go_loopw [7] (fun i wr => ∃ k : Nat, k ≤ N ∧ i = .int .i64 k ∧ (∀ j, j < k → decide (rnL zs ((alL (zr n))[j]?.getD []) = ys) = false) ∧ Below w3.heap.size w3 wr) (fun i _ => N - (intOf i).toNat)
          case atStart => exact ⟨0, by omega, rfl, fun j hj => by omega, Below.refl _ _⟩
          case round =>
            obtain ⟨k, hk, rfl, hno, hB⟩ := hrel
            rename World => wr
            have zB := hB.size
            have Hno := Lib.hid hno
            clear hno
            by_cases hlt : k < N
            · have hR2 := HR.out.below2 hB
              obtain ⟨x, hx⟩ : ∃ x, L[k]? = some x := ⟨L[k]'(by rw [HN.out]; exact hlt), List.getElem?_eq_getElem _⟩
              have hxa : (alL (zr n))[k]?.getD [] = x.1 := by rw [← HL.out, List.getElem?_map, hx]; rfl
              obtain ⟨g9, c9, e9, hg9, hcell⟩ := hR2.at_ hx
              cases e9
              obtain ⟨hlb, hll⟩ := alz_row (n := n) (k := k) (by rw [HNa.out]; exact hlt)
              rw [hxa] at hlb hll
              have hm := List.mem_of_getElem? hx
              have hlnx := hR2.has x hm
              have hinS : ∀ k, lnOwn x k → w.heap.size ≤ k := fun q hq => by have h8 : w2.heap.size ≤ q := hR2.inS.2 x hm q hq; omega
              obtain ⟨A', c', hv, hV⟩ := lnHas_rowV hlnx hinS hll
              have hI := hV.ints (Nat.le_refl _)
              rw [hv] at hcell
              have Hhit := Lib.hid (fun e => find_hit (p := fun t => decide (rnL zs t = ys)) (l := alL (zr n)) (k := k) (by rw [HNa.out]; exact hlt) Hno.out e)
              rw [hxa] at Hhit
              have Hxa := Lib.hid hxa
              have HV := Lib.hid hV
              have Hlb := Lib.hid hlb
              clear hx hxa hv hV hlb hlnx hm hinS hR2
              generalize x.1 = r at *
              have i4 := i3.to hB (Nat.le_refl _) zB
              have j4 := j3.to hB (Nat.le_refl _) zB
              go_wp2_with fail
              refine (rnS_any A A' n c c' zs r wr i4 hI hvo.sets Hlb.out).mono ?_
              rintro e w4 ⟨rfl, hA4, hB4⟩
              have z4 := hB4.size
              have hD := hB.trans (hB4.mono zB)
              go_wp2_with fail
              refine (below_quiet (sameInts_any _ _ _ _ _ _ w4.heap.size w4.heap.size _ ys _ (hA4.ints' hA4.lt (by rw [rnL_len, hlen.out])) (j4.to hB4 (Nat.le_refl _) z4) (by omega) (by omega))).mono ?_
              rintro e w5 ⟨rfl, hB5⟩
              have z5 := hB5.size
              have hD5 := hD.trans (hB5.mono (by omega))
              cases he : decide (rnL zs r = ys)
              · have Hno2 := Lib.hid (all_snoc (p := fun j => decide (rnL zs ((alL (zr n))[j]?.getD []) = ys) = false) Hno.out (by show decide (rnL zs ((alL (zr n))[k]?.getD []) = ys) = false; rw [Hxa.out]; exact he))
                clear he
                go_wp2_with fail
                go_roundw
                case rel => exact ⟨k + 1, by omega, by go_num, Hno2.out, hD5⟩
                case measure => simp [intOf]; omega
              · have Hf := Lib.hid (Hhit.out he)
                clear he
                have hcell5 := ((hB4.trans (hB5.mono z4)).cell (p := ⟨g, k, none⟩) hg9).trans hcell
                have HV5 := Lib.hid ((HV.out.below (hB4.trans (hB5.mono z4)) (Nat.le_refl _)).more (Nat.le_refl _) (by omega : wr.heap.size ≤ w5.heap.size))
                go_wp2_with fail
                go_ret2
                exact ⟨A', n, c', by unfold mapB; rw [Hyes.out, Hf.out]; rfl, by unfold mapR; rw [Hyes.out, Hf.out]; exact HV5.out, C3.trans (hD5.mono C3.size)⟩
            · obtain rfl : k = N := by omega
              have Hf := Lib.hid (find_no (p := fun t => decide (rnL zs t = ys)) (l := alL (zr n)) (fun j hj => Hno.out j (by rw [HNa.out] at hj; exact hj)))
              go_wp2
              go_ret2
              exact ⟨none, 0, 0, by unfold mapB; rw [Hyes.out, Hf.out]; rfl, by unfold mapR; rw [Hyes.out, Hf.out]; exact RowV.nil _ _ _ _, C3.trans (hB.mono C3.size)⟩
        · have Hno := Lib.hid (show (triB zs && (triB ys && decide (zs.length = ys.length))) = false by
            have : triB zs = false := by unfold triB; rw [Hv.out, hlen.out]; simp [hn5]
            rw [this]; rfl)
          go_wp2_with fail
          go_ret2
          exact Stop.out _ Hno.out C2
      · have Hno := Lib.hid (show (triB zs && (triB ys && decide (zs.length = ys.length))) = false by rw [hlen.out, hlen2.out]; simp [hnn])
        have hne : ((n : Int) != (n2 : Int)) = true := by simp; omega
        clear hnn
        go_wp2_with fail
        go_ret2
        exact Stop.out _ Hno.out C2
end Go.Proofs.Ytghogabmkbadjaa

/- The model's CanonOf of any list, one that lies nowhere too. -/
namespace Go.Proofs.Ytghogabmkbadjaa
open Go.RowKit Go.Shelf

section
variable {P : Program} {w : World}
theorem run_append_zero (t ty e : TypeId) (i : TypeInfo) (ht : P.underlying t = some (.slice e)) (hi : P.info? e = some i) (g : Nat) (A : Option Addr) (c : Nat) :
    (Builtin.append_ #[t, t] ty #[.slice (some ⟨g, 0, none⟩) 0 0, .slice A 0 c]).run P w = .ok (.slice (some ⟨g, 0, none⟩) 0 0) w := by
  cases A <;> simp [Builtin.append_, run_underlying ht, sizeOf, typeInfo, hi, Builtin.lenOf, Builtin.firstCells, loadCells, loadCellsFrom, storeCells]
theorem wpList_append_zero {ops : Array Oper} {rest : List Oper} {o : Oper} {a : Act} {Q : Exit → Act → World → Prop} (hgd : o.guard = none) (s x : Operand) (t : TypeId)
    (ho : o.op = .call { callee := .builtin .append, args := #[s, x], argTypes := #[t, t] })
    (e : TypeId) (i : TypeInfo) (ht : P.underlying t = some (.slice e)) (hi : P.info? e = some i)
    (g : Nat) (hs : a.eval s = .slice (some ⟨g, 0, none⟩) 0 0) (A : Option Addr) (c : Nat) (hx : a.eval x = .slice A 0 c)
    (h : wpList P ops Q rest (a.put o.dst (.slice (some ⟨g, 0, none⟩) 0 0)) w) : wpList P ops Q (o :: rest) a w := by
  have hrun := run_append_zero (P := P) (w := w) t o.type e i ht hi g A c
  refine wpList_plain hgd fun K hK => ?_
  unfold Oper.wp execOp
  simp only [ho, resolve, invoke, builtin, Sem.run_bind, Sem.run_pure, Result.andThen_ok, List.map_toArray, List.map_cons, List.map_nil, hs, hx, hrun]
  exact hK _ _ h
end

set_option maxRecDepth 100000 in
set_option maxHeartbeats 4000000 in
theorem scanon0_any (A : Option Addr) (c : Nat) (w : World) :
    Calls Try.prog 55 #[.slice A 0 c] w (GivesRowC w []) := by
  obtain ⟨i0, hi0, hz0, hz1, hz2⟩ := info_parts infoInt
  have hvo : VoP [] := by decide
  go_enter Try.func55, Try.ntmps55
  go_wp2_with fail
  refine (perm_rows 0 (by omega) w).mono ?_
  rintro e w2 ⟨g, N, cN, rfl, hN, hNb, hR, hB2⟩
  have z2 := hB2.size
  have HN := Lib.hid hN
  clear hN
  go_wp2_with fail
  go_loopw [3, 5, 6] (fun best i _ wr => ∃ k : Nat, k ≤ N ∧ i = .int .i64 k ∧ best = .slice A 0 c ∧ Below w2.heap.size w2 wr) (fun _ i _ _ => N - (intOf i).toNat)
  case atStart => exact ⟨0, by omega, rfl, rfl, Below.refl _ _⟩
  case round =>
    obtain ⟨k, hk, rfl, rfl, hB⟩ := hrel
    rename World => wr
    have zB := hB.size
    by_cases hlt : k < N
    · obtain ⟨b9, off, e0, hb9, hc⟩ := (hR.below hB).at_ hlt
      cases e0
      obtain ⟨A', c', hcell, hIr⟩ := hc k hlt
      clear hc
      obtain ⟨hlb, hll⟩ := alz_row (n := 0) (k := k) (by rw [HN.out]; exact hlt)
      generalize hrr : (alL (zr 0))[k]?.getD [] = r at *
      have Hlb := Lib.hid hlb
      clear hrr hlb
      rw [hll, Nat.zero_add] at hcell
      rw [hll] at hIr
      go_wp2_with fail
      refine (rnS_any A A' 0 c c' [] r wr (Ints.nil _ _ _) (hIr.more zB) hvo.sets Hlb.out).mono ?_
      rintro e w3 ⟨rfl, hA3, hB3⟩
      have z3 := hB3.size
      have hD := hB.trans (hB3.mono zB)
      have hq : rnL [] r = [] := List.eq_nil_of_length_eq_zero (rnL_len [] r)
      rw [hq] at hA3
      have hIx := hA3.ints' (B := w3.heap.size) hA3.lt (show ([] : List Int).length = 0 from rfl)
      go_wp2_with fail
      refine (below_quiet (lessIntsB_any _ _ 0 _ _ w3.heap.size w3.heap.size [] [] _ hIx (Ints.nil _ _ _) (by omega))).mono ?_
      rintro e w4 ⟨rfl, hB4⟩
      have z4 := hB4.size
      have hD4 := hD.trans (hB4.mono (by omega))
      have he : lessRB [] [] = false := rfl
      go_wp2_with fail
      go_roundw
      case rel => exact ⟨k + 1, by omega, by go_num, rfl, hD4⟩
      case measure => simp [intOf]; omega
    · obtain rfl : k = N := by omega
      have hown := own_new wr 3
      have hU1 : Upd (fun _ => False) wr (wr.alloc (.cells #[] 3)) := (Upd.refl _ wr).alloc _
      go_wp2_with (at_builtin; refine wpList_append_zero rfl (.tmp 27) (.tmp 28) _ rfl 3 i0 Try.underlying22 hi0 wr.heap.size rfl A c rfl ?_)
      go_ret
      exact ⟨_, 0, _, rfl, RowC.nil _ _ _ _, hB2.trans ((hB.trans (hU1.toBelow (B := w2.heap.size) (fun k e => e.elim) zB)).mono z2)⟩

set_option maxRecDepth 100000 in
theorem specCanonOfG_any (A : Option Addr) (n c : Nat) (zs : List Int) (w : World) (h : Ints w w.heap.size A n zs) (hbig : n ≤ 1152921504606846976) :
    Calls Try.prog 22 #[.slice A n c] w (GivesRowC w (canR zs)) := by
  have hlen := h.len
  rcases Nat.eq_zero_or_pos n with rfl | hn
  · have hz : zs = [] := List.eq_nil_of_length_eq_zero hlen
    subst hz
    have Ht := Lib.hid (show canR [] = [] from List.eq_nil_of_length_eq_zero (by
      unfold canR
      split
      · rw [canT_len]; rfl
      · rfl))
    have hv : vo [] = true := by decide
    go_enter Try.func22, Try.ntmps22
    go_wp2_with fail
    refine (validOrder_any _ _ _ _ [] _ h hbig).mono ?_
    rw [hv]
    rintro e w' ⟨rfl, m, rfl⟩
    have B1 : Below w.heap.size w (w.drewN m) := below_drewN (Below.refl _ _) m
    generalize w.drewN m = w1 at *
    have z1 := B1.size
    go_wp2_with fail
    refine (scanon0_any A c w1).mono ?_
    rintro e w2 ⟨A2, n2, c2, rfl, hC, hB2⟩
    go_wp2_with fail
    go_ret
    exact ⟨_, _, _, rfl, by rw [Ht.out]; exact hC.more z1 (Nat.le_refl _), B1.trans (hB2.mono z1)⟩
  · obtain ⟨b, o, rfl, hb, _⟩ := h.at_ (k := 0) hn
    exact specCanonOfF_any b o n c zs w h hb hbig
end Go.Proofs.Ytghogabmkbadjaa

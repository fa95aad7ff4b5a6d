/- PlaneLines: the program's. -/
import Derived.Test.YtghogabmkbadjabGxb
import Derived.Test.YtghogabmkbadjabEiI
import Derived.Test.YtghogabmkbadjabGxr
import Derived.Test.YtghogabmkbadjabAtI
import Derived.Test.YtghogabmkbadjabGd
set_option linter.unusedVariables false
set_option linter.unusedSimpArgs false
namespace Go.Proofs.Ytghogabmkbadjab
open Go.RowKit Go.Shelf
attribute [local go_sem] Oper.semAt_some
attribute [local go_sem, local simp] wide_fn

set_option maxHeartbeats 2000000 in
theorem onlyLine_any (A : Option Addr) (n c : Nat) (E : List Int) (hvo : VoP E) (w : World) (h : Ints w w.heap.size A n E) :
    Calls Try.prog 111 #[.slice A n c] w fun e w' => ∃ A' c', e = .returned (.slice A' n c') ∧ RowV w' w.heap.size w'.heap.size A' n (atL E 0 n) ∧ Below w.heap.size w w' := by
  have hlen := Lib.hid h.len
  have hn6 : n ≤ 6 := by have := hvo.1; rw [hlen.out] at this; exact this
  have hp64 := pow_le64 hn6
  have hpp := Nat.two_pow_pos n
  have hF : 0 < cF E (2 ^ E.length - 1) := cF_ge1 hvo _ _ (Nat.le_refl _) (by have := Nat.two_pow_pos E.length; omega)
  go_enter Try.func111, Try.ntmps111
  go_wp2_with fail
  refine (lineup_any A n c E hvo.sets _ h).mono ?_
  rintro e w2 ⟨bd, bm, rfl, hA2, hm2, hbd, hbm, hne, hB2⟩
  have z2 := hB2.size
  have hM2 : MapOk E w2 bm 1000000 := (MapOk.new hm2).mono (Nat.zero_le _)
  have Hl := Lib.hid (lat_any E hvo 0 n hlen.out hF bd bm hne w2 hA2 hM2)
  unfold lineV at Hl ⊢
  go_wp2_with fail
  refine Hl.out.mono ?_
  rintro e w3 ⟨v, rfl, hO, hU⟩
  have z3 := hU.size
  have hal := atL_len E 0 n
  have hOw := hO.2
  rw [hal] at hOw
  obtain ⟨A', c', rfl, hR⟩ := rowV_of_own hOw
  go_wp2_with fail
  go_ret
  exact ⟨A', c', rfl, hR.more (by omega) (Nat.le_refl _), (Below.toUpd hB2 |>.trans' hU (fun i hi e => by omega)).toBelow (fun _ e => e) (Nat.le_refl _)⟩

/-- What PlaneLines gives. -/
def GivesPl (w : World) (zs : List Int) (n : Nat) (e : Ending) (w' : World) : Prop :=
  Below w.heap.size w w' ∧ ((sdOk zs = false ∧ e = .returned (.tuple #[.slice none 0 0, .bool false])) ∨
    (sdOk zs = true ∧ ∃ T g A1 c1 A2 c2 mid, sdF zs = some T ∧ e = .returned (.tuple #[.slice (some ⟨g, 0, none⟩) 2 2, .bool true]) ∧ w.heap.size ≤ mid ∧ mid ≤ g ∧ w'.heap[g]? = some (.cells #[.slice A1 n c1, .slice A2 n c2] 22 (0, 0)) ∧
      RowV w' w.heap.size mid A1 n (pl1 zs T) ∧ RowV w' mid g A2 n (pl1 zs (du T))))

set_option maxRecDepth 100000 in
set_option maxHeartbeats 4000000 in
theorem PlaneLines_any (A : Option Addr) (n c : Nat) (zs : List Int) (w : World) (h : Ints w w.heap.size A n zs) (hbig : n ≤ 1152921504606846976) :
    Calls Try.prog 60 #[.slice A n c] w (GivesPl w zs n) := by
  have hlen := Lib.hid h.len
  go_enter Try.func60, Try.ntmps60
  go_wp2_with fail
  refine (readSided_any A n c zs w h hbig).mono ?_
  rintro e w1 ⟨hB, (⟨Ho, v1, v2, rfl⟩ | ⟨Ho, T, b, b', hT, rfl, hA, hA'⟩)⟩
  · have Ho := Lib.hid Ho
    go_wp2_with fail
    go_ret2
    exact ⟨hB, .inl ⟨Ho.out, rfl⟩⟩
  · have Ho := Lib.hid Ho
    have HT := Lib.hid hT
    have hvo : VoP zs := by
      have := Ho.out
      unfold sdOk at this
      rw [Bool.and_eq_true] at this
      simpa [vo] using this.1
    have hS := (sdF_some hvo hT).1
    have hTl : T.length = n := by rw [hS.len, hlen.out]
    have hn6 : n ≤ 6 := by have := hvo.1; rw [hlen.out] at this; exact this
    have z1 := hB.size
    have hbz : ∀ a, a < n → 0 ≤ zs[a]?.getD 0 ∧ zs[a]?.getD 0 < powI n := fun a ha => by
      have := hvo.sets.2 a (by rw [hlen.out]; exact ha); rw [hlen.out] at this; exact this
    have hbT : ∀ a, a < n → 0 ≤ T[a]?.getD 0 ∧ T[a]?.getD 0 < powI n := fun a ha => by
      have := hS.vo.sets.2 a (by rw [hTl]; exact ha); rw [hTl] at this; exact this
    have hbD : ∀ a, a < n → 0 ≤ (du T)[a]?.getD 0 ∧ (du T)[a]?.getD 0 < powI n := fun a ha => by
      have := (du_vo hS.vo).sets.2 a (by rw [du_len, hTl]; exact ha); rw [du_len, hTl] at this; exact this
    have He1 := Lib.hid (show opL orI zs T n = eitL zs T by unfold eitL; rw [hlen.out])
    have He2 := Lib.hid (show opL orI zs (du T) n = eitL zs (du T) by unfold eitL; rw [hlen.out])
    have Hp1 := Lib.hid (show atL (eitL zs T) 0 n = pl1 zs T by unfold pl1; rw [hlen.out])
    have Hp2 := Lib.hid (show atL (eitL zs (du T)) 0 n = pl1 zs (du T) by unfold pl1; rw [hlen.out])
    have Hv1 := Lib.hid (eitL_vo hvo hS)
    have Hv2 := Lib.hid (eitL_vo hvo (side_du hS))
    have Hl1 := Lib.hid (show (eitL zs T).length = n by rw [eitL_len, hlen.out])
    have Hl2 := Lib.hid (show (eitL zs (du T)).length = n by rw [eitL_len, hlen.out])
    have Hd := Lib.hid (show downP n (pairsL T) = du T by unfold du; rw [hTl])
    clear hT
    go_wp2_with fail
    refine (either_any (some ⟨b, 0, none⟩) n n zs (some ⟨b', 0, none⟩) n T w1 (hA.ints' hA.lt hlen.out) (hA'.ints' hA'.lt hTl) hn6 hbz hbT).mono ?_
    rw [He1.out]
    rintro e w2 ⟨x2, rfl, hO2, hB2⟩
    have z2 := hB2.size
    have C2 := hB.trans (hB2.mono z1)
    have hO2w := hO2.2
    rw [Hl1.out] at hO2w
    obtain ⟨A2, c2, rfl, hI2⟩ := rowC_of_own hO2w
    have a2 := hA.below hB2 hA.lt
    have a2' := hA'.below hB2 hA'.lt
    go_wp2_with fail
    refine (onlyLine_any A2 n c2 _ Hv1.out w2 (hI2.ints (Nat.le_refl _))).mono ?_
    rw [Hp1.out]
    rintro e w3 ⟨A3, c3, rfl, r3, hB3⟩
    have z3 := hB3.size
    have C3 := C2.trans (hB3.mono C2.size)
    have a3 := a2.below hB3 a2.lt
    have a3' := a2'.below hB3 a2'.lt
    go_wp2_with fail
    refine (dual_any (some ⟨b', 0, none⟩) n n T hS.vo.sets w3 (a3'.ints' a3'.lt hTl)).mono ?_
    rintro e w4 ⟨rfl, hA4, hB4⟩
    rw [Hd.out] at hA4
    have z4 := hB4.size
    have C4 := C3.trans (hB4.mono C3.size)
    have a4 := a3.below hB4 a3.lt
    go_wp2_with fail
    refine (either_any (some ⟨b, 0, none⟩) n n zs (some ⟨w3.heap.size, 0, none⟩) n (du T) w4 (a4.ints' a4.lt hlen.out) (hA4.ints' hA4.lt (by rw [du_len, hTl])) hn6 hbz hbD).mono ?_
    rw [He2.out]
    rintro e w5 ⟨x5, rfl, hO5, hB5⟩
    have z5 := hB5.size
    have C5 := C4.trans (hB5.mono C4.size)
    have hO5w := hO5.2
    rw [Hl2.out] at hO5w
    obtain ⟨A5, c5, rfl, hI5⟩ := rowC_of_own hO5w
    go_wp2_with fail
    refine (onlyLine_any A5 n c5 _ Hv2.out w5 (hI5.ints (Nat.le_refl _))).mono ?_
    rw [Hp2.out]
    rintro e w6 ⟨A6, c6, rfl, r6, hB6⟩
    have z6 := hB6.size
    have C6 := C5.trans (hB6.mono C5.size)
    have r36 := (r3.below hB4 (Nat.le_refl _)).below (hB5.mono (Nat.le_refl _)) (by omega)
    have r3f := r36.below hB6 (by omega)
    have hnew := heap_alloc_new w6 (.cells #[Value.slice A3 n c3, .slice A6 n c6] 22)
    have huf : Upd (fun _ => False) w6 (w6.alloc (.cells #[Value.slice A3 n c3, .slice A6 n c6] 22)) := (Upd.refl _ w6).alloc _
    go_wp2_with fail
    go_ret2
    exact ⟨C6.alloc C6.size _, .inr ⟨Ho.out, T, w6.heap.size, A3, c3, A6, c6, w3.heap.size, HT.out, rfl, by omega, by omega, hnew, (r3f.upd huf (fun _ e => e.elim)).more (by omega) (Nat.le_refl _), (r6.upd huf (fun _ e => e.elim)).more (by omega) (Nat.le_refl _)⟩⟩
end Go.Proofs.Ytghogabmkbadjab

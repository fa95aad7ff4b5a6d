/- Two pairs apart, three items and one apart: the program's. -/
import Derived.Test.YtdcdddmjffgibaaGreatTwM
import Derived.Test.YtdcdddmjffgibaaGreatLineI
import Derived.Test.YtdcdddmjffgibaaGreatGa
import Derived.Test.YtdcdddmjffgibaaGreatMkI
import Derived.Test.YtdcdddmjffgibaaGreatPw
import Derived.Test.YtdcdddmjffgibaaGreatGc
set_option linter.unusedVariables false
set_option linter.unusedSimpArgs false
namespace Go.Proofs.YtdcdddmjffgibaaGreat
open Go.RowKit Go.Shelf
attribute [local go_sem] Oper.semAt_some
attribute [local go_sem, local simp] wide_fn

theorem zero_or (x : Int) (h : 0 ≤ x) : orI 0 x = x := by unfold orI; simp; omega

set_option maxRecDepth 100000 in
set_option maxHeartbeats 4000000 in
theorem orelated_any (A : Option Addr) (n c : Nat) (zs : List Int) (x : Nat) (hvo : VoP zs) (w : World) (hA : Ints w w.heap.size A n zs) (hx : x < n) :
    Calls Tryz.prog 77 #[.slice A n c, .int .i64 (x : Int)] w fun e W' => e = .returned (.int .i64 (relI zs x)) ∧ Below w.heap.size w W' := by
  have hlen := Lib.hid hA.len
  have hn6 : n ≤ 6 := by have := hvo.1; rw [hlen.out] at this; exact this
  obtain ⟨bl, off, rfl, hbl, hc⟩ := hA.at_ hx
  have hcx := hc x hx
  clear hc
  have hzx := hvo.bd x (by rw [hlen.out]; exact hx)
  have hpp := powI_pos (x : Int)
  have hpx : powI (x : Int) < powI (n : Int) := powI_lt hx
  have hpn := powI_le6 (n := (n : Int)) (by omega)
  have hbel := belI_bd hvo.sets (s := powI (x : Int)) (by omega) (by rw [hlen.out]; exact hpx)
  rw [hlen.out] at hbel
  have hw1 := fun w => with_any 0 (x : Int) w (by omega) (by omega) (by omega) (by omega)
  rw [zero_or _ (by omega)] at hw1
  have hor : bits .or .i64 (zs[x]?.getD 0) (belI zs (powI (x : Int))) = relI zs x := bits_or (by omega) (by omega) (by omega) (by omega)
  have hbelow := fun w hA => obelow_any (some ⟨bl, off, none⟩) n c zs (powI (x : Int)) hvo w hA (by omega) hpx
  generalize belI zs (powI (x : Int)) = bb at *
  generalize powI (x : Int) = px at *
  generalize relI zs x = r at *
  generalize zs[x]?.getD 0 = zx at *
  go_enter Tryz.func77, Tryz.ntmps77
  go_wp2
  refine region_T (S := (fun w' => w'.cell? ⟨bl, off + x, none⟩ = some (.int .i64 zx))) 9 (by kernel_rfl) ?_
  have hSd : (fun w' => w'.cell? ⟨bl, off + x, none⟩ = some (.int .i64 zx)) w.drew := hcx
  have hAd : Ints w.drew w.drew.heap.size (some ⟨bl, off, none⟩) n zs := hA
  have hWd : Upd (fun _ => False) w w.drew := (Upd.refl _ w).drew
  obtain ⟨Wd, hWd2⟩ : ∃ Wd, w.drew = Wd := ⟨_, rfl⟩
  rw [hWd2] at hSd hAd hWd ⊢
  clear hWd2
  refine anyT_take (i := 0) (oi := ?oi0a) (v := .slice (some ⟨bl, off, none⟩) n c) ?hi0a (by kernel_rfl) ?hq0a ?hy0a (by assumption) ?rest0a
  case hi0a => (simp only [List.getElem?_toArray, List.getElem?_cons_zero]; first | done | rfl)
  case hq0a => first | exact fun _ _ _ h => h | exact fun _ _ _ h => (by cases h.1)
  case hy0a => (refine Or.inl ⟨by rfl, ?_⟩; intro wz hSw; go_simp; first | done | with_reducible rfl | simp | omega)
  try simp only [Act.put, List.setIfInBounds_toArray, List.set_cons_zero, List.set_cons_succ]
  refine anyT_take (i := 1) (oi := ?oi1a) (v := .int .i64 (x : Int)) ?hi1a (by kernel_rfl) ?hq1a ?hy1a (by assumption) ?rest1a
  case hi1a => (simp only [List.getElem?_toArray, List.getElem?_cons_succ, List.getElem?_cons_zero]; first | done | rfl)
  case hq1a => first | exact fun _ _ _ h => h | exact fun _ _ _ h => (by cases h.1)
  case hy1a => (refine Or.inl ⟨by rfl, ?_⟩; intro wz hSw; go_simp; first | done | with_reducible rfl | simp | omega)
  try simp only [Act.put, List.setIfInBounds_toArray, List.set_cons_zero, List.set_cons_succ]
  refine anyT_take (i := 2) (oi := ?oi2a) (v := .pointer (some ⟨bl, off + x, none⟩)) ?hi2a (by kernel_rfl) ?hq2a ?hy2a (by assumption) ?rest2a
  case hi2a => (simp only [List.getElem?_toArray, List.getElem?_cons_succ, List.getElem?_cons_zero]; first | done | rfl)
  case hq2a => first | exact fun _ _ _ h => h | exact fun _ _ _ h => (by cases h.1)
  case hy2a => (refine Or.inl ⟨by rfl, ?_⟩; intro wz hSw; go_simp; first | done | with_reducible rfl | simp | omega)
  try simp only [Act.put, List.setIfInBounds_toArray, List.set_cons_zero, List.set_cons_succ]
  refine anyT_take (i := 3) (oi := ?oi3a) (v := .int .i64 zx) ?hi3a (by kernel_rfl) ?hq3a ?hy3a (by assumption) ?rest3a
  case hi3a => (simp only [List.getElem?_toArray, List.getElem?_cons_succ, List.getElem?_cons_zero]; first | done | rfl)
  case hq3a => first | exact fun _ _ _ h => h | exact fun _ _ _ h => (by cases h.1)
  case hy3a => (refine Or.inl ⟨by rfl, ?_⟩; intro wz hSw; obtain hS1 := hSw; go_simp; first | done | with_reducible rfl | simp | omega)
  try simp only [Act.put, List.setIfInBounds_toArray, List.set_cons_zero, List.set_cons_succ]
  refine anyT_take (i := 4) (oi := ?oi4a) (v := .slice (some ⟨bl, off, none⟩) n c) ?hi4a (by kernel_rfl) ?hq4a ?hy4a (by assumption) ?rest4a
  case hi4a => (simp only [List.getElem?_toArray, List.getElem?_cons_succ, List.getElem?_cons_zero]; first | done | rfl)
  case hq4a => first | exact fun _ _ _ h => h | exact fun _ _ _ h => (by cases h.1)
  case hy4a => (refine Or.inl ⟨by rfl, ?_⟩; intro wz hSw; go_simp; first | done | with_reducible rfl | simp | omega)
  try simp only [Act.put, List.setIfInBounds_toArray, List.set_cons_zero, List.set_cons_succ]
  refine anyT_take (i := 5) (oi := ?oi5a) (v := .int .i64 (x : Int)) ?hi5a (by kernel_rfl) ?hq5a ?hy5a (by assumption) ?rest5a
  case hi5a => (simp only [List.getElem?_toArray, List.getElem?_cons_succ, List.getElem?_cons_zero]; first | done | rfl)
  case hq5a => first | exact fun _ _ _ h => h | exact fun _ _ _ h => (by cases h.1)
  case hy5a => (refine Or.inl ⟨by rfl, ?_⟩; intro wz hSw; go_simp; first | done | with_reducible rfl | simp | omega)
  try simp only [Act.put, List.setIfInBounds_toArray, List.set_cons_zero, List.set_cons_succ]
  refine anyT_one (i := 6) (by kernel_rfl) rfl (fun K' hK => ?_)
  go_simp
  refine (hw1 _).mono ?_
  rintro e w' ⟨rfl, rfl⟩
  refine hK.out _ _ (fun _ => hSd) ?_
  clear hK K'
  try simp only [Act.put, List.setIfInBounds_toArray, List.set_cons_zero, List.set_cons_succ]
  refine anyT_one (i := 7) (by kernel_rfl) rfl (fun K' hK => ?_)
  go_simp
  refine (hbelow Wd hAd).mono ?_
  rintro e W2 ⟨rfl, hB2⟩
  have hU2 : Upd (fun _ => False) w W2 := hWd.below hB2 (fun k h1 h2 => by have := hWd.size; omega)
  have hS2 : (fun w' => w'.cell? ⟨bl, off + x, none⟩ = some (.int .i64 zx)) W2 := hU2.cell hcx (fun e => e)
  refine hK.out _ _ (fun _ => hS2) ?_
  clear hK K'
  try simp only [Act.put, List.setIfInBounds_toArray, List.set_cons_zero, List.set_cons_succ]
  refine anyT_one (i := 8) (by kernel_rfl) rfl (fun K' hK => ?_)
  go_simp
  refine hK.out _ _ (fun _ => hS2) ?_
  clear hK K'
  try simp only [Act.put, List.setIfInBounds_toArray, List.set_cons_zero, List.set_cons_succ]
  refine anyT_one (i := 9) (by kernel_rfl) rfl (fun K' hK => ?_)
  go_simp
  refine hK.out _ _ (fun h => absurd rfl h) ?_
  clear hK K'
  try simp only [Act.put, List.setIfInBounds_toArray, List.set_cons_zero, List.set_cons_succ]
  refine anyT_done (by kernel_rfl) ?_ _
  go_wp2
  go_ret
  exact ⟨rfl, hU2.toBelow (fun _ e => e.elim) (Nat.le_refl _)⟩

set_option maxHeartbeats 1000000 in
theorem ounrelated_any (A : Option Addr) (n c : Nat) (zs : List Int) (x : Nat) (hvo : VoP zs) (w : World) (hA : Ints w w.heap.size A n zs) (hx : x < n) :
    Calls Tryz.prog 65 #[.slice A n c, .int .i64 (x : Int)] w fun e W' => e = .returned (.int .i64 (unrI zs x)) ∧ Below w.heap.size w W' := by
  have hlen := Lib.hid hA.len
  have hn6 : n ≤ 6 := by have := hvo.1; rw [hlen.out] at this; exact this
  have hpn := powI_le6 (n := (n : Int)) (by omega)
  have hpp := powI_pos (n : Int)
  have hr := relI_bd hvo (x := x) (by rw [hlen.out]; exact hx)
  rw [hlen.out] at hr
  have hle : bits .andNot .i64 (powI n - 1) (relI zs x) = unrI zs x := (bits_less (by omega) (by omega) (by omega) (by omega)).trans (by unfold unrI; rw [hlen.out])
  have H1 := Lib.hid (fun w => oall_any A n c w hn6)
  have H2 := Lib.hid (fun w hA => orelated_any A n c zs x hvo w hA hx)
  generalize relI zs x = r at *
  generalize unrI zs x = u at *
  generalize powI (n : Int) - 1 = pn at *
  go_enter Tryz.func65, Tryz.ntmps65
  go_wp2_with (first
    | (go_at_call 64; refine (H1.out _).mono ?_; rintro e w' ⟨rfl, rfl⟩)
    | (go_at_call 77; refine (H2.out _ hA).mono ?_; rintro e w' ⟨rfl, hB⟩))
  go_ret
  exact ⟨rfl, hB⟩

set_option maxRecDepth 100000 in
set_option maxHeartbeats 4000000 in
theorem ounrelatedToAll_any (A : Option Addr) (n c : Nat) (zs : List Int) (s : Int) (hvo : VoP zs) (w : World) (hA : Ints w w.heap.size A n zs) (h0 : 0 ≤ s) (h1 : s < powI n) :
    Calls Tryz.prog 43 #[.slice A n c, .int .i64 s] w fun e W' => e = .returned (.int .i64 (unrL zs (itemsL s))) ∧ Below w.heap.size w W' := by
  have hlen := Lib.hid hA.len
  have hn6 : n ≤ 6 := by have := hvo.1; rw [hlen.out] at this; exact this
  have hpk : powI n ≤ 64 := powI_le6 (by omega)
  have hpp := powI_pos (n : Int)
  have H0 := Lib.hid (show powI n - 1 = unrL zs [] by unfold unrL; rw [hlen.out]; rfl)
  refine (callsIn_wide (n := 9)).1 ?_
  refine callsIn_of_wp_marks Tryz.func43 rfl trivial ?_ rfl
  simp only [Tryz.ntmps43, List.size_toArray, List.length_cons, List.length_nil, Nat.reduceAdd, Nat.reduceSub, Array.replicate_succ, Array.replicate_zero, List.push_toArray, List.append_toArray, List.nil_append, List.cons_append]
  gi_wp2_with (first
    | (gi_at_call 64; refine (callsIn_wide.2 (oall_any _ _ _ _ hn6)).mono ?_; rintro e w' ⟨rfl, rfl⟩)
    | (gi_at_call 63; refine (callsIn_wide.2 (each_any _ _)).mono ?_; rintro e w' ⟨rfl, rfl⟩))
  have bO := ((Boxed.new w 40 (.slice A n c)).alloc (.cells #[Value.int .i64 (powI n - 1)] 59)).alloc (.cells #[Value.int .i64 s] 59)
  have bT := (Boxed.new (w.alloc (.cells #[Value.slice A n c] 40)) 59 (.int .i64 (powI n - 1))).alloc (.cells #[Value.int .i64 s] 59)
  have bE := Boxed.new ((w.alloc (.cells #[Value.slice A n c] 40)).alloc (.cells #[Value.int .i64 (powI n - 1)] 59)) 59 (.int .i64 s)
  have hu0 : Upd (fun _ => False) w (((w.alloc (.cells #[Value.slice A n c] 40)).alloc (.cells #[Value.int .i64 (powI n - 1)] 59)).alloc (.cells #[Value.int .i64 s] 59)) := (((Upd.refl _ w).alloc _).alloc _).alloc _
  have hz0 : (((w.alloc (.cells #[Value.slice A n c] 40)).alloc (.cells #[Value.int .i64 (powI n - 1)] 59)).alloc (.cells #[Value.int .i64 s] 59)).heap.size = w.heap.size + 3 := by simp
  simp only [World.size_alloc] at bT bE
  obtain ⟨W0, hW0⟩ : ∃ W0, (((w.alloc (.cells #[Value.slice A n c] 40)).alloc (.cells #[Value.int .i64 (powI n - 1)] 59)).alloc (.cells #[Value.int .i64 s] 59)) = W0 := ⟨_, rfl⟩
  rw [hW0] at bO bT bE hu0 hz0 ⊢
  clear hW0
  have hA0 : Ints W0 w.heap.size A n zs := hA.below (hu0.toBelow (fun _ e => e.elim) (Nat.le_refl _))
  refine range_out (n := 9) (gf := 75) (lb := #[.pointer (some ⟨w.heap.size + 1 + 1, 0, none⟩)]) rfl (enters_of Tryz.func75 (by kernel_rfl) rfl) (encs := encI) (L := itemsL s)
    (fun k => k = w.heap.size + 1) (fun k e => by omega) (fun _ => rfl)
    (fun W1 l1 hu1 hl1 hl2 => each_iter s h0 (by omega) _ _ W1 (hu1.boxed bE (fun e => e)) (fun e => by omega))
    (fun pre D W => Boxed W (w.heap.size + 1) 59 (.int .i64 (unrL zs pre)) ∧ Upd (fun k => k = w.heap.size + 1) W0 W)
    (fun _ _ _ _ => False)
    (fun _ D X Y hs hu => ⟨hu.boxed hs.1 (fun e => by omega), hs.2.trans' hu (fun i hi e => by omega)⟩)
    (fun _ _ _ _ _ hs _ => hs)
    ⟨by rw [← H0.out]; exact bT, Upd.refl _ _⟩ ?owes ?done ?stop
  case owes =>
    rintro l1 pre x D1 W hl1 hl2 hDl hD1 - hpre K hK
    gi_wp2
    refine hK _ _ (Upd.refl _ _) ?_
    rintro Wb hWb - ⟨bT1, hU⟩
    clear hK
    obtain ⟨hx6, hxb⟩ := mem_itemsTo.1 (hpre.subset (by simp : x ∈ pre ++ [x]))
    have hxn := bitB_lt h1 hxb
    have hcall := fun w hA => ounrelated_any A n c zs x hvo w hA hxn
    have hb1 := unrL_bd (zs := zs) pre
    have hb2 := unrI_bd zs x
    rw [hlen.out] at hb1 hb2
    have hand : bits .and .i64 (unrL zs pre) (unrI zs x) = andI (unrL zs pre) (unrI zs x) := bits_and (by omega) (by omega) (by omega) (by omega)
    have Hsn := Lib.hid (unrL_snoc zs pre x)
    have bSd : Boxed Wb.drew (w.heap.size + 1) 59 (.int .i64 (unrL zs pre)) := bT1
    have bVd : Boxed Wb.drew w.heap.size 40 (.slice A n c) := hU.boxed bO (by omega)
    have hszb := hWb.size
    have hsb := hU.size
    have hAd : Ints Wb.drew Wb.drew.heap.size A n zs := (hA0.keep (fun p hp => World.cell?_of_block (hU.block p.block (by omega) (by omega)))).more (by show w.heap.size ≤ Wb.heap.size; omega)
    have hWd : Upd (fun _ => False) Wb Wb.drew := (Upd.refl _ Wb).drew
    have hUd : Upd (fun k => k = w.heap.size + 1) W0 Wb.drew := hU.drew
    clear bT1
    generalize unrL zs pre = up at *
    generalize unrI zs x = ux at *
    gi_wp2
    refine region_T_round (S := (fun w' => w'.cell? ⟨w.heap.size + 1, 0, none⟩ = some (.int .i64 up) ∧ w'.cell? ⟨w.heap.size, 0, none⟩ = some (.slice A n c))) 5 (by kernel_rfl) (by kernel_rfl) (by rintro ⟨_, _, h⟩; exact h) ?_
    obtain ⟨Wd, hWd2⟩ : ∃ Wd, Wb.drew = Wd := ⟨_, rfl⟩
    rw [hWd2] at bSd bVd hAd hWd hUd ⊢
    clear hWd2
    have hSd : (fun w' => w'.cell? ⟨w.heap.size + 1, 0, none⟩ = some (.int .i64 up) ∧ w'.cell? ⟨w.heap.size, 0, none⟩ = some (.slice A n c)) Wd := ⟨bSd.cell, bVd.cell⟩
    refine anyT_take (i := 0) (oi := ?oi0a) (v := .int .i64 up) ?hi0a (by kernel_rfl) ?hq0a ?hy0a (by assumption) ?rest0a
    case hi0a => (simp only [List.getElem?_toArray, List.getElem?_cons_zero]; first | done | rfl)
    case hq0a => first | exact fun _ _ _ h => h | exact fun _ _ _ h => (by cases h.1)
    case hy0a => (refine Or.inl ⟨by rfl, ?_⟩; intro wz hSw; obtain ⟨hS1, hS2⟩ := hSw; go_simp; first | done | with_reducible rfl | simp | omega)
    try simp only [Act.put, List.setIfInBounds_toArray, List.set_cons_zero, List.set_cons_succ]
    refine anyT_take (i := 1) (oi := ?oi1a) (v := .slice A n c) ?hi1a (by kernel_rfl) ?hq1a ?hy1a (by assumption) ?rest1a
    case hi1a => (simp only [List.getElem?_toArray, List.getElem?_cons_succ, List.getElem?_cons_zero]; first | done | rfl)
    case hq1a => first | exact fun _ _ _ h => h | exact fun _ _ _ h => (by cases h.1)
    case hy1a => (refine Or.inl ⟨by rfl, ?_⟩; intro wz hSw; obtain ⟨hS1, hS2⟩ := hSw; go_simp; first | done | with_reducible rfl | simp | omega)
    try simp only [Act.put, List.setIfInBounds_toArray, List.set_cons_zero, List.set_cons_succ]
    refine anyT_take (i := 2) (oi := ?oi2a) (v := .int .i64 (x : Int)) ?hi2a (by kernel_rfl) ?hq2a ?hy2a (by assumption) ?rest2a
    case hi2a => (simp only [List.getElem?_toArray, List.getElem?_cons_succ, List.getElem?_cons_zero]; first | done | rfl)
    case hq2a => first | exact fun _ _ _ h => h | exact fun _ _ _ h => (by cases h.1)
    case hy2a => (refine Or.inl ⟨by rfl, ?_⟩; intro wz hSw; obtain ⟨hS1, hS2⟩ := hSw; go_simp; first | done | with_reducible rfl | simp | omega)
    try simp only [Act.put, List.setIfInBounds_toArray, List.set_cons_zero, List.set_cons_succ]
    refine anyT_one (i := 3) (by kernel_rfl) rfl (fun K' hK => ?_)
    go_simp
    refine (hcall Wd hAd).mono ?_
    rintro e W2 ⟨rfl, hB2⟩
    have hzd := hWd.size
    have hU2 : Upd (fun k => k = w.heap.size + 1) W0 W2 := hUd.below hB2 (fun k h1 h2 => by omega)
    have bS2 : Boxed W2 (w.heap.size + 1) 59 (.int .i64 up) := (hB2.block _ (by omega)).trans bSd
    have bV2 : Boxed W2 w.heap.size 40 (.slice A n c) := (hB2.block _ (by omega)).trans bVd
    have hS2 : (fun w' => w'.cell? ⟨w.heap.size + 1, 0, none⟩ = some (.int .i64 up) ∧ w'.cell? ⟨w.heap.size, 0, none⟩ = some (.slice A n c)) W2 := ⟨bS2.cell, bV2.cell⟩
    refine hK.out _ _ (fun _ => hS2) ?_
    clear hK K'
    try simp only [Act.put, List.setIfInBounds_toArray, List.set_cons_zero, List.set_cons_succ]
    refine anyT_one (i := 4) (by kernel_rfl) rfl (fun K' hK => ?_)
    go_simp
    refine hK.out _ _ (fun _ => hS2) ?_
    clear hK K'
    try simp only [Act.put, List.setIfInBounds_toArray, List.set_cons_zero, List.set_cons_succ]
    have hcS2 := bS2.cell
    have hfS2 := bS2.frozen
    refine anyT_one (i := 5) (by kernel_rfl) rfl (fun K' hK => ?_)
    go_simp
    refine hK.out _ _ (fun h => absurd rfl h) ?_
    clear hK K'
    try simp only [Act.put, List.setIfInBounds_toArray, List.set_cons_zero, List.set_cons_succ]
    refine anyT_done (by kernel_rfl) ?_ _
    have hus : Upd (fun k => k = w.heap.size + 1) W2 (W2.setCell ⟨w.heap.size + 1, 0, none⟩ (.int .i64 (andI up ux))) := (Upd.refl (fun k => k = w.heap.size + 1) W2).setCell (p := ⟨w.heap.size + 1, 0, none⟩) (.inr rfl) _
    have hV2 : Upd (fun k => k = w.heap.size + 1 ∨ D1 k ∨ W.heap.size ≤ k) Wb W2 := (hWd.mono (fun _ _ e => e.elim)).below hB2 (fun k h1 h2 => by omega)
    gi_wp2
    exact ⟨D1, ⟨by rw [Hsn.out]; exact bS2.set _, hU2.trans' hus (fun i hi e => e)⟩, hV2.trans' hus (fun i hi e => .inl e), fun k hk => .inl hk⟩
  case done =>
    rintro d D1 W hd ⟨bT1, hU⟩ hD1 hKd
    have hcT := bT1.cell
    gi_wp2
    refine leaves_marks [d] _ ⟨by simp, fun b hb => ?_⟩ (fun W' hu' => ?_)
    · rw [List.mem_singleton.1 hb]
      exact hKd
    · exact ⟨.int .i64 (unrL zs (itemsL s)), by simp [results, Tryz.f43, go_sem], rfl,
        (((hu0.mono fun _ _ e => e.elim).trans' hU (fun i hi e => by omega)).trans' hu' (fun i hi e => by simp at e; omega)).toBelow (R := fun _ => False) (fun _ e => e.elim) (Nat.le_refl _)⟩
  case stop =>
    rintro d D1 co pre W hd hpre h
    exact h.elim
end Go.Proofs.YtdcdddmjffgibaaGreat

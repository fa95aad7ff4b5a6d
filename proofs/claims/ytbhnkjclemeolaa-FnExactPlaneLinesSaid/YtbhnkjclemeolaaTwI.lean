/- Two pairs apart, three items and one apart: the program's. -/
import Derived.Test.YtbhnkjclemeolaaGb
import Derived.Test.YtbhnkjclemeolaaLineI
import Derived.Test.YtbhnkjclemeolaaGa
import Derived.Test.YtbhnkjclemeolaaMkI
import Derived.Test.YtbhnkjclemeolaaGd
set_option linter.unusedVariables false
set_option linter.unusedSimpArgs false
namespace Go.Proofs.Ytbhnkjclemeolaa
open Go.RowKit Go.Shelf
attribute [local go_sem] Oper.semAt_some
attribute [local go_sem, local simp] wide_fn

theorem zero_or (x : Int) (h : 0 ≤ x) : orI 0 x = x := by unfold orI; simp; omega

set_option maxRecDepth 100000 in
set_option maxHeartbeats 4000000 in
theorem orelated_any (A : Option Addr) (n c : Nat) (zs : List Int) (x : Nat) (hvo : VoP zs) (w : World) (hA : Ints w w.heap.size A n zs) (hx : x < n) :
    Calls Try.prog 102 #[.slice A n c, .int .i64 (x : Int)] w fun e W' => e = .returned (.int .i64 (relI zs x)) ∧ Below w.heap.size w W' := by
  have hlen := Lib.hid hA.len
  have hn6 : n ≤ 6 := by have := hvo.1; rw [hlen.out] at this; exact this
  obtain ⟨bl, off, rfl, hbl, hc⟩ := hA.at_ hx
  have hcx := hc x hx
  clear hc
  have hzx := hvo.bd x (by rw [hlen.out]; exact hx)
  have hpp := powI_pos (x : Int)
  have hpx : powI (x : Int) < powI (n : Int) := powI_lt hx
  have hpn := powI_le6 (n := (n : Int)) (by omega)
  have hbel := belI_bd hvo.sets (s := powI (x : Int)) (by omega) (by rw [hlen.out]; exact hpx)
  rw [hlen.out] at hbel
  have hw1 := fun w => with_any 0 (x : Int) w (by omega) (by omega) (by omega) (by omega)
  rw [zero_or _ (by omega)] at hw1
  have hor : bits .or .i64 (zs[x]?.getD 0) (belI zs (powI (x : Int))) = relI zs x := bits_or (by omega) (by omega) (by omega) (by omega)
  have hbelow := fun w hA => obelow_any (some ⟨bl, off, none⟩) n c zs (powI (x : Int)) hvo w hA (by omega) hpx
  generalize belI zs (powI (x : Int)) = bb at *
  generalize powI (x : Int) = px at *
  generalize relI zs x = r at *
  generalize zs[x]?.getD 0 = zx at *
  go_enter Try.func102, Try.ntmps102
  go_wp2
  refine region_T (S := (fun w' => w'.cell? ⟨bl, off + x, none⟩ = some (.int .i64 zx))) 9 (by kernel_rfl) ?_
  have hSd : (fun w' => w'.cell? ⟨bl, off + x, none⟩ = some (.int .i64 zx)) w.drew := hcx
  have hAd : Ints w.drew w.drew.heap.size (some ⟨bl, off, none⟩) n zs := hA
  have hWd : Upd (fun _ => False) w w.drew := (Upd.refl _ w).drew
  obtain ⟨Wd, hWd2⟩ : ∃ Wd, w.drew = Wd := ⟨_, rfl⟩
  rw [hWd2] at hSd hAd hWd ⊢
  clear hWd2
  refine anyT_take (i := 0) (oi := ?oi0a) (v := .slice (some ⟨bl, off, none⟩) n c) ?hi0a (by kernel_rfl) ?hq0a ?hy0a (by assumption) ?rest0a
  case hi0a => (simp only [List.getElem?_toArray, List.getElem?_cons_zero]; first | done | rfl)
  case hq0a => first | exact fun _ _ _ h => h | exact fun _ _ _ h => (by cases h.1)
  case hy0a => (refine Or.inl ⟨by rfl, ?_⟩; intro wz hSw; go_simp; first | done | with_reducible rfl | simp | omega)
  try simp only [Act.put, List.setIfInBounds_toArray, List.set_cons_zero, List.set_cons_succ]
  refine anyT_take (i := 1) (oi := ?oi1a) (v := .int .i64 (x : Int)) ?hi1a (by kernel_rfl) ?hq1a ?hy1a (by assumption) ?rest1a
  case hi1a => (simp only [List.getElem?_toArray, List.getElem?_cons_succ, List.getElem?_cons_zero]; first | done | rfl)
  case hq1a => first | exact fun _ _ _ h => h | exact fun _ _ _ h => (by cases h.1)
  case hy1a => (refine Or.inl ⟨by rfl, ?_⟩; intro wz hSw; go_simp; first | done | with_reducible rfl | simp | omega)
  try simp only [Act.put, List.setIfInBounds_toArray, List.set_cons_zero, List.set_cons_succ]
  refine anyT_take (i := 2) (oi := ?oi2a) (v := .pointer (some ⟨bl, off + x, none⟩)) ?hi2a (by kernel_rfl) ?hq2a ?hy2a (by assumption) ?rest2a
  case hi2a => (simp only [List.getElem?_toArray, List.getElem?_cons_succ, List.getElem?_cons_zero]; first | done | rfl)
  case hq2a => first | exact fun _ _ _ h => h | exact fun _ _ _ h => (by cases h.1)
  case hy2a => (refine Or.inl ⟨by rfl, ?_⟩; intro wz hSw; go_simp; first | done | with_reducible rfl | simp | omega)
  try simp only [Act.put, List.setIfInBounds_toArray, List.set_cons_zero, List.set_cons_succ]
  refine anyT_take (i := 3) (oi := ?oi3a) (v := .int .i64 zx) ?hi3a (by kernel_rfl) ?hq3a ?hy3a (by assumption) ?rest3a
  case hi3a => (simp only [List.getElem?_toArray, List.getElem?_cons_succ, List.getElem?_cons_zero]; first | done | rfl)
  case hq3a => first | exact fun _ _ _ h => h | exact fun _ _ _ h => (by cases h.1)
  case hy3a => (refine Or.inl ⟨by rfl, ?_⟩; intro wz hSw; obtain hS1 := hSw; go_simp; first | done | with_reducible rfl | simp | omega)
  try simp only [Act.put, List.setIfInBounds_toArray, List.set_cons_zero, List.set_cons_succ]
  refine anyT_take (i := 4) (oi := ?oi4a) (v := .slice (some ⟨bl, off, none⟩) n c) ?hi4a (by kernel_rfl) ?hq4a ?hy4a (by assumption) ?rest4a
  case hi4a => (simp only [List.getElem?_toArray, List.getElem?_cons_succ, List.getElem?_cons_zero]; first | done | rfl)
  case hq4a => first | exact fun _ _ _ h => h | exact fun _ _ _ h => (by cases h.1)
  case hy4a => (refine Or.inl ⟨by rfl, ?_⟩; intro wz hSw; go_simp; first | done | with_reducible rfl | simp | omega)
  try simp only [Act.put, List.setIfInBounds_toArray, List.set_cons_zero, List.set_cons_succ]
  refine anyT_take (i := 5) (oi := ?oi5a) (v := .int .i64 (x : Int)) ?hi5a (by kernel_rfl) ?hq5a ?hy5a (by assumption) ?rest5a
  case hi5a => (simp only [List.getElem?_toArray, List.getElem?_cons_succ, List.getElem?_cons_zero]; first | done | rfl)
  case hq5a => first | exact fun _ _ _ h => h | exact fun _ _ _ h => (by cases h.1)
  case hy5a => (refine Or.inl ⟨by rfl, ?_⟩; intro wz hSw; go_simp; first | done | with_reducible rfl | simp | omega)
  try simp only [Act.put, List.setIfInBounds_toArray, List.set_cons_zero, List.set_cons_succ]
  refine anyT_one (i := 6) (by kernel_rfl) rfl (fun K' hK => ?_)
  go_simp
  refine (hw1 _).mono ?_
  rintro e w' ⟨rfl, rfl⟩
  refine hK.out _ _ (fun _ => hSd) ?_
  clear hK K'
  try simp only [Act.put, List.setIfInBounds_toArray, List.set_cons_zero, List.set_cons_succ]
  refine anyT_one (i := 7) (by kernel_rfl) rfl (fun K' hK => ?_)
  go_simp
  refine (hbelow Wd hAd).mono ?_
  rintro e W2 ⟨rfl, hB2⟩
  have hU2 : Upd (fun _ => False) w W2 := hWd.below hB2 (fun k h1 h2 => by have := hWd.size; omega)
  have hS2 : (fun w' => w'.cell? ⟨bl, off + x, none⟩ = some (.int .i64 zx)) W2 := hU2.cell hcx (fun e => e)
  refine hK.out _ _ (fun _ => hS2) ?_
  clear hK K'
  try simp only [Act.put, List.setIfInBounds_toArray, List.set_cons_zero, List.set_cons_succ]
  refine anyT_one (i := 8) (by kernel_rfl) rfl (fun K' hK => ?_)
  go_simp
  refine hK.out _ _ (fun _ => hS2) ?_
  clear hK K'
  try simp only [Act.put, List.setIfInBounds_toArray, List.set_cons_zero, List.set_cons_succ]
  refine anyT_one (i := 9) (by kernel_rfl) rfl (fun K' hK => ?_)
  go_simp
  refine hK.out _ _ (fun h => absurd rfl h) ?_
  clear hK K'
  try simp only [Act.put, List.setIfInBounds_toArray, List.set_cons_zero, List.set_cons_succ]
  refine anyT_done (by kernel_rfl) ?_ _
  go_wp2
  go_ret
  exact ⟨rfl, hU2.toBelow (fun _ e => e.elim) (Nat.le_refl _)⟩

set_option maxHeartbeats 1000000 in
theorem ounrelated_any (A : Option Addr) (n c : Nat) (zs : List Int) (x : Nat) (hvo : VoP zs) (w : World) (hA : Ints w w.heap.size A n zs) (hx : x < n) :
    Calls Try.prog 119 #[.slice A n c, .int .i64 (x : Int)] w fun e W' => e = .returned (.int .i64 (unrI zs x)) ∧ Below w.heap.size w W' := by
  have hlen := Lib.hid hA.len
  have hn6 : n ≤ 6 := by have := hvo.1; rw [hlen.out] at this; exact this
  have hpn := powI_le6 (n := (n : Int)) (by omega)
  have hpp := powI_pos (n : Int)
  have hr := relI_bd hvo (x := x) (by rw [hlen.out]; exact hx)
  rw [hlen.out] at hr
  have hle : bits .andNot .i64 (powI n - 1) (relI zs x) = unrI zs x := (bits_less (by omega) (by omega) (by omega) (by omega)).trans (by unfold unrI; rw [hlen.out])
  have H1 := Lib.hid (fun w => oall_any A n c w hn6)
  have H2 := Lib.hid (fun w hA => orelated_any A n c zs x hvo w hA hx)
  generalize relI zs x = r at *
  generalize unrI zs x = u at *
  generalize powI (n : Int) - 1 = pn at *
  go_enter Try.func119, Try.ntmps119
  go_wp2_with (first
    | (go_at_call 85; refine (H1.out _).mono ?_; rintro e w' ⟨rfl, rfl⟩)
    | (go_at_call 102; refine (H2.out _ hA).mono ?_; rintro e w' ⟨rfl, hB⟩))
  go_ret
  exact ⟨rfl, hB⟩

end Go.Proofs.Ytbhnkjclemeolaa

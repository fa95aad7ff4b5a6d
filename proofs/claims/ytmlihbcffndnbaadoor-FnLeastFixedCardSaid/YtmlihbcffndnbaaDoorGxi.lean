/- Texts that several claims share, one behind the other. -/
import Derived.Test.YtmlihbcffndnbaaDoorGxc
import Derived.Test.YtmlihbcffndnbaaDoorLtP
import Derived.Test.YtmlihbcffndnbaaDoorGxh
import Derived.Test.YtmlihbcffndnbaaDoorGxd
import Derived.Test.YtmlihbcffndnbaaDoorGa
set_option linter.unusedVariables false
set_option linter.unusedSimpArgs false
/- LeastFixed: the program's, whole. -/
namespace Go.Proofs.YtmlihbcffndnbaaDoor
open Go.RowKit Go.Shelf
attribute [local go_sem] Oper.semAt_some
attribute [local go_sem, local simp] wide_fn

set_option maxRecDepth 100000 in
set_option maxHeartbeats 2000000 in
theorem tLeastFixed_any (A : Option Addr) (n : Nat) (zs : List Int) (A' : Option Addr) (m : Nat) (F : Option Addr) (cf : Nat) (fs : List Int) (w : World) (h : Ints w w.heap.size A n zs) (hf : Ints w w.heap.size F n fs) (hB : lfB zs fs = true) :
    Calls Tryd.prog 26 #[tkV A n A' m F n cf] w fun e w' => e = .returned (.int .i64 (lfR zs fs)) ∧ Below w.heap.size w w' := by
  have hlen := Lib.hid h.len
  have hlenf := Lib.hid hf.len
  have HB := Lib.hid hB
  have hlr : latR zs = true := by unfold lfB at hB; rw [Bool.and_eq_true] at hB; exact hB.1
  have hmp : mpB zs zs fs = true := by unfold lfB risB at hB; rw [Bool.and_eq_true, Bool.and_eq_true] at hB; exact hB.2.1
  obtain ⟨hvo, -, hln, hen⟩ := mp_parts hmp
  rw [hlen.out] at hen
  have hn6 : n ≤ 6 := by have := hvo.1; rw [hlen.out] at this; exact this
  have hpk : powI (n : Int) ≤ 64 := powI_le6 (by omega)
  have hpk0 := powI_pos (n : Int)
  have Hn := Lib.hid (show lfR zs fs = (fxI fs 6 (botI zs).toNat : Int) by unfold lfR; rw [hB]; rfl)
  obtain ⟨b0, hb0, hst⟩ := lf_start hB
  have Hst := Lib.hid hst
  have Hlv := Lib.hid (show lsV zs (powI n - 1) = .tuple #[.int .i64 (b0 : Int), .bool true] by
    have e : jnI zs (powI n - 1) = b0 := by
      have := hb0
      unfold botI at this
      rw [hlen.out] at this
      exact this
    unfold lsV
    rw [e, if_neg (by omega)])
  have Hls := Lib.hid (fun W h => least_any A n n zs (powI n - 1) hvo.sets W h (by omega) (by omega))
  rw [Hlv.out] at Hls
  have hal := fun w => oall_any A n n w hn6
  generalize fxI fs 6 (botI zs).toNat = R at *
  have HR := Lib.hid Hn.out
  clear hb0 hst hln hB hlr hmp hpk hpk0
  generalize powI (n : Int) - 1 = al at *
  unfold tkV
  have kt : (w.alloc (.cells #[.slice A n n, .slice A' m m, .slice F n cf] 44)).heap[w.heap.size]? = some (.cells #[.slice A n n, .slice A' m m, .slice F n cf] 44 (0, 0)) := heap_alloc_new w _
  obtain ⟨c0, c1, c2, -, -, -⟩ := three_cells kt
  have kB : Below w.heap.size w (w.alloc (.cells #[.slice A n n, .slice A' m m, .slice F n cf] 44)) := (Below.refl w.heap.size w).alloc (Nat.le_refl _) _
  have kz : w.heap.size < (w.alloc (.cells #[.slice A n n, .slice A' m m, .slice F n cf] 44)).heap.size := by simp
  go_enter Tryd.func26, Tryd.ntmps26
  go_wp2
  obtain ⟨w1, hw1⟩ : ∃ w1, w.alloc (.cells #[.slice A n n, .slice A' m m, .slice F n cf] 44) = w1 := ⟨_, rfl⟩
  rw [hw1] at kt kB kz ⊢
  clear hw1 c0 c1 c2
  have hud : Upd (fun _ => False) w1 w1.drew := (Upd.refl _ w1).drew
  have kd : Below w1.heap.size w1 w1.drew := hud.toBelow (fun _ e => e.elim) (Nat.le_refl _)
  have ktd : w1.drew.heap[w.heap.size]? = some (.cells #[.slice A n n, .slice A' m m, .slice F n cf] 44 (0, 0)) := kt
  have kBd := kB.trans (kd.mono (Nat.le_of_lt kz))
  have kzd := kd.size
  refine region_T (S := (fun w' => w'.cell? ⟨w.heap.size, 0, none⟩ = some (.slice A n n) ∧ w'.cell? ⟨w.heap.size, 1, none⟩ = some (.slice A' m m) ∧ w'.cell? ⟨w.heap.size, 2, none⟩ = some (.slice F n cf) ∧ w'.frozen? ⟨w.heap.size, 0, none⟩ = false ∧ w'.frozen? ⟨w.heap.size, 1, none⟩ = false ∧ w'.frozen? ⟨w.heap.size, 2, none⟩ = false)) 10 (by kernel_rfl) ?_
  obtain ⟨wd, hwd⟩ : ∃ wd, w1.drew = wd := ⟨_, rfl⟩
  rw [hwd] at kd ktd kBd kzd ⊢
  clear hwd hud kt kB
  have hSd := three_cells ktd
  refine anyT_take (i := 0) (oi := ?oi0a) (v := .pointer (some ⟨w.heap.size, 0, none⟩)) ?hi0a (by kernel_rfl) ?hq0a ?hy0a (by assumption) ?rest0a
  case hi0a => (simp only [List.getElem?_toArray, List.getElem?_cons_zero]; first | done | rfl)
  case hq0a => first | exact fun _ _ _ h => h | exact fun _ _ _ h => (by cases h.1)
  case hy0a => (refine Or.inl ⟨by rfl, ?_⟩; intro wz hSw; go_simp; first | done | with_reducible rfl | simp | omega)
  try simp only [Act.put, List.setIfInBounds_toArray, List.set_cons_zero, List.set_cons_succ]
  refine anyT_take (i := 1) (oi := ?oi1a) (v := .slice A n n) ?hi1a (by kernel_rfl) ?hq1a ?hy1a (by assumption) ?rest1a
  case hi1a => (simp only [List.getElem?_toArray, List.getElem?_cons_succ, List.getElem?_cons_zero]; first | done | rfl)
  case hq1a => first | exact fun _ _ _ h => h | exact fun _ _ _ h => (by cases h.1)
  case hy1a => (refine Or.inl ⟨by rfl, ?_⟩; intro wz hSw; obtain ⟨s0, s1, s2, -, -, -⟩ := hSw; go_simp; first | done | with_reducible rfl | simp | omega)
  try simp only [Act.put, List.setIfInBounds_toArray, List.set_cons_zero, List.set_cons_succ]
  refine anyT_take (i := 2) (oi := ?oi2a) (v := .pointer (some ⟨w.heap.size, 0, none⟩)) ?hi2a (by kernel_rfl) ?hq2a ?hy2a (by assumption) ?rest2a
  case hi2a => (simp only [List.getElem?_toArray, List.getElem?_cons_succ, List.getElem?_cons_zero]; first | done | rfl)
  case hq2a => first | exact fun _ _ _ h => h | exact fun _ _ _ h => (by cases h.1)
  case hy2a => (refine Or.inl ⟨by rfl, ?_⟩; intro wz hSw; go_simp; first | done | with_reducible rfl | simp | omega)
  try simp only [Act.put, List.setIfInBounds_toArray, List.set_cons_zero, List.set_cons_succ]
  refine anyT_take (i := 3) (oi := ?oi3a) (v := .slice A n n) ?hi3a (by kernel_rfl) ?hq3a ?hy3a (by assumption) ?rest3a
  case hi3a => (simp only [List.getElem?_toArray, List.getElem?_cons_succ, List.getElem?_cons_zero]; first | done | rfl)
  case hq3a => first | exact fun _ _ _ h => h | exact fun _ _ _ h => (by cases h.1)
  case hy3a => (refine Or.inl ⟨by rfl, ?_⟩; intro wz hSw; obtain ⟨s0, s1, s2, -, -, -⟩ := hSw; go_simp; first | done | with_reducible rfl | simp | omega)
  try simp only [Act.put, List.setIfInBounds_toArray, List.set_cons_zero, List.set_cons_succ]
  refine anyT_one (i := 4) (by kernel_rfl) rfl (fun K' hK => ?_)
  go_simp
  refine (hal _).mono ?_
  rintro e w' ⟨rfl, rfl⟩
  refine hK.out _ _ (fun _ => hSd) ?_
  clear hK K'
  try simp only [Act.put, List.setIfInBounds_toArray, List.set_cons_zero, List.set_cons_succ]
  refine anyT_one (i := 5) (by kernel_rfl) rfl (fun K' hK => ?_)
  go_simp
  refine (Hls.out wd (h.to kBd (Nat.le_refl _) kBd.size)).mono ?_
  rintro e w2 ⟨rfl, hB2⟩
  have kt2 := (hB2.block w.heap.size (by omega)).trans ktd
  have kB2 := kBd.trans (hB2.mono kBd.size)
  have hS2 := three_cells kt2
  refine hK.out _ _ (fun _ => hS2) ?_
  clear hK K'
  try simp only [Act.put, List.setIfInBounds_toArray, List.set_cons_zero, List.set_cons_succ]
  refine anyT_one (i := 6) (by kernel_rfl) rfl (fun K' hK => ?_)
  go_simp
  refine hK.out _ _ (fun _ => hS2) ?_
  clear hK K'
  try simp only [Act.put, List.setIfInBounds_toArray, List.set_cons_zero, List.set_cons_succ]
  refine anyT_take (i := 7) (oi := ?oi7b) (v := .int .i64 (b0 : Int)) ?hi7b (by kernel_rfl) ?hq7b ?hy7b (by assumption) ?rest7b
  case hi7b => (simp only [List.getElem?_toArray, List.getElem?_cons_succ, List.getElem?_cons_zero]; first | done | rfl)
  case hq7b => first | exact fun _ _ _ h => h | exact fun _ _ _ h => (by cases h.1)
  case hy7b => (refine Or.inl ⟨by rfl, ?_⟩; intro wz hSw; go_simp; first | done | with_reducible rfl | simp | omega)
  try simp only [Act.put, List.setIfInBounds_toArray, List.set_cons_zero, List.set_cons_succ]
  refine anyT_take (i := 8) (oi := ?oi8b) (v := .bool true) ?hi8b (by kernel_rfl) ?hq8b ?hy8b (by assumption) ?rest8b
  case hi8b => (simp only [List.getElem?_toArray, List.getElem?_cons_succ, List.getElem?_cons_zero]; first | done | rfl)
  case hq8b => first | exact fun _ _ _ h => h | exact fun _ _ _ h => (by cases h.1)
  case hy8b => (refine Or.inl ⟨by rfl, ?_⟩; intro wz hSw; go_simp; first | done | with_reducible rfl | simp | omega)
  try simp only [Act.put, List.setIfInBounds_toArray, List.set_cons_zero, List.set_cons_succ]
  refine anyT_one (i := 9) (by kernel_rfl) rfl (fun K' hK => ?_)
  go_simp
  refine hK.out _ _ (fun _ => hS2) ?_
  clear hK K'
  try simp only [Act.put, List.setIfInBounds_toArray, List.set_cons_zero, List.set_cons_succ]
  refine anyT_one (i := 10) (by kernel_rfl) rfl (fun K' hK => ?_)
  go_simp
  refine hK.out _ _ (fun h => absurd rfl h) ?_
  clear hK K'
  try simp only [Act.put, List.setIfInBounds_toArray, List.set_cons_zero, List.set_cons_succ]
  refine anyT_done (by kernel_rfl) ?_ _
  have f2 := hf.to kB2 (Nat.le_refl _) kB2.size
  obtain ⟨c0, c1, c2, -, -, -⟩ := three_cells kt2
  clear hSd hS2 ktd kBd hB2
  go_wp2
  go_loop [3] (fun i => ∃ x : Nat, i = .int .i64 x ∧ Hid (LfOk zs fs R x)) (fun i => (6 - (hgt zs (intOf i).toNat)).toNat)
  case atStart => exact ⟨b0, rfl, Hst⟩
  case round =>
    obtain ⟨x, rfl, hx⟩ := hrel
    have hxk : x < n := by have := hx.out.1; rw [hlen.out] at this; exact this
    obtain ⟨bf, off', hFe, _, hcf⟩ := f2.at_ hxk
    subst hFe
    have hcx := hcf x hxk
    clear hcf
    obtain ⟨e1, l1⟩ := ends_it hen (k := x) (by rw [hlenf.out]; exact hxk)
    rw [e1] at hcx
    clear e1
    by_cases hfx : itN fs x = x
    · have Hd := Lib.hid (lf_done hx.out hfx)
      have hq : ((itN fs x : Int) != (x : Int)) = false := by simp; omega
      have Hfx := Lib.hid hfx
      clear hfx
      generalize itN fs x = y at *
      go_wp2
      go_ret
      exact ⟨ret_int (by rw [HR.out, Hd.out]), kB2⟩
    · obtain ⟨hn1, hn2⟩ := lf_next HB.out hx.out hfx
      have hbx := lf_bd HB.out hx.out
      have Hn1 := Lib.hid hn1
      have Hm1 := Lib.hid hn2
      have Hb1 := Lib.hid hbx
      have hq : ((itN fs x : Int) != (x : Int)) = true := by simp; omega
      clear hfx hn1 hn2 hbx
      generalize itN fs x = y at *
      go_wp2
      go_round
      case rel => exact ⟨y, by go_num, Hn1⟩
      case measure =>
        have e1 := Hm1.out
        have e2 := Hb1.out
        simp [intOf]; omega

set_option maxRecDepth 100000 in
set_option maxHeartbeats 2000000 in
theorem LeastFixed_any (A : Option Addr) (n c : Nat) (zs : List Int) (F : Option Addr) (k cf : Nat) (fs : List Int) (w : World) (h : Ints w w.heap.size A n zs) (hf : Ints w w.heap.size F k fs)
    (hbig : n ≤ 1152921504606846976) (hbigf : k ≤ 1152921504606846976) (hE : Et w) :
    Calls Tryd.prog 8 #[.slice A n c, .slice F k cf] w fun e w' => e = .returned (.int .i64 (lfR zs fs)) ∧ Below w.heap.size w w' := by
  have hlen := Lib.hid h.len
  have hlenf := Lib.hid hf.len
  go_enter Tryd.func8, Tryd.ntmps8
  go_wp2_with fail
  refine (readLattice_any A n c zs w h hbig hE).mono ?_
  rintro e w1 ⟨⟨B, m1, c1, B', m1', c1', rfl⟩, hB1⟩
  have z1 := hB1.size
  have kB2 := hB1.alloc z1 (.cells #[.slice B m1 c1, .slice B' m1' c1'] 38)
  obtain ⟨lt, hlt⟩ : ∃ lt, latR zs = lt := ⟨_, rfl⟩
  rw [hlt]
  go_wp2_with fail
  have zz2 : w.heap.size ≤ (w1.alloc (.cells #[.slice B m1 c1, .slice B' m1' c1'] 38)).heap.size := by simp; omega
  generalize w1.alloc (.cells #[.slice B m1 c1, .slice B' m1' c1'] 38) = w2 at *
  refine (readRising_any A n c zs A n c zs F k cf fs w2 (h.to kB2 (Nat.le_refl _) zz2) (h.to kB2 (Nat.le_refl _) zz2) (hf.to kB2 (Nat.le_refl _) zz2) hbig hbig hbigf).mono ?_
  rintro e w3 ⟨hB3, (⟨hm, b, b', rfl, hAr, hAr'⟩ | ⟨hm, rfl⟩)⟩
  · have z3 := hB3.size
    have kB3 := kB2.trans (hB3.mono zz2)
    unfold tkV
    have kt : (w3.alloc (.cells #[.slice (some ⟨b, 0, none⟩) n n, .slice (some ⟨b', 0, none⟩) n n, .slice F k cf] 44)).heap[w3.heap.size]? = some (.cells #[.slice (some ⟨b, 0, none⟩) n n, .slice (some ⟨b', 0, none⟩) n n, .slice F k cf] 44 (0, 0)) := heap_alloc_new w3 _
    obtain ⟨c0, c1', c2, -, -, -⟩ := three_cells kt
    have kB4 := kB3.alloc (by omega) (.cells #[.slice (some ⟨b, 0, none⟩) n n, .slice (some ⟨b', 0, none⟩) n n, .slice F k cf] 44)
    have hA4 := hAr.alloc (.cells #[.slice (some ⟨b, 0, none⟩) n n, .slice (some ⟨b', 0, none⟩) n n, .slice F k cf] 44)
    have z4 : w3.heap.size < (w3.alloc (.cells #[.slice (some ⟨b, 0, none⟩) n n, .slice (some ⟨b', 0, none⟩) n n, .slice F k cf] 44)).heap.size := by simp
    have hmp : mpB zs zs fs = true := by unfold risB at hm; rw [Bool.and_eq_true] at hm; exact hm.1
    obtain ⟨-, -, hln, -⟩ := mp_parts hmp
    rw [hlen.out, hlenf.out] at hln
    subst hln
    cases lt
    · have Hn := Lib.hid (show lfR zs fs = -1 by unfold lfR lfB; rw [hlt]; rfl)
      clear hlt hm hmp
      go_wp2_with fail
      go_ret
      exact ⟨ret_int Hn.out.symm, kB4⟩
    · have HB := Lib.hid (show lfB zs fs = true by unfold lfB; rw [hlt, hm]; rfl)
      clear hlt hm hmp
      go_wp2_with fail
      have hx := tLeastFixed_any (some ⟨b, 0, none⟩) k zs (some ⟨b', 0, none⟩) k F cf fs _ (hA4.ints' hA4.lt hlen.out) (hf.to kB4 (Nat.le_refl _) (by omega)) HB.out
      unfold tkV at hx
      refine hx.mono ?_
      clear hx
      rintro e w5 ⟨rfl, hB5⟩
      go_wp2_with fail
      go_ret
      exact ⟨rfl, kB4.trans (hB5.mono (by omega))⟩
  · have z3 := hB3.size
    have kB3 := kB2.trans (hB3.mono zz2)
    have kB4 := kB3.alloc (by omega) (.cells #[.slice none 0 0, .slice none 0 0, .slice none 0 0] 44)
    have Hn := Lib.hid (show lfR zs fs = -1 by unfold lfR lfB; rw [hm]; simp)
    clear hlt hm
    cases lt
    · go_wp2_with fail
      go_ret
      exact ⟨ret_int Hn.out.symm, kB4⟩
    · go_wp2_with fail
      go_ret
      exact ⟨ret_int Hn.out.symm, kB4⟩
end Go.Proofs.YtmlihbcffndnbaaDoor

/- The walk of the exact law of LeastFixed. -/
namespace Go.Proofs.YtmlihbcffndnbaaDoor
open Go.RowKit

set_option maxHeartbeats 4000000 in
theorem exactLeastFixed_walk (A0 : Option Addr) (n0 c0 : Nat) (z0 : List Int) (A1 : Option Addr) (n1 c1 : Nat) (z1 : List Int) (w : World) (h0 : Ints w w.heap.size A0 n0 z0) (h1 : Ints w w.heap.size A1 n1 z1) (hE : Et w) :
    Calls Tryd.prog 3 #[.slice A0 n0 c0, .slice A1 n1 c1] w fun e w' => e = .returned (.bool true) ∧ Below w.heap.size w w' := by
  by_cases s0 : n0 ≤ 1048576
  · by_cases s1 : n1 ≤ 1048576
    · go_enter Tryd.func3, Tryd.ntmps3
      go_wp2_with fail
      refine (toIntS_any A0 n0 c0 z0 w h0 s0).mono ?_
      rintro e w1 ⟨rfl, hA1, hB1⟩
      have C1 := hB1
      have ia1 := hA1.ints' hA1.lt h0.len
      go_wp2_with fail
      refine (toIntS_any A1 n1 c1 z1 w1 (h1.to C1 (Nat.le_refl _) C1.size) s1).mono ?_
      rintro e w2 ⟨rfl, hA2, hB2⟩
      have C2 := C1.trans (hB2.mono C1.size)
      have ia2 := ia1.to hB2 (Nat.le_refl _) hB2.size
      have jb2 := hA2.ints' hA2.lt h1.len
      go_wp2_with fail
      refine (specLeastFixedF_any _ n0 _ z0 _ n1 _ z1 w2 ia2 jb2 (by omega) (by omega)).mono ?_
      rintro e w3 ⟨rfl, hB3⟩
      have C3 := C2.trans (hB3.mono C2.size)
      have ia3 := ia2.to hB3 (Nat.le_refl _) hB3.size
      have jb3 := jb2.to hB3 (Nat.le_refl _) hB3.size
      clear ia3
      clear jb3
      go_wp2_with fail
      refine (toIntS_any A0 n0 c0 z0 w3 (h0.to C3 (Nat.le_refl _) C3.size) s0).mono ?_
      rintro e w4 ⟨rfl, hA4, hB4⟩
      have C4 := C3.trans (hB4.mono C3.size)
      have xa4 := hA4.ints' hA4.lt h0.len
      go_wp2_with fail
      refine (toIntS_any A1 n1 c1 z1 w4 (h1.to C4 (Nat.le_refl _) C4.size) s1).mono ?_
      rintro e w5 ⟨rfl, hA5, hB5⟩
      have C5 := C4.trans (hB5.mono C4.size)
      have xa5 := xa4.to hB5 (Nat.le_refl _) hB5.size
      have xb5 := hA5.ints' hA5.lt h1.len
      go_wp2_with fail
      refine (LeastFixed_any _ n0 _ z0 _ n1 _ z1 w5 xa5 xb5 (by omega) (by omega) (hE.below C5 hE.2)).mono ?_
      rintro e w6 ⟨rfl, hB6⟩
      have C6 := C5.trans (hB6.mono C5.size)
      have xa6 := xa5.to hB6 (Nat.le_refl _) hB6.size
      have xb6 := xb5.to hB6 (Nat.le_refl _) hB6.size
      have hne : (lfR z0 z1 != lfR z0 z1) = false := by simp
      have hz0 : decide (z0 = z0) = true := by simp
      have hz1 : decide (z1 = z1) = true := by simp
      go_wp2_with fail
      refine (toIntS_any A0 n0 c0 z0 w6 (h0.to C6 (Nat.le_refl _) C6.size) s0).mono ?_
      rintro e w7 ⟨rfl, hA7, hB7⟩
      have C7 := C6.trans (hB7.mono C6.size)
      have xa7 := xa6.to hB7 (Nat.le_refl _) hB7.size
      have xb7 := xb6.to hB7 (Nat.le_refl _) hB7.size
      have ma7 := hA7.ints' hA7.lt h0.len
      go_wp2_with fail
      refine (below_quiet (eqIntS_any _ _ _ _ _ _ w7.heap.size w7.heap.size z0 z0 _ xa7 ma7 (by omega) (by omega))).mono ?_
      rintro e w8 ⟨rfl, hB8⟩
      have C8 := C7.trans (hB8.mono C7.size)
      have xa8 := xa7.to hB8 (Nat.le_refl _) hB8.size
      have xb8 := xb7.to hB8 (Nat.le_refl _) hB8.size
      have ma8 := ma7.to hB8 (Nat.le_refl _) hB8.size
      clear ma8
      go_wp2_with fail
      refine (toIntS_any A1 n1 c1 z1 w8 (h1.to C8 (Nat.le_refl _) C8.size) s1).mono ?_
      rintro e w9 ⟨rfl, hA9, hB9⟩
      have C9 := C8.trans (hB9.mono C8.size)
      have xa9 := xa8.to hB9 (Nat.le_refl _) hB9.size
      have xb9 := xb8.to hB9 (Nat.le_refl _) hB9.size
      have ma9 := hA9.ints' hA9.lt h1.len
      go_wp2_with fail
      refine (below_quiet (eqIntS_any _ _ _ _ _ _ w9.heap.size w9.heap.size z1 z1 _ xb9 ma9 (by omega) (by omega))).mono ?_
      rintro e w10 ⟨rfl, hB10⟩
      have C10 := C9.trans (hB10.mono C9.size)
      have xa10 := xa9.to hB10 (Nat.le_refl _) hB10.size
      have xb10 := xb9.to hB10 (Nat.le_refl _) hB10.size
      have ma10 := ma9.to hB10 (Nat.le_refl _) hB10.size
      clear ma10
      go_wp2_with fail
      go_ret
      exact ⟨rfl, C10⟩
    · go_enter Tryd.func3, Tryd.ntmps3
      go_wp2
      go_ret
      exact ⟨rfl, Below.refl _ _⟩
  · go_enter Tryd.func3, Tryd.ntmps3
    go_wp2
    go_ret
    exact ⟨rfl, Below.refl _ _⟩
end Go.Proofs.YtmlihbcffndnbaaDoor

/- IsApart's own law: a set apart has at most WidestApart items, is apart turned round, is its own tops, and is apart without its least item. -/
import Derived.Test.YtgeicciieagbgaaDrIsApart
import Derived.Test.YtgeicciieagbgaaSetM
import Derived.Test.YtgeicciieagbgaaSize
import Derived.Test.YtgeicciieagbgaaChIs
import Derived.Test.YtgeicciieagbgaaDual
import Derived.Test.YtgeicciieagbgaaWideI
import Derived.Test.YtgeicciieagbgaaTopsI
namespace Go.Proofs.Ytgeicciieagbgaa
open Go.RowKit Go.Shelf

theorem topsTo_bit {zs : List Int} {s : Int} (j : Nat) : ∀ k : Nat, bitB (topsTo zs s k) j = true ↔ j < k ∧ bitB s j = true ∧ andI (zs[j]?.getD 0) s = 0
  | 0 => by simp [topsTo, bitB_zero]
  | k + 1 => by
    have ih := topsTo_bit (zs := zs) (s := s) j k
    cases hc : (bitB s k && andI (zs[k]?.getD 0) s == 0)
    · have e : topsTo zs s (k + 1) = topsTo zs s k := by simp only [topsTo]; rw [hc]; rfl
      rw [e, ih]
      constructor
      · rintro ⟨h1, h2⟩; exact ⟨by omega, h2⟩
      · rintro ⟨h1, h2, h3⟩
        refine ⟨?_, h2, h3⟩
        by_cases hjk : j = k
        · subst hjk; rw [h2, h3] at hc; cases hc
        · omega
    · have e : topsTo zs s (k + 1) = orI (topsTo zs s k) (powI k) := by simp only [topsTo]; rw [hc]; rfl
      rw [Bool.and_eq_true] at hc
      rw [e, bitB_or, bitB_pow, Bool.or_eq_true, ih, decide_eq_true_eq]
      constructor
      · rintro (⟨h1, h2⟩ | rfl)
        · exact ⟨by omega, h2⟩
        · exact ⟨by omega, hc.1, by simpa using hc.2⟩
      · rintro ⟨h1, h2⟩
        by_cases hjk : k = j
        · exact .inr hjk
        · exact .inl ⟨by omega, h2⟩
theorem topsR_apart {zs : List Int} {s : Int} (h : VoP zs) (h0 : 0 ≤ s) (h1 : s < powI zs.length) (ha : apB zs s = true) : topsR zs s = s := by
  have hp := powI_le6 (n := (zs.length : Int)) (by have := h.1; omega)
  have hin : inB s 0 (powI zs.length - 1) = true := by simp only [inB, decide_eq_true_eq]; omega
  unfold topsR
  rw [vo_true h, hin]
  simp only [Bool.and_true, if_true]
  refine bitB_ext (topsTo_bd zs s _).1 h0 fun j => ?_
  have key := topsTo_bit (zs := zs) (s := s) j zs.length
  cases e : bitB s j
  · cases e2 : bitB (topsTo zs s zs.length) j
    · rfl
    · have := (key.1 e2).2.1; rw [e] at this; cases this
  · exact key.2 ⟨bitB_lt h1 e, e, andI_zero.2 fun b hb => (apB_iff (by omega)).1 ha j b e hb⟩

set_option maxRecDepth 100000 in
set_option maxHeartbeats 8000000 in
theorem fnIsApart_walk (A : Option Addr) (m c : Nat) (bs : List Int) (w : World) (h : Byts w w.heap.size A m bs) (hcap : m ≤ c) :
    Calls Try.prog 8 #[.slice A m c] w fun e w' => e = .returned (.bool true) ∧ Below w.heap.size w w' := by
  by_cases hs : m ≤ 1048576
  · go_enter Try.func8, Try.ntmps8
    go_wp2_with fail
    refine (drawIsApart_any A m c bs w h hcap (by omega)).mono ?_
    rintro e w1 ⟨A1, n, c1, zs, s, rfl, hn7, hI1, C1⟩
    have hlen := Lib.hid hI1.len
    cases hv : isApartR zs s
    · have HL := Lib.hid hv
      clear hv
      go_wp2_with fail
      refine (IsApart_any A1 n c1 zs s w1 hI1 (by omega)).mono ?_
      rw [HL.out]
      rintro e w2 ⟨rfl, hB2⟩
      have z2 := hB2.size
      have C2 := C1.trans (hB2.mono C1.size)
      have hI2 := hI1.to hB2 (Nat.le_refl _) z2
      clear hI1 hB2 C1
      go_wp2_with fail
      refine (specIsApartF_any A1 n c1 zs s w2 hI2 (by omega)).mono ?_
      rw [HL.out]
      rintro e w3 ⟨rfl, hB3⟩
      have z3 := hB3.size
      have C3 := C2.trans (hB3.mono C2.size)
      have hI3 := hI2.to hB3 (Nat.le_refl _) z3
      clear hI2 hB3 C2
      go_wp2_with fail
      refine (specIsApartF_any A1 n c1 zs s w3 hI3 (by omega)).mono ?_
      rw [HL.out]
      rintro e w4 ⟨rfl, hB4⟩
      have z4 := hB4.size
      have C4 := C3.trans (hB4.mono C3.size)
      have hI4 := hI3.to hB4 (Nat.le_refl _) z4
      clear hI3 hB4 C3
      go_wp2_with fail
      go_ret
      exact ⟨rfl, C4⟩
    · have HL := Lib.hid hv
      obtain ⟨hvo, ⟨hs0, hs1⟩, hch⟩ := isApart_parts hv
      clear hv
      have hp64 := powI_le6 (n := (zs.length : Int)) (by have := hvo.1; omega)
      have hp0 := popI_bd (s := s) hs0 (by omega)
      have HD := Lib.hid (show dualR zs = du zs by unfold dualR; rw [vo_true hvo]; rfl)
      have HDN := Lib.hid (du_len zs)
      have hle := apart_le hvo hs0 hs1 hch
      have HDC := Lib.hid (show isApartR (du zs) s = true by rw [du_isApart hvo hs0 hs1]; exact hch)
      have HT := Lib.hid (topsR_apart hvo hs0 hs1 hch)
      obtain ⟨t, ht, ht0, ht1, hts⟩ := less_one hs0 hs1 hvo.1
      have HLs := Lib.hid (show isApartR zs t = true by rw [isApart_is hvo ht0 ht1]; exact apB_sub (by omega) (by omega) hts hch)
      have Ht := Lib.hid ht
      have hs64 : s < 64 := by omega
      clear ht hts hch ht0 ht1 hs1
      go_wp2_with fail
      refine (IsApart_any A1 n c1 zs s w1 hI1 (by omega)).mono ?_
      rw [HL.out]
      rintro e w2 ⟨rfl, hB2⟩
      have z2 := hB2.size
      have C2 := C1.trans (hB2.mono C1.size)
      have hI2 := hI1.to hB2 (Nat.le_refl _) z2
      clear hI1 hB2 C1
      go_wp2_with fail
      refine (specIsApartF_any A1 n c1 zs s w2 hI2 (by omega)).mono ?_
      rw [HL.out]
      rintro e w3 ⟨rfl, hB3⟩
      have z3 := hB3.size
      have C3 := C2.trans (hB3.mono C2.size)
      have hI3 := hI2.to hB3 (Nat.le_refl _) z3
      clear hI2 hB3 C2
      go_wp2_with fail
      refine (lsize_any s _ hs0 hs64).mono ?_
      rintro e wq ⟨rfl, rfl⟩
      go_wp2_with fail
      refine (WidestApart_any A1 n c1 zs w3 hI3 (by omega)).mono ?_
      rintro e w4 ⟨rfl, hB4⟩
      have z4 := hB4.size
      have C4 := C3.trans (hB4.mono C3.size)
      have hI4 := hI3.to hB4 (Nat.le_refl _) z4
      clear hI3 hB4 C3
      go_wp2_with fail
      refine (DualOf_any A1 n c1 zs w4 hI4 (by omega)).mono ?_
      rintro e w5 ⟨A5, m5, c5, rfl, r5, hB5⟩
      have z5 := hB5.size
      have C5 := C4.trans (hB5.mono C4.size)
      have hI5 := hI4.to hB5 (Nat.le_refl _) z5
      have hd5 := r5.ints (B := w5.heap.size) (Nat.le_refl _)
      have e5 := r5.len
      clear hI4 hB5 C4 r5
      rw [HD.out] at hd5 e5
      rw [HDN.out, hlen.out] at e5
      subst e5
      go_wp2_with fail
      refine (IsApart_any A5 _ c5 (du zs) s w5 hd5 (by omega)).mono ?_
      rw [HDC.out]
      rintro e w6 ⟨rfl, hB6⟩
      have z6 := hB6.size
      have C6 := C5.trans (hB6.mono C5.size)
      have hI6 := hI5.to hB6 (Nat.le_refl _) z6
      have hd6 := hd5.to hB6 (Nat.le_refl _) z6
      clear hI5 hd5 hB6 C5
      go_wp2_with fail
      refine (TopsOf_any A1 n c1 zs s w6 hI6 (by omega)).mono ?_
      rw [HT.out]
      rintro e w7 ⟨rfl, hB7⟩
      have z7 := hB7.size
      have C7 := C6.trans (hB7.mono C6.size)
      have hI7 := hI6.to hB7 (Nat.le_refl _) z7
      have hd7 := hd6.to hB7 (Nat.le_refl _) z7
      clear hI6 hd6 hB7 C6
      go_wp2_with fail
      rw [Ht.out]
      refine (IsApart_any A1 n c1 zs t w7 hI7 (by omega)).mono ?_
      rw [HLs.out]
      rintro e w8 ⟨rfl, hB8⟩
      have z8 := hB8.size
      have C8 := C7.trans (hB8.mono C7.size)
      have hI8 := hI7.to hB8 (Nat.le_refl _) z8
      have hd8 := hd7.to hB8 (Nat.le_refl _) z8
      clear hI7 hd7 hB8 C7
      go_wp2_with fail
      go_ret
      exact ⟨rfl, C8⟩
  · go_enter Try.func8, Try.ntmps8
    go_wp2
    go_ret
    exact ⟨rfl, Below.refl _ _⟩
end Go.Proofs.Ytgeicciieagbgaa

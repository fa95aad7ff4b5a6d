/- IsChain's own law: a chain is no longer than the longest one, is one turned round, and without its least item, and is apart just if it has one item at most. -/
import Derived.Test.YtgeicciieagbgaaDrIsChain
import Derived.Test.YtgeicciieagbgaaSetM
import Derived.Test.YtgeicciieagbgaaSize
import Derived.Test.YtgeicciieagbgaaChIs
import Derived.Test.YtgeicciieagbgaaDual
import Derived.Test.YtgeicciieagbgaaLongI
namespace Go.Proofs.Ytgeicciieagbgaa
open Go.RowKit Go.Shelf

set_option maxRecDepth 100000 in
set_option maxHeartbeats 8000000 in
theorem fnIsChain_walk (A : Option Addr) (m c : Nat) (bs : List Int) (w : World) (h : Byts w w.heap.size A m bs) (hcap : m ≤ c) :
    Calls Try.prog 7 #[.slice A m c] w fun e w' => e = .returned (.bool true) ∧ Below w.heap.size w w' := by
  by_cases hs : m ≤ 1048576
  · go_enter Try.func7, Try.ntmps7
    go_wp2_with fail
    refine (drawIsChain_any A m c bs w h hcap (by omega)).mono ?_
    rintro e w1 ⟨A1, n, c1, zs, s, rfl, hn7, hI1, C1⟩
    have hlen := Lib.hid hI1.len
    cases hv : isChainR zs s
    · have HL := Lib.hid hv
      clear hv
      go_wp2_with fail
      refine (IsChain_any A1 n c1 zs s w1 hI1 (by omega)).mono ?_
      rw [HL.out]
      rintro e w2 ⟨rfl, hB2⟩
      have z2 := hB2.size
      have C2 := C1.trans (hB2.mono C1.size)
      have hI2 := hI1.to hB2 (Nat.le_refl _) z2
      clear hI1 hB2 C1
      go_wp2_with fail
      refine (specIsChainF_any A1 n c1 zs s w2 hI2 (by omega)).mono ?_
      rw [HL.out]
      rintro e w3 ⟨rfl, hB3⟩
      have z3 := hB3.size
      have C3 := C2.trans (hB3.mono C2.size)
      have hI3 := hI2.to hB3 (Nat.le_refl _) z3
      clear hI2 hB3 C2
      go_wp2_with fail
      refine (specIsChainF_any A1 n c1 zs s w3 hI3 (by omega)).mono ?_
      rw [HL.out]
      rintro e w4 ⟨rfl, hB4⟩
      have z4 := hB4.size
      have C4 := C3.trans (hB4.mono C3.size)
      have hI4 := hI3.to hB4 (Nat.le_refl _) z4
      clear hI3 hB4 C3
      go_wp2_with fail
      go_ret
      exact ⟨rfl, C4⟩
    · have HL := Lib.hid hv
      obtain ⟨hvo, ⟨hs0, hs1⟩, hch⟩ := isChain_parts hv
      clear hv
      have hp64 := powI_le6 (n := (zs.length : Int)) (by have := hvo.1; omega)
      have hp0 := popI_bd (s := s) hs0 (by omega)
      have HD := Lib.hid (show dualR zs = du zs by unfold dualR; rw [vo_true hvo]; rfl)
      have HDN := Lib.hid (du_len zs)
      have hle := chain_le hvo hs0 hs1 hch
      have HLo := Lib.hid (show longR zs = longI zs by unfold longR; rw [vo_true hvo]; rfl)
      have HDC := Lib.hid (show isChainR (du zs) s = true by rw [du_isChain hvo hs0 hs1]; exact hch)
      have HA := Lib.hid (show isApartR zs s = decide (popI s ≤ 1) by rw [isApart_is hvo hs0 hs1]; exact chain_apart hvo hs0 hs1 hch)
      obtain ⟨t, ht, ht0, ht1, hts⟩ := less_one hs0 hs1 hvo.1
      have HLs := Lib.hid (show isChainR zs t = true by rw [isChain_is hvo ht0 ht1]; exact chB_sub (by omega) (by omega) hts hch)
      have Ht := Lib.hid ht
      have hs64 : s < 64 := by omega
      clear ht hts hch ht0 ht1 hs1
      go_wp2_with fail
      refine (IsChain_any A1 n c1 zs s w1 hI1 (by omega)).mono ?_
      rw [HL.out]
      rintro e w2 ⟨rfl, hB2⟩
      have z2 := hB2.size
      have C2 := C1.trans (hB2.mono C1.size)
      have hI2 := hI1.to hB2 (Nat.le_refl _) z2
      clear hI1 hB2 C1
      go_wp2_with fail
      refine (specIsChainF_any A1 n c1 zs s w2 hI2 (by omega)).mono ?_
      rw [HL.out]
      rintro e w3 ⟨rfl, hB3⟩
      have z3 := hB3.size
      have C3 := C2.trans (hB3.mono C2.size)
      have hI3 := hI2.to hB3 (Nat.le_refl _) z3
      clear hI2 hB3 C2
      go_wp2_with fail
      refine (lsize_any s _ hs0 hs64).mono ?_
      rintro e wq ⟨rfl, rfl⟩
      go_wp2_with fail
      refine (LongestChain_any A1 n c1 zs w3 hI3 (by omega)).mono ?_
      rw [HLo.out]
      rintro e w4 ⟨rfl, hB4⟩
      have z4 := hB4.size
      have C4 := C3.trans (hB4.mono C3.size)
      have hI4 := hI3.to hB4 (Nat.le_refl _) z4
      clear hI3 hB4 C3
      go_wp2_with fail
      refine (DualOf_any A1 n c1 zs w4 hI4 (by omega)).mono ?_
      rintro e w5 ⟨A5, m5, c5, rfl, r5, hB5⟩
      have z5 := hB5.size
      have C5 := C4.trans (hB5.mono C4.size)
      have hI5 := hI4.to hB5 (Nat.le_refl _) z5
      have hd5 := r5.ints (B := w5.heap.size) (Nat.le_refl _)
      have e5 := r5.len
      clear hI4 hB5 C4 r5
      rw [HD.out] at hd5 e5
      rw [HDN.out, hlen.out] at e5
      subst e5
      go_wp2_with fail
      refine (IsChain_any A5 _ c5 (du zs) s w5 hd5 (by omega)).mono ?_
      rw [HDC.out]
      rintro e w6 ⟨rfl, hB6⟩
      have z6 := hB6.size
      have C6 := C5.trans (hB6.mono C5.size)
      have hI6 := hI5.to hB6 (Nat.le_refl _) z6
      have hd6 := hd5.to hB6 (Nat.le_refl _) z6
      clear hI5 hd5 hB6 C5
      go_wp2_with fail
      rw [Ht.out]
      refine (IsChain_any A1 n c1 zs t w6 hI6 (by omega)).mono ?_
      rw [HLs.out]
      rintro e w7 ⟨rfl, hB7⟩
      have z7 := hB7.size
      have C7 := C6.trans (hB7.mono C6.size)
      have hI7 := hI6.to hB7 (Nat.le_refl _) z7
      have hd7 := hd6.to hB7 (Nat.le_refl _) z7
      clear hI6 hd6 hB7 C6
      go_wp2_with fail
      refine (IsApart_any A1 n c1 zs s w7 hI7 (by omega)).mono ?_
      rw [HA.out]
      rintro e w8 ⟨rfl, hB8⟩
      have z8 := hB8.size
      have C8 := C7.trans (hB8.mono C7.size)
      have hI8 := hI7.to hB8 (Nat.le_refl _) z8
      have hd8 := hd7.to hB8 (Nat.le_refl _) z8
      clear hI7 hd7 hB8 C7
      go_wp2_with fail
      refine (lsize_any s _ hs0 hs64).mono ?_
      rintro e wq ⟨rfl, rfl⟩
      go_wp2_with fail
      go_ret
      exact ⟨rfl, C8⟩
  · go_enter Try.func7, Try.ntmps7
    go_wp2
    go_ret
    exact ⟨rfl, Below.refl _ _⟩
end Go.Proofs.Ytgeicciieagbgaa

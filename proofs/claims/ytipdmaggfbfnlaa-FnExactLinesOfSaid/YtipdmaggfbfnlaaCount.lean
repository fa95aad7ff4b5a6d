/- CountPairs: how many items sets have, in the model and in the program. -/
import Derived.Test.YtipdmaggfbfnlaaHelp
import Derived.Test.YtipdmaggfbfnlaaValid
set_option linter.unusedVariables false
set_option linter.unusedSimpArgs false
namespace Go.Proofs.Ytipdmaggfbfnlaa
open Go.RowKit

def popN : Nat → Int → Int
  | 0, _ => 0
  | k + 1, s => s % 2 + popN k (s / 2)
/-- How many items a set of at most six has. -/
def popI (s : Int) : Int := popN 6 s
def onesI (s : Int) : Int :=
  let a := IntKind.u64.wrap (bits .and .u64 (s / 2) 6148914691236517205 + bits .and .u64 s 6148914691236517205)
  let b := IntKind.u64.wrap (bits .and .u64 (a / 4) 3689348814741910323 + bits .and .u64 a 3689348814741910323)
  let c := bits .and .u64 (IntKind.u64.wrap (b / 16 + b)) 1085102592571150095
  let d := IntKind.u64.wrap (c + c / 256)
  let e := IntKind.u64.wrap (d + d / 65536)
  let f := IntKind.u64.wrap (e + e / 4294967296)
  bits .and .i64 (wrap64 f) 127
theorem onesI_fin : ∀ k : Fin 64, onesI (k.val : Int) = popI (k.val : Int) := by decide +kernel
theorem onesI_eq {s : Int} (h0 : 0 ≤ s) (h1 : s < 64) : onesI s = popI s := by
  obtain ⟨k, rfl⟩ := Int.eq_ofNat_of_zero_le h0
  exact onesI_fin ⟨k, by omega⟩
theorem popI_fin : ∀ k : Fin 64, 0 ≤ popI (k.val : Int) ∧ popI (k.val : Int) ≤ 6 := by decide +kernel
theorem popI_bd {s : Int} (h0 : 0 ≤ s) (h1 : s < 64) : 0 ≤ popI s ∧ popI s ≤ 6 := by
  obtain ⟨k, rfl⟩ := Int.eq_ofNat_of_zero_le h0
  exact popI_fin ⟨k, by omega⟩
theorem popN_zero (k : Nat) : popN k 0 = 0 := by induction k <;> simp_all [popN]

set_option maxHeartbeats 400000 in
theorem ones64_any (s : Int) (w : World) (h0 : 0 ≤ s) (h1 : s < 64) :
    Calls Try.prog 152 #[.int .u64 s] w fun e w' => e = .returned (.int .i64 (popI s)) ∧ w = w' := by
  have He := Lib.hid (onesI_eq h0 h1)
  go_enter Try.func152, Try.ntmps152
  go_wp2
  go_ret
  refine ⟨ret_int ?_, rfl⟩
  rw [← He.out]
  unfold onesI
  with_reducible rfl

theorem ones_any (s : Int) (w : World) (h0 : 0 ≤ s) (h1 : s < 64) :
    Calls Try.prog 130 #[.int .u64 s] w fun e w' => e = .returned (.int .i64 (popI s)) ∧ w = w' := by
  go_enter Try.func130, Try.ntmps130
  go_wp2_with (go_at_call 152; refine (ones64_any _ _ h0 h1).mono ?_; rintro e w' ⟨rfl, rfl⟩)
  go_ret
  exact ⟨rfl, rfl⟩

theorem size_any (s : Int) (w : World) (h0 : 0 ≤ s) (h1 : s < 64) :
    Calls Try.prog 94 #[.int .i64 s] w fun e w' => e = .returned (.int .i64 (popI s)) ∧ w = w' := by
  have hw : IntKind.u64.wrap s = s := by rw [IntKind.wrap_u64]; omega
  go_enter Try.func94, Try.ntmps94
  go_wp2_with (go_at_call 130; refine (ones_any _ _ h0 h1).mono ?_; rintro e w' ⟨rfl, rfl⟩)
  go_ret
  exact ⟨rfl, rfl⟩

/-- How many items the first k sets have together. -/
def popTo (zs : List Int) : Nat → Int
  | 0 => 0
  | k + 1 => popTo zs k + popI (zs[k]?.getD 0)
theorem popTo_bd {zs : List Int} (h : Sets zs) : ∀ k : Nat, k ≤ zs.length → 0 ≤ popTo zs k ∧ popTo zs k ≤ 6 * k
  | 0, _ => by simp [popTo]
  | k + 1, hk => by
    have h1 := popTo_bd h k (by omega)
    have h2 := h.bd k (by omega)
    have h3 := popI_bd h2.1 h2.2
    unfold popTo
    omega
def countR (zs : List Int) : Int := if vo zs then popTo zs zs.length else -1

set_option maxHeartbeats 1000000 in
theorem CountPairs_any (A : Option Addr) (n c : Nat) (zs : List Int) (w : World) (h : Ints w w.heap.size A n zs) (hbig : n ≤ 1152921504606846976) :
    Calls Try.prog 45 #[.slice A n c] w fun e w' => e = .returned (.int .i64 (countR zs)) ∧ Below w.heap.size w w' := by
  have hlen := Lib.hid h.len
  cases hv : vo zs
  · have Ht := Lib.hid (show countR zs = -1 by unfold countR; rw [hv]; rfl)
    have Hv := Lib.hid hv
    clear hv
    go_enter Try.func45, Try.ntmps45
    go_wp2_with fail
    refine (readOrder_any _ _ _ zs _ h hbig).mono ?_
    rintro e w' ⟨hB, (⟨hv, b, rfl, _, _⟩ | ⟨_, rfl⟩)⟩
    · rw [Hv.out] at hv; cases hv
    · go_wp2_with fail
      go_ret
      exact ⟨ret_int Ht.out.symm, hB⟩
  · have hvo : VoP zs := by simpa [vo] using hv
    have hn6 : n ≤ 6 := by have := hvo.1; rw [hlen.out] at this; exact this
    have Ht := Lib.hid (show countR zs = popTo zs n by unfold countR; rw [hv, hlen.out]; rfl)
    have Hv := Lib.hid hv
    clear hv
    go_enter Try.func45, Try.ntmps45
    go_wp2_with fail
    refine (readOrder_any _ _ _ zs _ h hbig).mono ?_
    rintro e w' ⟨hB, (⟨_, b, rfl, hb, hAr⟩ | ⟨hv, _⟩)⟩
    · go_wp2_with fail
      go_loop [5, 17] (fun t i => ∃ k : Nat, k ≤ n ∧ i = .int .i64 k ∧ t = .int .i64 (popTo zs k)) (fun _ i => n - (intOf i).toNat)
      case atStart => exact ⟨0, by omega, rfl, rfl⟩
      case round =>
        obtain ⟨k, hk, rfl, rfl⟩ := hrel
        have hb := popTo_bd hvo.sets k (by rw [hlen.out]; exact hk)
        by_cases hlt : k < n
        · have hck := hAr.cell (k := k) (by rw [hlen.out]; exact hlt)
          have hz := hvo.bd k (by rw [hlen.out]; exact hlt)
          have hpb := popI_bd hz.1 hz.2
          go_wp2_with (go_at_call 94; refine (size_any _ _ hz.1 hz.2).mono ?_; rintro e w' ⟨rfl, rfl⟩)
          go_round
          case rel => exact ⟨k + 1, by omega, by go_num, rfl⟩
          case measure => simp [intOf]; omega
        · obtain rfl : k = n := by omega
          go_wp2
          go_ret
          exact ⟨ret_int Ht.out.symm, hB⟩
    · rw [Hv.out] at hv; cases hv
end Go.Proofs.Ytipdmaggfbfnlaa

/- A row is found among rows, where it is one of them. -/
import Derived.Test.YtgeicciieagbgaaRowsL
namespace Go.Proofs.Ytgeicciieagbgaa
open Go.RowKit Go.Shelf

set_option maxHeartbeats 1000000 in
theorem hasRow_any (A A' : Option Addr) (n c m c' B B' : Nat) (rs : List (List Int)) (row : List Int) (w : World) (hA : IntsS w B A n rs) (hA' : Ints w B' A' m row) (hbig : n ≤ 1048576) (hbig' : m ≤ 1048576)
    (hx : ∀ r ∈ rs, r.length ≤ 1048576) (hin : row ∈ rs) :
    Calls Try.prog 27 #[.slice A n c, .slice A' m c'] w fun e w' => e = .returned (.bool true) ∧ ∃ q, w' = w.drewN q := by
  have hlen := Lib.hid hA.len
  have hlen' := Lib.hid hA'.len
  go_enter Try.func27, Try.ntmps27
  go_wp2
  go_loopw [5] (fun i wr => ∃ k q : Nat, k ≤ n ∧ i = .int .i64 k ∧ (∀ a, a < k → rs[a]?.getD [] ≠ row) ∧ wr = w.drewN q) (fun i _ => n - (intOf i).toNat)
  case atStart => exact ⟨0, 0, by omega, rfl, fun a ha => by omega, rfl⟩
  case round =>
    obtain ⟨k, q, hk, rfl, hok, rfl⟩ := hrel
    have Hok := Lib.hid hok
    clear hok
    by_cases hlt : k < n
    · obtain ⟨b, off, rfl, _, hc⟩ := hA.at_ hlt
      obtain ⟨R1, c1, hck, hR1⟩ := hc k hlt
      have hx1 : (rs[k]?.getD []).length ≤ 1048576 := by
        have hkl : k < rs.length := by rw [hlen.out]; exact hlt
        rw [List.getElem?_eq_getElem hkl]; exact hx _ (List.getElem_mem hkl)
      clear hc
      have hcall := equalInts_any R1 A' _ c1 m c' B B' _ row (w.drewN q) (hR1.drewN q) (hA'.drewN q) (by omega) (by omega)
      cases hne : decide (rs[k]?.getD [] = row)
      · have Hn := Lib.hid (of_decide_eq_false hne)
        rw [hne] at hcall
        clear hne
        go_wp2_with fail
        refine hcall.mono ?_
        rintro e w1 ⟨rfl, q1, rfl⟩
        go_wp2
        go_roundw
        case rel => exact ⟨k + 1, _, by omega, by go_num, all_snoc Hok.out Hn.out, by first | rfl | exact World.drewN_drewN ..⟩
        case measure => simp [intOf]; omega
      · rw [hne] at hcall
        clear hne
        go_wp2_with fail
        refine hcall.mono ?_
        rintro e w1 ⟨rfl, q1, rfl⟩
        go_wp2
        go_ret
        exact ⟨rfl, by first | exact ⟨_, rfl⟩ | exact ⟨_, World.drewN_drewN ..⟩⟩
    · exfalso
      obtain rfl : k = n := by omega
      obtain ⟨i, hi, e⟩ := List.getElem_of_mem hin
      have := Hok.out i (by rw [← hlen.out]; exact hi)
      rw [List.getElem?_eq_getElem hi] at this
      exact this e
end Go.Proofs.Ytgeicciieagbgaa

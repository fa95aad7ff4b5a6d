/- Zigzags: the model's. -/
import Derived.Test.YtghogabmkbadjabGxb
set_option linter.unusedVariables false
set_option linter.unusedSimpArgs false
namespace Go.Proofs.Ytghogabmkbadjab
open Go.RowKit

set_option maxRecDepth 100000 in
set_option maxHeartbeats 8000000 in
theorem specHasZigzagQ_any (A : Option Addr) (n c B : Nat) (zs : List Int) (w : World) (h : Ints w B A n zs) (hbig : n ≤ 1152921504606846976) :
    Calls Try.prog 14 #[.slice A n c] w fun e w' => e = .returned (.bool (zigR zs)) ∧ ∃ m, w' = w.drewN m := by
  have hlen := Lib.hid h.len
  cases hvv : vo zs
  · have Ht := Lib.hid (show zigR zs = false by unfold zigR; rw [hvv]; rfl)
    have Hv := Lib.hid hvv
    clear hvv
    go_enter Try.func14, Try.ntmps14
    go_wp2_with fail
    refine (validOrder_any _ _ _ _ zs _ h hbig).mono ?_
    rintro e w' ⟨rfl, m0, rfl⟩
    rw [Hv.out]
    go_wp2
    go_ret
    exact ⟨ret_bool Ht.out.symm, _, rfl⟩
  have hvo : VoP zs := by simpa [vo] using hvv
  have Hsh := Lib.hid (show zigR zs = zigB zs by unfold zigR; rw [hvv]; rfl)
  have Hv := Lib.hid hvv
  clear hvv
  have hv := hvo.sets
  have hn6 : n ≤ 6 := by have := hv.1; rw [hlen.out] at this; exact this
  have Hno := Lib.hid (fun (hh : ∀ a, a < n → ∀ b, b < n → ∀ c, c < n → ∀ d, d < n → tstZig zs a b c d = false) => (show zigB zs = false by unfold zigB; exact any4_none (by rw [hlen.out]; exact hh)))
  have Hye := Lib.hid (fun (a b c d : Nat) (ha : a < n) (hb : b < n) (hc : c < n) (hd : d < n) (hh : tstZig zs a b c d = true) => (show zigB zs = true by unfold zigB; exact any4_some (by rw [hlen.out]; exact ha) (by rw [hlen.out]; exact hb) (by rw [hlen.out]; exact hc) (by rw [hlen.out]; exact hd) hh))
  go_enter Try.func14, Try.ntmps14
  go_wp2_with fail
  refine (validOrder_any _ _ _ _ zs _ h hbig).mono ?_
  rintro e w' ⟨rfl, m0, rfl⟩
  rw [Hv.out]
  go_wp2
  go_loopw [4] (fun i wr => ∃ k q : Nat, k ≤ n ∧ i = .int .i64 k ∧ (∀ x, x < k → ∀ b, b < n → ∀ c, c < n → ∀ d, d < n → tstZig zs x b c d = false) ∧ wr = w.drewN q) (fun i _ => n - (intOf i).toNat)
  case atStart => exact ⟨0, m0, by omega, rfl, fun x hx => by omega, rfl⟩
  case round =>
    obtain ⟨ka, q0, hk0, rfl, hx0, rfl⟩ := hrel
    have Hx0 := Lib.hid hx0
    clear hx0
    by_cases hl0 : ka < n
    · go_wp2
      go_loopw [5] (fun i wr => ∃ k q : Nat, k ≤ n ∧ i = .int .i64 k ∧ (∀ x, x < k → ∀ c, c < n → ∀ d, d < n → tstZig zs ka x c d = false) ∧ wr = w.drewN q) (fun i _ => n - (intOf i).toNat)
      case atStart => exact ⟨0, q0, by omega, rfl, fun x hx => by omega, rfl⟩
      case round =>
        obtain ⟨kb, q1, hk1, rfl, hx1, rfl⟩ := hrel
        have Hx1 := Lib.hid hx1
        clear hx1
        by_cases hl1 : kb < n
        · go_wp2
          go_loopw [6] (fun i wr => ∃ k q : Nat, k ≤ n ∧ i = .int .i64 k ∧ (∀ x, x < k → ∀ d, d < n → tstZig zs ka kb x d = false) ∧ wr = w.drewN q) (fun i _ => n - (intOf i).toNat)
          case atStart => exact ⟨0, q1, by omega, rfl, fun x hx => by omega, rfl⟩
          case round =>
            obtain ⟨kc, q2, hk2, rfl, hx2, rfl⟩ := hrel
            have Hx2 := Lib.hid hx2
            clear hx2
            by_cases hl2 : kc < n
            · go_wp2
              go_loopw [7] (fun i wr => ∃ k q : Nat, k ≤ n ∧ i = .int .i64 k ∧ (∀ x, x < k → tstZig zs ka kb kc x = false) ∧ wr = w.drewN q) (fun i _ => n - (intOf i).toNat)
              case atStart => exact ⟨0, q2, by omega, rfl, fun x hx => by omega, rfl⟩
              case round =>
                obtain ⟨kd, q3, hk3, rfl, hx3, rfl⟩ := hrel
                have Hx3 := Lib.hid hx3
                clear hx3
                by_cases hl3 : kd < n
                · obtain ⟨bk, off, rfl, -, hcl⟩ := h.at_ hl0
                  have hca := hcl ka hl0
                  have hza := hv.bd ka (by rw [hlen.out]; exact hl0)
                  have hcc := hcl kc hl2
                  have hzc := hv.bd kc (by rw [hlen.out]; exact hl2)
                  clear hcl
                  have Ht := Lib.hid (show tstZig zs ka kb kc kd = (bitB (zs[ka]?.getD 0) kb && (bitB (zs[kc]?.getD 0) kb && (bitB (zs[kc]?.getD 0) kd && (!(ka == kc) && (!(kb == kd) && (!relB zs ka kc && (!relB zs kb kd && !relB zs ka kd))))))) from rfl)
                  generalize zs[ka]?.getD 0 = za at hca hza Ht
                  generalize zs[kc]?.getD 0 = zc at hcc hzc Ht
                  have Hr5 := Lib.hid (fun (v : Bool) (e : relB zs ka kc = v) (m : Nat) => (show Calls Try.prog 64 #[.slice (some ⟨bk, off, none⟩) n c, .int .i64 (ka : Int), .int .i64 (kc : Int)] (w.drewN m) fun e w'' => e = .returned (.bool v) ∧ w.drewN m = w'' from by rw [← e]; exact related_any _ n c B zs hv _ (h.drewN m) ka kc hl0 hl2))
                  have Hr6 := Lib.hid (fun (v : Bool) (e : relB zs kb kd = v) (m : Nat) => (show Calls Try.prog 64 #[.slice (some ⟨bk, off, none⟩) n c, .int .i64 (kb : Int), .int .i64 (kd : Int)] (w.drewN m) fun e w'' => e = .returned (.bool v) ∧ w.drewN m = w'' from by rw [← e]; exact related_any _ n c B zs hv _ (h.drewN m) kb kd hl1 hl3))
                  have Hr7 := Lib.hid (fun (v : Bool) (e : relB zs ka kd = v) (m : Nat) => (show Calls Try.prog 64 #[.slice (some ⟨bk, off, none⟩) n c, .int .i64 (ka : Int), .int .i64 (kd : Int)] (w.drewN m) fun e w'' => e = .returned (.bool v) ∧ w.drewN m = w'' from by rw [← e]; exact related_any _ n c B zs hv _ (h.drewN m) ka kd hl0 hl3))
                  cases e0 : bitB za kb
                  · have Hf := Lib.hid (Ht.out.trans (by first | (rw [e0]; done) | (rw [e0]; rfl)))
                    have hi0 := bit_one _ _ e0
                    go_wp2_with ((go_at_call 63; refine (bit_any _ _ _ (by omega) (by omega) (by omega) (by omega)).mono ?_; rintro e w' ⟨rfl, rfl⟩))
                    go_roundw
                    case rel => exact ⟨kd + 1, _, by omega, by go_num, all_snoc Hx3.out Hf.out, rfl⟩
                    case measure => simp [intOf]; omega
                  · have E0 := Lib.hid e0
                    have hi0 := bit_one _ _ e0
                    cases e1 : bitB zc kb
                    · have Hf := Lib.hid (Ht.out.trans (by first | (rw [e0, e1]; done) | (rw [e0, e1]; rfl)))
                      have hi1 := bit_one _ _ e1
                      go_wp2_with ((go_at_call 63; refine (bit_any _ _ _ (by omega) (by omega) (by omega) (by omega)).mono ?_; rintro e w' ⟨rfl, rfl⟩))
                      go_roundw
                      case rel => exact ⟨kd + 1, _, by omega, by go_num, all_snoc Hx3.out Hf.out, rfl⟩
                      case measure => simp [intOf]; omega
                    · have E1 := Lib.hid e1
                      have hi1 := bit_one _ _ e1
                      cases e2 : bitB zc kd
                      · have Hf := Lib.hid (Ht.out.trans (by first | (rw [e0, e1, e2]; done) | (rw [e0, e1, e2]; rfl)))
                        have hi2 := bit_one _ _ e2
                        go_wp2_with ((go_at_call 63; refine (bit_any _ _ _ (by omega) (by omega) (by omega) (by omega)).mono ?_; rintro e w' ⟨rfl, rfl⟩))
                        go_roundw
                        case rel => exact ⟨kd + 1, _, by omega, by go_num, all_snoc Hx3.out Hf.out, rfl⟩
                        case measure => simp [intOf]; omega
                      · have E2 := Lib.hid e2
                        have hi2 := bit_one _ _ e2
                        cases e3 : (ka == kc)
                        · have E3 := Lib.hid e3
                          have hi3 : ((ka : Int) != (kc : Int)) = true := by rw [ne_cast, e3]; rfl
                          clear e3
                          cases e4 : (kb == kd)
                          · have E4 := Lib.hid e4
                            have hi4 : ((kb : Int) != (kd : Int)) = true := by rw [ne_cast, e4]; rfl
                            clear e4
                            cases e5 : relB zs ka kc
                            · have E5 := Lib.hid e5
                              have hr5 : ∀ m, Calls Try.prog 64 #[.slice (some ⟨bk, off, none⟩) n c, .int .i64 (ka : Int), .int .i64 (kc : Int)] (w.drewN m) fun e w'' => e = .returned (.bool false) ∧ w.drewN m = w'' := fun m => Hr5.out _ e5 m
                              clear e5
                              cases e6 : relB zs kb kd
                              · have E6 := Lib.hid e6
                                have hr6 : ∀ m, Calls Try.prog 64 #[.slice (some ⟨bk, off, none⟩) n c, .int .i64 (kb : Int), .int .i64 (kd : Int)] (w.drewN m) fun e w'' => e = .returned (.bool false) ∧ w.drewN m = w'' := fun m => Hr6.out _ e6 m
                                clear e6
                                cases e7 : relB zs ka kd
                                · have E7 := Lib.hid e7
                                  have hr7 : ∀ m, Calls Try.prog 64 #[.slice (some ⟨bk, off, none⟩) n c, .int .i64 (ka : Int), .int .i64 (kd : Int)] (w.drewN m) fun e w'' => e = .returned (.bool false) ∧ w.drewN m = w'' := fun m => Hr7.out _ e7 m
                                  clear e7
                                  have Hf := Lib.hid (Hye.out ka kb kc kd hl0 hl1 hl2 hl3 (Ht.out.trans (by first | (rw [e0, e1, e2, E3.out, E4.out, E5.out, E6.out, E7.out]; done) | (rw [e0, e1, e2, E3.out, E4.out, E5.out, E6.out, E7.out]; rfl))))
                                  go_wp2_with (first | (go_at_call 63; refine (bit_any _ _ _ (by omega) (by omega) (by omega) (by omega)).mono ?_; rintro e w' ⟨rfl, rfl⟩) | (go_at_call 64; with_reducible refine (hr5 _).mono ?_; rintro e w' ⟨rfl, rfl⟩) | (go_at_call 64; with_reducible refine (hr6 _).mono ?_; rintro e w' ⟨rfl, rfl⟩) | (go_at_call 64; with_reducible refine (hr7 _).mono ?_; rintro e w' ⟨rfl, rfl⟩))
                                  go_ret
                                  exact ⟨ret_bool (Hsh.out.trans Hf.out).symm, _, rfl⟩
                                · have Hf := Lib.hid (Ht.out.trans (by first | (rw [e0, e1, e2, E3.out, E4.out, E5.out, E6.out, e7]; done) | (rw [e0, e1, e2, E3.out, E4.out, E5.out, E6.out, e7]; rfl)))
                                  have hr7 : ∀ m, Calls Try.prog 64 #[.slice (some ⟨bk, off, none⟩) n c, .int .i64 (ka : Int), .int .i64 (kd : Int)] (w.drewN m) fun e w'' => e = .returned (.bool true) ∧ w.drewN m = w'' := fun m => Hr7.out _ e7 m
                                  clear e7
                                  go_wp2_with (first | (go_at_call 63; refine (bit_any _ _ _ (by omega) (by omega) (by omega) (by omega)).mono ?_; rintro e w' ⟨rfl, rfl⟩) | (go_at_call 64; with_reducible refine (hr5 _).mono ?_; rintro e w' ⟨rfl, rfl⟩) | (go_at_call 64; with_reducible refine (hr6 _).mono ?_; rintro e w' ⟨rfl, rfl⟩) | (go_at_call 64; with_reducible refine (hr7 _).mono ?_; rintro e w' ⟨rfl, rfl⟩))
                                  go_roundw
                                  case rel => exact ⟨kd + 1, _, by omega, by go_num, all_snoc Hx3.out Hf.out, rfl⟩
                                  case measure => simp [intOf]; omega
                              · have Hf := Lib.hid (Ht.out.trans (by first | (rw [e0, e1, e2, E3.out, E4.out, E5.out, e6]; done) | (rw [e0, e1, e2, E3.out, E4.out, E5.out, e6]; rfl)))
                                have hr6 : ∀ m, Calls Try.prog 64 #[.slice (some ⟨bk, off, none⟩) n c, .int .i64 (kb : Int), .int .i64 (kd : Int)] (w.drewN m) fun e w'' => e = .returned (.bool true) ∧ w.drewN m = w'' := fun m => Hr6.out _ e6 m
                                clear e6
                                go_wp2_with (first | (go_at_call 63; refine (bit_any _ _ _ (by omega) (by omega) (by omega) (by omega)).mono ?_; rintro e w' ⟨rfl, rfl⟩) | (go_at_call 64; with_reducible refine (hr5 _).mono ?_; rintro e w' ⟨rfl, rfl⟩) | (go_at_call 64; with_reducible refine (hr6 _).mono ?_; rintro e w' ⟨rfl, rfl⟩))
                                go_roundw
                                case rel => exact ⟨kd + 1, _, by omega, by go_num, all_snoc Hx3.out Hf.out, rfl⟩
                                case measure => simp [intOf]; omega
                            · have Hf := Lib.hid (Ht.out.trans (by first | (rw [e0, e1, e2, E3.out, E4.out, e5]; done) | (rw [e0, e1, e2, E3.out, E4.out, e5]; rfl)))
                              have hr5 : ∀ m, Calls Try.prog 64 #[.slice (some ⟨bk, off, none⟩) n c, .int .i64 (ka : Int), .int .i64 (kc : Int)] (w.drewN m) fun e w'' => e = .returned (.bool true) ∧ w.drewN m = w'' := fun m => Hr5.out _ e5 m
                              clear e5
                              go_wp2_with (first | (go_at_call 63; refine (bit_any _ _ _ (by omega) (by omega) (by omega) (by omega)).mono ?_; rintro e w' ⟨rfl, rfl⟩) | (go_at_call 64; with_reducible refine (hr5 _).mono ?_; rintro e w' ⟨rfl, rfl⟩))
                              go_roundw
                              case rel => exact ⟨kd + 1, _, by omega, by go_num, all_snoc Hx3.out Hf.out, rfl⟩
                              case measure => simp [intOf]; omega
                          · have Hf := Lib.hid (Ht.out.trans (by first | (rw [e0, e1, e2, E3.out, e4]; done) | (rw [e0, e1, e2, E3.out, e4]; rfl)))
                            have hi4 : ((kb : Int) != (kd : Int)) = false := by rw [ne_cast, e4]; rfl
                            clear e4
                            go_wp2_with ((go_at_call 63; refine (bit_any _ _ _ (by omega) (by omega) (by omega) (by omega)).mono ?_; rintro e w' ⟨rfl, rfl⟩))
                            go_roundw
                            case rel => exact ⟨kd + 1, _, by omega, by go_num, all_snoc Hx3.out Hf.out, rfl⟩
                            case measure => simp [intOf]; omega
                        · have Hf := Lib.hid (Ht.out.trans (by first | (rw [e0, e1, e2, e3]; done) | (rw [e0, e1, e2, e3]; rfl)))
                          have hi3 : ((ka : Int) != (kc : Int)) = false := by rw [ne_cast, e3]; rfl
                          clear e3
                          go_wp2_with ((go_at_call 63; refine (bit_any _ _ _ (by omega) (by omega) (by omega) (by omega)).mono ?_; rintro e w' ⟨rfl, rfl⟩))
                          go_roundw
                          case rel => exact ⟨kd + 1, _, by omega, by go_num, all_snoc Hx3.out Hf.out, rfl⟩
                          case measure => simp [intOf]; omega
                · obtain rfl : kd = n := by omega
                  go_wp2
                  go_roundw
                  case rel => exact ⟨kc + 1, _, by omega, by go_num, all_snoc Hx2.out Hx3.out, rfl⟩
                  case measure => simp [intOf]; omega
            · obtain rfl : kc = n := by omega
              go_wp2
              go_roundw
              case rel => exact ⟨kb + 1, _, by omega, by go_num, all_snoc Hx1.out Hx2.out, rfl⟩
              case measure => simp [intOf]; omega
        · obtain rfl : kb = n := by omega
          go_wp2
          go_roundw
          case rel => exact ⟨ka + 1, _, by omega, by go_num, all_snoc Hx0.out Hx1.out, rfl⟩
          case measure => simp [intOf]; omega
    · obtain rfl : ka = n := by omega
      have Hf := Lib.hid (Hno.out Hx0.out)
      go_wp2
      go_ret
      exact ⟨ret_bool (Hsh.out.trans Hf.out).symm, _, rfl⟩

theorem specHasZigzagF_any (A : Option Addr) (n c : Nat) (zs : List Int) (w : World) (h : Ints w w.heap.size A n zs) (hbig : n ≤ 1152921504606846976) :
    Calls Try.prog 14 #[.slice A n c] w fun e w' => e = .returned (.bool (zigR zs)) ∧ Below w.heap.size w w' :=
  (specHasZigzagQ_any A n c _ zs w h hbig).mono fun _ _ h => by
    obtain ⟨h1, m, rfl⟩ := h
    exact ⟨h1, below_drewN (Below.refl _ _) _⟩
end Go.Proofs.Ytghogabmkbadjab

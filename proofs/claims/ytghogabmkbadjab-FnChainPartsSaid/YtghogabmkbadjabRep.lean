/- slices.Repeat of one number: as many of it. -/
import Derived.Test.YtghogabmkbadjabFindI
import Derived.Test.YtghogabmkbadjabGb
import Derived.Laws.CopyOwn
import Derived.Deep.Cut
set_option linter.unusedVariables false
set_option linter.unusedSimpArgs false
namespace Go.Proofs.Ytghogabmkbadjab
open Go.RowKit Go.Shelf
attribute [local go_sem] Oper.semAt_some
attribute [local go_sem, local simp] wide_fn

theorem mul64_any (n : Nat) (hn : n ≤ 6) (w : World) : Calls Try.prog 180 #[.int .u64 1, .int .u64 (n : Int)] w fun e w' => e = .returned (.tuple #[.int .u64 0, .int .u64 (n : Int)]) ∧ w = w' := by
  have : n = 0 ∨ n = 1 ∨ n = 2 ∨ n = 3 ∨ n = 4 ∨ n = 5 ∨ n = 6 := by omega
  rcases this with rfl | rfl | rfl | rfl | rfl | rfl | rfl
  all_goals
    go_enter Try.func180, Try.ntmps180
    go_wp2
    go_ret2
    exact ⟨by kernel_rfl, rfl⟩
theorem mul_any (n : Nat) (hn : n ≤ 6) (w : World) : Calls Try.prog 152 #[.int .u64 1, .int .u64 (n : Int)] w fun e w' => e = .returned (.tuple #[.int .u64 0, .int .u64 (n : Int)]) ∧ w = w' := by
  go_enter Try.func152, Try.ntmps152
  go_wp2_with (go_at_call 180; refine (mul64_any n hn _).mono ?_; rintro e w' ⟨rfl, rfl⟩)
  go_ret2
  exact ⟨rfl, rfl⟩

/-- Filled up to k. -/
def fillTo (n k : Nat) : List Int := List.replicate k (-1) ++ List.replicate (n - k) 0
theorem fill_len (n k : Nat) (h : k ≤ n) : (fillTo n k).length = n := by simp [fillTo]; omega
theorem fill_splice {n k c : Nat} (h : k + c ≤ n) : splice ((fillTo n k).map (Value.int .i64)) k ((List.replicate c (-1)).map (Value.int .i64)) = (fillTo n (k + c)).map (Value.int .i64) := by
  unfold splice fillTo
  simp only [List.map_append, List.map_replicate, List.length_replicate, List.length_map]
  rw [List.take_append_of_le_length (by simp), List.take_of_length_le (by simp), List.drop_append]
  simp only [List.length_replicate, List.drop_replicate]
  rw [show k - (k + c) = 0 by omega, List.replicate_zero, List.nil_append, ← List.append_assoc, List.replicate_append_replicate]
  congr 2
  omega
theorem fill_get {n k j : Nat} (hj : j < k) (hk : k ≤ n) : (fillTo n k)[j]?.getD 0 = -1 := by
  unfold fillTo
  rw [List.getElem?_append_left (by simpa using hj)]
  simp [hj]
theorem fill_all (n : Nat) : fillTo n n = List.replicate n (-1) := by simp [fillTo]

set_option maxRecDepth 100000 in
set_option maxHeartbeats 4000000 in
theorem repeat_any (bx cx n : Nat) (hn : n ≤ 6) (w : World) (hx : w.cell? ⟨bx, 0, none⟩ = some (.int .i64 (-1))) (hbx : bx < w.heap.size) :
    Calls Try.prog 163 #[.slice (some ⟨bx, 0, none⟩) 1 cx, .int .i64 (n : Int)] w fun e w' => e = .returned (.slice (some ⟨w.heap.size, 0, none⟩) n n) ∧ Arr w' w.heap.size 3 (List.replicate n (-1)) ∧ Below w.heap.size w w' := by
  have hmk := run_make_row' (P := Try.prog) 22 3 (.int .i64 0) 8 Try.underlying22 infoInt rfl .i64 .i64 n (by omega) (by omega)
  have hw1 : IntKind.u64.wrap (n : Int) = (n : Int) := by rw [IntKind.wrap_u64]; omega
  have hw2 : IntKind.i64.wrap (n : Int) = (n : Int) := by rw [IntKind.wrap_i64]; omega
  have hsz : (Try.prog.info? 3).map (·.size) = some 1 := by kernel_rfl
  have hB0 : Below w.heap.size w (w.alloc (.cells (madeCells #[Value.int .i64 0] n) 3)) := (Below.refl _ _).alloc (Nat.le_refl _) _
  have aD : Arr (w.alloc (.cells (madeCells #[Value.int .i64 0] n) 3)) w.heap.size 3 (fillTo n 0) := by
    have := Arr.new w 3 n
    unfold fillTo
    simpa using this
  have hcx : (w.alloc (.cells (madeCells #[Value.int .i64 0] n) 3)).cell? ⟨bx, 0, none⟩ = some (.int .i64 (-1)) := by
    rw [World.cell?_alloc_lt _ _ ⟨bx, 0, none⟩ hbx]; exact hx
  obtain ⟨C0, hC0⟩ : ∃ C0, min 1 n = C0 := ⟨_, rfl⟩
  have hfl := fill_len n 0 (by omega)
  have hsp := fill_splice (n := n) (k := 0) (c := C0) (by omega)
  have hcl : ((List.replicate C0 (-1 : Int)).map (Value.int .i64)).length = C0 := by simp
  have hcm : ∀ (j : Nat) (v : Value), ((List.replicate C0 (-1 : Int)).map (Value.int .i64))[j]? = some v → v = .int .i64 (-1) ∧ j < C0 := fun j v h => by
    simp only [List.map_replicate, List.getElem?_replicate] at h
    split at h
    · exact ⟨(Option.some.inj h).symm, by assumption⟩
    · cases h
  have h1m : ∀ v ∈ (List.replicate C0 (-1 : Int)).map (Value.int .i64), v.oneCell' = true := fun v hv => by
    simp only [List.map_replicate] at hv
    rw [List.eq_of_mem_replicate hv]
    rfl
  rw [Nat.zero_add] at hsp
  unfold Arr at aD
  obtain ⟨cs, hcs⟩ : ∃ cs, (List.replicate C0 (-1 : Int)).map (Value.int .i64) = cs := ⟨_, rfl⟩
  obtain ⟨cur, hcur⟩ : ∃ cur, (fillTo n 0).map (Value.int .i64) = cur := ⟨_, rfl⟩
  have hcul : cur.length = n := by rw [← hcur, List.length_map, hfl]
  rw [hcs] at hsp hcl hcm h1m
  rw [hcur] at hsp aD
  have Hsp := Lib.hid hsp
  clear hcs hcur hsp hfl
  have h9 : decide (9223372036854775807 < (n : Int)) = false := decide_eq_false (by omega)
  have h0 : decide ((n : Int) < 0) = false := decide_eq_false (by omega)
  have hn0 : cs.length = Nat.min 1 n := by rw [hcl]; exact hC0.symm
  have hq0 : ∀ (j : Nat) (v : Value), cs[j]? = some v → (w.alloc (.cells (madeCells #[Value.int .i64 0] n) 3)).cell? ((⟨bx, 0, none⟩ : Addr).add j) = some v := fun j v hj => by
    obtain ⟨rfl, hjc⟩ := hcm j v hj
    obtain rfl : j = 0 := by omega
    simpa [Addr.add] using hcx
  have hfit0 : 0 + cs.length ≤ cur.length := by rw [hcl, hcul]; omega
  have HN0 := Lib.hid hn0
  have HP0 := Lib.hid hq0
  have HF0 := Lib.hid hfit0
  have H1M := Lib.hid h1m
  have HAD := Lib.hid aD
  have HCL := Lib.hid hcl
  have HC0 := Lib.hid hC0
  clear hn0 hq0 hfit0 h1m aD hcl hcm hcx hC0 hcul
  go_enter Try.func163, Try.ntmps163
  go_wp2_with (first
    | (go_at_call 152; refine (mul_any n hn _).mono ?_; rintro e w' ⟨rfl, rfl⟩)
    | (refine wpList_copy_splice (o := ⟨some 33, _, _, _, _, _⟩) rfl (.tmp 31) (.tmp 32) 22 22 rfl 3 Try.underlying22 hsz (some ⟨w.heap.size, 0, none⟩) (some ⟨bx, 0, none⟩) n n 1 cx rfl rfl w.heap.size 0 cur 3 HAD.out cs HN0.out (fun _ => ⟨rfl, _, rfl, HP0.out⟩) HF0.out H1M.out w.heap.size w hB0 (Nat.le_refl _) ?_; intro w2 HG hb2; rw [HCL.out]))
  have HG2 := Lib.hid (show Arr w2 w.heap.size 3 (fillTo n C0) by unfold Arr; rw [HG.out, Hsp.out])
  clear HG HAD hB0
  have hc1 : (1 ≤ C0 ∨ n = 0) ∧ C0 ≤ n := by have := HC0.out; omega
  go_loopw [8] (fun v wr => ∃ k : Nat, k ≤ n ∧ (1 ≤ k ∨ n = 0) ∧ v = .int .i64 (k : Int) ∧ Arr wr w.heap.size 3 (fillTo n k) ∧ Below w.heap.size w wr) (fun v _ => n - (intOf v).toNat)
  case atStart => exact ⟨C0, hc1.2, hc1.1, rfl, HG2.out, hb2⟩
  case round =>
    clear hb2
    obtain ⟨k, hk, hk1, rfl, hAr, hBr⟩ := hrel
    rename World => wr
    by_cases hlt : k < n
    · have hkn : ¬ k = n := by omega
      obtain ⟨C1, hC1⟩ : ∃ C1, min k (n - k) = C1 := ⟨_, rfl⟩
      have hsp := fill_splice (n := n) (k := k) (c := C1) (by omega)
      obtain ⟨cs1, hcs1⟩ : ∃ cs1, (List.replicate C1 (-1 : Int)).map (Value.int .i64) = cs1 := ⟨_, rfl⟩
      obtain ⟨cur1, hcur1⟩ : ∃ cur1, (fillTo n k).map (Value.int .i64) = cur1 := ⟨_, rfl⟩
      have hcl1 : cs1.length = C1 := by rw [← hcs1]; simp
      have hcul : cur1.length = n := by rw [← hcur1, List.length_map, fill_len n k hk]
      have HN1 := Lib.hid (show cs1.length = Nat.min k (n - k) by rw [hcl1]; exact hC1.symm)
      have HF1 := Lib.hid (show k + cs1.length ≤ cur1.length by rw [hcl1, hcul]; omega)
      have H1N := Lib.hid (show ∀ v ∈ cs1, v.oneCell' = true from fun v hv => by
        rw [← hcs1, List.map_replicate] at hv
        rw [List.eq_of_mem_replicate hv]
        rfl)
      have HP1 := Lib.hid (show ∀ W : World, Arr W w.heap.size 3 (fillTo n k) → ∀ (j : Nat) (v : Value), cs1[j]? = some v → W.cell? ((⟨w.heap.size, 0, none⟩ : Addr).add j) = some v from
        fun W hA j v hj => by
          have hjc : j < C1 := by rw [← hcl1]; exact (List.getElem?_eq_some_iff.1 hj).1
          have hv : v = .int .i64 (-1) := by
            rw [← hcs1, List.map_replicate] at hj
            exact List.eq_of_mem_replicate (List.mem_of_getElem? hj)
          have hc := hA.cell (k := j) (by rw [fill_len n k hk]; omega)
          rw [fill_get (by omega) hk] at hc
          have hadd : (⟨w.heap.size, 0, none⟩ : Addr).add j = ⟨w.heap.size, j, none⟩ := by unfold Addr.add; split <;> simp_all
          rw [hv, hadd]
          exact hc)
      rw [hcs1, hcur1] at hsp
      have Hsp1 := Lib.hid hsp
      have HCL1 := Lib.hid hcl1
      have HC1 := Lib.hid hC1
      have HCU := Lib.hid hcur1
      have HAr := Lib.hid (show Arr wr.drew w.heap.size 3 (fillTo n k) from hAr)
      have hBd : Below w.heap.size w wr.drew := below_drewN hBr 1
      clear hsp hcs1 hcur1 hcl1 hcul hC1 hAr hBr
      go_wp2_with fail
      refine region_T (S := fun _ => True) 9 (by kernel_rfl) ?_
      obtain ⟨Wd, hWd⟩ : ∃ Wd, wr.drew = Wd := ⟨_, rfl⟩
      rw [hWd] at HAr hBd ⊢
      clear hWd
      have hT : (fun _ : World => True) Wd := trivial
      refine anyT_take (i := 0) (oi := ?oi0a) (v := .int .i64 (k : Int)) ?hi0a (by kernel_rfl) ?hq0a ?hy0a (by assumption) ?rest0a
      case hi0a => (simp only [List.getElem?_toArray, List.getElem?_cons_zero]; first | done | rfl)
      case hq0a => first | exact fun _ _ _ h => h | exact fun _ _ _ h => (by cases h.1)
      case hy0a => (refine Or.inl ⟨by rfl, ?_⟩; intro wz hSw; go_simp; first | done | with_reducible rfl | simp | omega)
      try simp only [Act.put, List.setIfInBounds_toArray, List.set_cons_zero, List.set_cons_succ]
      refine anyT_take (i := 1) (oi := ?oi1a) (v := .slice (some ⟨w.heap.size, 0, none⟩) n n) ?hi1a (by kernel_rfl) ?hq1a ?hy1a (by assumption) ?rest1a
      case hi1a => (simp only [List.getElem?_toArray, List.getElem?_cons_succ, List.getElem?_cons_zero]; first | done | rfl)
      case hq1a => first | exact fun _ _ _ h => h | exact fun _ _ _ h => (by cases h.1)
      case hy1a => (refine Or.inl ⟨by rfl, ?_⟩; intro wz hSw; go_simp; first | done | with_reducible rfl | simp | omega)
      try simp only [Act.put, List.setIfInBounds_toArray, List.set_cons_zero, List.set_cons_succ]
      refine anyT_take (i := 2) (oi := ?oi2a) (v := .int .i64 (k : Int)) ?hi2a (by kernel_rfl) ?hq2a ?hy2a (by assumption) ?rest2a
      case hi2a => (simp only [List.getElem?_toArray, List.getElem?_cons_succ, List.getElem?_cons_zero]; first | done | rfl)
      case hq2a => first | exact fun _ _ _ h => h | exact fun _ _ _ h => (by cases h.1)
      case hy2a => (refine Or.inl ⟨by rfl, ?_⟩; intro wz hSw; go_simp; first | done | with_reducible rfl | simp | omega)
      try simp only [Act.put, List.setIfInBounds_toArray, List.set_cons_zero, List.set_cons_succ]
      refine anyT_take (i := 3) (oi := ?oi3a) (v := .slice (some ⟨w.heap.size, k, none⟩) (n - k) (n - k)) ?hi3a (by kernel_rfl) ?hq3a ?hy3a (by assumption) ?rest3a
      case hi3a => (simp only [List.getElem?_toArray, List.getElem?_cons_succ, List.getElem?_cons_zero]; first | done | rfl)
      case hq3a => first | exact fun _ _ _ h => h | exact fun _ _ _ h => (by cases h.1)
      case hy3a => (refine Or.inl ⟨by rfl, ?_⟩; intro wz hSw; go_simp; first | done | with_reducible rfl | simp | omega)
      try simp only [Act.put, List.setIfInBounds_toArray, List.set_cons_zero, List.set_cons_succ]
      refine anyT_take (i := 4) (oi := ?oi4a) (v := .slice (some ⟨w.heap.size, 0, none⟩) n n) ?hi4a (by kernel_rfl) ?hq4a ?hy4a (by assumption) ?rest4a
      case hi4a => (simp only [List.getElem?_toArray, List.getElem?_cons_succ, List.getElem?_cons_zero]; first | done | rfl)
      case hq4a => first | exact fun _ _ _ h => h | exact fun _ _ _ h => (by cases h.1)
      case hy4a => (refine Or.inl ⟨by rfl, ?_⟩; intro wz hSw; go_simp; first | done | with_reducible rfl | simp | omega)
      try simp only [Act.put, List.setIfInBounds_toArray, List.set_cons_zero, List.set_cons_succ]
      refine anyT_take (i := 5) (oi := ?oi5a) (v := .int .i64 (k : Int)) ?hi5a (by kernel_rfl) ?hq5a ?hy5a (by assumption) ?rest5a
      case hi5a => (simp only [List.getElem?_toArray, List.getElem?_cons_succ, List.getElem?_cons_zero]; first | done | rfl)
      case hq5a => first | exact fun _ _ _ h => h | exact fun _ _ _ h => (by cases h.1)
      case hy5a => (refine Or.inl ⟨by rfl, ?_⟩; intro wz hSw; go_simp; first | done | with_reducible rfl | simp | omega)
      try simp only [Act.put, List.setIfInBounds_toArray, List.set_cons_zero, List.set_cons_succ]
      refine anyT_take (i := 6) (oi := ?oi6a) (v := .slice (some ⟨w.heap.size, 0, none⟩) k n) ?hi6a (by kernel_rfl) ?hq6a ?hy6a (by assumption) ?rest6a
      case hi6a => (simp only [List.getElem?_toArray, List.getElem?_cons_succ, List.getElem?_cons_zero]; first | done | rfl)
      case hq6a => first | exact fun _ _ _ h => h | exact fun _ _ _ h => (by cases h.1)
      case hy6a => (refine Or.inl ⟨by rfl, ?_⟩; intro wz hSw; go_simp; first | done | with_reducible rfl | simp | omega)
      try simp only [Act.put, List.setIfInBounds_toArray, List.set_cons_zero, List.set_cons_succ]
      refine anyT_one (i := 7) (by kernel_rfl) rfl (fun K' hK => ?_)
      refine step_copy_splice rfl (.tmp 41) (.tmp 44) 22 22 rfl 3 Try.underlying22 hsz (some ⟨w.heap.size, k, none⟩) (some ⟨w.heap.size, 0, none⟩) (n - k) (n - k) k n rfl rfl w.heap.size k cur1 3 (by rw [← HCU.out]; exact HAr.out) cs1 HN1.out (fun _ => ⟨rfl, _, rfl, HP1.out Wd HAr.out⟩) HF1.out H1N.out w.heap.size w hBd (Nat.le_refl _) ?_
      intro w3 HG3 hb3
      rw [HCL1.out]
      refine hK.out _ _ (fun _ => trivial) ?_
      clear hK K'
      try simp only [Act.put, List.setIfInBounds_toArray, List.set_cons_zero, List.set_cons_succ]
      have hT3 : (fun _ : World => True) w3 := trivial
      have hc1 := HC1.out
      have hwk : IntKind.i64.wrap ((k : Int) + (C1 : Int)) = ((k + C1 : Nat) : Int) := by rw [IntKind.wrap_i64]; omega
      refine anyT_take (i := 8) (oi := ?oi8a) (v := .int .i64 ((k + C1 : Nat) : Int)) ?hi8a (by kernel_rfl) ?hq8a ?hy8a (by assumption) ?rest8a
      case hi8a => (simp only [List.getElem?_toArray, List.getElem?_cons_succ, List.getElem?_cons_zero]; first | done | rfl)
      case hq8a => first | exact fun _ _ _ h => h | exact fun _ _ _ h => (by cases h.1)
      case hy8a => (refine Or.inl ⟨by rfl, ?_⟩; intro wz hSw; go_simp; first | done | with_reducible rfl | simp [hwk] | omega)
      try simp only [Act.put, List.setIfInBounds_toArray, List.set_cons_zero, List.set_cons_succ]
      clear hwk
      refine anyT_one (i := 9) (by kernel_rfl) rfl (fun K' hK => ?_)
      go_simp
      refine hK.out _ _ (fun h => absurd rfl h) ?_
      clear hK K'
      try simp only [Act.put, List.setIfInBounds_toArray, List.set_cons_zero, List.set_cons_succ]
      refine anyT_done (by kernel_rfl) ?_ _
      have hA3 : Arr w3 w.heap.size 3 (fillTo n (k + C1)) := by unfold Arr; rw [HG3.out, Hsp1.out]
      go_wp2_with fail
      go_roundw
      case rel => exact ⟨k + C1, by omega, by omega, rfl, hA3, hb3⟩
      case measure => simp [intOf]; omega
    · obtain rfl : k = n := by omega
      rw [fill_all] at hAr
      go_wp2
      go_ret
      exact ⟨rfl, hAr, hBr⟩
end Go.Proofs.Ytghogabmkbadjab

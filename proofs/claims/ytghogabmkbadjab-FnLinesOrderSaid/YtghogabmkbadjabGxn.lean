/- Texts that several claims share, one behind the other. -/
import Derived.Test.YtghogabmkbadjabGxl
import Derived.Test.YtghogabmkbadjabGd
import Derived.Laws.CopyOwn
import Derived.Deep.Cut
import Derived.RegionTactic
import Derived.Test.YtghogabmkbadjabGa
set_option linter.unusedVariables false
set_option linter.unusedSimpArgs false
/- slices.Repeat of one number: as many of it. -/
namespace Go.Proofs.Ytghogabmkbadjab
open Go.RowKit Go.Shelf
attribute [local go_sem] Oper.semAt_some
attribute [local go_sem, local simp] wide_fn

theorem mul64_any (n : Nat) (hn : n ≤ 6) (w : World) : Calls Try.prog 180 #[.int .u64 1, .int .u64 (n : Int)] w fun e w' => e = .returned (.tuple #[.int .u64 0, .int .u64 (n : Int)]) ∧ w = w' := by
  have : n = 0 ∨ n = 1 ∨ n = 2 ∨ n = 3 ∨ n = 4 ∨ n = 5 ∨ n = 6 := by omega
  rcases this with rfl | rfl | rfl | rfl | rfl | rfl | rfl
  all_goals
    go_enter Try.func180, Try.ntmps180
    go_wp2
    go_ret2
    exact ⟨by kernel_rfl, rfl⟩
theorem mul_any (n : Nat) (hn : n ≤ 6) (w : World) : Calls Try.prog 152 #[.int .u64 1, .int .u64 (n : Int)] w fun e w' => e = .returned (.tuple #[.int .u64 0, .int .u64 (n : Int)]) ∧ w = w' := by
  go_enter Try.func152, Try.ntmps152
  go_wp2_with (go_at_call 180; refine (mul64_any n hn _).mono ?_; rintro e w' ⟨rfl, rfl⟩)
  go_ret2
  exact ⟨rfl, rfl⟩

/-- Filled up to k. -/
def fillTo (n k : Nat) : List Int := List.replicate k (-1) ++ List.replicate (n - k) 0
theorem fill_len (n k : Nat) (h : k ≤ n) : (fillTo n k).length = n := by simp [fillTo]; omega
theorem fill_splice {n k c : Nat} (h : k + c ≤ n) : splice ((fillTo n k).map (Value.int .i64)) k ((List.replicate c (-1)).map (Value.int .i64)) = (fillTo n (k + c)).map (Value.int .i64) := by
  unfold splice fillTo
  simp only [List.map_append, List.map_replicate, List.length_replicate, List.length_map]
  rw [List.take_append_of_le_length (by simp), List.take_of_length_le (by simp), List.drop_append]
  simp only [List.length_replicate, List.drop_replicate]
  rw [show k - (k + c) = 0 by omega, List.replicate_zero, List.nil_append, ← List.append_assoc, List.replicate_append_replicate]
  congr 2
  omega
theorem fill_get {n k j : Nat} (hj : j < k) (hk : k ≤ n) : (fillTo n k)[j]?.getD 0 = -1 := by
  unfold fillTo
  rw [List.getElem?_append_left (by simpa using hj)]
  simp [hj]
theorem fill_all (n : Nat) : fillTo n n = List.replicate n (-1) := by simp [fillTo]

set_option maxRecDepth 100000 in
set_option maxHeartbeats 4000000 in
theorem repeat_any (bx cx n : Nat) (hn : n ≤ 6) (w : World) (hx : w.cell? ⟨bx, 0, none⟩ = some (.int .i64 (-1))) (hbx : bx < w.heap.size) :
    Calls Try.prog 163 #[.slice (some ⟨bx, 0, none⟩) 1 cx, .int .i64 (n : Int)] w fun e w' => e = .returned (.slice (some ⟨w.heap.size, 0, none⟩) n n) ∧ Arr w' w.heap.size 3 (List.replicate n (-1)) ∧ Below w.heap.size w w' := by
  have hmk := run_make_row' (P := Try.prog) 22 3 (.int .i64 0) 8 Try.underlying22 infoInt rfl .i64 .i64 n (by omega) (by omega)
  have hw1 : IntKind.u64.wrap (n : Int) = (n : Int) := by rw [IntKind.wrap_u64]; omega
  have hw2 : IntKind.i64.wrap (n : Int) = (n : Int) := by rw [IntKind.wrap_i64]; omega
  have hsz : (Try.prog.info? 3).map (·.size) = some 1 := by kernel_rfl
  have hB0 : Below w.heap.size w (w.alloc (.cells (madeCells #[Value.int .i64 0] n) 3)) := (Below.refl _ _).alloc (Nat.le_refl _) _
  have aD : Arr (w.alloc (.cells (madeCells #[Value.int .i64 0] n) 3)) w.heap.size 3 (fillTo n 0) := by
    have := Arr.new w 3 n
    unfold fillTo
    simpa using this
  have hcx : (w.alloc (.cells (madeCells #[Value.int .i64 0] n) 3)).cell? ⟨bx, 0, none⟩ = some (.int .i64 (-1)) := by
    rw [World.cell?_alloc_lt _ _ ⟨bx, 0, none⟩ hbx]; exact hx
  obtain ⟨C0, hC0⟩ : ∃ C0, min 1 n = C0 := ⟨_, rfl⟩
  have hfl := fill_len n 0 (by omega)
  have hsp := fill_splice (n := n) (k := 0) (c := C0) (by omega)
  have hcl : ((List.replicate C0 (-1 : Int)).map (Value.int .i64)).length = C0 := by simp
  have hcm : ∀ (j : Nat) (v : Value), ((List.replicate C0 (-1 : Int)).map (Value.int .i64))[j]? = some v → v = .int .i64 (-1) ∧ j < C0 := fun j v h => by
    simp only [List.map_replicate, List.getElem?_replicate] at h
    split at h
    · exact ⟨(Option.some.inj h).symm, by assumption⟩
    · cases h
  have h1m : ∀ v ∈ (List.replicate C0 (-1 : Int)).map (Value.int .i64), v.oneCell' = true := fun v hv => by
    simp only [List.map_replicate] at hv
    rw [List.eq_of_mem_replicate hv]
    rfl
  rw [Nat.zero_add] at hsp
  unfold Arr at aD
  obtain ⟨cs, hcs⟩ : ∃ cs, (List.replicate C0 (-1 : Int)).map (Value.int .i64) = cs := ⟨_, rfl⟩
  obtain ⟨cur, hcur⟩ : ∃ cur, (fillTo n 0).map (Value.int .i64) = cur := ⟨_, rfl⟩
  have hcul : cur.length = n := by rw [← hcur, List.length_map, hfl]
  rw [hcs] at hsp hcl hcm h1m
  rw [hcur] at hsp aD
  have Hsp := Lib.hid hsp
  clear hcs hcur hsp hfl
  have h9 : decide (9223372036854775807 < (n : Int)) = false := decide_eq_false (by omega)
  have h0 : decide ((n : Int) < 0) = false := decide_eq_false (by omega)
  have hn0 : cs.length = Nat.min 1 n := by rw [hcl]; exact hC0.symm
  have hq0 : ∀ (j : Nat) (v : Value), cs[j]? = some v → (w.alloc (.cells (madeCells #[Value.int .i64 0] n) 3)).cell? ((⟨bx, 0, none⟩ : Addr).add j) = some v := fun j v hj => by
    obtain ⟨rfl, hjc⟩ := hcm j v hj
    obtain rfl : j = 0 := by omega
    simpa [Addr.add] using hcx
  have hfit0 : 0 + cs.length ≤ cur.length := by rw [hcl, hcul]; omega
  have HN0 := Lib.hid hn0
  have HP0 := Lib.hid hq0
  have HF0 := Lib.hid hfit0
  have H1M := Lib.hid h1m
  have HAD := Lib.hid aD
  have HCL := Lib.hid hcl
  have HC0 := Lib.hid hC0
  clear hn0 hq0 hfit0 h1m aD hcl hcm hcx hC0 hcul
  go_enter Try.func163, Try.ntmps163
  go_wp2_with (first
    | (go_at_call 152; refine (mul_any n hn _).mono ?_; rintro e w' ⟨rfl, rfl⟩)
    | (refine wpList_copy_splice (o := ⟨some 33, _, _, _, _, _⟩) rfl (.tmp 31) (.tmp 32) 22 22 rfl 3 Try.underlying22 hsz (some ⟨w.heap.size, 0, none⟩) (some ⟨bx, 0, none⟩) n n 1 cx rfl rfl w.heap.size 0 cur 3 HAD.out cs HN0.out (fun _ => ⟨rfl, _, rfl, HP0.out⟩) HF0.out H1M.out w.heap.size w hB0 (Nat.le_refl _) ?_; intro w2 HG hb2; rw [HCL.out]))
  have HG2 := Lib.hid (show Arr w2 w.heap.size 3 (fillTo n C0) by unfold Arr; rw [HG.out, Hsp.out])
  clear HG HAD hB0
  have hc1 : (1 ≤ C0 ∨ n = 0) ∧ C0 ≤ n := by have := HC0.out; omega
  go_loopw [8] (fun v wr => ∃ k : Nat, k ≤ n ∧ (1 ≤ k ∨ n = 0) ∧ v = .int .i64 (k : Int) ∧ Arr wr w.heap.size 3 (fillTo n k) ∧ Below w.heap.size w wr) (fun v _ => n - (intOf v).toNat)
  case atStart => exact ⟨C0, hc1.2, hc1.1, rfl, HG2.out, hb2⟩
  case round =>
    clear hb2
    obtain ⟨k, hk, hk1, rfl, hAr, hBr⟩ := hrel
    rename World => wr
    by_cases hlt : k < n
    · have hkn : ¬ k = n := by omega
      obtain ⟨C1, hC1⟩ : ∃ C1, min k (n - k) = C1 := ⟨_, rfl⟩
      have hsp := fill_splice (n := n) (k := k) (c := C1) (by omega)
      obtain ⟨cs1, hcs1⟩ : ∃ cs1, (List.replicate C1 (-1 : Int)).map (Value.int .i64) = cs1 := ⟨_, rfl⟩
      obtain ⟨cur1, hcur1⟩ : ∃ cur1, (fillTo n k).map (Value.int .i64) = cur1 := ⟨_, rfl⟩
      have hcl1 : cs1.length = C1 := by rw [← hcs1]; simp
      have hcul : cur1.length = n := by rw [← hcur1, List.length_map, fill_len n k hk]
      have HN1 := Lib.hid (show cs1.length = Nat.min k (n - k) by rw [hcl1]; exact hC1.symm)
      have HF1 := Lib.hid (show k + cs1.length ≤ cur1.length by rw [hcl1, hcul]; omega)
      have H1N := Lib.hid (show ∀ v ∈ cs1, v.oneCell' = true from fun v hv => by
        rw [← hcs1, List.map_replicate] at hv
        rw [List.eq_of_mem_replicate hv]
        rfl)
      have HP1 := Lib.hid (show ∀ W : World, Arr W w.heap.size 3 (fillTo n k) → ∀ (j : Nat) (v : Value), cs1[j]? = some v → W.cell? ((⟨w.heap.size, 0, none⟩ : Addr).add j) = some v from
        fun W hA j v hj => by
          have hjc : j < C1 := by rw [← hcl1]; exact (List.getElem?_eq_some_iff.1 hj).1
          have hv : v = .int .i64 (-1) := by
            rw [← hcs1, List.map_replicate] at hj
            exact List.eq_of_mem_replicate (List.mem_of_getElem? hj)
          have hc := hA.cell (k := j) (by rw [fill_len n k hk]; omega)
          rw [fill_get (by omega) hk] at hc
          have hadd : (⟨w.heap.size, 0, none⟩ : Addr).add j = ⟨w.heap.size, j, none⟩ := by unfold Addr.add; split <;> simp_all
          rw [hv, hadd]
          exact hc)
      rw [hcs1, hcur1] at hsp
      have Hsp1 := Lib.hid hsp
      have HCL1 := Lib.hid hcl1
      have HC1 := Lib.hid hC1
      have HCU := Lib.hid hcur1
      have HAr := Lib.hid (show Arr wr.drew w.heap.size 3 (fillTo n k) from hAr)
      have hBd : Below w.heap.size w wr.drew := below_drewN hBr 1
      clear hsp hcs1 hcur1 hcl1 hcul hC1 hAr hBr
      go_wp2_with fail
      refine region_T (S := fun _ => True) 9 (by kernel_rfl) ?_
      obtain ⟨Wd, hWd⟩ : ∃ Wd, wr.drew = Wd := ⟨_, rfl⟩
      rw [hWd] at HAr hBd ⊢
      clear hWd
      have hT : (fun _ : World => True) Wd := trivial
      refine anyT_take (i := 0) (oi := ?oi0a) (v := .int .i64 (k : Int)) ?hi0a (by kernel_rfl) ?hq0a ?hy0a (by assumption) ?rest0a
      case hi0a => (simp only [List.getElem?_toArray, List.getElem?_cons_zero]; first | done | rfl)
      case hq0a => first | exact fun _ _ _ h => h | exact fun _ _ _ h => (by cases h.1)
      case hy0a => (refine Or.inl ⟨by rfl, ?_⟩; intro wz hSw; go_simp; first | done | with_reducible rfl | simp | omega)
      try simp only [Act.put, List.setIfInBounds_toArray, List.set_cons_zero, List.set_cons_succ]
      refine anyT_take (i := 1) (oi := ?oi1a) (v := .slice (some ⟨w.heap.size, 0, none⟩) n n) ?hi1a (by kernel_rfl) ?hq1a ?hy1a (by assumption) ?rest1a
      case hi1a => (simp only [List.getElem?_toArray, List.getElem?_cons_succ, List.getElem?_cons_zero]; first | done | rfl)
      case hq1a => first | exact fun _ _ _ h => h | exact fun _ _ _ h => (by cases h.1)
      case hy1a => (refine Or.inl ⟨by rfl, ?_⟩; intro wz hSw; go_simp; first | done | with_reducible rfl | simp | omega)
      try simp only [Act.put, List.setIfInBounds_toArray, List.set_cons_zero, List.set_cons_succ]
      refine anyT_take (i := 2) (oi := ?oi2a) (v := .int .i64 (k : Int)) ?hi2a (by kernel_rfl) ?hq2a ?hy2a (by assumption) ?rest2a
      case hi2a => (simp only [List.getElem?_toArray, List.getElem?_cons_succ, List.getElem?_cons_zero]; first | done | rfl)
      case hq2a => first | exact fun _ _ _ h => h | exact fun _ _ _ h => (by cases h.1)
      case hy2a => (refine Or.inl ⟨by rfl, ?_⟩; intro wz hSw; go_simp; first | done | with_reducible rfl | simp | omega)
      try simp only [Act.put, List.setIfInBounds_toArray, List.set_cons_zero, List.set_cons_succ]
      refine anyT_take (i := 3) (oi := ?oi3a) (v := .slice (some ⟨w.heap.size, k, none⟩) (n - k) (n - k)) ?hi3a (by kernel_rfl) ?hq3a ?hy3a (by assumption) ?rest3a
      case hi3a => (simp only [List.getElem?_toArray, List.getElem?_cons_succ, List.getElem?_cons_zero]; first | done | rfl)
      case hq3a => first | exact fun _ _ _ h => h | exact fun _ _ _ h => (by cases h.1)
      case hy3a => (refine Or.inl ⟨by rfl, ?_⟩; intro wz hSw; go_simp; first | done | with_reducible rfl | simp | omega)
      try simp only [Act.put, List.setIfInBounds_toArray, List.set_cons_zero, List.set_cons_succ]
      refine anyT_take (i := 4) (oi := ?oi4a) (v := .slice (some ⟨w.heap.size, 0, none⟩) n n) ?hi4a (by kernel_rfl) ?hq4a ?hy4a (by assumption) ?rest4a
      case hi4a => (simp only [List.getElem?_toArray, List.getElem?_cons_succ, List.getElem?_cons_zero]; first | done | rfl)
      case hq4a => first | exact fun _ _ _ h => h | exact fun _ _ _ h => (by cases h.1)
      case hy4a => (refine Or.inl ⟨by rfl, ?_⟩; intro wz hSw; go_simp; first | done | with_reducible rfl | simp | omega)
      try simp only [Act.put, List.setIfInBounds_toArray, List.set_cons_zero, List.set_cons_succ]
      refine anyT_take (i := 5) (oi := ?oi5a) (v := .int .i64 (k : Int)) ?hi5a (by kernel_rfl) ?hq5a ?hy5a (by assumption) ?rest5a
      case hi5a => (simp only [List.getElem?_toArray, List.getElem?_cons_succ, List.getElem?_cons_zero]; first | done | rfl)
      case hq5a => first | exact fun _ _ _ h => h | exact fun _ _ _ h => (by cases h.1)
      case hy5a => (refine Or.inl ⟨by rfl, ?_⟩; intro wz hSw; go_simp; first | done | with_reducible rfl | simp | omega)
      try simp only [Act.put, List.setIfInBounds_toArray, List.set_cons_zero, List.set_cons_succ]
      refine anyT_take (i := 6) (oi := ?oi6a) (v := .slice (some ⟨w.heap.size, 0, none⟩) k n) ?hi6a (by kernel_rfl) ?hq6a ?hy6a (by assumption) ?rest6a
      case hi6a => (simp only [List.getElem?_toArray, List.getElem?_cons_succ, List.getElem?_cons_zero]; first | done | rfl)
      case hq6a => first | exact fun _ _ _ h => h | exact fun _ _ _ h => (by cases h.1)
      case hy6a => (refine Or.inl ⟨by rfl, ?_⟩; intro wz hSw; go_simp; first | done | with_reducible rfl | simp | omega)
      try simp only [Act.put, List.setIfInBounds_toArray, List.set_cons_zero, List.set_cons_succ]
      refine anyT_one (i := 7) (by kernel_rfl) rfl (fun K' hK => ?_)
      refine step_copy_splice rfl (.tmp 41) (.tmp 44) 22 22 rfl 3 Try.underlying22 hsz (some ⟨w.heap.size, k, none⟩) (some ⟨w.heap.size, 0, none⟩) (n - k) (n - k) k n rfl rfl w.heap.size k cur1 3 (by rw [← HCU.out]; exact HAr.out) cs1 HN1.out (fun _ => ⟨rfl, _, rfl, HP1.out Wd HAr.out⟩) HF1.out H1N.out w.heap.size w hBd (Nat.le_refl _) ?_
      intro w3 HG3 hb3
      rw [HCL1.out]
      refine hK.out _ _ (fun _ => trivial) ?_
      clear hK K'
      try simp only [Act.put, List.setIfInBounds_toArray, List.set_cons_zero, List.set_cons_succ]
      have hT3 : (fun _ : World => True) w3 := trivial
      have hc1 := HC1.out
      have hwk : IntKind.i64.wrap ((k : Int) + (C1 : Int)) = ((k + C1 : Nat) : Int) := by rw [IntKind.wrap_i64]; omega
      refine anyT_take (i := 8) (oi := ?oi8a) (v := .int .i64 ((k + C1 : Nat) : Int)) ?hi8a (by kernel_rfl) ?hq8a ?hy8a (by assumption) ?rest8a
      case hi8a => (simp only [List.getElem?_toArray, List.getElem?_cons_succ, List.getElem?_cons_zero]; first | done | rfl)
      case hq8a => first | exact fun _ _ _ h => h | exact fun _ _ _ h => (by cases h.1)
      case hy8a => (refine Or.inl ⟨by rfl, ?_⟩; intro wz hSw; go_simp; first | done | with_reducible rfl | simp [hwk] | omega)
      try simp only [Act.put, List.setIfInBounds_toArray, List.set_cons_zero, List.set_cons_succ]
      clear hwk
      refine anyT_one (i := 9) (by kernel_rfl) rfl (fun K' hK => ?_)
      go_simp
      refine hK.out _ _ (fun h => absurd rfl h) ?_
      clear hK K'
      try simp only [Act.put, List.setIfInBounds_toArray, List.set_cons_zero, List.set_cons_succ]
      refine anyT_done (by kernel_rfl) ?_ _
      have hA3 : Arr w3 w.heap.size 3 (fillTo n (k + C1)) := by unfold Arr; rw [HG3.out, Hsp1.out]
      go_wp2_with fail
      go_roundw
      case rel => exact ⟨k + C1, by omega, by omega, rfl, hA3, hb3⟩
      case measure => simp [intOf]; omega
    · obtain rfl : k = n := by omega
      rw [fill_all] at hAr
      go_wp2
      go_ret
      exact ⟨rfl, hAr, hBr⟩
end Go.Proofs.Ytghogabmkbadjab

/- The matching: the program's, item by item. -/
namespace Go.Proofs.Ytghogabmkbadjab
open Go.RowKit Go.Shelf
attribute [local go_sem] Oper.semAt_some
theorem run_store_fn {P : Program} {w : World} {a : Addr} {m : Mode} (fn : Fn) (first captured : Array Value) : (store a (.func fn first captured) m).run P w = stored P w a (.func fn first captured) m := run_store P w a _ m rfl
attribute [local go_sem] run_store_fn

theorem matesTo_len (zs : List Int) : ∀ k : Nat, k ≤ zs.length → (matesTo zs k).length = zs.length := fun k hk => (matesTo_ok zs k hk).1
theorem Cel.ofArr {w : World} {b n : Nat} {t : TypeId} {d : List Int} (h : Arr w b t d) (hn : d.length = n) : Cel w b t n d := ⟨hn, _, h, by rw [← hn]; exact List.take_of_length_le (by simp)⟩

set_option maxRecDepth 100000 in
set_option maxHeartbeats 4000000 in
theorem matchItems_any (bz n : Nat) (zs : List Int) (hvo : VoP zs) (hlen : zs.length = n) (w : World) (hZ : Arr w bz 76 zs) :
    Calls Try.prog 136 #[.slice (some ⟨bz, 0, none⟩) n n] w fun e w' => ∃ b, e = .returned (.slice (some ⟨b, 0, none⟩) n n) ∧ w.heap.size ≤ b ∧ Cel w' b 3 n (matesTo zs n) ∧ Below w.heap.size w w' := by
  have Hlen := Lib.hid hlen
  have hn6 : n ≤ 6 := by have := hvo.1; rw [hlen] at this; exact this
  have hzl := hZ.lt
  clear hlen
  go_enter Try.func136, Try.ntmps136
  go_wp2_with fail
  have hU1 : Upd (fun _ => False) w ((w.alloc (.cells #[Value.slice (some ⟨bz, 0, none⟩) n n] 49)).alloc (.cells #[Value.int .i64 (-1)] 3)) := ((Upd.refl _ _).alloc _).alloc _
  have bO1 := (Boxed.new w 49 (.slice (some ⟨bz, 0, none⟩) n n)).alloc (.cells #[Value.int .i64 (-1)] 3)
  have hx1 : ((w.alloc (.cells #[Value.slice (some ⟨bz, 0, none⟩) n n] 49)).alloc (.cells #[Value.int .i64 (-1)] 3)).cell? ⟨w.heap.size + 1, 0, none⟩ = some (.int .i64 (-1)) := by
    have h := cell_new (w.alloc (.cells #[Value.slice (some ⟨bz, 0, none⟩) n n] 49)) 3 (.int .i64 (-1))
    rwa [World.size_alloc] at h
  have Z1 := Lib.hid (show ((w.alloc (.cells #[Value.slice (some ⟨bz, 0, none⟩) n n] 49)).alloc (.cells #[Value.int .i64 (-1)] 3)).heap.size = w.heap.size + 2 by simp)
  obtain ⟨w1, hw1⟩ : ∃ w1, (w.alloc (.cells #[Value.slice (some ⟨bz, 0, none⟩) n n] 49)).alloc (.cells #[Value.int .i64 (-1)] 3) = w1 := ⟨_, rfl⟩
  rw [hw1] at hU1 bO1 hx1 Z1 ⊢
  clear hw1
  refine (repeat_any (w.heap.size + 1) 1 n hn6 w1 hx1 (by rw [Z1.out]; omega)).mono ?_
  rintro e w2 ⟨rfl, hA2, hB2⟩
  have z2 := hB2.size
  have hlw : w.heap.size < w2.heap.size := by have := Z1.out; omega
  have bO2 : Boxed w2 w.heap.size 49 (.slice (some ⟨bz, 0, none⟩) n n) := (hB2.block w.heap.size (by rw [Z1.out]; omega)).trans bO1
  have hco2 : (((w2.alloc (.cells #[Value.slice (some ⟨w1.heap.size, 0, none⟩) n n] 22)).alloc (.cells #[Value.int .i64 0] 76)).alloc (.cells #[findV w.heap.size (w2.heap.size + 1) w2.heap.size (w2.heap.size + 1 + 1)] 93)).cell? ⟨w.heap.size, 0, none⟩ = some (.slice (some ⟨bz, 0, none⟩) n n) := (((bO2.alloc _).alloc _).alloc _).cell
  unfold findV at hco2
  go_wp2_with fail
  have W3d : ∃ W3, ((w2.alloc (.cells #[Value.slice (some ⟨w1.heap.size, 0, none⟩) n n] 22)).alloc (.cells #[Value.int .i64 0] 76)).alloc (.cells #[findV w.heap.size (w2.heap.size + 1) w2.heap.size (w2.heap.size + 1 + 1)] 93) = W3 := ⟨_, rfl⟩
  have bL3 := ((Boxed.new w2 22 (.slice (some ⟨w1.heap.size, 0, none⟩) n n)).alloc (.cells #[Value.int .i64 0] 76)).alloc (.cells #[findV w.heap.size (w2.heap.size + 1) w2.heap.size (w2.heap.size + 1 + 1)] 93)
  have bA3 := (Boxed.new (w2.alloc (.cells #[Value.slice (some ⟨w1.heap.size, 0, none⟩) n n] 22)) 76 (.int .i64 0)).alloc (.cells #[findV w.heap.size (w2.heap.size + 1) w2.heap.size (w2.heap.size + 1 + 1)] 93)
  have bF3 := Boxed.new ((w2.alloc (.cells #[Value.slice (some ⟨w1.heap.size, 0, none⟩) n n] 22)).alloc (.cells #[Value.int .i64 0] 76)) 93 (findV w.heap.size (w2.heap.size + 1) w2.heap.size (w2.heap.size + 1 + 1))
  have hU3 : Upd (fun _ => False) w2 (((w2.alloc (.cells #[Value.slice (some ⟨w1.heap.size, 0, none⟩) n n] 22)).alloc (.cells #[Value.int .i64 0] 76)).alloc (.cells #[findV w.heap.size (w2.heap.size + 1) w2.heap.size (w2.heap.size + 1 + 1)] 93)) := (((Upd.refl _ _).alloc _).alloc _).alloc _
  have Z3 := Lib.hid (show (((w2.alloc (.cells #[Value.slice (some ⟨w1.heap.size, 0, none⟩) n n] 22)).alloc (.cells #[Value.int .i64 0] 76)).alloc (.cells #[findV w.heap.size (w2.heap.size + 1) w2.heap.size (w2.heap.size + 1 + 1)] 93)).heap.size = w2.heap.size + 3 by simp)
  simp only [World.size_alloc] at bA3 bF3
  obtain ⟨W3, hW3⟩ := W3d
  have hW3' := hW3
  unfold findV at hW3'
  rw [hW3] at bL3 bA3 bF3 hU3 Z3
  rw [hW3']
  clear hW3 hW3'
  have bO3 : Boxed W3 w.heap.size 49 (.slice (some ⟨bz, 0, none⟩) n n) := (hU3.block w.heap.size bO2.lt (fun e => e)).trans bO2
  have hA3 := hA2.upd hU3 (fun e => e)
  have hZ2 : Arr w2 bz 76 zs := (hB2.block bz (by rw [Z1.out]; omega)).trans ((hU1.block bz hzl (fun e => e)).trans hZ)
  have hZ3 := hZ2.upd hU3 (fun e => e)
  have hC3 : Cel W3 w1.heap.size 3 n (matesTo zs 0) := Cel.ofArr (by unfold matesTo; rw [Hlen.out]; exact hA3) (by rw [matesTo_len zs 0 (by omega)]; exact Hlen.out)
  have hl2 : w1.heap.size < w2.heap.size := hA2.lt
  have hl1 : w.heap.size + 2 = w1.heap.size := Z1.out.symm
  have Hl1 := Lib.hid hl1
  clear hl1
  have hl1 : w.heap.size + 1 < w1.heap.size := by have := Hl1.out; omega
  clear bO1 bO2 hA2 hZ2 hA3 hZ hx1 hco2
  go_wp2_with fail
  go_loopw [14] (fun i wr => ∃ k : Nat, k ≤ n ∧ i = .int .i64 k ∧ Cel wr w1.heap.size 3 n (matesTo zs k) ∧ (∃ q : Int, Boxed wr (w2.heap.size + 1) 76 (.int .i64 q)) ∧ Upd (fun j => j = w1.heap.size ∨ j = w2.heap.size + 1) W3 wr) (fun i _ => n - (intOf i).toNat)
  case atStart => exact ⟨0, by omega, rfl, hC3, ⟨0, bA3⟩, Upd.refl _ _⟩
  case round =>
    clear hC3 bA3
    obtain ⟨k, hk, rfl, hC, ⟨q, bA⟩, hU⟩ := hrel
    rename World => wr
    have zU := hU.size
    rw [Z3.out] at zU
    have bLr : Boxed wr _ _ _ := (hU.block w2.heap.size (by rw [Z3.out]; omega) (by omega)).trans bL3
    have bFr : Boxed wr _ _ _ := (hU.block (w2.heap.size + 1 + 1) (by rw [Z3.out]; omega) (by omega)).trans bF3
    have bOr : Boxed wr _ _ _ := (hU.block w.heap.size (by rw [Z3.out]; omega) (by omega)).trans bO3
    have hZr := hZ3.upd hU (by omega)
    by_cases hlt : k < n
    · have hcA := bA.cell
      have hfA := bA.frozen
      have hcF : (wr.setCell ⟨w2.heap.size + 1, 0, none⟩ (.int .i64 0)).cell? ⟨w2.heap.size + 1 + 1, 0, none⟩ = some (findV w.heap.size (w2.heap.size + 1) w2.heap.size (w2.heap.size + 1 + 1)) := (Boxed.other bFr (by omega) _).cell
      unfold findV at hcF
      go_wp2_with fail
      have hU5 : Upd (fun j => j = w2.heap.size + 1) wr (wr.setCell ⟨w2.heap.size + 1, 0, none⟩ (.int .i64 0)) := (Upd.refl (fun j => j = w2.heap.size + 1) wr).setCell (p := ⟨w2.heap.size + 1, 0, none⟩) (.inr rfl) _
      have bA5 := bA.set (.int .i64 0)
      have bO5 := Boxed.other bOr (B' := w2.heap.size + 1) (by omega) (.int .i64 0)
      have bL5 := Boxed.other bLr (B' := w2.heap.size + 1) (by omega) (.int .i64 0)
      have bF5 := Boxed.other bFr (B' := w2.heap.size + 1) (by omega) (.int .i64 0)
      have hZ5 := hZr.upd hU5 (by omega)
      have hC5 := hC.upd hU5 (by omega)
      have hz5 := hU5.size
      obtain ⟨W5, hW5⟩ : ∃ W5, wr.setCell ⟨w2.heap.size + 1, 0, none⟩ (.int .i64 0) = W5 := ⟨_, rfl⟩
      rw [hW5] at hU5 bA5 bO5 bL5 bF5 hZ5 hC5 hz5 ⊢
      clear hW5 hcF bA bOr bLr bFr hZr hC hcA hfA
      have Hm := Lib.hid (show matesTo zs (k + 1) = (mateF zs (n + 1) k (matesTo zs k) (List.replicate n false)).2.1 by rw [show matesTo zs (k + 1) = (mateF zs (zs.length + 1) k (matesTo zs k) (List.replicate zs.length false)).2.1 from rfl, Hlen.out])
      refine (find_any zs hvo n n bz w.heap.size (w2.heap.size + 1) w2.heap.size (w2.heap.size + 1 + 1) w1.heap.size Hlen.out ⟨by omega, by omega, by omega, by omega, by omega, by omega, by omega, by omega, by omega⟩ (n + 1) k (matesTo zs k) (List.replicate n false) 0 W5 hlt (by have := matesTo_ok zs k (by rw [Hlen.out]; omega); rwa [Hlen.out] at this) (SeenAs.none n) (by have := unseen_le (List.replicate n false); rw [List.length_replicate] at this; omega) bO5 bA5 bL5 bF5 hZ5 hC5).mono ?_
      rintro e w6 ⟨rfl, hC6, ⟨q6, -, bA6⟩, hU6⟩
      rw [← Hm.out] at hC6
      have hU7 := (hU.trans' hU5 (fun i hi e => .inr e)).trans' hU6 (fun i hi e => e)
      clear bA5 bO5 bL5 bF5 hZ5 hC5 hU5 hU6 hU
      go_wp2_with fail
      go_roundw
      case rel => exact ⟨k + 1, by omega, by go_num, hC6, ⟨q6, bA6⟩, hU7⟩
      case measure => simp [intOf]; omega
    · obtain rfl : k = n := by omega
      have hcL := bLr.cell
      go_wp2_with fail
      go_ret
      have b1 : Below w.heap.size w w1 := hU1.toBelow (fun _ e => e.elim) (Nat.le_refl _)
      have b2 := b1.trans (hB2.mono (by omega))
      have b3 := b2.trans (hU3.toBelow (B := w.heap.size) (fun _ e => e.elim) (by omega))
      exact ⟨_, rfl, by omega, hC, b3.trans (hU.toBelow (B := w.heap.size) (fun k e => by omega) (by rw [Z3.out]; omega))⟩
end Go.Proofs.Ytghogabmkbadjab

/- Chains as links: the program's. -/
namespace Go.Proofs.Ytghogabmkbadjab
open Go.RowKit Go.Shelf
attribute [local go_sem] Oper.semAt_some

abbrev lnk (s i : Nat) : Value := .pointer (some ⟨s + i, 0, none⟩)
def lnkN (s : Nat) : Option Nat → Value
  | none => .pointer none
  | some j => lnk s j
/-- Whom an item is followed by, among the first k. -/
def nxT (has : List Int) (i : Nat) : Nat → Option Nat
  | 0 => none
  | k + 1 => if has[k]?.getD 0 = (i : Int) then some k else nxT has i k
/-- Those of the first k that have none below. -/
def lowL (has : List Int) : Nat → List Nat
  | 0 => []
  | k + 1 => if has[k]?.getD 0 < 0 then lowL has k ++ [k] else lowL has k
theorem lowL_len (has : List Int) : ∀ k : Nat, (lowL has k).length = noneTo has k
  | 0 => rfl
  | k + 1 => by
    have := lowL_len has k
    unfold lowL noneTo
    split
    · rw [List.length_append]; simp; omega
    · omega
def Links (w : World) (s n : Nat) (nx : Nat → Option Nat) : Prop := ∀ i, i < n → w.heap[s + i]? = some (.cells #[.int .i64 (i : Int), lnkN s (nx i)] 108 (0, 0))
theorem Links.upd {w w' : World} {s n : Nat} {nx : Nat → Option Nat} {R : Nat → Prop} (h : Links w s n nx) (hu : Upd R w w') (hr : ∀ i, i < n → ¬ R (s + i)) : Links w' s n nx := fun i hi =>
  (hu.block _ (Array.getElem?_eq_some_iff.1 (h i hi)).1 (hr i hi)).trans (h i hi)
theorem ownP_keep {w w' : World} {B n : Nat} {e : TypeId} {v : Value} {xs : List Value} {R : Nat → Prop} (h1 : w.ownsRow B e 1 v n xs) (hu : Upd R w w') (hS : ∀ k, v.ownBlock = some k → ¬ R k) : w'.ownsRow B e 1 v n xs := by
  refine ⟨h1.1, ?_⟩
  rcases h1.2 with e | ⟨g, cap, cur, rfl, hg, hc, hrest⟩
  · exact .inl e
  · exact .inr ⟨g, cap, cur, rfl, hg, (hu.block g (Array.getElem?_eq_some_iff.1 hc).1 (hS g rfl)).trans hc, hrest⟩
theorem infoLink : (Try.prog.info? 79).map (fun i => (i.zero, i.size, i.bytes)) = some (some (.pointer none), 1, 8) := by kernel_rfl
theorem infoLink_parts : ∃ i : TypeInfo, Try.prog.info? 79 = some i ∧ i.zero = some (.pointer none) ∧ i.size = 1 ∧ i.bytes = 8 := by
  have h := infoLink
  cases hi : Try.prog.info? 79 with
  | none => rw [hi] at h; cases h
  | some i =>
    rw [hi] at h
    simp only [Option.map_some, Option.some.injEq, Prod.mk.injEq] at h
    exact ⟨i, rfl, h.1, h.2.1, h.2.2⟩

set_option maxRecDepth 100000 in
set_option maxHeartbeats 4000000 in
theorem linkChains_any (bz n : Nat) (zs : List Int) (hvo : VoP zs) (hlen : zs.length = n) (w : World) (hZ : Arr w bz 76 zs) :
    Calls Try.prog 91 #[.slice (some ⟨bz, 0, none⟩) n n] w fun e w' => ∃ s v, e = .returned v ∧ w.heap.size ≤ s ∧
      w'.ownsRow w.heap.size 79 1 v (lowL (matesTo zs n) n).length ((lowL (matesTo zs n) n).map (lnk s)) ∧ Links w' s n (fun i => nxT (matesTo zs n) i n) ∧ Below w.heap.size w w' := by
  obtain ⟨i0, hi0, hz0, hz1, hz2⟩ := infoLink_parts
  have Hlen := Lib.hid hlen
  have hn6 : n ≤ 6 := by have := hvo.1; rw [hlen] at this; exact this
  have hzl := hZ.lt
  clear hlen
  have hmk := run_make_row' (P := Try.prog) 77 79 (.pointer none) 8 Try.underlying77 infoLink rfl .i64 .i64 n (by omega) (by omega)
  go_enter Try.func91, Try.ntmps91
  go_wp2_with fail
  have hG : (w.alloc (.cells (madeCells #[Value.pointer none] n) 79)).heap[w.heap.size]? = some (.cells (madeCells #[Value.pointer none] n) 79 (0, 0)) := heap_alloc_new w _
  have hU0 : Upd (fun _ => False) w (w.alloc (.cells (madeCells #[Value.pointer none] n) 79)) := (Upd.refl _ w).alloc _
  have Z0 := Lib.hid (show (w.alloc (.cells (madeCells #[Value.pointer none] n) 79)).heap.size = w.heap.size + 1 by simp)
  obtain ⟨W0, hW0⟩ : ∃ W0, w.alloc (.cells (madeCells #[Value.pointer none] n) 79) = W0 := ⟨_, rfl⟩
  rw [hW0] at hG hU0 Z0 ⊢
  clear hW0 hmk
  have hZ0 := hZ.upd hU0 (fun e => e)
  go_loopw [13] (fun i wr => ∃ (k : Nat) (cs : Array Value), k ≤ n ∧ i = .int .i64 k ∧ wr.heap[w.heap.size]? = some (.cells cs 79 (0, 0)) ∧ (∀ j, j < k → cs[j]? = some (lnk (w.heap.size + 1) j)) ∧ cs.size = n ∧ Links wr (w.heap.size + 1) k (fun _ => none) ∧ Hid (wr.heap.size = w.heap.size + 1 + k) ∧ Upd (fun q => q = w.heap.size) W0 wr) (fun i _ => n - (intOf i).toNat)
  case atStart => exact ⟨0, _, by omega, rfl, hG, fun j hj => by omega, size_madeCells _ _, fun i hi => by omega, Lib.hid Z0.out, Upd.refl _ _⟩
  case round =>
    clear hG
    obtain ⟨k, cs, hk, rfl, hg, hcs, hcn, hL, HZ, hU⟩ := hrel
    rename World => wr
    have zU := hU.size
    by_cases hlt : k < n
    · have hgc : wr.cell? ⟨w.heap.size, k, none⟩ = some (cs[k]?.getD undef) := by
        rw [cell_of_row wr w.heap.size k _ _ (0, 0) hg, Array.getElem?_eq_getElem (by omega)]; rfl
      have hgf : wr.frozen? ⟨w.heap.size, k, none⟩ = false := frozen_of_row _ _ k _ _ hg
      have hgl : w.heap.size < wr.heap.size := (Array.getElem?_eq_some_iff.1 hg).1
      have Hcs := Lib.hid hcs
      clear hcs
      go_wp2_with fail
      have he : (wr.setCell ⟨w.heap.size, k, none⟩ (.pointer (some ⟨wr.heap.size, 0, none⟩))).alloc (.cells #[Value.int .i64 (k : Int), .pointer none] 108) = (wr.alloc (.cells #[Value.int .i64 (k : Int), .pointer none] 108)).setCell ⟨w.heap.size, k, none⟩ (.pointer (some ⟨wr.heap.size, 0, none⟩)) := (World.setCell_alloc_past _ _ _ _ hgl).symm
      rw [he]
      have hUa : Upd (fun _ => False) wr (wr.alloc (.cells #[Value.int .i64 (k : Int), .pointer none] 108)) := (Upd.refl _ wr).alloc _
      have hUs : Upd (fun q => q = w.heap.size) wr ((wr.alloc (.cells #[Value.int .i64 (k : Int), .pointer none] 108)).setCell ⟨w.heap.size, k, none⟩ (.pointer (some ⟨wr.heap.size, 0, none⟩))) := ((Upd.refl (fun q => q = w.heap.size) wr).alloc _).setCell (p := ⟨w.heap.size, k, none⟩) (.inr rfl) _
      have hnew : ((wr.alloc (.cells #[Value.int .i64 (k : Int), .pointer none] 108)).setCell ⟨w.heap.size, k, none⟩ (.pointer (some ⟨wr.heap.size, 0, none⟩))).heap[wr.heap.size]? = some (.cells #[Value.int .i64 (k : Int), .pointer none] 108 (0, 0)) := (Below.heap_setCell _ _ _ _ (by show wr.heap.size ≠ w.heap.size; omega)).trans (heap_alloc_new wr _)
      have hg5 : (wr.alloc (.cells #[Value.int .i64 (k : Int), .pointer none] 108)).heap[w.heap.size]? = some (.cells cs 79 (0, 0)) := (hUa.block _ hgl (fun e => e)).trans hg
      go_roundw
      case rel =>
        refine ⟨k + 1, cs.setIfInBounds k (.pointer (some ⟨wr.heap.size, 0, none⟩)), by omega, by go_num, ?_, fun j hj => ?_, by simpa using hcn, fun i hi => ?_, Lib.hid ?_, hU.trans' hUs (fun i hi e => e)⟩
        · simp [World.setCell, Array.getElem?_modify, hg5]
        · rcases Nat.lt_or_ge j k with h1 | h1
          · rw [Array.getElem?_setIfInBounds_ne (by omega)]
            exact Hcs.out j h1
          · obtain rfl : j = k := by omega
            rw [Array.getElem?_setIfInBounds_self_of_lt (by omega), HZ.out]
        · rcases Nat.lt_or_ge i k with h1 | h1
          · exact (hL.upd hUs (fun i hi => by omega)) i h1
          · obtain rfl : i = k := by omega
            rw [← HZ.out]
            exact hnew
        · have := HZ.out
          simp [World.setCell]
          omega
      case measure => simp [intOf]; omega
    · obtain rfl : k = n := by omega
      go_wp2_with fail
      have hZr := hZ0.upd hU (by omega)
      have hrl : w.heap.size + 1 ≤ wr.heap.size := by have := HZ.out; omega
      have hB1 : Below w.heap.size w wr := ((hU0.mono fun _ _ e => e.elim).trans' hU (fun i hi e => e)).toBelow (R := fun q => q = w.heap.size) (fun k e => by omega) (Nat.le_refl _)
      refine (matchItems_any bz k zs hvo Hlen.out wr hZr).mono ?_
      rintro e w3 ⟨hb, rfl, hhb, hC3, hB3⟩
      have z3 := hB3.size
      have Hok := Lib.hid (show OkH k (matesTo zs k) by have := matesTo_ok zs k (by rw [Hlen.out]; exact Nat.le_refl _); rwa [Hlen.out] at this)
      generalize hhas : matesTo zs k = has at *
      have HH := Lib.hid hhas
      clear hhas
      have hL3 : Links w3 (w.heap.size + 1) k (fun i => nxT has i 0) := fun i hi => (hB3.block _ (by have := HZ.out; omega)).trans (hL i hi)
      have hg3 : w3.heap[w.heap.size]? = some (.cells cs 79 (0, 0)) := (hB3.block _ (by omega)).trans hg
      have HZ3 := Lib.hid (show w.heap.size + 1 + k ≤ w3.heap.size by have := HZ.out; omega)
      have hB13 := hB1.trans (hB3.mono (by omega))
      have hws : w.heap.size < w.heap.size + 1 := Nat.lt_succ_self _
      have hsk : w.heap.size + 1 + k ≤ wr.heap.size := by have := HZ.out; omega
      have Hcs := Lib.hid hcs
      clear hL hg HZ hU hZ hZ0 hZr hB1 hB3 hcs zU hU0
      generalize w.heap.size + 1 = s at *
      go_wp2_with fail
      go_loopw [5, 26] (fun v i wy => ∃ j : Nat, j ≤ k ∧ i = .int .i64 j ∧ wy.ownsRow w.heap.size 79 1 v (lowL has j).length ((lowL has j).map (lnk s)) ∧ (∀ q, v.ownBlock = some q → w3.heap.size ≤ q) ∧ Links wy s k (fun i => nxT has i j) ∧ Upd (fun q => s ≤ q ∧ q < s + k) w3 wy) (fun _ i _ => k - (intOf i).toNat)
      case atStart => exact ⟨0, by omega, rfl, ⟨rfl, .inl ⟨rfl, rfl⟩⟩, fun q hq => by simp [Value.ownBlock] at hq, hL3, Upd.refl _ _⟩
      case round =>
        clear hL3
        obtain ⟨j, hj, rfl, hown, hob, hLy, hUy⟩ := hrel
        rename World => wy
        have zy := hUy.size
        have hgy : wy.heap[w.heap.size]? = some (.cells cs 79 (0, 0)) := (hUy.block _ (by omega) (by omega)).trans hg3
        by_cases hlt : j < k
        · have hCy := hC3.upd hUy (by omega)
          have hcj := hCy.cell hlt
          have hxb := Hok.out.2 j hlt
          have hgj : wy.cell? ⟨w.heap.size, j, none⟩ = some (lnk s j) := by rw [cell_of_row wy w.heap.size j _ _ (0, 0) hgy]; exact Hcs.out j hlt
          have Hnx := Lib.hid (fun (i : Nat) => (show nxT has i (j + 1) = if has[j]?.getD 0 = (i : Int) then some j else nxT has i j from rfl))
          have Hlo := Lib.hid (show lowL has (j + 1) = if has[j]?.getD 0 < 0 then lowL has j ++ [j] else lowL has j from rfl)
          have Hll := Lib.hid (lowL_len has j)
          have hl6 : (lowL has j).length ≤ 6 := by rw [lowL_len]; have := noneTo_le has j; omega
          generalize has[j]?.getD 0 = x at *
          by_cases hx : x = -1
          · subst hx
            have Hlo2 := Lib.hid (Hlo.out.trans (if_pos (by omega)))
            have Hnx2 := Lib.hid (fun (i : Nat) => (Hnx.out i).trans (if_neg (by omega)))
            go_wp2_with (at_builtin; go_loud (refine wpList_append1 _ rfl (.tmp 33) (.tmp 38) _ rfl w.heap.size 79 i0 _ 8 Try.underlying77 hi0 hz0 hz1 hz2 rfl _ (lowL has j).length _ rfl (hown.alloc _) wy.heap.size 1 (lnk s j) rfl (cell_new _ _ _) rfl (by omega) (by omega) (by simp; omega) ?_); rintro v' w' hown' hg' hv')
            have hUg : Upd (fun q => w3.heap.size ≤ q) wy w' := ((Upd.refl (fun q => w3.heap.size ≤ q) wy).alloc _).grown hg' (fun q hq => .inr (hob q hq))
            have hUn : Upd (fun q => s ≤ q ∧ q < s + k) w3 w' := (hUy.alloc _).grown hg' (fun q hq => .inl (hob q hq))
            have hLn := hLy.upd hUg (fun i hi => by omega)
            go_roundw
            case rel =>
              refine ⟨j + 1, by omega, by go_num, by rw [Hlo2.out, List.length_append, List.map_append]; exact hown', fun q hq => ?_, fun i hi => by simp only [Hnx2.out]; exact hLn i hi, hUn⟩
              rcases hv' with e | e
              · exact hob q (e ▸ hq)
              · rw [e] at hq
                simp at hq
                omega
            case measure => simp [intOf]; omega
          · obtain ⟨low, rfl⟩ := Int.eq_ofNat_of_zero_le (show 0 ≤ x by omega)
            have hlk : low < k := by omega
            have Hlo2 := Lib.hid (Hlo.out.trans (if_neg (by omega)))
            have hgl : wy.cell? ⟨w.heap.size, low, none⟩ = some (lnk s low) := by rw [cell_of_row wy w.heap.size low _ _ (0, 0) hgy]; exact Hcs.out low hlk
            have hlb := hLy low hlk
            have hlc : wy.cell? ⟨s + low, 1, none⟩ = some (lnkN s (nxT has low j)) := by rw [cell_of_row wy (s + low) 1 _ _ (0, 0) hlb]; rfl
            have hlf : wy.frozen? ⟨s + low, 1, none⟩ = false := frozen_of_row _ _ 1 _ _ hlb
            go_wp2_with fail
            go_region
            all_goals
              go_wp2
              have hUs : Upd (fun q => q = s + low) wy (wy.setCell ⟨s + low, 1, none⟩ (.pointer (some ⟨s + j, 0, none⟩))).drew := ((Upd.refl (fun q => q = s + low) wy).setCell (p := ⟨s + low, 1, none⟩) (.inr rfl) _).drew
              have hbl : (wy.setCell ⟨s + low, 1, none⟩ (.pointer (some ⟨s + j, 0, none⟩))).drew.heap[s + low]? = some (.cells #[.int .i64 (low : Int), lnk s j] 108 (0, 0)) := by
                show (wy.setCell ⟨s + low, 1, none⟩ (.pointer (some ⟨s + j, 0, none⟩))).heap[s + low]? = _
                simp [World.setCell, Array.getElem?_modify, hlb]
              go_roundw
              case rel =>
                refine ⟨j + 1, by omega, by go_num, by rw [Hlo2.out]; exact ownP_keep hown hUs (fun q hq e => by have := hob q hq; omega), hob, fun i hi => ?_, hUy.trans' hUs (fun i hi e => by omega)⟩
                by_cases hil : i = low
                · subst hil
                  simp only [Hnx.out]
                  rw [if_pos trivial]
                  exact hbl
                · simp only [Hnx.out]
                  rw [if_neg (by omega)]
                  exact (hUs.block _ (Array.getElem?_eq_some_iff.1 (hLy i hi)).1 (by omega)).trans (hLy i hi)
              case measure => simp [intOf]; omega
        · obtain rfl : j = k := by omega
          rw [← HH.out] at hown hLy
          go_wp2_with fail
          go_ret
          exact ⟨s, _, rfl, by omega, hown, hLy, hB13.trans (hUy.toBelow (B := w.heap.size) (fun q hq => by omega) (by omega))⟩
end Go.Proofs.Ytghogabmkbadjab

/- slices.Repeat of one set: as many of it. -/
namespace Go.Proofs.Ytghogabmkbadjab
open Go.RowKit Go.Shelf
attribute [local go_sem] Oper.semAt_some
attribute [local go_sem, local simp] wide_fn

/-- Filled up to k. -/
def fillQ (q : Int) (n k : Nat) : List Int := List.replicate k q ++ List.replicate (n - k) 0
theorem fillq_len (q : Int) (n k : Nat) (h : k ≤ n) : (fillQ q n k).length = n := by simp [fillQ]; omega
theorem fillq_splice {q : Int} {n k c : Nat} (h : k + c ≤ n) : splice ((fillQ q n k).map (Value.int .i64)) k ((List.replicate c q).map (Value.int .i64)) = (fillQ q n (k + c)).map (Value.int .i64) := by
  unfold splice fillQ
  simp only [List.map_append, List.map_replicate, List.length_replicate, List.length_map]
  rw [List.take_append_of_le_length (by simp), List.take_of_length_le (by simp), List.drop_append]
  simp only [List.length_replicate, List.drop_replicate]
  rw [show k - (k + c) = 0 by omega, List.replicate_zero, List.nil_append, ← List.append_assoc, List.replicate_append_replicate]
  congr 2
  omega
theorem fillq_get {q : Int} {n k j : Nat} (hj : j < k) (hk : k ≤ n) : (fillQ q n k)[j]?.getD 0 = q := by
  unfold fillQ
  rw [List.getElem?_append_left (by simpa using hj)]
  simp [hj]
theorem fillq_all (q : Int) (n : Nat) : fillQ q n n = List.replicate n q := by simp [fillQ]

set_option maxRecDepth 100000 in
set_option maxHeartbeats 4000000 in
theorem repeatO_any (q : Int) (bx cx n : Nat) (hn : n ≤ 6) (w : World) (hx : w.cell? ⟨bx, 0, none⟩ = some (.int .i64 q)) (hbx : bx < w.heap.size) :
    Calls Try.prog 122 #[.slice (some ⟨bx, 0, none⟩) 1 cx, .int .i64 (n : Int)] w fun e w' => e = .returned (.slice (some ⟨w.heap.size, 0, none⟩) n n) ∧ Arr w' w.heap.size 76 (List.replicate n q) ∧ Below w.heap.size w w' := by
  have hmk := run_make_row' (P := Try.prog) 49 76 (.int .i64 0) 8 Try.underlying49 infoItems rfl .i64 .i64 n (by omega) (by omega)
  have hw1 : IntKind.u64.wrap (n : Int) = (n : Int) := by rw [IntKind.wrap_u64]; omega
  have hw2 : IntKind.i64.wrap (n : Int) = (n : Int) := by rw [IntKind.wrap_i64]; omega
  have hsz : (Try.prog.info? 76).map (·.size) = some 1 := by kernel_rfl
  have hB0 : Below w.heap.size w (w.alloc (.cells (madeCells #[Value.int .i64 0] n) 76)) := (Below.refl _ _).alloc (Nat.le_refl _) _
  have aD : Arr (w.alloc (.cells (madeCells #[Value.int .i64 0] n) 76)) w.heap.size 76 (fillQ q n 0) := by
    have := Arr.new w 76 n
    unfold fillQ
    simpa using this
  have hcx : (w.alloc (.cells (madeCells #[Value.int .i64 0] n) 76)).cell? ⟨bx, 0, none⟩ = some (.int .i64 q) := by
    rw [World.cell?_alloc_lt _ _ ⟨bx, 0, none⟩ hbx]; exact hx
  obtain ⟨C0, hC0⟩ : ∃ C0, min 1 n = C0 := ⟨_, rfl⟩
  have hfl := fillq_len q n 0 (by omega)
  have hsp := fillq_splice (q := q) (n := n) (k := 0) (c := C0) (by omega)
  have hcl : ((List.replicate C0 q).map (Value.int .i64)).length = C0 := by simp
  have hcm : ∀ (j : Nat) (v : Value), ((List.replicate C0 q).map (Value.int .i64))[j]? = some v → v = .int .i64 q ∧ j < C0 := fun j v h => by
    simp only [List.map_replicate, List.getElem?_replicate] at h
    split at h
    · exact ⟨(Option.some.inj h).symm, by assumption⟩
    · cases h
  have h1m : ∀ v ∈ (List.replicate C0 q).map (Value.int .i64), v.oneCell' = true := fun v hv => by
    simp only [List.map_replicate] at hv
    rw [List.eq_of_mem_replicate hv]
    rfl
  rw [Nat.zero_add] at hsp
  unfold Arr at aD
  obtain ⟨cs, hcs⟩ : ∃ cs, (List.replicate C0 q).map (Value.int .i64) = cs := ⟨_, rfl⟩
  obtain ⟨cur, hcur⟩ : ∃ cur, (fillQ q n 0).map (Value.int .i64) = cur := ⟨_, rfl⟩
  have hcul : cur.length = n := by rw [← hcur, List.length_map, hfl]
  rw [hcs] at hsp hcl hcm h1m
  rw [hcur] at hsp aD
  have Hsp := Lib.hid hsp
  clear hcs hcur hsp hfl
  have h9 : decide (9223372036854775807 < (n : Int)) = false := decide_eq_false (by omega)
  have h0 : decide ((n : Int) < 0) = false := decide_eq_false (by omega)
  have hn0 : cs.length = Nat.min 1 n := by rw [hcl]; exact hC0.symm
  have hq0 : ∀ (j : Nat) (v : Value), cs[j]? = some v → (w.alloc (.cells (madeCells #[Value.int .i64 0] n) 76)).cell? ((⟨bx, 0, none⟩ : Addr).add j) = some v := fun j v hj => by
    obtain ⟨rfl, hjc⟩ := hcm j v hj
    obtain rfl : j = 0 := by omega
    simpa [Addr.add] using hcx
  have hfit0 : 0 + cs.length ≤ cur.length := by rw [hcl, hcul]; omega
  have HN0 := Lib.hid hn0
  have HP0 := Lib.hid hq0
  have HF0 := Lib.hid hfit0
  have H1M := Lib.hid h1m
  have HAD := Lib.hid aD
  have HCL := Lib.hid hcl
  have HC0 := Lib.hid hC0
  clear hn0 hq0 hfit0 h1m aD hcl hcm hcx hC0 hcul
  go_enter Try.func122, Try.ntmps122
  go_wp2_with (first
    | (go_at_call 152; refine (mul_any n hn _).mono ?_; rintro e w' ⟨rfl, rfl⟩)
    | (refine wpList_copy_splice (o := ⟨some 33, _, _, _, _, _⟩) rfl (.tmp 31) (.tmp 32) 49 49 rfl 76 Try.underlying49 hsz (some ⟨w.heap.size, 0, none⟩) (some ⟨bx, 0, none⟩) n n 1 cx rfl rfl w.heap.size 0 cur 76 HAD.out cs HN0.out (fun _ => ⟨rfl, _, rfl, HP0.out⟩) HF0.out H1M.out w.heap.size w hB0 (Nat.le_refl _) ?_; intro w2 HG hb2; rw [HCL.out]))
  have HG2 := Lib.hid (show Arr w2 w.heap.size 76 (fillQ q n C0) by unfold Arr; rw [HG.out, Hsp.out])
  clear HG HAD hB0
  have hc1 : (1 ≤ C0 ∨ n = 0) ∧ C0 ≤ n := by have := HC0.out; omega
  go_loopw [8] (fun v wr => ∃ k : Nat, k ≤ n ∧ (1 ≤ k ∨ n = 0) ∧ v = .int .i64 (k : Int) ∧ Arr wr w.heap.size 76 (fillQ q n k) ∧ Below w.heap.size w wr) (fun v _ => n - (intOf v).toNat)
  case atStart => exact ⟨C0, hc1.2, hc1.1, rfl, HG2.out, hb2⟩
  case round =>
    clear hb2
    obtain ⟨k, hk, hk1, rfl, hAr, hBr⟩ := hrel
    rename World => wr
    by_cases hlt : k < n
    · have hkn : ¬ k = n := by omega
      obtain ⟨C1, hC1⟩ : ∃ C1, min k (n - k) = C1 := ⟨_, rfl⟩
      have hsp := fillq_splice (q := q) (n := n) (k := k) (c := C1) (by omega)
      obtain ⟨cs1, hcs1⟩ : ∃ cs1, (List.replicate C1 q).map (Value.int .i64) = cs1 := ⟨_, rfl⟩
      obtain ⟨cur1, hcur1⟩ : ∃ cur1, (fillQ q n k).map (Value.int .i64) = cur1 := ⟨_, rfl⟩
      have hcl1 : cs1.length = C1 := by rw [← hcs1]; simp
      have hcul : cur1.length = n := by rw [← hcur1, List.length_map, fillq_len q n k hk]
      have HN1 := Lib.hid (show cs1.length = Nat.min k (n - k) by rw [hcl1]; exact hC1.symm)
      have HF1 := Lib.hid (show k + cs1.length ≤ cur1.length by rw [hcl1, hcul]; omega)
      have H1N := Lib.hid (show ∀ v ∈ cs1, v.oneCell' = true from fun v hv => by
        rw [← hcs1, List.map_replicate] at hv
        rw [List.eq_of_mem_replicate hv]
        rfl)
      have HP1 := Lib.hid (show ∀ W : World, Arr W w.heap.size 76 (fillQ q n k) → ∀ (j : Nat) (v : Value), cs1[j]? = some v → W.cell? ((⟨w.heap.size, 0, none⟩ : Addr).add j) = some v from
        fun W hA j v hj => by
          have hjc : j < C1 := by rw [← hcl1]; exact (List.getElem?_eq_some_iff.1 hj).1
          have hv : v = .int .i64 q := by
            rw [← hcs1, List.map_replicate] at hj
            exact List.eq_of_mem_replicate (List.mem_of_getElem? hj)
          have hc := hA.cell (k := j) (by rw [fillq_len q n k hk]; omega)
          rw [fillq_get (by omega) hk] at hc
          have hadd : (⟨w.heap.size, 0, none⟩ : Addr).add j = ⟨w.heap.size, j, none⟩ := by unfold Addr.add; split <;> simp_all
          rw [hv, hadd]
          exact hc)
      rw [hcs1, hcur1] at hsp
      have Hsp1 := Lib.hid hsp
      have HCL1 := Lib.hid hcl1
      have HC1 := Lib.hid hC1
      have HCU := Lib.hid hcur1
      have HAr := Lib.hid (show Arr wr.drew w.heap.size 76 (fillQ q n k) from hAr)
      have hBd : Below w.heap.size w wr.drew := below_drewN hBr 1
      clear hsp hcs1 hcur1 hcl1 hcul hC1 hAr hBr
      go_wp2_with fail
      refine region_T (S := fun _ => True) 9 (by kernel_rfl) ?_
      obtain ⟨Wd, hWd⟩ : ∃ Wd, wr.drew = Wd := ⟨_, rfl⟩
      rw [hWd] at HAr hBd ⊢
      clear hWd
      have hT : (fun _ : World => True) Wd := trivial
      refine anyT_take (i := 0) (oi := ?oi0a) (v := .int .i64 (k : Int)) ?hi0a (by kernel_rfl) ?hq0a ?hy0a (by assumption) ?rest0a
      case hi0a => (simp only [List.getElem?_toArray, List.getElem?_cons_zero]; first | done | rfl)
      case hq0a => first | exact fun _ _ _ h => h | exact fun _ _ _ h => (by cases h.1)
      case hy0a => (refine Or.inl ⟨by rfl, ?_⟩; intro wz hSw; go_simp; first | done | with_reducible rfl | simp | omega)
      try simp only [Act.put, List.setIfInBounds_toArray, List.set_cons_zero, List.set_cons_succ]
      refine anyT_take (i := 1) (oi := ?oi1a) (v := .slice (some ⟨w.heap.size, 0, none⟩) n n) ?hi1a (by kernel_rfl) ?hq1a ?hy1a (by assumption) ?rest1a
      case hi1a => (simp only [List.getElem?_toArray, List.getElem?_cons_succ, List.getElem?_cons_zero]; first | done | rfl)
      case hq1a => first | exact fun _ _ _ h => h | exact fun _ _ _ h => (by cases h.1)
      case hy1a => (refine Or.inl ⟨by rfl, ?_⟩; intro wz hSw; go_simp; first | done | with_reducible rfl | simp | omega)
      try simp only [Act.put, List.setIfInBounds_toArray, List.set_cons_zero, List.set_cons_succ]
      refine anyT_take (i := 2) (oi := ?oi2a) (v := .int .i64 (k : Int)) ?hi2a (by kernel_rfl) ?hq2a ?hy2a (by assumption) ?rest2a
      case hi2a => (simp only [List.getElem?_toArray, List.getElem?_cons_succ, List.getElem?_cons_zero]; first | done | rfl)
      case hq2a => first | exact fun _ _ _ h => h | exact fun _ _ _ h => (by cases h.1)
      case hy2a => (refine Or.inl ⟨by rfl, ?_⟩; intro wz hSw; go_simp; first | done | with_reducible rfl | simp | omega)
      try simp only [Act.put, List.setIfInBounds_toArray, List.set_cons_zero, List.set_cons_succ]
      refine anyT_take (i := 3) (oi := ?oi3a) (v := .slice (some ⟨w.heap.size, k, none⟩) (n - k) (n - k)) ?hi3a (by kernel_rfl) ?hq3a ?hy3a (by assumption) ?rest3a
      case hi3a => (simp only [List.getElem?_toArray, List.getElem?_cons_succ, List.getElem?_cons_zero]; first | done | rfl)
      case hq3a => first | exact fun _ _ _ h => h | exact fun _ _ _ h => (by cases h.1)
      case hy3a => (refine Or.inl ⟨by rfl, ?_⟩; intro wz hSw; go_simp; first | done | with_reducible rfl | simp | omega)
      try simp only [Act.put, List.setIfInBounds_toArray, List.set_cons_zero, List.set_cons_succ]
      refine anyT_take (i := 4) (oi := ?oi4a) (v := .slice (some ⟨w.heap.size, 0, none⟩) n n) ?hi4a (by kernel_rfl) ?hq4a ?hy4a (by assumption) ?rest4a
      case hi4a => (simp only [List.getElem?_toArray, List.getElem?_cons_succ, List.getElem?_cons_zero]; first | done | rfl)
      case hq4a => first | exact fun _ _ _ h => h | exact fun _ _ _ h => (by cases h.1)
      case hy4a => (refine Or.inl ⟨by rfl, ?_⟩; intro wz hSw; go_simp; first | done | with_reducible rfl | simp | omega)
      try simp only [Act.put, List.setIfInBounds_toArray, List.set_cons_zero, List.set_cons_succ]
      refine anyT_take (i := 5) (oi := ?oi5a) (v := .int .i64 (k : Int)) ?hi5a (by kernel_rfl) ?hq5a ?hy5a (by assumption) ?rest5a
      case hi5a => (simp only [List.getElem?_toArray, List.getElem?_cons_succ, List.getElem?_cons_zero]; first | done | rfl)
      case hq5a => first | exact fun _ _ _ h => h | exact fun _ _ _ h => (by cases h.1)
      case hy5a => (refine Or.inl ⟨by rfl, ?_⟩; intro wz hSw; go_simp; first | done | with_reducible rfl | simp | omega)
      try simp only [Act.put, List.setIfInBounds_toArray, List.set_cons_zero, List.set_cons_succ]
      refine anyT_take (i := 6) (oi := ?oi6a) (v := .slice (some ⟨w.heap.size, 0, none⟩) k n) ?hi6a (by kernel_rfl) ?hq6a ?hy6a (by assumption) ?rest6a
      case hi6a => (simp only [List.getElem?_toArray, List.getElem?_cons_succ, List.getElem?_cons_zero]; first | done | rfl)
      case hq6a => first | exact fun _ _ _ h => h | exact fun _ _ _ h => (by cases h.1)
      case hy6a => (refine Or.inl ⟨by rfl, ?_⟩; intro wz hSw; go_simp; first | done | with_reducible rfl | simp | omega)
      try simp only [Act.put, List.setIfInBounds_toArray, List.set_cons_zero, List.set_cons_succ]
      refine anyT_one (i := 7) (by kernel_rfl) rfl (fun K' hK => ?_)
      refine step_copy_splice rfl (.tmp 41) (.tmp 44) 49 49 rfl 76 Try.underlying49 hsz (some ⟨w.heap.size, k, none⟩) (some ⟨w.heap.size, 0, none⟩) (n - k) (n - k) k n rfl rfl w.heap.size k cur1 76 (by rw [← HCU.out]; exact HAr.out) cs1 HN1.out (fun _ => ⟨rfl, _, rfl, HP1.out Wd HAr.out⟩) HF1.out H1N.out w.heap.size w hBd (Nat.le_refl _) ?_
      intro w3 HG3 hb3
      rw [HCL1.out]
      refine hK.out _ _ (fun _ => trivial) ?_
      clear hK K'
      try simp only [Act.put, List.setIfInBounds_toArray, List.set_cons_zero, List.set_cons_succ]
      have hT3 : (fun _ : World => True) w3 := trivial
      have hc1 := HC1.out
      have hwk : IntKind.i64.wrap ((k : Int) + (C1 : Int)) = ((k + C1 : Nat) : Int) := by rw [IntKind.wrap_i64]; omega
      refine anyT_take (i := 8) (oi := ?oi8a) (v := .int .i64 ((k + C1 : Nat) : Int)) ?hi8a (by kernel_rfl) ?hq8a ?hy8a (by assumption) ?rest8a
      case hi8a => (simp only [List.getElem?_toArray, List.getElem?_cons_succ, List.getElem?_cons_zero]; first | done | rfl)
      case hq8a => first | exact fun _ _ _ h => h | exact fun _ _ _ h => (by cases h.1)
      case hy8a => (refine Or.inl ⟨by rfl, ?_⟩; intro wz hSw; go_simp; first | done | with_reducible rfl | simp [hwk] | omega)
      try simp only [Act.put, List.setIfInBounds_toArray, List.set_cons_zero, List.set_cons_succ]
      clear hwk
      refine anyT_one (i := 9) (by kernel_rfl) rfl (fun K' hK => ?_)
      go_simp
      refine hK.out _ _ (fun h => absurd rfl h) ?_
      clear hK K'
      try simp only [Act.put, List.setIfInBounds_toArray, List.set_cons_zero, List.set_cons_succ]
      refine anyT_done (by kernel_rfl) ?_ _
      have hA3 : Arr w3 w.heap.size 76 (fillQ q n (k + C1)) := by unfold Arr; rw [HG3.out, Hsp1.out]
      go_wp2_with fail
      go_roundw
      case rel => exact ⟨k + C1, by omega, by omega, rfl, hA3, hb3⟩
      case measure => simp [intOf]; omega
    · obtain rfl : k = n := by omega
      rw [fillq_all] at hAr
      go_wp2
      go_ret
      exact ⟨rfl, hAr, hBr⟩
end Go.Proofs.Ytghogabmkbadjab

/- Texts that several claims share, one behind the other. -/
import Derived.Test.YtghogabmkbadjaaDoorLineI
import Derived.Test.YtghogabmkbadjaaDoorGc
import Derived.Test.YtghogabmkbadjaaDoorGxa
import Derived.Maps.OwnIn
set_option linter.unusedVariables false
set_option linter.unusedSimpArgs false
/- How many ways what is left is lined up: the program's count, with what it has counted before in a map. -/
namespace Go.Proofs.YtghogabmkbadjaaDoor
open Go.RowKit Go.Shelf
attribute [local go_sem] Oper.semAt_some
attribute [local go_sem, local simp] wide_fn

/-- A set, as a key. -/
def keyN (s : Nat) : Lit := .int .i64 (s : Int)
theorem keyN_wf {s : Nat} (hs : s < 64) : (Lit.int .i64 (s : Int)).wf = true := by
  simp [Lit.wf, IntKind.min, IntKind.max, IntKind.signed, IntKind.bits]; omega
/-- The map in block m, written at most k times, holds counts that are right. -/
def MapOk (zs : List Int) (w : World) (m k : Nat) : Prop := ∃ D : DataW Unit, w.ownsMap Tryd.prog 43 (plainElem Tryd.prog 3) m k D ∧
  ∀ s : Nat, s < 64 → Maps.has D (keyN s) = true → ∀ d, D.atKey (keyN s) d = .lit (.int .i64 (cF zs s))
theorem MapOk.lt {zs : List Int} {w : World} {m k : Nat} (h : MapOk zs w m k) : m < w.heap.size := by
  obtain ⟨D, ⟨es, clock, hb, _⟩, _⟩ := h
  exact (Array.getElem?_eq_some_iff.1 hb).1
theorem MapOk.upd {zs : List Int} {w w' : World} {m k : Nat} {R : Nat → Prop} (h : MapOk zs w m k) (hu : Upd R w w') (hr : ¬ R m) : MapOk zs w' m k := by
  have hl := h.lt
  obtain ⟨D, ⟨es, clock, hb, r⟩, hin⟩ := h
  exact ⟨D, ⟨es, clock, (hu.block m hl hr).trans hb, r⟩, hin⟩
theorem MapOk.mono {zs : List Int} {w : World} {m k k' : Nat} (h : MapOk zs w m k) (hk : k ≤ k') : MapOk zs w m k' := by
  obtain ⟨D, h1, h2⟩ := h
  exact ⟨D, h1.mono hk, h2⟩
theorem MapOk.new {zs : List Int} {w : World} {m : Nat} (h : w.heap[m]? = some (.map #[] 0)) : MapOk zs w m 0 := by
  obtain ⟨es, clock, hb, F, hs, hD⟩ := World.ownsMap_made (H := Unit) w Tryd.prog 43 (plainElem Tryd.prog 3)
  rw [heap_alloc_new] at hb
  cases hb
  refine ⟨.map [], ⟨#[], 0, h, F, hs, hD⟩, fun s _ hh => ?_⟩
  simp [Maps.has] at hh
theorem keyed : Go.Maps.Keyed Tryd.prog 43 := Go.Maps.int_keyed Tryd.underlying43
theorem key_of {s : Nat} (hs : s < 64) : keyOf Tryd.prog 43 (.int .i64 (s : Int)) = some (keyN s) := Go.Maps.keyOf_int_mk Tryd.underlying43 (keyN_wf hs)
theorem keyN_lit (s : Nat) : WideAt.IsKeyLit (keyN s) := trivial
theorem MapOk.put {zs : List Int} {w : World} {m k s : Nat} {D : DataW Unit} (h : ∀ t : Nat, t < 64 → Maps.has D (keyN t) = true → ∀ d, D.atKey (keyN t) d = .lit (.int .i64 (cF zs t)))
    (hm : Maps.IsMap D) (hw : w.ownsMap Tryd.prog 43 (plainElem Tryd.prog 3) m k (D.put (keyN s) (.lit (.int .i64 (cF zs s))))) : MapOk zs w m k := by
  refine ⟨_, hw, fun t ht hh d => ?_⟩
  by_cases hts : t = s
  · subst hts
    exact Maps.atKey_put_same hm (keyN_lit t) _ _
  · have hne : keyN t ≠ keyN s := fun e => by unfold keyN at e; injection e with _ e; omega
    rw [Maps.atKey_put_other hne]
    rw [Maps.has_put_other hne] at hh
    exact h t ht hh d
theorem zero_int (w : World) : (zeroValue 3).run Tryd.prog w = .ok (.int .i64 0) w := by kernel_rfl

set_option maxRecDepth 100000 in
set_option maxHeartbeats 4000000 in
theorem lcount_any (zs : List Int) (hvo : VoP zs) (n : Nat) (hlen0 : zs.length = n) (b m : Nat) (hbm : b ≠ m) : ∀ (N s k : Nat) (w : World), s ≤ N → s < 2 ^ n → Arr w b 43 (du zs) → MapOk zs w m k → k + writes s ≤ 100000000 →
    Calls Tryd.prog 40 #[lineV b m n, .int .i64 (s : Int)] w fun e w' => e = .returned (.int .i64 (cF zs s)) ∧ MapOk zs w' m (k + writes s) ∧ Upd (fun i => i = m) w w' := by
    intro N
    refine Nat.strongRecOn N fun N ih => ?_
    intro s k w hN hs hA hM hk
    have hlen := Lib.hid hlen0
    have hn6 : n ≤ 6 := by have := hvo.1; rw [hlen0] at this; exact this
    have hs64 : s < 64 := Nat.lt_of_lt_of_le hs (pow_le64 hn6)
    have hwr := writes_le hs64
    have hml := hM.lt
    have hbl := hA.lt
    clear hlen0
    have hM0 := hM
    obtain ⟨D, hown, hin⟩ := hM
    have Hin := Lib.hid hin
    clear hin
    unfold lineV
    by_cases h0 : s = 0
    · subst h0
      have Hc := Lib.hid (cF_zero zs)
      go_enter Tryd.func40, Tryd.ntmps40
      go_wp2
      go_ret
      exact ⟨ret_int (by rw [Hc.out]; rfl), (hM0.upd (((Upd.refl (fun _ => False) w).alloc _).alloc _) (fun e => e)).mono (by omega), (((Upd.refl _ w).alloc _).alloc _)⟩
    · have hsb : ((s : Int) == 0) = false := by simpa using h0
      have hz : ∀ w, (zeroValue 3).run Tryd.prog w = .ok (.int .i64 0) w := zero_int
      cases hh : Maps.has D (keyN s)
      · refine (callsIn_wide (n := 9)).1 ?_
        refine callsIn_of_wp_marks Tryd.func40 rfl trivial ?_ rfl
        simp only [Tryd.ntmps40, List.size_toArray, List.length_cons, List.length_nil, Nat.reduceAdd, Nat.reduceSub, Array.replicate_succ, Array.replicate_zero, List.push_toArray, List.append_toArray, List.nil_append, List.cons_append]
        have hN := Lib.hid (show powI n = ((2 ^ n : Nat) : Int) by simp [powI])
        have bL : (((w.alloc (.cells #[Value.slice (some ⟨b, 0, none⟩) n n, .map (some m)] 54)).alloc (.cells #[Value.int .i64 (s : Int)] 43)).alloc (.cells #[Value.int .i64 0] 3)).heap[w.heap.size]? = some (.cells #[Value.slice (some ⟨b, 0, none⟩) n n, .map (some m)] 54 (0, 0)) := ((Below.heap_alloc _ _ _ (by simp; omega)).trans (Below.heap_alloc _ _ _ (by simp))).trans (heap_alloc_new w _)
        have bS := (Boxed.new (w.alloc (.cells #[Value.slice (some ⟨b, 0, none⟩) n n, .map (some m)] 54)) 43 (.int .i64 (s : Int))).alloc (.cells #[Value.int .i64 0] 3)
        have bC := Boxed.new ((w.alloc (.cells #[Value.slice (some ⟨b, 0, none⟩) n n, .map (some m)] 54)).alloc (.cells #[Value.int .i64 (s : Int)] 43)) 3 (.int .i64 0)
        have hu0 : Upd (fun _ => False) w (((w.alloc (.cells #[Value.slice (some ⟨b, 0, none⟩) n n, .map (some m)] 54)).alloc (.cells #[Value.int .i64 (s : Int)] 43)).alloc (.cells #[Value.int .i64 0] 3)) := (((Upd.refl _ w).alloc _).alloc _).alloc _
        have hz0 : (((w.alloc (.cells #[Value.slice (some ⟨b, 0, none⟩) n n, .map (some m)] 54)).alloc (.cells #[Value.int .i64 (s : Int)] 43)).alloc (.cells #[Value.int .i64 0] 3)).heap.size = w.heap.size + 3 := by simp
        simp only [World.size_alloc] at bS bC
        gi_wp2_with (first
          | (gi_at_lookup; refine wpListIn_lookup_own_ok_int _ rfl _ _ _ rfl 43 3 .i64 keyed Tryd.underlying52 Tryd.underlying3 (zero_int _) m k D rfl ((hown.alloc _).alloc _) _ (keyN s) rfl (key_of hs64) ?_; rw [hh]; intro c hat hwc)
          | (refine wpListIn_load_row rfl _ _ rfl w.heap.size rfl _ _ (0, 0) _ bL Tryd.underlying54 rfl (by kernel_rfl) ?_))
        clear hat hwc
        obtain ⟨X, hX⟩ : ∃ X, (((w.alloc (.cells #[Value.slice (some ⟨b, 0, none⟩) n n, .map (some m)] 54)).alloc (.cells #[Value.int .i64 (s : Int)] 43)).alloc (.cells #[Value.int .i64 0] 3)) = X := ⟨_, rfl⟩
        rw [hX] at bL bS bC hu0 hz0 ⊢
        clear hX
        have hAX : Arr X b 43 (du zs) := hA.upd hu0 (fun e => e)
        have hpos := powI_pos (n : Int)
        have hNs : (s : Int) < powI n := by rw [hN.out]; omega
        refine (callsIn_wide.2 (free_any b m n zs s hvo.sets X (hAX.ints' hAX.lt (by rw [du_len, hlen.out])) (by omega) hNs)).mono ?_
        rintro e w4 ⟨rfl, hB4⟩
        have z4 := hB4.size
        have hT := topsTo_bd (du zs) (s : Int) n
        have hpn : powI n ≤ 64 := powI_le6 (by omega)
        have Hnx := Lib.hid (show itemsL (topsTo (du zs) (s : Int) n) = nextL zs s by unfold nextL; rw [hlen.out])
        generalize topsTo (du zs) (s : Int) n = T at *
        gi_wp2_with (gi_at_call 53; refine (callsIn_wide.2 (each_any _ _)).mono ?_; rintro e w' ⟨rfl, rfl⟩)
        have bE := Boxed.new w4 43 (.int .i64 T)
        have hu4 : Upd (fun _ => False) X (w4.alloc (.cells #[Value.int .i64 T] 43)) := ((Upd.refl _ X).below hB4 (fun k h1 h2 => by omega)).alloc _
        have hzz : (w4.alloc (.cells #[Value.int .i64 T] 43)).heap.size = w4.heap.size + 1 := by simp
        obtain ⟨W0, hW0⟩ : ∃ W0, w4.alloc (.cells #[Value.int .i64 T] 43) = W0 := ⟨_, rfl⟩
        rw [hW0] at bE hu4 hzz ⊢
        clear hW0
        have hA0 := hAX.upd hu4 (fun e => e)
        have hM1 := (hM0.upd hu0 (fun e => e)).upd hu4 (fun e => e)
        have bL0 := (hu4.block w.heap.size (by omega) (fun e => e)).trans bL
        have bS0 := hu4.boxed bS (fun e => e)
        have bC0 := hu4.boxed bC (fun e => e)
        have hU0 : Upd (fun _ => False) w W0 := hu0.trans' hu4 (fun i hi e => e)
        clear hu0 hu4 bL bS bC hAX hB4
        refine range_out (n := 9) (gf := 61) (lb := #[.pointer (some ⟨w4.heap.size, 0, none⟩)]) rfl (enters_of Tryd.func61 (by kernel_rfl) rfl) (encs := encI) (L := itemsL T)
          (fun i => i = m ∨ i = w.heap.size + 1 + 1) (fun i e => by omega) (fun _ => rfl)
          (fun W1 l1 hu1 hl1 hl2 => each_iter T hT.1 (by omega) _ _ W1 (hu1.boxed bE (fun e => e)) (fun e => by omega))
          (fun pre D W => Boxed W (w.heap.size + 1 + 1) 3 (.int .i64 (accF zs s pre : Int)) ∧ MapOk zs W m (k + pre.length * (writes s / 7)) ∧ Upd (fun i => i = m ∨ i = w.heap.size + 1 + 1) W0 W)
          (fun _ _ _ _ => False)
          (fun _ D X Y hs hu => ⟨hu.boxed hs.1 (fun e => by omega), hs.2.1.upd hu (fun e => by omega), hs.2.2.trans' hu (fun i hi e => by omega)⟩)
          (fun _ _ _ _ _ hs _ => hs)
          ⟨bC0, by simpa using hM1, Upd.refl _ _⟩ ?owes ?done ?stop
        case owes =>
          rintro l1 pre x D1 W hl1 hl2 hDl hD1 - hpre K hK
          gi_wp2
          refine hK _ _ (Upd.refl _ _) ?_
          rintro Wb hWb - ⟨bC1, hM2, hU⟩
          clear hK
          rw [Hnx.out] at hpre
          obtain ⟨hxn, hxb⟩ := nextL_mem hvo (hpre.subset (by simp : x ∈ pre ++ [x]))
          rw [hlen.out] at hxn
          have hge := ge_bit_fin ⟨s, hs64⟩ ⟨x, by omega⟩ hxb
          simp only at hge
          have hpx := Nat.two_pow_pos x
          have Hacc := Lib.hid (accF_snoc zs s pre x)
          have hab := accF_le hvo h0 (by rw [hlen.out]; exact hs) hpre
          rw [Hacc.out] at hab
          have Hwo := Lib.hid (without_is hs64 (show x < 6 by omega) hxb)
          have hwx := writes_sub hs64 (show x < 6 by omega) hxb
          have hpl : pre.length + 1 ≤ 6 := by
            have h1 := hpre.length_le
            have h2 := nextL_len hvo s
            simp at h1; omega
          have hsb2 := hU.size
          have hsb : w.heap.size + 3 ≤ Wb.heap.size := by omega
          have bC1d : Boxed Wb.drew (w.heap.size + 1 + 1) 3 (.int .i64 (accF zs s pre : Int)) := bC1
          have bSb := hU.boxed bS0 (fun e => by omega)
          have bLb := (hU.block w.heap.size (by omega) (fun e => by omega)).trans bL0
          have hAb : Arr Wb b 43 (du zs) := hA0.upd hU (fun e => by omega)
          have hAd : Arr Wb.drew b 43 (du zs) := hAb
          have hMd : MapOk zs Wb.drew m (k + pre.length * (writes s / 7)) := hM2
          have hw7 : writes s / 7 = writes (s - 2 ^ x) := by omega
          rw [hw7] at hMd
          have hq1 := (writes_le (show s - 2 ^ x < 64 by omega)).1
          have hmul : pre.length * writes (s - 2 ^ x) ≤ 5 * writes (s - 2 ^ x) := Nat.mul_le_mul_right _ (by omega)
          have hrec := fun w' hA' hM' => ih (s - 2 ^ x) (by omega) (s - 2 ^ x) (k + pre.length * writes (s - 2 ^ x)) w' (Nat.le_refl _) (by omega) hA' hM' (by omega)
          have Hw7 := Lib.hid hw7
          have Hlen2 := Lib.hid (show k + pre.length * writes (s - 2 ^ x) + writes (s - 2 ^ x) = k + (pre ++ [x]).length * writes (s - 2 ^ x) by rw [List.length_append, List.length_singleton, Nat.add_mul]; omega)
          clear hw7 hwx
          generalize hacc : accF zs s pre = acc at *
          clear hacc
          obtain ⟨c, hc⟩ : ∃ c, cF zs (s - 2 ^ x) = c := ⟨_, rfl⟩
          rw [hc] at hab Hacc
          simp only [hc] at hrec
          clear hc
          have hsum : IntKind.i64.wrap ((acc : Int) + (c : Int)) = ((acc + c : Nat) : Int) := by rw [IntKind.wrap_i64]; omega
          have hHeld : (fun w' => w'.cell? ⟨w.heap.size + 1 + 1, 0, none⟩ = some (.int .i64 (acc : Int)) ∧ w'.heap[w.heap.size]? = some (.cells #[Value.slice (some ⟨b, 0, none⟩) n n, .map (some m)] 54 (0, 0)) ∧ w'.cell? ⟨w.heap.size + 1, 0, none⟩ = some (.int .i64 (s : Int))) Wb.drew := ⟨bC1.cell, bLb, bSb.cell⟩
          gi_wp2
          refine region_T_round (S := fun w' => w'.cell? ⟨w.heap.size + 1 + 1, 0, none⟩ = some (.int .i64 (acc : Int)) ∧ w'.heap[w.heap.size]? = some (.cells #[Value.slice (some ⟨b, 0, none⟩) n n, .map (some m)] 54 (0, 0)) ∧ w'.cell? ⟨w.heap.size + 1, 0, none⟩ = some (.int .i64 (s : Int))) 7 (by kernel_rfl) (by kernel_rfl) (by rintro ⟨_, _, h⟩; exact h) ?_
          refine anyT_take (i := 0) (oi := ?oi0) (v := ?v0) ?hi0 (by kernel_rfl) ?hq0 ?hy0 (by assumption) ?rest0
          case hi0 => (simp only [List.getElem?_toArray, List.getElem?_cons_zero]; first | done | rfl)
          case hq0 => exact fun _ _ _ h => h
          case hy0 => (refine Or.inl ⟨by rfl, ?_⟩; intro wz hSw; obtain ⟨hSa, hSb, hSc⟩ := hSw; go_simp; first | done | with_reducible rfl)
          try simp only [Act.put, List.setIfInBounds_toArray, List.set_cons_zero, List.set_cons_succ]
          refine anyT_take (i := 1) (oi := ?oi1) (v := .agg #[Value.slice (some ⟨b, 0, none⟩) n n, .map (some m)]) ?hi1 (by kernel_rfl) ?hq1 ?hy1 (by assumption) ?rest1
          case hi1 => (simp only [List.getElem?_toArray, List.getElem?_cons_succ, List.getElem?_cons_zero]; first | done | rfl)
          case hq1 => exact fun _ _ _ h => h
          case hy1 => exact yieldsIf_load_row (by rfl) _ _ rfl _ rfl _ _ _ (fun _ h => h.2.1) Tryd.underlying54 rfl (by kernel_rfl)
          try simp only [Act.put, List.setIfInBounds_toArray, List.set_cons_zero, List.set_cons_succ]
          refine anyT_take (i := 2) (oi := ?oi2) (v := ?v2) ?hi2 (by kernel_rfl) ?hq2 ?hy2 (by assumption) ?rest2
          case hi2 => (simp only [List.getElem?_toArray, List.getElem?_cons_succ, List.getElem?_cons_zero]; first | done | rfl)
          case hq2 => exact fun _ _ _ h => h
          case hy2 => (refine Or.inl ⟨by rfl, ?_⟩; intro wz hSw; obtain ⟨hSa, hSb, hSc⟩ := hSw; go_simp; first | done | with_reducible rfl)
          try simp only [Act.put, List.setIfInBounds_toArray, List.set_cons_zero, List.set_cons_succ]
          refine anyT_take (i := 3) (oi := ?oi3) (v := ?v3) ?hi3 (by kernel_rfl) ?hq3 ?hy3 (by assumption) ?rest3
          case hi3 => (simp only [List.getElem?_toArray, List.getElem?_cons_succ, List.getElem?_cons_zero]; first | done | rfl)
          case hq3 => exact fun _ _ _ h => h
          case hy3 => (refine Or.inl ⟨by rfl, ?_⟩; intro wz hSw; obtain ⟨hSa, hSb, hSc⟩ := hSw; go_simp; first | done | with_reducible rfl)
          try simp only [Act.put, List.setIfInBounds_toArray, List.set_cons_zero, List.set_cons_succ]
          refine anyT_one (i := 4) (by kernel_rfl) rfl (fun K' hK => ?_)
          go_simp
          refine (without_any _ _ _ (by omega) (by omega) (by omega) (by omega)).mono ?_
          rintro e wq ⟨rfl, rfl⟩
          rw [Hwo.out]
          refine hK.out _ _ (fun _ => hHeld) ?_
          clear hK K'
          try simp only [Act.put, List.setIfInBounds_toArray, List.set_cons_zero, List.set_cons_succ]
          refine anyT_one (i := 5) (by kernel_rfl) rfl (fun K' hK => ?_)
          go_simp
          refine (hrec Wb.drew hAd hMd).mono ?_
          rintro e w6 ⟨rfl, hM6, hU6⟩
          have h6 : (fun w' => w'.cell? ⟨w.heap.size + 1 + 1, 0, none⟩ = some (.int .i64 (acc : Int)) ∧ w'.heap[w.heap.size]? = some (.cells #[Value.slice (some ⟨b, 0, none⟩) n n, .map (some m)] 54 (0, 0)) ∧ w'.cell? ⟨w.heap.size + 1, 0, none⟩ = some (.int .i64 (s : Int))) w6 := ⟨hU6.cell hHeld.1 (by simp; omega), (hU6.block w.heap.size (by have := hsb; simp; omega) (by omega)).trans hHeld.2.1, hU6.cell hHeld.2.2 (by simp; omega)⟩
          refine hK.out _ _ (fun _ => h6) ?_
          clear hK K' hHeld
          have hHeld := h6
          try simp only [Act.put, List.setIfInBounds_toArray, List.set_cons_zero, List.set_cons_succ]
          refine anyT_take (i := 6) (oi := ?oi6) (v := .int .i64 ((acc + c : Nat) : Int)) ?hi6 (by kernel_rfl) ?hq6 ?hy6 (by assumption) ?rest6
          case hi6 => (simp only [List.getElem?_toArray, List.getElem?_cons_succ, List.getElem?_cons_zero]; first | done | rfl)
          case hq6 => exact fun _ _ _ h => h
          case hy6 => (refine Or.inl ⟨by rfl, ?_⟩; intro wz hSw; obtain ⟨hSa, hSb, hSc⟩ := hSw; go_simp; first | done | with_reducible rfl | simp)
          try simp only [Act.put, List.setIfInBounds_toArray, List.set_cons_zero, List.set_cons_succ]
          have hcC6 := h6.1
          have hfC6 := (hU6.boxed (v := .int .i64 (acc : Int)) (t := 3) bC1d (by omega)).frozen
          refine anyT_one (i := 7) (by kernel_rfl) rfl (fun K' hK => ?_)
          go_simp
          refine hK.out _ _ (fun h => absurd rfl h) ?_
          clear hK K'
          try simp only [Act.put, List.setIfInBounds_toArray, List.set_cons_zero, List.set_cons_succ]
          refine anyT_done (by kernel_rfl) ?_ _
          have bC6 : Boxed w6 (w.heap.size + 1 + 1) 3 (.int .i64 (acc : Int)) := hU6.boxed bC1d (by omega)
          have hz6 : Wb.heap.size ≤ w6.heap.size := hU6.size
          have hus : Upd (fun i => i = w.heap.size + 1 + 1) w6 (w6.setCell ⟨w.heap.size + 1 + 1, 0, none⟩ (.int .i64 ((acc + c : Nat) : Int))) := (Upd.refl (fun i => i = w.heap.size + 1 + 1) w6).setCell (p := ⟨w.heap.size + 1 + 1, 0, none⟩) (.inr rfl) _
          have hM7 : MapOk zs w6 m (k + (pre ++ [x]).length * (writes s / 7)) := by rw [Hw7.out, ← Hlen2.out]; exact hM6
          have hU7 : Upd (fun i => i = m ∨ i = w.heap.size + 1 + 1) W0 w6 := hU.drew.trans' hU6 (fun i hi e => .inl e)
          have hV7 : Upd (fun i => (i = m ∨ i = w.heap.size + 1 + 1) ∨ D1 i ∨ W.heap.size ≤ i) Wb w6 := (Upd.refl _ Wb).drew.trans' hU6 (fun i hi e => .inl (.inl e))
          gi_wp2
          exact ⟨D1, ⟨by rw [Hacc.out]; exact bC6.set _, hM7.upd hus (fun e => by omega), hU7.setCell (p := ⟨w.heap.size + 1 + 1, 0, none⟩) (.inr (.inr rfl)) _⟩, hV7.setCell (p := ⟨w.heap.size + 1 + 1, 0, none⟩) (.inr (.inl (.inr rfl))) _, fun k hk => .inl hk⟩
        case done =>
          rintro d D1 W hd ⟨bC1, hM2, hU⟩ hD1 hKd
          rw [Hnx.out] at bC1 hM2
          rw [accF_all hvo h0] at bC1
          have hcf := cF_le hvo (s := s) (by rw [hlen.out]; exact hs)
          have hll := nextL_len hvo s
          have hfin : k + (nextL zs s).length * (writes s / 7) + 1 ≤ k + writes s := by
            by_cases hl0 : (nextL zs s).length = 0
            · rw [hl0, Nat.zero_mul]; omega
            · obtain ⟨x, hx⟩ := List.exists_mem_of_length_pos (show 0 < (nextL zs s).length by omega)
              obtain ⟨hxn, hxb⟩ := nextL_mem hvo hx
              rw [hlen.out] at hxn
              have hwx := writes_sub hs64 (show x < 6 by omega) hxb
              have hge := ge_bit_fin ⟨s, hs64⟩ ⟨x, by omega⟩ hxb
              simp only at hge
              have hpx := Nat.two_pow_pos x
              have hq1 := (writes_le (show s - 2 ^ x < 64 by omega)).1
              have hmul : (nextL zs s).length * (writes s / 7) ≤ 6 * (writes s / 7) := Nat.mul_le_mul_right _ hll
              generalize (nextL zs s).length * (writes s / 7) = P at *
              generalize writes (s - 2 ^ x) = q at *
              omega
          have hlt := (Array.getElem?_eq_some_iff.1 hKd).1
          have bLd := (hU.block w.heap.size (by omega) (fun e => by omega)).trans bL0
          have bSd := hU.boxed bS0 (fun e => by omega)
          have hcL : W.cell? ⟨w.heap.size, 1, none⟩ = some (.map (some m)) := by rw [cell_of_row W _ 1 _ _ (0, 0) bLd]; rfl
          have hcS := bSd.cell
          have hcC := bC1.cell
          have hmW := hM2.lt
          obtain ⟨D', hown', hin'⟩ := hM2
          have Hin' := Lib.hid hin'
          clear hin'
          have hval := plainElem_int (H := Unit) (P := Tryd.prog) Tryd.underlying3 (show (Lit.int .i64 (cF zs s : Int)).wf = true by simp [Lit.wf, IntKind.min, IntKind.max, IntKind.signed, IntKind.bits]; omega)
          have hkM : k + (nextL zs s).length * (writes s / 7) < maxLen := by unfold maxLen; omega
          have Hc0 : some m ≠ some (w.heap.size + 1 + 1) := fun e => by cases e; omega
          generalize hcc : cF zs s = cc at *
          have Hcc := Lib.hid hcc
          clear hcc
          gi_wp2_with (gi_at_mapUpdate; refine wpListIn_mapUpdate_own _ rfl _ _ _ _ rfl 43 3 keyed Tryd.underlying52 _ m _ D' rfl hown' hkM _ _ (keyN s) rfl rfl (key_of hs64) _ [] hval ?_; intro w1 hown1 hg1; have bC2 := bC1.kept hg1 (fun e => by cases e; omega); have hcC2 := bC2.cell)
          rename_i w1
          have hM9 : MapOk zs w1 m (k + (nextL zs s).length * (writes s / 7) + 1) := MapOk.put (s := s) Hin'.out hown'.isMap (by rw [Hcc.out]; exact hown1)
          have hU9 : Upd (fun i => i = m ∨ i = w.heap.size + 1 + 1) W0 w1 := hU.grown hg1 (fun i e => by cases e; exact .inr (.inl rfl))
          have hK9 : w1.heap[d]? = some _ := (hg1.block d hlt (fun e => by cases e; omega)).trans hKd
          refine leaves_marks [d] w1 ⟨by simp, fun e he => ?_⟩ (fun W' hu' => ?_)
          · rw [List.mem_singleton.1 he]
            exact hK9
          · refine ⟨.int .i64 (cc : Int), by simp [results, Tryd.f40, go_sem], ret_int (by rw [Hcc.out]), (hM9.upd hu' (fun e => by simp at e; omega)).mono hfin, ?_⟩
            exact ((hU0.mono fun _ _ e => e.elim).trans' hU9 (fun i hi e => by omega)).trans' hu' (fun i hi e => by simp at e; omega)
        case stop =>
          rintro d D1 co pre W hd hpre h
          exact h.elim
      · have Hat := Lib.hid (Hin.out s hs64 hh)
        go_enter Tryd.func40, Tryd.ntmps40
        go_wp2_with (at_lookup; refine wpList_lookup_own_ok_int _ rfl _ _ _ rfl 43 3 .i64 keyed Tryd.underlying52 Tryd.underlying3 (zero_int _) m k D rfl ((hown.alloc _).alloc _) _ (keyN s) rfl (key_of hs64) ?_; rw [hh]; intro c hat hwc)
        go_ret
        refine ⟨ret_int ?_, hM0.upd (((Upd.refl (fun _ => False) w).alloc _).alloc _) (fun e => e) |>.mono (by omega), (((Upd.refl _ w).alloc _).alloc _)⟩
        have := Hat.out (.lit (.int .i64 0))
        rw [hat] at this
        injection this with this
        injection this
end Go.Proofs.YtghogabmkbadjaaDoor

/- CountLines: the program's. -/
namespace Go.Proofs.YtghogabmkbadjaaDoor
open Go.RowKit Go.Shelf

theorem ocountLines_any (A : Option Addr) (n c : Nat) (zs : List Int) (hvo : VoP zs) (w : World) (hA : Ints w w.heap.size A n zs) :
    Calls Tryd.prog 23 #[.slice A n c] w fun e w' => e = .returned (.int .i64 (cF zs (2 ^ n - 1))) ∧ Below w.heap.size w w' := by
  have hlen := Lib.hid hA.len
  have hn6 : n ≤ 6 := by have := hvo.1; rw [hlen.out] at this; exact this
  have hp64 := pow_le64 hn6
  have hpp := Nat.two_pow_pos n
  have Hall := Lib.hid (show powI n - 1 = ((2 ^ n - 1 : Nat) : Int) by
    have : powI (n : Int) = ((2 ^ n : Nat) : Int) := by simp [powI]
    omega)
  have hwr := writes_le (show 2 ^ n - 1 < 64 by omega)
  go_enter Tryd.func23, Tryd.ntmps23
  go_wp2_with fail
  refine (lineup_any A n c zs hvo.sets w hA).mono ?_
  rintro e w1 ⟨b, m, rfl, hAr, hm, hb1, hm1, hbm, hB1⟩
  go_wp2_with fail
  refine (oall_any _ _ _ _ hn6).mono ?_
  rintro e w' ⟨rfl, rfl⟩
  rw [Hall.out]
  go_wp2_with fail
  refine (lcount_any zs hvo n hlen.out b m hbm _ (2 ^ n - 1) 0 w1 (Nat.le_refl _) (by omega) hAr (MapOk.new hm) (by omega)).mono ?_
  rintro e w2 ⟨rfl, -, hU⟩
  go_wp2_with fail
  go_ret
  exact ⟨rfl, hB1.trans (hU.toBelow (fun i e => by omega) hB1.size)⟩

theorem CountLines_any (A : Option Addr) (n c : Nat) (zs : List Int) (w : World) (h : Ints w w.heap.size A n zs) (hbig : n ≤ 1152921504606846976) :
    Calls Tryd.prog 10 #[.slice A n c] w fun e w' => e = .returned (.int .i64 (linesR zs)) ∧ Below w.heap.size w w' := by
  have hlen := Lib.hid h.len
  cases hv : vo zs
  · have Ht := Lib.hid (show linesR zs = -1 by unfold linesR; rw [hv]; rfl)
    have Hv := Lib.hid hv
    clear hv
    go_enter Tryd.func10, Tryd.ntmps10
    go_wp2_with fail
    refine (readOrder_any _ _ _ zs _ h hbig).mono ?_
    rintro e w' ⟨hB, (⟨hv, b, rfl, _, _⟩ | ⟨_, rfl⟩)⟩
    · rw [Hv.out] at hv; cases hv
    · go_wp2_with fail
      go_ret
      exact ⟨ret_int Ht.out.symm, hB⟩
  · have hvo : VoP zs := by simpa [vo] using hv
    have Hv := Lib.hid hv
    clear hv
    have Ht := Lib.hid (show linesR zs = (cF zs (2 ^ n - 1) : Int) by unfold linesR; rw [Hv.out, if_pos rfl, count_both hvo, hlen.out])
    go_enter Tryd.func10, Tryd.ntmps10
    go_wp2_with fail
    refine (readOrder_any _ _ _ zs _ h hbig).mono ?_
    rintro e w' ⟨hB, (⟨_, b, rfl, hb, hAr⟩ | ⟨hv, _⟩)⟩
    · go_wp2_with (go_at_call 23; refine (ocountLines_any _ _ _ zs hvo _ (hAr.ints' hAr.lt hlen.out)).mono ?_; rintro e w2 ⟨rfl, hB2⟩)
      go_ret
      exact ⟨ret_int Ht.out.symm, hB.trans (hB2.mono hB.size)⟩
    · rw [Hv.out] at hv; cases hv
end Go.Proofs.YtghogabmkbadjaaDoor

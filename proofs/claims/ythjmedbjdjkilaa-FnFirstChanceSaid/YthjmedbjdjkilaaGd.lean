/- Texts that several claims share, one behind the other. -/
import Derived.Test.YthjmedbjdjkilaaGc
import Derived.Test.YthjmedbjdjkilaaGb
/- One of both is ahead: what FirstChance's own law asks of the mathematics. No program. -/
namespace Go.Proofs.Ythjmedbjdjkilaa

section
variable {zs : List Int} {a b : Nat}
theorem fc_sum1 (h : VoP zs) (ha : a < zs.length) (hb : b < zs.length) (hab : a ≠ b) (hn : ¬ qB zs a b) : fcN zs a b + fcN zs b a = cF zs (2 ^ zs.length - 1) := by
  have hn6 := h.1
  have hp64 := pow_le64 hn6
  have hv := putA_vo (a := b) (b := a) h hb ha (fun e => hab e.symm) hn
  have h1 := by_item h ha
  have h2 := by_item hv (a := a) (by rw [putA_len]; exact ha)
  have h3 := fc_put (a := b) (b := a) h hb ha (fun e => hab e.symm) hn
  rw [putA_len] at h2
  rw [h3, ← h2, ← h1]
  unfold fcN
  rw [← sum_map_add]
  refine sum_congr fun s hs => ?_
  have hN := List.mem_range.1 hs
  cases hsa : s.testBit a
  · have hcG := cG_put (a := b) (b := a) h hb ha hv s s (Nat.le_refl _) hN hsa
    rw [hcG]
    by_cases hI : Ideal zs s
    · cases hle : (lessI ((du zs)[a]?.getD 0) (s : Int) == 0)
      · have e1 : mB zs a b s = false := by unfold mB; rw [hle]; simp
        have e2 : nextE zs s a = false := by unfold nextE; rw [hle]; simp
        have e3 : nextE (putA zs b a) s a = false := by
          cases e : nextE (putA zs b a) s a
          · rfl
          · unfold nextE at e
            rw [Bool.and_eq_true, beq_iff_eq, less_zero] at e
            have : (lessI ((du zs)[a]?.getD 0) (s : Int) == 0) = true := by
              rw [beq_iff_eq, less_zero]
              intro j hj
              rw [du_bit h.sets] at hj
              exact e.2 j (by rw [du_bit hv.sets]; exact (putA_q h hb ha j a).2 (.inl hj))
            rw [this] at hle; cases hle
        rw [e1, e2, e3]; rfl
      · have e2 : nextE zs s a = true := by unfold nextE; rw [hsa, hle]; rfl
        cases hsb : s.testBit b
        · have e1 : mB zs a b s = true := by unfold mB; rw [hsa, hsb, hle]; rfl
          have e3 : nextE (putA zs b a) s a = false := by
            cases e : nextE (putA zs b a) s a
            · rfl
            · unfold nextE at e
              rw [Bool.and_eq_true, beq_iff_eq, less_zero] at e
              have := e.2 b (by rw [du_bit hv.sets]; exact (putA_q h hb ha b a).2 (.inr ⟨.inl rfl, .inl rfl⟩))
              rw [hsb] at this; cases this
          rw [e1, e2, e3]; simp
        · have e1 : mB zs a b s = false := by unfold mB; rw [hsb]; simp
          have hbl : ∀ y, qB zs y b → s.testBit y = true := fun y hy => hI y b hsb (by rw [du_bit h.sets]; exact hy)
          have e3 : nextE (putA zs b a) s a = true := by
            unfold nextE
            rw [hsa]
            have : (lessI ((du (putA zs b a))[a]?.getD 0) (s : Int) == 0) = true := by
              rw [beq_iff_eq, less_zero]
              intro j hj
              rw [du_bit hv.sets] at hj
              rcases (putA_q h hb ha j a).1 hj with e | ⟨e, _⟩
              · exact less_zero.1 (beq_iff_eq.1 hle) j (by rw [du_bit h.sets]; exact e)
              · rcases e with e | e
                · rw [e]; exact hsb
                · exact hbl j e
            rw [this]; rfl
          have hlt := add_lt_fin ⟨zs.length, by omega⟩ ⟨s, by omega⟩ ⟨a, by omega⟩ hN ha hsa
          simp only at hlt
          have hpa := Nat.two_pow_pos a
          have hcF := cF_put (a := b) (b := a) h hb ha hv _ (2 ^ zs.length - 1 - (s + 2 ^ a)) (Nat.le_refl _) (by omega) fun y hy => by
            have hyn := bit_lt (n := zs.length) (by omega) hy
            have hy2 := com_bit_fin ⟨zs.length, by omega⟩ ⟨s + 2 ^ a, by omega⟩ hlt ⟨y, by omega⟩
            have hy3 := add_bit_fin ⟨s, by omega⟩ ⟨a, by omega⟩ ⟨y, by omega⟩ hsa
            simp only at hy2 hy3
            rw [hy2, hy3] at hy
            simp only [Bool.and_eq_true, Bool.not_eq_true', Bool.or_eq_false_iff, decide_eq_false_iff_not] at hy
            refine ⟨fun e => (by have h9 := hy.2.1; rw [e] at h9; rw [hsb] at h9; cases h9), fun e => ?_⟩
            have := hbl y e
            rw [hy.2.1] at this; cases this
          rw [e1, e2, e3, hcF]; simp
    · have z : cG zs s = 0 := by
        rcases Nat.eq_zero_or_pos (cG zs s) with e | e
        · exact e
        · exact absurd (cG_ideal h s s (Nat.le_refl _) hN (by omega)) hI
      rw [z]; simp
  · have e1 : mB zs a b s = false := by unfold mB; rw [hsa]; rfl
    have e2 : nextE zs s a = false := by unfold nextE; rw [hsa]; rfl
    have e3 : nextE (putA zs b a) s a = false := by unfold nextE; rw [hsa]; rfl
    rw [e1, e2, e3]; rfl
theorem fc_sum (h : VoP zs) (ha : a < zs.length) (hb : b < zs.length) (hab : a ≠ b) : fcN zs a b + fcN zs b a = cF zs (2 ^ zs.length - 1) := by
  by_cases hn : qB zs a b
  · have hn2 : ¬ qB zs b a := fun e => q_irr h (q_trans h hn e)
    rw [Nat.add_comm]
    exact fc_sum1 h hb ha (fun e => hab e.symm) hn2
  · exact fc_sum1 h ha hb hab hn
end
/-- All that the law asks: the answers' numbers. -/
theorem fc_facts {zs : List Int} {a b : Int} (hok : fcOk zs a b = true) : ∃ (x y : Nat) (u v t : Int) (F : Nat), a = (x : Int) ∧ b = (y : Int) ∧ x < zs.length ∧ y < zs.length ∧ VoP zs ∧ fcOk zs b a = true ∧
    fcV zs a b = .agg #[.int .i64 u, .int .i64 t] ∧ fcV zs b a = .agg #[.int .i64 v, .int .i64 t] ∧ u + v = t ∧ (bitB (zs[x]?.getD 0) y = true → u = t) ∧ 1 ≤ t ∧ 0 ≤ u ∧ 0 ≤ v ∧ t ≤ 46656 ∧ linesR zs = (F : Int) ∧ F ≤ 46656 ∧ (F : Int).tmod t = 0 := by
  have hok2 := hok
  unfold fcOk at hok2
  rw [Bool.and_eq_true, Bool.and_eq_true, Bool.and_eq_true] at hok2
  obtain ⟨hv, ha, hb, hab⟩ := hok2
  have hvo : VoP zs := by simpa [vo] using hv
  have hokb : fcOk zs b a = true := by
    unfold fcOk
    rw [hv, ha, hb]
    have : (b == a) = false := by
      have h1 : ¬ a = b := by simpa using hab
      simpa using fun e : b = a => h1 e.symm
    rw [this]; rfl
  have ha' := ha
  have hb' := hb
  simp only [inB, decide_eq_true_eq] at ha' hb'
  obtain ⟨x, rfl⟩ := Int.eq_ofNat_of_zero_le ha'.1
  obtain ⟨y, rfl⟩ := Int.eq_ofNat_of_zero_le hb'.1
  have hxn : x < zs.length := by omega
  have hyn : y < zs.length := by omega
  have hxy : x ≠ y := fun e => by subst e; simp at hab
  have hs := fc_sum hvo hxn hyn hxy
  have hpp := Nat.two_pow_pos zs.length
  have ht1 := cF_ge1 hvo _ (2 ^ zs.length - 1) (Nat.le_refl _) (by omega)
  have ht2 := cF_le hvo (s := 2 ^ zs.length - 1) (by omega)
  have hno : bitB (zs[x]?.getD 0) y = true → fcN zs y x = 0 := fun e => fc_none (a := y) (b := x) hvo e
  have hL : linesR zs = (cF zs (2 ^ zs.length - 1) : Int) := by unfold linesR; rw [hv, if_pos rfl, count_both hvo]
  have e1 : fcV zs (x : Int) (y : Int) = fracV (fcN zs x y / Nat.gcd (fcN zs x y) (cF zs (2 ^ zs.length - 1))) (cF zs (2 ^ zs.length - 1) / Nat.gcd (fcN zs x y) (cF zs (2 ^ zs.length - 1))) := by unfold fcV; rw [hok]; rfl
  have e2 : fcV zs (y : Int) (x : Int) = fracV (fcN zs y x / Nat.gcd (fcN zs y x) (cF zs (2 ^ zs.length - 1))) (cF zs (2 ^ zs.length - 1) / Nat.gcd (fcN zs y x) (cF zs (2 ^ zs.length - 1))) := by unfold fcV; rw [hokb]; rfl
  generalize fcN zs x y = u at *
  generalize fcN zs y x = v at *
  generalize cF zs (2 ^ zs.length - 1) = t at *
  have hg : Nat.gcd v t = Nat.gcd u t := by
    rw [← hs, Nat.gcd_add_self_right, Nat.add_comm, Nat.gcd_add_self_right, Nat.gcd_comm]
  have hg1 : Nat.gcd u t ∣ u := Nat.gcd_dvd_left _ _
  have hg2 : Nat.gcd u t ∣ v := by rw [← hg]; exact Nat.gcd_dvd_left _ _
  have hg3 : Nat.gcd u t ∣ t := Nat.gcd_dvd_right _ _
  have hg0 : 0 < Nat.gcd u t := Nat.gcd_pos_of_pos_right u ht1
  rw [hg] at e2
  have hle : Nat.gcd u t ≤ t := Nat.le_of_dvd ht1 hg3
  have hd1 : 1 ≤ t / Nat.gcd u t := Nat.div_pos hle hg0
  have hd2 : t / Nat.gcd u t ≤ t := Nat.div_le_self _ _
  have hm : t % (t / Nat.gcd u t) = 0 := Nat.mod_eq_zero_of_dvd ⟨Nat.gcd u t, (Nat.div_mul_cancel hg3).symm⟩
  have hsum : u / Nat.gcd u t + v / Nat.gcd u t = t / Nat.gcd u t := by
    generalize Nat.gcd u t = g at *
    obtain ⟨k, rfl⟩ := hg1
    obtain ⟨l, rfl⟩ := hg2
    rw [← hs, ← Nat.mul_add, Nat.mul_div_cancel_left _ hg0, Nat.mul_div_cancel_left _ hg0, Nat.mul_div_cancel_left _ hg0]
  have hz : v = 0 → v / Nat.gcd u t = 0 := fun e => by rw [e, Nat.zero_div]
  generalize u / Nat.gcd u t = U at *
  generalize v / Nat.gcd u t = V at *
  generalize t / Nat.gcd u t = T at *
  refine ⟨x, y, (U : Int), (V : Int), (T : Int), t, rfl, rfl, hxn, hyn, hvo, hokb, e1, e2, by omega, fun e => ?_, by omega, by omega, by omega, by omega, hL, ht2, ?_⟩
  · have := hz (hno e)
    omega
  · have : (t : Int).tmod (T : Int) = ((t % T : Nat) : Int) := rfl
    rw [this, hm]; rfl
end Go.Proofs.Ythjmedbjdjkilaa

/- FirstChance's own law: one of both is ahead. -/
namespace Go.Proofs.Ythjmedbjdjkilaa
open Go.RowKit Go.Shelf

theorem bne_b (b : Bool) : (b != b) = false := by cases b <;> rfl
theorem frac_equal (p q : Int) (w : World) : (Op.equalIn 10000 39 (Value.agg #[.int .i64 p, .int .i64 q]) (Value.agg #[.int .i64 p, .int .i64 q])).run Try.prog w = .ok true w := by
  rw [show (10000 : Nat) = 9999 + 1 from rfl, run_equalIn_struct w 9999 39 _ _ (by kernel_rfl) (by kernel_rfl)]
  simp [Program.fieldsOf, Try.underlying39, Op.eqFields, go_sem, Try.underlying3]
theorem frac_neq (p q : Int) (w : World) : (binOp BinOp.neq 39 (Value.agg #[.int .i64 p, .int .i64 q]) (Value.agg #[.int .i64 p, .int .i64 q])).run Try.prog w = .ok (.bool false) w := by
  rw [run_neq_struct, frac_equal]; rfl
theorem frac_eql (p q : Int) (w : World) : (binOp BinOp.eql 39 (Value.agg #[.int .i64 p, .int .i64 q]) (Value.agg #[.int .i64 p, .int .i64 q])).run Try.prog w = .ok (.bool true) w := by
  rw [run_eql_struct, frac_equal]; rfl

set_option maxRecDepth 100000 in
set_option maxHeartbeats 4000000 in
theorem fnFirstChance_walk (A : Option Addr) (m c : Nat) (bs : List Int) (w : World) (h : Byts w w.heap.size A m bs) (hcap : m ≤ c) :
    Calls Try.prog 8 #[.slice A m c] w fun e w' => e = .returned (.bool true) ∧ Below w.heap.size w w' := by
  by_cases hs : m ≤ 1048576
  · go_enter Try.func8, Try.ntmps8
    go_wp2_with fail
    refine (drawFirstChance_any A m c bs w h hcap (by omega)).mono ?_
    rintro e w1 ⟨A1, n, c1, zs, a, b, rfl, hn7, hI1, C1⟩
    have hlen := Lib.hid hI1.len
    cases hok : fcOk zs a b
    · have Hv := Lib.hid (fcV_no hok)
      have Hok := Lib.hid hok
      clear hok
      have hneq := fun w => frac_neq 0 0 w
      have heql := fun w => frac_eql 0 0 w
      go_wp2_with fail
      refine (FirstChance_any A1 n c1 zs _ _ w1 hI1 (by omega)).mono ?_
      unfold GivesFc
      rw [Hv.out, Hok.out]
      rintro e w2 ⟨rfl, hB2⟩
      have z2 := hB2.size
      have C2 := C1.trans (hB2.mono C1.size)
      have hx2 : (w2.alloc (.cells #[Value.int .i64 0, .int .i64 0] 39)).heap[w2.heap.size]? = some (.cells #[Value.int .i64 0, .int .i64 0] 39 (0, 0)) := heap_alloc_new w2 _
      have D2 := C2.alloc (by have := C2.size; omega) (.cells #[Value.int .i64 0, .int .i64 0] 39)
      have hI2 := (hI1.to hB2 (Nat.le_refl _) z2).to ((Below.refl w2.heap.size w2).alloc (Nat.le_refl _) (.cells #[Value.int .i64 0, .int .i64 0] 39)) (Nat.le_refl _) (C := (w2.alloc (.cells #[Value.int .i64 0, .int .i64 0] 39)).heap.size) (by simp)
      have hz2 : (w2.alloc (.cells #[Value.int .i64 0, .int .i64 0] 39)).heap.size = w2.heap.size + 1 := by simp
      go_wp2_with fail
      obtain ⟨V2, hV2⟩ : ∃ V2, w2.alloc (.cells #[Value.int .i64 0, .int .i64 0] 39) = V2 := ⟨_, rfl⟩
      rw [hV2] at hx2 D2 hI2 hz2 ⊢
      have hz2l : w2.heap.size < V2.heap.size := by omega
      clear hV2 hz2 C2 hI1 hB2 C1
      refine (specFirstChanceF_any A1 n c1 zs _ _ V2 hI2 (by omega)).mono ?_
      unfold GivesFc
      rw [Hv.out, Hok.out]
      rintro e w4 ⟨rfl, hB4⟩
      have z4 := hB4.size
      have hx4 := (Below.heap_alloc w4 (.cells #[Value.int .i64 0, .int .i64 0] 39) w2.heap.size (by omega)).trans ((hB4.block _ hz2l).trans hx2)
      have hy4 : (w4.alloc (.cells #[Value.int .i64 0, .int .i64 0] 39)).heap[w4.heap.size]? = some (.cells #[Value.int .i64 0, .int .i64 0] 39 (0, 0)) := heap_alloc_new w4 _
      have D4 := (D2.trans (hB4.mono D2.size)).alloc (by have := D2.size; omega) (.cells #[Value.int .i64 0, .int .i64 0] 39)
      have hI4 := (hI2.to hB4 (Nat.le_refl _) z4).to ((Below.refl w4.heap.size w4).alloc (Nat.le_refl _) (.cells #[Value.int .i64 0, .int .i64 0] 39)) (Nat.le_refl _) (C := (w4.alloc (.cells #[Value.int .i64 0, .int .i64 0] 39)).heap.size) (by simp)
      have hz4 : (w4.alloc (.cells #[Value.int .i64 0, .int .i64 0] 39)).heap.size = w4.heap.size + 1 := by simp
      go_wp2_with (first
              | (refine wpList_load_row rfl _ _ rfl w2.heap.size rfl _ _ (0, 0) _ hx4 Try.underlying39 rfl (by kernel_rfl) ?_)
              | (refine wpList_load_row rfl _ _ rfl w4.heap.size rfl _ _ (0, 0) _ hy4 Try.underlying39 rfl (by kernel_rfl) ?_))
      go_ret
      exact ⟨rfl, D4⟩

    · obtain ⟨x, y, u, v, t, F, rfl, rfl, hxn, hyn, hvo, hokb, e1, e2, hsum, hlt, ht1, hu0, hv0, ht2, hL, hF, hm⟩ := fc_facts hok
      have Hv := Lib.hid e1
      have Hv2 := Lib.hid e2
      have Hok := Lib.hid hok
      have Hok2 := Lib.hid hokb
      have HL := Lib.hid hL
      have hneq := fun w => frac_neq u t w
      clear hok hokb e1 e2 hL
      go_wp2_with fail
      refine (FirstChance_any A1 n c1 zs _ _ w1 hI1 (by omega)).mono ?_
      unfold GivesFc
      rw [Hv.out, Hok.out]
      rintro e w2 ⟨rfl, hB2⟩
      have z2 := hB2.size
      have C2 := C1.trans (hB2.mono C1.size)
      have hx2 : (w2.alloc (.cells #[Value.int .i64 u, .int .i64 t] 39)).heap[w2.heap.size]? = some (.cells #[Value.int .i64 u, .int .i64 t] 39 (0, 0)) := heap_alloc_new w2 _
      have D2 := C2.alloc (by have := C2.size; omega) (.cells #[Value.int .i64 u, .int .i64 t] 39)
      have hI2 := (hI1.to hB2 (Nat.le_refl _) z2).to ((Below.refl w2.heap.size w2).alloc (Nat.le_refl _) (.cells #[Value.int .i64 u, .int .i64 t] 39)) (Nat.le_refl _) (C := (w2.alloc (.cells #[Value.int .i64 u, .int .i64 t] 39)).heap.size) (by simp)
      have hz2 : (w2.alloc (.cells #[Value.int .i64 u, .int .i64 t] 39)).heap.size = w2.heap.size + 1 := by simp
      go_wp2_with fail
      obtain ⟨V2, hV2⟩ : ∃ V2, w2.alloc (.cells #[Value.int .i64 u, .int .i64 t] 39) = V2 := ⟨_, rfl⟩
      rw [hV2] at hx2 D2 hI2 hz2 ⊢
      have hz2l : w2.heap.size < V2.heap.size := by omega
      clear hV2 hz2 C2 hI1 hB2 C1
      refine (specFirstChanceF_any A1 n c1 zs _ _ V2 hI2 (by omega)).mono ?_
      unfold GivesFc
      rw [Hv.out, Hok.out]
      rintro e w4 ⟨rfl, hB4⟩
      have z4 := hB4.size
      have hx4 := (Below.heap_alloc w4 (.cells #[Value.int .i64 u, .int .i64 t] 39) w2.heap.size (by omega)).trans ((hB4.block _ hz2l).trans hx2)
      have hy4 : (w4.alloc (.cells #[Value.int .i64 u, .int .i64 t] 39)).heap[w4.heap.size]? = some (.cells #[Value.int .i64 u, .int .i64 t] 39 (0, 0)) := heap_alloc_new w4 _
      have D4 := (D2.trans (hB4.mono D2.size)).alloc (by have := D2.size; omega) (.cells #[Value.int .i64 u, .int .i64 t] 39)
      have hI4 := (hI2.to hB4 (Nat.le_refl _) z4).to ((Below.refl w4.heap.size w4).alloc (Nat.le_refl _) (.cells #[Value.int .i64 u, .int .i64 t] 39)) (Nat.le_refl _) (C := (w4.alloc (.cells #[Value.int .i64 u, .int .i64 t] 39)).heap.size) (by simp)
      have hz4 : (w4.alloc (.cells #[Value.int .i64 u, .int .i64 t] 39)).heap.size = w4.heap.size + 1 := by simp
      go_wp2_with (first
              | (refine wpList_load_row rfl _ _ rfl w2.heap.size rfl _ _ (0, 0) _ hx4 Try.underlying39 rfl (by kernel_rfl) ?_)
              | (refine wpList_load_row rfl _ _ rfl w4.heap.size rfl _ _ (0, 0) _ hy4 Try.underlying39 rfl (by kernel_rfl) ?_))
      obtain ⟨V4, hV4⟩ : ∃ V4, w4.alloc (.cells #[Value.int .i64 u, .int .i64 t] 39) = V4 := ⟨_, rfl⟩
      rw [hV4] at hx4 hy4 D4 hI4 hz4 ⊢
      have hz4l : w4.heap.size < V4.heap.size := by omega
      clear hV4 hz4 hy4 hneq hI2 D2 hx2
      refine (FirstChance_any A1 n c1 zs _ _ V4 hI4 (by omega)).mono ?_
      unfold GivesFc
      rw [Hv2.out, Hok2.out]
      rintro e w6 ⟨rfl, hB6⟩
      have z6 := hB6.size
      have hx6 := (Below.heap_alloc w6 (.cells #[Value.int .i64 v, .int .i64 t] 39) w2.heap.size (by omega)).trans ((hB6.block _ (by omega)).trans hx4)
      have hy6 : (w6.alloc (.cells #[Value.int .i64 v, .int .i64 t] 39)).heap[w6.heap.size]? = some (.cells #[Value.int .i64 v, .int .i64 t] 39 (0, 0)) := heap_alloc_new w6 _
      have D6 := (D4.trans (hB6.mono D4.size)).alloc (by have := D4.size; omega) (.cells #[Value.int .i64 v, .int .i64 t] 39)
      have hI6 := (hI4.to hB6 (Nat.le_refl _) z6).to ((Below.refl w6.heap.size w6).alloc (Nat.le_refl _) (.cells #[Value.int .i64 v, .int .i64 t] 39)) (Nat.le_refl _) (C := (w6.alloc (.cells #[Value.int .i64 v, .int .i64 t] 39)).heap.size) (by simp)
      have hz6 : (w6.alloc (.cells #[Value.int .i64 v, .int .i64 t] 39)).heap.size = w6.heap.size + 1 := by simp
      rw [hlen.out] at hxn hyn
      have hzx := hvo.bd x (by rw [hlen.out]; exact hxn)
      have hn6 : n ≤ 6 := by have := hvo.1; rw [hlen.out] at this; exact this
      obtain ⟨bu, off, rfl, hbu, hcu⟩ := hI6.at_ hxn
      have hcx := hcu x hxn
      clear hcu hI4 D4 hx4
      have hlt2 : w2.heap.size < w6.heap.size := by omega
      go_wp2_with fail
      have hS0 : (fun w' => w'.cell? ⟨w2.heap.size, 0, none⟩ = some (.int .i64 u) ∧ w'.cell? ⟨w2.heap.size, 1, none⟩ = some (.int .i64 t) ∧ w'.cell? ⟨w6.heap.size, 0, none⟩ = some (.int .i64 v) ∧ w'.cell? ⟨w6.heap.size, 1, none⟩ = some (.int .i64 t) ∧ w'.cell? ⟨bu, off + x, none⟩ = some (.int .i64 (zs[x]?.getD 0))) (w6.alloc (.cells #[Value.int .i64 v, .int .i64 t] 39)).drew := ⟨by rw [show (w6.alloc (.cells #[Value.int .i64 v, .int .i64 t] 39)).drew.cell? ⟨w2.heap.size, 0, none⟩ = _ from cell_of_row _ _ 0 _ _ (0, 0) hx6]; rfl, by rw [show (w6.alloc (.cells #[Value.int .i64 v, .int .i64 t] 39)).drew.cell? ⟨w2.heap.size, 1, none⟩ = _ from cell_of_row _ _ 1 _ _ (0, 0) hx6]; rfl, by rw [show (w6.alloc (.cells #[Value.int .i64 v, .int .i64 t] 39)).drew.cell? ⟨w6.heap.size, 0, none⟩ = _ from cell_of_row _ _ 0 _ _ (0, 0) hy6]; rfl, by rw [show (w6.alloc (.cells #[Value.int .i64 v, .int .i64 t] 39)).drew.cell? ⟨w6.heap.size, 1, none⟩ = _ from cell_of_row _ _ 1 _ _ (0, 0) hy6]; rfl, hcx⟩
      have hI6' : Ints (w6.alloc (.cells #[Value.int .i64 v, .int .i64 t] 39)).drew (w6.alloc (.cells #[Value.int .i64 v, .int .i64 t] 39)).drew.heap.size (some ⟨bu, off, none⟩) n zs := hI6
      have D6' := below_drewN D6 1
      have hz6' : (w6.alloc (.cells #[Value.int .i64 v, .int .i64 t] 39)).drew.heap.size = w6.heap.size + 1 := hz6
      have hbu' : bu < (w6.alloc (.cells #[Value.int .i64 v, .int .i64 t] 39)).drew.heap.size := hbu
      obtain ⟨V6, hV6⟩ : ∃ V6, (w6.alloc (.cells #[Value.int .i64 v, .int .i64 t] 39)).drew = V6 := ⟨_, rfl⟩
      have D6 : Below w.heap.size w V6 := hV6 ▸ D6'
      have hHold : (fun w' => w'.cell? ⟨w2.heap.size, 0, none⟩ = some (.int .i64 u) ∧ w'.cell? ⟨w2.heap.size, 1, none⟩ = some (.int .i64 t) ∧ w'.cell? ⟨w6.heap.size, 0, none⟩ = some (.int .i64 v) ∧ w'.cell? ⟨w6.heap.size, 1, none⟩ = some (.int .i64 t) ∧ w'.cell? ⟨bu, off + x, none⟩ = some (.int .i64 (zs[x]?.getD 0))) V6 := hV6 ▸ hS0
      refine region_T (S := (fun w' => w'.cell? ⟨w2.heap.size, 0, none⟩ = some (.int .i64 u) ∧ w'.cell? ⟨w2.heap.size, 1, none⟩ = some (.int .i64 t) ∧ w'.cell? ⟨w6.heap.size, 0, none⟩ = some (.int .i64 v) ∧ w'.cell? ⟨w6.heap.size, 1, none⟩ = some (.int .i64 t) ∧ w'.cell? ⟨bu, off + x, none⟩ = some (.int .i64 (zs[x]?.getD 0)))) 47 (by kernel_rfl) ?_
      rw [hV6] at hI6' hz6' hbu' ⊢
      clear hV6 hx6 hy6 hcx D6' hI6 hz6 hS0 hbu
      have hS0 := hHold
      have hI6 := hI6'
      have hq1 : w2.heap.size < V6.heap.size := by omega
      have hq2 : w6.heap.size < V6.heap.size := by omega
      clear hHold hI6' hz6'
      generalize w2.heap.size = q1 at *
      generalize w6.heap.size = q2 at *
      have Hadd := Lib.hid (show IntKind.i64.wrap t = t by rw [IntKind.wrap_i64]; omega)
      have Hrem := Lib.hid hm
      have htne : ¬ t = 0 := by omega
      generalize hzxx : zs[x]?.getD 0 = zx at *
      clear hm hzxx
      cases hb : bitB zx y
      · have Hbit := Lib.hid hb
        clear hb hlt
        refine anyT_take (i := 0) (oi := ?oi0a) (v := .bool true) ?hi0a (by kernel_rfl) ?hq0a ?hy0a (by assumption) ?rest0a
        case hi0a => (simp only [List.getElem?_toArray, List.getElem?_cons_zero]; first | done | rfl)
        case hq0a => exact fun _ _ _ h => h
        case hy0a => (refine Or.inl ⟨by rfl, ?_⟩; intro wz hSw; obtain ⟨hS1, hS2, hS3, hS4, hS5⟩ := hSw; go_simp; first | done | with_reducible rfl | simp | omega)
        try simp only [Act.put, List.setIfInBounds_toArray, List.set_cons_zero, List.set_cons_succ]
        refine anyT_take (i := 1) (oi := ?oi1a) (v := .bool true) ?hi1a (by kernel_rfl) ?hq1a ?hy1a (by assumption) ?rest1a
        case hi1a => (simp only [List.getElem?_toArray, List.getElem?_cons_succ, List.getElem?_cons_zero]; first | done | rfl)
        case hq1a => exact fun _ _ _ h => h
        case hy1a => (refine Or.inl ⟨by rfl, ?_⟩; intro wz hSw; obtain ⟨hS1, hS2, hS3, hS4, hS5⟩ := hSw; go_simp; first | done | with_reducible rfl | simp | omega)
        try simp only [Act.put, List.setIfInBounds_toArray, List.set_cons_zero, List.set_cons_succ]
        refine anyT_take (i := 2) (oi := ?oi2a) (v := .pointer (some ⟨q1, 1, none⟩)) ?hi2a (by kernel_rfl) ?hq2a ?hy2a (by assumption) ?rest2a
        case hi2a => (simp only [List.getElem?_toArray, List.getElem?_cons_succ, List.getElem?_cons_zero]; first | done | rfl)
        case hq2a => exact fun _ _ _ h => h
        case hy2a => (refine Or.inl ⟨by rfl, ?_⟩; intro wz hSw; obtain ⟨hS1, hS2, hS3, hS4, hS5⟩ := hSw; go_simp; first | done | with_reducible rfl | simp | omega)
        try simp only [Act.put, List.setIfInBounds_toArray, List.set_cons_zero, List.set_cons_succ]
        refine anyT_take (i := 3) (oi := ?oi3a) (v := .int .i64 t) ?hi3a (by kernel_rfl) ?hq3a ?hy3a (by assumption) ?rest3a
        case hi3a => (simp only [List.getElem?_toArray, List.getElem?_cons_succ, List.getElem?_cons_zero]; first | done | rfl)
        case hq3a => exact fun _ _ _ h => h
        case hy3a => (refine Or.inl ⟨by rfl, ?_⟩; intro wz hSw; obtain ⟨hS1, hS2, hS3, hS4, hS5⟩ := hSw; go_simp; first | done | with_reducible rfl | simp | omega)
        try simp only [Act.put, List.setIfInBounds_toArray, List.set_cons_zero, List.set_cons_succ]
        refine anyT_take (i := 4) (oi := ?oi4a) (v := .pointer (some ⟨q2, 1, none⟩)) ?hi4a (by kernel_rfl) ?hq4a ?hy4a (by assumption) ?rest4a
        case hi4a => (simp only [List.getElem?_toArray, List.getElem?_cons_succ, List.getElem?_cons_zero]; first | done | rfl)
        case hq4a => exact fun _ _ _ h => h
        case hy4a => (refine Or.inl ⟨by rfl, ?_⟩; intro wz hSw; obtain ⟨hS1, hS2, hS3, hS4, hS5⟩ := hSw; go_simp; first | done | with_reducible rfl | simp | omega)
        try simp only [Act.put, List.setIfInBounds_toArray, List.set_cons_zero, List.set_cons_succ]
        refine anyT_take (i := 5) (oi := ?oi5a) (v := .int .i64 t) ?hi5a (by kernel_rfl) ?hq5a ?hy5a (by assumption) ?rest5a
        case hi5a => (simp only [List.getElem?_toArray, List.getElem?_cons_succ, List.getElem?_cons_zero]; first | done | rfl)
        case hq5a => exact fun _ _ _ h => h
        case hy5a => (refine Or.inl ⟨by rfl, ?_⟩; intro wz hSw; obtain ⟨hS1, hS2, hS3, hS4, hS5⟩ := hSw; go_simp; first | done | with_reducible rfl | simp | omega)
        try simp only [Act.put, List.setIfInBounds_toArray, List.set_cons_zero, List.set_cons_succ]
        refine anyT_take (i := 6) (oi := ?oi6a) (v := .bool true) ?hi6a (by kernel_rfl) ?hq6a ?hy6a (by assumption) ?rest6a
        case hi6a => (simp only [List.getElem?_toArray, List.getElem?_cons_succ, List.getElem?_cons_zero]; first | done | rfl)
        case hq6a => exact fun _ _ _ h => h
        case hy6a => (refine Or.inl ⟨by rfl, ?_⟩; intro wz hSw; obtain ⟨hS1, hS2, hS3, hS4, hS5⟩ := hSw; go_simp; first | done | with_reducible rfl | simp | omega)
        try simp only [Act.put, List.setIfInBounds_toArray, List.set_cons_zero, List.set_cons_succ]
        refine anyT_take (i := 7) (oi := ?oi7a) (v := .bool true) ?hi7a (by kernel_rfl) ?hq7a ?hy7a (by assumption) ?rest7a
        case hi7a => (simp only [List.getElem?_toArray, List.getElem?_cons_succ, List.getElem?_cons_zero]; first | done | rfl)
        case hq7a => exact fun _ _ _ h => h
        case hy7a => (refine Or.inl ⟨by rfl, ?_⟩; intro wz hSw; obtain ⟨hS1, hS2, hS3, hS4, hS5⟩ := hSw; go_simp; first | done | with_reducible rfl | simp | omega)
        try simp only [Act.put, List.setIfInBounds_toArray, List.set_cons_zero, List.set_cons_succ]
        refine anyT_take (i := 8) (oi := ?oi8a) (v := .bool true) ?hi8a (by kernel_rfl) ?hq8a ?hy8a (by assumption) ?rest8a
        case hi8a => (simp only [List.getElem?_toArray, List.getElem?_cons_succ, List.getElem?_cons_zero]; first | done | rfl)
        case hq8a => exact fun _ _ _ h => h
        case hy8a => (refine Or.inl ⟨by rfl, ?_⟩; intro wz hSw; obtain ⟨hS1, hS2, hS3, hS4, hS5⟩ := hSw; go_simp; first | done | with_reducible rfl | simp | omega)
        try simp only [Act.put, List.setIfInBounds_toArray, List.set_cons_zero, List.set_cons_succ]
        refine anyT_take (i := 9) (oi := ?oi9a) (v := .pointer (some ⟨q1, 0, none⟩)) ?hi9a (by kernel_rfl) ?hq9a ?hy9a (by assumption) ?rest9a
        case hi9a => (simp only [List.getElem?_toArray, List.getElem?_cons_succ, List.getElem?_cons_zero]; first | done | rfl)
        case hq9a => exact fun _ _ _ h => h
        case hy9a => (refine Or.inl ⟨by rfl, ?_⟩; intro wz hSw; obtain ⟨hS1, hS2, hS3, hS4, hS5⟩ := hSw; go_simp; first | done | with_reducible rfl | simp | omega)
        try simp only [Act.put, List.setIfInBounds_toArray, List.set_cons_zero, List.set_cons_succ]
        refine anyT_take (i := 10) (oi := ?oi10a) (v := .int .i64 u) ?hi10a (by kernel_rfl) ?hq10a ?hy10a (by assumption) ?rest10a
        case hi10a => (simp only [List.getElem?_toArray, List.getElem?_cons_succ, List.getElem?_cons_zero]; first | done | rfl)
        case hq10a => exact fun _ _ _ h => h
        case hy10a => (refine Or.inl ⟨by rfl, ?_⟩; intro wz hSw; obtain ⟨hS1, hS2, hS3, hS4, hS5⟩ := hSw; go_simp; first | done | with_reducible rfl | simp | omega)
        try simp only [Act.put, List.setIfInBounds_toArray, List.set_cons_zero, List.set_cons_succ]
        refine anyT_take (i := 11) (oi := ?oi11a) (v := .pointer (some ⟨q2, 0, none⟩)) ?hi11a (by kernel_rfl) ?hq11a ?hy11a (by assumption) ?rest11a
        case hi11a => (simp only [List.getElem?_toArray, List.getElem?_cons_succ, List.getElem?_cons_zero]; first | done | rfl)
        case hq11a => exact fun _ _ _ h => h
        case hy11a => (refine Or.inl ⟨by rfl, ?_⟩; intro wz hSw; obtain ⟨hS1, hS2, hS3, hS4, hS5⟩ := hSw; go_simp; first | done | with_reducible rfl | simp | omega)
        try simp only [Act.put, List.setIfInBounds_toArray, List.set_cons_zero, List.set_cons_succ]
        refine anyT_take (i := 12) (oi := ?oi12a) (v := .int .i64 v) ?hi12a (by kernel_rfl) ?hq12a ?hy12a (by assumption) ?rest12a
        case hi12a => (simp only [List.getElem?_toArray, List.getElem?_cons_succ, List.getElem?_cons_zero]; first | done | rfl)
        case hq12a => exact fun _ _ _ h => h
        case hy12a => (refine Or.inl ⟨by rfl, ?_⟩; intro wz hSw; obtain ⟨hS1, hS2, hS3, hS4, hS5⟩ := hSw; go_simp; first | done | with_reducible rfl | simp | omega)
        try simp only [Act.put, List.setIfInBounds_toArray, List.set_cons_zero, List.set_cons_succ]
        refine anyT_take (i := 13) (oi := ?oi13a) (v := .int .i64 t) ?hi13a (by kernel_rfl) ?hq13a ?hy13a (by assumption) ?rest13a
        case hi13a => (simp only [List.getElem?_toArray, List.getElem?_cons_succ, List.getElem?_cons_zero]; first | done | rfl)
        case hq13a => exact fun _ _ _ h => h
        case hy13a => (refine Or.inl ⟨by rfl, ?_⟩; intro wz hSw; obtain ⟨hS1, hS2, hS3, hS4, hS5⟩ := hSw; go_simp; first | done | with_reducible rfl | exact Hadd.out | exact hsum | omega | (rw [Hadd.out]; done) | simp [Hadd.out])
        try simp only [Act.put, List.setIfInBounds_toArray, List.set_cons_zero, List.set_cons_succ]
        refine anyT_take (i := 14) (oi := ?oi14a) (v := .pointer (some ⟨q1, 1, none⟩)) ?hi14a (by kernel_rfl) ?hq14a ?hy14a (by assumption) ?rest14a
        case hi14a => (simp only [List.getElem?_toArray, List.getElem?_cons_succ, List.getElem?_cons_zero]; first | done | rfl)
        case hq14a => exact fun _ _ _ h => h
        case hy14a => (refine Or.inl ⟨by rfl, ?_⟩; intro wz hSw; obtain ⟨hS1, hS2, hS3, hS4, hS5⟩ := hSw; go_simp; first | done | with_reducible rfl | simp | omega)
        try simp only [Act.put, List.setIfInBounds_toArray, List.set_cons_zero, List.set_cons_succ]
        refine anyT_take (i := 15) (oi := ?oi15a) (v := .int .i64 t) ?hi15a (by kernel_rfl) ?hq15a ?hy15a (by assumption) ?rest15a
        case hi15a => (simp only [List.getElem?_toArray, List.getElem?_cons_succ, List.getElem?_cons_zero]; first | done | rfl)
        case hq15a => exact fun _ _ _ h => h
        case hy15a => (refine Or.inl ⟨by rfl, ?_⟩; intro wz hSw; obtain ⟨hS1, hS2, hS3, hS4, hS5⟩ := hSw; go_simp; first | done | with_reducible rfl | simp | omega)
        try simp only [Act.put, List.setIfInBounds_toArray, List.set_cons_zero, List.set_cons_succ]
        refine anyT_take (i := 16) (oi := ?oi16a) (v := .bool true) ?hi16a (by kernel_rfl) ?hq16a ?hy16a (by assumption) ?rest16a
        case hi16a => (simp only [List.getElem?_toArray, List.getElem?_cons_succ, List.getElem?_cons_zero]; first | done | rfl)
        case hq16a => exact fun _ _ _ h => h
        case hy16a => (refine Or.inl ⟨by rfl, ?_⟩; intro wz hSw; obtain ⟨hS1, hS2, hS3, hS4, hS5⟩ := hSw; go_simp; first | done | with_reducible rfl | simp | omega)
        try simp only [Act.put, List.setIfInBounds_toArray, List.set_cons_zero, List.set_cons_succ]
        refine anyT_take (i := 17) (oi := ?oi17a) (v := .bool true) ?hi17a (by kernel_rfl) ?hq17a ?hy17a (by assumption) ?rest17a
        case hi17a => (simp only [List.getElem?_toArray, List.getElem?_cons_succ, List.getElem?_cons_zero]; first | done | rfl)
        case hq17a => exact fun _ _ _ h => h
        case hy17a => (refine Or.inl ⟨by rfl, ?_⟩; intro wz hSw; obtain ⟨hS1, hS2, hS3, hS4, hS5⟩ := hSw; go_simp; first | done | with_reducible rfl | simp | omega)
        try simp only [Act.put, List.setIfInBounds_toArray, List.set_cons_zero, List.set_cons_succ]
        refine anyT_take (i := 18) (oi := ?oi18a) (v := .bool true) ?hi18a (by kernel_rfl) ?hq18a ?hy18a (by assumption) ?rest18a
        case hi18a => (simp only [List.getElem?_toArray, List.getElem?_cons_succ, List.getElem?_cons_zero]; first | done | rfl)
        case hq18a => exact fun _ _ _ h => h
        case hy18a => (refine Or.inl ⟨by rfl, ?_⟩; intro wz hSw; obtain ⟨hS1, hS2, hS3, hS4, hS5⟩ := hSw; go_simp; first | done | with_reducible rfl | simp | omega)
        try simp only [Act.put, List.setIfInBounds_toArray, List.set_cons_zero, List.set_cons_succ]
        refine anyT_take (i := 19) (oi := ?oi19a) (v := .slice (some ⟨bu, off, none⟩) n c1) ?hi19a (by kernel_rfl) ?hq19a ?hy19a (by assumption) ?rest19a
        case hi19a => (simp only [List.getElem?_toArray, List.getElem?_cons_succ, List.getElem?_cons_zero]; first | done | rfl)
        case hq19a => exact fun _ _ _ h => h
        case hy19a => (refine Or.inl ⟨by rfl, ?_⟩; intro wz hSw; obtain ⟨hS1, hS2, hS3, hS4, hS5⟩ := hSw; go_simp; first | done | with_reducible rfl | simp | omega)
        try simp only [Act.put, List.setIfInBounds_toArray, List.set_cons_zero, List.set_cons_succ]
        refine anyT_take (i := 20) (oi := ?oi20a) (v := .int .i64 (x : Int)) ?hi20a (by kernel_rfl) ?hq20a ?hy20a (by assumption) ?rest20a
        case hi20a => (simp only [List.getElem?_toArray, List.getElem?_cons_succ, List.getElem?_cons_zero]; first | done | rfl)
        case hq20a => exact fun _ _ _ h => h
        case hy20a => (refine Or.inl ⟨by rfl, ?_⟩; intro wz hSw; obtain ⟨hS1, hS2, hS3, hS4, hS5⟩ := hSw; go_simp; first | done | with_reducible rfl | simp | omega)
        try simp only [Act.put, List.setIfInBounds_toArray, List.set_cons_zero, List.set_cons_succ]
        refine anyT_take (i := 21) (oi := ?oi21a) (v := .pointer (some ⟨bu, off + x, none⟩)) ?hi21a (by kernel_rfl) ?hq21a ?hy21a (by assumption) ?rest21a
        case hi21a => (simp only [List.getElem?_toArray, List.getElem?_cons_succ, List.getElem?_cons_zero]; first | done | rfl)
        case hq21a => exact fun _ _ _ h => h
        case hy21a => (refine Or.inl ⟨by rfl, ?_⟩; intro wz hSw; obtain ⟨hS1, hS2, hS3, hS4, hS5⟩ := hSw; go_simp; first | done | with_reducible rfl | simp | omega)
        try simp only [Act.put, List.setIfInBounds_toArray, List.set_cons_zero, List.set_cons_succ]
        refine anyT_take (i := 22) (oi := ?oi22a) (v := .int .i64 zx) ?hi22a (by kernel_rfl) ?hq22a ?hy22a (by assumption) ?rest22a
        case hi22a => (simp only [List.getElem?_toArray, List.getElem?_cons_succ, List.getElem?_cons_zero]; first | done | rfl)
        case hq22a => exact fun _ _ _ h => h
        case hy22a => (refine Or.inl ⟨by rfl, ?_⟩; intro wz hSw; obtain ⟨hS1, hS2, hS3, hS4, hS5⟩ := hSw; go_simp; first | done | with_reducible rfl | simp | omega)
        try simp only [Act.put, List.setIfInBounds_toArray, List.set_cons_zero, List.set_cons_succ]
        refine anyT_take (i := 23) (oi := ?oi23a) (v := .int .i64 (y : Int)) ?hi23a (by kernel_rfl) ?hq23a ?hy23a (by assumption) ?rest23a
        case hi23a => (simp only [List.getElem?_toArray, List.getElem?_cons_succ, List.getElem?_cons_zero]; first | done | rfl)
        case hq23a => exact fun _ _ _ h => h
        case hy23a => (refine Or.inl ⟨by rfl, ?_⟩; intro wz hSw; obtain ⟨hS1, hS2, hS3, hS4, hS5⟩ := hSw; go_simp; first | done | with_reducible rfl | simp | omega)
        try simp only [Act.put, List.setIfInBounds_toArray, List.set_cons_zero, List.set_cons_succ]
        refine anyT_one (i := 24) (by kernel_rfl) rfl (fun K' hK => ?_)
        go_simp
        refine (hasBit_any _ _ _ (by omega) (by omega) (by omega) (by omega)).mono ?_
        rw [Hbit.out]
        rintro e w' ⟨rfl, rfl⟩
        refine hK.out _ _ (fun _ => hS0) ?_
        clear hK K'
        try simp only [Act.put, List.setIfInBounds_toArray, List.set_cons_zero, List.set_cons_succ]
        refine anyT_take (i := 25) (oi := ?oi25a) (v := .bool true) ?hi25a (by kernel_rfl) ?hq25a ?hy25a (by assumption) ?rest25a
        case hi25a => (simp only [List.getElem?_toArray, List.getElem?_cons_succ, List.getElem?_cons_zero]; first | done | rfl)
        case hq25a => exact fun _ _ _ h => h
        case hy25a => (refine Or.inl ⟨by rfl, ?_⟩; intro wz hSw; obtain ⟨hS1, hS2, hS3, hS4, hS5⟩ := hSw; go_simp; first | done | with_reducible rfl | simp | omega)
        try simp only [Act.put, List.setIfInBounds_toArray, List.set_cons_zero, List.set_cons_succ]
        refine anyT_take (i := 26) (oi := ?oi26a) (v := .bool true) ?hi26a (by kernel_rfl) ?hq26a ?hy26a (by assumption) ?rest26a
        case hi26a => (simp only [List.getElem?_toArray, List.getElem?_cons_succ, List.getElem?_cons_zero]; first | done | rfl)
        case hq26a => exact fun _ _ _ h => h
        case hy26a => (refine Or.inl ⟨by rfl, ?_⟩; intro wz hSw; obtain ⟨hS1, hS2, hS3, hS4, hS5⟩ := hSw; go_simp; first | done | with_reducible rfl | simp | omega)
        try simp only [Act.put, List.setIfInBounds_toArray, List.set_cons_zero, List.set_cons_succ]
        refine anyT_take (i := 27) (oi := ?oi27a) (v := undef) ?hi27a (by kernel_rfl) ?hq27a ?hy27a (by assumption) ?rest27a
        case hi27a => (simp only [List.getElem?_toArray, List.getElem?_cons_succ, List.getElem?_cons_zero]; first | done | rfl)
        case hq27a => exact fun _ _ _ h => h
        case hy27a => exact Or.inr ⟨by rfl, rfl⟩
        try simp only [Act.put, List.setIfInBounds_toArray, List.set_cons_zero, List.set_cons_succ]
        refine anyT_take (i := 28) (oi := ?oi28a) (v := undef) ?hi28a (by kernel_rfl) ?hq28a ?hy28a (by assumption) ?rest28a
        case hi28a => (simp only [List.getElem?_toArray, List.getElem?_cons_succ, List.getElem?_cons_zero]; first | done | rfl)
        case hq28a => exact fun _ _ _ h => h
        case hy28a => exact Or.inr ⟨by rfl, rfl⟩
        try simp only [Act.put, List.setIfInBounds_toArray, List.set_cons_zero, List.set_cons_succ]
        refine anyT_take (i := 29) (oi := ?oi29a) (v := undef) ?hi29a (by kernel_rfl) ?hq29a ?hy29a (by assumption) ?rest29a
        case hi29a => (simp only [List.getElem?_toArray, List.getElem?_cons_succ, List.getElem?_cons_zero]; first | done | rfl)
        case hq29a => exact fun _ _ _ h => h
        case hy29a => exact Or.inr ⟨by rfl, rfl⟩
        try simp only [Act.put, List.setIfInBounds_toArray, List.set_cons_zero, List.set_cons_succ]
        refine anyT_take (i := 30) (oi := ?oi30a) (v := undef) ?hi30a (by kernel_rfl) ?hq30a ?hy30a (by assumption) ?rest30a
        case hi30a => (simp only [List.getElem?_toArray, List.getElem?_cons_succ, List.getElem?_cons_zero]; first | done | rfl)
        case hq30a => exact fun _ _ _ h => h
        case hy30a => exact Or.inr ⟨by rfl, rfl⟩
        try simp only [Act.put, List.setIfInBounds_toArray, List.set_cons_zero, List.set_cons_succ]
        refine anyT_take (i := 31) (oi := ?oi31a) (v := undef) ?hi31a (by kernel_rfl) ?hq31a ?hy31a (by assumption) ?rest31a
        case hi31a => (simp only [List.getElem?_toArray, List.getElem?_cons_succ, List.getElem?_cons_zero]; first | done | rfl)
        case hq31a => exact fun _ _ _ h => h
        case hy31a => exact Or.inr ⟨by rfl, rfl⟩
        try simp only [Act.put, List.setIfInBounds_toArray, List.set_cons_zero, List.set_cons_succ]
        refine anyT_take (i := 32) (oi := ?oi32a) (v := .bool true) ?hi32a (by kernel_rfl) ?hq32a ?hy32a (by assumption) ?rest32a
        case hi32a => (simp only [List.getElem?_toArray, List.getElem?_cons_succ, List.getElem?_cons_zero]; first | done | rfl)
        case hq32a => exact fun _ _ _ h => h
        case hy32a => (refine Or.inl ⟨by rfl, ?_⟩; intro wz hSw; obtain ⟨hS1, hS2, hS3, hS4, hS5⟩ := hSw; go_simp; first | done | with_reducible rfl | simp | omega)
        try simp only [Act.put, List.setIfInBounds_toArray, List.set_cons_zero, List.set_cons_succ]
        refine anyT_take (i := 33) (oi := ?oi33a) (v := .bool true) ?hi33a (by kernel_rfl) ?hq33a ?hy33a (by assumption) ?rest33a
        case hi33a => (simp only [List.getElem?_toArray, List.getElem?_cons_succ, List.getElem?_cons_zero]; first | done | rfl)
        case hq33a => exact fun _ _ _ h => h
        case hy33a => (refine Or.inl ⟨by rfl, ?_⟩; intro wz hSw; obtain ⟨hS1, hS2, hS3, hS4, hS5⟩ := hSw; go_simp; first | done | with_reducible rfl | simp | omega)
        try simp only [Act.put, List.setIfInBounds_toArray, List.set_cons_zero, List.set_cons_succ]
        refine anyT_take (i := 34) (oi := ?oi34a) (v := .bool true) ?hi34a (by kernel_rfl) ?hq34a ?hy34a (by assumption) ?rest34a
        case hi34a => (simp only [List.getElem?_toArray, List.getElem?_cons_succ, List.getElem?_cons_zero]; first | done | rfl)
        case hq34a => exact fun _ _ _ h => h
        case hy34a => (refine Or.inl ⟨by rfl, ?_⟩; intro wz hSw; obtain ⟨hS1, hS2, hS3, hS4, hS5⟩ := hSw; go_simp; first | done | with_reducible rfl | simp | omega)
        try simp only [Act.put, List.setIfInBounds_toArray, List.set_cons_zero, List.set_cons_succ]
        refine anyT_take (i := 35) (oi := ?oi35a) (v := .pointer (some ⟨q1, 1, none⟩)) ?hi35a (by kernel_rfl) ?hq35a ?hy35a (by assumption) ?rest35a
        case hi35a => (simp only [List.getElem?_toArray, List.getElem?_cons_succ, List.getElem?_cons_zero]; first | done | rfl)
        case hq35a => exact fun _ _ _ h => h
        case hy35a => (refine Or.inl ⟨by rfl, ?_⟩; intro wz hSw; obtain ⟨hS1, hS2, hS3, hS4, hS5⟩ := hSw; go_simp; first | done | with_reducible rfl | simp | omega)
        try simp only [Act.put, List.setIfInBounds_toArray, List.set_cons_zero, List.set_cons_succ]
        refine anyT_take (i := 36) (oi := ?oi36a) (v := .int .i64 t) ?hi36a (by kernel_rfl) ?hq36a ?hy36a (by assumption) ?rest36a
        case hi36a => (simp only [List.getElem?_toArray, List.getElem?_cons_succ, List.getElem?_cons_zero]; first | done | rfl)
        case hq36a => exact fun _ _ _ h => h
        case hy36a => (refine Or.inl ⟨by rfl, ?_⟩; intro wz hSw; obtain ⟨hS1, hS2, hS3, hS4, hS5⟩ := hSw; go_simp; first | done | with_reducible rfl | simp | omega)
        try simp only [Act.put, List.setIfInBounds_toArray, List.set_cons_zero, List.set_cons_succ]
        refine anyT_take (i := 37) (oi := ?oi37a) (v := .bool true) ?hi37a (by kernel_rfl) ?hq37a ?hy37a (by assumption) ?rest37a
        case hi37a => (simp only [List.getElem?_toArray, List.getElem?_cons_succ, List.getElem?_cons_zero]; first | done | rfl)
        case hq37a => exact fun _ _ _ h => h
        case hy37a => (refine Or.inl ⟨by rfl, ?_⟩; intro wz hSw; obtain ⟨hS1, hS2, hS3, hS4, hS5⟩ := hSw; go_simp; first | done | with_reducible rfl | simp [ht1] | (simp; omega) | omega)
        try simp only [Act.put, List.setIfInBounds_toArray, List.set_cons_zero, List.set_cons_succ]
        refine anyT_take (i := 38) (oi := ?oi38a) (v := .bool true) ?hi38a (by kernel_rfl) ?hq38a ?hy38a (by assumption) ?rest38a
        case hi38a => (simp only [List.getElem?_toArray, List.getElem?_cons_succ, List.getElem?_cons_zero]; first | done | rfl)
        case hq38a => exact fun _ _ _ h => h
        case hy38a => (refine Or.inl ⟨by rfl, ?_⟩; intro wz hSw; obtain ⟨hS1, hS2, hS3, hS4, hS5⟩ := hSw; go_simp; first | done | with_reducible rfl | simp | omega)
        try simp only [Act.put, List.setIfInBounds_toArray, List.set_cons_zero, List.set_cons_succ]
        refine anyT_take (i := 39) (oi := ?oi39a) (v := .bool true) ?hi39a (by kernel_rfl) ?hq39a ?hy39a (by assumption) ?rest39a
        case hi39a => (simp only [List.getElem?_toArray, List.getElem?_cons_succ, List.getElem?_cons_zero]; first | done | rfl)
        case hq39a => exact fun _ _ _ h => h
        case hy39a => (refine Or.inl ⟨by rfl, ?_⟩; intro wz hSw; obtain ⟨hS1, hS2, hS3, hS4, hS5⟩ := hSw; go_simp; first | done | with_reducible rfl | simp | omega)
        try simp only [Act.put, List.setIfInBounds_toArray, List.set_cons_zero, List.set_cons_succ]
        refine anyT_take (i := 40) (oi := ?oi40a) (v := .slice (some ⟨bu, off, none⟩) n c1) ?hi40a (by kernel_rfl) ?hq40a ?hy40a (by assumption) ?rest40a
        case hi40a => (simp only [List.getElem?_toArray, List.getElem?_cons_succ, List.getElem?_cons_zero]; first | done | rfl)
        case hq40a => exact fun _ _ _ h => h
        case hy40a => (refine Or.inl ⟨by rfl, ?_⟩; intro wz hSw; obtain ⟨hS1, hS2, hS3, hS4, hS5⟩ := hSw; go_simp; first | done | with_reducible rfl | simp | omega)
        try simp only [Act.put, List.setIfInBounds_toArray, List.set_cons_zero, List.set_cons_succ]
        refine anyT_take (i := 42) (oi := ?oi42a) (v := .pointer (some ⟨q1, 1, none⟩)) ?hi42a (by kernel_rfl) ?hq42a ?hy42a (by assumption) ?rest42a
        case hi42a => (simp only [List.getElem?_toArray, List.getElem?_cons_succ, List.getElem?_cons_zero]; first | done | rfl)
        case hq42a => exact fun _ _ _ h => h
        case hy42a => (refine Or.inl ⟨by rfl, ?_⟩; intro wz hSw; obtain ⟨hS1, hS2, hS3, hS4, hS5⟩ := hSw; go_simp; first | done | with_reducible rfl | simp | omega)
        try simp only [Act.put, List.setIfInBounds_toArray, List.set_cons_zero, List.set_cons_succ]
        refine anyT_take (i := 43) (oi := ?oi43a) (v := .int .i64 t) ?hi43a (by kernel_rfl) ?hq43a ?hy43a (by assumption) ?rest43a
        case hi43a => (simp only [List.getElem?_toArray, List.getElem?_cons_succ, List.getElem?_cons_zero]; first | done | rfl)
        case hq43a => exact fun _ _ _ h => h
        case hy43a => (refine Or.inl ⟨by rfl, ?_⟩; intro wz hSw; obtain ⟨hS1, hS2, hS3, hS4, hS5⟩ := hSw; go_simp; first | done | with_reducible rfl | simp | omega)
        try simp only [Act.put, List.setIfInBounds_toArray, List.set_cons_zero, List.set_cons_succ]
        refine anyT_one (i := 41) (by kernel_rfl) rfl (fun K' hK => ?_)
        go_simp
        refine (CountLines_any _ n c1 zs V6 hI6 (by omega)).mono ?_
        rw [HL.out]
        rintro e w7 ⟨rfl, hB7⟩
        have h7 : (fun w' => w'.cell? ⟨q1, 0, none⟩ = some (.int .i64 u) ∧ w'.cell? ⟨q1, 1, none⟩ = some (.int .i64 t) ∧ w'.cell? ⟨q2, 0, none⟩ = some (.int .i64 v) ∧ w'.cell? ⟨q2, 1, none⟩ = some (.int .i64 t) ∧ w'.cell? ⟨bu, off + x, none⟩ = some (.int .i64 zx)) w7 := ⟨(World.cell?_of_block (hB7.block q1 (by omega))).trans hS0.1, (World.cell?_of_block (hB7.block q1 (by omega))).trans hS0.2.1, (World.cell?_of_block (hB7.block q2 (by omega))).trans hS0.2.2.1, (World.cell?_of_block (hB7.block q2 (by omega))).trans hS0.2.2.2.1, (World.cell?_of_block (hB7.block bu (by omega))).trans hS0.2.2.2.2⟩
        refine hK.out _ _ (fun _ => h7) ?_
        clear hS0
        have hS0 := h7
        clear hK K'
        try simp only [Act.put, List.setIfInBounds_toArray, List.set_cons_zero, List.set_cons_succ]
        refine anyT_take (i := 44) (oi := ?oi44a) (v := .int .i64 0) ?hi44a (by kernel_rfl) ?hq44a ?hy44a (by assumption) ?rest44a
        case hi44a => (simp only [List.getElem?_toArray, List.getElem?_cons_succ, List.getElem?_cons_zero]; first | done | rfl)
        case hq44a => exact fun _ _ _ h => h
        case hy44a => (refine Or.inl ⟨by rfl, ?_⟩; intro wz hSw; obtain ⟨hS1, hS2, hS3, hS4, hS5⟩ := hSw; go_simp; first | done | with_reducible rfl | exact Hrem.out | (simp [Hrem.out]; done) | (simp [htne, Hrem.out]; done) | (split <;> simp_all))
        try simp only [Act.put, List.setIfInBounds_toArray, List.set_cons_zero, List.set_cons_succ]
        refine anyT_take (i := 45) (oi := ?oi45a) (v := .bool true) ?hi45a (by kernel_rfl) ?hq45a ?hy45a (by assumption) ?rest45a
        case hi45a => (simp only [List.getElem?_toArray, List.getElem?_cons_succ, List.getElem?_cons_zero]; first | done | rfl)
        case hq45a => exact fun _ _ _ h => h
        case hy45a => (refine Or.inl ⟨by rfl, ?_⟩; intro wz hSw; obtain ⟨hS1, hS2, hS3, hS4, hS5⟩ := hSw; go_simp; first | done | with_reducible rfl | simp | omega)
        try simp only [Act.put, List.setIfInBounds_toArray, List.set_cons_zero, List.set_cons_succ]
        refine anyT_take (i := 46) (oi := ?oi46a) (v := .bool true) ?hi46a (by kernel_rfl) ?hq46a ?hy46a (by assumption) ?rest46a
        case hi46a => (simp only [List.getElem?_toArray, List.getElem?_cons_succ, List.getElem?_cons_zero]; first | done | rfl)
        case hq46a => exact fun _ _ _ h => h
        case hy46a => (refine Or.inl ⟨by rfl, ?_⟩; intro wz hSw; obtain ⟨hS1, hS2, hS3, hS4, hS5⟩ := hSw; go_simp; first | done | with_reducible rfl | simp | omega)
        try simp only [Act.put, List.setIfInBounds_toArray, List.set_cons_zero, List.set_cons_succ]
        refine anyT_one (i := 47) (by kernel_rfl) rfl (fun K' hK => ?_)
        go_simp
        refine hK.out _ _ (fun h => absurd rfl h) ?_
        clear hK K'
        try simp only [Act.put, List.setIfInBounds_toArray, List.set_cons_zero, List.set_cons_succ]
        refine anyT_done (by kernel_rfl) ?_ _
        go_wp2_with fail
        go_ret
        exact ⟨rfl, D6.trans (hB7.mono D6.size)⟩

      · have Hbit := Lib.hid hb
        have Hut := Lib.hid (hlt hb)
        clear hb hlt
        refine anyT_take (i := 0) (oi := ?oi0b) (v := .bool true) ?hi0b (by kernel_rfl) ?hq0b ?hy0b (by assumption) ?rest0b
        case hi0b => (simp only [List.getElem?_toArray, List.getElem?_cons_zero]; first | done | rfl)
        case hq0b => exact fun _ _ _ h => h
        case hy0b => (refine Or.inl ⟨by rfl, ?_⟩; intro wz hSw; obtain ⟨hS1, hS2, hS3, hS4, hS5⟩ := hSw; go_simp; first | done | with_reducible rfl | simp | omega)
        try simp only [Act.put, List.setIfInBounds_toArray, List.set_cons_zero, List.set_cons_succ]
        refine anyT_take (i := 1) (oi := ?oi1b) (v := .bool true) ?hi1b (by kernel_rfl) ?hq1b ?hy1b (by assumption) ?rest1b
        case hi1b => (simp only [List.getElem?_toArray, List.getElem?_cons_succ, List.getElem?_cons_zero]; first | done | rfl)
        case hq1b => exact fun _ _ _ h => h
        case hy1b => (refine Or.inl ⟨by rfl, ?_⟩; intro wz hSw; obtain ⟨hS1, hS2, hS3, hS4, hS5⟩ := hSw; go_simp; first | done | with_reducible rfl | simp | omega)
        try simp only [Act.put, List.setIfInBounds_toArray, List.set_cons_zero, List.set_cons_succ]
        refine anyT_take (i := 2) (oi := ?oi2b) (v := .pointer (some ⟨q1, 1, none⟩)) ?hi2b (by kernel_rfl) ?hq2b ?hy2b (by assumption) ?rest2b
        case hi2b => (simp only [List.getElem?_toArray, List.getElem?_cons_succ, List.getElem?_cons_zero]; first | done | rfl)
        case hq2b => exact fun _ _ _ h => h
        case hy2b => (refine Or.inl ⟨by rfl, ?_⟩; intro wz hSw; obtain ⟨hS1, hS2, hS3, hS4, hS5⟩ := hSw; go_simp; first | done | with_reducible rfl | simp | omega)
        try simp only [Act.put, List.setIfInBounds_toArray, List.set_cons_zero, List.set_cons_succ]
        refine anyT_take (i := 3) (oi := ?oi3b) (v := .int .i64 t) ?hi3b (by kernel_rfl) ?hq3b ?hy3b (by assumption) ?rest3b
        case hi3b => (simp only [List.getElem?_toArray, List.getElem?_cons_succ, List.getElem?_cons_zero]; first | done | rfl)
        case hq3b => exact fun _ _ _ h => h
        case hy3b => (refine Or.inl ⟨by rfl, ?_⟩; intro wz hSw; obtain ⟨hS1, hS2, hS3, hS4, hS5⟩ := hSw; go_simp; first | done | with_reducible rfl | simp | omega)
        try simp only [Act.put, List.setIfInBounds_toArray, List.set_cons_zero, List.set_cons_succ]
        refine anyT_take (i := 4) (oi := ?oi4b) (v := .pointer (some ⟨q2, 1, none⟩)) ?hi4b (by kernel_rfl) ?hq4b ?hy4b (by assumption) ?rest4b
        case hi4b => (simp only [List.getElem?_toArray, List.getElem?_cons_succ, List.getElem?_cons_zero]; first | done | rfl)
        case hq4b => exact fun _ _ _ h => h
        case hy4b => (refine Or.inl ⟨by rfl, ?_⟩; intro wz hSw; obtain ⟨hS1, hS2, hS3, hS4, hS5⟩ := hSw; go_simp; first | done | with_reducible rfl | simp | omega)
        try simp only [Act.put, List.setIfInBounds_toArray, List.set_cons_zero, List.set_cons_succ]
        refine anyT_take (i := 5) (oi := ?oi5b) (v := .int .i64 t) ?hi5b (by kernel_rfl) ?hq5b ?hy5b (by assumption) ?rest5b
        case hi5b => (simp only [List.getElem?_toArray, List.getElem?_cons_succ, List.getElem?_cons_zero]; first | done | rfl)
        case hq5b => exact fun _ _ _ h => h
        case hy5b => (refine Or.inl ⟨by rfl, ?_⟩; intro wz hSw; obtain ⟨hS1, hS2, hS3, hS4, hS5⟩ := hSw; go_simp; first | done | with_reducible rfl | simp | omega)
        try simp only [Act.put, List.setIfInBounds_toArray, List.set_cons_zero, List.set_cons_succ]
        refine anyT_take (i := 6) (oi := ?oi6b) (v := .bool true) ?hi6b (by kernel_rfl) ?hq6b ?hy6b (by assumption) ?rest6b
        case hi6b => (simp only [List.getElem?_toArray, List.getElem?_cons_succ, List.getElem?_cons_zero]; first | done | rfl)
        case hq6b => exact fun _ _ _ h => h
        case hy6b => (refine Or.inl ⟨by rfl, ?_⟩; intro wz hSw; obtain ⟨hS1, hS2, hS3, hS4, hS5⟩ := hSw; go_simp; first | done | with_reducible rfl | simp | omega)
        try simp only [Act.put, List.setIfInBounds_toArray, List.set_cons_zero, List.set_cons_succ]
        refine anyT_take (i := 7) (oi := ?oi7b) (v := .bool true) ?hi7b (by kernel_rfl) ?hq7b ?hy7b (by assumption) ?rest7b
        case hi7b => (simp only [List.getElem?_toArray, List.getElem?_cons_succ, List.getElem?_cons_zero]; first | done | rfl)
        case hq7b => exact fun _ _ _ h => h
        case hy7b => (refine Or.inl ⟨by rfl, ?_⟩; intro wz hSw; obtain ⟨hS1, hS2, hS3, hS4, hS5⟩ := hSw; go_simp; first | done | with_reducible rfl | simp | omega)
        try simp only [Act.put, List.setIfInBounds_toArray, List.set_cons_zero, List.set_cons_succ]
        refine anyT_take (i := 8) (oi := ?oi8b) (v := .bool true) ?hi8b (by kernel_rfl) ?hq8b ?hy8b (by assumption) ?rest8b
        case hi8b => (simp only [List.getElem?_toArray, List.getElem?_cons_succ, List.getElem?_cons_zero]; first | done | rfl)
        case hq8b => exact fun _ _ _ h => h
        case hy8b => (refine Or.inl ⟨by rfl, ?_⟩; intro wz hSw; obtain ⟨hS1, hS2, hS3, hS4, hS5⟩ := hSw; go_simp; first | done | with_reducible rfl | simp | omega)
        try simp only [Act.put, List.setIfInBounds_toArray, List.set_cons_zero, List.set_cons_succ]
        refine anyT_take (i := 9) (oi := ?oi9b) (v := .pointer (some ⟨q1, 0, none⟩)) ?hi9b (by kernel_rfl) ?hq9b ?hy9b (by assumption) ?rest9b
        case hi9b => (simp only [List.getElem?_toArray, List.getElem?_cons_succ, List.getElem?_cons_zero]; first | done | rfl)
        case hq9b => exact fun _ _ _ h => h
        case hy9b => (refine Or.inl ⟨by rfl, ?_⟩; intro wz hSw; obtain ⟨hS1, hS2, hS3, hS4, hS5⟩ := hSw; go_simp; first | done | with_reducible rfl | simp | omega)
        try simp only [Act.put, List.setIfInBounds_toArray, List.set_cons_zero, List.set_cons_succ]
        refine anyT_take (i := 10) (oi := ?oi10b) (v := .int .i64 u) ?hi10b (by kernel_rfl) ?hq10b ?hy10b (by assumption) ?rest10b
        case hi10b => (simp only [List.getElem?_toArray, List.getElem?_cons_succ, List.getElem?_cons_zero]; first | done | rfl)
        case hq10b => exact fun _ _ _ h => h
        case hy10b => (refine Or.inl ⟨by rfl, ?_⟩; intro wz hSw; obtain ⟨hS1, hS2, hS3, hS4, hS5⟩ := hSw; go_simp; first | done | with_reducible rfl | simp | omega)
        try simp only [Act.put, List.setIfInBounds_toArray, List.set_cons_zero, List.set_cons_succ]
        refine anyT_take (i := 11) (oi := ?oi11b) (v := .pointer (some ⟨q2, 0, none⟩)) ?hi11b (by kernel_rfl) ?hq11b ?hy11b (by assumption) ?rest11b
        case hi11b => (simp only [List.getElem?_toArray, List.getElem?_cons_succ, List.getElem?_cons_zero]; first | done | rfl)
        case hq11b => exact fun _ _ _ h => h
        case hy11b => (refine Or.inl ⟨by rfl, ?_⟩; intro wz hSw; obtain ⟨hS1, hS2, hS3, hS4, hS5⟩ := hSw; go_simp; first | done | with_reducible rfl | simp | omega)
        try simp only [Act.put, List.setIfInBounds_toArray, List.set_cons_zero, List.set_cons_succ]
        refine anyT_take (i := 12) (oi := ?oi12b) (v := .int .i64 v) ?hi12b (by kernel_rfl) ?hq12b ?hy12b (by assumption) ?rest12b
        case hi12b => (simp only [List.getElem?_toArray, List.getElem?_cons_succ, List.getElem?_cons_zero]; first | done | rfl)
        case hq12b => exact fun _ _ _ h => h
        case hy12b => (refine Or.inl ⟨by rfl, ?_⟩; intro wz hSw; obtain ⟨hS1, hS2, hS3, hS4, hS5⟩ := hSw; go_simp; first | done | with_reducible rfl | simp | omega)
        try simp only [Act.put, List.setIfInBounds_toArray, List.set_cons_zero, List.set_cons_succ]
        refine anyT_take (i := 13) (oi := ?oi13b) (v := .int .i64 t) ?hi13b (by kernel_rfl) ?hq13b ?hy13b (by assumption) ?rest13b
        case hi13b => (simp only [List.getElem?_toArray, List.getElem?_cons_succ, List.getElem?_cons_zero]; first | done | rfl)
        case hq13b => exact fun _ _ _ h => h
        case hy13b => (refine Or.inl ⟨by rfl, ?_⟩; intro wz hSw; obtain ⟨hS1, hS2, hS3, hS4, hS5⟩ := hSw; go_simp; first | done | with_reducible rfl | exact Hadd.out | exact hsum | omega | (rw [Hadd.out]; done) | simp [Hadd.out])
        try simp only [Act.put, List.setIfInBounds_toArray, List.set_cons_zero, List.set_cons_succ]
        refine anyT_take (i := 14) (oi := ?oi14b) (v := .pointer (some ⟨q1, 1, none⟩)) ?hi14b (by kernel_rfl) ?hq14b ?hy14b (by assumption) ?rest14b
        case hi14b => (simp only [List.getElem?_toArray, List.getElem?_cons_succ, List.getElem?_cons_zero]; first | done | rfl)
        case hq14b => exact fun _ _ _ h => h
        case hy14b => (refine Or.inl ⟨by rfl, ?_⟩; intro wz hSw; obtain ⟨hS1, hS2, hS3, hS4, hS5⟩ := hSw; go_simp; first | done | with_reducible rfl | simp | omega)
        try simp only [Act.put, List.setIfInBounds_toArray, List.set_cons_zero, List.set_cons_succ]
        refine anyT_take (i := 15) (oi := ?oi15b) (v := .int .i64 t) ?hi15b (by kernel_rfl) ?hq15b ?hy15b (by assumption) ?rest15b
        case hi15b => (simp only [List.getElem?_toArray, List.getElem?_cons_succ, List.getElem?_cons_zero]; first | done | rfl)
        case hq15b => exact fun _ _ _ h => h
        case hy15b => (refine Or.inl ⟨by rfl, ?_⟩; intro wz hSw; obtain ⟨hS1, hS2, hS3, hS4, hS5⟩ := hSw; go_simp; first | done | with_reducible rfl | simp | omega)
        try simp only [Act.put, List.setIfInBounds_toArray, List.set_cons_zero, List.set_cons_succ]
        refine anyT_take (i := 16) (oi := ?oi16b) (v := .bool true) ?hi16b (by kernel_rfl) ?hq16b ?hy16b (by assumption) ?rest16b
        case hi16b => (simp only [List.getElem?_toArray, List.getElem?_cons_succ, List.getElem?_cons_zero]; first | done | rfl)
        case hq16b => exact fun _ _ _ h => h
        case hy16b => (refine Or.inl ⟨by rfl, ?_⟩; intro wz hSw; obtain ⟨hS1, hS2, hS3, hS4, hS5⟩ := hSw; go_simp; first | done | with_reducible rfl | simp | omega)
        try simp only [Act.put, List.setIfInBounds_toArray, List.set_cons_zero, List.set_cons_succ]
        refine anyT_take (i := 17) (oi := ?oi17b) (v := .bool true) ?hi17b (by kernel_rfl) ?hq17b ?hy17b (by assumption) ?rest17b
        case hi17b => (simp only [List.getElem?_toArray, List.getElem?_cons_succ, List.getElem?_cons_zero]; first | done | rfl)
        case hq17b => exact fun _ _ _ h => h
        case hy17b => (refine Or.inl ⟨by rfl, ?_⟩; intro wz hSw; obtain ⟨hS1, hS2, hS3, hS4, hS5⟩ := hSw; go_simp; first | done | with_reducible rfl | simp | omega)
        try simp only [Act.put, List.setIfInBounds_toArray, List.set_cons_zero, List.set_cons_succ]
        refine anyT_take (i := 18) (oi := ?oi18b) (v := .bool true) ?hi18b (by kernel_rfl) ?hq18b ?hy18b (by assumption) ?rest18b
        case hi18b => (simp only [List.getElem?_toArray, List.getElem?_cons_succ, List.getElem?_cons_zero]; first | done | rfl)
        case hq18b => exact fun _ _ _ h => h
        case hy18b => (refine Or.inl ⟨by rfl, ?_⟩; intro wz hSw; obtain ⟨hS1, hS2, hS3, hS4, hS5⟩ := hSw; go_simp; first | done | with_reducible rfl | simp | omega)
        try simp only [Act.put, List.setIfInBounds_toArray, List.set_cons_zero, List.set_cons_succ]
        refine anyT_take (i := 19) (oi := ?oi19b) (v := .slice (some ⟨bu, off, none⟩) n c1) ?hi19b (by kernel_rfl) ?hq19b ?hy19b (by assumption) ?rest19b
        case hi19b => (simp only [List.getElem?_toArray, List.getElem?_cons_succ, List.getElem?_cons_zero]; first | done | rfl)
        case hq19b => exact fun _ _ _ h => h
        case hy19b => (refine Or.inl ⟨by rfl, ?_⟩; intro wz hSw; obtain ⟨hS1, hS2, hS3, hS4, hS5⟩ := hSw; go_simp; first | done | with_reducible rfl | simp | omega)
        try simp only [Act.put, List.setIfInBounds_toArray, List.set_cons_zero, List.set_cons_succ]
        refine anyT_take (i := 20) (oi := ?oi20b) (v := .int .i64 (x : Int)) ?hi20b (by kernel_rfl) ?hq20b ?hy20b (by assumption) ?rest20b
        case hi20b => (simp only [List.getElem?_toArray, List.getElem?_cons_succ, List.getElem?_cons_zero]; first | done | rfl)
        case hq20b => exact fun _ _ _ h => h
        case hy20b => (refine Or.inl ⟨by rfl, ?_⟩; intro wz hSw; obtain ⟨hS1, hS2, hS3, hS4, hS5⟩ := hSw; go_simp; first | done | with_reducible rfl | simp | omega)
        try simp only [Act.put, List.setIfInBounds_toArray, List.set_cons_zero, List.set_cons_succ]
        refine anyT_take (i := 21) (oi := ?oi21b) (v := .pointer (some ⟨bu, off + x, none⟩)) ?hi21b (by kernel_rfl) ?hq21b ?hy21b (by assumption) ?rest21b
        case hi21b => (simp only [List.getElem?_toArray, List.getElem?_cons_succ, List.getElem?_cons_zero]; first | done | rfl)
        case hq21b => exact fun _ _ _ h => h
        case hy21b => (refine Or.inl ⟨by rfl, ?_⟩; intro wz hSw; obtain ⟨hS1, hS2, hS3, hS4, hS5⟩ := hSw; go_simp; first | done | with_reducible rfl | simp | omega)
        try simp only [Act.put, List.setIfInBounds_toArray, List.set_cons_zero, List.set_cons_succ]
        refine anyT_take (i := 22) (oi := ?oi22b) (v := .int .i64 zx) ?hi22b (by kernel_rfl) ?hq22b ?hy22b (by assumption) ?rest22b
        case hi22b => (simp only [List.getElem?_toArray, List.getElem?_cons_succ, List.getElem?_cons_zero]; first | done | rfl)
        case hq22b => exact fun _ _ _ h => h
        case hy22b => (refine Or.inl ⟨by rfl, ?_⟩; intro wz hSw; obtain ⟨hS1, hS2, hS3, hS4, hS5⟩ := hSw; go_simp; first | done | with_reducible rfl | simp | omega)
        try simp only [Act.put, List.setIfInBounds_toArray, List.set_cons_zero, List.set_cons_succ]
        refine anyT_take (i := 23) (oi := ?oi23b) (v := .int .i64 (y : Int)) ?hi23b (by kernel_rfl) ?hq23b ?hy23b (by assumption) ?rest23b
        case hi23b => (simp only [List.getElem?_toArray, List.getElem?_cons_succ, List.getElem?_cons_zero]; first | done | rfl)
        case hq23b => exact fun _ _ _ h => h
        case hy23b => (refine Or.inl ⟨by rfl, ?_⟩; intro wz hSw; obtain ⟨hS1, hS2, hS3, hS4, hS5⟩ := hSw; go_simp; first | done | with_reducible rfl | simp | omega)
        try simp only [Act.put, List.setIfInBounds_toArray, List.set_cons_zero, List.set_cons_succ]
        refine anyT_one (i := 24) (by kernel_rfl) rfl (fun K' hK => ?_)
        go_simp
        refine (hasBit_any _ _ _ (by omega) (by omega) (by omega) (by omega)).mono ?_
        rw [Hbit.out]
        rintro e w' ⟨rfl, rfl⟩
        refine hK.out _ _ (fun _ => hS0) ?_
        clear hK K'
        try simp only [Act.put, List.setIfInBounds_toArray, List.set_cons_zero, List.set_cons_succ]
        refine anyT_take (i := 25) (oi := ?oi25b) (v := .bool false) ?hi25b (by kernel_rfl) ?hq25b ?hy25b (by assumption) ?rest25b
        case hi25b => (simp only [List.getElem?_toArray, List.getElem?_cons_succ, List.getElem?_cons_zero]; first | done | rfl)
        case hq25b => exact fun _ _ _ h => h
        case hy25b => (refine Or.inl ⟨by rfl, ?_⟩; intro wz hSw; obtain ⟨hS1, hS2, hS3, hS4, hS5⟩ := hSw; go_simp; first | done | with_reducible rfl | simp | omega)
        try simp only [Act.put, List.setIfInBounds_toArray, List.set_cons_zero, List.set_cons_succ]
        refine anyT_take (i := 26) (oi := ?oi26b) (v := .bool false) ?hi26b (by kernel_rfl) ?hq26b ?hy26b (by assumption) ?rest26b
        case hi26b => (simp only [List.getElem?_toArray, List.getElem?_cons_succ, List.getElem?_cons_zero]; first | done | rfl)
        case hq26b => exact fun _ _ _ h => h
        case hy26b => (refine Or.inl ⟨by rfl, ?_⟩; intro wz hSw; obtain ⟨hS1, hS2, hS3, hS4, hS5⟩ := hSw; go_simp; first | done | with_reducible rfl | simp | omega)
        try simp only [Act.put, List.setIfInBounds_toArray, List.set_cons_zero, List.set_cons_succ]
        refine anyT_take (i := 27) (oi := ?oi27b) (v := .pointer (some ⟨q1, 0, none⟩)) ?hi27b (by kernel_rfl) ?hq27b ?hy27b (by assumption) ?rest27b
        case hi27b => (simp only [List.getElem?_toArray, List.getElem?_cons_succ, List.getElem?_cons_zero]; first | done | rfl)
        case hq27b => exact fun _ _ _ h => h
        case hy27b => (refine Or.inl ⟨by rfl, ?_⟩; intro wz hSw; obtain ⟨hS1, hS2, hS3, hS4, hS5⟩ := hSw; go_simp; first | done | with_reducible rfl | simp | omega)
        try simp only [Act.put, List.setIfInBounds_toArray, List.set_cons_zero, List.set_cons_succ]
        refine anyT_take (i := 28) (oi := ?oi28b) (v := .int .i64 u) ?hi28b (by kernel_rfl) ?hq28b ?hy28b (by assumption) ?rest28b
        case hi28b => (simp only [List.getElem?_toArray, List.getElem?_cons_succ, List.getElem?_cons_zero]; first | done | rfl)
        case hq28b => exact fun _ _ _ h => h
        case hy28b => (refine Or.inl ⟨by rfl, ?_⟩; intro wz hSw; obtain ⟨hS1, hS2, hS3, hS4, hS5⟩ := hSw; go_simp; first | done | with_reducible rfl | simp | omega)
        try simp only [Act.put, List.setIfInBounds_toArray, List.set_cons_zero, List.set_cons_succ]
        refine anyT_take (i := 29) (oi := ?oi29b) (v := .pointer (some ⟨q1, 1, none⟩)) ?hi29b (by kernel_rfl) ?hq29b ?hy29b (by assumption) ?rest29b
        case hi29b => (simp only [List.getElem?_toArray, List.getElem?_cons_succ, List.getElem?_cons_zero]; first | done | rfl)
        case hq29b => exact fun _ _ _ h => h
        case hy29b => (refine Or.inl ⟨by rfl, ?_⟩; intro wz hSw; obtain ⟨hS1, hS2, hS3, hS4, hS5⟩ := hSw; go_simp; first | done | with_reducible rfl | simp | omega)
        try simp only [Act.put, List.setIfInBounds_toArray, List.set_cons_zero, List.set_cons_succ]
        refine anyT_take (i := 30) (oi := ?oi30b) (v := .int .i64 t) ?hi30b (by kernel_rfl) ?hq30b ?hy30b (by assumption) ?rest30b
        case hi30b => (simp only [List.getElem?_toArray, List.getElem?_cons_succ, List.getElem?_cons_zero]; first | done | rfl)
        case hq30b => exact fun _ _ _ h => h
        case hy30b => (refine Or.inl ⟨by rfl, ?_⟩; intro wz hSw; obtain ⟨hS1, hS2, hS3, hS4, hS5⟩ := hSw; go_simp; first | done | with_reducible rfl | simp | omega)
        try simp only [Act.put, List.setIfInBounds_toArray, List.set_cons_zero, List.set_cons_succ]
        refine anyT_take (i := 31) (oi := ?oi31b) (v := .bool true) ?hi31b (by kernel_rfl) ?hq31b ?hy31b (by assumption) ?rest31b
        case hi31b => (simp only [List.getElem?_toArray, List.getElem?_cons_succ, List.getElem?_cons_zero]; first | done | rfl)
        case hq31b => exact fun _ _ _ h => h
        case hy31b => (refine Or.inl ⟨by rfl, ?_⟩; intro wz hSw; obtain ⟨hS1, hS2, hS3, hS4, hS5⟩ := hSw; go_simp; first | done | with_reducible rfl | simp [Hut.out] | exact Hut.out | (have := Hut.out; omega))
        try simp only [Act.put, List.setIfInBounds_toArray, List.set_cons_zero, List.set_cons_succ]
        refine anyT_take (i := 32) (oi := ?oi32b) (v := .bool true) ?hi32b (by kernel_rfl) ?hq32b ?hy32b (by assumption) ?rest32b
        case hi32b => (simp only [List.getElem?_toArray, List.getElem?_cons_succ, List.getElem?_cons_zero]; first | done | rfl)
        case hq32b => exact fun _ _ _ h => h
        case hy32b => (refine Or.inl ⟨by rfl, ?_⟩; intro wz hSw; obtain ⟨hS1, hS2, hS3, hS4, hS5⟩ := hSw; go_simp; first | done | with_reducible rfl | simp | omega)
        try simp only [Act.put, List.setIfInBounds_toArray, List.set_cons_zero, List.set_cons_succ]
        refine anyT_take (i := 33) (oi := ?oi33b) (v := .bool true) ?hi33b (by kernel_rfl) ?hq33b ?hy33b (by assumption) ?rest33b
        case hi33b => (simp only [List.getElem?_toArray, List.getElem?_cons_succ, List.getElem?_cons_zero]; first | done | rfl)
        case hq33b => exact fun _ _ _ h => h
        case hy33b => (refine Or.inl ⟨by rfl, ?_⟩; intro wz hSw; obtain ⟨hS1, hS2, hS3, hS4, hS5⟩ := hSw; go_simp; first | done | with_reducible rfl | simp | omega)
        try simp only [Act.put, List.setIfInBounds_toArray, List.set_cons_zero, List.set_cons_succ]
        refine anyT_take (i := 34) (oi := ?oi34b) (v := .bool true) ?hi34b (by kernel_rfl) ?hq34b ?hy34b (by assumption) ?rest34b
        case hi34b => (simp only [List.getElem?_toArray, List.getElem?_cons_succ, List.getElem?_cons_zero]; first | done | rfl)
        case hq34b => exact fun _ _ _ h => h
        case hy34b => (refine Or.inl ⟨by rfl, ?_⟩; intro wz hSw; obtain ⟨hS1, hS2, hS3, hS4, hS5⟩ := hSw; go_simp; first | done | with_reducible rfl | simp | omega)
        try simp only [Act.put, List.setIfInBounds_toArray, List.set_cons_zero, List.set_cons_succ]
        refine anyT_take (i := 35) (oi := ?oi35b) (v := .pointer (some ⟨q1, 1, none⟩)) ?hi35b (by kernel_rfl) ?hq35b ?hy35b (by assumption) ?rest35b
        case hi35b => (simp only [List.getElem?_toArray, List.getElem?_cons_succ, List.getElem?_cons_zero]; first | done | rfl)
        case hq35b => exact fun _ _ _ h => h
        case hy35b => (refine Or.inl ⟨by rfl, ?_⟩; intro wz hSw; obtain ⟨hS1, hS2, hS3, hS4, hS5⟩ := hSw; go_simp; first | done | with_reducible rfl | simp | omega)
        try simp only [Act.put, List.setIfInBounds_toArray, List.set_cons_zero, List.set_cons_succ]
        refine anyT_take (i := 36) (oi := ?oi36b) (v := .int .i64 t) ?hi36b (by kernel_rfl) ?hq36b ?hy36b (by assumption) ?rest36b
        case hi36b => (simp only [List.getElem?_toArray, List.getElem?_cons_succ, List.getElem?_cons_zero]; first | done | rfl)
        case hq36b => exact fun _ _ _ h => h
        case hy36b => (refine Or.inl ⟨by rfl, ?_⟩; intro wz hSw; obtain ⟨hS1, hS2, hS3, hS4, hS5⟩ := hSw; go_simp; first | done | with_reducible rfl | simp | omega)
        try simp only [Act.put, List.setIfInBounds_toArray, List.set_cons_zero, List.set_cons_succ]
        refine anyT_take (i := 37) (oi := ?oi37b) (v := .bool true) ?hi37b (by kernel_rfl) ?hq37b ?hy37b (by assumption) ?rest37b
        case hi37b => (simp only [List.getElem?_toArray, List.getElem?_cons_succ, List.getElem?_cons_zero]; first | done | rfl)
        case hq37b => exact fun _ _ _ h => h
        case hy37b => (refine Or.inl ⟨by rfl, ?_⟩; intro wz hSw; obtain ⟨hS1, hS2, hS3, hS4, hS5⟩ := hSw; go_simp; first | done | with_reducible rfl | simp [ht1] | (simp; omega) | omega)
        try simp only [Act.put, List.setIfInBounds_toArray, List.set_cons_zero, List.set_cons_succ]
        refine anyT_take (i := 38) (oi := ?oi38b) (v := .bool true) ?hi38b (by kernel_rfl) ?hq38b ?hy38b (by assumption) ?rest38b
        case hi38b => (simp only [List.getElem?_toArray, List.getElem?_cons_succ, List.getElem?_cons_zero]; first | done | rfl)
        case hq38b => exact fun _ _ _ h => h
        case hy38b => (refine Or.inl ⟨by rfl, ?_⟩; intro wz hSw; obtain ⟨hS1, hS2, hS3, hS4, hS5⟩ := hSw; go_simp; first | done | with_reducible rfl | simp | omega)
        try simp only [Act.put, List.setIfInBounds_toArray, List.set_cons_zero, List.set_cons_succ]
        refine anyT_take (i := 39) (oi := ?oi39b) (v := .bool true) ?hi39b (by kernel_rfl) ?hq39b ?hy39b (by assumption) ?rest39b
        case hi39b => (simp only [List.getElem?_toArray, List.getElem?_cons_succ, List.getElem?_cons_zero]; first | done | rfl)
        case hq39b => exact fun _ _ _ h => h
        case hy39b => (refine Or.inl ⟨by rfl, ?_⟩; intro wz hSw; obtain ⟨hS1, hS2, hS3, hS4, hS5⟩ := hSw; go_simp; first | done | with_reducible rfl | simp | omega)
        try simp only [Act.put, List.setIfInBounds_toArray, List.set_cons_zero, List.set_cons_succ]
        refine anyT_take (i := 40) (oi := ?oi40b) (v := .slice (some ⟨bu, off, none⟩) n c1) ?hi40b (by kernel_rfl) ?hq40b ?hy40b (by assumption) ?rest40b
        case hi40b => (simp only [List.getElem?_toArray, List.getElem?_cons_succ, List.getElem?_cons_zero]; first | done | rfl)
        case hq40b => exact fun _ _ _ h => h
        case hy40b => (refine Or.inl ⟨by rfl, ?_⟩; intro wz hSw; obtain ⟨hS1, hS2, hS3, hS4, hS5⟩ := hSw; go_simp; first | done | with_reducible rfl | simp | omega)
        try simp only [Act.put, List.setIfInBounds_toArray, List.set_cons_zero, List.set_cons_succ]
        refine anyT_take (i := 42) (oi := ?oi42b) (v := .pointer (some ⟨q1, 1, none⟩)) ?hi42b (by kernel_rfl) ?hq42b ?hy42b (by assumption) ?rest42b
        case hi42b => (simp only [List.getElem?_toArray, List.getElem?_cons_succ, List.getElem?_cons_zero]; first | done | rfl)
        case hq42b => exact fun _ _ _ h => h
        case hy42b => (refine Or.inl ⟨by rfl, ?_⟩; intro wz hSw; obtain ⟨hS1, hS2, hS3, hS4, hS5⟩ := hSw; go_simp; first | done | with_reducible rfl | simp | omega)
        try simp only [Act.put, List.setIfInBounds_toArray, List.set_cons_zero, List.set_cons_succ]
        refine anyT_take (i := 43) (oi := ?oi43b) (v := .int .i64 t) ?hi43b (by kernel_rfl) ?hq43b ?hy43b (by assumption) ?rest43b
        case hi43b => (simp only [List.getElem?_toArray, List.getElem?_cons_succ, List.getElem?_cons_zero]; first | done | rfl)
        case hq43b => exact fun _ _ _ h => h
        case hy43b => (refine Or.inl ⟨by rfl, ?_⟩; intro wz hSw; obtain ⟨hS1, hS2, hS3, hS4, hS5⟩ := hSw; go_simp; first | done | with_reducible rfl | simp | omega)
        try simp only [Act.put, List.setIfInBounds_toArray, List.set_cons_zero, List.set_cons_succ]
        refine anyT_one (i := 41) (by kernel_rfl) rfl (fun K' hK => ?_)
        go_simp
        refine (CountLines_any _ n c1 zs V6 hI6 (by omega)).mono ?_
        rw [HL.out]
        rintro e w7 ⟨rfl, hB7⟩
        have h7 : (fun w' => w'.cell? ⟨q1, 0, none⟩ = some (.int .i64 u) ∧ w'.cell? ⟨q1, 1, none⟩ = some (.int .i64 t) ∧ w'.cell? ⟨q2, 0, none⟩ = some (.int .i64 v) ∧ w'.cell? ⟨q2, 1, none⟩ = some (.int .i64 t) ∧ w'.cell? ⟨bu, off + x, none⟩ = some (.int .i64 zx)) w7 := ⟨(World.cell?_of_block (hB7.block q1 (by omega))).trans hS0.1, (World.cell?_of_block (hB7.block q1 (by omega))).trans hS0.2.1, (World.cell?_of_block (hB7.block q2 (by omega))).trans hS0.2.2.1, (World.cell?_of_block (hB7.block q2 (by omega))).trans hS0.2.2.2.1, (World.cell?_of_block (hB7.block bu (by omega))).trans hS0.2.2.2.2⟩
        refine hK.out _ _ (fun _ => h7) ?_
        clear hS0
        have hS0 := h7
        clear hK K'
        try simp only [Act.put, List.setIfInBounds_toArray, List.set_cons_zero, List.set_cons_succ]
        refine anyT_take (i := 44) (oi := ?oi44b) (v := .int .i64 0) ?hi44b (by kernel_rfl) ?hq44b ?hy44b (by assumption) ?rest44b
        case hi44b => (simp only [List.getElem?_toArray, List.getElem?_cons_succ, List.getElem?_cons_zero]; first | done | rfl)
        case hq44b => exact fun _ _ _ h => h
        case hy44b => (refine Or.inl ⟨by rfl, ?_⟩; intro wz hSw; obtain ⟨hS1, hS2, hS3, hS4, hS5⟩ := hSw; go_simp; first | done | with_reducible rfl | exact Hrem.out | (simp [Hrem.out]; done) | (simp [htne, Hrem.out]; done) | (split <;> simp_all))
        try simp only [Act.put, List.setIfInBounds_toArray, List.set_cons_zero, List.set_cons_succ]
        refine anyT_take (i := 45) (oi := ?oi45b) (v := .bool true) ?hi45b (by kernel_rfl) ?hq45b ?hy45b (by assumption) ?rest45b
        case hi45b => (simp only [List.getElem?_toArray, List.getElem?_cons_succ, List.getElem?_cons_zero]; first | done | rfl)
        case hq45b => exact fun _ _ _ h => h
        case hy45b => (refine Or.inl ⟨by rfl, ?_⟩; intro wz hSw; obtain ⟨hS1, hS2, hS3, hS4, hS5⟩ := hSw; go_simp; first | done | with_reducible rfl | simp | omega)
        try simp only [Act.put, List.setIfInBounds_toArray, List.set_cons_zero, List.set_cons_succ]
        refine anyT_take (i := 46) (oi := ?oi46b) (v := .bool true) ?hi46b (by kernel_rfl) ?hq46b ?hy46b (by assumption) ?rest46b
        case hi46b => (simp only [List.getElem?_toArray, List.getElem?_cons_succ, List.getElem?_cons_zero]; first | done | rfl)
        case hq46b => exact fun _ _ _ h => h
        case hy46b => (refine Or.inl ⟨by rfl, ?_⟩; intro wz hSw; obtain ⟨hS1, hS2, hS3, hS4, hS5⟩ := hSw; go_simp; first | done | with_reducible rfl | simp | omega)
        try simp only [Act.put, List.setIfInBounds_toArray, List.set_cons_zero, List.set_cons_succ]
        refine anyT_one (i := 47) (by kernel_rfl) rfl (fun K' hK => ?_)
        go_simp
        refine hK.out _ _ (fun h => absurd rfl h) ?_
        clear hK K'
        try simp only [Act.put, List.setIfInBounds_toArray, List.set_cons_zero, List.set_cons_succ]
        refine anyT_done (by kernel_rfl) ?_ _
        go_wp2_with fail
        go_ret
        exact ⟨rfl, D6.trans (hB7.mono D6.size)⟩


  · go_enter Try.func8, Try.ntmps8
    go_wp2
    go_ret
    exact ⟨rfl, Below.refl _ _⟩
end Go.Proofs.Ythjmedbjdjkilaa

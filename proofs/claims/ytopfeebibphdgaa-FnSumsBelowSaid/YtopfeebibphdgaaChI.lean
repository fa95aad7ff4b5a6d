/- SignByChains: the program's chains. -/
import Derived.Test.YtopfeebibphdgaaSgP
import Derived.Test.YtopfeebibphdgaaClM
import Derived.Test.YtopfeebibphdgaaSumS
namespace Go.Proofs.Ytopfeebibphdgaa
open Go.RowKit Go.Shelf
attribute [local go_sem] Oper.semAt_some
attribute [local go_sem, local simp] wide_fn

/-- What holds between two rounds. -/
def FilIn (p : Nat → Bool) (J : List Nat → (Nat → Prop) → World → Prop) (M : Nat → Prop) (Wc : World) (xs : List Nat) (D : Nat → Prop) (W : World) : Prop :=
  ∃ D2, J (xs.filter p) D2 W ∧ (∀ j, D2 j → D j) ∧ Upd M Wc W
theorem FilIn.firm {p : Nat → Bool} {J : List Nat → (Nat → Prop) → World → Prop} {M : Nat → Prop} {B : Nat} {Wc : World} (hJ : Firm B J) (hB : B ≤ Wc.heap.size) : Firm Wc.heap.size (FilIn p J M Wc) := by
  rintro s D W W' ⟨D2, hj, h2, hu⟩ hw
  exact ⟨D2, hJ _ _ _ _ hj (hw.mono fun j _ e => ⟨by omega, fun e2 => e.2 (h2 j e2)⟩), h2, hu.trans' hw (fun i hi e => by omega)⟩

set_option maxRecDepth 100000 in
set_option maxHeartbeats 8000000 in
theorem chains_iter (q n : Nat) (zs : List Int) (hvo : VoP zs) (hlen0 : zs.length = n) (a b o bo bw : Nat) (ha : a < n) (hb : b < n) (M : Nat → Prop) (w : World) (bO : Boxed w o 39 (.slice (some ⟨q, 0, none⟩) n n)) (bB : Boxed w bo 57 (.int .i64 (twoS a b))) (bW : Boxed w bw 57 (.int .i64 (btw zs a b)))
    (hA : Arr w q 57 zs) (hM : ¬ M o ∧ ¬ M bo ∧ ¬ M bw ∧ ¬ M q) (hMb : ∀ k, M k → k < w.heap.size) :
    Iter Try.prog 83 #[.pointer (some ⟨o, 0, none⟩), .pointer (some ⟨bo, 0, none⟩), .pointer (some ⟨bw, 0, none⟩)] encS (clL zs a b) M w := fun l J Jx hJ hJx hY h0 => by
  refine (callsIn_wide (n := 9)).1 ?_
  refine callsIn_of_wp_marks Try.func83 rfl trivial ?_ rfl
  simp only [Try.ntmps83, List.size_toArray, List.length_cons, List.length_nil, Nat.reduceAdd, Nat.reduceSub, Array.replicate_succ, Array.replicate_zero, List.push_toArray, List.append_toArray, List.nil_append, List.cons_append]
  obtain ⟨hM1, hM2, hM3, hM4⟩ := hM
  have hlen := Lib.hid hlen0
  have hn6 : n ≤ 6 := by have := hvo.1; rw [hlen0] at this; exact this
  have hnz := Lib.hid (show 2 ^ zs.length = 2 ^ n by rw [hlen0])
  clear hlen0
  have hol := bO.lt
  have hbl := bB.lt
  have hwl := bW.lt
  have hql := hA.lt
  have yB0 := Boxed.new w 66 (.func (.yield l) #[] #[])
  have hu0 : Upd (fun _ => False) w (w.alloc (.cells #[Value.func (.yield l) #[] #[]] 66)) := (Upd.refl _ w).alloc _
  have hcO0 := (hu0.boxed bO (fun e => e)).cell
  gi_wp2_with (gi_at_call 84; refine (callsIn_wide.2 (sets_any _ _ _ _)).mono ?_; rintro e w' ⟨rfl, rfl⟩)
  have yB := yB0.alloc (.cells #[Value.slice (some ⟨q, 0, none⟩) n n] 39)
  have bE := Boxed.new (w.alloc (.cells #[Value.func (.yield l) #[] #[]] 66)) 39 (.slice (some ⟨q, 0, none⟩) n n)
  have huc := hu0.alloc (.cells #[Value.slice (some ⟨q, 0, none⟩) n n] 39)
  have hzc : ((w.alloc (.cells #[Value.func (.yield l) #[] #[]] 66)).alloc (.cells #[Value.slice (some ⟨q, 0, none⟩) n n] 39)).heap.size = w.heap.size + 2 := by simp
  simp only [World.size_alloc] at bE
  obtain ⟨Wc, hWc⟩ : ∃ Wc, ((w.alloc (.cells #[Value.func (.yield l) #[] #[]] 66)).alloc (.cells #[Value.slice (some ⟨q, 0, none⟩) n n] 39)) = Wc := ⟨_, rfl⟩
  rw [hWc] at yB bE huc hzc ⊢
  clear hWc yB0 hu0 hcO0
  have bOc := huc.boxed bO (fun e => e)
  have bBc := huc.boxed bB (fun e => e)
  have bWc := huc.boxed bW (fun e => e)
  have hAc := hA.upd huc (fun e => e)
  have hjc : J [] (fun _ => False) Wc := hJ _ _ _ _ h0 (huc.mono fun _ _ e => e.elim)
  refine range_out (n := 9) (gf := 105) (lb := #[.pointer (some ⟨w.heap.size + 1, 0, none⟩)]) rfl (enters_of Try.func105 (by kernel_rfl) rfl) (encs := encS) (L := List.range (2 ^ n))
    M (fun j e => by have := hMb j e; omega) (fun _ => rfl)
    (fun W1 l1 hu1 hl1 hl2 => sets_iter _ _ _ hn6 _ _ W1 (hu1.boxed bE (fun e => e)))
    (FilIn (clB zs a b) J M Wc) (fun co xs D' W => co = .ret ∧ FilIn (clB zs a b) Jx M Wc xs D' W)
    (FilIn.firm hJ (by omega)) (fun co s D' W W' hs hu => ⟨hs.1, FilIn.firm hJx (by omega) s D' W W' hs.2 hu⟩)
    ⟨fun _ => False, hjc, fun _ e => e, Upd.refl _ _⟩ ?owes ?done ?stop
  case owes =>
    intro l1 pre x D1 W hl1 hl2 hDl hD1 hP hpre K hK
    gi_wp2
    refine hK _ _ (Upd.refl _ _) ?_
    rintro Wb hWb - ⟨D2, hj2, h2, hu2⟩
    clear hK
    have hzb := hu2.size
    have hzW := hWb.size
    have hxN : x < 2 ^ n := by
      obtain ⟨e, h⟩ := range_at hpre
      rw [e]; exact h
    have bO2 := hu2.boxed bOc hM1
    have bB2 := hu2.boxed bBc hM2
    have bW2 := hu2.boxed bWc hM3
    have hA2 := hAc.upd hu2 hM4
    have yB2 := hu2.boxed yB (fun e => by have := hMb _ e; omega)
    have hN : ((2 ^ n : Nat) : Int) = powI n := (pow_cast n).symm
    have hpn := powI_le6 (n := (n : Int)) (by omega)
    have hxp : (x : Int) < powI n := by rw [← hN]; exact Int.ofNat_lt.2 hxN
    have htw := twoS_bd ha hb
    have hbw := btw_bd hvo (a := a) (b := b) (by rw [hlen.out]; exact ha)
    rw [hlen.out] at hbw
    have hcO := bO2.cell
    have hcB := bB2.cell
    have hcW := bW2.cell
    have hcY := yB2.cell
    have hi1 := fun w => within_any (twoS a b) (x : Int) w (by omega) (by omega) (by omega) (by omega)
    have hi2 := fun w => within_any (x : Int) (btw zs a b) w (by omega) (by omega) (by omega) (by omega)
    have hi3 := isChain_any _ n n zs (x : Int) hvo Wb (hA2.ints' hA2.lt hlen.out) (by omega) (by omega)
    have Hcl := Lib.hid (show clB zs a b x = ((lessI (twoS a b) (x : Int) == 0 && lessI (x : Int) (btw zs a b) == 0) && chB zs (x : Int)) from rfl)
    have W1 : ∀ (K : Ending → World → Prop), (K (.returned (.bool (lessI (twoS a b) (x : Int) == 0))) Wb) → CallsIn (Fence.wide.inRound l1) 6 Try.prog 85 #[.int .i64 (twoS a b), .int .i64 (x : Int)] Wb K := fun K hK => (CallsIn.inRound l1 (callsIn_wide.2 (hi1 Wb))).mono (by rintro e w' ⟨rfl, rfl⟩; exact hK)
    have skip : clB zs a b x = false → ∀ W3, Below Wb.heap.size Wb W3 → roundEnd M (FilIn (clB zs a b) J M Wc) (fun co xs D' W => co = .ret ∧ FilIn (clB zs a b) Jx M Wc xs D' W) (pre ++ [x]) D1 W.heap.size Wb .normal { tmps := #[], defers := [] } W3 := fun hc W3 hB3 =>
      ⟨D2, ⟨D2, by rw [List.filter_append, show [x].filter (clB zs a b) = [] by simp [hc], List.append_nil]; exact hJ _ _ _ _ hj2 ((Below.toUpd hB3).mono fun k hk e => by omega), fun j e => e, hu2.below hB3 (fun k h1 h2 => by omega)⟩, (Below.toUpd hB3).mono fun k hk e => by omega, fun k hk => .inl (h2 k hk)⟩
    clear W1
    cases c1 : (lessI (twoS a b) (x : Int) == 0)
    · have Hf := Lib.hid (show clB zs a b x = false by rw [Hcl.out, c1]; rfl)
      rw [c1] at hi1
      clear c1
      gi_wp2_with fail
      refine (CallsIn.inRound l1 (callsIn_wide.2 (hi1 _))).mono ?_
      rintro e w' ⟨rfl, rfl⟩
      gi_wp2
      exact skip Hf.out _ (Below.refl _ _)
    · cases c2 : (lessI (x : Int) (btw zs a b) == 0)
      · have Hf := Lib.hid (show clB zs a b x = false by rw [Hcl.out, c1, c2]; rfl)
        rw [c1] at hi1
        rw [c2] at hi2
        clear c1 c2
        gi_wp2_with fail
        refine (CallsIn.inRound l1 (callsIn_wide.2 (hi1 _))).mono ?_
        rintro e w' ⟨rfl, rfl⟩
        gi_wp2_with fail
        refine (CallsIn.inRound l1 (callsIn_wide.2 (hi2 _))).mono ?_
        rintro e w' ⟨rfl, rfl⟩
        gi_wp2
        exact skip Hf.out _ (Below.refl _ _)
      · cases c3 : chB zs (x : Int)
        · have Hf := Lib.hid (show clB zs a b x = false by rw [Hcl.out, c1, c2, c3]; rfl)
          rw [c1] at hi1
          rw [c2] at hi2
          rw [c3] at hi3
          clear c1 c2 c3
          gi_wp2_with fail
          refine (CallsIn.inRound l1 (callsIn_wide.2 (hi1 _))).mono ?_
          rintro e w' ⟨rfl, rfl⟩
          gi_wp2_with fail
          refine (CallsIn.inRound l1 (callsIn_wide.2 (hi2 _))).mono ?_
          rintro e w' ⟨rfl, rfl⟩
          gi_wp2_with fail
          refine (CallsIn.inRound l1 (callsIn_wide.2 hi3)).mono ?_
          rintro e w' ⟨rfl, hB3⟩
          gi_wp2
          exact skip Hf.out _ hB3
        · have Hf := Lib.hid (show clB zs a b x = true by rw [Hcl.out, c1, c2, c3]; rfl)
          rw [c1] at hi1
          rw [c2] at hi2
          rw [c3] at hi3
          clear c1 c2 c3 skip
          have hxs : pre.filter (clB zs a b) ++ [x] <+: clL zs a b := by
            have := hpre.filter (clB zs a b)
            rw [List.filter_append, show [x].filter (clB zs a b) = [x] by simp [Hf.out]] at this
            unfold clL
            rw [hnz.out]
            exact this
          have Hfil := Lib.hid (show (pre ++ [x]).filter (clB zs a b) = pre.filter (clB zs a b) ++ [x] by rw [List.filter_append]; simp [Hf.out])
          gi_wp2_with fail
          refine (CallsIn.inRound l1 (callsIn_wide.2 (hi1 _))).mono ?_
          rintro e w' ⟨rfl, rfl⟩
          gi_wp2_with fail
          refine (CallsIn.inRound l1 (callsIn_wide.2 (hi2 _))).mono ?_
          rintro e w' ⟨rfl, rfl⟩
          gi_wp2_with fail
          refine (CallsIn.inRound l1 (callsIn_wide.2 hi3)).mono ?_
          rintro e W2 ⟨rfl, hB3⟩
          have z3 := hB3.size
          have hj3 := hJ _ _ _ _ hj2 ((Below.toUpd hB3).mono fun k hk e => ⟨by omega, fun e2 => by have := hD1 k (h2 k e2); omega⟩)
          have hcY2 := ((Below.toUpd hB3).boxed yB2 (fun e => by have := yB2.lt; omega)).cell
          obtain ⟨fn, tmps, assign, body, hy, hR0⟩ := hY _ x D2 W2 hj3 (by omega) hxs 6
          have hR : RoundIn (Fence.wide.inRound l1) 6 Try.prog l fn tmps assign body W2 _ := hR0
          clear hR0 hcO hcB hcW hcY
          dsimp only [encS] at hy
          gi_wp2
          refine hR.mono ?_
          have next : ∀ (D3 : Nat → Prop) (W3 : World), Upd (fun k => M k ∨ D2 k) W2 W3 → (∀ k, D3 k → D2 k ∨ W2.heap.size ≤ k ∧ k < W3.heap.size) →
              Upd M Wc W3 ∧ Upd (fun j => M j ∨ D1 j ∨ W.heap.size ≤ j) Wb W3 ∧ ∀ j, D3 j → D1 j ∨ W.heap.size ≤ j ∧ j < W3.heap.size := fun D3 W3 hu3 hD3 => by
            refine ⟨(hu2.below hB3 (fun k h1 h2 => by omega)).trans' hu3 (fun i hi e => e.elim id (fun e => by have := hD1 i (h2 i e); omega)), (((Below.toUpd hB3).mono (S := fun j => M j ∨ D1 j ∨ W.heap.size ≤ j) fun k hk e => by omega).trans' hu3 (fun i hi e => e.elim .inl (fun e => .inr (.inl (h2 i e))))), fun j e => (hD3 j e).elim (fun h => .inl (h2 j h)) (fun h => .inr ⟨by omega, h.2⟩)⟩
          rintro e W3 (⟨rfl, D3, hj4, hu3, hD3⟩ | ⟨rfl, D3, hj4, hu3, hD3⟩)
          · obtain ⟨n1, n2, n3⟩ := next D3 W3 hu3 hD3
            gi_wp2
            exact ⟨D3, ⟨D3, by rw [Hfil.out]; exact hj4, fun _ e => e, n1⟩, n2, n3⟩
          · obtain ⟨n1, n2, n3⟩ := next D3 W3 hu3 hD3
            gi_wp2
            exact ⟨D3, ⟨rfl, D3, by rw [Hfil.out]; exact hj4, fun _ e => e, n1⟩, n2, n3⟩
  case done =>
    rintro d D1 W hd ⟨D2, hj2, h2, hu2⟩ hD1 hKd
    gi_wp2
    refine leaves_marks [d] _ ⟨by simp, fun b hb => ?_⟩ (fun W' hu' => ?_)
    · rw [List.mem_singleton.1 hb]
      exact hKd
    · exact ⟨_, results_none rfl _ _ _, ⟨_, rfl⟩, .inl ⟨D2, by unfold clL; rw [hnz.out]; exact hJ _ _ _ _ hj2 (hu'.mono fun k hk e => ⟨by simp at e; omega, fun e2 => by simp at e; have := hD1 k (h2 k e2); omega⟩)⟩⟩
  case stop =>
    rintro d D1 co pre W hd hpre ⟨rfl, D2, hj2, h2, hu2⟩ hD1 hKd
    gi_wp2
    refine leaves_marks [d] _ ⟨by simp, fun b hb => ?_⟩ (fun W' hu' => ?_)
    · rw [List.mem_singleton.1 hb]
      exact hKd
    · exact ⟨_, results_none rfl _ _ _, ⟨_, rfl⟩, .inr ⟨_, D2, by unfold clL; rw [hnz.out]; exact hpre.filter _, hJx _ _ _ _ hj2 (hu'.mono fun k hk e => ⟨by simp at e; omega, fun e2 => by simp at e; have := hD1 k (h2 k e2); omega⟩)⟩⟩
end Go.Proofs.Ytopfeebibphdgaa

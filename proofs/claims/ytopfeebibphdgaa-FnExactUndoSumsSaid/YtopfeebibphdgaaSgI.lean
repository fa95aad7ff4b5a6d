/- The number of two items: the program's, with what it has found before in a map whose keys are structs. -/
import Derived.Test.YtopfeebibphdgaaGc
import Derived.DeepKeys4
import Derived.Maps.OwnIn
namespace Go.Proofs.Ytopfeebibphdgaa
open Go.RowKit Go.Shelf
attribute [local go_sem] Oper.semAt_some
attribute [local go_sem, local simp] wide_fn

/-- Two items as a value. -/
def endV (a b : Nat) : Value := .agg #[.int .i64 (a : Int), .int .i64 (b : Int)]
theorem ekeyed : Go.Maps.Keyed Try.prog 44 :=
  Go.Maps.Keyed.of_law (deep_law_laid (show laidOutB Try.prog = true by kernel_rfl) (m := 2) (by omega) (of_decide_eq_true (by kernel_rfl)) (by kernel_rfl) (by kernel_rfl))
/-- Two items as a key. -/
def ekey (a b : Nat) : Lit := .string (keyBytes [.int .i64 (a : Int), .int .i64 (b : Int)])
theorem ekey_fin : ∀ a b : Fin 6, (match keyOf Try.prog 44 (endV a.val b.val) with | some (.string l) => decide (l = keyBytes [.int .i64 (a.val : Int), .int .i64 (b.val : Int)]) | _ => false) = true := by decide +kernel
theorem ekey_of {a b : Nat} (ha : a < 6) (hb : b < 6) : keyOf Try.prog 44 (endV a b) = some (ekey a b) := by
  have h := ekey_fin ⟨a, ha⟩ ⟨b, hb⟩
  simp only at h
  unfold ekey
  split at h
  · rename_i l e
    rw [e, of_decide_eq_true h]
  · cases h
theorem ekey_inj {a b c d : Nat} (ha : a < 6) (hb : b < 6) (hc : c < 6) (hd : d < 6) (h : ekey a b = ekey c d) : a = c ∧ b = d := by
  have h1 := ekey_of ha hb
  have h2 := ekey_of hc hd
  rw [← h] at h2
  have := ekeyed.inj h1 h2
  unfold endV at this
  simp at this
  omega
/-- The map in block m, written at most k times, holds numbers that are right. -/
def EMap (zs : List Int) (w : World) (m k : Nat) : Prop := ∃ D : DataW Unit, w.ownsMap Try.prog 44 (plainElem Try.prog 3) m k D ∧
  ∀ a b : Nat, a < 6 → b < 6 → Maps.has D (ekey a b) = true → ∀ d, D.atKey (ekey a b) d = .lit (.int .i64 (muI zs a b))
theorem EMap.lt {zs : List Int} {w : World} {m k : Nat} (h : EMap zs w m k) : m < w.heap.size := by
  obtain ⟨D, ⟨es, clock, hb, _⟩, _⟩ := h
  exact (Array.getElem?_eq_some_iff.1 hb).1
theorem EMap.upd {zs : List Int} {w w' : World} {m k : Nat} {R : Nat → Prop} (h : EMap zs w m k) (hu : Upd R w w') (hr : ¬ R m) : EMap zs w' m k := by
  have hl := h.lt
  obtain ⟨D, ⟨es, clock, hb, r⟩, hin⟩ := h
  exact ⟨D, ⟨es, clock, (hu.block m hl hr).trans hb, r⟩, hin⟩
theorem EMap.mono {zs : List Int} {w : World} {m k k' : Nat} (h : EMap zs w m k) (hk : k ≤ k') : EMap zs w m k' := by
  obtain ⟨D, h1, h2⟩ := h
  exact ⟨D, h1.mono hk, h2⟩
theorem EMap.new {zs : List Int} {w : World} {m : Nat} (h : w.heap[m]? = some (.map #[] 0)) : EMap zs w m 0 := by
  obtain ⟨es, clock, hb, F, hs, hD⟩ := World.ownsMap_made (H := Unit) w Try.prog 44 (plainElem Try.prog 3)
  rw [heap_alloc_new] at hb
  cases hb
  refine ⟨.map [], ⟨#[], 0, h, F, hs, hD⟩, fun a b _ _ hh => ?_⟩
  simp [Maps.has] at hh
set_option maxRecDepth 100000 in
theorem EMap.put {zs : List Int} {w : World} {m k a b : Nat} (ha : a < 6) (hb : b < 6) {D : DataW Unit} (h : ∀ c d : Nat, c < 6 → d < 6 → Maps.has D (ekey c d) = true → ∀ e, D.atKey (ekey c d) e = .lit (.int .i64 (muI zs c d)))
    (hm : Maps.IsMap D) (hw : w.ownsMap Try.prog 44 (plainElem Try.prog 3) m k (D.put (ekey a b) (.lit (.int .i64 (muI zs a b))))) : EMap zs w m k := by
  refine ⟨_, hw, fun c d hc hd hh e => ?_⟩
  by_cases hts : a = c ∧ b = d
  · obtain ⟨rfl, rfl⟩ := hts
    exact Maps.atKey_put_same hm (ekeyed.key (ekey_of ha hb)) _ _
  · have hne : ekey c d ≠ ekey a b := fun e => hts (ekey_inj ha hb hc hd e.symm)
    rw [Maps.atKey_put_other hne]
    rw [Maps.has_put_other hne] at hh
    exact h c d hc hd hh e
theorem ezero_int (w : World) : (zeroValue 3).run Try.prog w = .ok (.int .i64 0) w := by kernel_rfl

/-- How often the map is written at most. -/
def ecost : Nat → Nat
  | 0 => 0
  | f + 1 => 6 * ecost f + 1
theorem ecost_le : ∀ f : Fin 8, ecost f.val ≤ 55987 := by decide

/-- What tells the numbers: the order in block b, the map in block m. -/
def signV (b m n : Nat) : Value := .agg #[.slice (some ⟨b, 0, none⟩) n n, .map (some m)]

theorem btw_none {zs : List Int} (h : VoP zs) {a b : Nat} (ha : a < zs.length) (hb : b < zs.length) (hl : leB zs a b = false) : btw zs a b = 0 := by
  refine bitB_ext (btw_bd h ha).1 (by omega) fun j => ?_
  rw [btw_bit h hb, bitB_zero]
  cases h1 : leB zs a j
  · rfl
  · cases h2 : leB zs j b
    · rfl
    · exfalso
      have : leB zs a b = true := by
        simp only [leB, Bool.or_eq_true, beq_iff_eq, upw_lt] at h1 h2 ⊢
        rcases h1 with rfl | h1
        · exact h2
        · rcases h2 with rfl | h2
          · exact .inr h1
          · exact .inr (h.trans h1 h2)
      rw [hl] at this; cases this
theorem btw_some {zs : List Int} (h : VoP zs) {a b : Nat} (hb : b < zs.length) (hl : leB zs a b = true) : (btw zs a b == 0) = false := by
  rw [beq_eq_false_iff_ne]
  intro e
  have := btw_bit h (a := a) hb a
  rw [e, bitB_zero, hl, show leB zs a a = true by simp [leB]] at this
  cases this
theorem less_muC {zs : List Int} (h : VoP zs) {a b : Nat} (hl : lt zs a b) (x : Nat) : bitB (lessI (btw zs a b) (powI (b : Int))) x = muC zs a b x := by
  have hb := h.lt_n hl
  have irr : ∀ c, upw zs c c = false := fun c => by
    cases e : upw zs c c
    · rfl
    · exact absurd (upw_lt.1 e) h.irr
  have hab : a ≠ b := fun e => h.irr (e ▸ hl)
  rw [bitB_less, btw_bit h hb, bitB_pow]
  unfold muC leB
  by_cases hxa : x = a
  · subst hxa
    simp [upw_lt.2 hl, show b ≠ x from fun e => hab e.symm]
  · by_cases hxb : x = b
    · subst hxb
      simp [irr, hxa]
    · have e1 : (a == x) = false := by simpa using fun e => hxa e.symm
      have e2 : (x == b) = false := by simpa using hxb
      have e3 : (x == a) = false := by simpa using hxa
      have e4 : decide (b = x) = false := by simpa using fun e => hxb e.symm
      rw [e1, e2, e3, e4]; simp
theorem lsum_mu {zs : List Int} (h : VoP zs) {a b : Nat} (hl : lt zs a b) : lsum (fun x => muI zs a x) (itemsL (lessI (btw zs a b) (powI (b : Int)))) = - muI zs a b := by
  have hb := btw_bd h (b := b) hl.1
  have h1 := lessI_bd (btw zs a b) (powI (b : Int))
  rw [← itemsTo_all (n := zs.length) (by omega) h.1, lsum_items, muI_rec h hl, Int.neg_neg]
  refine smTo_congr _ fun x _ => ?_
  rw [less_muC h hl]

set_option maxRecDepth 100000 in
theorem sof1_any (b m n S E a c x : Nat) (v : Int) (w : World) (R : World → Prop) (bS : w.heap[S]? = some (.cells #[Value.slice (some ⟨b, 0, none⟩) n n, .map (some m)] 49 (0, 0))) (bE : w.heap[E]? = some (.cells #[Value.int .i64 (a : Int), .int .i64 (c : Int)] 44 (0, 0)))
    (hrec : Calls Try.prog 47 #[signV b m n, endV a x] w fun e w' => e = .returned (.int .i64 v) ∧ R w') :
    Calls Try.prog 82 #[.int .i64 (x : Int), .pointer (some ⟨S, 0, none⟩), .pointer (some ⟨E, 0, none⟩)] w fun e w' => e = .returned (.int .i64 v) ∧ R w' := by
  have hc0 : w.cell? ⟨E, 0, none⟩ = some (.int .i64 (a : Int)) := by rw [cell_of_row _ _ 0 _ _ (0, 0) bE]; rfl
  unfold signV endV at hrec
  go_enter Try.func82, Try.ntmps82
  go_wp2_with (refine wpList_load_row rfl _ _ rfl S rfl _ _ (0, 0) _ bS Try.underlying49 rfl (by kernel_rfl) ?_)
  refine hrec.mono ?_
  rintro e w' ⟨rfl, hR⟩
  go_wp2_with fail
  go_ret
  exact ⟨rfl, hR⟩

set_option maxRecDepth 100000 in
set_option maxHeartbeats 4000000 in
theorem sof_any (zs : List Int) (hvo : VoP zs) (n : Nat) (hlen0 : zs.length = n) (b m : Nat) (hbm : b ≠ m) : ∀ (f a c k : Nat) (w : World), rank zs c < f → f ≤ 7 → a < n → c < n → Arr w b 57 zs → EMap zs w m k → k + ecost f ≤ 100000000 →
    Calls Try.prog 47 #[signV b m n, endV a c] w fun e w' => e = .returned (.int .i64 (muI zs a c)) ∧ EMap zs w' m (k + ecost f) ∧ Upd (fun i => i = m) w w'
  | 0, _, _, _, _, hr, _, _, _, _, _, _ => absurd hr (Nat.not_lt_zero _)
  | f + 1, a, c, k, w, hr, hf7, ha, hc, hA, hM, hk => by
    have ih := sof_any zs hvo n hlen0 b m hbm f
    have hlen := Lib.hid hlen0
    have hn6 : n ≤ 6 := by have := hvo.1; rw [hlen0] at this; exact this
    clear hlen0
    have hmb := muI_bd hvo.1 a c
    have hml := hM.lt
    have hbl := hA.lt
    have hkey := ekey_of (show a < 6 by omega) (show c < 6 by omega)
    have hM0 := hM
    have hec : ecost (f + 1) = 6 * ecost f + 1 := rfl
    have bS0 : ((w.alloc (.cells #[Value.slice (some ⟨b, 0, none⟩) n n, .map (some m)] 49)).alloc (.cells #[Value.int .i64 (a : Int), .int .i64 (c : Int)] 44)).heap[w.heap.size]? = some (.cells #[Value.slice (some ⟨b, 0, none⟩) n n, .map (some m)] 49 (0, 0)) := (Below.heap_alloc _ _ _ (by simp)).trans (heap_alloc_new w _)
    have bE0 : ((w.alloc (.cells #[Value.slice (some ⟨b, 0, none⟩) n n, .map (some m)] 49)).alloc (.cells #[Value.int .i64 (a : Int), .int .i64 (c : Int)] 44)).heap[w.heap.size + 1]? = some (.cells #[Value.int .i64 (a : Int), .int .i64 (c : Int)] 44 (0, 0)) := by
      have := heap_alloc_new (w.alloc (.cells #[Value.slice (some ⟨b, 0, none⟩) n n, .map (some m)] 49)) (.cells #[Value.int .i64 (a : Int), .int .i64 (c : Int)] 44)
      rwa [World.size_alloc] at this
    have hu0 : Upd (fun _ => False) w ((w.alloc (.cells #[Value.slice (some ⟨b, 0, none⟩) n n, .map (some m)] 49)).alloc (.cells #[Value.int .i64 (a : Int), .int .i64 (c : Int)] 44)) := ((Upd.refl _ w).alloc _).alloc _
    have hz0 : ((w.alloc (.cells #[Value.slice (some ⟨b, 0, none⟩) n n, .map (some m)] 49)).alloc (.cells #[Value.int .i64 (a : Int), .int .i64 (c : Int)] 44)).heap.size = w.heap.size + 2 := by simp
    have hcS0 : ((w.alloc (.cells #[Value.slice (some ⟨b, 0, none⟩) n n, .map (some m)] 49)).alloc (.cells #[Value.int .i64 (a : Int), .int .i64 (c : Int)] 44)).cell? ⟨w.heap.size, 0, none⟩ = some (.slice (some ⟨b, 0, none⟩) n n) := by rw [cell_of_row _ _ 0 _ _ (0, 0) bS0]; rfl
    unfold signV endV
    go_enter Try.func47, Try.ntmps47
    go_wp2_with (refine wpList_load_row rfl _ _ rfl (w.heap.size + 1) rfl _ _ (0, 0) _ bE0 Try.underlying44 rfl (by kernel_rfl) ?_)
    clear hcS0
    obtain ⟨W1, hW1⟩ : ∃ W1, ((w.alloc (.cells #[Value.slice (some ⟨b, 0, none⟩) n n, .map (some m)] 49)).alloc (.cells #[Value.int .i64 (a : Int), .int .i64 (c : Int)] 44)) = W1 := ⟨_, rfl⟩
    rw [hW1] at bS0 bE0 hu0 hz0 ⊢
    clear hW1
    have hA1 := hA.upd hu0 (fun e => e)
    refine (obetween_any _ n _ zs a c hvo W1 (hA1.ints' hA1.lt hlen.out) ha hc).mono ?_
    rintro e w2 ⟨rfl, hB2⟩
    have z2 := hB2.size
    have bS2 := (hB2.block w.heap.size (by omega)).trans bS0
    have bE2 := (hB2.block (w.heap.size + 1) (by omega)).trans bE0
    have hU2 : Upd (fun _ => False) w w2 := hu0.below hB2 (fun k h1 h2 => by omega)
    have hM2 := hM0.upd hU2 (fun e => e)
    have hc0 : w2.cell? ⟨w.heap.size + 1, 0, none⟩ = some (.int .i64 (a : Int)) := by rw [cell_of_row _ _ 0 _ _ (0, 0) bE2]; rfl
    have hc1 : w2.cell? ⟨w.heap.size + 1, 1, none⟩ = some (.int .i64 (c : Int)) := by rw [cell_of_row _ _ 1 _ _ (0, 0) bE2]; rfl
    have hcm : w2.cell? ⟨w.heap.size, 1, none⟩ = some (.map (some m)) := by rw [cell_of_row _ _ 1 _ _ (0, 0) bS2]; rfl
    clear bS0 bE0 hu0 hB2 hA1
    cases hle : leB zs a c
    · have Hb0 := Lib.hid (btw_none hvo (by rw [hlen.out]; exact ha) (by rw [hlen.out]; exact hc) hle)
      have Hmu := Lib.hid (mu_le hle)
      rw [Hb0.out]
      go_wp2_with fail
      go_ret
      exact ⟨ret_int Hmu.out.symm, hM2.mono (by omega), hU2.mono fun _ _ e => e.elim⟩
    · have hbs := btw_some hvo (by rw [hlen.out]; exact hc) hle
      by_cases hac : a = c
      · have Hmu := Lib.hid (show muI zs a c = 1 by rw [hac, muI_self])
        have hq : ((a : Int) == (c : Int)) = true := by rw [hac]; simp
        clear hac
        generalize btw zs a c = bt at *
        go_wp2_with fail
        go_ret
        exact ⟨ret_int Hmu.out.symm, hM2.mono (by omega), hU2.mono fun _ _ e => e.elim⟩
      · have hq : ((a : Int) == (c : Int)) = false := by simpa using (show ¬ (a : Int) = (c : Int) by omega)
        have hl : lt zs a c := by
          simp only [leB, Bool.or_eq_true, beq_iff_eq, upw_lt] at hle
          exact hle.resolve_left hac
        have hbb := btw_bd hvo (b := c) (show a < zs.length by rw [hlen.out]; exact ha)
        rw [hlen.out] at hbb
        have hpn := powI_le6 (n := (n : Int)) (by omega)
        have Hsum := Lib.hid (lsum_mu hvo hl)
        have hlb := lessI_bd (btw zs a c) (powI (c : Int))
        have Hmem := Lib.hid (show ∀ x ∈ itemsL (lessI (btw zs a c) (powI (c : Int))), x < n ∧ rank zs x < f from fun x hx => by
          have hx1 := (mem_itemsL (by omega)).1 hx
          refine ⟨bitB_lt (s := lessI (btw zs a c) (powI (c : Int))) (by omega) hx1, ?_⟩
          rw [less_muC hvo hl] at hx1
          simp only [muC, Bool.or_eq_true, beq_iff_eq, Bool.and_eq_true, upw_lt] at hx1
          rcases hx1 with rfl | ⟨_, h2⟩
          · have := rank_lt hvo hl; omega
          · have := rank_lt hvo h2; omega)
        have Hll := Lib.hid (show (itemsL (lessI (btw zs a c) (powI (c : Int)))).length ≤ 6 from by
          have := List.length_filter_le (fun j : Nat => bitB (lessI (btw zs a c) (powI (c : Int))) (j : Int)) (List.range 6)
          rw [List.length_range] at this
          exact this)
        have hcf := muI_bd hvo.1 a c
        have hM2' := hM2
        obtain ⟨D, hown, hin⟩ := hM2'
        have Hin := Lib.hid hin
        clear hin
        cases hh : Maps.has D (ekey a c)
        · go_wp2_with (first
            | (at_lookup; refine wpList_lookup_own_ok_int _ rfl _ _ _ rfl 44 3 .i64 ekeyed Try.underlying47 Try.underlying3 (ezero_int _) m k D rfl hown _ (ekey a c) rfl hkey ?_; rw [hh]; intro cc hat hwc)
            | (refine wpList_load_row rfl _ _ rfl (w.heap.size + 1) rfl _ _ (0, 0) _ bE2 Try.underlying44 rfl (by kernel_rfl) ?_))
          clear hat hwc hh
          have hwo := fun w => without_any (btw zs a c) (c : Int) w (by omega) (by omega) (by omega) (by omega)
          generalize hLL : lessI (btw zs a c) (powI (c : Int)) = LL at *
          clear hLL
          refine (hwo _).mono ?_
          rintro e w' ⟨rfl, rfl⟩
          go_wp2_with fail
          refine (each_any LL w2).mono ?_
          rintro e w' ⟨rfl, rfl⟩
          have bI3 := Boxed.new w2 57 (.int .i64 LL)
          have hU23 : Upd (fun _ => False) w2 (w2.alloc (.cells #[Value.int .i64 LL] 57)) := (Upd.refl _ w2).alloc _
          have hz3 : (w2.alloc (.cells #[Value.int .i64 LL] 57)).heap.size = w2.heap.size + 1 := by simp
          obtain ⟨W3, hW3⟩ : ∃ W3, w2.alloc (.cells #[Value.int .i64 LL] 57) = W3 := ⟨_, rfl⟩
          rw [hW3] at bI3 hU23 hz3 ⊢
          clear hW3
          have hU3 := hU2.trans' hU23 (fun i hi e => e)
          have bS3 := (hU23.block w.heap.size (by omega) (fun e => e)).trans bS2
          have bE3 := (hU23.block (w.heap.size + 1) (by omega) (fun e => e)).trans bE2
          have hA3 := hA.upd hU3 (fun e => e)
          have hM3 := hM2.upd hU23 (fun e => e)
          go_wp2_with fail
          refine (sumOver_any (gf := 103) (vf := 82) #[.pointer (some ⟨w2.heap.size, 0, none⟩)] #[.pointer (some ⟨w.heap.size, 0, none⟩), .pointer (some ⟨w.heap.size + 1, 0, none⟩)] (itemsL LL) (fun x => muI zs a x) W3 (fun i => i = m) (fun i e => by omega) (fun pre W => EMap zs W m (k + pre.length * ecost f))
            (enters_of Try.func103 (by kernel_rfl) rfl) (enters_of Try.func82 (by kernel_rfl) rfl)
            (fun pre hp => pre_small (B := 279936) (by omega) (by omega) (fun x => muI_bd hvo.1 a x) pre hp)
            (fun W1 M' hu1 hM' => each_iter LL (by omega) (by omega) w2.heap.size M' W1 (hu1.boxed bI3 (fun e => e)) (fun e => (hM' w2.heap.size e).elim (fun e => by omega) (fun e => by omega)))
            (fun pre x W hp hi hu => by
              obtain ⟨hxn, hxr⟩ := Hmem.out x (hp.subset (by simp))
              have hpl : pre.length + 1 ≤ 6 := by
                have h1 := hp.length_le
                have h2 := Hll.out
                simp at h1; omega
              have hmul : pre.length * ecost f ≤ 5 * ecost f := Nat.mul_le_mul_right _ (by omega)
              refine sof1_any b m n w.heap.size (w.heap.size + 1) a c x (muI zs a x) W _ ((hu.block w.heap.size (by omega) (by omega)).trans bS3) ((hu.block (w.heap.size + 1) (by omega) (by omega)).trans bE3) ?_
              refine (ih a x (k + pre.length * ecost f) W hxr (by omega) ha hxn (hA3.upd hu (fun e => hbm e)) hi (by omega)).mono fun e W' h => ⟨h.1, ?_, h.2.2⟩
              rw [List.length_append, List.length_singleton, Nat.add_mul, Nat.one_mul, ← Nat.add_assoc]
              exact h.2.1)
            (fun pre X Y hi hz hu => hi.upd hu (fun e => by omega))
            (by simpa using hM3)).mono ?_
          rw [Hsum.out]
          rintro e w4 ⟨rfl, hM4, hU4⟩
          have hmul : (itemsL LL).length * ecost f ≤ 6 * ecost f := Nat.mul_le_mul_right _ Hll.out
          have bS4 := (hU4.block w.heap.size (by omega) (by omega)).trans bS3
          have bE4 := (hU4.block (w.heap.size + 1) (by omega) (by omega)).trans bE3
          have hcm4 : w4.cell? ⟨w.heap.size, 1, none⟩ = some (.map (some m)) := by rw [cell_of_row _ _ 1 _ _ (0, 0) bS4]; rfl
          obtain ⟨D', hown', hin'⟩ := hM4
          have Hin' := Lib.hid hin'
          clear hin'
          have hneg : IntKind.i64.wrap (- - muI zs a c) = muI zs a c := by rw [IntKind.wrap_i64]; omega
          have hval := plainElem_int (H := Unit) (P := Try.prog) Try.underlying3 (show (Lit.int .i64 (muI zs a c)).wf = true by simp [Lit.wf, IntKind.min, IntKind.max, IntKind.signed, IntKind.bits]; omega)
          have hkM : k + (itemsL LL).length * ecost f < maxLen := by unfold maxLen; omega
          generalize hmu : muI zs a c = mu at *
          have Hmu := Lib.hid hmu
          clear hmu
          go_wp2_with (first
            | (at_mapUpdate; refine wpList_mapUpdate_own _ rfl _ _ _ _ rfl 44 3 ekeyed Try.underlying47 _ m _ D' rfl hown' hkM _ _ (ekey a c) rfl rfl hkey _ [] hval ?_; intro w5 hown5 hg5)
            | (refine wpList_load_row rfl _ _ rfl (w.heap.size + 1) rfl _ _ (0, 0) _ bE4 Try.underlying44 rfl (by kernel_rfl) ?_))
          go_ret
          exact ⟨ret_int Hmu.out.symm, (EMap.put (a := a) (b := c) (by omega) (by omega) Hin'.out hown'.isMap (by rw [Hmu.out]; exact hown5)).mono (by omega), ((hU3.mono fun _ _ e => e.elim).trans' hU4 (fun i hi e => e)).grown hg5 (fun i e => by cases e; exact .inr rfl)⟩
        · have Hat := Lib.hid (Hin.out a c (by omega) (by omega) hh)
          go_wp2_with (first
            | (at_lookup; refine wpList_lookup_own_ok_int _ rfl _ _ _ rfl 44 3 .i64 ekeyed Try.underlying47 Try.underlying3 (ezero_int _) m k D rfl hown _ (ekey a c) rfl hkey ?_; rw [hh]; intro cc hat hwc)
            | (refine wpList_load_row rfl _ _ rfl (w.heap.size + 1) rfl _ _ (0, 0) _ bE2 Try.underlying44 rfl (by kernel_rfl) ?_))
          go_ret
          refine ⟨ret_int ?_, hM2.mono (by omega), hU2.mono fun _ _ e => e.elim⟩
          have := Hat.out (.lit (.int .i64 0))
          rw [hat] at this
          injection this with this
          injection this
end Go.Proofs.Ytopfeebibphdgaa
